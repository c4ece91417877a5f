
/- The law PathOwn, walked. -/
import Derived.Test.YtlblefcmilfjdaaGreatDoorPaRD
import Derived.Test.YtlblefcmilfjdaaGreatDoorPaShape
import Derived.Test.YtlblefcmilfjdaaGreatDoorPaLg
namespace Go.Proofs.YtlblefcmilfjdaaGreatDoor
set_option linter.unusedVariables false
set_option linter.unusedSimpArgs false
open Go.RowKit Go.BigFrame
attribute [local go_sem ↓] loadU_eq

theorem zero_ok : prOk zeroU = true := by kernel_rfl
theorem zero_len : LenU 40000 zeroU := ⟨by decide, by decide, by decide, by decide, by decide, by decide, by decide⟩
theorem own_none (u : UrlV) (h : prOk u = true) (hs : u.scheme ≠ []) : resU u zeroU = (noFrag u, 0) := by
  have hag : againstU u zeroU = noFrag u := rfl
  have h1 := pr_frag u h
  have h2 := (pr_ok _ h1).1
  have h3 := size_join (noFrag u) hs
  unfold resU
  rw [h, zero_ok, hag, decide_eq_false hs, if_pos (show (true && (true && !false)) = true from rfl), if_neg (by omega), h1, if_pos rfl]
theorem own_self (u : UrlV) (h : prOk u = true) (hs : u.scheme ≠ []) : resU u u = if prOk { u with path := dotsU u.path } then ({ u with path := dotsU u.path }, 0) else (zeroU, 1) := by
  have hag : againstU u u = { u with path := dotsU u.path } := by
    unfold againstU
    rw [if_pos (.inl hs)]
    have : orU u.scheme u.scheme = u.scheme := by unfold orU; rw [if_neg hs]
    rw [this]
  have h2 := (pr_ok _ h).1
  have h3 := size_join { u with path := dotsU u.path } hs
  have h4 := join_dots u
  unfold resU
  rw [h, hag, decide_eq_false hs, if_pos (show (true && (true && !false)) = true from rfl), if_neg (by omega)]
set_option maxHeartbeats 8000000 in
set_option maxRecDepth 100000 in
theorem own_law (u : UrlV) (w : World) (hT : TabX w) : Calls Tryz.prog 5 #[.agg (ucs u)] w fun e w' => e = .returned (.bool true) ∧ Below w.heap.size w w' := by
  have HAW := hid awake8
  have HT := hid hT
  have HLG := hid (fun W => long_any u W)
  have HLA : Hid (∀ e, LongAns u e → ∃ b, e = .returned (.bool b) ∧ (b = false → LenU 3000 u)) := fun e h => h
  generalize LongAns u = LA at HLG HLA
  have l0 : (loadI 26 (.pointer (some ⟨w.heap.size, 0, none⟩))).run Tryz.prog (w.alloc (.cells (ucs u) 26)) = .ok (.agg (ucs u)) (w.alloc (.cells (ucs u) 26)) := loadU_row (heap_alloc_new w _)
  clear hT
  go_enter Tryz.func5, Tryz.ntmps5
  go_wp2_with fail
  refine (HLG.out _).mono ?_
  rintro e W1 ⟨hla, hb1⟩
  obtain ⟨b, rfl, hlen⟩ := HLA.out _ hla
  have HR1 := hid (row_keep hb1 (heap_alloc_new w _))
  have HB1 : Hid (Below w.heap.size w W1) := (alloc_below (Below.refl _ w) (Nat.le_refl _) _).trans (hb1.mono (by simp))
  have HLEN := hid hlen
  clear hb1 l0 hla hlen
  cases b with
  | true =>
    go_wp2_with fail
    refine (HAW.out _ (HT.out.below HB1.out)).mono ?_
    rintro e W2 ⟨rfl, hb2⟩
    have HB2 := hid (HB1.out.trans (hb2.mono HB1.out.size))
    clear hb2
    go_wp2_with fail
    go_ret
    exact ⟨rfl, HB2.out⟩
  | false =>
    have hu3 := HLEN.out rfl
    have HMA := hid (fun W => refMay_any u (hu3.more (by omega)) W)
    rw [may_pr] at HMA
    have HL := hid hu3
    have es := emp8 u.scheme
    have HON := hid (own_none u)
    have HOS := hid (own_self u)
    have l1 := loadU_row HR1.out
    generalize hok : prOk u = ok at HMA HON HOS
    clear hok hu3 HLEN
    go_wp2_with fail
    refine (HMA.out _).mono ?_
    rintro e W2 ⟨rfl, hb2⟩
    have HR2 := hid (row_keep hb2 HR1.out)
    have HB2 := hid (HB1.out.trans (hb2.mono HB1.out.size))
    clear hb2 l1
    cases ok with
    | false =>
      go_wp2_with fail
      refine (HAW.out _ (HT.out.below HB2.out)).mono ?_
      rintro e W3 ⟨rfl, hb3⟩
      have HB3 := hid (HB2.out.trans (hb3.mono HB2.out.size))
      clear hb3
      go_wp2_with fail
      go_ret
      exact ⟨rfl, HB3.out⟩
    | true =>
      have c0 := cellU HR2.out 0 (.string (asS u.scheme)) rfl
      by_cases hs : u.scheme = []
      · rw [decide_eq_true hs] at es
        generalize asS u.scheme = SS at es c0
        clear hs
        go_wp2_with fail
        refine (HAW.out _ (HT.out.below HB2.out)).mono ?_
        rintro e W3 ⟨rfl, hb3⟩
        have HB3 := hid (HB2.out.trans (hb3.mono HB2.out.size))
        clear hb3
        go_wp2_with fail
        go_ret
        exact ⟨rfl, HB3.out⟩
      · rw [decide_eq_false hs] at es
        have H40 := HL.out.more (m := 40000) (by omega)
        have HRZ : Hid (∀ W, TabS W → Calls Tryz.prog 18 #[.agg (ucs u), .agg (ucs zeroU)] W fun e w' => e = .returned (.tuple #[.agg (ucs (noFrag u)), .int .i64 0]) ∧ Below W.heap.size W w') := fun W h => by
          have := resolve_any u zeroU H40 zero_len W h
          rw [HON.out rfl hs] at this
          exact this
        have HRS := hid (fun W h => resolve_any u u H40 H40 W h)
        rw [HOS.out rfl hs] at HRS
        have HRD := hid (fun W => refDots_any u.path (by have := HL.out.path; omega) W)
        have HDL : LenU 100000 { u with path := dotsU u.path } := ⟨by have := HL.out.scheme; simp only; omega, by have := HL.out.user; simp only; omega, by have := HL.out.host; simp only; omega, by have := HL.out.port; simp only; omega, by have := HL.out.path; have := dots_len u.path; simp only; omega, by have := HL.out.query; simp only; omega, by have := HL.out.frag; simp only; omega⟩
        have HMD := hid (fun W => refMay_any { u with path := dotsU u.path } HDL W)
        rw [may_pr] at HMD
        generalize asS u.scheme = SS at es c0
        have HDD : Hid (∀ v, v = .string (asS (dotsU u.path)) → (ucs u).setIfInBounds 7 v = ucs { u with path := dotsU u.path }) := fun v h => by rw [h]; rfl
        generalize hD : ({ u with path := dotsU u.path } : UrlV) = D at HRS HMD HDD
        clear hs H40 HON HOS HL HDL hD
        have l2 := loadU_row HR2.out
        have hg := guardU
        go_wp2_with (first
          | (refine wpList_built rfl 26 _ rfl (ucs zeroU) built_urlZ ?_)
          | fail)
        refine (HRZ.out _ (HT.out.below HB2.out).tab).mono ?_
        rintro e W3 ⟨rfl, hb3⟩
        have HR3 := hid (row_keep hb3 HR2.out)
        have HB3 := hid (HB2.out.trans (hb3.mono HB2.out.size))
        clear hb3 l2 c0
        go_wp2_with (first
          | (refine store_url rfl _ _ rfl W3.heap.size (noFrag u) rfl rfl _ (heap_alloc_new W3 _) rfl ?_)
          | fail)
        intro W4 hO4 hW4
        obtain ⟨g3, hg3⟩ : ∃ g, g = W3.heap.size := ⟨_, rfl⟩
        have hg1 : w.heap.size < g3 := by have := row_lt HR3.out; omega
        rw [← hg3] at hO4 hW4 ⊢
        have HR4 : Hid (W4.heap[w.heap.size]? = some (.cells (ucs u) 26 (0, 0))) := (hO4.block _ (by omega)).trans (heap_old HR3.out)
        have HB4 : Hid (Below w.heap.size w W4) := (alloc_below HB3.out HB3.out.size _).trans (hO4.below (by omega))
        have HN4 := hid hW4
        have l4 := loadU_row HR4.out
        clear hO4 hW4 hg3
        go_wp2_with (first
          | (refine store_url rfl _ _ rfl W4.heap.size u rfl rfl _ (heap_alloc_new W4 _) rfl ?_)
          | fail)
        intro W5 hO5 hW5
        obtain ⟨g5, hg5⟩ : ∃ g, g = W4.heap.size := ⟨_, rfl⟩
        have hg2 : g3 < g5 := by have := row_lt HN4.out; omega
        rw [← hg5] at hO5 hW5 ⊢
        have HR5 : Hid (W5.heap[w.heap.size]? = some (.cells (ucs u) 26 (0, 0))) := (hO5.block _ (by omega)).trans (heap_old HR4.out)
        have HN5 : Hid (W5.heap[g3]? = some (.cells (ucs (noFrag u)) 26 (0, 0))) := (hO5.block _ (by omega)).trans (heap_old HN4.out)
        have HB5 : Hid (Below w.heap.size w W5) := (alloc_below HB4.out HB4.out.size _).trans (hO5.below (by omega))
        have HW5 := hid hW5
        clear hO5 hW5 l4 hg5
        go_wp2_with (first
          | (refine store_fld rfl 4 _ _ rfl g5 11 (.bool false) u { u with hasFrag := false } rfl rfl info4 (by omega) rfl rfl HW5.out rfl ?_)
          | fail)
        intro W6 hO6 hW6
        have HR6 := hid ((hO6.block w.heap.size (by omega)).trans HR5.out)
        have HN6 := hid ((hO6.block g3 (by omega)).trans HN5.out)
        have HB6 := hid (HB5.out.trans (hO6.below (B := w.heap.size) (by omega)))
        have HW6 := hid hW6
        clear hO6 hW6
        go_wp2_with (first
          | (refine store_fld rfl 9 _ _ rfl g5 10 (.string ⟨#[]⟩) { u with hasFrag := false } (noFrag u) rfl rfl info9 (by omega) rfl rfl HW6.out rfl ?_)
          | fail)
        intro W7 hO7 hW7
        have HR7 := hid ((hO7.block w.heap.size (by omega)).trans HR6.out)
        have HN7 := hid ((hO7.block g3 (by omega)).trans HN6.out)
        have HB7 := hid (HB6.out.trans (hO7.below (B := w.heap.size) (by omega)))
        have HW7 := hid hW7
        have k1 := loadU_row HN7.out
        have k2 := loadU_row hW7
        have l7 := loadU_row HR7.out
        have hq := fun (W : World) => eqU (noFrag u) (noFrag u) W
        rw [eqUV_self] at hq
        clear hO7 hW7
        have hqD := fun (W : World) => eqU D D W
        rw [eqUV_self] at hqD
        have HQD := hid hqD
        clear hqD
        go_wp2_with fail
        refine (HRS.out _ (HT.out.below HB7.out).tab).mono ?_
        rintro e W8 ⟨rfl, hb8⟩
        have HR8 := hid (row_keep hb8 HR7.out)
        have HW8 := hid (row_keep hb8 HW7.out)
        have HB8 := hid (HB7.out.trans (hb8.mono HB7.out.size))
        clear hb8 k1 k2 l7 hq
        generalize hk : prOk D = k at HMD ⊢
        clear hk
        have hg6 : g5 < W8.heap.size := row_lt HW8.out
        cases k with
        | false =>
          go_wp2_with (first
            | (refine store_url rfl _ _ rfl W8.heap.size zeroU rfl rfl _ (heap_alloc_new W8 _) rfl ?_)
            | fail)
          intro W9 hO9 hW9
          obtain ⟨g6, hg6e⟩ : ∃ g, g = W8.heap.size := ⟨_, rfl⟩
          rw [← hg6e] at hO9 hW9 hg6 ⊢
          have HR9 : Hid (W9.heap[w.heap.size]? = some (.cells (ucs u) 26 (0, 0))) := (hO9.block _ (by omega)).trans (heap_old HR8.out)
          have HV9 : Hid (W9.heap[g5]? = some (.cells (ucs (noFrag u)) 26 (0, 0))) := (hO9.block _ (by omega)).trans (heap_old HW8.out)
          have HB9 : Hid (Below w.heap.size w W9) := (alloc_below HB8.out HB8.out.size _).trans (hO9.below (by omega))
          have HX9 := hid hW9
          have l9 := loadU_row HR9.out
          clear hO9 hW9 hg6e
          go_wp2_with (first
            | (refine store_url rfl _ _ rfl g5 u rfl rfl _ HV9.out rfl ?_)
            | fail)
          intro W10 hO10 hW10
          have HX10 := hid ((hO10.block g6 (by omega)).trans HX9.out)
          have hr10 := (hO10.block w.heap.size (by omega)).trans HR9.out
          have HB10 := hid (HB9.out.trans (hO10.below (B := w.heap.size) (by omega)))
          have c7 := cellU hr10 7 (.string (asS u.path)) rfl
          have HV10 := hid hW10
          clear hO10 hW10 l9 hr10
          go_wp2_with fail
          refine (HRD.out _).mono ?_
          rintro e W11 ⟨rfl, rfl⟩
          clear c7
          go_wp2_with (first
            | (refine store_fld rfl 9 _ _ rfl g5 7 (.string (asS (dotsU u.path))) u D rfl rfl info9 (by omega) rfl rfl HV10.out (HDD.out _ rfl) ?_)
            | fail)
          intro W12 hO12 hW12
          have HX12 := hid ((hO12.block g6 (by omega)).trans HX10.out)
          have HB12 := hid (HB10.out.trans (hO12.below (B := w.heap.size) (by omega)))
          have HV12 := hid hW12
          have l12 := loadU_row hW12
          clear hO12 hW12
          go_wp2_with fail
          refine (HMD.out _).mono ?_
          rintro e W13 ⟨rfl, hb13⟩
          have HB13 := hid (HB12.out.trans (hb13.mono HB12.out.size))
          clear hb13 l12
          go_wp2_with fail
          refine (HAW.out _ (HT.out.below HB13.out)).mono ?_
          rintro e W14 ⟨rfl, hb14⟩
          have HB14 := hid (HB13.out.trans (hb14.mono HB13.out.size))
          clear hb14
          go_wp2_with fail
          go_ret
          exact ⟨rfl, HB14.out⟩
        | true =>
          go_wp2_with (first
            | (refine store_url rfl _ _ rfl W8.heap.size D rfl rfl _ (heap_alloc_new W8 _) rfl ?_)
            | fail)
          intro W9 hO9 hW9
          obtain ⟨g6, hg6e⟩ : ∃ g, g = W8.heap.size := ⟨_, rfl⟩
          rw [← hg6e] at hO9 hW9 hg6 ⊢
          have HR9 : Hid (W9.heap[w.heap.size]? = some (.cells (ucs u) 26 (0, 0))) := (hO9.block _ (by omega)).trans (heap_old HR8.out)
          have HV9 : Hid (W9.heap[g5]? = some (.cells (ucs (noFrag u)) 26 (0, 0))) := (hO9.block _ (by omega)).trans (heap_old HW8.out)
          have HB9 : Hid (Below w.heap.size w W9) := (alloc_below HB8.out HB8.out.size _).trans (hO9.below (by omega))
          have HX9 := hid hW9
          have l9 := loadU_row HR9.out
          clear hO9 hW9 hg6e
          go_wp2_with (first
            | (refine store_url rfl _ _ rfl g5 u rfl rfl _ HV9.out rfl ?_)
            | fail)
          intro W10 hO10 hW10
          have HX10 := hid ((hO10.block g6 (by omega)).trans HX9.out)
          have hr10 := (hO10.block w.heap.size (by omega)).trans HR9.out
          have HB10 := hid (HB9.out.trans (hO10.below (B := w.heap.size) (by omega)))
          have c7 := cellU hr10 7 (.string (asS u.path)) rfl
          have HV10 := hid hW10
          clear hO10 hW10 l9 hr10
          go_wp2_with fail
          refine (HRD.out _).mono ?_
          rintro e W11 ⟨rfl, rfl⟩
          clear c7
          go_wp2_with (first
            | (refine store_fld rfl 9 _ _ rfl g5 7 (.string (asS (dotsU u.path))) u D rfl rfl info9 (by omega) rfl rfl HV10.out (HDD.out _ rfl) ?_)
            | fail)
          intro W12 hO12 hW12
          have HX12 := hid ((hO12.block g6 (by omega)).trans HX10.out)
          have HB12 := hid (HB10.out.trans (hO12.below (B := w.heap.size) (by omega)))
          have HV12 := hid hW12
          have l12 := loadU_row hW12
          clear hO12 hW12
          go_wp2_with fail
          refine (HMD.out _).mono ?_
          rintro e W13 ⟨rfl, hb13⟩
          have HB13 := hid (HB12.out.trans (hb13.mono HB12.out.size))
          have k1 := loadU_row (row_keep hb13 HX12.out)
          have k2 := loadU_row (row_keep hb13 HV12.out)
          have hq := HQD.out
          clear hb13 l12
          go_wp2_with fail
          refine (HAW.out _ (HT.out.below HB13.out)).mono ?_
          rintro e W14 ⟨rfl, hb14⟩
          have HB14 := hid (HB13.out.trans (hb14.mono HB13.out.size))
          clear hb14
          go_wp2_with fail
          go_ret
          exact ⟨rfl, HB14.out⟩
end Go.Proofs.YtlblefcmilfjdaaGreatDoor
