
/- The law UrlPrints, walked. -/
import Derived.Test.YthodckhihghbfaaDoorUrMay
import Derived.Test.YthodckhihghbfaaDoorUrLg
import Derived.Test.YthodckhihghbfaaDoorUrAwake
namespace Go.Proofs.YthodckhihghbfaaDoor
set_option linter.unusedVariables false
set_option linter.unusedSimpArgs false
open Go.RowKit Go.BigFrame
attribute [local go_sem ↓] loadU_eq

set_option maxHeartbeats 8000000 in
set_option maxRecDepth 100000 in
theorem prints_law (u : UrlV) (w : World) (hT : TabS w) : Calls Tryd.prog 4 #[.agg (ucs u)] w fun e w' => e = .returned (.bool true) ∧ Below w.heap.size w w' := by
  have HAW := hid awake7
  have HT := hid hT
  have HLG := hid (fun W => long_any u W)
  have HLA : Hid (∀ e, LongAns u e → ∃ b, e = .returned (.bool b) ∧ (b = false → LenU 4000 u)) := fun e h => h
  generalize LongAns u = LA at HLG HLA
  have l0 : (loadI 23 (.pointer (some ⟨w.heap.size, 0, none⟩))).run Tryd.prog (w.alloc (.cells (ucs u) 23)) = .ok (.agg (ucs u)) (w.alloc (.cells (ucs u) 23)) := loadU_row (heap_alloc_new w _)
  clear hT
  go_enter Tryd.func4, Tryd.ntmps4
  go_wp2_with fail
  refine (HLG.out _).mono ?_
  rintro e W1 ⟨hla, hb1⟩
  obtain ⟨b, rfl, hlen⟩ := HLA.out _ hla
  have HR1 := hid (row_keep hb1 (heap_alloc_new w _))
  have HB1 : Hid (Below w.heap.size w W1) := (alloc_below (Below.refl _ w) (Nat.le_refl _) _).trans (hb1.mono (by simp))
  have HLEN := hid hlen
  clear hb1 l0 hla hlen
  cases b with
  | true =>
    go_wp2_with fail
    refine (HAW.out _ (HT.out.below HB1.out)).mono ?_
    rintro e W2 ⟨rfl, hb2⟩
    have HB2 := hid (HB1.out.trans (hb2.mono HB1.out.size))
    clear hb2
    go_wp2_with fail
    go_ret
    exact ⟨rfl, HB2.out⟩
  | false =>
    have hu4 := HLEN.out rfl
    have hu : LenU 100000 u := ⟨Nat.le_trans hu4.scheme (by omega), Nat.le_trans hu4.user (by omega), Nat.le_trans hu4.host (by omega), Nat.le_trans hu4.port (by omega), Nat.le_trans hu4.path (by omega), Nat.le_trans hu4.query (by omega), Nat.le_trans hu4.frag (by omega)⟩
    have HPR := hid (fun W h => print_any u hu W h)
    have HCK := hid (fun W h => check_any7 u hu W h)
    have HMA := hid (fun W => refMay_any u hu W)
    have HJO := hid (fun W => refJoin_any u hu W)
    have HPA := hid (fun W h => parseUrl_any (joinU u) (join_len u hu) W h)
    rw [may_pr] at HMA
    have HPT := hid (pr_true u)
    have HS : Hid (prS u = if prOk u then asS (joinU u) else ⟨#[]⟩) := rfl
    have HE : Hid (prE u = if prOk u then 0 else 1) := rfl
    have hq := fun (W : World) => eqU u u W
    rw [eqUV_self] at hq
    have hg := guardU
    generalize hok : prOk u = ok at HMA HPT HS HE
    clear hok hu4 hu HLEN
    have l1 := loadU_row HR1.out
    cases ok with
    | false =>
      have e1 : prS u = ⟨#[]⟩ := HS.out
      have e2 : prE u = 1 := HE.out
      rw [e1, e2] at HPR
      rw [e2] at HCK
      clear e1 e2 HS HE HJO HPA HPT hq hg
      go_wp2_with fail
      refine (HPR.out _ (HT.out.below HB1.out)).mono ?_
      rintro e W2 ⟨rfl, hb2⟩
      have HR2 := hid (row_keep hb2 HR1.out)
      have HB2 := hid (HB1.out.trans (hb2.mono HB1.out.size))
      have l2 := loadU_row HR2.out
      clear hb2 l1
      go_wp2_with fail
      refine (HMA.out _).mono ?_
      rintro e W3 ⟨rfl, hb3⟩
      have HR3 := hid (row_keep hb3 HR2.out)
      have HB3 := hid (HB2.out.trans (hb3.mono HB2.out.size))
      have l3 := loadU_row HR3.out
      clear hb3 l2
      go_wp2_with fail
      refine (HCK.out _ (HT.out.below HB3.out)).mono ?_
      rintro e W4 ⟨rfl, hb4⟩
      have HB4 := hid (HB3.out.trans (hb4.mono HB3.out.size))
      clear hb4 l3
      go_wp2_with fail
      refine (HAW.out _ (HT.out.below HB4.out)).mono ?_
      rintro e W5 ⟨rfl, hb5⟩
      have HB5 := hid (HB4.out.trans (hb5.mono HB4.out.size))
      clear hb5
      go_wp2_with fail
      go_ret
      exact ⟨rfl, HB5.out⟩
    | true =>
      have e1 : prS u = asS (joinU u) := HS.out
      have e2 : prE u = 0 := HE.out
      have hpt := HPT.out rfl
      rw [e1, e2] at HPR
      rw [e2] at HCK
      rw [hpt.1, hpt.2] at HPA
      clear e1 e2 HS HE HPT hpt
      generalize asS (joinU u) = S at HPR HJO HPA
      go_wp2_with fail
      refine (HPR.out _ (HT.out.below HB1.out)).mono ?_
      rintro e W2 ⟨rfl, hb2⟩
      have HR2 := hid (row_keep hb2 HR1.out)
      have HB2 := hid (HB1.out.trans (hb2.mono HB1.out.size))
      have l2 := loadU_row HR2.out
      clear hb2 l1
      go_wp2_with fail
      refine (HMA.out _).mono ?_
      rintro e W3 ⟨rfl, hb3⟩
      have HR3 := hid (row_keep hb3 HR2.out)
      have HB3 := hid (HB2.out.trans (hb3.mono HB2.out.size))
      clear hb3 l2
      go_wp2_with fail
      refine (HPA.out _ (HT.out.below HB3.out)).mono ?_
      rintro e W4 ⟨rfl, hb4⟩
      have HR4 := hid (row_keep hb4 HR3.out)
      have HB4 := hid (HB3.out.trans (hb4.mono HB3.out.size))
      clear hb4
      go_wp2_with (first
        | (refine store_url rfl _ _ rfl W4.heap.size u rfl rfl _ (heap_alloc_new W4 _) rfl ?_)
        | fail)
      intro W5 hO5 hW5
      have HB5 : Hid (Below w.heap.size w W5) := (alloc_below HB4.out HB4.out.size _).trans (hO5.below HB4.out.size)
      have HV5 := hid hW5
      have HR5 := hid ((hO5.block _ (by have := row_lt HR4.out; omega)).trans ((Below.heap_alloc _ _ _ (row_lt HR4.out)).trans HR4.out))
      have l5 := loadU_row HR5.out
      clear hO5 hW5
      go_wp2_with fail
      refine (HCK.out _ (HT.out.below HB5.out)).mono ?_
      rintro e W6 ⟨rfl, hb6⟩
      have HR6 := hid (row_keep hb6 HR5.out)
      have HV6 := hid (row_keep hb6 HV5.out)
      have HB6 := hid (HB5.out.trans (hb6.mono HB5.out.size))
      have l6 := loadU_row HR6.out
      clear hb6 l5
      go_wp2_with fail
      refine (HJO.out _).mono ?_
      rintro e W7 ⟨rfl, hb7⟩
      have k1 := loadU_row (row_keep hb7 HR6.out)
      have k2 := loadU_row (row_keep hb7 HV6.out)
      have HB7 := hid (HB6.out.trans (hb7.mono HB6.out.size))
      clear hb7 l6
      go_wp2_with fail
      refine (HAW.out _ (HT.out.below HB7.out)).mono ?_
      rintro e W8 ⟨rfl, hb8⟩
      have HB8 := hid (HB7.out.trans (hb8.mono HB7.out.size))
      clear hb8 k1 k2
      go_wp2_with fail
      go_ret
      exact ⟨rfl, HB8.out⟩
end Go.Proofs.YthodckhihghbfaaDoor
