
/- The law CidrSafe, walked. -/
import Derived.Test.YtocdjgehjiolhaaCiAwake
import Derived.Test.YtocdjgehjiolhaaIpRefM
import Derived.Test.YtocdjgehjiolhaaIpELaw0
namespace Go.Proofs.Ytocdjgehjiolhaa
open Go.RowKit Go.BigFrame
attribute [local go_sem ↓] loadA_eq loadN_eq

theorem loadN_re {w : World} {b o : Nat} {n : NetV} (hb : b < w.heap.size) (hB : n.B.length = 16) (h : w.rangeAt b o (nvs n)) (d : Nat) (os : Array Obj) : (loadI 26 (.pointer (some ⟨b, o, none⟩))).run Try.prog (Sort.grow (redrawn w d) os) = .ok (.agg (ncs n)) (Sort.grow (redrawn w d) os) :=
  loadN_range hB fun i v hv => ((below_regrown w d os).cell (p := ⟨b, o + i, none⟩) hb).trans (h i v hv)
theorem forb_at {V : World} {g : Nat} (h : V.heap[g]? = some (.cells forbCells.toArray 26 (0, 0))) (j : Nat) (hj : j < 26) : ∃ n ∈ forbL, n.B.length = 16 ∧ ∀ W, Below V.heap.size V W → g < W.heap.size ∧ W.rangeAt g (j * 18) (nvs n) := by
  have hl : forbL.length = 26 := rfl
  have hg : g < V.heap.size := (Array.getElem?_eq_some_iff.1 h).1
  refine ⟨forbL[j], List.getElem_mem _, forb16 _ (List.getElem_mem _), fun W hW => ⟨Nat.lt_of_lt_of_le hg hW.size, ?_⟩⟩
  rcases (forb_nets h).below hW (Nat.le_refl _) with ⟨h, _⟩ | ⟨b', off, c, h1, h2, h3⟩
  · rw [h] at hl; cases hl
  · injection h1 with h4 h5 h6
    injection h4 with h4
    injection h4 with h7 h8
    have := h3 j forbL[j] (List.getElem?_eq_getElem (by rw [hl]; exact hj))
    rw [← h7, ← h8, Nat.zero_add] at this
    exact this
abbrev LDN (V : World) (b o : Nat) (X : Array Value) : Prop := ∀ d os, (loadI 26 (.pointer (some ⟨b, o, none⟩))).run Try.prog (Sort.grow (redrawn V d) os) = .ok (.agg X) (Sort.grow (redrawn V d) os)
set_option maxHeartbeats 4000000 in
theorem safe_law (v : Bool) (B : List UInt8) (hB : B.length = 16) (w : World) : Calls Try.prog 5 #[.agg (acs v B)] w fun e w' => e = .returned (.bool true) ∧ Below w.heap.size w w' := by
  have H1 := hid (fun W => allow_nil v B hB W)
  have HF := hid forbidden_any
  have HAW := hid awake6
  have HE := hid (fun W => refEmb_any v B hB W)
  have HEL := hid (ansE_len v B)
  have HS1 : Hid (allowV v B [] = 0 → ∀ n ∈ forbL, hasR n v B = false) := fun h n hn => by
    unfold hasR
    rw [in_false (safe_self v B h).1 n hn, Bool.and_false]
  have HS2 : Hid (allowV v B [] = 0 → (embO v B).isSome = true → ∀ n ∈ forbL, hasR n false (ansB (embO v B)) = false) := fun h hs n hn => by
    cases he : embO v B with
    | none => rw [he] at hs; cases hs
    | some C =>
      unfold hasR
      show (mayV n && mayB false C && hasV n false C) = false
      rw [in_false ((safe_self v B h).2 C he) n hn, Bool.and_false]
  have HH1 : Hid (∀ n, n.B.length = 16 → ∀ W, Calls Try.prog 7 #[.agg (ncs n), .agg (acs v B)] W fun e w' => e = .returned (.bool (hasR n v B)) ∧ Below W.heap.size W w') := fun n hn W => has_any n hn v B hB W
  have HH2 : Hid (∀ n, n.B.length = 16 → ∀ W, Calls Try.prog 7 #[.agg (ncs n), .agg (acs false (ansB (embO v B)))] W fun e w' => e = .returned (.bool (hasR n false (ansB (embO v B)))) ∧ Below W.heap.size W w') := fun n hn W => has_any n hn false _ HEL.out W
  have HFA : Hid (∀ (V : World) (g : Nat), V.heap[g]? = some (.cells forbCells.toArray 26 (0, 0)) → ∀ j, j < 26 → ∃ n ∈ forbL, n.B.length = 16 ∧ ∀ W, Below V.heap.size V W → g < W.heap.size ∧ W.rangeAt g (j * 18) (nvs n)) := fun V g h j hj => forb_at h j hj
  have HLA : Hid (∀ {W : World} {g : Nat}, W.heap[g]? = some (.cells (acs v B) 24 (0, 0)) → (loadI 24 (.pointer (some ⟨g, 0, none⟩))).run Try.prog W = .ok (.agg (acs v B)) W ∧ LDA W g (acs v B)) := fun h => ⟨loadA_row hB h, fun d os => loadA_re hB h d os⟩
  have HLE : Hid (∀ {W : World} {g : Nat}, W.heap[g]? = some (.cells (acs false (ansB (embO v B))) 24 (0, 0)) → LDA W g (acs false (ansB (embO v B)))) := fun h d os => loadA_re HEL.out h d os
  generalize allowV v B [] = R at H1 HS1 HS2
  generalize (embO v B).isSome = eb at HE HS2
  generalize ansB (embO v B) = EB at HE HEL HH2 HS2 HLE
  generalize acs v B = X at H1 HE HH1 HLA ⊢
  generalize forbCells.toArray = FC at HF HFA
  have l0 : (loadI 24 (.pointer (some ⟨w.heap.size, 0, none⟩))).run Try.prog (w.alloc (.cells X 24)) = .ok (.agg X) (w.alloc (.cells X 24)) := (HLA.out (heap_alloc_new w _)).1
  go_enter Try.func5, Try.ntmps5
  go_wp2_with fail
  refine (H1.out _).mono ?_
  rintro e W1 ⟨rfl, hb1⟩
  obtain ⟨r1, b1, z1⟩ := row1 hb1
  have HR1 := hid r1; have HB1 := hid b1
  clear hb1 r1 b1 l0
  by_cases hR : R = 0
  case neg =>
    have hR2 : (R == 0) = false := by simpa using hR
    have HRN := hid hR
    clear hR
    go_wp2_with fail
    refine (HAW.out _).mono ?_
    rintro e W2 ⟨rfl, hb2⟩
    go_wp2_with fail
    go_ret
    exact ⟨rfl, HB1.out.trans (hb2.mono HB1.out.size)⟩
  subst hR
  have HS1' := hid (HS1.out rfl)
  have HS2' := hid (HS2.out rfl)
  clear HS1 HS2
  go_wp2_with fail
  refine (HF.out _).mono ?_
  rintro e V ⟨g, rfl, hge, hrow, hb⟩
  have HBV : Hid (Below w.heap.size w V) := HB1.out.trans (hb.mono HB1.out.size)
  have HRV : Hid (V.heap[w.heap.size]? = some (.cells X 24 (0, 0))) := (hb.block _ z1).trans HR1.out
  have HG := hid hrow
  have zV : w.heap.size < V.heap.size := Nat.lt_of_lt_of_le z1 hb.size
  have zg : g < V.heap.size := (Array.getElem?_eq_some_iff.1 hrow).1
  clear hb hrow hge HR1 HB1
  go_wp2_with fail
  go_loopw [4, 5, 6] (fun iv _ _ wr => ∃ k : Nat, k ≤ 26 ∧ iv = .int .i64 (k : Int) ∧ Hid (Below V.heap.size V wr)) (fun i _ _ _ => 26 - (intOf i).toNat)
  case atStart => exact ⟨0, by omega, rfl, Below.refl _ _⟩
  case round =>
    obtain ⟨k, hk, rfl, HB⟩ := hrel
    by_cases hk26 : (k : Int) < 26
    · obtain ⟨n, hn, hn16, hrg⟩ := HFA.out V g HG.out k (by omega)
      have HLN : Hid (∀ W, Below V.heap.size V W → LDN W g (k * 18) (ncs n)) := fun W hW d os => loadN_re (hrg W hW).1 hn16 (hrg W hW).2 d os
      have k1 : LDN wr g (k * 18) (ncs n) := HLN.out wr HB.out
      have k2 : LDA wr w.heap.size X := (HLA.out ((HB.out.block _ zV).trans HRV.out)).2
      have HC1 := hid (HH1.out n hn16)
      rw [HS1'.out n hn] at HC1
      have HC2 := hid (HH2.out n hn16)
      have HNE := hid (fun he => HS2'.out he n hn)
      clear hrg
      generalize ncs n = NX at k1 HC1 HC2 HLN
      have c1 : REG 7 #[.agg NX, .agg X] wr (.bool false) := fun d os => Calls.regrown_of (HC1.out _)
      go_wp2_with fail
      refine wp_region_quiet_below (by kernel_rfl) (by kernel_rfl) ?_
      repeat (go_big_quiet_step (first | (go_at_call 7; exact c1 _ _)))
      refine wpQuiet_nil ?_
      rintro Wa ⟨⟨dq, osq⟩, hw⟩
      have HBa : Hid (Below V.heap.size V Wa) := by rw [hw]; exact HB.out.trans ((below_regrown wr dq osq).mono HB.out.size)
      clear hw k1 k2 c1
      have l1 := (HLA.out ((HBa.out.block _ zV).trans HRV.out)).1
      go_wp2_with fail
      refine (HE.out _).mono ?_
      rintro e Wb ⟨rfl, hbb⟩
      have HBb : Hid (Below V.heap.size V Wb) := HBa.out.trans (hbb.mono HBa.out.size)
      clear hbb l1
      go_wp2_with (first
        | (refine store_addr rfl _ _ rfl Wb.heap.size false EB HEL.out rfl rfl _ (heap_alloc_new Wb _) rfl ?_)
        | fail)
      intro Wc hOc hWc
      have HBc : Hid (Below V.heap.size V Wc) := (alloc_below HBb.out HBb.out.size _).trans (hOc.below HBb.out.size)
      have k3 : LDA Wc Wb.heap.size (acs false EB) := HLE.out hWc
      have k4 : LDN Wc g (k * 18) NX := HLN.out Wc HBc.out
      clear hOc hWc
      cases eb
      · go_wp2_with fail
        refine wp_region_quiet_below (by kernel_rfl) (by kernel_rfl) ?_
        repeat (go_big_quiet_step (fail))
        refine wpQuiet_nil ?_
        rintro Wd ⟨⟨dq, osq⟩, hw⟩
        have HBd : Hid (Below V.heap.size V Wd) := by rw [hw]; exact HBc.out.trans ((below_regrown Wc dq osq).mono HBc.out.size)
        clear hw k3 k4
        go_wp2_with fail
        go_roundw
        case rel => exact ⟨k + 1, by omega, by go_num, HBd⟩
        case measure => simp [intOf]; omega
      · have hne := HNE.out rfl
        rw [hne] at HC2
        clear hne
        have c2 : REG 7 #[.agg NX, .agg (acs false EB)] Wc (.bool false) := fun d os => Calls.regrown_of (HC2.out _)
        go_wp2_with fail
        refine wp_region_quiet_below (by kernel_rfl) (by kernel_rfl) ?_
        repeat (go_big_quiet_step (first | (go_at_call 7; exact c2 _ _)))
        refine wpQuiet_nil ?_
        rintro Wd ⟨⟨dq, osq⟩, hw⟩
        have HBd : Hid (Below V.heap.size V Wd) := by rw [hw]; exact HBc.out.trans ((below_regrown Wc dq osq).mono HBc.out.size)
        clear hw k3 k4 c2
        go_wp2_with fail
        go_roundw
        case rel => exact ⟨k + 1, by omega, by go_num, HBd⟩
        case measure => simp [intOf]; omega
    · have hk' : k = 26 := by omega
      subst hk'
      go_wp2_with fail
      refine (HAW.out _).mono ?_
      rintro e W9 ⟨rfl, hb9⟩
      go_wp2_with fail
      go_ret
      exact ⟨rfl, HBV.out.trans ((HB.out.trans (hb9.mono HB.out.size)).mono HBV.out.size)⟩
end Go.Proofs.Ytocdjgehjiolhaa
