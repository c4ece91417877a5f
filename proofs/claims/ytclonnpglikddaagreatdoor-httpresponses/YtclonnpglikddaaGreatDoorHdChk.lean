
/- Whether headers may be: what together and Check of package header do, and the reference's Check. -/
import Derived.Test.YtclonnpglikddaaGreatDoorHdRow
namespace Go.Proofs.YtclonnpglikddaaGreatDoor
set_option linter.unusedVariables false
set_option linter.unusedSimpArgs false
open Go.RowKit Go.BigFrame

theorem tog_text (h : HdV) : asS h.name ++ ⟨#[58]⟩ ++ ⟨#[32]⟩ ++ asS h.value ++ ⟨#[13, 10]⟩ = asS (lineH h ++ [13, 10]) := by
  have e1 : asS h.name ++ ⟨#[58]⟩ = asS (h.name ++ [58]) := asS_app h.name [58]
  have e2 : asS (h.name ++ [58]) ++ ⟨#[32]⟩ = asS (h.name ++ [58] ++ [32]) := asS_app _ [32]
  have e3 := asS_app (h.name ++ [58] ++ [32]) h.value
  have e4 : asS (h.name ++ [58] ++ [32] ++ h.value) ++ ⟨#[13, 10]⟩ = asS (h.name ++ [58] ++ [32] ++ h.value ++ [13, 10]) := asS_app _ [13, 10]
  rw [e1, e2, e3, e4]
  congr 1
  unfold lineH
  simp
set_option maxHeartbeats 1000000 in
set_option maxRecDepth 100000 in
theorem together_any (h : HdV) (hz : hdl h ≤ 1000000) (w : World) : Calls Tryz.prog 62 #[.agg (hcs h)] w fun e w' => e = .returned (.string (asS (lineH h ++ [13, 10]))) ∧ Below w.heap.size w w' := by
  have HT := hid (tog_text h)
  unfold hcs
  have s1 : (asS h.name).size + (asS h.value).size ≤ 1000000 := by rw [asS_size, asS_size]; unfold hdl at hz; omega
  generalize asS (lineH h ++ [13, 10]) = R at HT ⊢
  generalize asS h.name = N at HT s1 ⊢
  generalize asS h.value = V at HT s1 ⊢
  go_enter Tryz.func62, Tryz.ntmps62
  go_wp2_with fail
  go_ret
  exact ⟨by rw [← HT.out]; rfl, alloc_below (Below.refl _ _) (Nat.le_refl _) _⟩
theorem all_hd (p : HdV → Bool) (l : List HdV) (k : Nat) (hk : l.length ≤ k) (h : ∀ j, j < k → p (l.getD j zeroH) = true) : l.all p = true := by
  rw [List.all_eq_true]
  intro x hx
  obtain ⟨j, hj, e⟩ := List.getElem_of_mem hx
  have := h j (by omega)
  rwa [List.getD_eq_getElem?_getD, List.getElem?_eq_getElem hj, Option.getD_some, e] at this
theorem not_hd (p : HdV → Bool) (l : List HdV) (k : Nat) (hk : k < l.length) (h : p (l.getD k zeroH) = false) : l.all p = false := by
  cases ha : l.all p with
  | false => rfl
  | true =>
    rw [List.all_eq_true] at ha
    have := ha (l.getD k zeroH) (by rw [List.getD_eq_getElem?_getD, List.getElem?_eq_getElem hk]; exact List.getElem_mem hk)
    rw [h] at this; cases this
theorem step_hd (p : HdV → Bool) (l : List HdV) (k : Nat) (h : ∀ j, j < k → p (l.getD j zeroH) = true) (hk : p (l.getD k zeroH) = true) : ∀ j, j < k + 1 → p (l.getD j zeroH) = true := fun j hj => by
  rcases Nat.lt_succ_iff_lt_or_eq.1 hj with h1 | rfl
  · exact h j h1
  · exact hk
theorem chk_bad (l : List HdV) (k : Nat) (hk : k < l.length) (h : mayH (l.getD k zeroH) = false) : checkH l = 1 := by
  unfold checkH; rw [not_hd mayH l k hk h]; rfl
theorem chk_all (l : List HdV) (k : Nat) (hk : l.length ≤ k) (h : ∀ j, j < k → mayH (l.getD j zeroH) = true) : checkH l = if 64 < l.length ∨ 8192 < sizeH l then 3 else 0 := by
  unfold checkH; rw [all_hd mayH l k hk h]; rfl
theorem hdl_le (l : List HdV) (k : Nat) (h : k < l.length) : hdl (l.getD k zeroH) ≤ sizeH l := by
  have h1 := size_take l k h
  have h2 := size_part l (k + 1)
  omega
/-- Headers that are not too great. -/
def lightH (l : List HdV) : Bool := decide (l.length ≤ 100) && decide (sizeH l ≤ 20000)
theorem light_fit (l : List HdV) (h : lightH l = true) : l.length ≤ 100 ∧ sizeH l ≤ 20000 := by
  unfold lightH at h
  rw [Bool.and_eq_true, decide_eq_true_iff, decide_eq_true_iff] at h
  exact h
set_option maxHeartbeats 1000000 in
set_option maxRecDepth 100000 in
theorem check9_any (l : List HdV) (A : Option Addr) (c : Nat) (hl : l.length ≤ 200) (hz : sizeH l ≤ 30000) (w : World) (hA : HdsAt w A l) : Calls Tryz.prog 34 #[.slice A l.length c] w fun e w' => e = .returned (.int .i64 (checkH l)) ∧ Below w.heap.size w w' := by
  have HA := hid hA
  have HST := hid (size_take l)
  have HSP := hid (size_part l)
  have HALL : Hid (l.take l.length = l) := List.take_length
  have HHL : Hid (∀ k, k < l.length → hdl (l.getD k zeroH) ≤ 30000) := fun k hk => Nat.le_trans (hdl_le l k hk) hz
  have HBAD := hid (chk_bad l)
  have HEND := hid (chk_all l)
  have HTG := hid (fun (h : HdV) (hh : hdl h ≤ 30000) W => together_any h (by omega) W)
  have HTL : Hid (∀ h : HdV, (asS (lineH h ++ [13, 10])).size = hdl h) := fun h => by rw [asS_size]; unfold lineH hdl; simp; omega
  have HMB := hid (fun (h : HdV) (hh : hdl h ≤ 30000) W => mayBe_any h (by unfold hdl at hh; omega) (by unfold hdl at hh; omega) W)
  clear hA
  generalize hn : l.length = n at hl HA HST HALL HHL HBAD HEND ⊢
  have HN := hid hn
  clear hn
  generalize checkH l = R at HBAD HEND ⊢
  have HZ := hid hz
  clear hz
  go_enter Tryz.func34, Tryz.ntmps34
  go_wp2_with fail
  go_loopw [3, 8] (fun s i wr => ∃ k : Nat, k ≤ n ∧ i = .int .i64 (k : Int) ∧ s = .int .i64 (sizeH (l.take k) : Nat) ∧ Hid (∀ j, j < k → mayH (l.getD j zeroH) = true) ∧ Hid (Below w.heap.size w wr)) (fun s i wr => n - (intOf i).toNat)
  case atStart => exact ⟨0, Nat.zero_le _, rfl, rfl, fun j hj => by omega, Below.refl _ _⟩
  case round =>
    obtain ⟨k, hk, rfl, rfl, HP, HB⟩ := hrel
    by_cases hlt : k < n
    · have hi : (k : Int) < (n : Int) := by omega
      have HQ := hid (HA.out (by have := HN.out; omega))
      obtain ⟨q, o, hq, hqs, hcs⟩ := HQ.out
      have hc := hcs k (by have := HN.out; omega)
      have k1 := (HB.out.cell (p := ⟨q, o + k * 2, none⟩) hqs).trans hc.1
      have k2 := (HB.out.cell (p := ⟨q, o + k * 2 + 1, none⟩) hqs).trans hc.2
      clear hcs hc hqs HQ
      subst hq
      have HHL2 := hid (HHL.out k hlt)
      have HM2 := hid (HMB.out _ HHL2.out)
      have HBAD2 := hid (HBAD.out k hlt)
      have HP2 := hid (step_hd mayH l k HP.out)
      have HTG2 := hid (HTG.out _ HHL2.out)
      have htl := HTL.out (l.getD k zeroH)
      have HST2 := hid (HST.out k hlt)
      have hzk : sizeH (l.take k) ≤ 30000 := Nat.le_trans (HSP.out k) HZ.out
      have hhl := HHL2.out
      unfold hcs at HM2 HTG2
      generalize asS (lineH (l.getD k zeroH) ++ [13, 10]) = TG at HTG2 htl
      generalize hdl (l.getD k zeroH) = d at htl HST2 hhl
      generalize sizeH (l.take k) = z at hzk HST2
      have htd : TG.size ≤ 30000 := by omega
      have HTD := hid htl
      clear htl hhl HHL2
      generalize asS (l.getD k zeroH).name = N at k1 HM2 HTG2
      generalize asS (l.getD k zeroH).value = V at k2 HM2 HTG2
      generalize mayH (l.getD k zeroH) = m at HM2 HBAD2 HP2
      cases m
      · have HR := hid (HBAD2.out rfl)
        go_wp2_with fail
        refine (HM2.out _).mono ?_
        rintro e W ⟨rfl, hb⟩
        have HB2 := hid ((alloc_below HB.out HB.out.size _).trans (hb.mono (alloc_below HB.out HB.out.size _).size))
        clear hb
        go_wp2_with fail
        go_ret
        exact ⟨by rw [HR.out]; rfl, HB2.out⟩
      · go_wp2_with fail
        refine (HM2.out _).mono ?_
        rintro e W ⟨rfl, hb⟩
        have HB2 := hid ((alloc_below HB.out HB.out.size (.cells #[.string N, .string V] 69)).trans (hb.mono (alloc_below HB.out HB.out.size _).size))
        have q1 : W.cell? ⟨wr.heap.size, 0, none⟩ = some (.string N) := (hb.cell (p := ⟨wr.heap.size, 0, none⟩) (by simp)).trans (cell_of_row _ _ _ _ _ _ (heap_alloc_new wr _))
        have q2 : W.cell? ⟨wr.heap.size, 1, none⟩ = some (.string V) := (hb.cell (p := ⟨wr.heap.size, 1, none⟩) (by simp)).trans (cell_of_row _ _ _ _ _ _ (heap_alloc_new wr _))
        clear hb k1 k2
        go_wp2_with fail
        refine (HTG2.out _).mono ?_
        rintro e W3 ⟨rfl, hb⟩
        have HB3 := hid (HB2.out.trans (hb.mono HB2.out.size))
        clear hb q1 q2
        go_wp2_with fail
        go_roundw
        case rel => exact ⟨k + 1, by omega, by go_num, by rw [HST2.out, ← HTD.out]; exact congrArg (Value.int IntKind.i64) (by omega), HP2.out (by trivial), HB3⟩
        case measure => simp [intOf]; omega
    · have hi : ¬ (k : Int) < (n : Int) := by omega
      have HR := hid (HEND.out k (by omega) HP.out)
      have HK : Hid (sizeH (l.take k) = sizeH l) := by
        show _ = _
        rw [show k = n from by omega, HALL.out]
      rw [HK.out]
      have hz := HZ.out
      generalize sizeH l = z at hz HR
      by_cases h64 : 64 < n
      · have h1 : (64 : Int) < (n : Int) := by omega
        have HR2 : Hid (R = 3) := by show _ = _; rw [HR.out, if_pos (.inl h64)]
        clear h64
        go_wp2_with fail
        go_ret
        exact ⟨by rw [HR2.out]; rfl, HB.out⟩
      · have h1 : ¬ (64 : Int) < (n : Int) := by omega
        by_cases h81 : 8192 < z
        · have h2 : (8192 : Int) < (z : Int) := by omega
          have HR2 : Hid (R = 3) := by show _ = _; rw [HR.out, if_pos (.inr h81)]
          clear h64 h81
          go_wp2_with fail
          go_ret
          exact ⟨by rw [HR2.out]; rfl, HB.out⟩
        · have h2 : ¬ (8192 : Int) < (z : Int) := by omega
          have HR2 : Hid (R = 0) := by show _ = _; rw [HR.out, if_neg (by omega)]
          clear h64 h81
          go_wp2_with fail
          go_ret
          exact ⟨by rw [HR2.out]; rfl, HB.out⟩
set_option maxHeartbeats 1000000 in
set_option maxRecDepth 100000 in
theorem refCheck_any (l : List HdV) (A : Option Addr) (c : Nat) (hl : l.length ≤ 200) (hz : sizeH l ≤ 30000) (w : World) (hA : HdsAt w A l) : Calls Tryz.prog 57 #[.slice A l.length c] w fun e w' => e = .returned (.int .i64 (checkH l)) ∧ Below w.heap.size w w' := by
  have HA := hid hA
  have HST := hid (size_take l)
  have HSP := hid (size_part l)
  have HALL : Hid (l.take l.length = l) := List.take_length
  have HHL : Hid (∀ k, k < l.length → hdl (l.getD k zeroH) ≤ 30000) := fun k hk => Nat.le_trans (hdl_le l k hk) hz
  have HBAD := hid (chk_bad l)
  have HEND := hid (chk_all l)
  have HMB := hid (fun (h : HdV) (hh : hdl h ≤ 30000) W => refMay_any h (by unfold hdl at hh; omega) (by unfold hdl at hh; omega) W)
  have HFI : Hid (FitH l) := fun k hk => by have := hdl_le l k hk; unfold hdl at this; omega
  have HSZ := hid (fun W hW => refSize_any l A c (by omega) HFI.out W hW)
  clear hA
  generalize hn : l.length = n at hl HA HST HALL HHL HBAD HEND HSZ ⊢
  have HN := hid hn
  clear hn
  generalize checkH l = R at HBAD HEND ⊢
  have HZ := hid hz
  clear hz
  go_enter Tryz.func57, Tryz.ntmps57
  go_wp2_with fail
  go_loopw [3] (fun i wr => ∃ k : Nat, k ≤ n ∧ i = .int .i64 (k : Int) ∧ Hid (∀ j, j < k → mayH (l.getD j zeroH) = true) ∧ Hid (Below w.heap.size w wr)) (fun i wr => n - (intOf i).toNat)
  case atStart => exact ⟨0, Nat.zero_le _, rfl, fun j hj => by omega, Below.refl _ _⟩
  case round =>
    obtain ⟨k, hk, rfl, HP, HB⟩ := hrel
    by_cases hlt : k < n
    · have hi : (k : Int) < (n : Int) := by omega
      have HQ := hid (HA.out (by have := HN.out; omega))
      obtain ⟨q, o, hq, hqs, hcs⟩ := HQ.out
      have hc := hcs k (by have := HN.out; omega)
      have k1 := (HB.out.cell (p := ⟨q, o + k * 2, none⟩) hqs).trans hc.1
      have k2 := (HB.out.cell (p := ⟨q, o + k * 2 + 1, none⟩) hqs).trans hc.2
      clear hcs hc hqs HQ
      subst hq
      have HHL2 := hid (HHL.out k hlt)
      have HM2 := hid (HMB.out _ HHL2.out)
      have HBAD2 := hid (HBAD.out k hlt)
      have HP2 := hid (step_hd mayH l k HP.out)
      unfold hcs at HM2
      generalize asS (l.getD k zeroH).name = N at k1 HM2
      generalize asS (l.getD k zeroH).value = V at k2 HM2
      generalize mayH (l.getD k zeroH) = m at HM2 HBAD2 HP2
      cases m
      · have HR := hid (HBAD2.out rfl)
        go_wp2_with fail
        refine (HM2.out _).mono ?_
        rintro e W ⟨rfl, hb⟩
        have HB2 := hid (HB.out.trans (hb.mono HB.out.size))
        clear hb
        go_wp2_with fail
        go_ret
        exact ⟨by rw [HR.out]; rfl, HB2.out⟩
      · go_wp2_with fail
        refine (HM2.out _).mono ?_
        rintro e W ⟨rfl, hb⟩
        have HB2 := hid (HB.out.trans (hb.mono HB.out.size))
        clear hb k1 k2
        go_wp2_with fail
        go_roundw
        case rel => exact ⟨k + 1, by omega, by go_num, HP2.out (by trivial), HB2⟩
        case measure => simp [intOf]; omega
    · have hi : ¬ (k : Int) < (n : Int) := by omega
      have HR := hid (HEND.out k (by omega) HP.out)
      have HSZ2 := hid (HSZ.out wr (HA.out.below HB.out (Nat.le_refl _)))
      have hz := HZ.out
      generalize sizeH l = z at hz HR HSZ2
      by_cases h64 : 64 < n
      · have h1 : (64 : Int) < (n : Int) := by omega
        have HR2 : Hid (R = 3) := by show _ = _; rw [HR.out, if_pos (.inl h64)]
        clear h64
        go_wp2_with fail
        go_ret
        exact ⟨by rw [HR2.out]; rfl, HB.out⟩
      · have h1 : ¬ (64 : Int) < (n : Int) := by omega
        by_cases h81 : 8192 < z
        · have h2 : (8192 : Int) < (z : Int) := by omega
          have HR2 : Hid (R = 3) := by show _ = _; rw [HR.out, if_pos (.inr h81)]
          clear h64 h81
          go_wp2_with fail
          refine HSZ2.out.mono ?_
          rintro e W ⟨rfl, hb⟩
          have HB2 := hid (HB.out.trans (hb.mono HB.out.size))
          clear hb
          go_wp2_with fail
          go_ret
          exact ⟨by rw [HR2.out]; rfl, HB2.out⟩
        · have h2 : ¬ (8192 : Int) < (z : Int) := by omega
          have HR2 : Hid (R = 0) := by show _ = _; rw [HR.out, if_neg (by omega)]
          clear h64 h81
          go_wp2_with fail
          refine HSZ2.out.mono ?_
          rintro e W ⟨rfl, hb⟩
          have HB2 := hid (HB.out.trans (hb.mono HB.out.size))
          clear hb
          go_wp2_with fail
          go_ret
          exact ⟨by rw [HR2.out]; rfl, HB2.out⟩
end Go.Proofs.YtclonnpglikddaaGreatDoor
