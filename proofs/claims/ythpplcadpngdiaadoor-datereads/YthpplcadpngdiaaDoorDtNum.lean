
/- What date's readers of digits and forms do: isDigit, number, isOf, fits. -/
import Derived.Test.YthpplcadpngdiaaDoorDtCiv
import Derived.BigQuiet
namespace Go.Proofs.YthpplcadpngdiaaDoor
set_option linter.unusedVariables false
set_option linter.unusedSimpArgs false
open Go.RowKit Go.BigFrame

def digB (c : UInt8) : Bool := decide (48 ≤ c.toNat ∧ c.toNat ≤ 57)
def numD (l : List UInt8) : Nat := l.foldl (fun n c => n * 10 + (c.toNat - 48)) 0
def isOfL : List UInt8 → List UInt8 → Bool
  | [], [] => true
  | c :: s, x :: f => (decide (c = x) || (decide (x = 48) && digB c)) && isOfL s f
  | _, _ => false
theorem isOf_len : ∀ (s f : List UInt8), isOfL s f = true → s.length = f.length
  | [], [], _ => rfl
  | c :: s, x :: f, h => by
    rw [isOfL, Bool.and_eq_true] at h
    rw [List.length_cons, List.length_cons, isOf_len s f h.2]
  | [], x :: f, h => by simp [isOfL] at h
  | c :: s, [], h => by simp [isOfL] at h
theorem drop_at (l : List UInt8) (k : Nat) (h : k < l.length) : l.drop k = l.getD k 0 :: l.drop (k + 1) := by
  rw [List.drop_eq_getElem_cons h, List.getD_eq_getElem?_getD, List.getElem?_eq_getElem h]; rfl
theorem num_snoc (l : List UInt8) (c : UInt8) : numD (l ++ [c]) = numD l * 10 + (c.toNat - 48) := by simp [numD]
theorem num_take (l : List UInt8) (k : Nat) (h : k < l.length) : numD (l.take (k + 1)) = numD (l.take k) * 10 + ((l.getD k 0).toNat - 48) := by
  rw [take_snoc l k h, num_snoc]
theorem num_lt : ∀ (n : Nat) (l : List UInt8), l.length = n → (∀ c ∈ l, digB c = true) → numD l < 10 ^ n
  | 0, l, h, _ => by rw [List.length_eq_zero_iff.1 h]; decide
  | n + 1, l, h, hd => by
    have e : l = l.take n ++ [l.getD n 0] := by
      have := take_snoc l n (by omega)
      rw [List.take_of_length_le (by omega)] at this
      exact this
    rw [e, num_snoc]
    have h1 := num_lt n (l.take n) (by rw [List.length_take]; omega) (fun c hc => hd c (List.mem_of_mem_take hc))
    have h2 : digB (l.getD n 0) = true := hd _ (by rw [List.getD_eq_getElem?_getD, List.getElem?_eq_getElem (by omega)]; exact List.getElem_mem _)
    unfold digB at h2
    rw [decide_eq_true_eq] at h2
    rw [Nat.pow_succ]
    omega
set_option maxHeartbeats 1000000 in
theorem isDigit_any (c : UInt8) (w : World) : Calls Tryd.prog 60 #[.int .u8 c.toNat] w fun e w' => e = .returned (.bool (digB c)) ∧ w' = w := by
  unfold digB
  by_cases h1 : 48 ≤ (c.toNat : Int)
  · by_cases h2 : (c.toNat : Int) ≤ 57
    all_goals go_enter Tryd.func60, Tryd.ntmps60
    all_goals go_wp2_with fail
    all_goals (go_ret; refine ⟨ret_bool ?_, rfl⟩; simp; omega)
  · go_enter Tryd.func60, Tryd.ntmps60
    go_wp2_with fail
    go_ret
    refine ⟨ret_bool ?_, rfl⟩; simp; omega
set_option maxHeartbeats 1000000 in
set_option maxRecDepth 1000000 in
theorem number_any (l : List UInt8) (hl : l.length ≤ 4) (hd : ∀ c ∈ l, digB c = true) (w : World) : Calls Tryd.prog 38 #[.string (asS l)] w fun e w' => e = .returned (.int .i64 (numD l : Int)) ∧ Below w.heap.size w w' := by
  obtain ⟨cap, W1, hconv, hrow, hb1⟩ := rowB_new w (asS l)
  rw [asS_data] at hrow
  have HL : Hid ((asS l).size = l.length) := asS_size l
  have hs : (asS l).size ≤ 4 := by have := HL.out; omega
  have HD : Hid (∀ k, k < l.length → digB (l.getD k 0) = true) := fun k hk => hd _ (by rw [List.getD_eq_getElem?_getD, List.getElem?_eq_getElem hk]; exact List.getElem_mem hk)
  have HT : Hid (∀ k, k ≤ l.length → numD (l.take k) < 10000) := fun k hk => by
    have h1 := num_lt k (l.take k) (by rw [List.length_take]; omega) (fun c hc => hd c (List.mem_of_mem_take hc))
    have h2 : 10 ^ k ≤ 10 ^ 4 := Nat.pow_le_pow_right (by omega) (by omega)
    omega
  clear hd
  generalize asS l = s at hconv HL hs ⊢
  have HR := hid hrow; have HB := hid hb1
  clear hrow hb1
  go_enter Tryd.func38, Tryd.ntmps38
  go_wp2
  go_loop [3, 9] (fun n i => ∃ k : Nat, k ≤ s.size ∧ i = .int .i64 k ∧ n = .int .i64 (numD (l.take k) : Int)) (fun _ i => s.size - (intOf i).toNat)
  case atStart => exact ⟨0, Nat.zero_le _, rfl, rfl⟩
  case round =>
    obtain ⟨k, hk, rfl, rfl⟩ := hrel
    by_cases hlt : k < s.size
    · have hkl : Hid (k < l.length) := by show _ < _; have := HL.out; omega
      have HS := hid (num_take l k hkl.out)
      have hN := HT.out k (Nat.le_of_lt hkl.out)
      have HDK := hid (HD.out k hkl.out)
      have hcell : W1.cell? ⟨w.heap.size, k, none⟩ = some (.int .u8 (l.getD k 0).toNat) := HR.out.1 k hkl.out
      have HM : Hid (numD (l.take (k + 1)) = numD (l.take k) * 10 + ((l.getD k 0).toNat - 48) ∧ 48 ≤ (l.getD k 0).toNat ∧ (l.getD k 0).toNat ≤ 57) := ⟨HS.out, by have := HDK.out; unfold digB at this; rw [decide_eq_true_eq] at this; exact this⟩
      clear HS HDK
      generalize l.getD k 0 = c at hcell HM
      have hc0 : 48 ≤ (c.toNat : Int) := by have := HM.out; omega
      have hc1 : (c.toNat : Int) ≤ 57 := by have := HM.out; omega
      generalize numD (l.take k) = N at HM hN ⊢
      go_wp2
      go_round
      case rel =>
        refine ⟨k + 1, by omega, by go_num, ?_⟩
        have h := HM.out
        rw [h.1, show ((N * 10 + (c.toNat - 48) : Nat) : Int) = (N : Int) * 10 + ((c.toNat : Int) - 48) by omega]
      case measure => simp [intOf]; omega
    · have HA : Hid (l.take k = l) := List.take_of_length_le (by have := HL.out; omega)
      go_wp2
      go_ret
      exact ⟨by rw [HA.out]; rfl, HB.out⟩
set_option maxHeartbeats 1000000 in
set_option maxRecDepth 1000000 in
theorem isOf_any (l f : List UInt8) (hl : l.length ≤ 1000000) (hf : f.length ≤ 100) (w : World) : Calls Tryd.prog 57 #[.string (asS l), .string (asS f)] w fun e w' => e = .returned (.bool (isOfL l f)) ∧ Below w.heap.size w w' := by
  have HL : Hid ((asS l).size = l.length) := asS_size l
  have HF : Hid ((asS f).size = f.length) := asS_size f
  have hs1 : (asS l).size ≤ 1000000 := by have := HL.out; omega
  have hs2 : (asS f).size ≤ 100 := by have := HF.out; omega
  have HIX : Hid (∀ k (h : k < (asS l).size) (W : World), (Instr.index 9 (.string (asS l)) (.int .i64 (k : Int))).run Tryd.prog W = .ok (.int .u8 (l.getD k 0).toNat) W) := fun k h W => str_ix (asS l) k h W
  have HIF : Hid (∀ k (h : k < (asS f).size) (W : World), (Instr.index 9 (.string (asS f)) (.int .i64 (k : Int))).run Tryd.prog W = .ok (.int .u8 (f.getD k 0).toNat) W) := fun k h W => str_ix (asS f) k h W
  obtain ⟨R, HRR⟩ : ∃ R, Hid (R = isOfL l f) := ⟨_, rfl⟩
  rw [← HRR.out]
  by_cases hlen : l.length = f.length
  · have HE : Hid ((asS l).size = (asS f).size) := by show _ = _; rw [HL.out, HF.out]; exact hlen
    have HS : Hid (∀ k, k < (asS f).size → isOfL (l.drop k) (f.drop k) = ((decide (l.getD k 0 = f.getD k 0) || (decide (f.getD k 0 = 48) && digB (l.getD k 0))) && isOfL (l.drop (k + 1)) (f.drop (k + 1)))) := fun k hk => by
      rw [drop_at l k (by have := HL.out; have := HE.out; omega), drop_at f k (by have := HF.out; omega), isOfL]
    have HZ : Hid (∀ k, (asS f).size ≤ k → isOfL (l.drop k) (f.drop k) = true) := fun k hk => by
      rw [List.drop_eq_nil_of_le (by have := HL.out; have := HE.out; omega), List.drop_eq_nil_of_le (by have := HF.out; omega)]; rfl
    have HQ : Hid (isOfL (l.drop 0) (f.drop 0) = R) := by show _ = _; rw [HRR.out]; rfl
    have hcmp : ((((asS l).size : Nat) : Int) != ((asS f).size : Int)) = false := by rw [HE.out]; simp
    have hcmp2 : ((((asS l).size : Nat) : Int) == ((asS f).size : Int)) = true := by rw [HE.out]; simp
    clear hlen
    generalize asS l = s at *
    generalize asS f = g at *
    go_enter Tryd.func57, Tryd.ntmps57
    go_wp2_with fail
    go_loopw [13] (fun i wr => ∃ (k : Nat), k ≤ g.size ∧ i = .int .i64 k ∧ Hid (Below w.heap.size w wr) ∧ Hid (isOfL (l.drop k) (f.drop k) = R)) (fun i _ => g.size - (intOf i).toNat)
    case atStart => exact ⟨0, Nat.zero_le _, rfl, Below.refl _ _, HQ⟩
    case round =>
      obtain ⟨k, hk, rfl, HB, HK⟩ := hrel
      by_cases hlt : k < g.size
      · have hi : (k : Int) < (g.size : Int) := by omega
        have e1 := HIX.out k (by have := HE.out; omega)
        have e2 := HIF.out k hlt
        have HSK := hid (HS.out k hlt)
        have HD := hid (fun W => isDigit_any (l.getD k 0) W)
        generalize l.getD k 0 = c at e1 HSK HD
        generalize f.getD k 0 = x at e2 HSK
        by_cases hcx : c = x
        · have b1 : ((c.toNat : Int) != (x.toNat : Int)) = false := by rw [hcx]; simp
          have HN : Hid (isOfL (l.drop (k + 1)) (f.drop (k + 1)) = R) := by
            show _ = _
            have := HSK.out
            rw [decide_eq_true hcx, Bool.true_or, Bool.true_and, HK.out] at this
            exact this.symm
          clear hcx
          go_wp2_with fail
          go_quiet (fail)
          go_wp2_with fail
          go_roundw
          case rel => exact ⟨k + 1, by omega, by go_num, HB.out.trans (below_drewN w.heap.size wr nq), HN⟩
          case measure => simp [intOf]; omega
        · have b1 : ((c.toNat : Int) != (x.toNat : Int)) = true := by rw [bne_iff_ne]; exact fun h => hcx ((u8_eq_iff c x).1 h)
          by_cases hx : x = 48
          · have b2 : ((x.toNat : Int) != 48) = false := by rw [hx]; rfl
            have HN : Hid ((digB c && isOfL (l.drop (k + 1)) (f.drop (k + 1))) = R) := by
              show _ = _
              have := HSK.out
              rw [decide_eq_false hcx, decide_eq_true hx, Bool.false_or, Bool.true_and, HK.out] at this
              exact this.symm
            clear hcx hx
            generalize digB c = b at HD HN
            cases b
            · have HRF : Hid (R = false) := by show _ = _; rw [← HN.out]; rfl
              go_wp2_with fail
              go_quiet ((go_at_call 60; exact Calls.quiet_of_same (HD.out _)))
              go_wp2_with fail
              go_ret
              exact ⟨by rw [HRF.out]; rfl, HB.out.trans (below_drewN w.heap.size wr nq)⟩
            · go_wp2_with fail
              go_quiet ((go_at_call 60; exact Calls.quiet_of_same (HD.out _)))
              go_wp2_with fail
              go_roundw
              case rel => exact ⟨k + 1, by omega, by go_num, HB.out.trans (below_drewN w.heap.size wr nq), HN⟩
              case measure => simp [intOf]; omega
          · have b2 : ((x.toNat : Int) != 48) = true := by rw [bne_iff_ne]; exact fun h => hx ((u8_eq_iff x 48).1 h)
            have HRF : Hid (R = false) := by
              show _ = _
              have := HSK.out
              rw [decide_eq_false hcx, decide_eq_false hx, HK.out] at this
              exact this
            clear hcx hx
            go_wp2_with fail
            go_quiet (fail)
            go_wp2_with fail
            go_ret
            exact ⟨by rw [HRF.out]; rfl, HB.out.trans (below_drewN w.heap.size wr nq)⟩
      · have hi : ¬ (k : Int) < (g.size : Int) := by omega
        have HRT : Hid (R = true) := by show _ = _; rw [← HK.out]; exact HZ.out k (by omega)
        go_wp2_with fail
        go_ret
        exact ⟨by rw [HRT.out]; rfl, HB.out⟩
  · have hcmp : (((asS l).size : Int) != ((asS f).size : Int)) = true := by rw [bne_iff_ne, HL.out, HF.out]; omega
    have HRF : Hid (R = false) := by
      show _ = _
      rw [HRR.out]
      cases h : isOfL l f with
      | false => rfl
      | true => exact absurd (isOf_len l f h) hlen
    clear hlen
    generalize asS l = s at *
    generalize asS f = g at *
    go_enter Tryd.func57, Tryd.ntmps57
    go_wp2_with fail
    go_ret
    exact ⟨by rw [HRF.out]; rfl, Below.refl _ _⟩
end Go.Proofs.YthpplcadpngdiaaDoor
