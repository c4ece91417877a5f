
/- What the reference's number, two, is, digits, month and weekday do. -/
import Derived.Test.YthpplcadpngdiaaDoorDtRefM
namespace Go.Proofs.YthpplcadpngdiaaDoor
set_option linter.unusedVariables false
set_option linter.unusedSimpArgs false
open Go.RowKit Go.BigFrame

theorem take_more (l : List UInt8) (a k : Nat) (ha : a ≤ k) (h : k < l.length) : (l.drop a).take (k + 1 - a) = (l.drop a).take (k - a) ++ [l.getD k 0] := by
  rw [show k + 1 - a = (k - a) + 1 by omega, List.take_add_one, List.getElem?_drop, show a + (k - a) = k by omega, List.getElem?_eq_getElem h, List.getD_eq_getElem?_getD, List.getElem?_eq_getElem h]
  rfl
theorem take_bad (l : List UInt8) (a b k : Nat) (ha : a ≤ k) (hk : k < b) (h : k < l.length) (hd : digB (l.getD k 0) = false) : ((l.drop a).take (b - a)).all digB = false := by
  rw [List.all_eq_false]
  refine ⟨l.getD k 0, ?_, by rw [hd]; simp⟩
  rw [List.getD_eq_getElem?_getD, List.getElem?_eq_getElem h]
  refine List.mem_of_getElem? (i := k - a) ?_
  rw [List.getElem?_take_of_lt (by omega), List.getElem?_drop, show a + (k - a) = k by omega, List.getElem?_eq_getElem h]
  rfl
set_option maxHeartbeats 1000000 in
set_option maxRecDepth 1000000 in
theorem refNumber_any (l : List UInt8) (a b : Nat) (hl : l.length ≤ 100000) (hab : a ≤ b) (hb4 : b ≤ a + 4) (hb : b ≤ 200000) (w : World) : Calls Tryd.prog 40 #[.string (asS l), .int .i64 (a : Int), .int .i64 (b : Int)] w fun e w' => e = .returned (.int .i64 (numT l a b)) ∧ w' = w := by
  have HL : Hid ((asS l).size = l.length) := asS_size l
  have hs : (asS l).size ≤ 100000 := by have := HL.out; omega
  have HIX : Hid (∀ k (h : k < (asS l).size) (W : World), (Instr.index 9 (.string (asS l)) (.int .i64 (k : Int))).run Tryd.prog W = .ok (.int .u8 (l.getD k 0).toNat) W) := fun k h W => str_ix (asS l) k h W
  have HTM := hid (fun k h1 h2 => take_more l a k h1 h2)
  have HTB := hid (fun k h1 h2 h3 h4 => take_bad l a b k h1 h2 h3 h4)
  have HN : Hid (∀ k, a ≤ k → k ≤ b → (∀ c ∈ (l.drop a).take (k - a), digB c = true) → numD ((l.drop a).take (k - a)) < 10000) := fun k h1 h2 h3 => by
    have h4 := num_lt _ _ rfl h3
    have h5 : 10 ^ ((l.drop a).take (k - a)).length ≤ 10 ^ 4 := Nat.pow_le_pow_right (by omega) (by rw [List.length_take]; omega)
    omega
  by_cases hlen : l.length < b
  · have hr : numT l a b = -1 := by unfold numT; rw [if_pos hlen]
    rw [hr]
    have hg : ((asS l).size : Int) < (b : Int) := by have := HL.out; omega
    generalize asS l = s at *
    go_enter Tryd.func40, Tryd.ntmps40
    go_wp2_with fail
    go_ret
    exact ⟨rfl, rfl⟩
  · have hg : ¬ ((asS l).size : Int) < (b : Int) := by have := HL.out; omega
    have HLB : Hid (b ≤ (asS l).size) := by show _ ≤ _; have := HL.out; omega
    obtain ⟨R, HR⟩ : ∃ R, Hid (numT l a b = R) := ⟨_, rfl⟩
    rw [HR.out]
    have HRY : Hid (((l.drop a).take (b - a)).all digB = true → R = (numD ((l.drop a).take (b - a)) : Int)) := fun h => by
      rw [← HR.out]; unfold numT; rw [if_neg hlen, if_pos h]
    have HRN : Hid (((l.drop a).take (b - a)).all digB = false → R = -1) := fun h => by
      rw [← HR.out]; unfold numT; rw [if_neg hlen, if_neg (by rw [h]; simp)]
    clear hlen
    generalize asS l = s at *
    go_enter Tryd.func40, Tryd.ntmps40
    go_wp2_with fail
    go_loop [7, 8] (fun n i => ∃ k : Nat, a ≤ k ∧ k ≤ b ∧ i = .int .i64 (k : Int) ∧ n = .int .i64 (numD ((l.drop a).take (k - a)) : Int) ∧ Hid (∀ c ∈ (l.drop a).take (k - a), digB c = true)) (fun _ i => b - (intOf i).toNat)
    case atStart => exact ⟨a, Nat.le_refl _, hab, rfl, by rw [Nat.sub_self]; rfl, by rw [Nat.sub_self]; intro c hc; simp at hc⟩
    case round =>
      obtain ⟨k, h1, h2, rfl, rfl, HD⟩ := hrel
      by_cases hlt : k < b
      · have hi : (k : Int) < (b : Int) := by omega
        have hks : k < s.size := by have := HLB.out; omega
        have hix := HIX.out k hks
        have hN := HN.out k h1 h2 HD.out
        have HT := hid (HTM.out k h1 (by have := HL.out; omega))
        have HB := hid (HTB.out k h1 hlt (by have := HL.out; omega))
        obtain ⟨c, HC⟩ : ∃ c, Hid (l.getD k 0 = c) := ⟨_, rfl⟩
        rw [HC.out] at hix HT HB
        have HNU : Hid (numD ((l.drop a).take (k + 1 - a)) = numD ((l.drop a).take (k - a)) * 10 + (c.toNat - 48)) := by show _ = _; rw [HT.out, num_snoc]
        have HDN : Hid (digB c = true → ∀ x ∈ (l.drop a).take (k + 1 - a), digB x = true) := fun h x hx => by
          rw [HT.out, List.mem_append, List.mem_singleton] at hx
          rcases hx with hx | rfl
          · exact HD.out x hx
          · exact h
        generalize numD ((l.drop a).take (k - a)) = N at hN HNU ⊢
        have hcb : (c.toNat : Int) < 256 := by have := c.toNat_lt; omega
        by_cases c1 : (c.toNat : Int) < 48
        · have HF : Hid (R = -1) := HRN.out (HB.out (by unfold digB; rw [decide_eq_false_iff_not]; omega))
          go_wp2_with fail
          go_ret
          exact ⟨by rw [HF.out]; rfl, rfl⟩
        · by_cases c2 : 57 < (c.toNat : Int)
          · have HF : Hid (R = -1) := HRN.out (HB.out (by unfold digB; rw [decide_eq_false_iff_not]; omega))
            go_wp2_with fail
            go_ret
            exact ⟨by rw [HF.out]; rfl, rfl⟩
          · have HT2 := hid (HDN.out (by unfold digB; rw [decide_eq_true_eq]; omega))
            go_wp2_with fail
            go_round
            case rel =>
              refine ⟨k + 1, by omega, by omega, by go_num, ?_, HT2⟩
              rw [HNU.out, show ((N * 10 + (c.toNat - 48) : Nat) : Int) = (N : Int) * 10 + ((c.toNat : Int) - 48) by omega]
            case measure => simp [intOf]; omega
      · have e : k = b := by omega
        have HF : Hid (R = (numD ((l.drop a).take (k - a)) : Int)) := by
          show _ = _
          rw [e]
          exact HRY.out (List.all_eq_true.2 (by rw [← e]; exact HD.out))
        have hi : ¬ (k : Int) < (b : Int) := by omega
        clear e hlt h2
        go_wp2_with fail
        go_ret
        exact ⟨by rw [HF.out]; rfl, rfl⟩
set_option maxHeartbeats 1000000 in
theorem refTwo_any (l : List UInt8) (a lim : Nat) (hl : l.length ≤ 100000) (ha : a ≤ 100000) (hm : lim ≤ 100) (w : World) : Calls Tryd.prog 41 #[.string (asS l), .int .i64 (a : Int), .int .i64 (lim : Int)] w fun e w' => e = .returned (.int .i64 (twoR l a lim)) ∧ w' = w := by
  have HN := hid (fun W => refNumber_any l a (a + 2) hl (by omega) (by omega) (by omega) W)
  unfold twoR
  generalize numT l a (a + 2) = N at *
  have h2 : (a : Int) + 2 = ((a + 2 : Nat) : Int) := by omega
  generalize a + 2 = b at *
  generalize asS l = s at *
  by_cases h : (lim : Int) ≤ N
  · rw [if_pos h]
    go_enter Tryd.func41, Tryd.ntmps41
    go_wp2_with (go_at_call 40; refine (HN.out _).mono ?_; rintro e w1 ⟨rfl, rfl⟩)
    go_ret
    exact ⟨rfl, rfl⟩
  · rw [if_neg h]
    go_enter Tryd.func41, Tryd.ntmps41
    go_wp2_with (go_at_call 40; refine (HN.out _).mono ?_; rintro e w1 ⟨rfl, rfl⟩)
    go_ret
    exact ⟨rfl, rfl⟩
def isR (l : List UInt8) (a : Nat) (c : UInt8) : Bool := decide (a < l.length ∧ l.getD a 0 = c)
set_option maxHeartbeats 1000000 in
theorem refIs_any (l : List UInt8) (a : Nat) (c : UInt8) (hl : l.length ≤ 100000) (ha : a ≤ 100000) (w : World) : Calls Tryd.prog 42 #[.string (asS l), .int .i64 (a : Int), .int .u8 c.toNat] w fun e w' => e = .returned (.bool (isR l a c)) ∧ w' = w := by
  unfold isR
  have HL : Hid ((asS l).size = l.length) := asS_size l
  by_cases h : a < l.length
  · have hg : (a : Int) < ((asS l).size : Int) := by have := HL.out; omega
    have hix : ∀ W : World, (Instr.index 9 (.string (asS l)) (.int .i64 (a : Int))).run Tryd.prog W = .ok (.int .u8 (l.getD a 0).toNat) W := fun W => str_ix (asS l) a (by have := HL.out; omega) W
    generalize asS l = s at *
    generalize l.getD a 0 = x at *
    by_cases hx : x = c
    · have b1 : ((x.toNat : Int) == (c.toNat : Int)) = true := by rw [hx]; simp
      rw [decide_eq_true (show a < l.length ∧ x = c from ⟨h, hx⟩)]
      clear hx h
      go_enter Tryd.func42, Tryd.ntmps42
      go_wp2_with fail
      go_ret
      exact ⟨rfl, rfl⟩
    · have b1 : ((x.toNat : Int) == (c.toNat : Int)) = false := by rw [beq_eq_false_iff_ne]; exact fun h => hx ((u8_eq_iff x c).1 h)
      rw [decide_eq_false (show ¬ (a < l.length ∧ x = c) from fun q => hx q.2)]
      clear hx h
      go_enter Tryd.func42, Tryd.ntmps42
      go_wp2_with fail
      go_ret
      exact ⟨rfl, rfl⟩
  · have hg : ¬ (a : Int) < ((asS l).size : Int) := by have := HL.out; omega
    rw [decide_eq_false (show ¬ (a < l.length ∧ _) from fun q => h q.1)]
    generalize asS l = s at *
    clear h
    go_enter Tryd.func42, Tryd.ntmps42
    go_wp2_with fail
    go_ret
    exact ⟨rfl, rfl⟩
end Go.Proofs.YthpplcadpngdiaaDoor
