
/- What date's withoutFraction, fullYear, monthOf and isDayName do. -/
import Derived.Test.YthpplcadpngdiaaDoorDtTime
namespace Go.Proofs.YthpplcadpngdiaaDoor
set_option linter.unusedVariables false
set_option linter.unusedSimpArgs false
open Go.RowKit Go.BigFrame

def run9 : Nat → List UInt8 → Nat
  | n + 1, c :: r => if digB c then run9 n r + 1 else 0
  | _, _ => 0
def woF (l : List UInt8) : List UInt8 := match l with
  | c :: r => if c = 46 ∧ 0 < run9 9 r then r.drop (run9 9 r) else l
  | [] => []
theorem run9_le : ∀ (n : Nat) (l : List UInt8), run9 n l ≤ n ∧ run9 n l ≤ l.length
  | 0, l => by simp [run9]
  | n + 1, [] => by simp [run9]
  | n + 1, c :: r => by
    have := run9_le n r
    rw [run9]
    split
    · simp; omega
    · simp
theorem run9_at (n : Nat) (l : List UInt8) (k : Nat) (h : k < l.length) : run9 (n + 1) (l.drop k) = if digB (l.getD k 0) then run9 n (l.drop (k + 1)) + 1 else 0 := by
  rw [drop_at l k h, run9]
theorem pre_dot (l : List UInt8) : Lib.hasPrefix l [46] = (match l with | c :: _ => decide (c = 46) | [] => false) := by
  cases l with
  | nil => rfl
  | cons c r =>
    show ([46] : List UInt8).isPrefixOf (c :: r) = decide (c = 46)
    rw [List.isPrefixOf]
    by_cases h : c = 46
    · subst h; rfl
    · rw [decide_eq_false h, show ((46 : UInt8) == c) = false from beq_eq_false_iff_ne.2 (fun e => h e.symm)]; rfl
theorem woF_len (l : List UInt8) : (woF l).length ≤ l.length := by
  unfold woF
  split
  · split
    · rw [List.length_drop, List.length_cons]; omega
    · exact Nat.le_refl _
  · exact Nat.le_refl _
set_option maxHeartbeats 1000000 in
set_option maxRecDepth 1000000 in
theorem woF_any (l : List UInt8) (hl : l.length ≤ 1000000) (w : World) : Calls Tryd.prog 36 #[.string (asS l)] w fun e w' => e = .returned (.string (asS (woF l))) ∧ w' = w := by
  have HP := hid (fun W => Tryd.strings_CutPrefix (asS l) ⟨#[46]⟩ W)
  by_cases hd : ∃ r, l = 46 :: r
  · obtain ⟨r, rfl⟩ := hd
    have e1 : Lib.hasPrefix (asS (46 :: r)).data.toList (⟨#[46]⟩ : ByteArray).data.toList = true := by rw [asS_data]; show Lib.hasPrefix (46 :: r) [46] = true; rw [pre_dot]; rfl
    have e2 : (⟨(Lib.trimPrefix (asS (46 :: r)).data.toList (⟨#[46]⟩ : ByteArray).data.toList).toArray⟩ : ByteArray) = asS r := by
      rw [asS_data]
      show asS (Lib.trimPrefix (46 :: r) [46]) = asS r
      unfold Lib.trimPrefix
      rw [pre_dot]
      rfl
    rw [e1, e2] at HP
    clear e1 e2
    have hz : (asS r).size ≤ 1000000 := by rw [asS_size]; simp at hl; omega
    have HL : Hid ((asS r).size = r.length) := asS_size r
    have HIX : Hid (∀ k (h : k < (asS r).size) (W : World), (Instr.index 9 (.string (asS r)) (.int .i64 (k : Int))).run Tryd.prog W = .ok (.int .u8 (r.getD k 0).toNat) W) := fun k h W => str_ix (asS r) k h W
    have HE := hid (fun k => ext8_from r k)
    have HW1 : Hid (run9 9 r = 0 → asS (woF (46 :: r)) = asS (46 :: r)) := fun h => by
      show asS (if (46 : UInt8) = 46 ∧ 0 < run9 9 r then r.drop (run9 9 r) else 46 :: r) = _
      rw [if_neg (fun x => by omega)]
    have HW2 : Hid (0 < run9 9 r → asS (woF (46 :: r)) = (asS r).extract (run9 9 r) (asS r).size) := fun h => by
      show asS (if (46 : UInt8) = 46 ∧ 0 < run9 9 r then r.drop (run9 9 r) else 46 :: r) = _
      rw [if_pos ⟨rfl, h⟩, ext8_from]
    have HR : Hid (∀ n k, k < (asS r).size → run9 (n + 1) (r.drop k) = if digB (r.getD k 0) then run9 n (r.drop (k + 1)) + 1 else 0) := fun n k h => run9_at n r k (by have := HL.out; omega)
    have HZ : Hid (∀ n k, (asS r).size ≤ k → run9 n (r.drop k) = 0) := fun n k h => by rw [List.drop_eq_nil_of_le (by have := HL.out; omega)]; cases n <;> rfl
    obtain ⟨M, HM⟩ : ∃ M, Hid (run9 9 (r.drop 0) = M) := ⟨_, rfl⟩
    have HM2 : run9 9 r = M := HM.out
    rw [HM2] at HW1 HW2
    clear HM2 HE
    generalize asS (woF (46 :: r)) = T at *
    generalize asS (46 :: r) = s0 at *
    generalize asS r = s at *
    go_enter Tryd.func36, Tryd.ntmps36
    go_wp2_with (go_at_call 59; refine (HP.out _).mono ?_; rintro e w2 ⟨rfl, rfl⟩)
    go_loop [5] (fun i => ∃ k : Nat, k ≤ 9 ∧ k ≤ s.size ∧ i = .int .i64 (k : Int) ∧ Hid (k + run9 (9 - k) (r.drop k) = M)) (fun i => 9 - (intOf i).toNat)
    case atStart => exact ⟨0, by omega, Nat.zero_le _, rfl, by show _ = _; rw [Nat.zero_add]; exact HM.out⟩
    case round =>
      obtain ⟨k, hk, hks, rfl, HK⟩ := hrel
      have done : Hid (k = M → (k = 0 ∧ T = s0) ∨ (0 < k ∧ T = s.extract k s.size)) := fun e => by
        rcases Nat.eq_zero_or_pos k with h | h
        · exact .inl ⟨h, HW1.out (by omega)⟩
        · exact .inr ⟨h, by rw [e]; exact HW2.out (by omega)⟩
      clear HW1 HW2
      by_cases h1 : k < s.size
      · have hi1 : (k : Int) < (s.size : Int) := by omega
        by_cases h2 : k < 9
        · have hi2 : (k : Int) < 9 := by omega
          have e1 := HIX.out k h1
          have HD := hid (fun W => isDigit_any (r.getD k 0) W)
          have HN : Hid (k + (if digB (r.getD k 0) then run9 (9 - (k + 1)) (r.drop (k + 1)) + 1 else 0) = M) := by
            show _ = _
            rw [← HR.out (9 - (k + 1)) k h1, show 9 - (k + 1) + 1 = 9 - k by omega]; exact HK.out
          generalize r.getD k 0 = c at e1 HD HN
          generalize digB c = b at HD HN
          cases b
          · have HX := hid (done.out (by have := HN.out; rw [if_neg (by simp)] at this; omega))
            rcases HX.out with ⟨hk0, HT⟩ | ⟨hpos, HT⟩
            · have hne : ((k : Int) == 0) = true := by rw [hk0]; rfl
              clear hk0 HX done
              go_wp2_with (go_at_call 60; refine (HD.out _).mono ?_; rintro e w2 ⟨rfl, rfl⟩)
              go_ret
              exact ⟨by first | rfl | (rw [HT]; rfl), rfl⟩
            · have hne : ((k : Int) == 0) = false := beq_eq_false_iff_ne.2 (by omega)
              clear hpos HX done
              go_wp2_with (go_at_call 60; refine (HD.out _).mono ?_; rintro e w2 ⟨rfl, rfl⟩)
              go_ret
              exact ⟨by first | rfl | (rw [HT]; rfl), rfl⟩
          · go_wp2_with (go_at_call 60; refine (HD.out _).mono ?_; rintro e w2 ⟨rfl, rfl⟩)
            go_round
            case rel => exact ⟨k + 1, by omega, by omega, by go_num, by show _ = _; have := HN.out; rw [if_pos trivial] at this; omega⟩
            case measure => simp [intOf]; omega
        · have hi2 : ¬ (k : Int) < 9 := by omega
          have HX := hid (done.out (by have := HK.out; rw [show 9 - k = 0 by omega, show run9 0 (r.drop k) = 0 from by cases r.drop k <;> rfl] at this; omega))
          rcases HX.out with ⟨hk0, HT⟩ | ⟨hpos, HT⟩
          · omega
          · have hne : ((k : Int) == 0) = false := beq_eq_false_iff_ne.2 (by omega)
            clear hpos HX done h2
            go_wp2_with fail
            go_ret
            exact ⟨by first | rfl | (rw [HT]; rfl), rfl⟩
      · have hi1 : ¬ (k : Int) < (s.size : Int) := by omega
        have HX := hid (done.out (by have := HK.out; rw [HZ.out _ k (by omega)] at this; omega))
        rcases HX.out with ⟨hk0, HT⟩ | ⟨hpos, HT⟩
        · have hne : ((k : Int) == 0) = true := by rw [hk0]; rfl
          clear hk0 HX done
          go_wp2_with fail
          go_ret
          exact ⟨by first | rfl | (rw [HT]; rfl), rfl⟩
        · have hne : ((k : Int) == 0) = false := beq_eq_false_iff_ne.2 (by omega)
          clear hpos HX done
          go_wp2_with fail
          go_ret
          exact ⟨by first | rfl | (rw [HT]; rfl), rfl⟩
  · have e0 : woF l = l := by
      unfold woF
      split
      · rw [if_neg]
        rintro ⟨rfl, _⟩
        exact hd ⟨_, rfl⟩
      · rfl
    have e1 : Lib.hasPrefix (asS l).data.toList (⟨#[46]⟩ : ByteArray).data.toList = false := by
      rw [asS_data]
      show Lib.hasPrefix l [46] = false
      rw [pre_dot]
      split
      · exact decide_eq_false (fun e => hd ⟨_, by rw [e]⟩)
      · rfl
    rw [e0]
    rw [e1] at HP
    clear e0 e1 hd
    generalize (⟨(Lib.trimPrefix (asS l).data.toList (⟨#[46]⟩ : ByteArray).data.toList).toArray⟩ : ByteArray) = u at HP
    generalize asS l = s at *
    go_enter Tryd.func36, Tryd.ntmps36
    go_wp2_with (go_at_call 59; refine (HP.out _).mono ?_; rintro e w2 ⟨rfl, rfl⟩)
    go_ret
    exact ⟨rfl, rfl⟩
def fullY (l : List UInt8) : Nat := if 2 < l.length then numD l else if numD l < 50 then numD l + 2000 else numD l + 1900
set_option maxHeartbeats 1000000 in
set_option maxRecDepth 1000000 in
theorem fullY_any (l : List UInt8) (hl : l.length ≤ 4) (hd : ∀ c ∈ l, digB c = true) (w : World) : Calls Tryd.prog 46 #[.string (asS l)] w fun e w' => e = .returned (.int .i64 (fullY l : Int)) ∧ Below w.heap.size w w' := by
  have HN := hid (fun W => number_any l hl hd W)
  have hb : numD l < 10000 := by
    have h1 := num_lt l.length l rfl hd
    have h2 : 10 ^ l.length ≤ 10 ^ 4 := Nat.pow_le_pow_right (by omega) hl
    omega
  unfold fullY
  clear hd
  have HS : Hid ((asS l).size = l.length) := asS_size l
  by_cases h1 : 2 < l.length
  · rw [if_pos h1]
    have g1 : 2 < ((asS l).size : Int) := by rw [HS.out]; omega
    generalize asS l = s at *
    generalize numD l = N at *
    go_enter Tryd.func46, Tryd.ntmps46
    go_wp2_with (go_at_call 38; refine (HN.out _).mono ?_; rintro e w2 ⟨rfl, hb2⟩)
    go_ret
    exact ⟨rfl, hb2⟩
  · rw [if_neg h1]
    have g1 : ¬ 2 < ((asS l).size : Int) := by rw [HS.out]; omega
    generalize asS l = s at *
    generalize numD l = N at *
    by_cases h2 : N < 50
    · rw [if_pos h2]
      have g2 : (N : Int) < 50 := by omega
      go_enter Tryd.func46, Tryd.ntmps46
      go_wp2_with (go_at_call 38; refine (HN.out _).mono ?_; rintro e w2 ⟨rfl, hb2⟩)
      go_ret
      exact ⟨rfl, hb2⟩
    · rw [if_neg h2]
      have g2 : ¬ (N : Int) < 50 := by omega
      go_enter Tryd.func46, Tryd.ntmps46
      go_wp2_with (go_at_call 38; refine (HN.out _).mono ?_; rintro e w2 ⟨rfl, hb2⟩)
      go_ret
      exact ⟨rfl, hb2⟩
end Go.Proofs.YthpplcadpngdiaaDoor
