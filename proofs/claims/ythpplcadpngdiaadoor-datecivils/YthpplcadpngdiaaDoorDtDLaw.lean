
/- What the laws of days and of dates say: both return true. -/
import Derived.Test.YthpplcadpngdiaaDoorDtAw
import Derived.Test.YthpplcadpngdiaaDoorDtCiv
namespace Go.Proofs.YthpplcadpngdiaaDoor
set_option linter.unusedVariables false
set_option linter.unusedSimpArgs false
open Go.RowKit Go.BigFrame

set_option maxHeartbeats 2000000 in
set_option maxRecDepth 1000000 in
theorem dateDays_no (y m d : Int) (h : isDay y m d = false) (w : World) (hT : TabD w) : Calls Tryd.prog 3 #[.int .i64 y, .int .i64 m, .int .i64 d] w fun e w' => e = .returned (.bool true) ∧ Below w.heap.size w w' := by
  have H1 := hid (fun W => days_no y m d h W)
  have H2 := hid (fun W => refIsDay_any y m d W)
  rw [h] at H2
  have HA := hid (fun W h => awake14 W h)
  have HTT := hid hT
  clear hT h
  go_enter Tryd.func3, Tryd.ntmps3
  go_wp2_with (first
    | (go_at_call 8; refine (H1.out _).mono ?_; rintro e w1 ⟨rfl, rfl⟩)
    | (go_at_call 9; refine (H2.out _).mono ?_; rintro e w1 ⟨rfl, rfl⟩)
    | (go_at_call 10; refine (HA.out _ HTT.out).mono ?_; rintro e w1 ⟨rfl, hb1⟩)
    | fail)
  go_ret
  exact ⟨rfl, hb1⟩
set_option maxHeartbeats 2000000 in
set_option maxRecDepth 1000000 in
theorem dateDays_yes (y m d : Nat) (h : DateD y m d) (w : World) (hT : TabD w) : Calls Tryd.prog 3 #[.int .i64 (y : Int), .int .i64 (m : Int), .int .i64 (d : Int)] w fun e w' => e = .returned (.bool true) ∧ Below w.heap.size w w' := by
  have H1 := hid (fun W => days_yes y m d h W)
  have H2 := hid (fun W => refIsDay_any y m d W)
  rw [isDay_of h] at H2
  have H3 := hid (fun W => refDays_any y m d h W)
  have HA := hid (fun W h => awake14 W h)
  have HTT := hid hT
  have hlt := day_lt h
  have H4 : Hid (∀ W : World, Calls Tryd.prog 11 #[.int .i64 ((dayD y m d : Int) - 719162)] W fun e w' => e = .returned (.tuple #[.int .i64 (y : Int), .int .i64 (m : Int), .int .i64 (d : Int), .int .i64 0]) ∧ w' = W) := fun W => by
    refine (civil_yes (dayD y m d) hlt W).mono ?_
    rintro e w' ⟨⟨a, b, c, h1, h2, rfl⟩, rfl⟩
    obtain ⟨rfl, rfl, rfl⟩ := day_inj h1 h h2
    exact ⟨rfl, rfl⟩
  have H5 := hid (fun h W => civil_yes (dayD y m d + 1) h W)
  have H6 : Hid (¬ dayD y m d + 1 < 3652059 → (∀ W : World, Calls Tryd.prog 11 #[.int .i64 ((dayD y m d : Int) - 719162 + 1)] W fun e w' => e = .returned (.tuple #[.int .i64 0, .int .i64 0, .int .i64 0, .int .i64 1]) ∧ w' = W) ∧ y = 9999 ∧ m = 12 ∧ d = 31) := fun hn => by
    refine ⟨fun W => civil_no _ (by omega) W, ?_⟩
    by_cases hc : y = 9999 ∧ m = 12 ∧ d = 31
    · exact hc
    · exact absurd (day_next h hc) hn
  have H7 : Hid (∀ a b c : Nat, DateD a b c → dayD a b c = dayD y m d + 1 → ∀ W : World, Calls Tryd.prog 8 #[.int .i64 (a : Int), .int .i64 (b : Int), .int .i64 (c : Int)] W fun e w' => e = .returned (.tuple #[.int .i64 ((dayD y m d : Int) - 719162 + 1), .int .i64 0]) ∧ w' = W) := fun a b c h1 h2 W => by
    have := days_yes a b c h1 W
    rw [h2, show ((dayD y m d + 1 : Nat) : Int) - 719162 = (dayD y m d : Int) - 719162 + 1 by omega] at this
    exact this
  have hbd : y ≤ 9999 ∧ m ≤ 12 ∧ d ≤ 31 := by
    have := long_31 y m
    unfold DateD at h
    omega
  clear hT h
  generalize dayD y m d = D at *
  obtain ⟨N, hN⟩ : ∃ N : Int, (D : Int) - 719162 = N := ⟨_, rfl⟩
  have HN1 : Hid (((D + 1 : Nat) : Int) - 719162 = N + 1) := by show _ = _; omega
  rw [HN1.out] at H5
  rw [hN] at H1 H3 H4 H6 H7
  have hNb : -719162 ≤ N ∧ N < 2932897 := by omega
  clear hN HN1
  by_cases hl : D + 1 < 3652059
  · have H5' := hid (H5.out hl)
    clear H5 H6 hl hlt
    go_enter Tryd.func3, Tryd.ntmps3
    go_wp2_with fail
    refine (H1.out _).mono ?_
    rintro e w1 ⟨rfl, rfl⟩
    go_wp2_with fail
    refine (H2.out _).mono ?_
    rintro e w1 ⟨rfl, rfl⟩
    go_wp2_with fail
    refine (H4.out _).mono ?_
    rintro e w1 ⟨rfl, rfl⟩
    go_wp2_with fail
    refine (H3.out _).mono ?_
    rintro e w1 ⟨rfl, rfl⟩
    go_wp2_with fail
    refine (H5'.out _).mono ?_
    rintro e w1 ⟨⟨a, b, c, q1, q2, rfl⟩, rfl⟩
    have H8 := hid (H7.out a b c q1 q2)
    clear q1 q2 H7
    go_wp2_with fail
    refine (H8.out _).mono ?_
    rintro e w1 ⟨rfl, rfl⟩
    go_wp2_with fail
    refine (HA.out _ HTT.out).mono ?_
    rintro e w1 ⟨rfl, hb1⟩
    go_wp2_with fail
    go_ret
    exact ⟨rfl, hb1⟩
  · obtain ⟨H5', rfl, rfl, rfl⟩ := H6.out hl
    replace H5' := hid H5'
    clear H5 H6 H7 hl hlt
    go_enter Tryd.func3, Tryd.ntmps3
    go_wp2_with fail
    refine (H1.out _).mono ?_
    rintro e w1 ⟨rfl, rfl⟩
    go_wp2_with fail
    refine (H2.out _).mono ?_
    rintro e w1 ⟨rfl, rfl⟩
    go_wp2_with fail
    refine (H4.out _).mono ?_
    rintro e w1 ⟨rfl, rfl⟩
    go_wp2_with fail
    refine (H3.out _).mono ?_
    rintro e w1 ⟨rfl, rfl⟩
    go_wp2_with fail
    refine (H5'.out _).mono ?_
    rintro e w1 ⟨rfl, rfl⟩
    go_wp2_with fail
    refine (HA.out _ HTT.out).mono ?_
    rintro e w1 ⟨rfl, hb1⟩
    go_wp2_with fail
    go_ret
    exact ⟨rfl, hb1⟩
theorem dateDays_law (y m d : Int) (w : World) (_ : (Lit.int .i64 y).wf = true) (_ : (Lit.int .i64 m).wf = true) (_ : (Lit.int .i64 d).wf = true) (hT : TabD w) : Calls Tryd.prog 3 #[.int .i64 y, .int .i64 m, .int .i64 d] w fun e w' => e = .returned (.bool true) ∧ Below w.heap.size w w' := by
  cases h : isDay y m d with
  | false => exact dateDays_no y m d h w hT
  | true =>
    obtain ⟨a, b, c, rfl, rfl, rfl, hd⟩ := isDay_nat h
    exact dateDays_yes a b c hd w hT
set_option maxHeartbeats 2000000 in
theorem dateCivils_law (n : Int) (w : World) (_ : (Lit.int .i64 n).wf = true) (hT : TabD w) : Calls Tryd.prog 4 #[.int .i64 n] w fun e w' => e = .returned (.bool true) ∧ Below w.heap.size w w' := by
  have HA := hid (fun W h => awake14 W h)
  have HTT := hid hT
  clear hT
  by_cases h : n < -719162 ∨ 2932896 < n
  · have H1 := hid (fun W => civil_no n h W)
    have H2 := hid (fun W => refCivil_no n h W)
    clear h
    go_enter Tryd.func4, Tryd.ntmps4
    go_wp2_with (first
      | (go_at_call 11; refine (H1.out _).mono ?_; rintro e w1 ⟨rfl, rfl⟩)
      | (go_at_call 13; refine (H2.out _).mono ?_; rintro e w1 ⟨rfl, rfl⟩)
      | (go_at_call 10; refine (HA.out _ HTT.out).mono ?_; rintro e w1 ⟨rfl, hb1⟩)
      | fail)
    go_ret
    exact ⟨rfl, hb1⟩
  · obtain ⟨D, hD, rfl⟩ : ∃ D : Nat, D < 3652059 ∧ n = (D : Int) - 719162 := ⟨(n + 719162).toNat, by omega, by omega⟩
    have H1 := hid (fun W => civil_yes D hD W)
    have H2 := hid (fun W => refCivil_yes D hD W)
    clear h
    generalize (D : Int) - 719162 = N at H1 H2 ⊢
    go_enter Tryd.func4, Tryd.ntmps4
    go_wp2_with fail
    refine (H1.out _).mono ?_
    rintro e w1 ⟨⟨y, m, d, q1, q2, rfl⟩, rfl⟩
    go_wp2_with fail
    refine (H2.out _).mono ?_
    rintro e w1 ⟨⟨a, b, c, q3, q4, rfl⟩, rfl⟩
    obtain ⟨rfl, rfl, rfl⟩ := day_inj q1 q3 (q2.trans q4.symm)
    have hy : ((y : Int) == 0) = false := by unfold DateD at q1; rw [beq_eq_false_iff_ne]; omega
    clear q1 q2 q3 q4
    go_wp2_with fail
    refine (HA.out _ HTT.out).mono ?_
    rintro e w1 ⟨rfl, hb1⟩
    go_wp2_with fail
    go_ret
    exact ⟨rfl, hb1⟩
end Go.Proofs.YthpplcadpngdiaaDoor
