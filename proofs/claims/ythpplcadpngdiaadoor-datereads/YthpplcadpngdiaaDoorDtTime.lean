
/- What date's timeOf, withoutFraction, fullYear, monthOf and isDayName do. -/
import Derived.Test.YthpplcadpngdiaaDoorDtOff
namespace Go.Proofs.YthpplcadpngdiaaDoor
set_option linter.unusedVariables false
set_option linter.unusedSimpArgs false
open Go.RowKit Go.BigFrame

def optT (o : Option Int) : Value := match o with
  | some n => .tuple #[.int .i64 n, .int .i64 0]
  | none => .tuple #[.int .i64 0, .int .i64 5]
def clkH (l : List UInt8) : Nat := numD (l.take 2)
def clkM (l : List UInt8) : Nat := numD ((l.drop 3).take 2)
def clkS (l : List UInt8) : Nat := numD (l.drop 6)
def timeV (y m d : Nat) (l : List UInt8) (a : Int) : Option Int :=
  if isDay y m d = true ∧ clkH l ≤ 23 ∧ clkM l ≤ 59 ∧ clkS l ≤ 59 then some (((dayD y m d : Int) - 719162) * 86400 + ((clkH l : Int) * 3600 + (clkM l : Int) * 60 + (clkS l : Int) - a)) else none
def clkF : List UInt8 := [48, 48, 58, 48, 48, 58, 48, 48]
theorem sliceT_run (S : ByteArray) (a : Nat) (h : a ≤ S.size) (W : World) : (Instr.slice 9 (.string S) none (some (.int .i64 (a : Int))) none).run Tryd.prog W = .ok (.string (S.extract 0 a)) W := by
  have h2 := run_slice_string_h (P := Tryd.prog) (w := W) (t := 9) (s := S) Tryd.underlying9 .i64 (a : Int) (by omega) (by omega)
  rw [Int.toNat_natCast] at h2
  exact h2
set_option maxHeartbeats 2000000 in
set_option maxRecDepth 1000000 in
theorem timeOf_any (y m d : Nat) (l : List UInt8) (a : Int) (ha : -90000 ≤ a ∧ a ≤ 90000) (hl : isOfL l clkF = true) (w : World) :
    Calls Tryd.prog 37 #[.int .i64 (y : Int), .int .i64 (m : Int), .int .i64 (d : Int), .string (asS l), .int .i64 a] w fun e w' => e = .returned (optT (timeV y m d l a)) ∧ Below w.heap.size w w' := by
  have h8 : l.length = 8 := isOf_len _ _ hl
  have d1 : ∀ c ∈ l.take 2, digB c = true := by have := isOf_digs hl 0 2 (by decide) (by decide); rwa [List.drop_zero] at this
  have d2 : ∀ c ∈ (l.drop 3).take 2, digB c = true := isOf_digs hl 3 2 (by decide) (by decide)
  have d3 : ∀ c ∈ l.drop 6, digB c = true := by
    have := isOf_digs hl 6 2 (by decide) (by decide)
    rwa [List.take_of_length_le (by rw [List.length_drop]; omega)] at this
  have HN1 := hid (fun W => number_any (l.take 2) (by rw [List.length_take]; omega) d1 W)
  have HN2 := hid (fun W => number_any ((l.drop 3).take 2) (by rw [List.length_take]; omega) d2 W)
  have HN3 := hid (fun W => number_any (l.drop 6) (by rw [List.length_drop]; omega) d3 W)
  have b1 : clkH l < 100 := num_lt 2 _ (by rw [List.length_take]; omega) d1
  have b2 : clkM l < 100 := num_lt 2 _ (by rw [List.length_take, List.length_drop]; omega) d2
  have b3 : clkS l < 100 := num_lt 2 _ (by rw [List.length_drop]; omega) d3
  have HX1 : Hid ((asS l).extract 0 2 = asS (l.take 2)) := ext8_to l 2
  have HX2 : Hid ((asS l).extract 3 5 = asS ((l.drop 3).take 2)) := by show _ = _; rw [ext_asS, asS_data]
  have HX3 : Hid ((asS l).extract 6 (asS l).size = asS (l.drop 6)) := ext8_from l 6
  have HSZ : Hid ((asS l).size = 8) := by show _ = _; rw [asS_size, h8]
  have HDN : Hid (isDay y m d = false → ∀ W : World, Calls Tryd.prog 8 #[.int .i64 (y : Int), .int .i64 (m : Int), .int .i64 (d : Int)] W fun e w' => e = .returned (.tuple #[.int .i64 0, .int .i64 1]) ∧ w' = W) := fun h W => days_no y m d h W
  have HDY : Hid (isDay y m d = true → dayD y m d < 3652059 ∧ ∀ W : World, Calls Tryd.prog 8 #[.int .i64 (y : Int), .int .i64 (m : Int), .int .i64 (d : Int)] W fun e w' => e = .returned (.tuple #[.int .i64 ((dayD y m d : Int) - 719162), .int .i64 0]) ∧ w' = W) := fun h => by
    obtain ⟨a, b, c, e1, e2, e3, h⟩ := isDay_nat h
    have q1 : y = a := by omega
    have q2 : m = b := by omega
    have q3 : d = c := by omega
    subst q1; subst q2; subst q3
    exact ⟨day_lt h, fun W => days_yes y m d h W⟩
  unfold timeV
  change Hid (∀ W : World, Calls Tryd.prog 38 #[.string (asS (l.take 2))] W fun e w' => e = .returned (.int .i64 (clkH l : Int)) ∧ Below W.heap.size W w') at HN1
  change Hid (∀ W : World, Calls Tryd.prog 38 #[.string (asS ((l.drop 3).take 2))] W fun e w' => e = .returned (.int .i64 (clkM l : Int)) ∧ Below W.heap.size W w') at HN2
  change Hid (∀ W : World, Calls Tryd.prog 38 #[.string (asS (l.drop 6))] W fun e w' => e = .returned (.int .i64 (clkS l : Int)) ∧ Below W.heap.size W w') at HN3
  clear d1 d2 d3 hl h8
  generalize clkH l = A at *
  generalize clkM l = B at *
  generalize clkS l = C at *
  generalize asS (l.take 2) = s1 at *
  generalize asS ((l.drop 3).take 2) = s2 at *
  generalize asS (l.drop 6) = s3 at *
  generalize asS l = s at *
  generalize isDay y m d = D at *
  generalize dayD y m d = N at *
  have hs1 : ∀ W : World, (Instr.slice 9 (.string s) none (some (.int .i64 2)) none).run Tryd.prog W = .ok (.string s1) W := fun W => by
    rw [← HX1.out]; exact sliceT_run s 2 (by have := HSZ.out; omega) W
  have hs2 : ∀ W : World, (Instr.slice 9 (.string s) (some (.int .i64 3)) (some (.int .i64 5)) none).run Tryd.prog W = .ok (.string s2) W := fun W => by
    rw [← HX2.out]; exact sliceD_run s 3 5 3 5 rfl rfl (by omega) (by have := HSZ.out; omega) _ rfl W
  have hs3 : ∀ W : World, (Instr.slice 9 (.string s) (some (.int .i64 6)) none none).run Tryd.prog W = .ok (.string s3) W := fun W => by
    rw [← HX3.out]; exact sliceF_run s 6 (by have := HSZ.out; omega) W
  have c1 : ∀ w2, REG 38 #[.string s1] w2 (.int .i64 A) := fun w2 d os => Calls.regrown_of (HN1.out _)
  have c2 : ∀ w2, REG 38 #[.string s2] w2 (.int .i64 B) := fun w2 d os => Calls.regrown_of (HN2.out _)
  have c3 : ∀ w2, REG 38 #[.string s3] w2 (.int .i64 C) := fun w2 d os => Calls.regrown_of (HN3.out _)
  clear HN1 HN2 HN3
  obtain ⟨ha1, ha2⟩ := ha
  cases D
  · have HD := hid (HDN.out rfl)
    rw [if_neg (fun h => by simp at h)]
    clear HDN HDY
    go_enter Tryd.func37, Tryd.ntmps37
    go_wp2_with (go_at_call 8; refine (HD.out _).mono ?_; rintro e w2 ⟨rfl, rfl⟩)
    refine wp_region_quiet_below (by kernel_rfl) (by kernel_rfl) ?_
    repeat (go_big_quiet_step (first | (go_at_call_of 38 (Value.string s1); exact c1 _ _ _) | (go_at_call_of 38 (Value.string s2); exact c2 _ _ _) | (go_at_call_of 38 (Value.string s3); exact c3 _ _ _)))
    refine wpQuiet_nil ?_
    rintro W9 ⟨⟨dq, osq⟩, hw9⟩
    have HB9 : Hid (Below w2.heap.size w2 W9) := by rw [hw9]; exact below_regrown w2 dq osq
    clear hw9 c1 c2 c3 hs1 hs2 hs3
    go_wp2_with fail
    go_ret2
    exact ⟨rfl, HB9.out⟩
  · obtain ⟨hN, hd⟩ := HDY.out rfl
    have HD := hid hd
    clear HDN HDY hd
    by_cases g1 : A ≤ 23
    · by_cases g2 : B ≤ 59
      · by_cases g3 : C ≤ 59
        · rw [if_pos ⟨rfl, g1, g2, g3⟩]
          have f1 : decide (23 < (A : Int)) = false := decide_eq_false (by omega)
          have f2 : decide (59 < (B : Int)) = false := decide_eq_false (by omega)
          have f3 : decide (59 < (C : Int)) = false := decide_eq_false (by omega)
          go_enter Tryd.func37, Tryd.ntmps37
          go_wp2_with (go_at_call 8; refine (HD.out _).mono ?_; rintro e w2 ⟨rfl, rfl⟩)
          refine wp_region_quiet_below (by kernel_rfl) (by kernel_rfl) ?_
          repeat (go_big_quiet_step (first | (go_at_call_of 38 (Value.string s1); exact c1 _ _ _) | (go_at_call_of 38 (Value.string s2); exact c2 _ _ _) | (go_at_call_of 38 (Value.string s3); exact c3 _ _ _)))
          refine wpQuiet_nil ?_
          rintro W9 ⟨⟨dq, osq⟩, hw9⟩
          have HB9 : Hid (Below w2.heap.size w2 W9) := by rw [hw9]; exact below_regrown w2 dq osq
          clear hw9 c1 c2 c3 hs1 hs2 hs3
          go_wp2_with fail
          go_ret2
          exact ⟨rfl, HB9.out⟩
        · rw [if_neg (fun h => g3 h.2.2.2)]
          have f1 : decide (23 < (A : Int)) = false := decide_eq_false (by omega)
          have f2 : decide (59 < (B : Int)) = false := decide_eq_false (by omega)
          have f3 : decide (59 < (C : Int)) = true := decide_eq_true (by omega)
          clear g1 g2 g3
          go_enter Tryd.func37, Tryd.ntmps37
          go_wp2_with (go_at_call 8; refine (HD.out _).mono ?_; rintro e w2 ⟨rfl, rfl⟩)
          refine wp_region_quiet_below (by kernel_rfl) (by kernel_rfl) ?_
          repeat (go_big_quiet_step (first | (go_at_call_of 38 (Value.string s1); exact c1 _ _ _) | (go_at_call_of 38 (Value.string s2); exact c2 _ _ _) | (go_at_call_of 38 (Value.string s3); exact c3 _ _ _)))
          refine wpQuiet_nil ?_
          rintro W9 ⟨⟨dq, osq⟩, hw9⟩
          have HB9 : Hid (Below w2.heap.size w2 W9) := by rw [hw9]; exact below_regrown w2 dq osq
          clear hw9 c1 c2 c3 hs1 hs2 hs3
          go_wp2_with fail
          go_ret2
          exact ⟨rfl, HB9.out⟩
      · rw [if_neg (fun h => g2 h.2.2.1)]
        have f1 : decide (23 < (A : Int)) = false := decide_eq_false (by omega)
        have f2 : decide (59 < (B : Int)) = true := decide_eq_true (by omega)
        clear g1 g2
        go_enter Tryd.func37, Tryd.ntmps37
        go_wp2_with (go_at_call 8; refine (HD.out _).mono ?_; rintro e w2 ⟨rfl, rfl⟩)
        refine wp_region_quiet_below (by kernel_rfl) (by kernel_rfl) ?_
        repeat (go_big_quiet_step (first | (go_at_call_of 38 (Value.string s1); exact c1 _ _ _) | (go_at_call_of 38 (Value.string s2); exact c2 _ _ _) | (go_at_call_of 38 (Value.string s3); exact c3 _ _ _)))
        refine wpQuiet_nil ?_
        rintro W9 ⟨⟨dq, osq⟩, hw9⟩
        have HB9 : Hid (Below w2.heap.size w2 W9) := by rw [hw9]; exact below_regrown w2 dq osq
        clear hw9 c1 c2 c3 hs1 hs2 hs3
        go_wp2_with fail
        go_ret2
        exact ⟨rfl, HB9.out⟩
    · rw [if_neg (fun h => g1 h.2.1)]
      have f1 : decide (23 < (A : Int)) = true := decide_eq_true (by omega)
      clear g1
      go_enter Tryd.func37, Tryd.ntmps37
      go_wp2_with (go_at_call 8; refine (HD.out _).mono ?_; rintro e w2 ⟨rfl, rfl⟩)
      refine wp_region_quiet_below (by kernel_rfl) (by kernel_rfl) ?_
      repeat (go_big_quiet_step (first | (go_at_call_of 38 (Value.string s1); exact c1 _ _ _) | (go_at_call_of 38 (Value.string s2); exact c2 _ _ _) | (go_at_call_of 38 (Value.string s3); exact c3 _ _ _)))
      refine wpQuiet_nil ?_
      rintro W9 ⟨⟨dq, osq⟩, hw9⟩
      have HB9 : Hid (Below w2.heap.size w2 W9) := by rw [hw9]; exact below_regrown w2 dq osq
      clear hw9 c1 c2 c3 hs1 hs2 hs3
      go_wp2_with fail
      go_ret2
      exact ⟨rfl, HB9.out⟩
end Go.Proofs.YthpplcadpngdiaaDoor
