
/- What date's and the reference's small functions of the calendar do. -/
import Derived.Test.YthpplcadpngdiaaDoorDtMath
import Derived.Test.YthpplcadpngdiaaDoorRows
namespace Go.Proofs.YthpplcadpngdiaaDoor
set_option linter.unusedVariables false
set_option linter.unusedSimpArgs false
open Go.RowKit

theorem results_tmp4 {fn : Func} {t u v x : Tmp} (h : fn.results = #[.tmp t, .tmp u, .tmp v, .tmp x]) (tmps : Array Value) (P : Program) (w : World) :
    (results fn tmps).run P w = .ok (.tuple #[tmps.getD t undef, tmps.getD u undef, tmps.getD v undef, tmps.getD x undef]) w := by
  simp [results, h]
theorem ret_bool {a b : Bool} (h : a = b) : Ending.returned (.bool a) = .returned (.bool b) := by rw [h]
theorem ret_tup2 {k l : IntKind} {a b c d : Int} (h : a = b) (h2 : c = d) : Ending.returned (.tuple #[.int k a, .int l c]) = .returned (.tuple #[.int k b, .int l d]) := by rw [h, h2]
set_option maxHeartbeats 1000000 in
theorem leap_any (y : Nat) (hy : y ≤ 100000) (w : World) : Calls Tryd.prog 56 #[.int .i64 (y : Int)] w fun e w' => e = .returned (.bool (leapD y)) ∧ w' = w := by
  go_enter Tryd.func56, Tryd.ntmps56
  go_wp2
  all_goals (go_ret; refine ⟨?_, rfl⟩)
  all_goals (refine ret_bool ?_; rw [Bool.eq_iff_iff, leap_iff]; (try simp only [Bool.or_eq_true, Bool.and_eq_true, beq_iff_eq, bne_iff_ne, ne_eq]); (first | omega | (simp; omega)))
set_option maxHeartbeats 1000000 in
theorem refLeap_any (y : Nat) (hy : y ≤ 100000) (w : World) : Calls Tryd.prog 32 #[.int .i64 (y : Int)] w fun e w' => e = .returned (.bool (leapD y)) ∧ w' = w := by
  go_enter Tryd.func32, Tryd.ntmps32
  go_wp2
  all_goals (go_ret; refine ⟨?_, rfl⟩)
  all_goals (refine ret_bool ?_; rw [Bool.eq_iff_iff, leap_iff]; (try simp only [Bool.or_eq_true, Bool.and_eq_true, beq_iff_eq, bne_iff_ne, ne_eq]); (first | omega | (simp; omega)))
theorem long_cases (y m : Nat) : (m = 2 ∧ ((leapD y = true ∧ longD y m = 29) ∨ (leapD y = false ∧ longD y m = 28))) ∨ ((m = 4 ∨ m = 6 ∨ m = 9 ∨ m = 11) ∧ longD y m = 30) ∨ (¬ m = 2 ∧ ¬ m = 4 ∧ ¬ m = 6 ∧ ¬ m = 9 ∧ ¬ m = 11 ∧ longD y m = 31) := by
  by_cases h2 : m = 2
  · subst h2
    cases h : leapD y <;> simp [longD, h]
  · by_cases h4 : m = 4 ∨ m = 6 ∨ m = 9 ∨ m = 11
    · exact .inr (.inl ⟨h4, by simp [longD, h4]⟩)
    · exact .inr (.inr ⟨h2, by omega, by omega, by omega, by omega, by simp [longD, h2, h4]⟩)
set_option maxHeartbeats 1000000 in
theorem long_any (y m : Nat) (hy : y ≤ 100000) (hm : m ≤ 100000) (w : World) : Calls Tryd.prog 28 #[.int .i64 (y : Int), .int .i64 (m : Int)] w fun e w' => e = .returned (.int .i64 (longD y m : Int)) ∧ w' = w := by
  have HC := hid (long_cases y m)
  have HL := hid (fun W => leap_any y hy W)
  generalize longD y m = R at HC ⊢
  generalize leapD y = b at HC HL
  rcases HC.out with ⟨rfl, ⟨rfl, rfl⟩ | ⟨rfl, rfl⟩⟩ | ⟨rfl | rfl | rfl | rfl, rfl⟩ | ⟨h2, h4, h6, h9, h11, rfl⟩
  rotate_right
  · have g2 : ¬ (m : Int) = 2 := by omega
    have g4 : ¬ (m : Int) = 4 := by omega
    have g6 : ¬ (m : Int) = 6 := by omega
    have g9 : ¬ (m : Int) = 9 := by omega
    have g11 : ¬ (m : Int) = 11 := by omega
    clear h2 h4 h6 h9 h11
    go_enter Tryd.func28, Tryd.ntmps28
    go_wp2_with fail
    go_ret
    exact ⟨rfl, rfl⟩
  all_goals go_enter Tryd.func28, Tryd.ntmps28
  all_goals go_wp2_with (go_at_call 56; refine (HL.out _).mono ?_; rintro e w' ⟨rfl, rfl⟩)
  all_goals (go_ret; exact ⟨rfl, rfl⟩)
set_option maxHeartbeats 1000000 in
theorem refLong_any (y m : Nat) (hy : y ≤ 100000) (hm : m ≤ 100000) (w : World) : Calls Tryd.prog 29 #[.int .i64 (y : Int), .int .i64 (m : Int)] w fun e w' => e = .returned (.int .i64 (longD y m : Int)) ∧ w' = w := by
  have HC := hid (long_cases y m)
  have HL := hid (fun W => refLeap_any y hy W)
  generalize longD y m = R at HC ⊢
  generalize leapD y = b at HC HL
  rcases HC.out with ⟨rfl, ⟨rfl, rfl⟩ | ⟨rfl, rfl⟩⟩ | ⟨rfl | rfl | rfl | rfl, rfl⟩ | ⟨h2, h4, h6, h9, h11, rfl⟩
  rotate_right
  · have g2 : ¬ (m : Int) = 2 := by omega
    have g4 : ((m : Int) == 4) = false := beq_eq_false_iff_ne.2 (by omega)
    have g6 : ((m : Int) == 6) = false := beq_eq_false_iff_ne.2 (by omega)
    have g9 : ((m : Int) == 9) = false := beq_eq_false_iff_ne.2 (by omega)
    have g11 : ((m : Int) == 11) = false := beq_eq_false_iff_ne.2 (by omega)
    clear h2 h4 h6 h9 h11
    go_enter Tryd.func29, Tryd.ntmps29
    go_wp2_with fail
    go_ret
    exact ⟨rfl, rfl⟩
  all_goals go_enter Tryd.func29, Tryd.ntmps29
  all_goals go_wp2_with (go_at_call 32; refine (HL.out _).mono ?_; rintro e w' ⟨rfl, rfl⟩)
  all_goals (go_ret; exact ⟨rfl, rfl⟩)
set_option maxHeartbeats 1000000 in
theorem ahead_any (y : Nat) (h1 : 1 ≤ y) (hy : y ≤ 100000) (w : World) : Calls Tryd.prog 27 #[.int .i64 (y : Int)] w fun e w' => e = .returned (.int .i64 (aheadD y : Int)) ∧ w' = w := by
  go_enter Tryd.func27, Tryd.ntmps27
  go_wp2
  go_ret
  refine ⟨ret_int ?_, rfl⟩
  obtain ⟨x, rfl⟩ : ∃ x, y = x + 1 := ⟨y - 1, by omega⟩
  unfold aheadD
  have b3 : x / 100 ≤ x / 4 := Nat.div_le_div_left (by omega) (by omega)
  rw [Nat.add_sub_cancel]
  have e0 : ((x + 1 : Nat) : Int) - 1 = (x : Int) := by omega
  rw [e0]
  omega
set_option maxHeartbeats 1000000 in
theorem yearOf_any (D : Nat) (hD : D < 3652059) (w : World) : Calls Tryd.prog 30 #[.int .i64 (D : Int)] w fun e w' => e = .returned (.tuple #[.int .i64 (yOf D : Int), .int .i64 (rOf D : Int)]) ∧ w' = w := by
  have HA : Hid (((yOf D : Nat) : Int) = 1 + (D : Int) / 146097 * 400 + (min ((D : Int) % 146097 / 36524) 3 * 100 + ((D : Int) % 146097 - min ((D : Int) % 146097 / 36524) 3 * 36524) / 1461 * 4) + min (((D : Int) % 146097 - min ((D : Int) % 146097 / 36524) 3 * 36524) % 1461 / 365) 3) := by
    show _ = _
    unfold yOf eOf cOf
    have h4 : min (D % 146097 / 36524) 3 * 36524 ≤ D % 146097 := Nat.le_trans (Nat.mul_le_mul_right _ (Nat.min_le_left _ _)) (Nat.div_mul_le_self _ _)
    have e1 : min ((D : Int) % 146097 / 36524) 3 = ((min (D % 146097 / 36524) 3 : Nat) : Int) := by omega
    rw [e1]
    generalize min (D % 146097 / 36524) 3 = c at h4 ⊢
    have e2 : (D : Int) % 146097 - (c : Int) * 36524 = ((D % 146097 - c * 36524 : Nat) : Int) := by omega
    rw [e2]
    generalize D % 146097 - c * 36524 = B
    omega
  have HB : Hid (((rOf D : Nat) : Int) = ((D : Int) % 146097 - min ((D : Int) % 146097 / 36524) 3 * 36524) % 1461 - min (((D : Int) % 146097 - min ((D : Int) % 146097 / 36524) 3 * 36524) % 1461 / 365) 3 * 365) := by
    show _ = _
    unfold rOf eOf cOf
    have h4 : min (D % 146097 / 36524) 3 * 36524 ≤ D % 146097 := Nat.le_trans (Nat.mul_le_mul_right _ (Nat.min_le_left _ _)) (Nat.div_mul_le_self _ _)
    have e1 : min ((D : Int) % 146097 / 36524) 3 = ((min (D % 146097 / 36524) 3 : Nat) : Int) := by omega
    rw [e1]
    generalize min (D % 146097 / 36524) 3 = c at h4 ⊢
    have e2 : (D : Int) % 146097 - (c : Int) * 36524 = ((D % 146097 - c * 36524 : Nat) : Int) := by omega
    rw [e2]
    generalize D % 146097 - c * 36524 = B
    have h5 : min (B % 1461 / 365) 3 * 365 ≤ B % 1461 := Nat.le_trans (Nat.mul_le_mul_right _ (Nat.min_le_left _ _)) (Nat.div_mul_le_self _ _)
    omega
  go_enter Tryd.func30, Tryd.ntmps30
  go_wp2
  go_ret2
  refine ⟨?_, rfl⟩
  exact ret_tup2 HA.out.symm HB.out.symm

set_option maxHeartbeats 1000000 in
theorem isDate_yes (y m : Nat) (d : Int) (h1 : 1 ≤ y) (h2 : y ≤ 9999) (h3 : 1 ≤ m) (h4 : m ≤ 12) (w : World) : Calls Tryd.prog 26 #[.int .i64 (y : Int), .int .i64 (m : Int), .int .i64 d] w fun e w' => e = .returned (.bool (decide (1 ≤ d ∧ d ≤ (longD y m : Int)))) ∧ w' = w := by
  have HL := hid (fun W => long_any y m (by omega) (by omega) W)
  have hb := long_ge y m
  generalize longD y m = L at HL hb ⊢
  by_cases hd : 1 ≤ d
  · by_cases hd2 : d ≤ (L : Int)
    all_goals go_enter Tryd.func26, Tryd.ntmps26
    all_goals go_wp2_with (go_at_call 28; refine (HL.out _).mono ?_; rintro e w' ⟨rfl, rfl⟩)
    all_goals (go_ret; refine ⟨ret_bool ?_, rfl⟩; simp [hd, hd2])
  · go_enter Tryd.func26, Tryd.ntmps26
    go_wp2_with fail
    go_ret
    refine ⟨ret_bool ?_, rfl⟩
    simp; omega
set_option maxHeartbeats 1000000 in
theorem isDate_no (y m d : Int) (h : ¬ (1 ≤ y ∧ y ≤ 9999 ∧ 1 ≤ m ∧ m ≤ 12)) (w : World) : Calls Tryd.prog 26 #[.int .i64 y, .int .i64 m, .int .i64 d] w fun e w' => e = .returned (.bool false) ∧ w' = w := by
  by_cases h1 : 1 ≤ y
  · by_cases h2 : y ≤ 9999
    · by_cases h3 : 1 ≤ m
      · have h4 : ¬ m ≤ 12 := fun h4 => h ⟨h1, h2, h3, h4⟩
        clear h
        go_enter Tryd.func26, Tryd.ntmps26
        go_wp2_with fail
        go_ret
        exact ⟨rfl, rfl⟩
      · clear h
        go_enter Tryd.func26, Tryd.ntmps26
        go_wp2_with fail
        go_ret
        exact ⟨rfl, rfl⟩
    · clear h
      go_enter Tryd.func26, Tryd.ntmps26
      go_wp2_with fail
      go_ret
      exact ⟨rfl, rfl⟩
  · clear h
    go_enter Tryd.func26, Tryd.ntmps26
    go_wp2_with fail
    go_ret
    exact ⟨rfl, rfl⟩
set_option maxHeartbeats 1000000 in
theorem refDate_yes (y m : Nat) (d : Int) (h1 : 1 ≤ y) (h2 : y ≤ 9999) (h3 : 1 ≤ m) (h4 : m ≤ 12) (w : World) : Calls Tryd.prog 9 #[.int .i64 (y : Int), .int .i64 (m : Int), .int .i64 d] w fun e w' => e = .returned (.bool (decide (1 ≤ d ∧ d ≤ (longD y m : Int)))) ∧ w' = w := by
  have HL := hid (fun W => refLong_any y m (by omega) (by omega) W)
  have hb := long_ge y m
  generalize longD y m = L at HL hb ⊢
  by_cases hd : 1 ≤ d
  · by_cases hd2 : d ≤ (L : Int)
    all_goals go_enter Tryd.func9, Tryd.ntmps9
    all_goals go_wp2_with (go_at_call 29; refine (HL.out _).mono ?_; rintro e w' ⟨rfl, rfl⟩)
    all_goals (go_ret; refine ⟨ret_bool ?_, rfl⟩; simp [hd, hd2])
  · go_enter Tryd.func9, Tryd.ntmps9
    go_wp2_with fail
    go_ret
    refine ⟨ret_bool ?_, rfl⟩
    simp; omega
set_option maxHeartbeats 1000000 in
theorem refDate_no (y m d : Int) (h : ¬ (1 ≤ y ∧ y ≤ 9999 ∧ 1 ≤ m ∧ m ≤ 12)) (w : World) : Calls Tryd.prog 9 #[.int .i64 y, .int .i64 m, .int .i64 d] w fun e w' => e = .returned (.bool false) ∧ w' = w := by
  by_cases h1 : 1 ≤ y
  · by_cases h2 : y ≤ 9999
    · by_cases h3 : 1 ≤ m
      · have h4 : ¬ m ≤ 12 := fun h4 => h ⟨h1, h2, h3, h4⟩
        clear h
        go_enter Tryd.func9, Tryd.ntmps9
        go_wp2_with fail
        go_ret
        exact ⟨rfl, rfl⟩
      · clear h
        go_enter Tryd.func9, Tryd.ntmps9
        go_wp2_with fail
        go_ret
        exact ⟨rfl, rfl⟩
    · clear h
      go_enter Tryd.func9, Tryd.ntmps9
      go_wp2_with fail
      go_ret
      exact ⟨rfl, rfl⟩
  · clear h
    go_enter Tryd.func9, Tryd.ntmps9
    go_wp2_with fail
    go_ret
    exact ⟨rfl, rfl⟩
set_option maxHeartbeats 1000000 in
theorem refAhead_any (y : Nat) (h1 : 1 ≤ y) (hy : y ≤ 9999) (w : World) : Calls Tryd.prog 31 #[.int .i64 (y : Int)] w fun e w' => e = .returned (.int .i64 (aheadD y : Int)) ∧ w' = w := by
  have HA := hid (fun k (h : 1 ≤ k) => ahead_succ k h)
  have HE : Hid (∀ k, 1 ≤ k → k ≤ 9999 → aheadD k ≤ 3651694) := fun k a b => ahead_le a b
  go_enter Tryd.func31, Tryd.ntmps31
  go_wp2_with fail
  go_loop [3, 4] (fun n i => ∃ k : Nat, 1 ≤ k ∧ k ≤ y ∧ i = .int .i64 (k : Int) ∧ n = .int .i64 (aheadD k : Int)) (fun _ i => y - (intOf i).toNat)
  case atStart => exact ⟨1, Nat.le_refl _, h1, rfl, rfl⟩
  case round =>
    obtain ⟨k, hk1, hk2, rfl, rfl⟩ := hrel
    have hb := HE.out k hk1 (by omega)
    by_cases hlt : k < y
    · have hi : (k : Int) < (y : Int) := by omega
      have HS := hid (HA.out k hk1)
      have HL := hid (fun W => refLeap_any k (by omega) W)
      unfold yearD at HS
      generalize leapD k = b at HL HS
      generalize aheadD k = A at hb HS ⊢
      cases b
      all_goals go_wp2_with (go_at_call 32; refine (HL.out _).mono ?_; rintro e w' ⟨rfl, rfl⟩)
      all_goals go_round
      case _ => exact ⟨k + 1, by omega, by omega, by go_num, by rw [HS.out]; go_num⟩
      case _ => simp [intOf]; omega
      case _ => exact ⟨k + 1, by omega, by omega, by go_num, by rw [HS.out]; go_num⟩
      case _ => simp [intOf]; omega
    · have hi : ¬ (k : Int) < (y : Int) := by omega
      have HK : Hid (k = y) := by show _ = _; omega
      go_wp2_with fail
      go_ret
      exact ⟨by rw [HK.out]; rfl, rfl⟩
end Go.Proofs.YthpplcadpngdiaaDoor
