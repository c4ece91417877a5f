
/- What date.Days and date.Civil do, and the reference's. -/
import Derived.Test.YthpplcadpngdiaaDoorDtCal
namespace Go.Proofs.YthpplcadpngdiaaDoor
set_option linter.unusedVariables false
set_option linter.unusedSimpArgs false
open Go.RowKit

def isDay (y m d : Int) : Bool := decide (1 ≤ y ∧ y ≤ 9999 ∧ 1 ≤ m ∧ m ≤ 12 ∧ 1 ≤ d ∧ d ≤ (longD y.toNat m.toNat : Int))
theorem isDay_nat {y m d : Int} (h : isDay y m d = true) : ∃ a b c : Nat, y = a ∧ m = b ∧ d = c ∧ DateD a b c := by
  unfold isDay at h
  rw [decide_eq_true_eq] at h
  refine ⟨y.toNat, m.toNat, d.toNat, by omega, by omega, by omega, ?_⟩
  exact ⟨by omega, by omega, by omega, by omega, by omega, by omega⟩
theorem isDay_of {a b c : Nat} (h : DateD a b c) : isDay a b c = true := by
  obtain ⟨h1, h2, h3, h4, h5, h6⟩ := h
  unfold isDay
  rw [decide_eq_true_eq, Int.toNat_natCast, Int.toNat_natCast]
  omega
theorem isDay_any (y m d : Int) (w : World) : Calls Tryd.prog 26 #[.int .i64 y, .int .i64 m, .int .i64 d] w fun e w' => e = .returned (.bool (isDay y m d)) ∧ w' = w := by
  by_cases h : 1 ≤ y ∧ y ≤ 9999 ∧ 1 ≤ m ∧ m ≤ 12
  · obtain ⟨h1, h2, h3, h4⟩ := h
    obtain ⟨a, rfl⟩ : ∃ a : Nat, y = a := ⟨y.toNat, by omega⟩
    obtain ⟨b, rfl⟩ : ∃ a : Nat, m = a := ⟨m.toNat, by omega⟩
    have := isDate_yes a b d (by omega) (by omega) (by omega) (by omega) w
    have e : isDay a b d = decide (1 ≤ d ∧ d ≤ (longD a b : Int)) := by
      unfold isDay
      rw [Int.toNat_natCast, Int.toNat_natCast]
      exact decide_eq_decide.2 ⟨fun x => ⟨x.2.2.2.2.1, x.2.2.2.2.2⟩, fun x => ⟨h1, h2, h3, h4, x.1, x.2⟩⟩
    rw [e]; exact this
  · have e : isDay y m d = false := by
      unfold isDay
      rw [decide_eq_false_iff_not]
      exact fun x => h ⟨x.1, x.2.1, x.2.2.1, x.2.2.2.1⟩
    rw [e]; exact isDate_no y m d h w
theorem refIsDay_any (y m d : Int) (w : World) : Calls Tryd.prog 9 #[.int .i64 y, .int .i64 m, .int .i64 d] w fun e w' => e = .returned (.bool (isDay y m d)) ∧ w' = w := by
  by_cases h : 1 ≤ y ∧ y ≤ 9999 ∧ 1 ≤ m ∧ m ≤ 12
  · obtain ⟨h1, h2, h3, h4⟩ := h
    obtain ⟨a, rfl⟩ : ∃ a : Nat, y = a := ⟨y.toNat, by omega⟩
    obtain ⟨b, rfl⟩ : ∃ a : Nat, m = a := ⟨m.toNat, by omega⟩
    have := refDate_yes a b d (by omega) (by omega) (by omega) (by omega) w
    have e : isDay a b d = decide (1 ≤ d ∧ d ≤ (longD a b : Int)) := by
      unfold isDay
      rw [Int.toNat_natCast, Int.toNat_natCast]
      exact decide_eq_decide.2 ⟨fun x => ⟨x.2.2.2.2.1, x.2.2.2.2.2⟩, fun x => ⟨h1, h2, h3, h4, x.1, x.2⟩⟩
    rw [e]; exact this
  · have e : isDay y m d = false := by
      unfold isDay
      rw [decide_eq_false_iff_not]
      exact fun x => h ⟨x.1, x.2.1, x.2.2.1, x.2.2.2.1⟩
    rw [e]; exact refDate_no y m d h w
set_option maxHeartbeats 1000000 in
theorem days_no (y m d : Int) (h : isDay y m d = false) (w : World) : Calls Tryd.prog 8 #[.int .i64 y, .int .i64 m, .int .i64 d] w fun e w' => e = .returned (.tuple #[.int .i64 0, .int .i64 1]) ∧ w' = w := by
  have HD := hid (fun W => isDay_any y m d W)
  rw [h] at HD
  clear h
  go_enter Tryd.func8, Tryd.ntmps8
  go_wp2_with (go_at_call 26; refine (HD.out _).mono ?_; rintro e w' ⟨rfl, rfl⟩)
  go_ret2
  exact ⟨rfl, rfl⟩
set_option maxHeartbeats 1000000 in
theorem days_yes (y m d : Nat) (h : DateD y m d) (w : World) : Calls Tryd.prog 8 #[.int .i64 (y : Int), .int .i64 (m : Int), .int .i64 (d : Int)] w fun e w' => e = .returned (.tuple #[.int .i64 ((dayD y m d : Int) - 719162), .int .i64 0]) ∧ w' = w := by
  have HD := hid (fun W => isDay_any y m d W)
  rw [isDay_of h] at HD
  have HQ : Hid (((dayD y m d : Nat) : Int) = (aheadD y : Int) + cumD y m + d - 1) := by
    show _ = _
    unfold dayD; have := h.2.2.2.2.1; omega
  obtain ⟨h1, h2, h3, h4, h5, h6⟩ := h
  have hl := long_ge y m
  have hd : d ≤ 31 := by omega
  clear h6 hl
  have HH := hid (fun W => ahead_any y h1 (by omega) W)
  have hb := ahead_le h1 h2
  have HL := hid (fun k (hk : k ≤ 12) W => long_any y k (by omega) (by omega) W)
  have HC := hid (fun k (hk : 1 ≤ k) => cum_succ y k hk)
  have HB : Hid (∀ k, 1 ≤ k → k ≤ 12 → cumD y k ≤ 366) := fun k a b => cum_le y k a b
  have HG := hid (fun k => long_ge y k)
  generalize dayD y m d = N at HQ ⊢
  generalize aheadD y = A at HQ HH hb
  go_enter Tryd.func8, Tryd.ntmps8
  go_wp2_with (first
    | (go_at_call 26; refine (HD.out _).mono ?_; rintro e w' ⟨rfl, rfl⟩)
    | (go_at_call 27; refine (HH.out _).mono ?_; rintro e w' ⟨rfl, rfl⟩))
  go_loop [8, 9] (fun n i => ∃ k : Nat, 1 ≤ k ∧ k ≤ m ∧ i = .int .i64 (k : Int) ∧ n = .int .i64 (-719162 + (A : Int) + (d : Int) - 1 + (cumD y k : Int))) (fun _ i => m - (intOf i).toNat)
  case atStart => exact ⟨1, Nat.le_refl _, h3, rfl, by rw [cum_one]; go_num⟩
  case round =>
    obtain ⟨k, hk1, hk2, rfl, rfl⟩ := hrel
    have hb2 := HB.out k hk1 (by omega)
    by_cases hlt : k < m
    · have hi : (k : Int) < (m : Int) := by omega
      have HS := hid (HC.out k hk1)
      have HLK := hid (HL.out k (by omega))
      have hg := HG.out k
      generalize longD y k = L at HS HLK hg
      generalize cumD y k = C at hb2 HS ⊢
      go_wp2_with (go_at_call 28; refine (HLK.out _).mono ?_; rintro e w' ⟨rfl, rfl⟩)
      go_round
      case rel => exact ⟨k + 1, by omega, by omega, by go_num, by rw [HS.out]; go_num⟩
      case measure => simp [intOf]; omega
    · have hi : ¬ (k : Int) < (m : Int) := by omega
      have HK : Hid (k = m) := by show _ = _; omega
      go_wp2_with fail
      go_ret2
      refine ⟨ret_tup2 ?_ rfl, rfl⟩
      rw [HK.out, HQ.out]; omega
set_option maxHeartbeats 1000000 in
theorem refDays_any (y m d : Nat) (h : DateD y m d) (w : World) : Calls Tryd.prog 12 #[.int .i64 (y : Int), .int .i64 (m : Int), .int .i64 (d : Int)] w fun e w' => e = .returned (.int .i64 ((dayD y m d : Int) - 719162)) ∧ w' = w := by
  have HQ : Hid (((dayD y m d : Nat) : Int) = (aheadD y : Int) + cumD y m + d - 1) := by
    show _ = _
    unfold dayD; have := h.2.2.2.2.1; omega
  obtain ⟨h1, h2, h3, h4, h5, h6⟩ := h
  have hl := long_ge y m
  have hd : d ≤ 31 := by omega
  clear h6 hl
  have HH := hid (fun W => refAhead_any y h1 (by omega) W)
  have hb := ahead_le h1 h2
  have HL := hid (fun k (hk : k ≤ 12) W => refLong_any y k (by omega) (by omega) W)
  have HC := hid (fun k (hk : 1 ≤ k) => cum_succ y k hk)
  have HB : Hid (∀ k, 1 ≤ k → k ≤ 12 → cumD y k ≤ 366) := fun k a b => cum_le y k a b
  have HG := hid (fun k => long_ge y k)
  generalize dayD y m d = N at HQ ⊢
  generalize aheadD y = A at HQ HH hb
  go_enter Tryd.func12, Tryd.ntmps12
  go_wp2_with (go_at_call 31; refine (HH.out _).mono ?_; rintro e w' ⟨rfl, rfl⟩)
  go_loop [7, 8] (fun n i => ∃ k : Nat, 1 ≤ k ∧ k ≤ m ∧ i = .int .i64 (k : Int) ∧ n = .int .i64 ((A : Int) - 719162 + (cumD y k : Int))) (fun _ i => m - (intOf i).toNat)
  case atStart => exact ⟨1, Nat.le_refl _, h3, rfl, by rw [cum_one]; go_num⟩
  case round =>
    obtain ⟨k, hk1, hk2, rfl, rfl⟩ := hrel
    have hb2 := HB.out k hk1 (by omega)
    by_cases hlt : k < m
    · have hi : (k : Int) < (m : Int) := by omega
      have HS := hid (HC.out k hk1)
      have HLK := hid (HL.out k (by omega))
      have hg := HG.out k
      generalize longD y k = L at HS HLK hg
      generalize cumD y k = C at hb2 HS ⊢
      go_wp2_with (go_at_call 29; refine (HLK.out _).mono ?_; rintro e w' ⟨rfl, rfl⟩)
      go_round
      case rel => exact ⟨k + 1, by omega, by omega, by go_num, by rw [HS.out]; go_num⟩
      case measure => simp [intOf]; omega
    · have hi : ¬ (k : Int) < (m : Int) := by omega
      have HK : Hid (k = m) := by show _ = _; omega
      go_wp2_with fail
      go_ret
      refine ⟨ret_int ?_, rfl⟩
      rw [HK.out, HQ.out]; omega
end Go.Proofs.YthpplcadpngdiaaDoor
