
/- The calendar: leap years, how many days a month has, how many are ahead of a year and of a month; a date is told by its day. -/
import Derived.Test.YthpplcadpngdiaaDoorTxWords
namespace Go.Proofs.YthpplcadpngdiaaDoor
set_option linter.unusedVariables false
set_option linter.unusedSimpArgs false

def leapD (y : Nat) : Bool := decide (y % 4 = 0) && (!decide (y % 100 = 0) || decide (y % 400 = 0))
def longD (y m : Nat) : Nat := if m = 4 ∨ m = 6 ∨ m = 9 ∨ m = 11 then 30 else if m = 2 then (if leapD y then 29 else 28) else 31
def aheadD (y : Nat) : Nat := (y - 1) * 365 + (y - 1) / 4 - (y - 1) / 100 + (y - 1) / 400
def yearD (y : Nat) : Nat := if leapD y then 366 else 365
def cumD (y : Nat) : Nat → Nat
  | 0 => 0
  | m + 1 => if m = 0 then 0 else cumD y m + longD y m
def DateD (y m d : Nat) : Prop := 1 ≤ y ∧ y ≤ 9999 ∧ 1 ≤ m ∧ m ≤ 12 ∧ 1 ≤ d ∧ d ≤ longD y m
def dayD (y m d : Nat) : Nat := aheadD y + cumD y m + d - 1
theorem leap_iff (y : Nat) : leapD y = true ↔ y % 4 = 0 ∧ (¬ y % 100 = 0 ∨ y % 400 = 0) := by
  unfold leapD
  rw [Bool.and_eq_true, Bool.or_eq_true, decide_eq_true_eq, decide_eq_true_eq, Bool.not_eq_true', decide_eq_false_iff_not]
theorem year_cases (y : Nat) : (yearD y = 366 ∧ y % 4 = 0 ∧ (¬ y % 100 = 0 ∨ y % 400 = 0)) ∨ (yearD y = 365 ∧ ¬ (y % 4 = 0 ∧ (¬ y % 100 = 0 ∨ y % 400 = 0))) := by
  unfold yearD
  by_cases h : leapD y = true
  · exact .inl ⟨if_pos h, (leap_iff y).1 h⟩
  · exact .inr ⟨if_neg h, fun e => h ((leap_iff y).2 e)⟩
theorem ahead_succ (y : Nat) (h : 1 ≤ y) : aheadD (y + 1) = aheadD y + yearD y := by
  obtain ⟨x, rfl⟩ : ∃ x, y = x + 1 := ⟨y - 1, by omega⟩
  unfold aheadD
  simp only [Nat.add_sub_cancel]
  have a4 : ((x + 1) / 4 = x / 4 + 1 ∧ (x + 1) % 4 = 0) ∨ ((x + 1) / 4 = x / 4 ∧ ¬ (x + 1) % 4 = 0) := by omega
  have a100 : ((x + 1) / 100 = x / 100 + 1 ∧ (x + 1) % 100 = 0) ∨ ((x + 1) / 100 = x / 100 ∧ ¬ (x + 1) % 100 = 0) := by omega
  have a400 : ((x + 1) / 400 = x / 400 + 1 ∧ (x + 1) % 400 = 0) ∨ ((x + 1) / 400 = x / 400 ∧ ¬ (x + 1) % 400 = 0) := by omega
  have b1 : (x + 1) % 400 = 0 → (x + 1) % 100 = 0 := by omega
  have b2 : (x + 1) % 100 = 0 → (x + 1) % 4 = 0 := by omega
  have b3 : x / 100 ≤ x / 4 := Nat.div_le_div_left (by omega) (by omega)
  rcases year_cases (x + 1) with ⟨e, h1, h2⟩ | ⟨e, h1⟩ <;> rw [e] <;> generalize (x + 1) / 4 = p4 at * <;> generalize (x + 1) / 100 = p100 at * <;> generalize (x + 1) / 400 = p400 at * <;> generalize x / 4 = q4 at * <;> generalize x / 100 = q100 at * <;> generalize x / 400 = q400 at * <;> generalize (x + 1) % 4 = m4 at * <;> generalize (x + 1) % 100 = m100 at * <;> generalize (x + 1) % 400 = m400 at * <;> omega
theorem long_ge (y m : Nat) : 28 ≤ longD y m ∧ longD y m ≤ 31 := by
  unfold longD
  split
  · omega
  · split
    · split <;> omega
    · omega
theorem cum_succ (y m : Nat) (h : 1 ≤ m) : cumD y (m + 1) = cumD y m + longD y m := by
  show (if m = 0 then 0 else _) = _
  rw [if_neg (by omega)]
theorem cum_one (y : Nat) : cumD y 1 = 0 := rfl
theorem cum_year (y : Nat) : cumD y 13 = yearD y := by
  unfold yearD
  by_cases h : leapD y = true
  · rw [if_pos h]; simp [cumD, longD, h]
  · rw [if_neg h]; simp [cumD, longD, h]
theorem cum_mono (y : Nat) : ∀ (k m : Nat), 1 ≤ m → cumD y m ≤ cumD y (m + k)
  | 0, m, _ => Nat.le_refl _
  | k + 1, m, h => by
    have := cum_mono y k m h
    rw [← Nat.add_assoc, cum_succ y (m + k) (by omega)]; omega
theorem cum_lt (y m m' : Nat) (h1 : 1 ≤ m) (h : m < m') : cumD y m + longD y m ≤ cumD y m' := by
  have := cum_mono y (m' - (m + 1)) (m + 1) (by omega)
  rw [show m + 1 + (m' - (m + 1)) = m' by omega, cum_succ y m h1] at this
  exact this
theorem ahead_mono : ∀ (k y : Nat), 1 ≤ y → aheadD y ≤ aheadD (y + k)
  | 0, y, _ => Nat.le_refl _
  | k + 1, y, h => by
    have := ahead_mono k y h
    rw [← Nat.add_assoc, ahead_succ (y + k) (by omega)]; omega
theorem ahead_lt (y y' : Nat) (h1 : 1 ≤ y) (h : y < y') : aheadD y + yearD y ≤ aheadD y' := by
  have := ahead_mono (y' - (y + 1)) (y + 1) (by omega)
  rw [show y + 1 + (y' - (y + 1)) = y' by omega, ahead_succ y h1] at this
  exact this
theorem date_in {y m d : Nat} (h : DateD y m d) : cumD y m + d - 1 < yearD y := by
  obtain ⟨h1, h2, h3, h4, h5, h6⟩ := h
  have := cum_lt y m 13 h3 (by omega)
  rw [cum_year] at this
  omega
theorem day_inj {y m d y' m' d' : Nat} (h : DateD y m d) (h' : DateD y' m' d') (e : dayD y m d = dayD y' m' d') : y = y' ∧ m = m' ∧ d = d' := by
  have i := date_in h
  have i' := date_in h'
  obtain ⟨h1, h2, h3, h4, h5, h6⟩ := h
  obtain ⟨g1, g2, g3, g4, g5, g6⟩ := h'
  unfold dayD at e
  have ey : y = y' := by
    rcases Nat.lt_trichotomy y y' with l | l | l
    · have := ahead_lt y y' h1 l; omega
    · exact l
    · have := ahead_lt y' y g1 l; omega
  subst ey
  have em : m = m' := by
    rcases Nat.lt_trichotomy m m' with l | l | l
    · have := cum_lt y m m' h3 l; omega
    · exact l
    · have := cum_lt y m' m g3 l; omega
  subst em
  exact ⟨rfl, rfl, by omega⟩
theorem day_lt {y m d : Nat} (h : DateD y m d) : dayD y m d < 3652059 := by
  have i := date_in h
  obtain ⟨h1, h2, h3, h4, h5, h6⟩ := h
  have : aheadD y + yearD y ≤ aheadD 10000 := ahead_lt y 10000 h1 (by omega)
  have e : aheadD 10000 = 3652059 := by simp [aheadD]
  unfold dayD; omega
theorem ahead_le {y : Nat} (h1 : 1 ≤ y) (h2 : y ≤ 9999) : aheadD y ≤ 3651694 := by
  have := ahead_mono (9999 - y) y h1
  rw [show y + (9999 - y) = 9999 by omega] at this
  have e : aheadD 9999 = 3651694 := by simp [aheadD]
  omega
theorem cum_le (y m : Nat) (h1 : 1 ≤ m) (h2 : m ≤ 12) : cumD y m ≤ 366 := by
  have := cum_lt y m 13 h1 (by omega)
  rw [cum_year] at this
  rcases year_cases y with ⟨e, _⟩ | ⟨e, _⟩ <;> omega
/-- The day behind a date is a date's, but for the last one. -/
theorem day_next {y m d : Nat} (h : DateD y m d) (hn : ¬ (y = 9999 ∧ m = 12 ∧ d = 31)) : dayD y m d + 1 < 3652059 := by
  rcases Nat.lt_or_ge (dayD y m d + 1) 3652059 with l | l
  · exact l
  · have hl : DateD 9999 12 31 := by refine ⟨by omega, by omega, by omega, by omega, by omega, ?_⟩; decide
    have e : dayD 9999 12 31 = 3652058 := by decide
    have := day_lt h
    exact absurd (day_inj h hl (by omega)) hn

/-! How the year is found. -/
def cOf (D : Nat) : Nat := min (D % 146097 / 36524) 3
def eOf (D : Nat) : Nat := min ((D % 146097 - cOf D * 36524) % 1461 / 365) 3
def yOf (D : Nat) : Nat := 1 + D / 146097 * 400 + (cOf D * 100 + (D % 146097 - cOf D * 36524) / 1461 * 4) + eOf D
def rOf (D : Nat) : Nat := (D % 146097 - cOf D * 36524) % 1461 - eOf D * 365
theorem mod_4 (q c f : Nat) : (400 * q + 100 * c + 4 * f + 3 + 1) % 4 = 0 := by omega
theorem mod_100 (q c f : Nat) (h : f < 24) : ¬ (400 * q + 100 * c + 4 * f + 3 + 1) % 100 = 0 := by omega
theorem mod_400 (q : Nat) : (400 * q + 100 * 3 + 4 * 24 + 3 + 1) % 400 = 0 := by omega
set_option maxHeartbeats 1000000 in
theorem year_of (D : Nat) (h : D < 3652059) : 1 ≤ yOf D ∧ yOf D ≤ 9999 ∧ aheadD (yOf D) + rOf D = D ∧ rOf D < yearD (yOf D) := by
  unfold yOf rOf eOf
  obtain ⟨c, hc⟩ : ∃ c, c = cOf D := ⟨_, rfl⟩
  rw [← hc]
  unfold cOf at hc
  obtain ⟨q, hq⟩ : ∃ q, q = D / 146097 := ⟨_, rfl⟩
  obtain ⟨A, hA⟩ : ∃ A, A = D % 146097 := ⟨_, rfl⟩
  rw [← hA] at hc
  rw [← hq, ← hA]
  have e0 : D = 146097 * q + A := by omega
  have hA2 : A < 146097 := by omega
  have hc3 : c ≤ 3 := by omega
  have hc4 : c * 36524 ≤ A := by omega
  obtain ⟨B, hB⟩ : ∃ B, B = A - c * 36524 := ⟨_, rfl⟩
  rw [← hB]
  have hB2 : B < 36525 := by omega
  have hB3 : c < 3 → B < 36524 := by omega
  obtain ⟨f, hf⟩ : ∃ f, f = B / 1461 := ⟨_, rfl⟩
  obtain ⟨C, hC⟩ : ∃ C, C = B % 1461 := ⟨_, rfl⟩
  rw [← hf, ← hC]
  have e1 : B = 1461 * f + C := by omega
  have hC2 : C < 1461 := by omega
  have hf2 : f ≤ 24 := by omega
  obtain ⟨e, he⟩ : ∃ e, e = min (C / 365) 3 := ⟨_, rfl⟩
  rw [← he]
  have he3 : e ≤ 3 := by omega
  have he5 : e ≤ C / 365 := by rw [he]; exact Nat.min_le_left _ _
  have he4 : e * 365 ≤ C := Nat.le_trans (Nat.mul_le_mul_right _ he5) (Nat.div_mul_le_self C 365)
  have e2 : A = c * 36524 + B := by clear hc he he5 he4 hB3; omega
  clear hq hA hB hf hC
  obtain ⟨Y, hY⟩ : ∃ Y, Y = 400 * q + 100 * c + 4 * f + e := ⟨_, rfl⟩
  have ey : 1 + q * 400 + (c * 100 + f * 4) + e = Y + 1 := by omega
  rw [ey]
  have d4 : Y / 4 = 100 * q + 25 * c + f := by clear hc he he5 e2 e0 e1 hB2 hB3 hC2 hA2 hc4 he4 h ey; omega
  have d100 : Y / 100 = 4 * q + c := by clear hc he he5 e2 e0 e1 hB2 hB3 hC2 hA2 hc4 he4 h ey; omega
  have d400 : Y / 400 = q := by clear hc he he5 e2 e0 e1 hB2 hB3 hC2 hA2 hc4 he4 h ey; omega
  have hq2 : q ≤ 24 := by omega
  have hah : aheadD (Y + 1) + (C - e * 365) = D := by
    unfold aheadD
    rw [Nat.add_sub_cancel, d4, d100, d400]; clear hc he he5 hB3 d4 d100 d400; omega
  have hbd : C - e * 365 < yearD (Y + 1) := by
    rcases year_cases (Y + 1) with ⟨g, g1, g2⟩ | ⟨g, g1⟩
    · rw [g]; omega
    · rw [g]
      rcases Nat.lt_or_ge (C - e * 365) 365 with l | l
      · exact l
      · exfalso
        have x1 : e = 3 := by clear hc hah d4 d100 d400 hY ey g1 e0 e1 hB3; omega
        have x2 : C = 1460 := by omega
        apply g1
        subst x1
        rw [hY]
        refine ⟨mod_4 q c f, ?_⟩
        rcases Nat.lt_or_ge f 24 with l2 | l2
        · exact .inl (mod_100 q c f l2)
        · have x4 : f = 24 := Nat.le_antisymm hf2 l2
          have x3 : c = 3 := by
            rcases Nat.lt_or_ge c 3 with l3 | l3
            · exfalso
              have x5 := hB3 l3
              clear hc he he5 hB3 d4 d100 d400 hah g1 hY ey e0 e2
              omega
            · exact Nat.le_antisymm hc3 l3
          rw [x4, x3]
          exact .inr (mod_400 q)
  refine ⟨by omega, ?_, hah, hbd⟩
  rcases Nat.lt_or_ge Y 9999 with l | l
  · omega
  · exfalso
    have := ahead_mono (Y + 1 - 10000) 10000 (by omega)
    rw [show 10000 + (Y + 1 - 10000) = Y + 1 by omega] at this
    have e9 : aheadD 10000 = 3652059 := by simp [aheadD]
    omega
end Go.Proofs.YthpplcadpngdiaaDoor
