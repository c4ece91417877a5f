
/- The longest run of groups that are nought, the first of equal ones; an IPv4 in its forms: plain mathematics. -/
import Derived.Test.YtocdjgehjiolhaaIpLoose
namespace Go.Proofs.Ytocdjgehjiolhaa
set_option linter.unusedSimpArgs false
set_option linter.unusedVariables false

/-- p is the longest run among those that begin ahead of i, or at i and end behind e; the first of equal ones. -/
structure Best (g : List Nat) (i e : Nat) (p : Nat × Nat) : Prop where
  run : Run g p
  le : p.1 ≤ i
  none : p.2 = 0 → p.1 = 0
  most : ∀ j k, j ≤ k → k ≤ 8 → allz g j k = true → (j < i ∨ (j = i ∧ e < k)) → k - j ≤ p.2
  first : ∀ j k, j ≤ k → k ≤ 8 → allz g j k = true → (j < i ∨ (j = i ∧ e < k)) → k - j = p.2 → 0 < p.2 → p.1 ≤ j
theorem best_step (g : List Nat) (i e : Nat) (p : Nat × Nat) (h : Best g i (e + 1) p) (he : e + 1 ≤ 8) (hi : i ≤ e + 1) : Best g i e (stepB g i (e + 1) p) := by
  have hr := stepB_run g i (e + 1) p h.run he hi
  unfold stepB at hr ⊢
  by_cases hc : (allz g i (e + 1) && decide (p.2 < e + 1 - i)) = true
  · rw [if_pos hc] at hr ⊢
    simp only [Bool.and_eq_true, decide_eq_true_eq] at hc
    refine ⟨hr, Nat.le_refl _, fun e0 => by simp at e0; omega, fun j k hjk hk hz hj => ?_, fun j k hjk hk hz hj heq h0 => ?_⟩
    · show k - j ≤ e + 1 - i
      rcases hj with hj | ⟨rfl, hj⟩
      · have := h.most j k hjk hk hz (.inl hj); omega
      · rcases Nat.lt_or_ge (e + 1) k with h2 | h2
        · have := h.most j k hjk hk hz (.inr ⟨rfl, h2⟩); omega
        · omega
    · show i ≤ j
      have heq' : k - j = e + 1 - i := heq
      rcases hj with hj | ⟨rfl, hj⟩
      · have := h.most j k hjk hk hz (.inl hj); omega
      · exact Nat.le_refl _
  · rw [if_neg hc] at hr ⊢
    refine ⟨hr, h.le, h.none, fun j k hjk hk hz hj => ?_, fun j k hjk hk hz hj heq h0 => ?_⟩
    · rcases hj with hj | ⟨rfl, hj⟩
      · exact h.most j k hjk hk hz (.inl hj)
      · rcases Nat.lt_or_ge (e + 1) k with h2 | h2
        · exact h.most j k hjk hk hz (.inr ⟨rfl, h2⟩)
        · have : k = e + 1 := by omega
          subst this
          rw [hz] at hc
          simp at hc
          omega
    · rcases hj with hj | ⟨rfl, hj⟩
      · exact h.first j k hjk hk hz (.inl hj) heq h0
      · exact h.le
theorem best_inner (g : List Nat) (i : Nat) (hi : i ≤ 8) (p : Nat × Nat) (h : Best g i 8 p) : ∀ t, t ≤ 8 - i → Best g i (8 - t) (innerB g i t p)
  | 0, _ => h
  | t + 1, ht => by
    have ih := best_inner g i hi p h t (by omega)
    have := best_step g i (8 - (t + 1)) (innerB g i t p) (by rw [show 8 - (t + 1) + 1 = 8 - t from by omega]; exact ih) (by omega) (by omega)
    rw [show 8 - (t + 1) + 1 = 8 - t from by omega] at this
    exact this
theorem best_outer (g : List Nat) : ∀ i, i ≤ 8 → Best g i 8 (outerB g i)
  | 0, _ => ⟨outerB_run g 0 (by omega), Nat.le_refl _, fun _ => rfl, fun j k hjk hk hz hj => by rcases hj with hj | ⟨_, hj⟩ <;> omega, fun j k hjk hk hz hj => by rcases hj with hj | ⟨_, hj⟩ <;> omega⟩
  | i + 1, h => by
    have h1 := best_inner g i (by omega) _ (best_outer g i (by omega)) (8 - i) (Nat.le_refl _)
    rw [show 8 - (8 - i) = i from by omega] at h1
    show Best g (i + 1) 8 (innerB g i (8 - i) (outerB g i))
    refine ⟨h1.run, Nat.le_succ_of_le h1.le, h1.none, fun j k hjk hk hz hj => ?_, fun j k hjk hk hz hj heq h0 => ?_⟩
    · rcases hj with hj | ⟨_, hj⟩
      · rcases Nat.lt_or_ge j i with h2 | h2
        · exact h1.most j k hjk hk hz (.inl h2)
        · rcases Nat.eq_or_lt_of_le hjk with h3 | h3
          · omega
          · exact h1.most j k hjk hk hz (.inr ⟨by omega, by omega⟩)
      · omega
    · rcases hj with hj | ⟨_, hj⟩
      · rcases Nat.lt_or_ge j i with h2 | h2
        · exact h1.first j k hjk hk hz (.inl h2) heq h0
        · exact h1.first j k hjk hk hz (.inr ⟨by omega, by omega⟩) heq h0
      · omega
/-- Which run it is. -/
theorem best_is (g : List Nat) (a n : Nat) (hr : Run g (a, n)) (h0 : n = 0 → a = 0) (hmost : ∀ j k, j ≤ k → k ≤ 8 → allz g j k = true → k - j ≤ n) (hfirst : ∀ j k, j ≤ k → k ≤ 8 → allz g j k = true → k - j = n → 0 < n → a ≤ j) : best g = (a, n) := by
  have hb := best_outer g 8 (Nat.le_refl _)
  have hb' : Best g 8 8 (best g) := hb
  have hr1 := hb'.run
  obtain ⟨p, hp⟩ : ∃ p, p = best g := ⟨_, rfl⟩
  rw [← hp] at hb' hr1 ⊢
  obtain ⟨b, m⟩ := p
  have h1 : a + n ≤ 8 := hr.1
  have h2 : b + m ≤ 8 := hr1.1
  have e1 : m ≤ n := by have := hmost b (b + m) (by omega) h2 hr1.2; omega
  have e2 : n ≤ m := by
    rcases Nat.eq_zero_or_pos n with h | h
    · omega
    · have := hb'.most a (a + n) (by omega) h1 hr.2 (.inl (by omega))
      simp at this
      omega
  obtain rfl : m = n := by omega
  rcases Nat.eq_zero_or_pos m with h | h
  · have e3 := h0 h
    have e4 : b = 0 := hb'.none h
    rw [e3, e4]
  · have e3 := hfirst b (b + m) (by omega) h2 hr1.2 (by omega) h
    have e4 : b ≤ a := hb'.first a (a + m) (by omega) h1 hr.2 (.inl (by omega)) (by simp) h
    rw [show b = a from by omega]

theorem form_step (P : List (List UInt8)) (k m kind v : Nat) (hP : P.getD k [] = formB kind v) (hv : v < 256) (h : allTo P k = some (m : Int)) : allTo P (k + 1) = some ((m * 256 + v : Nat) : Int) := by
  have hf := form_part kind v (by omega)
  rw [allTo, h]
  simp only [hP, hf]
  rw [if_neg (by omega)]
  congr 1
theorem form_end (P : List (List UInt8)) (m kind v L : Nat) (h4 : ¬ 4 < P.length) (hL : 256 ^ (5 - P.length) = L) (hP : P.getD (P.length - 1) [] = formB kind v) (hv : v < L) (hL2 : L ≤ 4294967296) (h : allTo P (P.length - 1) = some (m : Int)) : looseP P = some (v4B (m * L + v)) := by
  have hf := form_part kind v (by omega)
  have hLi : ((256 : Int) ^ (5 - P.length)) = (L : Int) := by rw [← hL]; exact (Int.natCast_pow 256 _).symm
  unfold looseP
  rw [if_neg h4, h]
  simp only [hP, hf, hLi]
  rw [if_neg (by omega)]
  congr 2
theorem forms_one (k0 n : Nat) (h : n < 4294967296) : looseP [formB k0 n] = some (v4B n) := by
  have := form_end [formB k0 n] 0 k0 n 4294967296 (by simp) (by simp) rfl h (Nat.le_refl _) rfl
  simpa using this
theorem forms_two (k0 k1 a n : Nat) (ha : a < 256) (h : n < 16777216) : looseP [formB k0 a, formB k1 n] = some (v4B (a * 16777216 + n)) := by
  have s1 := form_step [formB k0 a, formB k1 n] 0 0 k0 a rfl ha rfl
  have := form_end [formB k0 a, formB k1 n] _ k1 n 16777216 (by simp) (by simp) rfl h (by omega) s1
  simpa using this
theorem forms_three (k0 k1 k2 a b n : Nat) (ha : a < 256) (hb : b < 256) (h : n < 65536) : looseP [formB k0 a, formB k1 b, formB k2 n] = some (v4B ((a * 256 + b) * 65536 + n)) := by
  have s1 := form_step [formB k0 a, formB k1 b, formB k2 n] 0 0 k0 a rfl ha rfl
  have s2 := form_step [formB k0 a, formB k1 b, formB k2 n] 1 _ k1 b rfl hb s1
  have := form_end [formB k0 a, formB k1 b, formB k2 n] _ k2 n 65536 (by simp) (by simp) rfl h (by omega) s2
  simpa using this
theorem forms_four (k0 k1 k2 k3 a b c n : Nat) (ha : a < 256) (hb : b < 256) (hc : c < 256) (h : n < 256) : looseP [formB k0 a, formB k1 b, formB k2 c, formB k3 n] = some (v4B (((a * 256 + b) * 256 + c) * 256 + n)) := by
  have s1 := form_step [formB k0 a, formB k1 b, formB k2 c, formB k3 n] 0 0 k0 a rfl ha rfl
  have s2 := form_step [formB k0 a, formB k1 b, formB k2 c, formB k3 n] 1 _ k1 b rfl hb s1
  have s3 := form_step [formB k0 a, formB k1 b, formB k2 c, formB k3 n] 2 _ k2 c rfl hc s2
  have := form_end [formB k0 a, formB k1 b, formB k2 c, formB k3 n] _ k3 n 256 (by simp) (by simp) rfl h (by omega) s3
  simpa using this

end Go.Proofs.Ytocdjgehjiolhaa
