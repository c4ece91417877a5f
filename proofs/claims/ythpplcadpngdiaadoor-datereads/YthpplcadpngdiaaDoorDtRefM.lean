
/- What the reference of dates reads, and that it is what the program reads. No program in it. -/
import Derived.Test.YthpplcadpngdiaaDoorDtDig
namespace Go.Proofs.YthpplcadpngdiaaDoor
set_option linter.unusedVariables false
set_option linter.unusedSimpArgs false

/-- The reference's number: digits from one place to another one; -1: they are none. -/
def numT (s : List UInt8) (a b : Nat) : Int := if s.length < b then -1 else if ((s.drop a).take (b - a)).all digB = true then (numD ((s.drop a).take (b - a)) : Int) else -1
def twoR (s : List UInt8) (a lim : Nat) : Int := if (lim : Int) ≤ numT s a (a + 2) then -1 else numT s a (a + 2)
def runT : List UInt8 → Nat
  | c :: r => if digB c then runT r + 1 else 0
  | [] => 0
def zoneT (z : List UInt8) : Option Int :=
  if z.head? = some 122 then (if z.length = 1 then some 0 else none)
  else if z.length = 6 ∧ 0 ≤ twoR z 1 24 ∧ 0 ≤ twoR z 4 60 ∧ z.getD 3 0 = 58 ∧ (z.getD 0 0 = 43 ∨ z.getD 0 0 = 45) then
    some (if z.getD 0 0 = 43 then twoR z 1 24 * 3600 + twoR z 4 60 * 60 else -(twoR z 1 24 * 3600 + twoR z 4 60 * 60))
  else none
def tailR (z : List UInt8) : Option Int := match z with
  | c :: r => if c = 46 then (if runT r < 1 ∨ 9 < runT r then none else zoneT (r.drop (runT r))) else zoneT (c :: r)
  | [] => none
def headR (s : List UInt8) : Bool := decide (isDay (numT s 0 4) (numT s 5 7) (numT s 8 10) = true ∧ 0 ≤ twoR s 11 24 ∧ 0 ≤ twoR s 14 60 ∧ 0 ≤ twoR s 17 60 ∧ s.getD 4 0 = 45 ∧ s.getD 7 0 = 45 ∧ s.getD 10 0 = 116 ∧ s.getD 13 0 = 58 ∧ s.getD 16 0 = 58)
def secR (s : List UInt8) : Int := ((dayD (numT s 0 4).toNat (numT s 5 7).toNat (numT s 8 10).toNat : Int) - 719162) * 86400 + twoR s 11 24 * 3600 + twoR s 14 60 * 60 + twoR s 17 60
def r3339 (s : List UInt8) : Option Int := if 20 ≤ s.length ∧ headR s = true then (tailR (s.drop 19)).map (fun a => secR s - a) else none
theorem all2 (a b : UInt8) : ([a, b] : List UInt8).all digB = (digB a && digB b) := by simp
theorem numT_none {s : List UInt8} {a b : Nat} (h : numT s a b = -1 → False) : b ≤ s.length ∧ (∀ c ∈ (s.drop a).take (b - a), digB c = true) ∧ numT s a b = numD ((s.drop a).take (b - a)) := by
  unfold numT at h ⊢
  by_cases h1 : s.length < b
  · rw [if_pos h1] at h; exact absurd rfl h
  · rw [if_neg h1] at h ⊢
    by_cases h2 : ((s.drop a).take (b - a)).all digB = true
    · rw [if_pos h2]; exact ⟨by omega, List.all_eq_true.1 h2, rfl⟩
    · rw [if_neg h2] at h; exact absurd rfl h
theorem numT_of {s : List UInt8} {a b : Nat} (h1 : b ≤ s.length) (h2 : ∀ c ∈ (s.drop a).take (b - a), digB c = true) : numT s a b = numD ((s.drop a).take (b - a)) := by
  unfold numT
  rw [if_neg (by omega), if_pos (List.all_eq_true.2 h2)]
theorem numT_ge (s : List UInt8) (a b : Nat) : -1 ≤ numT s a b := by
  unfold numT
  split
  · omega
  · split <;> omega
theorem twoR_ge {s : List UInt8} {a lim : Nat} (h : 0 ≤ twoR s a lim) : a + 2 ≤ s.length ∧ (∀ c ∈ (s.drop a).take 2, digB c = true) ∧ twoR s a lim = numD ((s.drop a).take 2) ∧ numD ((s.drop a).take 2) < lim := by
  unfold twoR at h ⊢
  split at h
  · omega
  · next hc =>
    rw [if_neg hc]
    obtain ⟨h1, h2, h3⟩ := numT_none (fun e : numT s a (a + 2) = -1 => by omega)
    rw [show a + 2 - a = 2 by omega] at h2 h3
    exact ⟨h1, h2, h3, by omega⟩
theorem twoR_of {s : List UInt8} {a lim : Nat} (h1 : a + 2 ≤ s.length) (h2 : ∀ c ∈ (s.drop a).take 2, digB c = true) : twoR s a lim = if lim ≤ numD ((s.drop a).take 2) then -1 else (numD ((s.drop a).take 2) : Int) := by
  unfold twoR
  rw [numT_of h1 (by rw [show a + 2 - a = 2 by omega]; exact h2), show a + 2 - a = 2 by omega]
  by_cases h : lim ≤ numD ((s.drop a).take 2)
  · rw [if_pos h, if_pos (by omega)]
  · rw [if_neg h, if_neg (by omega)]
theorem offF6 {z : List UInt8} : zF6.any (isOfL z) = true ↔ z.length = 6 ∧ (∀ c ∈ (z.drop 1).take 2, digB c = true) ∧ (∀ c ∈ (z.drop 4).take 2, digB c = true) ∧ z.getD 3 0 = 58 ∧ (z.getD 0 0 = 43 ∨ z.getD 0 0 = 45) := by
  unfold zF6
  simp only [List.any_cons, List.any_nil, Bool.or_false, Bool.or_eq_true]
  constructor
  · intro h
    have hl : z.length = 6 := by rcases h with h | h <;> exact isOf_len _ _ h
    match z, hl with
    | [a, b, c, d, e, f], _ =>
      rw [isOf_x a 43 _ _ (by decide), isOf_x a 45 _ _ (by decide), isOf_d, isOf_d, isOf_x d 58 _ _ (by decide), isOf_d, isOf_d] at h
      simp only [Bool.and_eq_true, decide_eq_true_eq] at h
      refine ⟨rfl, ?_, ?_, ?_, ?_⟩
      · intro x hx
        simp at hx
        rcases h with h | h <;> rcases hx with rfl | rfl <;> simp_all
      · intro x hx
        simp at hx
        rcases h with h | h <;> rcases hx with rfl | rfl <;> simp_all
      · rcases h with h | h <;> exact h.2.2.2.1
      · rcases h with h | h
        · exact .inl h.1
        · exact .inr h.1
  · rintro ⟨hl, h1, h2, h3, h4⟩
    match z, hl with
    | [a, b, c, d, e, f], _ =>
      rw [isOf_x a 43 _ _ (by decide), isOf_x a 45 _ _ (by decide), isOf_d, isOf_d, isOf_x d 58 _ _ (by decide), isOf_d, isOf_d]
      simp at h1 h2 h3 h4
      rw [h1.1, h1.2, h2.1, h2.2, h3]
      rcases h4 with rfl | rfl
      · exact .inl (by decide)
      · exact .inr (by decide)
theorem zoneT_eq (z : List UInt8) : zoneT z = z3339 z := by
  unfold zoneT z3339
  by_cases h0 : z.head? = some 122
  · rw [if_pos h0]
    match z, h0 with
    | c :: r, h0 =>
      have : c = 122 := by simpa using h0
      subst this
      cases r with
      | nil => rfl
      | cons x r =>
        rw [if_neg (by simp), if_neg (by simp), offL, if_neg]
        intro h
        have := (offF6.1 h).2.2.2.2
        revert this; simp
  · rw [if_neg h0, if_neg (show ¬ z = [122] by rintro rfl; exact h0 rfl)]
    unfold offL
    by_cases hf : zF6.any (isOfL z) = true
    · obtain ⟨hl, h1, h2, h3, h4⟩ := offF6.1 hf
      rw [if_pos hf]
      have t1 := twoR_of (s := z) (a := 1) (lim := 24) (by omega) h1
      have t2 := twoR_of (s := z) (a := 4) (lim := 60) (by omega) h2
      have e6 : z.drop (z.length - 2) = (z.drop 4).take 2 := by rw [hl, List.take_of_length_le (by rw [List.length_drop]; omega)]
      unfold offV
      rw [e6]
      by_cases hc : 23 < numD ((z.drop 1).take 2) ∨ 59 < numD ((z.drop 4).take 2)
      · rw [if_pos hc, if_neg]
        rintro ⟨_, q1, q2, _⟩
        rw [t1] at q1; rw [t2] at q2
        rcases hc with hc | hc
        · rw [if_pos (by omega)] at q1; omega
        · rw [if_pos (by omega)] at q2; omega
      · rw [if_neg hc]
        rw [if_neg (by omega)] at t1 t2
        rw [if_pos ⟨hl, by omega, by omega, h3, h4⟩, t1, t2]
        rcases h4 with h4 | h4
        · rw [h4, if_pos rfl, if_neg (by decide)]
        · rw [h4, if_neg (by decide), if_pos rfl]
    · rw [if_neg hf, if_neg]
      rintro ⟨hl, q1, q2, q3, q4⟩
      exact hf (offF6.2 ⟨hl, (twoR_ge q1).2.1, (twoR_ge q2).2.1, q3, q4⟩)
theorem z3339_not {c : UInt8} {r : List UInt8} (h : c ≠ 122 ∧ c ≠ 43 ∧ c ≠ 45) : z3339 (c :: r) = none := by
  unfold z3339 offL
  rw [if_neg (by simp [h.1]), if_neg]
  intro hf
  have := (offF6.1 hf).2.2.2.2
  simp at this
  rcases this with e | e
  · exact h.2.1 e
  · exact h.2.2 e
theorem run9_min : ∀ (n : Nat) (l : List UInt8), run9 n l = min n (runT l)
  | 0, l => by simp [run9]
  | n + 1, [] => by simp [run9, runT]
  | n + 1, c :: r => by
    rw [run9, runT]
    split
    · rw [run9_min n r]; omega
    · simp
theorem runT_at : ∀ (l : List UInt8) (k : Nat), k < runT l → ∃ c r, l.drop k = c :: r ∧ digB c = true
  | [], k, h => by simp [runT] at h
  | c :: r, 0, h => by
    rw [runT] at h
    split at h
    · next hc => exact ⟨c, r, rfl, hc⟩
    · omega
  | c :: r, k + 1, h => by
    rw [runT] at h
    split at h
    · exact runT_at r k (by omega)
    · omega
theorem dig_not {c : UInt8} (h : digB c = true) : c ≠ 122 ∧ c ≠ 43 ∧ c ≠ 45 := by
  refine ⟨?_, ?_, ?_⟩ <;> (rintro rfl; revert h; decide)
theorem tailR_eq (z : List UInt8) : tailR z = z3339 (woF z) := by
  cases z with
  | nil => rfl
  | cons c r =>
    show (if c = 46 then _ else _) = z3339 (if c = 46 ∧ 0 < run9 9 r then r.drop (run9 9 r) else c :: r)
    rw [run9_min]
    by_cases hc : c = 46
    · rw [if_pos hc]
      by_cases h1 : runT r < 1
      · rw [if_pos (.inl h1), if_neg (by omega), hc, z3339_not (by decide)]
      · by_cases h9 : 9 < runT r
        · rw [if_pos (.inr h9), if_pos ⟨hc, by omega⟩, Nat.min_eq_left (by omega)]
          obtain ⟨x, t, e, hx⟩ := runT_at r 9 h9
          rw [e, z3339_not (dig_not hx)]
        · rw [if_neg (by omega), if_pos ⟨hc, by omega⟩, Nat.min_eq_right (by omega), zoneT_eq]
    · rw [if_neg hc, if_neg (fun h => hc h.1), zoneT_eq]
theorem split19 {s : List UInt8} (h : 19 ≤ s.length) : ∃ a0 a1 a2 a3 a4 a5 a6 a7 a8 a9 a10 a11 a12 a13 a14 a15 a16 a17 a18 t, s = a0 :: a1 :: a2 :: a3 :: a4 :: a5 :: a6 :: a7 :: a8 :: a9 :: a10 :: a11 :: a12 :: a13 :: a14 :: a15 :: a16 :: a17 :: a18 :: t := by
  rcases s with _ | ⟨a0, s⟩
  · simp at h
  rcases s with _ | ⟨a1, s⟩
  · simp at h
  rcases s with _ | ⟨a2, s⟩
  · simp at h
  rcases s with _ | ⟨a3, s⟩
  · simp at h
  rcases s with _ | ⟨a4, s⟩
  · simp at h
  rcases s with _ | ⟨a5, s⟩
  · simp at h
  rcases s with _ | ⟨a6, s⟩
  · simp at h
  rcases s with _ | ⟨a7, s⟩
  · simp at h
  rcases s with _ | ⟨a8, s⟩
  · simp at h
  rcases s with _ | ⟨a9, s⟩
  · simp at h
  rcases s with _ | ⟨a10, s⟩
  · simp at h
  rcases s with _ | ⟨a11, s⟩
  · simp at h
  rcases s with _ | ⟨a12, s⟩
  · simp at h
  rcases s with _ | ⟨a13, s⟩
  · simp at h
  rcases s with _ | ⟨a14, s⟩
  · simp at h
  rcases s with _ | ⟨a15, s⟩
  · simp at h
  rcases s with _ | ⟨a16, s⟩
  · simp at h
  rcases s with _ | ⟨a17, s⟩
  · simp at h
  rcases s with _ | ⟨a18, s⟩
  · simp at h
  exact ⟨a0, a1, a2, a3, a4, a5, a6, a7, a8, a9, a10, a11, a12, a13, a14, a15, a16, a17, a18, s, rfl⟩
theorem form_iff {s : List UInt8} (hl : 19 ≤ s.length) : isOfL (s.take 19) form19 = true ↔ (∀ c ∈ (s.drop 0).take 4, digB c = true) ∧ s.getD 4 0 = 45 ∧ (∀ c ∈ (s.drop 5).take 2, digB c = true) ∧ s.getD 7 0 = 45 ∧ (∀ c ∈ (s.drop 8).take 2, digB c = true) ∧ s.getD 10 0 = 116 ∧ (∀ c ∈ (s.drop 11).take 2, digB c = true) ∧ s.getD 13 0 = 58 ∧ (∀ c ∈ (s.drop 14).take 2, digB c = true) ∧ s.getD 16 0 = 58 ∧ (∀ c ∈ (s.drop 17).take 2, digB c = true) := by
  obtain ⟨a0, a1, a2, a3, a4, a5, a6, a7, a8, a9, a10, a11, a12, a13, a14, a15, a16, a17, a18, t, rfl⟩ := split19 hl
  · show isOfL [a0, a1, a2, a3, a4, a5, a6, a7, a8, a9, a10, a11, a12, a13, a14, a15, a16, a17, a18] [48, 48, 48, 48, 45, 48, 48, 45, 48, 48, 116, 48, 48, 58, 48, 48, 58, 48, 48] = true ↔ (∀ c ∈ [a0, a1, a2, a3], digB c = true) ∧ a4 = 45 ∧ (∀ c ∈ [a5, a6], digB c = true) ∧ a7 = 45 ∧ (∀ c ∈ [a8, a9], digB c = true) ∧ a10 = 116 ∧ (∀ c ∈ [a11, a12], digB c = true) ∧ a13 = 58 ∧ (∀ c ∈ [a14, a15], digB c = true) ∧ a16 = 58 ∧ (∀ c ∈ [a17, a18], digB c = true)
    rw [isOf_d, isOf_d, isOf_d, isOf_d, isOf_x a4 45 _ _ (by decide), isOf_d, isOf_d, isOf_x a7 45 _ _ (by decide), isOf_d, isOf_d, isOf_x a10 116 _ _ (by decide), isOf_d, isOf_d, isOf_x a13 58 _ _ (by decide), isOf_d, isOf_d, isOf_x a16 58 _ _ (by decide), isOf_d, isOf_d]
    simp only [isOfL, Bool.and_eq_true, decide_eq_true_eq, List.mem_cons, List.not_mem_nil, or_false, forall_eq_or_imp, forall_eq, and_true, and_assoc]
theorem isDay_neg (y m d : Int) (h : y = -1 ∨ m = -1 ∨ d = -1) : isDay y m d = false := by
  unfold isDay
  rw [decide_eq_false_iff_not]
  omega
/-- What the program reads is what the reference reads. -/
theorem r3339_eq (l : List UInt8) : r3339 (l.map lowB) = p3339 l := by
  unfold p3339
  generalize l.map lowB = s
  unfold r3339
  by_cases hl : 20 ≤ s.length
  · by_cases hf : isOfL (s.take 19) form19 = true
    · rw [if_pos (show 19 ≤ s.length ∧ isOfL (s.take 19) form19 = true from ⟨by omega, hf⟩)]
      obtain ⟨d1, g1, d2, g2, d3, g3, d4, g4, d5, g5, d6⟩ := (form_iff (by omega)).1 hf
      have n1 := numT_of (s := s) (a := 0) (b := 4) (by omega) d1
      have n2 := numT_of (s := s) (a := 5) (b := 7) (by omega) d2
      have n3 := numT_of (s := s) (a := 8) (b := 10) (by omega) d3
      have t1 := twoR_of (s := s) (a := 11) (lim := 24) (by omega) d4
      have t2 := twoR_of (s := s) (a := 14) (lim := 60) (by omega) d5
      have t3 := twoR_of (s := s) (a := 17) (lim := 60) (by omega) d6
      rw [List.drop_zero] at n1
      simp only [Nat.reduceSub] at n1 n2 n3
      have c1 : clkH ((s.drop 11).take 8) = numD ((s.drop 11).take 2) := by
        unfold clkH; rw [List.take_take]; rfl
      have c2 : clkM ((s.drop 11).take 8) = numD ((s.drop 14).take 2) := by
        unfold clkM; rw [List.drop_take, List.drop_drop, List.take_take]; rfl
      have c3 : clkS ((s.drop 11).take 8) = numD ((s.drop 17).take 2) := by
        unfold clkS; rw [List.drop_take, List.drop_drop]
      rw [← tailR_eq]
      by_cases hh : headR s = true
      · rw [if_pos (show 20 ≤ s.length ∧ headR s = true from ⟨hl, hh⟩)]
        unfold headR at hh
        rw [decide_eq_true_eq] at hh
        obtain ⟨q0, q1, q2, q3, _⟩ := hh
        have r1 := twoR_ge q1
        have r2 := twoR_ge q2
        have r3 := twoR_ge q3
        unfold secR
        rw [n1, n2, n3, r1.2.2.1, r2.2.2.1, r3.2.2.1, Int.toNat_natCast, Int.toNat_natCast, Int.toNat_natCast]
        rw [n1, n2, n3] at q0
        cases tailR (s.drop 19) with
        | none => rfl
        | some a =>
          show some _ = timeV _ _ _ _ a
          unfold timeV
          rw [c1, c2, c3, if_pos ⟨q0, by omega, by omega, by omega⟩]
          exact congrArg some (by show _ - a = _; omega)
      · rw [if_neg (show ¬ (20 ≤ s.length ∧ headR s = true) from fun h => hh h.2)]
        cases tailR (s.drop 19) with
        | none => rfl
        | some a =>
          show none = timeV _ _ _ _ a
          unfold timeV
          rw [c1, c2, c3, if_neg]
          rintro ⟨k0, k1, k2, k3⟩
          apply hh
          unfold headR
          rw [decide_eq_true_eq, n1, n2, n3, t1, t2, t3, if_neg (by omega), if_neg (by omega), if_neg (by omega)]
          exact ⟨k0, by omega, by omega, by omega, g1, g2, g3, g4, g5⟩
    · rw [if_neg (show ¬ (19 ≤ s.length ∧ isOfL (s.take 19) form19 = true) from fun h => hf h.2), if_neg]
      rintro ⟨_, hh⟩
      unfold headR at hh
      rw [decide_eq_true_eq] at hh
      obtain ⟨q0, q1, q2, q3, g1, g2, g3, g4, g5⟩ := hh
      apply hf
      have k1 := numT_none (s := s) (a := 0) (b := 4) (fun e => by rw [isDay_neg _ _ _ (.inl e)] at q0; simp at q0)
      have k2 := numT_none (s := s) (a := 5) (b := 7) (fun e => by rw [isDay_neg _ _ _ (.inr (.inl e))] at q0; simp at q0)
      have k3 := numT_none (s := s) (a := 8) (b := 10) (fun e => by rw [isDay_neg _ _ _ (.inr (.inr e))] at q0; simp at q0)
      exact (form_iff (by omega)).2 ⟨k1.2.1, g1, k2.2.1, g2, k3.2.1, g3, (twoR_ge q1).2.1, g4, (twoR_ge q2).2.1, g5, (twoR_ge q3).2.1⟩
  · rw [if_neg (show ¬ (20 ≤ s.length ∧ headR s = true) from fun h => hl h.1)]
    split
    · next h =>
      have e : s.drop 19 = [] := List.drop_eq_nil_of_le (by omega)
      rw [e]; rfl
    · rfl
/-! The words of mail. -/
def zoneR (z : List UInt8) : Option Int := match zName z with
  | some n => some n
  | none => if z.length = 5 ∧ 0 ≤ twoR z 1 24 ∧ 0 ≤ twoR z 3 60 ∧ (z.getD 0 0 = 43 ∨ z.getD 0 0 = 45) then some (if z.getD 0 0 = 45 then -(twoR z 1 24 * 3600 + twoR z 3 60 * 60) else twoR z 1 24 * 3600 + twoR z 3 60 * 60) else none
theorem offF5 {z : List UInt8} : zF5.any (isOfL z) = true ↔ z.length = 5 ∧ (∀ c ∈ (z.drop 1).take 2, digB c = true) ∧ (∀ c ∈ (z.drop 3).take 2, digB c = true) ∧ (z.getD 0 0 = 43 ∨ z.getD 0 0 = 45) := by
  unfold zF5
  simp only [List.any_cons, List.any_nil, Bool.or_false, Bool.or_eq_true]
  constructor
  · intro h
    have hl : z.length = 5 := by rcases h with h | h <;> exact isOf_len _ _ h
    match z, hl with
    | [a, b, c, e, f], _ =>
      rw [isOf_x a 43 _ _ (by decide), isOf_x a 45 _ _ (by decide), isOf_d, isOf_d, isOf_d, isOf_d] at h
      simp only [Bool.and_eq_true, decide_eq_true_eq] at h
      refine ⟨rfl, ?_, ?_, ?_⟩
      · intro x hx
        simp at hx
        rcases h with h | h <;> rcases hx with rfl | rfl <;> simp_all
      · intro x hx
        simp at hx
        rcases h with h | h <;> rcases hx with rfl | rfl <;> simp_all
      · rcases h with h | h
        · exact .inl h.1
        · exact .inr h.1
  · rintro ⟨hl, h1, h2, h4⟩
    match z, hl with
    | [a, b, c, e, f], _ =>
      rw [isOf_x a 43 _ _ (by decide), isOf_x a 45 _ _ (by decide), isOf_d, isOf_d, isOf_d, isOf_d]
      simp at h1 h2 h4
      rw [h1.1, h1.2, h2.1, h2.2]
      rcases h4 with rfl | rfl
      · exact .inl (by decide)
      · exact .inr (by decide)
theorem zoneR_eq (z : List UInt8) : zoneR z = z822 z := by
  unfold zoneR z822
  cases zName z with
  | some n => rfl
  | none =>
    show (if _ then _ else _) = offL zF5 z
    unfold offL
    by_cases hf : zF5.any (isOfL z) = true
    · obtain ⟨hl, h1, h2, h4⟩ := offF5.1 hf
      rw [if_pos hf]
      have t1 := twoR_of (s := z) (a := 1) (lim := 24) (by omega) h1
      have t2 := twoR_of (s := z) (a := 3) (lim := 60) (by omega) h2
      have e6 : z.drop (z.length - 2) = (z.drop 3).take 2 := by rw [hl, List.take_of_length_le (by rw [List.length_drop]; omega)]
      unfold offV
      rw [e6]
      by_cases hc : 23 < numD ((z.drop 1).take 2) ∨ 59 < numD ((z.drop 3).take 2)
      · rw [if_pos hc, if_neg]
        rintro ⟨_, q1, q2, _⟩
        rw [t1] at q1; rw [t2] at q2
        rcases hc with hc | hc
        · rw [if_pos (by omega)] at q1; omega
        · rw [if_pos (by omega)] at q2; omega
      · rw [if_neg hc]
        rw [if_neg (by omega)] at t1 t2
        rw [if_pos ⟨hl, by omega, by omega, h4⟩, t1, t2]
    · rw [if_neg hf, if_neg]
      rintro ⟨hl, q1, q2, q4⟩
      exact hf (offF5.2 ⟨hl, (twoR_ge q1).2.1, (twoR_ge q2).2.1, q4⟩)
def yearR (y : List UInt8) : Int := if y.length = 2 ∧ 0 ≤ numT y 0 y.length then (if numT y 0 y.length < 50 then numT y 0 y.length + 2000 else numT y 0 y.length + 1900) else numT y 0 y.length
def secW (c : List UInt8) : Int := if c.length = 8 then twoR c 6 60 else 0
def okW (d m y c : List UInt8) : Bool := decide (isDay (yearR y) (monOf m) (numT d 0 d.length) = true ∧ (c.length = 5 ∨ c.length = 8) ∧ 0 ≤ twoR c 0 24 ∧ 0 ≤ twoR c 3 60 ∧ 0 ≤ secW c ∧ c.getD 2 0 = 58 ∧ (c.length = 8 → c.getD 5 0 = 58))
def rW (d m y c z : List UInt8) : Option Int :=
  if d.length ≤ 2 ∧ (y.length = 4 ∨ y.length = 2) ∧ okW d m y c = true then (zoneR z).map (fun a => ((dayD (yearR y).toNat (monOf m) (numT d 0 d.length).toNat : Int) - 719162) * 86400 + twoR c 0 24 * 3600 + twoR c 3 60 * 60 + secW c - a) else none
def r822W (ws : List (List UInt8)) : Option Int := match ws with
  | [d, m, y, c, z] => rW d m y c z
  | _ => none
def dropR (ws : List (List UInt8)) : List (List UInt8) := if ws.length = 6 ∧ isDayN (ws.getD 0 []) = true then ws.drop 1 else ws
theorem fD_iff (d : List UInt8) : fD.any (isOfL d) = true ↔ (d.length = 1 ∨ d.length = 2) ∧ ∀ c ∈ d, digB c = true := by
  unfold fD
  simp only [List.any_cons, List.any_nil, Bool.or_false, Bool.or_eq_true]
  constructor
  · rintro (h | h)
    · have hl := isOf_len _ _ h
      match d, hl with
      | [a], _ => rw [isOf_d] at h; simp at h; simp [h]
    · have hl := isOf_len _ _ h
      match d, hl with
      | [a, b], _ => rw [isOf_d, isOf_d] at h; simp at h; simp [h]
  · rintro ⟨h | h, hd⟩
    · match d, h with
      | [a], _ => left; rw [isOf_d, hd a (by simp)]; rfl
    · match d, h with
      | [a, b], _ => right; rw [isOf_d, isOf_d, hd a (by simp), hd b (by simp)]; rfl
theorem fY_iff (d : List UInt8) : fY.any (isOfL d) = true ↔ (d.length = 2 ∨ d.length = 4) ∧ ∀ c ∈ d, digB c = true := by
  unfold fY
  simp only [List.any_cons, List.any_nil, Bool.or_false, Bool.or_eq_true]
  constructor
  · rintro (h | h)
    · have hl := isOf_len _ _ h
      match d, hl with
      | [a, b], _ => rw [isOf_d, isOf_d] at h; simp at h; simp [h]
    · have hl := isOf_len _ _ h
      match d, hl with
      | [a, b, c, e], _ => rw [isOf_d, isOf_d, isOf_d, isOf_d] at h; simp at h; simp [h]
  · rintro ⟨h | h, hd⟩
    · match d, h with
      | [a, b], _ => left; rw [isOf_d, isOf_d, hd a (by simp), hd b (by simp)]; rfl
    · match d, h with
      | [a, b, c, e], _ => right; rw [isOf_d, isOf_d, isOf_d, isOf_d, hd a (by simp), hd b (by simp), hd c (by simp), hd e (by simp)]; rfl
theorem fC_iff (c : List UInt8) : fC.any (isOfL c) = true ↔ (c.length = 5 ∨ c.length = 8) ∧ (∀ x ∈ (c.drop 0).take 2, digB x = true) ∧ c.getD 2 0 = 58 ∧ (∀ x ∈ (c.drop 3).take 2, digB x = true) ∧ (c.length = 8 → c.getD 5 0 = 58 ∧ ∀ x ∈ (c.drop 6).take 2, digB x = true) := by
  unfold fC
  simp only [List.any_cons, List.any_nil, Bool.or_false, Bool.or_eq_true]
  constructor
  · rintro (h | h)
    · have hl := isOf_len _ _ h
      match c, hl with
      | [a, b, x, d, e], _ =>
        rw [isOf_d, isOf_d, isOf_x x 58 _ _ (by decide), isOf_d, isOf_d] at h; simp at h; simp [h]
    · have hl := isOf_len _ _ h
      match c, hl with
      | [a, b, x, d, e, y, f, g], _ =>
        rw [isOf_d, isOf_d, isOf_x x 58 _ _ (by decide), isOf_d, isOf_d, isOf_x y 58 _ _ (by decide), isOf_d, isOf_d] at h; simp at h; simp [h]
  · rintro ⟨h | h, h1, h2, h3, h4⟩
    · match c, h with
      | [a, b, x, d, e], _ =>
        left
        rw [isOf_d, isOf_d, isOf_x x 58 _ _ (by decide), isOf_d, isOf_d]; simp at h1 h2 h3; simp [h1, h2, h3, isOfL]
    · match c, h with
      | [a, b, x, d, e, y, f, g], _ =>
        right
        rw [isOf_d, isOf_d, isOf_x x 58 _ _ (by decide), isOf_d, isOf_d, isOf_x y 58 _ _ (by decide), isOf_d, isOf_d]; simp at h1 h2 h3 h4; simp [h1, h2, h3, h4, isOfL]
theorem numT_all {d : List UInt8} (h : ∀ c ∈ d, digB c = true) : numT d 0 d.length = numD d := by
  have := numT_of (s := d) (a := 0) (b := d.length) (Nat.le_refl _) (by rw [List.drop_zero, Nat.sub_zero, List.take_length]; exact h)
  rwa [List.drop_zero, Nat.sub_zero, List.take_length] at this
theorem all_numT {d : List UInt8} (h : numT d 0 d.length = -1 → False) : ∀ c ∈ d, digB c = true := by
  have := (numT_none h).2.1
  rwa [List.drop_zero, Nat.sub_zero, List.take_length] at this
theorem rW_eq (d m y c z : List UInt8) : rW d m y c z = timeW d m y c z := by
  unfold rW timeW
  rw [← zoneR_eq]
  by_cases hf : fD.any (isOfL d) = true ∧ fY.any (isOfL y) = true ∧ fC.any (isOfL c) = true
  · rw [if_pos hf]
    obtain ⟨h1, h2, h3⟩ := hf
    obtain ⟨dl, dd⟩ := (fD_iff d).1 h1
    obtain ⟨yl, yd⟩ := (fY_iff y).1 h2
    obtain ⟨cl, c1, c2, c3, c4⟩ := (fC_iff c).1 h3
    have n1 := numT_all dd
    have n2 : yearR y = fullY y := by
      unfold yearR fullY
      rw [numT_all yd]
      rcases yl with yl | yl
      · rw [if_pos ⟨yl, by omega⟩, if_neg (show ¬ 2 < y.length by omega)]
        by_cases h : numD y < 50
        · rw [if_pos h, if_pos (by omega)]; rfl
        · rw [if_neg h, if_neg (by omega)]; rfl
      · rw [if_neg (by omega), if_pos (show 2 < y.length by omega)]
    have t1 := twoR_of (s := c) (a := 0) (lim := 24) (by omega) c1
    have t2 := twoR_of (s := c) (a := 3) (lim := 60) (by omega) c3
    rw [List.drop_zero] at t1
    have k1 : clkH (clk8 c) = numD (c.take 2) := by
      unfold clk8 clkH
      split
      · rw [List.take_append_of_le_length (by omega)]
      · rfl
    have k2 : clkM (clk8 c) = numD ((c.drop 3).take 2) := by
      unfold clk8 clkM
      split
      · rw [List.drop_append_of_le_length (by omega), List.take_append_of_le_length (by rw [List.length_drop]; omega)]
      · rfl
    have k3 : secW c = if 59 < clkS (clk8 c) then -1 else (clkS (clk8 c) : Int) := by
      unfold secW clk8 clkS
      rcases cl with cl | cl
      · match c, cl with
        | [q1, q2, q3, q4, q5], _ => rfl
      · rw [if_pos cl, if_neg (show ¬ c.length < 8 by omega), twoR_of (s := c) (a := 6) (lim := 60) (by omega) (c4 cl).2, List.take_of_length_le (by rw [List.length_drop]; omega)]
        rfl
    by_cases ho : okW d m y c = true
    · rw [if_pos (show d.length ≤ 2 ∧ (y.length = 4 ∨ y.length = 2) ∧ okW d m y c = true from ⟨by omega, by omega, ho⟩)]
      unfold okW at ho
      rw [decide_eq_true_eq, n1, n2] at ho
      obtain ⟨q0, _, q1, q2, q3, _⟩ := ho
      rw [t1] at q1 ⊢
      rw [t2] at q2 ⊢
      rw [k3] at q3 ⊢
      rw [n1, n2, Int.toNat_natCast, Int.toNat_natCast]
      split at q1
      · omega
      · next p1 =>
        split at q2
        · omega
        · next p2 =>
          split at q3
          · omega
          · next p3 =>
            rw [if_neg p1, if_neg p2, if_neg p3]
            cases zoneR z with
            | none => rfl
            | some a =>
              show some _ = timeV _ _ _ _ a
              unfold timeV
              rw [k1, k2, if_pos ⟨q0, by omega, by omega, by omega⟩]
              exact congrArg some (by show _ - a = _; omega)
    · rw [if_neg (show ¬ (d.length ≤ 2 ∧ (y.length = 4 ∨ y.length = 2) ∧ okW d m y c = true) from fun h => ho h.2.2)]
      cases zoneR z with
      | none => rfl
      | some a =>
        show none = timeV _ _ _ _ a
        unfold timeV
        rw [k1, k2, if_neg]
        rintro ⟨p0, p1, p2, p3⟩
        apply ho
        unfold okW
        rw [decide_eq_true_eq, n1, n2, t1, t2, k3, if_neg (by omega), if_neg (by omega), if_neg (by omega)]
        exact ⟨p0, cl, by omega, by omega, by omega, c2, fun h => (c4 h).1⟩
  · rw [if_neg hf, if_neg]
    rintro ⟨dl, yl, ho⟩
    apply hf
    unfold okW at ho
    rw [decide_eq_true_eq] at ho
    obtain ⟨q0, cl, q1, q2, q3, g1, g2⟩ := ho
    have dd := all_numT (d := d) (fun e => by rw [isDay_neg _ _ _ (.inr (.inr e))] at q0; simp at q0)
    have yd := all_numT (d := y) (fun e => by
      rw [isDay_neg _ _ _ (.inl (by unfold yearR; rw [if_neg (by omega)]; exact e))] at q0; simp at q0)
    have d0 : d.length ≠ 0 := fun e => by
      have : d = [] := List.length_eq_zero_iff.1 e
      subst this
      unfold isDay at q0
      rw [decide_eq_true_eq] at q0
      have : numT [] 0 ([] : List UInt8).length = 0 := rfl
      omega
    refine ⟨(fD_iff d).2 ⟨by omega, dd⟩, (fY_iff y).2 ⟨by omega, yd⟩, (fC_iff c).2 ⟨cl, (twoR_ge q1).2.1, g1, (twoR_ge q2).2.1, fun h8 => ⟨g2 h8, ?_⟩⟩⟩
    unfold secW at q3
    rw [if_pos h8] at q3
    exact (twoR_ge q3).2.1
theorem r822_eq (ws : List (List UInt8)) : r822W (dropR ws) = p822W (dropDay ws) := by
  have key : ∀ l, r822W l = p822W l := by
    intro l
    match l with
    | [d, m, y, c, z] => exact rW_eq d m y c z
    | [] => rfl
    | [_] => rfl
    | [_, _] => rfl
    | [_, _, _] => rfl
    | [_, _, _, _] => rfl
    | _ :: _ :: _ :: _ :: _ :: _ :: _ => rfl
  rw [key]
  unfold dropR dropDay
  match ws with
  | [] => rfl
  | x :: r =>
    show p822W (if (x :: r).length = 6 ∧ isDayN x = true then r else x :: r) = p822W (if isDayN x then r else x :: r)
    by_cases hx : isDayN x = true
    · rw [if_pos hx]
      by_cases h6 : (x :: r).length = 6
      · rw [if_pos ⟨h6, hx⟩]
      · rw [if_neg (fun h => h6 h.1)]
        match r with
        | [m, y, c, z] =>
          show timeW x m y c z = none
          unfold timeW
          rw [if_neg]
          rintro ⟨h, _⟩
          have hl := ((fD_iff x).1 h).1
          unfold isDayN at hx
          rw [List.any_eq_true] at hx
          obtain ⟨n, hn, e⟩ := hx
          rw [decide_eq_true_eq] at e
          have : ∀ x ∈ dayNs, x.length = 3 := by decide
          rw [e, List.length_append, this n hn] at hl
          simp at hl
        | [] => rfl
        | [_] => rfl
        | [_, _] => rfl
        | [_, _, _] => rfl
        | [_, _, _, _, _] => simp at h6
        | _ :: _ :: _ :: _ :: _ :: _ :: _ => rfl
    · rw [if_neg hx, if_neg (fun h => hx h.2)]
end Go.Proofs.YthpplcadpngdiaaDoor
