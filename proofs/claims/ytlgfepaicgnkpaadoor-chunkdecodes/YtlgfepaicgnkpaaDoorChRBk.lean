
/- A line looked for, a chunk copied, place by place: plain mathematics for the reference's Decode. -/
import Derived.Test.YtlgfepaicgnkpaaDoorChBook
namespace Go.Proofs.YtlgfepaicgnkpaaDoor
set_option linter.unusedVariables false
set_option linter.unusedSimpArgs false

theorem getD_drop (b : List UInt8) (a j : Nat) : (b.drop a).getD j 0 = b.getD (a + j) 0 := by simp [List.getD_eq_getElem?_getD]
/-- From a the look for a line's end stands at e. -/
structure ScanC (b : List UInt8) (a e : Nat) : Prop where
  ge : a ≤ e
  le : e ≤ b.length
  on : ∀ i, a ≤ i → i < e → b.getD i 0 ≠ 10 ∧ i < a + 258
  upto : e ≤ a + 258
theorem getD_in (a x : List UInt8) (j : Nat) (h : j < a.length) : (a ++ x).getD j 0 ∈ a := by
  rw [List.getD_eq_getElem?_getD, List.getElem?_append_left h, List.getElem?_eq_getElem h]
  exact List.getElem_mem h
theorem scan_dec (b : List UInt8) (a : Nat) (ha : a ≤ b.length) : ∃ e, ScanC b a e ∧
    ((e = b.length ∧ e < a + 258 ∧ ∀ f body, decC (f + 1) (b.drop a) a body = ([], 0, 10)) ∨
     (e = a + 258 ∧ ∀ f body, decC (f + 1) (b.drop a) a body = ([], 0, 5)) ∨
     (e < b.length ∧ e < a + 258 ∧ b.getD e 0 = 10 ∧ (e = a ∨ b.getD (e - 1) 0 ≠ 13) ∧ ∀ f body, decC (f + 1) (b.drop a) a body = ([], 0, 5)) ∨
     (e < b.length ∧ e < a + 258 ∧ b.getD e 0 = 10 ∧ a < e ∧ b.getD (e - 1) 0 = 13 ∧
       (szC ((b.drop a).take (e - 1 - a)) < 0 → ∀ f body, decC (f + 1) (b.drop a) a body = ([], 0, 5)) ∧
       (0 ≤ szC ((b.drop a).take (e - 1 - a)) → ∀ f body, decC (f + 1) (b.drop a) a body = stepC f (b.drop (e + 1)) (szC ((b.drop a).take (e - 1 - a))).toNat (e + 1) body))) := by
  have hl : (b.drop a).length = b.length - a := List.length_drop
  have hat : ∀ i, a ≤ i → b.getD i 0 = (b.drop a).getD (i - a) 0 := fun i hi => by rw [getD_drop, show a + (i - a) = i from by omega]
  rcases line_dec (b.drop a) with hno | ⟨p, x, t, hx, hr, hp, hpl⟩
  · rcases Nat.lt_or_ge (b.drop a).length 258 with h | h
    · refine ⟨b.length, ⟨ha, Nat.le_refl _, fun i h1 h2 => ⟨?_, by omega⟩, by omega⟩, .inl ⟨rfl, by omega, fun f body => ?_⟩⟩
      · rw [hat i h1]
        intro e
        refine hno ?_
        rw [List.take_of_length_le (by omega), ← e, List.getD_eq_getElem?_getD, List.getElem?_eq_getElem (by omega)]
        exact List.getElem_mem _
      · rw [List.take_of_length_le (by omega)] at hno
        exact dec_short f _ a body hno h
    · refine ⟨a + 258, ⟨by omega, by omega, fun i h1 h2 => ⟨?_, h2⟩, Nat.le_refl _⟩, .inr (.inl ⟨rfl, fun f body => dec_far f _ a body hno h⟩)⟩
      rw [hat i h1]
      intro e
      refine hno ?_
      have hi : i - a < ((b.drop a).take 258).length := by rw [List.length_take]; omega
      have : ((b.drop a).take 258)[i - a]'hi = (b.drop a).getD (i - a) 0 := by
        rw [List.getElem_take, List.getD_eq_getElem?_getD, List.getElem?_eq_getElem (by omega)]; rfl
      rw [← e, ← this]
      exact List.getElem_mem hi
  · have hbl : b.length = a + p.length + 1 + t.length := by
      have := congrArg List.length hr
      rw [hl, List.length_append, List.length_cons] at this
      omega
    have hsc : ScanC b a (a + p.length) := ⟨by omega, by omega, fun i h1 h2 => ⟨by
      rw [hat i h1, hr]
      intro e
      have := getD_in p (10 :: t) (i - a) (by omega)
      rw [e] at this
      exact hp this, by omega⟩, by omega⟩
    have h10 : b.getD (a + p.length) 0 = 10 := by rw [← getD_drop, hr, getD_at]
    refine ⟨a + p.length, hsc, .inr (.inr ?_)⟩
    by_cases hc : p.getLastD 0 = 13
    · obtain ⟨s, rfl⟩ : ∃ s, p = s ++ [13] := by
        rcases List.eq_nil_or_concat p with rfl | ⟨y, z, rfl⟩
        · cases hc
        · rw [List.concat_eq_append] at hc ⊢
          have e : (y ++ [z]).getLastD 0 = z := by rw [List.getLastD_eq_getLast?, List.getLast?_append]; rfl
          rw [e] at hc
          subst hc
          exact ⟨y, rfl⟩
      have hsl : (s ++ [13]).length = s.length + 1 := by simp
      have h10s : (10 : UInt8) ∉ s := fun h => hp (by simp [h])
      have hr2 : b.drop a = s ++ 13 :: 10 :: t := by rw [hr]; simp
      rw [hsl] at h10 hpl hbl ⊢
      have e1 : a + (s.length + 1) - 1 - a = s.length := by omega
      have e2 : (b.drop a).take s.length = s := by rw [hr2, List.take_left]
      have e3 : b.drop (a + (s.length + 1) + 1) = t := by
        rw [show a + (s.length + 1) + 1 = a + (s.length + 2) from by omega, ← List.drop_drop, hr2, ← List.drop_drop, List.drop_left]
        rfl
      have h13 : b.getD (a + (s.length + 1) - 1) 0 = 13 := by
        rw [show a + (s.length + 1) - 1 = a + s.length from by omega, ← getD_drop, hr2, getD_at]
      rw [e1, e2, e3]
      refine .inr ⟨by omega, by omega, h10, by omega, h13, fun hz f body => ?_, fun hz f body => ?_⟩
      · rw [hr2]; exact dec_neg f s t a body h10s (by omega) hz
      · rw [hr2, dec_step f s t a body h10s (by omega) hz]
        rw [show a + (s.length + 2) = a + (s.length + 1) + 1 from by omega]
    · refine .inl ⟨by omega, by omega, h10, ?_, fun f body => by rw [hr]; exact dec_bad f p t a body hp hpl hc⟩
      rcases List.eq_nil_or_concat p with rfl | ⟨y, z, rfl⟩
      · exact .inl rfl
      · right
        rw [List.concat_eq_append] at hc hr ⊢
        have e : (y ++ [z]).getLastD 0 = z := by rw [List.getLastD_eq_getLast?, List.getLast?_append]; rfl
        rw [e] at hc
        rw [show a + (y ++ [z]).length - 1 = a + y.length from by simp, ← getD_drop, hr, List.append_assoc]
        rw [show y ++ ([z] ++ 10 :: t) = y ++ z :: (10 :: t) from rfl, getD_at]
        exact hc
/-- m bytes of a chunk and its end are looked at. -/
structure CopyC (t : List UInt8) (S m : Nat) : Prop where
  le : m ≤ t.length
  cr : S < m → t.getD S 0 = 13
  lf : S + 1 < m → t.getD (S + 1) 0 = 10
theorem CopyC.zero (t : List UInt8) (S : Nat) : CopyC t S 0 := ⟨Nat.zero_le _, fun h => by omega, fun h => by omega⟩
theorem CopyC.more {t : List UInt8} {S m : Nat} (h : CopyC t S m) (hm : t.length ≤ m) (hs : m < S + 2) : chkC t S = 10 := by
  have hl := h.le
  unfold chkC
  by_cases h1 : t.length ≤ S
  · rw [if_pos h1]
  · rw [if_neg h1, if_neg (by rw [h.cr (by omega)]; simp), if_pos (by omega)]
theorem CopyC.badCr {t : List UInt8} {S : Nat} (hm : S < t.length) (hc : t.getD S 0 ≠ 13) : chkC t S = 5 := by
  unfold chkC
  rw [if_neg (by omega), if_pos hc]
theorem CopyC.badLf {t : List UInt8} {S : Nat} (h : CopyC t S (S + 1)) (hm : S + 1 < t.length) (hc : t.getD (S + 1) 0 ≠ 10) : chkC t S = 5 := by
  unfold chkC
  rw [if_neg (by omega), if_neg (by rw [h.cr (by omega)]; simp), if_neg (by omega), if_pos hc]
theorem CopyC.done {t : List UInt8} {S : Nat} (h : CopyC t S (S + 2)) : chkC t S = 0 := by
  have hl := h.le
  unfold chkC
  rw [if_neg (by omega), if_neg (by rw [h.cr (by omega)]; simp), if_neg (by omega), if_neg (by rw [h.lf (by omega)]; simp)]
theorem CopyC.step {t : List UInt8} {S m : Nat} (h : CopyC t S m) (hm : m < t.length) (h1 : m = S → t.getD S 0 = 13) (h2 : m = S + 1 → t.getD (S + 1) 0 = 10) : CopyC t S (m + 1) :=
  ⟨by omega, fun hh => by
    rcases Nat.lt_or_ge S m with h3 | h3
    · exact h.cr h3
    · exact h1 (by omega), fun hh => by
    rcases Nat.lt_or_ge (S + 1) m with h3 | h3
    · exact h.lf h3
    · exact h2 (by omega)⟩
theorem step_zero (f : Nat) (t : List UInt8) (at1 : Nat) (body : List UInt8) : stepC f t 0 at1 body = if (parseH t).2.2 ≠ 0 then ([], 0, (parseH t).2.2) else (body, at1 + (parseH t).2.1, 0) := by unfold stepC; rw [if_pos rfl]
theorem step_long (f : Nat) (t : List UInt8) (S at1 : Nat) (body : List UInt8) (h0 : S ≠ 0) (h : 32768 < body.length + S) : stepC f t S at1 body = ([], 0, 3) := by unfold stepC; rw [if_neg h0, if_pos h]
theorem step_chk (f : Nat) (t : List UInt8) (S at1 : Nat) (body : List UInt8) (h0 : S ≠ 0) (h : ¬ 32768 < body.length + S) (E : Int) (hE : chkC t S = E) (hne : E ≠ 0) : stepC f t S at1 body = ([], 0, E) := by unfold stepC; rw [if_neg h0, if_neg h, hE, if_pos hne]
theorem step_on (f : Nat) (t : List UInt8) (S at1 : Nat) (body : List UInt8) (h0 : S ≠ 0) (h : ¬ 32768 < body.length + S) (hE : chkC t S = 0) : stepC f t S at1 body = decC f (t.drop (S + 2)) (at1 + (S + 2)) (body ++ t.take S) := by unfold stepC; rw [if_neg h0, if_neg h, hE, if_neg (by simp)]
end Go.Proofs.YtlgfepaicgnkpaaDoor
