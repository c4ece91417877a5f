
/- Texts: where a byte is first, cut there, lower case: plain mathematics (no program in it). -/
import Derived.Below
import Derived.Lib.Strings
import Derived.Lib.IndexMore
namespace Go.Proofs.YtlgfepaicgnkpaaDoor
set_option linter.unusedVariables false
set_option linter.unusedSimpArgs false

/-- Where the first of some bytes is; the length: there is none. -/
def findU (of l : List UInt8) : Nat := l.findIdx fun c => of.contains c
theorem findU_le (of l : List UInt8) : findU of l ≤ l.length := List.findIdx_le_length
theorem findU_at (of l : List UInt8) (h : findU of l < l.length) : of.contains (l.getD (findU of l) 0) = true := by
  have := List.findIdx_getElem (xs := l) (p := fun c => of.contains c) (w := h)
  rw [List.getD_eq_getElem?_getD, List.getElem?_eq_getElem h]
  exact this
theorem findU_ahead (of l : List UInt8) (j : Nat) (h : j < findU of l) : of.contains (l.getD j 0) = false := by
  have hl : j < l.length := Nat.lt_of_lt_of_le h (findU_le of l)
  have := List.not_of_lt_findIdx (xs := l) (p := fun c => of.contains c) h
  rw [List.getD_eq_getElem?_getD, List.getElem?_eq_getElem hl]
  simpa using this
/-- It is the first. -/
theorem findU_eq (of l : List UInt8) (k : Nat) (hk : k < l.length) (h : of.contains (l.getD k 0) = true) (ha : ∀ j, j < k → of.contains (l.getD j 0) = false) : findU of l = k := by
  rcases Nat.lt_trichotomy (findU of l) k with h1 | h1 | h1
  · have := findU_at of l (by omega)
    rw [ha _ h1] at this
    cases this
  · exact h1
  · rw [findU_ahead of l k h1] at h
    cases h
theorem findU_none (of l : List UInt8) (ha : ∀ j, j < l.length → of.contains (l.getD j 0) = false) : findU of l = l.length := by
  rcases Nat.lt_or_ge (findU of l) l.length with h | h
  · have := findU_at of l h
    rw [ha _ h] at this
    cases this
  · exact Nat.le_antisymm (findU_le of l) h
def letterU (c : UInt8) : Bool := decide (97 ≤ c.toNat ∧ c.toNat ≤ 122) || decide (65 ≤ c.toNat ∧ c.toNat ≤ 90)
def digitU (c : UInt8) : Bool := decide (48 ≤ c.toNat ∧ c.toNat ≤ 57)
theorem index_at (b : UInt8) (r : List UInt8) : ∀ x : List UInt8, b ∉ x → Lib.index (x ++ b :: r) [b] = x.length
  | [], _ => by simp [Lib.index]
  | c :: y, h => by
    have h1 : c ≠ b := fun e => h (by simp [e])
    have ih := index_at b r y (fun e => h (by simp [e]))
    have h2 : List.isPrefixOf [b] (c :: (y ++ b :: r)) = false := by
      simp [List.isPrefixOf, h1.symm]
    rw [List.cons_append, Lib.index, h2, ih]
    have h3 : ((y.length : Int) == -1) = false := by rw [beq_eq_false_iff_ne]; omega
    simp [h3]
theorem index_no (b : UInt8) : ∀ x : List UInt8, b ∉ x → Lib.index x [b] = -1
  | [], _ => by simp [Lib.index]
  | c :: y, h => by
    have h1 : c ≠ b := fun e => h (by simp [e])
    have ih := index_no b y (fun e => h (by simp [e]))
    have h2 : List.isPrefixOf [b] (c :: y) = false := by simp [List.isPrefixOf, h1.symm]
    rw [Lib.index, h2, ih]
    simp
theorem first_dec (c : UInt8) (l : List UInt8) : c ∉ l ∨ ∃ a x, l = a ++ c :: x ∧ c ∉ a := by
  induction l with
  | nil => exact .inl (by simp)
  | cons y r ih =>
    by_cases hy : y = c
    · exact .inr ⟨[], r, by rw [hy]; rfl, by simp⟩
    · rcases ih with h | ⟨a, x, e, h⟩
      · exact .inl (by rw [List.mem_cons]; rintro (h1 | h1); exact hy h1.symm; exact h h1)
      · exact .inr ⟨y :: a, x, by rw [e]; rfl, by rw [List.mem_cons]; rintro (h1 | h1); exact hy h1.symm; exact h h1⟩
theorem cut_no (c : UInt8) (l : List UInt8) (h : c ∉ l) : Lib.cut l [c] = (l, [], false) := by
  unfold Lib.cut
  rw [index_no c l h, if_neg (by omega)]
theorem cut_at (c : UInt8) (a x : List UInt8) (h : c ∉ a) : Lib.cut (a ++ c :: x) [c] = (a, x, true) := by
  unfold Lib.cut
  rw [index_at c x a h, if_pos (by omega)]
  simp
theorem indexB_no (c : UInt8) : ∀ l : List UInt8, c ∉ l → Lib.indexByte l c = -1
  | [], _ => rfl
  | d :: r, h => by
    rw [List.mem_cons, not_or] at h
    have : (d == c) = false := by rw [beq_eq_false_iff_ne]; exact fun e => h.1 e.symm
    rw [Lib.indexByte, this, indexB_no c r h.2]
    rfl
theorem indexB_at (c : UInt8) (x : List UInt8) : ∀ a : List UInt8, c ∉ a → Lib.indexByte (a ++ c :: x) c = a.length
  | [], _ => by
    show Lib.indexByte (c :: x) c = _
    rw [Lib.indexByte]; simp
  | d :: r, h => by
    rw [List.mem_cons, not_or] at h
    have : (d == c) = false := by rw [beq_eq_false_iff_ne]; exact fun e => h.1 e.symm
    rw [List.cons_append, Lib.indexByte, this, indexB_at c x r h.2]
    have h2 : ((r.length : Int) == -1) = false := by rw [beq_eq_false_iff_ne]; omega
    rw [h2]
    simp
theorem indexB_mem (c : UInt8) (l : List UInt8) : decide (0 ≤ Lib.indexByte l c) = l.contains c := by
  rcases first_dec c l with h | ⟨a, x, rfl, h⟩
  · rw [indexB_no c l h]
    have : l.contains c = false := by simpa using h
    rw [this]; rfl
  · rw [indexB_at c x a h]
    have : (a ++ c :: x).contains c = true := by simp
    rw [this]
    exact decide_eq_true (by omega)
theorem find_skip (cs p t : List UInt8) (h : ∀ c ∈ p, cs.contains c = false) : findU cs (p ++ t) = p.length + findU cs t := by
  unfold findU
  rw [List.findIdx_append, if_neg]
  · omega
  · intro hlt
    rw [List.findIdx_lt_length] at hlt
    obtain ⟨x, hx, hc⟩ := hlt
    rw [h x hx] at hc; cases hc
theorem find_here (cs : List UInt8) (c : UInt8) (t : List UInt8) (h : cs.contains c = true) : findU cs (c :: t) = 0 := by
  unfold findU
  rw [List.findIdx_cons, h]; rfl
theorem find_nil (cs : List UInt8) : findU cs [] = 0 := rfl
def lowB (c : UInt8) : UInt8 := if 65 ≤ c.toNat ∧ c.toNat ≤ 90 then c + 32 else c
def lowTo (l : List UInt8) (k : Nat) : List UInt8 := (l.take k).map lowB ++ l.drop k
theorem lowTo_zero (l : List UInt8) : lowTo l 0 = l := by simp [lowTo]
theorem lowTo_all (l : List UInt8) (k : Nat) (h : l.length ≤ k) : lowTo l k = l.map lowB := by simp [lowTo, List.take_of_length_le h, List.drop_of_length_le h]
theorem lowTo_len (l : List UInt8) (k : Nat) : (lowTo l k).length = l.length := by simp [lowTo]; omega
theorem lowTo_at (l : List UInt8) (k : Nat) (h : k < l.length) : (lowTo l k).getD k 0 = l.getD k 0 := by
  unfold lowTo
  rw [List.getD_eq_getElem?_getD, List.getElem?_append_right (by simp; omega)]
  simp [Nat.min_eq_left (Nat.le_of_lt h), h]
theorem lowTo_succ (l : List UInt8) (k : Nat) (h : k < l.length) : lowTo l (k + 1) = (lowTo l k).set k (lowB (l.getD k 0)) := by
  have hg : l.getD k 0 = l[k] := by rw [List.getD_eq_getElem?_getD, List.getElem?_eq_getElem h]; rfl
  rw [hg]
  unfold lowTo
  rw [List.take_succ_eq_append_getElem h, List.map_append, List.set_append_right _ _ (by simp; omega)]
  have e : k - ((l.take k).map lowB).length = 0 := by simp; omega
  rw [e, List.drop_eq_getElem_cons h, List.set_cons_zero]
  simp only [List.map_cons, List.map_nil, List.append_assoc, List.cons_append, List.nil_append]
theorem lowTo_skip (l : List UInt8) (k : Nat) (h : k < l.length) (hc : lowB (l.getD k 0) = l.getD k 0) : lowTo l (k + 1) = lowTo l k := by
  have hg : l.getD k 0 = l[k] := by rw [List.getD_eq_getElem?_getD, List.getElem?_eq_getElem h]; rfl
  rw [hg] at hc
  unfold lowTo
  rw [List.take_succ_eq_append_getElem h, List.map_append, List.drop_eq_getElem_cons h]
  simp [hc]
theorem lowB_hit (c : UInt8) (h1 : 65 ≤ (c.toNat : Int)) (h2 : (c.toNat : Int) ≤ 90) : ((lowB c).toNat : Int) = (c.toNat : Int) + 32 := by
  have : 65 ≤ c.toNat ∧ c.toNat ≤ 90 := by omega
  simp only [lowB, this, and_self, if_true, UInt8.toNat_add]
  have e : UInt8.toNat 32 = 32 := rfl
  rw [e]; omega
theorem lowB_miss (c : UInt8) (h : ¬ (65 ≤ (c.toNat : Int) ∧ (c.toNat : Int) ≤ 90)) : lowB c = c := by
  have : ¬ (65 ≤ c.toNat ∧ c.toNat ≤ 90) := by omega
  simp [lowB, this]
theorem drop8 (l : List UInt8) (k : Nat) (h : k < l.length) : l.drop k = l.getD k 0 :: l.drop (k + 1) := by
  rw [List.drop_eq_getElem_cons h, List.getD_eq_getElem?_getD, List.getElem?_eq_getElem h]; rfl
end Go.Proofs.YtlgfepaicgnkpaaDoor
