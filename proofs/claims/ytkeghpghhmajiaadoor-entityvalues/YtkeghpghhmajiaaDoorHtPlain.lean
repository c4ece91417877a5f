
/- Texts, headers and chunks: plain mathematics (no program in it). -/
import Derived.Below
import Derived.Lib.Strings
import Derived.Lib.IndexMore
import Derived.Lib.SlTrimSet
namespace Go.Proofs.YtkeghpghhmajiaaDoor
set_option linter.unusedVariables false
set_option linter.unusedSimpArgs false

/-- Where the first of some bytes is; the length: there is none. -/
def findU (of l : List UInt8) : Nat := l.findIdx fun c => of.contains c
theorem findU_le (of l : List UInt8) : findU of l ≤ l.length := List.findIdx_le_length
theorem findU_at (of l : List UInt8) (h : findU of l < l.length) : of.contains (l.getD (findU of l) 0) = true := by
  have := List.findIdx_getElem (xs := l) (p := fun c => of.contains c) (w := h)
  rw [List.getD_eq_getElem?_getD, List.getElem?_eq_getElem h]
  exact this
theorem findU_ahead (of l : List UInt8) (j : Nat) (h : j < findU of l) : of.contains (l.getD j 0) = false := by
  have hl : j < l.length := Nat.lt_of_lt_of_le h (findU_le of l)
  have := List.not_of_lt_findIdx (xs := l) (p := fun c => of.contains c) h
  rw [List.getD_eq_getElem?_getD, List.getElem?_eq_getElem hl]
  simpa using this
/-- It is the first. -/
theorem findU_eq (of l : List UInt8) (k : Nat) (hk : k < l.length) (h : of.contains (l.getD k 0) = true) (ha : ∀ j, j < k → of.contains (l.getD j 0) = false) : findU of l = k := by
  rcases Nat.lt_trichotomy (findU of l) k with h1 | h1 | h1
  · have := findU_at of l (by omega)
    rw [ha _ h1] at this
    cases this
  · exact h1
  · rw [findU_ahead of l k h1] at h
    cases h
theorem findU_none (of l : List UInt8) (ha : ∀ j, j < l.length → of.contains (l.getD j 0) = false) : findU of l = l.length := by
  rcases Nat.lt_or_ge (findU of l) l.length with h | h
  · have := findU_at of l h
    rw [ha _ h] at this
    cases this
  · exact Nat.le_antisymm (findU_le of l) h
def letterU (c : UInt8) : Bool := decide (97 ≤ c.toNat ∧ c.toNat ≤ 122) || decide (65 ≤ c.toNat ∧ c.toNat ≤ 90)
def digitU (c : UInt8) : Bool := decide (48 ≤ c.toNat ∧ c.toNat ≤ 57)
theorem index_at (b : UInt8) (r : List UInt8) : ∀ x : List UInt8, b ∉ x → Lib.index (x ++ b :: r) [b] = x.length
  | [], _ => by simp [Lib.index]
  | c :: y, h => by
    have h1 : c ≠ b := fun e => h (by simp [e])
    have ih := index_at b r y (fun e => h (by simp [e]))
    have h2 : List.isPrefixOf [b] (c :: (y ++ b :: r)) = false := by
      simp [List.isPrefixOf, h1.symm]
    rw [List.cons_append, Lib.index, h2, ih]
    have h3 : ((y.length : Int) == -1) = false := by rw [beq_eq_false_iff_ne]; omega
    simp [h3]
theorem index_no (b : UInt8) : ∀ x : List UInt8, b ∉ x → Lib.index x [b] = -1
  | [], _ => by simp [Lib.index]
  | c :: y, h => by
    have h1 : c ≠ b := fun e => h (by simp [e])
    have ih := index_no b y (fun e => h (by simp [e]))
    have h2 : List.isPrefixOf [b] (c :: y) = false := by simp [List.isPrefixOf, h1.symm]
    rw [Lib.index, h2, ih]
    simp
theorem first_dec (c : UInt8) (l : List UInt8) : c ∉ l ∨ ∃ a x, l = a ++ c :: x ∧ c ∉ a := by
  induction l with
  | nil => exact .inl (by simp)
  | cons y r ih =>
    by_cases hy : y = c
    · exact .inr ⟨[], r, by rw [hy]; rfl, by simp⟩
    · rcases ih with h | ⟨a, x, e, h⟩
      · exact .inl (by rw [List.mem_cons]; rintro (h1 | h1); exact hy h1.symm; exact h h1)
      · exact .inr ⟨y :: a, x, by rw [e]; rfl, by rw [List.mem_cons]; rintro (h1 | h1); exact hy h1.symm; exact h h1⟩
theorem cut_no (c : UInt8) (l : List UInt8) (h : c ∉ l) : Lib.cut l [c] = (l, [], false) := by
  unfold Lib.cut
  rw [index_no c l h, if_neg (by omega)]
theorem cut_at (c : UInt8) (a x : List UInt8) (h : c ∉ a) : Lib.cut (a ++ c :: x) [c] = (a, x, true) := by
  unfold Lib.cut
  rw [index_at c x a h, if_pos (by omega)]
  simp
theorem indexB_no (c : UInt8) : ∀ l : List UInt8, c ∉ l → Lib.indexByte l c = -1
  | [], _ => rfl
  | d :: r, h => by
    rw [List.mem_cons, not_or] at h
    have : (d == c) = false := by rw [beq_eq_false_iff_ne]; exact fun e => h.1 e.symm
    rw [Lib.indexByte, this, indexB_no c r h.2]
    rfl
theorem indexB_at (c : UInt8) (x : List UInt8) : ∀ a : List UInt8, c ∉ a → Lib.indexByte (a ++ c :: x) c = a.length
  | [], _ => by
    show Lib.indexByte (c :: x) c = _
    rw [Lib.indexByte]; simp
  | d :: r, h => by
    rw [List.mem_cons, not_or] at h
    have : (d == c) = false := by rw [beq_eq_false_iff_ne]; exact fun e => h.1 e.symm
    rw [List.cons_append, Lib.indexByte, this, indexB_at c x r h.2]
    have h2 : ((r.length : Int) == -1) = false := by rw [beq_eq_false_iff_ne]; omega
    rw [h2]
    simp
theorem indexB_mem (c : UInt8) (l : List UInt8) : decide (0 ≤ Lib.indexByte l c) = l.contains c := by
  rcases first_dec c l with h | ⟨a, x, rfl, h⟩
  · rw [indexB_no c l h]
    have : l.contains c = false := by simpa using h
    rw [this]; rfl
  · rw [indexB_at c x a h]
    have : (a ++ c :: x).contains c = true := by simp
    rw [this]
    exact decide_eq_true (by omega)
theorem find_skip (cs p t : List UInt8) (h : ∀ c ∈ p, cs.contains c = false) : findU cs (p ++ t) = p.length + findU cs t := by
  unfold findU
  rw [List.findIdx_append, if_neg]
  · omega
  · intro hlt
    rw [List.findIdx_lt_length] at hlt
    obtain ⟨x, hx, hc⟩ := hlt
    rw [h x hx] at hc; cases hc
theorem find_here (cs : List UInt8) (c : UInt8) (t : List UInt8) (h : cs.contains c = true) : findU cs (c :: t) = 0 := by
  unfold findU
  rw [List.findIdx_cons, h]; rfl
theorem find_nil (cs : List UInt8) : findU cs [] = 0 := rfl
def lowB (c : UInt8) : UInt8 := if 65 ≤ c.toNat ∧ c.toNat ≤ 90 then c + 32 else c
def lowTo (l : List UInt8) (k : Nat) : List UInt8 := (l.take k).map lowB ++ l.drop k
theorem lowTo_zero (l : List UInt8) : lowTo l 0 = l := by simp [lowTo]
theorem lowTo_all (l : List UInt8) (k : Nat) (h : l.length ≤ k) : lowTo l k = l.map lowB := by simp [lowTo, List.take_of_length_le h, List.drop_of_length_le h]
theorem lowTo_len (l : List UInt8) (k : Nat) : (lowTo l k).length = l.length := by simp [lowTo]; omega
theorem lowTo_at (l : List UInt8) (k : Nat) (h : k < l.length) : (lowTo l k).getD k 0 = l.getD k 0 := by
  unfold lowTo
  rw [List.getD_eq_getElem?_getD, List.getElem?_append_right (by simp; omega)]
  simp [Nat.min_eq_left (Nat.le_of_lt h), h]
theorem lowTo_succ (l : List UInt8) (k : Nat) (h : k < l.length) : lowTo l (k + 1) = (lowTo l k).set k (lowB (l.getD k 0)) := by
  have hg : l.getD k 0 = l[k] := by rw [List.getD_eq_getElem?_getD, List.getElem?_eq_getElem h]; rfl
  rw [hg]
  unfold lowTo
  rw [List.take_succ_eq_append_getElem h, List.map_append, List.set_append_right _ _ (by simp; omega)]
  have e : k - ((l.take k).map lowB).length = 0 := by simp; omega
  rw [e, List.drop_eq_getElem_cons h, List.set_cons_zero]
  simp only [List.map_cons, List.map_nil, List.append_assoc, List.cons_append, List.nil_append]
theorem lowTo_skip (l : List UInt8) (k : Nat) (h : k < l.length) (hc : lowB (l.getD k 0) = l.getD k 0) : lowTo l (k + 1) = lowTo l k := by
  have hg : l.getD k 0 = l[k] := by rw [List.getD_eq_getElem?_getD, List.getElem?_eq_getElem h]; rfl
  rw [hg] at hc
  unfold lowTo
  rw [List.take_succ_eq_append_getElem h, List.map_append, List.drop_eq_getElem_cons h]
  simp [hc]
theorem lowB_hit (c : UInt8) (h1 : 65 ≤ (c.toNat : Int)) (h2 : (c.toNat : Int) ≤ 90) : ((lowB c).toNat : Int) = (c.toNat : Int) + 32 := by
  have : 65 ≤ c.toNat ∧ c.toNat ≤ 90 := by omega
  simp only [lowB, this, and_self, if_true, UInt8.toNat_add]
  have e : UInt8.toNat 32 = 32 := rfl
  rw [e]; omega
theorem lowB_miss (c : UInt8) (h : ¬ (65 ≤ (c.toNat : Int) ∧ (c.toNat : Int) ≤ 90)) : lowB c = c := by
  have : ¬ (65 ≤ c.toNat ∧ c.toNat ≤ 90) := by omega
  simp [lowB, this]
theorem drop8 (l : List UInt8) (k : Nat) (h : k < l.length) : l.drop k = l.getD k 0 :: l.drop (k + 1) := by
  rw [List.drop_eq_getElem_cons h, List.getD_eq_getElem?_getD, List.getElem?_eq_getElem h]; rfl
end Go.Proofs.YtkeghpghhmajiaaDoor
namespace Go.Proofs.YtkeghpghhmajiaaDoor
set_option linter.unusedVariables false
set_option linter.unusedSimpArgs false

structure HdV where
  name : List UInt8
  value : List UInt8
def signH (c : UInt8) : Bool := letterU c || digitU c || ([33, 35, 36, 37, 38, 39, 42, 43, 45, 46, 94, 95, 124, 126] : List UInt8).contains c || c == 96
def tokenH (s : List UInt8) : Bool := s.all signH && !s.isEmpty
def blankH (c : UInt8) : Bool := c == 32 || c == 9
def badH (c : UInt8) : Bool := c == 127 || (decide (c.toNat < 32) && c != 9)
def valueH (v : List UInt8) : Bool := v.all (fun c => !badH c) && !blankH (v.headD 0) && !blankH (v.getLastD 0)
def mayH (h : HdV) : Bool := valueH h.value && tokenH h.name
def lineH (h : HdV) : List UInt8 := h.name ++ 58 :: 32 :: h.value
def sizeH : List HdV → Nat
  | [] => 2
  | h :: r => h.name.length + 2 + h.value.length + 2 + sizeH r
def printH : List HdV → List UInt8
  | [] => [13, 10]
  | h :: r => lineH h ++ 13 :: 10 :: printH r
theorem print_size : ∀ l, (printH l).length = sizeH l
  | [] => rfl
  | h :: r => by
    simp only [printH, sizeH, lineH, List.length_append, List.length_cons, print_size r]
    omega
def checkH (l : List HdV) : Int := if l.all mayH then (if 64 < l.length ∨ 8192 < sizeH l then 3 else 0) else 1
/-- A line without its carriage return. -/
def crH (l : List UInt8) : List UInt8 := if l.getLastD 0 = 13 then l.dropLast else l
def trimH (l : List UInt8) : List UInt8 := ((l.dropWhile blankH).reverse.dropWhile blankH).reverse
def oneH (l : List UInt8) : Option HdV :=
  if findU [58] l = l.length then none
  else if mayH ⟨l.take (findU [58] l), trimH (l.drop (findU [58] l + 1))⟩ then some ⟨l.take (findU [58] l), trimH (l.drop (findU [58] l + 1))⟩ else none
/-- Line by line: what is left, how many bytes are behind, what was read. -/
def linesH : Nat → List UInt8 → Nat → List HdV → List HdV × Nat × Int
  | 0, _, _, _ => ([], 0, 10)
  | f + 1, b, n, out =>
    if findU [10] b = b.length then ([], 0, if 8192 < n + b.length then 3 else 10)
    else if 8192 < n + findU [10] b + 1 then ([], 0, 3)
    else if crH (b.take (findU [10] b)) = [] then (out, n + findU [10] b + 1, 0)
    else match oneH (crH (b.take (findU [10] b))) with
      | none => ([], 0, 5)
      | some h => if out.length = 64 then ([], 0, 3) else linesH f (b.drop (findU [10] b + 1)) (n + findU [10] b + 1) (out ++ [h])
def parseH (b : List UInt8) : List HdV × Nat × Int := linesH (b.length + 1) b 0 []
theorem find_byte (c : UInt8) (a r : List UInt8) (h : c ∉ a) : findU [c] (a ++ c :: r) = a.length := by
  rw [find_skip [c] a _ (fun d hd => by
    have : d ≠ c := fun e => h (e ▸ hd)
    simpa using this), find_here [c] c r (by simp)]
  rfl
theorem find_miss (c : UInt8) (a : List UInt8) (h : c ∉ a) : findU [c] a = a.length := by
  have := find_skip [c] a [] (fun d hd => by
    have : d ≠ c := fun e => h (e ▸ hd)
    simpa using this)
  rw [List.append_nil, find_nil] at this
  exact this
theorem sign_fin : ∀ n : Fin 256, signH (UInt8.ofNat n.val) = true → UInt8.ofNat n.val ≠ 58 ∧ UInt8.ofNat n.val ≠ 10 ∧ UInt8.ofNat n.val ≠ 13 := by decide +kernel
theorem sign_not (c : UInt8) (h : signH c = true) : c ≠ 58 ∧ c ≠ 10 ∧ c ≠ 13 := by
  have := sign_fin ⟨c.toNat, c.toNat_lt⟩
  simp only [UInt8.ofNat_toNat] at this
  exact this h
theorem may_parts (h : HdV) (hm : mayH h = true) : (∀ c ∈ h.name, c ≠ 58 ∧ c ≠ 10 ∧ c ≠ 13) ∧ h.name ≠ [] ∧ (∀ c ∈ h.value, c ≠ 10 ∧ c ≠ 13) ∧ blankH (h.value.headD 0) = false ∧ blankH (h.value.getLastD 0) = false := by
  unfold mayH valueH tokenH at hm
  simp only [Bool.and_eq_true, Bool.not_eq_true', List.all_eq_true] at hm
  obtain ⟨⟨⟨h1, h2⟩, h3⟩, h4, h5⟩ := hm
  refine ⟨fun c hc => sign_not c (h4 c hc), fun e => ?_, fun c hc => ?_, h2, h3⟩
  · rw [e] at h5; cases h5
  · have := h1 c hc
    constructor
    · rintro rfl; revert this; decide
    · rintro rfl; revert this; decide
theorem trim_own (v : List UInt8) (h1 : blankH (v.headD 0) = false) (h2 : blankH (v.getLastD 0) = false) : trimH (32 :: v) = v := by
  unfold trimH
  have e1 : (32 :: v).dropWhile blankH = v := by
    rw [List.dropWhile_cons_of_pos (by decide)]
    cases v with
    | nil => rfl
    | cons c r => rw [List.dropWhile_cons_of_neg (by simpa using h1)]
  rw [e1]
  have e2 : v.reverse.dropWhile blankH = v.reverse := by
    rcases List.eq_nil_or_concat v with rfl | ⟨x, d, rfl⟩
    · rfl
    · have : blankH d = false := by simpa using h2
      rw [List.concat_eq_append, List.reverse_append, List.reverse_singleton, List.singleton_append, List.dropWhile_cons_of_neg (by simp [this])]
  rw [e2, List.reverse_reverse]
/-- A header's own line is read as it. -/
theorem one_own (h : HdV) (hm : mayH h = true) : oneH (lineH h) = some h := by
  obtain ⟨h1, h2, h3, h4, h5⟩ := may_parts h hm
  have hf : findU [58] (lineH h) = h.name.length := find_byte 58 h.name _ (fun hc => (h1 58 hc).1 rfl)
  have hne : ¬ findU [58] (lineH h) = (lineH h).length := by rw [hf]; unfold lineH; simp
  unfold oneH
  rw [if_neg hne, hf]
  have e1 : (lineH h).take h.name.length = h.name := by unfold lineH; simp
  have e2 : (lineH h).drop (h.name.length + 1) = 32 :: h.value := by unfold lineH; simp
  rw [e1, e2, trim_own h.value h4 h5, if_pos hm]
theorem line_free (h : HdV) (hm : mayH h = true) : (10 : UInt8) ∉ lineH h ++ [13] ∧ crH (lineH h ++ [13]) = lineH h ∧ lineH h ≠ [] := by
  obtain ⟨h1, h2, h3, h4, h5⟩ := may_parts h hm
  refine ⟨fun hc => ?_, ?_, ?_⟩
  · unfold lineH at hc
    simp only [List.mem_append, List.mem_cons, List.not_mem_nil, or_false] at hc
    rcases hc with (hc | hc | hc | hc) | hc
    · exact (h1 10 hc).2.1 rfl
    · revert hc; decide
    · revert hc; decide
    · exact (h3 10 hc).1 rfl
    · revert hc; decide
  · unfold crH
    rw [if_pos (by simp)]
    simp
  · unfold lineH; simp
/-- What is put together is read back, whatever follows. -/
theorem lines_print : ∀ (l : List HdV) (f n : Nat) (out : List HdV) (more : List UInt8), l.all mayH = true → l.length < f → out.length + l.length ≤ 64 → n + sizeH l ≤ 8192 → linesH f (printH l ++ more) n out = (out ++ l, n + sizeH l, 0)
  | [], 0, n, out, more, _, hf, _, _ => by simp at hf
  | [], f + 1, n, out, more, _, _, _, hs => by
    have e : findU [10] (printH [] ++ more) = 1 := find_byte 10 [13] more (by decide)
    have hl : ¬ findU [10] (printH [] ++ more) = (printH [] ++ more).length := by rw [e]; simp [printH]
    unfold linesH
    rw [if_neg hl, e]
    have h2 : sizeH [] = 2 := rfl
    rw [h2] at hs ⊢
    rw [if_neg (by omega)]
    have e2 : crH ((printH [] ++ more).take 1) = [] := rfl
    rw [e2, if_pos rfl, List.append_nil]
  | h :: r, 0, n, out, more, _, hf, _, _ => by simp at hf
  | h :: r, f + 1, n, out, more, hm, hf, ho, hs => by
    rw [List.all_cons, Bool.and_eq_true] at hm
    obtain ⟨g1, g2, g3⟩ := line_free h hm.1
    simp only [List.length_cons] at hf ho
    have hsz : sizeH (h :: r) = h.name.length + 2 + h.value.length + 2 + sizeH r := rfl
    have hll : (lineH h ++ [13]).length = h.name.length + h.value.length + 3 := by unfold lineH; simp; omega
    have es : printH (h :: r) ++ more = (lineH h ++ [13]) ++ 10 :: (printH r ++ more) := by simp [printH]
    have e : findU [10] (printH (h :: r) ++ more) = (lineH h ++ [13]).length := by rw [es]; exact find_byte 10 _ _ g1
    have hl : ¬ findU [10] (printH (h :: r) ++ more) = (printH (h :: r) ++ more).length := by rw [e, es]; simp
    have et : (printH (h :: r) ++ more).take (lineH h ++ [13]).length = lineH h ++ [13] := by rw [es, List.take_left]
    have ed : (printH (h :: r) ++ more).drop ((lineH h ++ [13]).length + 1) = printH r ++ more := by
      rw [es, List.drop_append]
      simp
    have h2 : 2 ≤ sizeH r := by rw [← print_size]; cases r <;> simp [printH]; omega
    rw [hsz] at hs ⊢
    unfold linesH
    rw [if_neg hl, e, et, g2, ed, if_neg (by omega), if_neg g3, one_own h hm.1]
    simp only
    rw [if_neg (by omega), lines_print r f _ _ more hm.2 (by omega) (by simp; omega) (by omega)]
    simp only [List.append_assoc, List.singleton_append, Prod.mk.injEq, true_and, and_true]
    omega
theorem print_parse (l : List HdV) (h : checkH l = 0) (more : List UInt8) : parseH (printH l ++ more) = (l, (printH l).length, 0) := by
  unfold checkH at h
  split at h
  · rename_i hm
    split at h
    · cases h
    · rename_i hc
      rw [not_or] at hc
      have hls : l.length ≤ sizeH l := by
        clear h hm hc
        induction l with
        | nil => simp [sizeH]
        | cons a r ih => simp only [sizeH, List.length_cons]; omega
      unfold parseH
      rw [lines_print l _ 0 [] more hm (by rw [List.length_append, print_size]; omega) (by simp; omega) (by omega), print_size]
      simp
  · cases h
/-- Of a beginning more is to come. -/
theorem lines_cut : ∀ (l : List HdV) (f n k : Nat) (out : List HdV), l.all mayH = true → k < f → out.length + l.length ≤ 64 → n + sizeH l ≤ 8192 → k < sizeH l → linesH f ((printH l).take k) n out = ([], 0, 10)
  | l, 0, n, k, out, _, hf, _, _, _ => by simp at hf
  | [], f + 1, n, k, out, _, _, _, hs, hk => by
    have h2 : sizeH [] = 2 := rfl
    rw [h2] at hs hk
    have hn : (10 : UInt8) ∉ (printH []).take k := by
      rcases (show k = 0 ∨ k = 1 by omega) with rfl | rfl <;> simp [printH]
    have hlen : ((printH []).take k).length = k := by rw [List.length_take]; simp [printH]; omega
    unfold linesH
    rw [if_pos (find_miss 10 _ hn), hlen, if_neg (by omega)]
  | h :: r, f + 1, n, k, out, hm, hf, ho, hs, hk => by
    rw [List.all_cons, Bool.and_eq_true] at hm
    obtain ⟨g1, g2, g3⟩ := line_free h hm.1
    simp only [List.length_cons] at ho
    have hsz : sizeH (h :: r) = h.name.length + 2 + h.value.length + 2 + sizeH r := rfl
    have hll : (lineH h ++ [13]).length = h.name.length + h.value.length + 3 := by unfold lineH; simp; omega
    have es : printH (h :: r) = (lineH h ++ [13]) ++ 10 :: printH r := by simp [printH]
    rw [hsz] at hs hk
    rcases Nat.lt_or_ge (lineH h ++ [13]).length k with hgt | hle
    · obtain ⟨j, rfl⟩ : ∃ j, k = (lineH h ++ [13]).length + (j + 1) := ⟨k - (lineH h ++ [13]).length - 1, by omega⟩
      have et : (printH (h :: r)).take ((lineH h ++ [13]).length + (j + 1)) = (lineH h ++ [13]) ++ 10 :: (printH r).take j := by
        rw [es, List.take_length_add_append]
        rfl
      rw [et]
      have e : findU [10] ((lineH h ++ [13]) ++ 10 :: (printH r).take j) = (lineH h ++ [13]).length := find_byte 10 _ _ g1
      have hl : ¬ findU [10] ((lineH h ++ [13]) ++ 10 :: (printH r).take j) = ((lineH h ++ [13]) ++ 10 :: (printH r).take j).length := by rw [e]; simp
      have e1 : ((lineH h ++ [13]) ++ 10 :: (printH r).take j).take (lineH h ++ [13]).length = lineH h ++ [13] := by rw [List.take_left]
      have ed : ((lineH h ++ [13]) ++ 10 :: (printH r).take j).drop ((lineH h ++ [13]).length + 1) = (printH r).take j := by
        rw [List.drop_append]
        simp
      unfold linesH
      rw [if_neg hl, e, e1, g2, ed, if_neg (by omega), if_neg g3, one_own h hm.1]
      simp only
      rw [if_neg (by omega)]
      exact lines_cut r f _ j _ hm.2 (by omega) (by simp; omega) (by omega) (by omega)
    · have et : (printH (h :: r)).take k = (lineH h ++ [13]).take k := by rw [es, List.take_append_of_le_length hle]
      have hn : (10 : UInt8) ∉ (printH (h :: r)).take k := by rw [et]; exact fun hc => g1 (List.mem_of_mem_take hc)
      have hlen : ((printH (h :: r)).take k).length ≤ k := by rw [List.length_take]; omega
      unfold linesH
      rw [if_pos (find_miss 10 _ hn), if_neg (by omega)]
theorem cut_parse (l : List HdV) (h : checkH l = 0) (k : Nat) (hk : k < (printH l).length) : parseH ((printH l).take k) = ([], 0, 10) := by
  rw [print_size] at hk
  unfold checkH at h
  split at h
  · rename_i hm
    split at h
    · cases h
    · rename_i hc
      rw [not_or] at hc
      unfold parseH
      exact lines_cut l _ 0 k [] hm (by rw [List.length_take, print_size]; omega) (by simp; omega) (by omega) hk
  · cases h
end Go.Proofs.YtkeghpghhmajiaaDoor
namespace Go.Proofs.YtkeghpghhmajiaaDoor
set_option linter.unusedVariables false
set_option linter.unusedSimpArgs false

/-! A line is read. -/
def zeroH : HdV := ⟨[], []⟩
def oneV (l : List UInt8) : HdV := if findU [58] l = l.length then zeroH else ⟨l.take (findU [58] l), trimH (l.drop (findU [58] l + 1))⟩
def oneB (l : List UInt8) : Bool := !decide (findU [58] l = l.length) && mayH (oneV l)
theorem one_eq (l : List UInt8) : oneH l = if oneB l then some (oneV l) else none := by
  unfold oneH oneB oneV
  by_cases h : findU [58] l = l.length
  · rw [if_pos h, decide_eq_true h]; rfl
  · simp only [if_neg h, decide_eq_false h, Bool.not_false, Bool.true_and]
theorem one_true (l : List UInt8) (h : oneB l = true) : oneH l = some (oneV l) := by rw [one_eq, if_pos h]
theorem one_false (l : List UInt8) (h : oneB l = false) : oneH l = none := by rw [one_eq, h]; rfl
theorem oneV_no (l : List UInt8) (h : (58 : UInt8) ∉ l) : oneV l = zeroH ∧ oneB l = false := by
  have e := find_miss 58 l h
  constructor
  · unfold oneV; rw [if_pos e]
  · unfold oneB; rw [decide_eq_true e]; rfl
theorem oneV_at (a x : List UInt8) (h : (58 : UInt8) ∉ a) : oneV (a ++ 58 :: x) = ⟨a, trimH x⟩ ∧ oneB (a ++ 58 :: x) = mayH ⟨a, trimH x⟩ := by
  have e := find_byte 58 a x h
  have hne : ¬ findU [58] (a ++ 58 :: x) = (a ++ 58 :: x).length := by rw [e]; simp
  have ev : oneV (a ++ 58 :: x) = ⟨a, trimH x⟩ := by
    unfold oneV
    rw [if_neg hne, e]
    simp
  refine ⟨ev, ?_⟩
  unfold oneB
  rw [decide_eq_false hne, ev]
  rfl

/-! Trimmed at both ends, in either order. -/
theorem dw_all (p : UInt8 → Bool) : ∀ l : List UInt8, (∀ c ∈ l, p c = true) → l.dropWhile p = []
  | [], _ => rfl
  | c :: r, h => by rw [List.dropWhile_cons_of_pos (h c (by simp)), dw_all p r (fun d hd => h d (by simp [hd]))]
theorem dw_app (p : UInt8 → Bool) : ∀ (a b : List UInt8), (∀ c ∈ a, p c = true) → (a ++ b).dropWhile p = b.dropWhile p
  | [], _, _ => rfl
  | c :: r, b, h => by rw [List.cons_append, List.dropWhile_cons_of_pos (h c (by simp)), dw_app p r b (fun d hd => h d (by simp [hd]))]
theorem dw_neg (p : UInt8 → Bool) (c : UInt8) (r : List UInt8) (h : p c = false) : (c :: r).dropWhile p = c :: r := List.dropWhile_cons_of_neg (by simp [h])
theorem dw_dec (p : UInt8 → Bool) : ∀ l : List UInt8, (∀ c ∈ l, p c = true) ∨ ∃ a c r, l = a ++ c :: r ∧ (∀ d ∈ a, p d = true) ∧ p c = false
  | [] => .inl (by simp)
  | x :: t => by
    cases hx : p x with
    | false => exact .inr ⟨[], x, t, rfl, by simp, hx⟩
    | true =>
      rcases dw_dec p t with h | ⟨a, c, r, e, h1, h2⟩
      · exact .inl fun c hc => by
          rcases List.mem_cons.1 hc with rfl | hc
          · exact hx
          · exact h c hc
      · exact .inr ⟨x :: a, c, r, by rw [e]; rfl, fun d hd => by
          rcases List.mem_cons.1 hd with rfl | hd
          · exact hx
          · exact h1 d hd, h2⟩
def trR (p : UInt8 → Bool) (l : List UInt8) : List UInt8 := (l.reverse.dropWhile p).reverse
theorem trR_all (p : UInt8 → Bool) (l : List UInt8) (h : ∀ c ∈ l, p c = true) : trR p l = [] := by
  unfold trR; rw [dw_all p _ (fun c hc => h c (by simpa using hc))]; rfl
theorem trR_at (p : UInt8 → Bool) (a : List UInt8) (c : UInt8) (b : List UInt8) (hc : p c = false) (hb : ∀ d ∈ b, p d = true) : trR p (a ++ c :: b) = a ++ [c] := by
  unfold trR
  rw [List.reverse_append, List.reverse_cons, List.append_assoc, dw_app p _ _ (fun d hd => hb d (by simpa using hd)), List.singleton_append, dw_neg p c _ hc]
  simp
theorem tr_dec (p : UInt8 → Bool) (l : List UInt8) : (∀ c ∈ l, p c = true) ∨ ∃ a c b, l = a ++ c :: b ∧ p c = false ∧ ∀ d ∈ b, p d = true := by
  rcases dw_dec p l.reverse with h | ⟨a, c, r, e, h1, h2⟩
  · exact .inl fun c hc => h c (by simpa using hc)
  · refine .inr ⟨r.reverse, c, a.reverse, ?_, h2, fun d hd => h1 d (by simpa using hd)⟩
    have := congrArg List.reverse e
    rw [List.reverse_reverse] at this
    rw [this]; simp
theorem trim_swap (p : UInt8 → Bool) (l : List UInt8) : trR p (l.dropWhile p) = (trR p l).dropWhile p := by
  rcases tr_dec p l with h | ⟨a, c, b, rfl, hc, hb⟩
  · rw [dw_all p l h, trR_all p l h]; rfl
  · rw [trR_at p a c b hc hb]
    rcases dw_dec p a with h | ⟨x, d, y, rfl, h1, h2⟩
    · rw [dw_app p a _ h, dw_app p a _ h, dw_neg p c _ hc, dw_neg p c _ hc]
      exact trR_at p [] c b hc hb
    · simp only [List.append_assoc, List.cons_append]
      rw [dw_app p x _ h1, dw_app p x _ h1, dw_neg p d _ h2, dw_neg p d _ h2]
      exact trR_at p (d :: y) c b hc hb
theorem blank_in (c : UInt8) : ([32, 9] : List UInt8).contains c = blankH c := by
  unfold blankH
  simp only [List.contains, List.elem]
  cases (c == 32) <;> cases (c == 9) <;> rfl
theorem trim_lib (l : List UInt8) : Lib.trimS l [32, 9] = trimH l := by
  have e : (fun c : UInt8 => ([32, 9] : List UInt8).contains c) = blankH := funext blank_in
  unfold Lib.trimS Lib.trimLeftS Lib.trimRightS trimH
  rw [e]
  exact (trim_swap blankH l).symm
theorem trR_len (p : UInt8 → Bool) (l : List UInt8) : (trR p l).length ≤ l.length := by
  unfold trR
  rw [List.length_reverse]
  have := (List.dropWhile_sublist (l := l.reverse) p).length_le
  simpa using this
theorem dw_len (p : UInt8 → Bool) (l : List UInt8) : (l.dropWhile p).length ≤ l.length := (List.dropWhile_sublist (l := l) p).length_le
theorem trim_len (l : List UInt8) : (trimH l).length ≤ l.length := Nat.le_trans (trR_len blankH _) (dw_len blankH l)
/-- What has no blank at its ends is as it is trimmed. -/
theorem trim_iff (v : List UInt8) : decide (v = trimH v) = (!blankH (v.headD 0) && !blankH (v.getLastD 0)) := by
  rcases tr_dec blankH v with h | ⟨a, c, b, rfl, hc, hb⟩
  · cases v with
    | nil => rfl
    | cons x r =>
      have : trimH (x :: r) = [] := by
        show trR blankH _ = _
        rw [dw_all _ _ h]; rfl
      rw [this, decide_eq_false (by simp), List.headD_cons, h x (by simp)]
      rfl
  · have e : trimH (a ++ c :: b) = (a ++ [c]).dropWhile blankH := by
      show trR blankH _ = _
      rw [trim_swap, trR_at _ a c b hc hb]
    rcases List.eq_nil_or_concat b with rfl | ⟨b', z, rfl⟩
    · have hl : (a ++ [c]).getLastD 0 = c := by simp
      rw [e, hl, hc]
      cases a with
      | nil =>
        show decide ([c] = [c].dropWhile blankH) = _
        rw [dw_neg _ c _ hc]
        simp [hc]
      | cons x r =>
        show decide (x :: (r ++ [c]) = (x :: (r ++ [c])).dropWhile blankH) = (!blankH x && !false)
        cases hx : blankH x with
        | false => rw [dw_neg _ x _ hx]; simp
        | true =>
          rw [List.dropWhile_cons_of_pos hx, decide_eq_false]
          · rfl
          · intro hh
            have := congrArg List.length hh
            have := dw_len blankH (r ++ [c])
            simp only [List.length_cons] at *
            omega
    · have hz : blankH z = true := hb z (by simp)
      have hl : (a ++ c :: b'.concat z).getLastD 0 = z := by
        rw [List.concat_eq_append, ← List.cons_append, ← List.append_assoc]
        rw [List.getLastD_eq_getLast?, List.getLast?_append]; rfl
      rw [hl, hz, Bool.not_true, Bool.and_false, decide_eq_false]
      intro hh
      rw [e] at hh
      have h1 := congrArg List.length hh
      have h2 := dw_len blankH (a ++ [c])
      simp only [List.concat_eq_append, List.length_append, List.length_cons, List.length_nil] at h1 h2
      omega

/-! Line by line. -/
theorem lines_none (f : Nat) (b : List UInt8) (n : Nat) (out : List HdV) (h : (10 : UInt8) ∉ b) : linesH (f + 1) b n out = ([], 0, if 8192 < n + b.length then 3 else 10) := by
  unfold linesH
  rw [if_pos (find_miss 10 b h)]
theorem lines_far (f : Nat) (a x : List UInt8) (n : Nat) (out : List HdV) (h : (10 : UInt8) ∉ a) (hf : 8192 < n + a.length + 1) : linesH (f + 1) (a ++ 10 :: x) n out = ([], 0, 3) := by
  have e := find_byte 10 a x h
  unfold linesH
  rw [if_neg (by rw [e]; simp), e, if_pos hf]
theorem lines_end (f : Nat) (a x : List UInt8) (n : Nat) (out : List HdV) (h : (10 : UInt8) ∉ a) (hf : ¬ 8192 < n + a.length + 1) (hc : crH a = []) : linesH (f + 1) (a ++ 10 :: x) n out = (out, n + a.length + 1, 0) := by
  have e := find_byte 10 a x h
  unfold linesH
  rw [if_neg (by rw [e]; simp), e, if_neg hf, List.take_left, if_pos hc]
theorem lines_bad (f : Nat) (a x : List UInt8) (n : Nat) (out : List HdV) (h : (10 : UInt8) ∉ a) (hf : ¬ 8192 < n + a.length + 1) (hc : ¬ crH a = []) (ho : oneB (crH a) = false) : linesH (f + 1) (a ++ 10 :: x) n out = ([], 0, 5) := by
  have e := find_byte 10 a x h
  unfold linesH
  rw [if_neg (by rw [e]; simp), e, if_neg hf, List.take_left, if_neg hc, one_false _ ho]
theorem lines_many (f : Nat) (a x : List UInt8) (n : Nat) (out : List HdV) (h : (10 : UInt8) ∉ a) (hf : ¬ 8192 < n + a.length + 1) (hc : ¬ crH a = []) (ho : oneB (crH a) = true) (hm : out.length = 64) : linesH (f + 1) (a ++ 10 :: x) n out = ([], 0, 3) := by
  have e := find_byte 10 a x h
  unfold linesH
  rw [if_neg (by rw [e]; simp), e, if_neg hf, List.take_left, if_neg hc, one_true _ ho]
  exact if_pos hm
theorem lines_on (f : Nat) (a x : List UInt8) (n : Nat) (out : List HdV) (h : (10 : UInt8) ∉ a) (hf : ¬ 8192 < n + a.length + 1) (hc : ¬ crH a = []) (ho : oneB (crH a) = true) (hm : ¬ out.length = 64) : linesH (f + 1) (a ++ 10 :: x) n out = linesH f x (n + a.length + 1) (out ++ [oneV (crH a)]) := by
  have e := find_byte 10 a x h
  have ed : (a ++ 10 :: x).drop (a.length + 1) = x := by simp
  conv => lhs; unfold linesH
  rw [if_neg (by rw [e]; simp), e, if_neg hf, List.take_left, if_neg hc, one_true _ ho, ed]
  simp only
  rw [if_neg hm]
/-- What is left of the bytes b behind n of them, with the headers out, ends as b does. -/
def LeadsH (b : List UInt8) (n : Nat) (out : List HdV) : Prop := ∃ f, b.length - n < f ∧ linesH f (b.drop n) n out = parseH b
theorem leads_zero (b : List UInt8) : LeadsH b 0 [] := ⟨b.length + 1, by omega, rfl⟩
theorem LeadsH.pos {b : List UInt8} {n : Nat} {out : List HdV} (h : LeadsH b n out) : ∃ f, b.length - n < f + 1 ∧ linesH (f + 1) (b.drop n) n out = parseH b := by
  obtain ⟨f, h1, h2⟩ := h
  match f, h1, h2 with
  | 0, h1, _ => omega
  | f + 1, h1, h2 => exact ⟨f, h1, h2⟩
/-- A line's end, a bytes behind n. -/
def LineAt (b : List UInt8) (n : Nat) (a : List UInt8) : Prop := (10 : UInt8) ∉ a ∧ b.drop n = a ++ 10 :: b.drop (n + a.length + 1)
theorem LeadsH.none {b : List UInt8} {n : Nat} {out : List HdV} (h : LeadsH b n out) (hn : n ≤ b.length) (hno : (10 : UInt8) ∉ b.drop n) : parseH b = ([], 0, if 8192 < b.length then 3 else 10) := by
  obtain ⟨f, h1, h2⟩ := h.pos
  rw [← h2, lines_none f _ n out hno, List.length_drop, show n + (b.length - n) = b.length from by omega]
theorem LeadsH.far {b : List UInt8} {n : Nat} {out : List HdV} {a : List UInt8} (h : LeadsH b n out) (hl : LineAt b n a) (hf : 8192 < n + a.length + 1) : parseH b = ([], 0, 3) := by
  obtain ⟨f, h1, h2⟩ := h.pos
  rw [← h2, hl.2, lines_far f a _ n out hl.1 hf]
theorem LeadsH.end {b : List UInt8} {n : Nat} {out : List HdV} {a : List UInt8} (h : LeadsH b n out) (hl : LineAt b n a) (hf : n + a.length + 1 ≤ 8192) (hc : crH a = []) : parseH b = (out, n + a.length + 1, 0) := by
  obtain ⟨f, h1, h2⟩ := h.pos
  rw [← h2, hl.2, lines_end f a _ n out hl.1 (by omega) hc]
theorem LeadsH.bad {b : List UInt8} {n : Nat} {out : List HdV} {a : List UInt8} (h : LeadsH b n out) (hl : LineAt b n a) (hf : n + a.length + 1 ≤ 8192) (hc : ¬ crH a = []) (ho : oneB (crH a) = false) : parseH b = ([], 0, 5) := by
  obtain ⟨f, h1, h2⟩ := h.pos
  rw [← h2, hl.2, lines_bad f a _ n out hl.1 (by omega) hc ho]
theorem LeadsH.many {b : List UInt8} {n : Nat} {out : List HdV} {a : List UInt8} (h : LeadsH b n out) (hl : LineAt b n a) (hf : n + a.length + 1 ≤ 8192) (hc : ¬ crH a = []) (ho : oneB (crH a) = true) (hm : out.length = 64) : parseH b = ([], 0, 3) := by
  obtain ⟨f, h1, h2⟩ := h.pos
  rw [← h2, hl.2, lines_many f a _ n out hl.1 (by omega) hc ho hm]
theorem LineAt.le {b : List UInt8} {n : Nat} {a : List UInt8} (h : LineAt b n a) : n + a.length + 1 ≤ b.length := by
  have := congrArg List.length h.2
  simp only [List.length_drop, List.length_append, List.length_cons] at this
  omega
theorem LeadsH.on {b : List UInt8} {n : Nat} {out : List HdV} {a : List UInt8} (h : LeadsH b n out) (hl : LineAt b n a) (hf : n + a.length + 1 ≤ 8192) (hc : ¬ crH a = []) (ho : oneB (crH a) = true) (hm : ¬ out.length = 64) : LeadsH b (n + a.length + 1) (out ++ [oneV (crH a)]) := by
  obtain ⟨f, h1, h2⟩ := h.pos
  have := hl.le
  refine ⟨f, by omega, ?_⟩
  rw [← h2, hl.2, lines_on f a _ n out hl.1 (by omega) hc ho hm]
theorem lines_out : ∀ (f : Nat) (b : List UInt8) (n : Nat) (out : List HdV), out.length ≤ 64 → (linesH f b n out).1.length ≤ 64
  | 0, b, n, out, h => by simp [linesH]
  | f + 1, b, n, out, h => by
    unfold linesH
    split
    · simp
    · split
      · simp
      · split
        · exact h
        · split
          · simp
          · split
            · simp
            · rename_i hne
              exact lines_out f _ _ _ (by simp; omega)
theorem parse_out (b : List UInt8) (_h : b.length ≤ 1000000) : (parseH b).1.length ≤ 1000000 := Nat.le_trans (lines_out _ b 0 [] (by simp)) (by decide)
/-- In the first bytes there is a line's end, or there is none. -/
theorem head_dec (b : List UInt8) (n : Nat) (hn : n ≤ 8192) (hb : n ≤ b.length) : ((10 : UInt8) ∉ (b.take 8192).drop n) ∨ ∃ a x, (b.take 8192).drop n = a ++ 10 :: x ∧ LineAt b n a ∧ n + a.length + 1 ≤ 8192 := by
  rcases first_dec 10 ((b.take 8192).drop n) with h | ⟨a, x, e, h⟩
  · exact .inl h
  · refine .inr ⟨a, x, e, ⟨h, ?_⟩, ?_⟩
    · have e2 : b.drop n = (b.take 8192).drop n ++ b.drop 8192 := by
        conv => lhs; rw [← List.take_append_drop 8192 b]
        rw [List.drop_append, List.length_take, show n - min 8192 b.length = 0 from by omega, List.drop_zero]
      rw [e] at e2
      have e3 : b.drop (n + a.length + 1) = x ++ b.drop 8192 := by
        rw [Nat.add_assoc, ← List.drop_drop, e2]
        simp
      rw [e2, e3]; simp
    · have := congrArg List.length e
      simp only [List.length_drop, List.length_take, List.length_append, List.length_cons] at this
      omega
/-- None in the first bytes. -/
theorem LeadsH.unended {b : List UInt8} {n : Nat} {out : List HdV} (h : LeadsH b n out) (hn : n ≤ 8192) (hb : n ≤ b.length) (hno : (10 : UInt8) ∉ (b.take 8192).drop n) : parseH b = ([], 0, if 8192 < b.length then 3 else 10) := by
  rcases first_dec 10 (b.drop n) with h1 | ⟨a, x, e, h1⟩
  · exact h.none hb h1
  · have hl : LineAt b n a := ⟨h1, by
      rw [e, show n + a.length + 1 = n + (a.length + 1) from by omega, ← List.drop_drop, e]
      simp⟩
    have hle := hl.le
    have hf : 8192 < n + a.length + 1 := by
      rcases Nat.lt_or_ge 8192 (n + a.length + 1) with h2 | h2
      · exact h2
      · exfalso
        apply hno
        rw [List.drop_take, e]
        have : (a ++ 10 :: x).take (8192 - n) = a ++ 10 :: x.take (8192 - n - a.length - 1) := by
          rw [List.take_append, List.take_of_length_le (by omega)]
          rw [show 8192 - n - a.length = (8192 - n - a.length - 1) + 1 from by omega, List.take_succ_cons]
          rfl
        rw [this]; simp
    rw [h.far hl hf, if_pos (by omega)]
end Go.Proofs.YtkeghpghhmajiaaDoor
namespace Go.Proofs.YtkeghpghhmajiaaDoor
set_option linter.unusedVariables false
set_option linter.unusedSimpArgs false

/-! Numbers in hexadecimal digits. -/
def digC (n : Nat) : UInt8 := UInt8.ofNat (if n < 10 then 48 + n else 87 + n)
def isHx (c : UInt8) : Bool := decide (48 ≤ c.toNat ∧ c.toNat ≤ 57) || decide (97 ≤ c.toNat ∧ c.toNat ≤ 102) || decide (65 ≤ c.toNat ∧ c.toNat ≤ 70)
def hxv (c : UInt8) : Nat := if 48 ≤ c.toNat ∧ c.toNat ≤ 57 then c.toNat - 48 else if 97 ≤ c.toNat ∧ c.toNat ≤ 102 then c.toNat - 97 + 10 else c.toNat - 65 + 10
def hexF : Nat → Nat → List UInt8
  | 0, _ => []
  | f + 1, n => if n < 16 then [digC n] else hexF f (n / 16) ++ [digC (n % 16)]
def hexC (n : Nat) : List UInt8 := hexF 16 n
def valC (l : List UInt8) : Nat := l.foldl (fun n c => n * 16 + hxv c) 0
theorem val_snoc (l : List UInt8) (c : UInt8) : valC (l ++ [c]) = valC l * 16 + hxv c := by simp [valC]
theorem dig_fin : ∀ n : Fin 16, isHx (digC n.val) = true ∧ hxv (digC n.val) = n.val ∧ digC n.val ≠ 10 ∧ digC n.val ≠ 13 ∧ digC n.val ≠ 59 := by decide +kernel
theorem dig_ok (n : Nat) (h : n < 16) : isHx (digC n) = true ∧ hxv (digC n) = n ∧ digC n ≠ 10 ∧ digC n ≠ 13 ∧ digC n ≠ 59 := dig_fin ⟨n, h⟩
theorem hexF_ok : ∀ (f n : Nat), n < 16 ^ (f + 1) → valC (hexF (f + 1) n) = n ∧ (∀ c ∈ hexF (f + 1) n, isHx c = true ∧ c ≠ 10 ∧ c ≠ 13 ∧ c ≠ 59) ∧ 0 < (hexF (f + 1) n).length ∧ (hexF (f + 1) n).length ≤ f + 1
  | 0, n, h => by
    have hn : n < 16 := by simpa using h
    have hd := dig_ok n hn
    unfold hexF
    rw [if_pos hn]
    refine ⟨by simp [valC, hd.2.1], fun c hc => ?_, by simp, by simp⟩
    rw [List.mem_singleton] at hc
    subst hc
    exact ⟨hd.1, hd.2.2⟩
  | f + 1, n, h => by
    unfold hexF
    by_cases hn : n < 16
    · have hd := dig_ok n hn
      rw [if_pos hn]
      refine ⟨by simp [valC, hd.2.1], fun c hc => ?_, by simp, by simp⟩
      rw [List.mem_singleton] at hc
      subst hc
      exact ⟨hd.1, hd.2.2⟩
    · rw [if_neg hn]
      have hq : n / 16 < 16 ^ (f + 1) := by
        rw [Nat.div_lt_iff_lt_mul (by decide)]
        rw [Nat.pow_succ] at h
        exact h
      obtain ⟨h1, h2, h3, h4⟩ := hexF_ok f (n / 16) hq
      have hd := dig_ok (n % 16) (Nat.mod_lt _ (by decide))
      refine ⟨?_, fun c hc => ?_, by simp, by simp; omega⟩
      · rw [val_snoc, h1, hd.2.1]; omega
      · rw [List.mem_append, List.mem_singleton] at hc
        rcases hc with hc | rfl
        · exact h2 c hc
        · exact ⟨hd.1, hd.2.2⟩
theorem hexF_more : ∀ (f n : Nat), n < 16 ^ f → 0 < f → hexF (f + 1) n = hexF f n
  | 0, n, _, h => by omega
  | 1, n, h, _ => by
    have hn : n < 16 := by simpa using h
    unfold hexF
    rw [if_pos hn, if_pos hn]
  | f + 2, n, h, _ => by
    by_cases hn : n < 16
    · unfold hexF
      rw [if_pos hn, if_pos hn]
    · rw [show hexF (f + 2 + 1) n = hexF (f + 2) (n / 16) ++ [digC (n % 16)] from by rw [hexF, if_neg hn]]
      rw [show hexF (f + 2) n = hexF (f + 1) (n / 16) ++ [digC (n % 16)] from by rw [hexF, if_neg hn]]
      rw [hexF_more (f + 1) (n / 16) (by
        rw [Nat.div_lt_iff_lt_mul (by decide)]
        rw [Nat.pow_succ] at h
        exact h) (by omega)]
theorem hexF_cut : ∀ (k f n : Nat), n < 16 ^ f → 0 < f → hexF (f + k) n = hexF f n
  | 0, f, n, _, _ => rfl
  | k + 1, f, n, h, h0 => by
    rw [show f + (k + 1) = (f + k) + 1 from by omega, hexF_more (f + k) n (Nat.lt_of_lt_of_le h (Nat.pow_le_pow_right (by decide) (by omega))) (by omega), hexF_cut k f n h h0]
theorem hexC_ok (n : Nat) (h : n < 4294967296) : valC (hexC n) = n ∧ (∀ c ∈ hexC n, isHx c = true ∧ c ≠ 10 ∧ c ≠ 13 ∧ c ≠ 59) ∧ 0 < (hexC n).length ∧ (hexC n).length ≤ 8 := by
  have e : hexC n = hexF 8 n := hexF_cut 8 8 n h (by decide)
  rw [e]
  exact hexF_ok 7 n h
/-- How many bytes a line says there are; -1: it is none. -/
def szC (s : List UInt8) : Int := if 256 < s.length ∨ (13 : UInt8) ∈ s ∨ findU [59] s < 1 ∨ 8 < findU [59] s ∨ (s.take (findU [59] s)).all isHx = false then -1 else (valC (s.take (findU [59] s)) : Int)
theorem sz_hex (n : Nat) (h : n < 4294967296) : szC (hexC n) = n := by
  obtain ⟨h1, h2, h3, h4⟩ := hexC_ok n h
  have hf : findU [59] (hexC n) = (hexC n).length := find_miss 59 _ (fun hc => (h2 59 hc).2.2.2 rfl)
  unfold szC
  rw [hf, List.take_length, h1]
  rw [if_neg]
  rintro (h5 | h5 | h5 | h5 | h5)
  · omega
  · exact (h2 13 h5).2.2.1 rfl
  · omega
  · omega
  · rw [List.all_eq_true.2 (fun c hc => (h2 c hc).1)] at h5
    cases h5
/-! Put together. -/
def oneC (p : List UInt8) : List UInt8 := if p = [] then [] else hexC p.length ++ [13, 10] ++ p ++ [13, 10]
def endC : List UInt8 := [48, 13, 10, 13, 10]
def encC (l : List (List UInt8)) : List UInt8 := l.flatMap oneC ++ endC
theorem enc_cons (p : List UInt8) (l : List (List UInt8)) : encC (p :: l) = oneC p ++ encC l := by simp [encC]
/-! Read. -/
/-- The rest r of the bytes, 'at' of them behind, the body so far. -/
def decC : Nat → List UInt8 → Nat → List UInt8 → List UInt8 × Nat × Int
  | 0, _, _, _ => ([], 0, 10)
  | f + 1, r, at0, body =>
    if findU [10] r = r.length ∧ r.length < 258 then ([], 0, 10)
    else if 258 ≤ findU [10] r ∨ findU [10] r = 0 ∨ r.getD (findU [10] r - 1) 0 ≠ 13 then ([], 0, 5)
    else if szC (r.take (findU [10] r - 1)) < 0 then ([], 0, 5)
    else if szC (r.take (findU [10] r - 1)) = 0 then
      (if (parseH (r.drop (findU [10] r + 1))).2.2 ≠ 0 then ([], 0, (parseH (r.drop (findU [10] r + 1))).2.2) else (body, at0 + (findU [10] r + 1) + (parseH (r.drop (findU [10] r + 1))).2.1, 0))
    else if 32768 < (body.length : Int) + szC (r.take (findU [10] r - 1)) then ([], 0, 3)
    else if (r.drop (findU [10] r + 1)).length ≤ (szC (r.take (findU [10] r - 1))).toNat then ([], 0, 10)
    else if (r.drop (findU [10] r + 1)).getD (szC (r.take (findU [10] r - 1))).toNat 0 ≠ 13 then ([], 0, 5)
    else if (r.drop (findU [10] r + 1)).length ≤ (szC (r.take (findU [10] r - 1))).toNat + 1 then ([], 0, 10)
    else if (r.drop (findU [10] r + 1)).getD ((szC (r.take (findU [10] r - 1))).toNat + 1) 0 ≠ 10 then ([], 0, 5)
    else decC f ((r.drop (findU [10] r + 1)).drop ((szC (r.take (findU [10] r - 1))).toNat + 2)) (at0 + (findU [10] r + 1) + ((szC (r.take (findU [10] r - 1))).toNat + 2)) (body ++ (r.drop (findU [10] r + 1)).take (szC (r.take (findU [10] r - 1))).toNat)
def decodeC (b : List UInt8) : List UInt8 × Nat × Int := decC (b.length + 1) b 0 []
/-- A line s, its end, and t behind it: what is left of a step. -/
theorem dec_line (f : Nat) (s t : List UInt8) (at0 : Nat) (body : List UInt8) (h10 : (10 : UInt8) ∉ s) (hs : s.length ≤ 256) : decC (f + 1) (s ++ 13 :: 10 :: t) at0 body =
    if szC s < 0 then ([], 0, 5)
    else if szC s = 0 then (if (parseH t).2.2 ≠ 0 then ([], 0, (parseH t).2.2) else (body, at0 + (s.length + 2) + (parseH t).2.1, 0))
    else if 32768 < (body.length : Int) + szC s then ([], 0, 3)
    else if t.length ≤ (szC s).toNat then ([], 0, 10)
    else if t.getD (szC s).toNat 0 ≠ 13 then ([], 0, 5)
    else if t.length ≤ (szC s).toNat + 1 then ([], 0, 10)
    else if t.getD ((szC s).toNat + 1) 0 ≠ 10 then ([], 0, 5)
    else decC f (t.drop ((szC s).toNat + 2)) (at0 + (s.length + 2) + ((szC s).toNat + 2)) (body ++ t.take (szC s).toNat) := by
  have es : s ++ 13 :: 10 :: t = (s ++ [13]) ++ 10 :: t := by simp
  have hn : (10 : UInt8) ∉ s ++ [13] := by
    rw [List.mem_append, List.mem_singleton]
    rintro (h | h)
    · exact h10 h
    · revert h; decide
  have hf : findU [10] (s ++ 13 :: 10 :: t) = s.length + 1 := by
    rw [es, find_byte 10 _ _ hn]; simp
  have hlen : (s ++ 13 :: 10 :: t).length = s.length + 2 + t.length := by simp; omega
  have hg : (s ++ 13 :: 10 :: t).getD (s.length + 1 - 1) 0 = 13 := by
    rw [Nat.add_sub_cancel, List.getD_eq_getElem?_getD, List.getElem?_append_right (Nat.le_refl _), Nat.sub_self]
    rfl
  have ht : (s ++ 13 :: 10 :: t).take (s.length + 1 - 1) = s := by rw [Nat.add_sub_cancel, List.take_left]
  have hd : (s ++ 13 :: 10 :: t).drop (s.length + 1 + 1) = t := by
    rw [show s.length + 1 + 1 = s.length + 2 from by omega, ← List.drop_drop, List.drop_left]
    rfl
  conv => lhs; unfold decC
  rw [hf, hg, ht, hd, hlen]
  rw [if_neg (by omega), if_neg (by
    rintro (h | h | h)
    · omega
    · omega
    · exact h rfl)]
theorem sz_nought : szC [48] = 0 := by kernel_rfl
theorem chk_nil : checkH [] = 0 := by kernel_rfl
theorem parse_end (more : List UInt8) : parseH (13 :: 10 :: more) = ([], 2, 0) := print_parse [] chk_nil more
theorem parse_e0 : parseH [] = ([], 0, 10) := by kernel_rfl
theorem parse_e1 : parseH [13] = ([], 0, 10) := by kernel_rfl
theorem one_shape (p : List UInt8) (h : p ≠ []) (t : List UInt8) : oneC p ++ t = hexC p.length ++ 13 :: 10 :: (p ++ 13 :: 10 :: t) := by
  unfold oneC
  rw [if_neg h]
  simp
theorem getD_at (p t : List UInt8) (c : UInt8) : (p ++ c :: t).getD p.length 0 = c := by
  rw [List.getD_eq_getElem?_getD, List.getElem?_append_right (Nat.le_refl _), Nat.sub_self]; rfl
theorem getD_at1 (p t : List UInt8) (c d : UInt8) : (p ++ c :: d :: t).getD (p.length + 1) 0 = d := by
  rw [List.getD_eq_getElem?_getD, List.getElem?_append_right (by omega), show p.length + 1 - p.length = 1 from by omega]; rfl
/-- A chunk is read. -/
theorem dec_one (f : Nat) (p t : List UInt8) (at0 : Nat) (body : List UInt8) (h : p ≠ []) (hb : body.length + p.length ≤ 32768) : decC (f + 1) (oneC p ++ t) at0 body = decC f t (at0 + (oneC p).length) (body ++ p) := by
  have hn : p.length < 4294967296 := by omega
  obtain ⟨h1, h2, h3, h4⟩ := hexC_ok p.length hn
  have hsz := sz_hex p.length hn
  have hp : 0 < p.length := List.length_pos_iff.2 h
  have hol : (oneC p).length = (hexC p.length).length + 2 + (p.length + 2) := by
    unfold oneC
    rw [if_neg h]
    simp; omega
  rw [one_shape p h t, dec_line f (hexC p.length) (p ++ 13 :: 10 :: t) at0 body (fun hc => (h2 10 hc).2.1 rfl) (by omega), hsz, Int.toNat_natCast]
  rw [if_neg (by omega), if_neg (by omega), if_neg (by omega), if_neg (by simp), getD_at, if_neg (by simp), if_neg (by simp), getD_at1, if_neg (by simp), List.take_left]
  rw [show (p ++ 13 :: 10 :: t).drop (p.length + 2) = t from by rw [← List.drop_drop, List.drop_left]; rfl, hol]
  rw [show at0 + ((hexC p.length).length + 2) + (p.length + 2) = at0 + ((hexC p.length).length + 2 + (p.length + 2)) from by omega]
theorem dec_end (f : Nat) (more : List UInt8) (at0 : Nat) (body : List UInt8) : decC (f + 1) (endC ++ more) at0 body = (body, at0 + 5, 0) := by
  have e : endC ++ more = [48] ++ 13 :: 10 :: (13 :: 10 :: more) := rfl
  rw [e, dec_line f [48] (13 :: 10 :: more) at0 body (by decide) (by decide), sz_nought, parse_end]
  rw [if_neg (by decide), if_pos rfl, if_neg (by simp)]
  rfl
/-- What is put together is read back, whatever follows. -/
theorem dec_enc : ∀ (l : List (List UInt8)) (f : Nat) (more : List UInt8) (at0 : Nat) (body : List UInt8), (encC l).length < f → body.length + l.flatten.length ≤ 32768 → decC f (encC l ++ more) at0 body = (body ++ l.flatten, at0 + (encC l).length, 0)
  | [], 0, _, _, _, hf, _ => by simp at hf
  | [], f + 1, more, at0, body, _, _ => by
    rw [show encC [] ++ more = endC ++ more from rfl, dec_end, List.flatten_nil, List.append_nil]
    rfl
  | p :: l, f, more, at0, body, hf, hb => by
    rw [enc_cons] at hf ⊢
    rw [List.flatten_cons, List.length_append] at hb
    by_cases h : p = []
    · subst h
      have e : oneC [] = [] := rfl
      rw [e, List.nil_append] at hf ⊢
      rw [dec_enc l f more at0 body hf (by omega), List.flatten_cons, List.nil_append]
    · rw [List.length_append] at hf
      have hol : 0 < (oneC p).length := by
        unfold oneC
        rw [if_neg h]
        simp; omega
      match f, hf with
      | f + 1, hf =>
        rw [List.append_assoc, dec_one f p _ at0 body h (by omega), dec_enc l f more _ _ (by omega) (by rw [List.length_append]; omega), List.flatten_cons, List.append_assoc, List.length_append]
        rw [show at0 + (oneC p).length + (encC l).length = at0 + ((oneC p).length + (encC l).length) from by omega]
theorem decode_enc (l : List (List UInt8)) (h : l.flatten.length ≤ 32768) (more : List UInt8) : decodeC (encC l ++ more) = (l.flatten, (encC l).length, 0) := by
  unfold decodeC
  rw [dec_enc l _ more 0 [] (by rw [List.length_append]; omega) (by simpa using h)]
  simp
/-- No line's end yet. -/
theorem dec_short (f : Nat) (r : List UInt8) (at0 : Nat) (body : List UInt8) (h : (10 : UInt8) ∉ r) (hl : r.length < 258) : decC (f + 1) r at0 body = ([], 0, 10) := by
  conv => lhs; unfold decC
  rw [if_pos ⟨find_miss 10 r h, hl⟩]
theorem end_cut (f k : Nat) (hk : k < 5) (at0 : Nat) (body : List UInt8) : decC (f + 1) (endC.take k) at0 body = ([], 0, 10) := by
  rcases (show k = 0 ∨ k = 1 ∨ k = 2 ∨ k = 3 ∨ k = 4 by omega) with rfl | rfl | rfl | rfl | rfl
  · exact dec_short f _ at0 body (by decide) (by decide)
  · exact dec_short f _ at0 body (by decide) (by decide)
  · exact dec_short f _ at0 body (by decide) (by decide)
  · have e : endC.take 3 = [48] ++ 13 :: 10 :: [] := rfl
    rw [e, dec_line f [48] [] at0 body (by decide) (by decide), sz_nought, parse_e0]
    rfl
  · have e : endC.take 4 = [48] ++ 13 :: 10 :: [13] := rfl
    rw [e, dec_line f [48] [13] at0 body (by decide) (by decide), sz_nought, parse_e1]
    rfl
/-- Of a beginning more is to come. -/
theorem dec_cut : ∀ (l : List (List UInt8)) (f k : Nat) (at0 : Nat) (body : List UInt8), k < f → k < (encC l).length → body.length + l.flatten.length ≤ 32768 → decC f ((encC l).take k) at0 body = ([], 0, 10)
  | [], 0, k, _, _, hf, _, _ => by omega
  | [], f + 1, k, at0, body, _, hk, _ => end_cut f k hk at0 body
  | p :: l, f, k, at0, body, hf, hk, hb => by
    rw [enc_cons] at hk ⊢
    rw [List.flatten_cons, List.length_append] at hb
    by_cases h : p = []
    · subst h
      have e : oneC [] = [] := rfl
      rw [e, List.nil_append] at hk ⊢
      exact dec_cut l f k at0 body hf hk (by omega)
    · have hn : p.length < 4294967296 := by omega
      obtain ⟨h1, h2, h3, h4⟩ := hexC_ok p.length hn
      have hsz := sz_hex p.length hn
      have hp : 0 < p.length := List.length_pos_iff.2 h
      have h10 : (10 : UInt8) ∉ hexC p.length := fun hc => (h2 10 hc).2.1 rfl
      have hlt : (oneC p ++ encC l).length = (hexC p.length).length + 2 + (p.length + 2 + (encC l).length) := by
        rw [one_shape p h]; simp; omega
      rw [hlt] at hk
      match f, hf with
      | f + 1, hf =>
        rw [one_shape p h]
        generalize hexC p.length = s at h1 h2 h3 h4 hsz h10 hk
        by_cases hks : k ≤ s.length + 1
        · have et : (s ++ 13 :: 10 :: (p ++ 13 :: 10 :: encC l)).take k = (s ++ [13]).take k := by
            rw [show s ++ 13 :: 10 :: (p ++ 13 :: 10 :: encC l) = (s ++ [13]) ++ 10 :: (p ++ 13 :: 10 :: encC l) from by simp, List.take_append_of_le_length (by simp; omega)]
          rw [et]
          refine dec_short f _ at0 body (fun hc => ?_) (by rw [List.length_take]; simp; omega)
          have := List.mem_of_mem_take hc
          rw [List.mem_append, List.mem_singleton] at this
          rcases this with h5 | h5
          · exact h10 h5
          · revert h5; decide
        · obtain ⟨j, rfl⟩ : ∃ j, k = s.length + (j + 2) := ⟨k - s.length - 2, by omega⟩
          have et : (s ++ 13 :: 10 :: (p ++ 13 :: 10 :: encC l)).take (s.length + (j + 2)) = s ++ 13 :: 10 :: (p ++ 13 :: 10 :: encC l).take j := by
            rw [List.take_length_add_append]
            rfl
          rw [et, dec_line f s _ at0 body h10 (by omega), hsz, Int.toNat_natCast]
          rw [if_neg (by omega), if_neg (by omega), if_neg (by omega)]
          have hlj : ((p ++ 13 :: 10 :: encC l).take j).length = min j (p.length + 2 + (encC l).length) := by
            rw [List.length_take]; simp; omega
          by_cases hj1 : j ≤ p.length
          · rw [if_pos (by rw [hlj]; omega)]
          · rw [if_neg (by rw [hlj]; omega)]
            obtain ⟨i, rfl⟩ : ∃ i, j = p.length + (i + 1) := ⟨j - p.length - 1, by omega⟩
            rw [List.take_length_add_append] at hlj ⊢
            rw [List.take_succ_cons] at hlj ⊢
            rw [getD_at, if_neg (by simp)]
            by_cases hi : i = 0
            · subst hi
              rw [if_pos (by simp)]
            · obtain ⟨i2, rfl⟩ : ∃ i2, i = i2 + 1 := ⟨i - 1, by omega⟩
              rw [List.take_succ_cons] at hlj ⊢
              rw [if_neg (by simp), getD_at1, if_neg (by simp)]
              rw [show (p ++ 13 :: 10 :: (encC l).take i2).drop (p.length + 2) = (encC l).take i2 from by rw [← List.drop_drop, List.drop_left]; rfl, List.take_left]
              exact dec_cut l f i2 _ _ (by omega) (by omega) (by rw [List.length_append]; omega)
theorem decode_cut (l : List (List UInt8)) (h : l.flatten.length ≤ 32768) (k : Nat) (hk : k < (encC l).length) : decodeC ((encC l).take k) = ([], 0, 10) := by
  unfold decodeC
  have hl : ((encC l).take k).length = k := by rw [List.length_take]; omega
  rw [hl]
  exact dec_cut l (k + 1) k 0 [] (by omega) hk (by simpa using h)
end Go.Proofs.YtkeghpghhmajiaaDoor
namespace Go.Proofs.YtkeghpghhmajiaaDoor
set_option linter.unusedVariables false
set_option linter.unusedSimpArgs false

/-! A size's line. -/
/-- A line's digits d: what it says. -/
structure DigsC (s d : List UInt8) : Prop where
  cut : (Lib.cut s [59]).1 = d
  le : d.length ≤ s.length
  find : findU [59] s = d.length
  size : szC s = if 256 < s.length ∨ (13 : UInt8) ∈ s ∨ d.length < 1 ∨ 8 < d.length ∨ d.all isHx = false then -1 else (valC d : Int)
  take : s.take d.length = d
theorem digs_of (s : List UInt8) : ∃ d, DigsC s d := by
  rcases first_dec 59 s with hno | ⟨a, x, rfl, hno⟩
  · have hf := find_miss 59 s hno
    refine ⟨s, by rw [cut_no 59 s hno], Nat.le_refl _, hf, ?_, List.take_length⟩
    unfold szC
    rw [hf, List.take_length]
  · have hf := find_byte 59 a x hno
    refine ⟨a, by rw [cut_at 59 a x hno], by simp, hf, ?_, List.take_left⟩
    unfold szC
    rw [hf, List.take_left]
/-- What the program's Size tells: it refuses a line feed, too. -/
def szP (s : List UInt8) : Int := if (10 : UInt8) ∈ s then -1 else szC s
theorem szP_eq (s : List UInt8) (h : (10 : UInt8) ∉ s) : szP s = szC s := by unfold szP; rw [if_neg h]
theorem hxv_lt : ∀ n : Fin 256, isHx (UInt8.ofNat n.val) = true → hxv (UInt8.ofNat n.val) < 16 := by decide +kernel
theorem hxv16 (c : UInt8) (h : isHx c = true) : hxv c < 16 := by
  have := hxv_lt ⟨c.toNat, c.toNat_lt⟩
  simp only [UInt8.ofNat_toNat] at this
  exact this h
theorem valA_lt : ∀ (l : List UInt8) (acc : Nat), l.all isHx = true → l.foldl (fun n c => n * 16 + hxv c) acc < (acc + 1) * 16 ^ l.length
  | [], acc, _ => by simp
  | c :: r, acc, h => by
    rw [List.all_cons, Bool.and_eq_true] at h
    have h1 := valA_lt r (acc * 16 + hxv c) h.2
    have h2 := hxv16 c h.1
    rw [List.foldl_cons, List.length_cons]
    refine Nat.lt_of_lt_of_le h1 ?_
    rw [Nat.pow_succ, Nat.mul_comm (16 ^ r.length) 16, ← Nat.mul_assoc]
    exact Nat.mul_le_mul_right _ (by omega)
theorem val_lt (l : List UInt8) (h : l.all isHx = true) : valC l < 16 ^ l.length := by
  have := valA_lt l 0 h
  rw [Nat.zero_add, Nat.one_mul] at this
  exact this
theorem val_small (l : List UInt8) (h : l.all isHx = true) (hl : l.length ≤ 8) : valC l < 4294967296 := by
  have h1 := val_lt l h
  have h2 : 16 ^ l.length ≤ 16 ^ 8 := Nat.pow_le_pow_right (by decide) hl
  omega
theorem szC_small (s : List UInt8) : szC s < 4294967296 := by
  obtain ⟨d, hd⟩ := digs_of s
  rw [hd.size]
  by_cases h : 256 < s.length ∨ (13 : UInt8) ∈ s ∨ d.length < 1 ∨ 8 < d.length ∨ d.all isHx = false
  · rw [if_pos h]; omega
  · rw [if_neg h]
    have ha : d.all isHx = true := by
      cases hh : d.all isHx with
      | true => rfl
      | false => exact absurd (.inr (.inr (.inr (.inr hh)))) h
    have := val_small d ha (by
      rcases Nat.lt_or_ge 8 d.length with h8 | h8
      · exact absurd (.inr (.inr (.inr (.inl h8)))) h
      · exact h8)
    omega

/-! One step. -/
/-- What stands behind a chunk. -/
def chkC (t : List UInt8) (S : Nat) : Int :=
  if t.length ≤ S then 10 else if t.getD S 0 ≠ 13 then 5 else if t.length ≤ S + 1 then 10 else if t.getD (S + 1) 0 ≠ 10 then 5 else 0
def stepC (f : Nat) (t : List UInt8) (S at1 : Nat) (body : List UInt8) : List UInt8 × Nat × Int :=
  if S = 0 then (if (parseH t).2.2 ≠ 0 then ([], 0, (parseH t).2.2) else (body, at1 + (parseH t).2.1, 0))
  else if 32768 < body.length + S then ([], 0, 3)
  else if chkC t S ≠ 0 then ([], 0, chkC t S)
  else decC f (t.drop (S + 2)) (at1 + (S + 2)) (body ++ t.take S)
theorem dec_step (f : Nat) (s t : List UInt8) (at0 : Nat) (body : List UInt8) (h10 : (10 : UInt8) ∉ s) (hs : s.length ≤ 256) (h0 : 0 ≤ szC s) : decC (f + 1) (s ++ 13 :: 10 :: t) at0 body = stepC f t (szC s).toNat (at0 + (s.length + 2)) body := by
  rw [dec_line f s t at0 body h10 hs]
  obtain ⟨S, hS⟩ : ∃ S : Nat, szC s = (S : Int) := ⟨(szC s).toNat, by omega⟩
  rw [hS, Int.toNat_natCast]
  unfold stepC chkC
  rw [if_neg (by omega)]
  by_cases hz : S = 0
  · subst hz
    rw [if_pos (by rfl), if_pos rfl]
  · rw [if_neg (by omega), if_neg hz]
    by_cases hb : 32768 < body.length + S
    · rw [if_pos (by omega), if_pos hb]
    · rw [if_neg (by omega), if_neg hb]
      by_cases h1 : t.length ≤ S
      · simp only [if_pos h1]
        rfl
      · simp only [if_neg h1]
        by_cases h2 : t.getD S 0 ≠ 13
        · simp only [if_pos h2]
          rfl
        · simp only [if_neg h2]
          by_cases h3 : t.length ≤ S + 1
          · simp only [if_pos h3]
            rfl
          · simp only [if_neg h3]
            by_cases h4 : t.getD (S + 1) 0 ≠ 10
            · simp only [if_pos h4]
              rfl
            · simp only [if_neg h4]
              rfl
theorem dec_neg (f : Nat) (s t : List UInt8) (at0 : Nat) (body : List UInt8) (h10 : (10 : UInt8) ∉ s) (hs : s.length ≤ 256) (h0 : szC s < 0) : decC (f + 1) (s ++ 13 :: 10 :: t) at0 body = ([], 0, 5) := by
  rw [dec_line f s t at0 body h10 hs, if_pos h0]
theorem dec_far (f : Nat) (r : List UInt8) (at0 : Nat) (body : List UInt8) (h : (10 : UInt8) ∉ r.take 258) (hl : 258 ≤ r.length) : decC (f + 1) r at0 body = ([], 0, 5) := by
  have hf : 258 ≤ findU [10] r := by
    have e := find_skip [10] (r.take 258) (r.drop 258) (fun d hd => by
      have : d ≠ 10 := fun e => h (e ▸ hd)
      simpa using this)
    rw [List.take_append_drop, List.length_take] at e
    omega
  conv => lhs; unfold decC
  rw [if_neg (by omega), if_pos (.inl hf)]
theorem dec_bad (f : Nat) (a t : List UInt8) (at0 : Nat) (body : List UInt8) (h : (10 : UInt8) ∉ a) (hl : a.length < 258) (hc : a.getLastD 0 ≠ 13) : decC (f + 1) (a ++ 10 :: t) at0 body = ([], 0, 5) := by
  have hf := find_byte 10 a t h
  conv => lhs; unfold decC
  rw [hf, if_neg (by simp), if_pos]
  rcases List.eq_nil_or_concat a with rfl | ⟨y, z, rfl⟩
  · exact .inr (.inl rfl)
  · refine .inr (.inr ?_)
    rw [List.concat_eq_append] at hc ⊢
    have e1 : (y ++ [z]).getLastD 0 = z := by rw [List.getLastD_eq_getLast?, List.getLast?_append]; rfl
    rw [e1] at hc
    rw [List.append_assoc, List.length_append, List.length_singleton, Nat.add_sub_cancel]
    rw [show y ++ ([z] ++ 10 :: t) = y ++ z :: (10 :: t) from rfl, getD_at]
    exact hc
/-- What a line tells: how many bytes, how long it is, or why it is none. -/
structure LineC (r : List UInt8) (S N : Nat) (E : Int) : Prop where
  none : E ≠ 0 → S = 0 ∧ N = 0 ∧ ∀ f at0 body, decC (f + 1) r at0 body = ([], 0, E)
  some : E = 0 → 0 < N ∧ N ≤ r.length ∧ S < 4294967296 ∧ ∀ f at0 body, decC (f + 1) r at0 body = stepC f (r.drop N) S (at0 + N) body
theorem LineC.bad {r : List UInt8} {E : Int} (h0 : E ≠ 0) (h : ∀ f at0 body, decC (f + 1) r at0 body = ([], 0, E)) : LineC r 0 0 E := ⟨fun _ => ⟨rfl, rfl, h⟩, fun h => absurd h h0⟩
theorem line_short (r : List UInt8) (h : (10 : UInt8) ∉ r.take 258) : LineC r 0 0 (if r.length < 258 then 10 else 5) := by
  by_cases hl : r.length < 258
  · rw [if_pos hl]
    rw [List.take_of_length_le (by omega)] at h
    exact .bad (by decide) (fun f at0 body => dec_short f r at0 body h hl)
  · rw [if_neg hl]
    exact .bad (by decide) (fun f at0 body => dec_far f r at0 body h (by omega))
theorem line_bad (a t : List UInt8) (h : (10 : UInt8) ∉ a) (hl : a.length < 258) (hc : a.getLastD 0 ≠ 13) : LineC (a ++ 10 :: t) 0 0 5 := .bad (by decide) (fun f at0 body => dec_bad f a t at0 body h hl hc)
theorem line_neg (s t : List UInt8) (h : (10 : UInt8) ∉ s) (hl : s.length ≤ 256) (hz : szC s < 0) : LineC (s ++ 13 :: 10 :: t) 0 0 5 := .bad (by decide) (fun f at0 body => dec_neg f s t at0 body h hl hz)
theorem line_at (s t : List UInt8) (h : (10 : UInt8) ∉ s) (hl : s.length ≤ 256) (hz : 0 ≤ szC s) : LineC (s ++ 13 :: 10 :: t) (szC s).toNat (s.length + 2) 0 := by
  refine ⟨fun h => absurd rfl h, fun _ => ⟨by omega, by simp, by have := szC_small s; omega, fun f at0 body => ?_⟩⟩
  rw [dec_step f s t at0 body h hl hz]
  congr 1
  rw [← List.drop_drop, List.drop_left]
  rfl
theorem line_dec (r : List UInt8) : (10 : UInt8) ∉ r.take 258 ∨ ∃ a x t, r.take 258 = a ++ 10 :: x ∧ r = a ++ 10 :: t ∧ (10 : UInt8) ∉ a ∧ a.length < 258 := by
  rcases first_dec 10 (r.take 258) with h | ⟨a, x, e, h⟩
  · exact .inl h
  · refine .inr ⟨a, x, x ++ r.drop 258, e, ?_, h, ?_⟩
    · rw [show a ++ 10 :: (x ++ r.drop 258) = (a ++ 10 :: x) ++ r.drop 258 from by simp, ← e, List.take_append_drop]
    · have := congrArg List.length e
      rw [List.length_take, List.length_append, List.length_cons] at this
      omega
theorem chk_ok (t : List UInt8) (S : Nat) (h : chkC t S = 0) : S + 2 ≤ t.length := by
  unfold chkC at h
  by_cases h1 : t.length ≤ S
  · rw [if_pos h1] at h; cases h
  · rw [if_neg h1] at h
    by_cases h2 : t.getD S 0 ≠ 13
    · rw [if_pos h2] at h; cases h
    · rw [if_neg h2] at h
      by_cases h3 : t.length ≤ S + 1
      · rw [if_pos h3] at h; cases h
      · omega
/-! The whole, from the bytes that are left. -/
def LeadsC (b : List UInt8) (k : Nat) (body : List UInt8) : Prop := ∃ f, b.length - k < f ∧ decC f (b.drop k) k body = decodeC b
theorem leadsC_zero (b : List UInt8) : LeadsC b 0 [] := ⟨b.length + 1, by omega, rfl⟩
theorem LeadsC.pos {b : List UInt8} {k : Nat} {body : List UInt8} (h : LeadsC b k body) : ∃ f, b.length - k < f + 1 ∧ decC (f + 1) (b.drop k) k body = decodeC b := by
  obtain ⟨f, h1, h2⟩ := h
  match f, h1, h2 with
  | 0, h1, _ => omega
  | f + 1, h1, h2 => exact ⟨f, h1, h2⟩
theorem LeadsC.none {b : List UInt8} {k : Nat} {body : List UInt8} {S N : Nat} {E : Int} (h : LeadsC b k body) (hl : LineC (b.drop k) S N E) (he : E ≠ 0) : decodeC b = ([], 0, E) := by
  obtain ⟨f, h1, h2⟩ := h.pos
  rw [← h2, (hl.none he).2.2]
theorem LeadsC.step {b : List UInt8} {k : Nat} {body : List UInt8} {S N : Nat} (h : LeadsC b k body) (hl : LineC (b.drop k) S N 0) : ∃ f, b.length - k < f + 1 ∧ decodeC b = stepC f (b.drop (k + N)) S (k + N) body := by
  obtain ⟨f, h1, h2⟩ := h.pos
  refine ⟨f, h1, ?_⟩
  rw [← h2, (hl.some rfl).2.2.2, List.drop_drop]
theorem LeadsC.end {b : List UInt8} {k : Nat} {body : List UInt8} {N : Nat} (h : LeadsC b k body) (hl : LineC (b.drop k) 0 N 0) : decodeC b = if (parseH (b.drop (k + N))).2.2 ≠ 0 then ([], 0, (parseH (b.drop (k + N))).2.2) else (body, k + N + (parseH (b.drop (k + N))).2.1, 0) := by
  obtain ⟨f, h1, h2⟩ := h.step hl
  rw [h2]
  unfold stepC
  rw [if_pos rfl]
theorem LeadsC.long {b : List UInt8} {k : Nat} {body : List UInt8} {S N : Nat} (h : LeadsC b k body) (hl : LineC (b.drop k) S N 0) (hS : S ≠ 0) (hb : 32768 < body.length + S) : decodeC b = ([], 0, 3) := by
  obtain ⟨f, h1, h2⟩ := h.step hl
  rw [h2]
  unfold stepC
  rw [if_neg hS, if_pos hb]
theorem LeadsC.chk {b : List UInt8} {k : Nat} {body : List UInt8} {S N : Nat} (h : LeadsC b k body) (hl : LineC (b.drop k) S N 0) (hS : S ≠ 0) (hb : ¬ 32768 < body.length + S) (hc : chkC (b.drop (k + N)) S ≠ 0) : decodeC b = ([], 0, chkC (b.drop (k + N)) S) := by
  obtain ⟨f, h1, h2⟩ := h.step hl
  rw [h2]
  unfold stepC
  rw [if_neg hS, if_neg hb, if_pos hc]
theorem LeadsC.on {b : List UInt8} {k : Nat} {body : List UInt8} {S N : Nat} (h : LeadsC b k body) (hl : LineC (b.drop k) S N 0) (hS : S ≠ 0) (hb : ¬ 32768 < body.length + S) (hc : chkC (b.drop (k + N)) S = 0) : k + N + (S + 2) ≤ b.length ∧ LeadsC b (k + N + (S + 2)) (body ++ (b.drop (k + N)).take S) := by
  obtain ⟨f, h1, h2⟩ := h.step hl
  have h3 := chk_ok _ _ hc
  rw [List.length_drop] at h3
  have h4 := (hl.some rfl).1
  refine ⟨by omega, f, by omega, ?_⟩
  rw [h2]
  unfold stepC
  rw [if_neg hS, if_neg hb, if_neg (by simpa using hc), List.drop_drop]
/-- The end behind a chunk, as the program looks at it. -/
theorem chk_prog (t : List UInt8) (S : Nat) (h : S ≤ t.length) : chkC t S = if ((t.drop S).take 2).isPrefixOf [13, 10] then (if ((t.drop S).take 2).length < 2 then 10 else 0) else 5 := by
  have hl : t.length = S + (t.drop S).length := by rw [List.length_drop]; omega
  have hg : ∀ j, t.getD (S + j) 0 = (t.drop S).getD j 0 := fun j => by simp [List.getD_eq_getElem?_getD]
  have hg0 := hg 0
  have hg1 := hg 1
  rw [Nat.add_zero] at hg0
  unfold chkC
  rw [hl, hg0, hg1]
  generalize t.drop S = r
  rcases r with _ | ⟨c, _ | ⟨d, r⟩⟩
  · simp
  · by_cases hc : c = 13
    · subst hc; simp
    · simp [hc]
  · by_cases hc : c = 13
    · by_cases hd : d = 10
      · subst hc hd; simp
      · subst hc; simp [hd]
    · simp [hc]
/-! How long what is put together is. -/
theorem one_len (p : List UInt8) (h : p.length < 4294967296) : (oneC p).length ≤ 13 * p.length := by
  unfold oneC
  by_cases hp : p = []
  · rw [if_pos hp]; simp
  · rw [if_neg hp]
    have h1 := (hexC_ok p.length h).2.2.2
    have h2 : 0 < p.length := List.length_pos_iff.2 hp
    simp only [List.length_append, List.length_cons, List.length_nil]
    omega
theorem ones_len : ∀ l : List (List UInt8), l.flatten.length ≤ 32768 → (l.flatMap oneC).length ≤ 13 * l.flatten.length
  | [], _ => by simp
  | p :: l, h => by
    rw [List.flatten_cons, List.length_append] at h
    have h1 := one_len p (by omega)
    have h2 := ones_len l (by omega)
    rw [List.flatMap_cons, List.flatten_cons, List.length_append, List.length_append]
    omega
theorem enc_len (l : List (List UInt8)) (h : l.flatten.length ≤ 32768) : (encC l).length ≤ 500000 := by
  have := ones_len l h
  unfold encC endC
  rw [List.length_append]
  simp only [List.length_cons, List.length_nil]
  omega
theorem enc_pos (l : List (List UInt8)) : 5 ≤ (encC l).length := by
  unfold encC endC
  rw [List.length_append]
  simp only [List.length_cons, List.length_nil]
  omega
theorem hex_small (n : Nat) (h : n < 16) : hexC n = [digC n] := by
  unfold hexC
  rw [hexF, if_pos h]
theorem hex_great (n : Nat) (h : ¬ n < 16) (hn : n < 4294967296) : hexC n = hexC (n / 16) ++ hexC (n % 16) := by
  rw [hex_small (n % 16) (Nat.mod_lt _ (by decide))]
  unfold hexC
  rw [show hexF 16 n = hexF 15 (n / 16) ++ [digC (n % 16)] from by rw [hexF, if_neg h], ← hexF_more 15 (n / 16) (by omega) (by decide)]
end Go.Proofs.YtkeghpghhmajiaaDoor
namespace Go.Proofs.YtkeghpghhmajiaaDoor
set_option linter.unusedVariables false
set_option linter.unusedSimpArgs false

theorem getD_drop (b : List UInt8) (a j : Nat) : (b.drop a).getD j 0 = b.getD (a + j) 0 := by simp [List.getD_eq_getElem?_getD]
/-- From a the look for a line's end stands at e. -/
structure ScanC (b : List UInt8) (a e : Nat) : Prop where
  ge : a ≤ e
  le : e ≤ b.length
  on : ∀ i, a ≤ i → i < e → b.getD i 0 ≠ 10 ∧ i < a + 258
  upto : e ≤ a + 258
theorem getD_in (a x : List UInt8) (j : Nat) (h : j < a.length) : (a ++ x).getD j 0 ∈ a := by
  rw [List.getD_eq_getElem?_getD, List.getElem?_append_left h, List.getElem?_eq_getElem h]
  exact List.getElem_mem h
theorem scan_dec (b : List UInt8) (a : Nat) (ha : a ≤ b.length) : ∃ e, ScanC b a e ∧
    ((e = b.length ∧ e < a + 258 ∧ ∀ f body, decC (f + 1) (b.drop a) a body = ([], 0, 10)) ∨
     (e = a + 258 ∧ ∀ f body, decC (f + 1) (b.drop a) a body = ([], 0, 5)) ∨
     (e < b.length ∧ e < a + 258 ∧ b.getD e 0 = 10 ∧ (e = a ∨ b.getD (e - 1) 0 ≠ 13) ∧ ∀ f body, decC (f + 1) (b.drop a) a body = ([], 0, 5)) ∨
     (e < b.length ∧ e < a + 258 ∧ b.getD e 0 = 10 ∧ a < e ∧ b.getD (e - 1) 0 = 13 ∧
       (szC ((b.drop a).take (e - 1 - a)) < 0 → ∀ f body, decC (f + 1) (b.drop a) a body = ([], 0, 5)) ∧
       (0 ≤ szC ((b.drop a).take (e - 1 - a)) → ∀ f body, decC (f + 1) (b.drop a) a body = stepC f (b.drop (e + 1)) (szC ((b.drop a).take (e - 1 - a))).toNat (e + 1) body))) := by
  have hl : (b.drop a).length = b.length - a := List.length_drop
  have hat : ∀ i, a ≤ i → b.getD i 0 = (b.drop a).getD (i - a) 0 := fun i hi => by rw [getD_drop, show a + (i - a) = i from by omega]
  rcases line_dec (b.drop a) with hno | ⟨p, x, t, hx, hr, hp, hpl⟩
  · rcases Nat.lt_or_ge (b.drop a).length 258 with h | h
    · refine ⟨b.length, ⟨ha, Nat.le_refl _, fun i h1 h2 => ⟨?_, by omega⟩, by omega⟩, .inl ⟨rfl, by omega, fun f body => ?_⟩⟩
      · rw [hat i h1]
        intro e
        refine hno ?_
        rw [List.take_of_length_le (by omega), ← e, List.getD_eq_getElem?_getD, List.getElem?_eq_getElem (by omega)]
        exact List.getElem_mem _
      · rw [List.take_of_length_le (by omega)] at hno
        exact dec_short f _ a body hno h
    · refine ⟨a + 258, ⟨by omega, by omega, fun i h1 h2 => ⟨?_, h2⟩, Nat.le_refl _⟩, .inr (.inl ⟨rfl, fun f body => dec_far f _ a body hno h⟩)⟩
      rw [hat i h1]
      intro e
      refine hno ?_
      have hi : i - a < ((b.drop a).take 258).length := by rw [List.length_take]; omega
      have : ((b.drop a).take 258)[i - a]'hi = (b.drop a).getD (i - a) 0 := by
        rw [List.getElem_take, List.getD_eq_getElem?_getD, List.getElem?_eq_getElem (by omega)]; rfl
      rw [← e, ← this]
      exact List.getElem_mem hi
  · have hbl : b.length = a + p.length + 1 + t.length := by
      have := congrArg List.length hr
      rw [hl, List.length_append, List.length_cons] at this
      omega
    have hsc : ScanC b a (a + p.length) := ⟨by omega, by omega, fun i h1 h2 => ⟨by
      rw [hat i h1, hr]
      intro e
      have := getD_in p (10 :: t) (i - a) (by omega)
      rw [e] at this
      exact hp this, by omega⟩, by omega⟩
    have h10 : b.getD (a + p.length) 0 = 10 := by rw [← getD_drop, hr, getD_at]
    refine ⟨a + p.length, hsc, .inr (.inr ?_)⟩
    by_cases hc : p.getLastD 0 = 13
    · obtain ⟨s, rfl⟩ : ∃ s, p = s ++ [13] := by
        rcases List.eq_nil_or_concat p with rfl | ⟨y, z, rfl⟩
        · cases hc
        · rw [List.concat_eq_append] at hc ⊢
          have e : (y ++ [z]).getLastD 0 = z := by rw [List.getLastD_eq_getLast?, List.getLast?_append]; rfl
          rw [e] at hc
          subst hc
          exact ⟨y, rfl⟩
      have hsl : (s ++ [13]).length = s.length + 1 := by simp
      have h10s : (10 : UInt8) ∉ s := fun h => hp (by simp [h])
      have hr2 : b.drop a = s ++ 13 :: 10 :: t := by rw [hr]; simp
      rw [hsl] at h10 hpl hbl ⊢
      have e1 : a + (s.length + 1) - 1 - a = s.length := by omega
      have e2 : (b.drop a).take s.length = s := by rw [hr2, List.take_left]
      have e3 : b.drop (a + (s.length + 1) + 1) = t := by
        rw [show a + (s.length + 1) + 1 = a + (s.length + 2) from by omega, ← List.drop_drop, hr2, ← List.drop_drop, List.drop_left]
        rfl
      have h13 : b.getD (a + (s.length + 1) - 1) 0 = 13 := by
        rw [show a + (s.length + 1) - 1 = a + s.length from by omega, ← getD_drop, hr2, getD_at]
      rw [e1, e2, e3]
      refine .inr ⟨by omega, by omega, h10, by omega, h13, fun hz f body => ?_, fun hz f body => ?_⟩
      · rw [hr2]; exact dec_neg f s t a body h10s (by omega) hz
      · rw [hr2, dec_step f s t a body h10s (by omega) hz]
        rw [show a + (s.length + 2) = a + (s.length + 1) + 1 from by omega]
    · refine .inl ⟨by omega, by omega, h10, ?_, fun f body => by rw [hr]; exact dec_bad f p t a body hp hpl hc⟩
      rcases List.eq_nil_or_concat p with rfl | ⟨y, z, rfl⟩
      · exact .inl rfl
      · right
        rw [List.concat_eq_append] at hc hr ⊢
        have e : (y ++ [z]).getLastD 0 = z := by rw [List.getLastD_eq_getLast?, List.getLast?_append]; rfl
        rw [e] at hc
        rw [show a + (y ++ [z]).length - 1 = a + y.length from by simp, ← getD_drop, hr, List.append_assoc]
        rw [show y ++ ([z] ++ 10 :: t) = y ++ z :: (10 :: t) from rfl, getD_at]
        exact hc
/-- m bytes of a chunk and its end are looked at. -/
structure CopyC (t : List UInt8) (S m : Nat) : Prop where
  le : m ≤ t.length
  cr : S < m → t.getD S 0 = 13
  lf : S + 1 < m → t.getD (S + 1) 0 = 10
theorem CopyC.zero (t : List UInt8) (S : Nat) : CopyC t S 0 := ⟨Nat.zero_le _, fun h => by omega, fun h => by omega⟩
theorem CopyC.more {t : List UInt8} {S m : Nat} (h : CopyC t S m) (hm : t.length ≤ m) (hs : m < S + 2) : chkC t S = 10 := by
  have hl := h.le
  unfold chkC
  by_cases h1 : t.length ≤ S
  · rw [if_pos h1]
  · rw [if_neg h1, if_neg (by rw [h.cr (by omega)]; simp), if_pos (by omega)]
theorem CopyC.badCr {t : List UInt8} {S : Nat} (hm : S < t.length) (hc : t.getD S 0 ≠ 13) : chkC t S = 5 := by
  unfold chkC
  rw [if_neg (by omega), if_pos hc]
theorem CopyC.badLf {t : List UInt8} {S : Nat} (h : CopyC t S (S + 1)) (hm : S + 1 < t.length) (hc : t.getD (S + 1) 0 ≠ 10) : chkC t S = 5 := by
  unfold chkC
  rw [if_neg (by omega), if_neg (by rw [h.cr (by omega)]; simp), if_neg (by omega), if_pos hc]
theorem CopyC.done {t : List UInt8} {S : Nat} (h : CopyC t S (S + 2)) : chkC t S = 0 := by
  have hl := h.le
  unfold chkC
  rw [if_neg (by omega), if_neg (by rw [h.cr (by omega)]; simp), if_neg (by omega), if_neg (by rw [h.lf (by omega)]; simp)]
theorem CopyC.step {t : List UInt8} {S m : Nat} (h : CopyC t S m) (hm : m < t.length) (h1 : m = S → t.getD S 0 = 13) (h2 : m = S + 1 → t.getD (S + 1) 0 = 10) : CopyC t S (m + 1) :=
  ⟨by omega, fun hh => by
    rcases Nat.lt_or_ge S m with h3 | h3
    · exact h.cr h3
    · exact h1 (by omega), fun hh => by
    rcases Nat.lt_or_ge (S + 1) m with h3 | h3
    · exact h.lf h3
    · exact h2 (by omega)⟩
theorem step_zero (f : Nat) (t : List UInt8) (at1 : Nat) (body : List UInt8) : stepC f t 0 at1 body = if (parseH t).2.2 ≠ 0 then ([], 0, (parseH t).2.2) else (body, at1 + (parseH t).2.1, 0) := by unfold stepC; rw [if_pos rfl]
theorem step_long (f : Nat) (t : List UInt8) (S at1 : Nat) (body : List UInt8) (h0 : S ≠ 0) (h : 32768 < body.length + S) : stepC f t S at1 body = ([], 0, 3) := by unfold stepC; rw [if_neg h0, if_pos h]
theorem step_chk (f : Nat) (t : List UInt8) (S at1 : Nat) (body : List UInt8) (h0 : S ≠ 0) (h : ¬ 32768 < body.length + S) (E : Int) (hE : chkC t S = E) (hne : E ≠ 0) : stepC f t S at1 body = ([], 0, E) := by unfold stepC; rw [if_neg h0, if_neg h, hE, if_pos hne]
theorem step_on (f : Nat) (t : List UInt8) (S at1 : Nat) (body : List UInt8) (h0 : S ≠ 0) (h : ¬ 32768 < body.length + S) (hE : chkC t S = 0) : stepC f t S at1 body = decC f (t.drop (S + 2)) (at1 + (S + 2)) (body ++ t.take S) := by unfold stepC; rw [if_neg h0, if_neg h, hE, if_neg (by simp)]
end Go.Proofs.YtkeghpghhmajiaaDoor
