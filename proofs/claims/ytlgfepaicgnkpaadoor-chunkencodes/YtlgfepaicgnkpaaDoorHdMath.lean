
/- Headers, put together and read back: plain mathematics for layer 9 (no program in it). -/
import Derived.Test.YtlgfepaicgnkpaaDoorTxBook
namespace Go.Proofs.YtlgfepaicgnkpaaDoor
set_option linter.unusedVariables false
set_option linter.unusedSimpArgs false

structure HdV where
  name : List UInt8
  value : List UInt8
def signH (c : UInt8) : Bool := letterU c || digitU c || ([33, 35, 36, 37, 38, 39, 42, 43, 45, 46, 94, 95, 124, 126] : List UInt8).contains c || c == 96
def tokenH (s : List UInt8) : Bool := s.all signH && !s.isEmpty
def blankH (c : UInt8) : Bool := c == 32 || c == 9
def badH (c : UInt8) : Bool := c == 127 || (decide (c.toNat < 32) && c != 9)
def valueH (v : List UInt8) : Bool := v.all (fun c => !badH c) && !blankH (v.headD 0) && !blankH (v.getLastD 0)
def mayH (h : HdV) : Bool := valueH h.value && tokenH h.name
def lineH (h : HdV) : List UInt8 := h.name ++ 58 :: 32 :: h.value
def sizeH : List HdV → Nat
  | [] => 2
  | h :: r => h.name.length + 2 + h.value.length + 2 + sizeH r
def printH : List HdV → List UInt8
  | [] => [13, 10]
  | h :: r => lineH h ++ 13 :: 10 :: printH r
theorem print_size : ∀ l, (printH l).length = sizeH l
  | [] => rfl
  | h :: r => by
    simp only [printH, sizeH, lineH, List.length_append, List.length_cons, print_size r]
    omega
def checkH (l : List HdV) : Int := if l.all mayH then (if 64 < l.length ∨ 8192 < sizeH l then 3 else 0) else 1
/-- A line without its carriage return. -/
def crH (l : List UInt8) : List UInt8 := if l.getLastD 0 = 13 then l.dropLast else l
def trimH (l : List UInt8) : List UInt8 := ((l.dropWhile blankH).reverse.dropWhile blankH).reverse
def oneH (l : List UInt8) : Option HdV :=
  if findU [58] l = l.length then none
  else if mayH ⟨l.take (findU [58] l), trimH (l.drop (findU [58] l + 1))⟩ then some ⟨l.take (findU [58] l), trimH (l.drop (findU [58] l + 1))⟩ else none
/-- Line by line: what is left, how many bytes are behind, what was read. -/
def linesH : Nat → List UInt8 → Nat → List HdV → List HdV × Nat × Int
  | 0, _, _, _ => ([], 0, 10)
  | f + 1, b, n, out =>
    if findU [10] b = b.length then ([], 0, if 8192 < n + b.length then 3 else 10)
    else if 8192 < n + findU [10] b + 1 then ([], 0, 3)
    else if crH (b.take (findU [10] b)) = [] then (out, n + findU [10] b + 1, 0)
    else match oneH (crH (b.take (findU [10] b))) with
      | none => ([], 0, 5)
      | some h => if out.length = 64 then ([], 0, 3) else linesH f (b.drop (findU [10] b + 1)) (n + findU [10] b + 1) (out ++ [h])
def parseH (b : List UInt8) : List HdV × Nat × Int := linesH (b.length + 1) b 0 []
theorem find_byte (c : UInt8) (a r : List UInt8) (h : c ∉ a) : findU [c] (a ++ c :: r) = a.length := by
  rw [find_skip [c] a _ (fun d hd => by
    have : d ≠ c := fun e => h (e ▸ hd)
    simpa using this), find_here [c] c r (by simp)]
  rfl
theorem find_miss (c : UInt8) (a : List UInt8) (h : c ∉ a) : findU [c] a = a.length := by
  have := find_skip [c] a [] (fun d hd => by
    have : d ≠ c := fun e => h (e ▸ hd)
    simpa using this)
  rw [List.append_nil, find_nil] at this
  exact this
theorem sign_fin : ∀ n : Fin 256, signH (UInt8.ofNat n.val) = true → UInt8.ofNat n.val ≠ 58 ∧ UInt8.ofNat n.val ≠ 10 ∧ UInt8.ofNat n.val ≠ 13 := by decide +kernel
theorem sign_not (c : UInt8) (h : signH c = true) : c ≠ 58 ∧ c ≠ 10 ∧ c ≠ 13 := by
  have := sign_fin ⟨c.toNat, c.toNat_lt⟩
  simp only [UInt8.ofNat_toNat] at this
  exact this h
theorem may_parts (h : HdV) (hm : mayH h = true) : (∀ c ∈ h.name, c ≠ 58 ∧ c ≠ 10 ∧ c ≠ 13) ∧ h.name ≠ [] ∧ (∀ c ∈ h.value, c ≠ 10 ∧ c ≠ 13) ∧ blankH (h.value.headD 0) = false ∧ blankH (h.value.getLastD 0) = false := by
  unfold mayH valueH tokenH at hm
  simp only [Bool.and_eq_true, Bool.not_eq_true', List.all_eq_true] at hm
  obtain ⟨⟨⟨h1, h2⟩, h3⟩, h4, h5⟩ := hm
  refine ⟨fun c hc => sign_not c (h4 c hc), fun e => ?_, fun c hc => ?_, h2, h3⟩
  · rw [e] at h5; cases h5
  · have := h1 c hc
    constructor
    · rintro rfl; revert this; decide
    · rintro rfl; revert this; decide
theorem trim_own (v : List UInt8) (h1 : blankH (v.headD 0) = false) (h2 : blankH (v.getLastD 0) = false) : trimH (32 :: v) = v := by
  unfold trimH
  have e1 : (32 :: v).dropWhile blankH = v := by
    rw [List.dropWhile_cons_of_pos (by decide)]
    cases v with
    | nil => rfl
    | cons c r => rw [List.dropWhile_cons_of_neg (by simpa using h1)]
  rw [e1]
  have e2 : v.reverse.dropWhile blankH = v.reverse := by
    rcases List.eq_nil_or_concat v with rfl | ⟨x, d, rfl⟩
    · rfl
    · have : blankH d = false := by simpa using h2
      rw [List.concat_eq_append, List.reverse_append, List.reverse_singleton, List.singleton_append, List.dropWhile_cons_of_neg (by simp [this])]
  rw [e2, List.reverse_reverse]
/-- A header's own line is read as it. -/
theorem one_own (h : HdV) (hm : mayH h = true) : oneH (lineH h) = some h := by
  obtain ⟨h1, h2, h3, h4, h5⟩ := may_parts h hm
  have hf : findU [58] (lineH h) = h.name.length := find_byte 58 h.name _ (fun hc => (h1 58 hc).1 rfl)
  have hne : ¬ findU [58] (lineH h) = (lineH h).length := by rw [hf]; unfold lineH; simp
  unfold oneH
  rw [if_neg hne, hf]
  have e1 : (lineH h).take h.name.length = h.name := by unfold lineH; simp
  have e2 : (lineH h).drop (h.name.length + 1) = 32 :: h.value := by unfold lineH; simp
  rw [e1, e2, trim_own h.value h4 h5, if_pos hm]
theorem line_free (h : HdV) (hm : mayH h = true) : (10 : UInt8) ∉ lineH h ++ [13] ∧ crH (lineH h ++ [13]) = lineH h ∧ lineH h ≠ [] := by
  obtain ⟨h1, h2, h3, h4, h5⟩ := may_parts h hm
  refine ⟨fun hc => ?_, ?_, ?_⟩
  · unfold lineH at hc
    simp only [List.mem_append, List.mem_cons, List.not_mem_nil, or_false] at hc
    rcases hc with (hc | hc | hc | hc) | hc
    · exact (h1 10 hc).2.1 rfl
    · revert hc; decide
    · revert hc; decide
    · exact (h3 10 hc).1 rfl
    · revert hc; decide
  · unfold crH
    rw [if_pos (by simp)]
    simp
  · unfold lineH; simp
/-- What is put together is read back, whatever follows. -/
theorem lines_print : ∀ (l : List HdV) (f n : Nat) (out : List HdV) (more : List UInt8), l.all mayH = true → l.length < f → out.length + l.length ≤ 64 → n + sizeH l ≤ 8192 → linesH f (printH l ++ more) n out = (out ++ l, n + sizeH l, 0)
  | [], 0, n, out, more, _, hf, _, _ => by simp at hf
  | [], f + 1, n, out, more, _, _, _, hs => by
    have e : findU [10] (printH [] ++ more) = 1 := find_byte 10 [13] more (by decide)
    have hl : ¬ findU [10] (printH [] ++ more) = (printH [] ++ more).length := by rw [e]; simp [printH]
    unfold linesH
    rw [if_neg hl, e]
    have h2 : sizeH [] = 2 := rfl
    rw [h2] at hs ⊢
    rw [if_neg (by omega)]
    have e2 : crH ((printH [] ++ more).take 1) = [] := rfl
    rw [e2, if_pos rfl, List.append_nil]
  | h :: r, 0, n, out, more, _, hf, _, _ => by simp at hf
  | h :: r, f + 1, n, out, more, hm, hf, ho, hs => by
    rw [List.all_cons, Bool.and_eq_true] at hm
    obtain ⟨g1, g2, g3⟩ := line_free h hm.1
    simp only [List.length_cons] at hf ho
    have hsz : sizeH (h :: r) = h.name.length + 2 + h.value.length + 2 + sizeH r := rfl
    have hll : (lineH h ++ [13]).length = h.name.length + h.value.length + 3 := by unfold lineH; simp; omega
    have es : printH (h :: r) ++ more = (lineH h ++ [13]) ++ 10 :: (printH r ++ more) := by simp [printH]
    have e : findU [10] (printH (h :: r) ++ more) = (lineH h ++ [13]).length := by rw [es]; exact find_byte 10 _ _ g1
    have hl : ¬ findU [10] (printH (h :: r) ++ more) = (printH (h :: r) ++ more).length := by rw [e, es]; simp
    have et : (printH (h :: r) ++ more).take (lineH h ++ [13]).length = lineH h ++ [13] := by rw [es, List.take_left]
    have ed : (printH (h :: r) ++ more).drop ((lineH h ++ [13]).length + 1) = printH r ++ more := by
      rw [es, List.drop_append]
      simp
    have h2 : 2 ≤ sizeH r := by rw [← print_size]; cases r <;> simp [printH]; omega
    rw [hsz] at hs ⊢
    unfold linesH
    rw [if_neg hl, e, et, g2, ed, if_neg (by omega), if_neg g3, one_own h hm.1]
    simp only
    rw [if_neg (by omega), lines_print r f _ _ more hm.2 (by omega) (by simp; omega) (by omega)]
    simp only [List.append_assoc, List.singleton_append, Prod.mk.injEq, true_and, and_true]
    omega
theorem print_parse (l : List HdV) (h : checkH l = 0) (more : List UInt8) : parseH (printH l ++ more) = (l, (printH l).length, 0) := by
  unfold checkH at h
  split at h
  · rename_i hm
    split at h
    · cases h
    · rename_i hc
      rw [not_or] at hc
      have hls : l.length ≤ sizeH l := by
        clear h hm hc
        induction l with
        | nil => simp [sizeH]
        | cons a r ih => simp only [sizeH, List.length_cons]; omega
      unfold parseH
      rw [lines_print l _ 0 [] more hm (by rw [List.length_append, print_size]; omega) (by simp; omega) (by omega), print_size]
      simp
  · cases h
/-- Of a beginning more is to come. -/
theorem lines_cut : ∀ (l : List HdV) (f n k : Nat) (out : List HdV), l.all mayH = true → k < f → out.length + l.length ≤ 64 → n + sizeH l ≤ 8192 → k < sizeH l → linesH f ((printH l).take k) n out = ([], 0, 10)
  | l, 0, n, k, out, _, hf, _, _, _ => by simp at hf
  | [], f + 1, n, k, out, _, _, _, hs, hk => by
    have h2 : sizeH [] = 2 := rfl
    rw [h2] at hs hk
    have hn : (10 : UInt8) ∉ (printH []).take k := by
      rcases (show k = 0 ∨ k = 1 by omega) with rfl | rfl <;> simp [printH]
    have hlen : ((printH []).take k).length = k := by rw [List.length_take]; simp [printH]; omega
    unfold linesH
    rw [if_pos (find_miss 10 _ hn), hlen, if_neg (by omega)]
  | h :: r, f + 1, n, k, out, hm, hf, ho, hs, hk => by
    rw [List.all_cons, Bool.and_eq_true] at hm
    obtain ⟨g1, g2, g3⟩ := line_free h hm.1
    simp only [List.length_cons] at ho
    have hsz : sizeH (h :: r) = h.name.length + 2 + h.value.length + 2 + sizeH r := rfl
    have hll : (lineH h ++ [13]).length = h.name.length + h.value.length + 3 := by unfold lineH; simp; omega
    have es : printH (h :: r) = (lineH h ++ [13]) ++ 10 :: printH r := by simp [printH]
    rw [hsz] at hs hk
    rcases Nat.lt_or_ge (lineH h ++ [13]).length k with hgt | hle
    · obtain ⟨j, rfl⟩ : ∃ j, k = (lineH h ++ [13]).length + (j + 1) := ⟨k - (lineH h ++ [13]).length - 1, by omega⟩
      have et : (printH (h :: r)).take ((lineH h ++ [13]).length + (j + 1)) = (lineH h ++ [13]) ++ 10 :: (printH r).take j := by
        rw [es, List.take_length_add_append]
        rfl
      rw [et]
      have e : findU [10] ((lineH h ++ [13]) ++ 10 :: (printH r).take j) = (lineH h ++ [13]).length := find_byte 10 _ _ g1
      have hl : ¬ findU [10] ((lineH h ++ [13]) ++ 10 :: (printH r).take j) = ((lineH h ++ [13]) ++ 10 :: (printH r).take j).length := by rw [e]; simp
      have e1 : ((lineH h ++ [13]) ++ 10 :: (printH r).take j).take (lineH h ++ [13]).length = lineH h ++ [13] := by rw [List.take_left]
      have ed : ((lineH h ++ [13]) ++ 10 :: (printH r).take j).drop ((lineH h ++ [13]).length + 1) = (printH r).take j := by
        rw [List.drop_append]
        simp
      unfold linesH
      rw [if_neg hl, e, e1, g2, ed, if_neg (by omega), if_neg g3, one_own h hm.1]
      simp only
      rw [if_neg (by omega)]
      exact lines_cut r f _ j _ hm.2 (by omega) (by simp; omega) (by omega) (by omega)
    · have et : (printH (h :: r)).take k = (lineH h ++ [13]).take k := by rw [es, List.take_append_of_le_length hle]
      have hn : (10 : UInt8) ∉ (printH (h :: r)).take k := by rw [et]; exact fun hc => g1 (List.mem_of_mem_take hc)
      have hlen : ((printH (h :: r)).take k).length ≤ k := by rw [List.length_take]; omega
      unfold linesH
      rw [if_pos (find_miss 10 _ hn), if_neg (by omega)]
theorem cut_parse (l : List HdV) (h : checkH l = 0) (k : Nat) (hk : k < (printH l).length) : parseH ((printH l).take k) = ([], 0, 10) := by
  rw [print_size] at hk
  unfold checkH at h
  split at h
  · rename_i hm
    split at h
    · cases h
    · rename_i hc
      rw [not_or] at hc
      unfold parseH
      exact lines_cut l _ 0 k [] hm (by rw [List.length_take, print_size]; omega) (by simp; omega) (by omega) hk
  · cases h
end Go.Proofs.YtlgfepaicgnkpaaDoor
