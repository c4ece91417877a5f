
/- Headers line by line, as the program goes and as the reference goes: plain mathematics for layer 9 (no program in it). -/
import Derived.Test.YtlgfepaicgnkpaaDoorHdMath
import Derived.Lib.SlTrimSet
namespace Go.Proofs.YtlgfepaicgnkpaaDoor
set_option linter.unusedVariables false
set_option linter.unusedSimpArgs false

/-! A line is read. -/
def zeroH : HdV := ⟨[], []⟩
def oneV (l : List UInt8) : HdV := if findU [58] l = l.length then zeroH else ⟨l.take (findU [58] l), trimH (l.drop (findU [58] l + 1))⟩
def oneB (l : List UInt8) : Bool := !decide (findU [58] l = l.length) && mayH (oneV l)
theorem one_eq (l : List UInt8) : oneH l = if oneB l then some (oneV l) else none := by
  unfold oneH oneB oneV
  by_cases h : findU [58] l = l.length
  · rw [if_pos h, decide_eq_true h]; rfl
  · simp only [if_neg h, decide_eq_false h, Bool.not_false, Bool.true_and]
theorem one_true (l : List UInt8) (h : oneB l = true) : oneH l = some (oneV l) := by rw [one_eq, if_pos h]
theorem one_false (l : List UInt8) (h : oneB l = false) : oneH l = none := by rw [one_eq, h]; rfl
theorem oneV_no (l : List UInt8) (h : (58 : UInt8) ∉ l) : oneV l = zeroH ∧ oneB l = false := by
  have e := find_miss 58 l h
  constructor
  · unfold oneV; rw [if_pos e]
  · unfold oneB; rw [decide_eq_true e]; rfl
theorem oneV_at (a x : List UInt8) (h : (58 : UInt8) ∉ a) : oneV (a ++ 58 :: x) = ⟨a, trimH x⟩ ∧ oneB (a ++ 58 :: x) = mayH ⟨a, trimH x⟩ := by
  have e := find_byte 58 a x h
  have hne : ¬ findU [58] (a ++ 58 :: x) = (a ++ 58 :: x).length := by rw [e]; simp
  have ev : oneV (a ++ 58 :: x) = ⟨a, trimH x⟩ := by
    unfold oneV
    rw [if_neg hne, e]
    simp
  refine ⟨ev, ?_⟩
  unfold oneB
  rw [decide_eq_false hne, ev]
  rfl

/-! Trimmed at both ends, in either order. -/
theorem dw_all (p : UInt8 → Bool) : ∀ l : List UInt8, (∀ c ∈ l, p c = true) → l.dropWhile p = []
  | [], _ => rfl
  | c :: r, h => by rw [List.dropWhile_cons_of_pos (h c (by simp)), dw_all p r (fun d hd => h d (by simp [hd]))]
theorem dw_app (p : UInt8 → Bool) : ∀ (a b : List UInt8), (∀ c ∈ a, p c = true) → (a ++ b).dropWhile p = b.dropWhile p
  | [], _, _ => rfl
  | c :: r, b, h => by rw [List.cons_append, List.dropWhile_cons_of_pos (h c (by simp)), dw_app p r b (fun d hd => h d (by simp [hd]))]
theorem dw_neg (p : UInt8 → Bool) (c : UInt8) (r : List UInt8) (h : p c = false) : (c :: r).dropWhile p = c :: r := List.dropWhile_cons_of_neg (by simp [h])
theorem dw_dec (p : UInt8 → Bool) : ∀ l : List UInt8, (∀ c ∈ l, p c = true) ∨ ∃ a c r, l = a ++ c :: r ∧ (∀ d ∈ a, p d = true) ∧ p c = false
  | [] => .inl (by simp)
  | x :: t => by
    cases hx : p x with
    | false => exact .inr ⟨[], x, t, rfl, by simp, hx⟩
    | true =>
      rcases dw_dec p t with h | ⟨a, c, r, e, h1, h2⟩
      · exact .inl fun c hc => by
          rcases List.mem_cons.1 hc with rfl | hc
          · exact hx
          · exact h c hc
      · exact .inr ⟨x :: a, c, r, by rw [e]; rfl, fun d hd => by
          rcases List.mem_cons.1 hd with rfl | hd
          · exact hx
          · exact h1 d hd, h2⟩
def trR (p : UInt8 → Bool) (l : List UInt8) : List UInt8 := (l.reverse.dropWhile p).reverse
theorem trR_all (p : UInt8 → Bool) (l : List UInt8) (h : ∀ c ∈ l, p c = true) : trR p l = [] := by
  unfold trR; rw [dw_all p _ (fun c hc => h c (by simpa using hc))]; rfl
theorem trR_at (p : UInt8 → Bool) (a : List UInt8) (c : UInt8) (b : List UInt8) (hc : p c = false) (hb : ∀ d ∈ b, p d = true) : trR p (a ++ c :: b) = a ++ [c] := by
  unfold trR
  rw [List.reverse_append, List.reverse_cons, List.append_assoc, dw_app p _ _ (fun d hd => hb d (by simpa using hd)), List.singleton_append, dw_neg p c _ hc]
  simp
theorem tr_dec (p : UInt8 → Bool) (l : List UInt8) : (∀ c ∈ l, p c = true) ∨ ∃ a c b, l = a ++ c :: b ∧ p c = false ∧ ∀ d ∈ b, p d = true := by
  rcases dw_dec p l.reverse with h | ⟨a, c, r, e, h1, h2⟩
  · exact .inl fun c hc => h c (by simpa using hc)
  · refine .inr ⟨r.reverse, c, a.reverse, ?_, h2, fun d hd => h1 d (by simpa using hd)⟩
    have := congrArg List.reverse e
    rw [List.reverse_reverse] at this
    rw [this]; simp
theorem trim_swap (p : UInt8 → Bool) (l : List UInt8) : trR p (l.dropWhile p) = (trR p l).dropWhile p := by
  rcases tr_dec p l with h | ⟨a, c, b, rfl, hc, hb⟩
  · rw [dw_all p l h, trR_all p l h]; rfl
  · rw [trR_at p a c b hc hb]
    rcases dw_dec p a with h | ⟨x, d, y, rfl, h1, h2⟩
    · rw [dw_app p a _ h, dw_app p a _ h, dw_neg p c _ hc, dw_neg p c _ hc]
      exact trR_at p [] c b hc hb
    · simp only [List.append_assoc, List.cons_append]
      rw [dw_app p x _ h1, dw_app p x _ h1, dw_neg p d _ h2, dw_neg p d _ h2]
      exact trR_at p (d :: y) c b hc hb
theorem blank_in (c : UInt8) : ([32, 9] : List UInt8).contains c = blankH c := by
  unfold blankH
  simp only [List.contains, List.elem]
  cases (c == 32) <;> cases (c == 9) <;> rfl
theorem trim_lib (l : List UInt8) : Lib.trimS l [32, 9] = trimH l := by
  have e : (fun c : UInt8 => ([32, 9] : List UInt8).contains c) = blankH := funext blank_in
  unfold Lib.trimS Lib.trimLeftS Lib.trimRightS trimH
  rw [e]
  exact (trim_swap blankH l).symm
theorem trR_len (p : UInt8 → Bool) (l : List UInt8) : (trR p l).length ≤ l.length := by
  unfold trR
  rw [List.length_reverse]
  have := (List.dropWhile_sublist (l := l.reverse) p).length_le
  simpa using this
theorem dw_len (p : UInt8 → Bool) (l : List UInt8) : (l.dropWhile p).length ≤ l.length := (List.dropWhile_sublist (l := l) p).length_le
theorem trim_len (l : List UInt8) : (trimH l).length ≤ l.length := Nat.le_trans (trR_len blankH _) (dw_len blankH l)
/-- What has no blank at its ends is as it is trimmed. -/
theorem trim_iff (v : List UInt8) : decide (v = trimH v) = (!blankH (v.headD 0) && !blankH (v.getLastD 0)) := by
  rcases tr_dec blankH v with h | ⟨a, c, b, rfl, hc, hb⟩
  · cases v with
    | nil => rfl
    | cons x r =>
      have : trimH (x :: r) = [] := by
        show trR blankH _ = _
        rw [dw_all _ _ h]; rfl
      rw [this, decide_eq_false (by simp), List.headD_cons, h x (by simp)]
      rfl
  · have e : trimH (a ++ c :: b) = (a ++ [c]).dropWhile blankH := by
      show trR blankH _ = _
      rw [trim_swap, trR_at _ a c b hc hb]
    rcases List.eq_nil_or_concat b with rfl | ⟨b', z, rfl⟩
    · have hl : (a ++ [c]).getLastD 0 = c := by simp
      rw [e, hl, hc]
      cases a with
      | nil =>
        show decide ([c] = [c].dropWhile blankH) = _
        rw [dw_neg _ c _ hc]
        simp [hc]
      | cons x r =>
        show decide (x :: (r ++ [c]) = (x :: (r ++ [c])).dropWhile blankH) = (!blankH x && !false)
        cases hx : blankH x with
        | false => rw [dw_neg _ x _ hx]; simp
        | true =>
          rw [List.dropWhile_cons_of_pos hx, decide_eq_false]
          · rfl
          · intro hh
            have := congrArg List.length hh
            have := dw_len blankH (r ++ [c])
            simp only [List.length_cons] at *
            omega
    · have hz : blankH z = true := hb z (by simp)
      have hl : (a ++ c :: b'.concat z).getLastD 0 = z := by
        rw [List.concat_eq_append, ← List.cons_append, ← List.append_assoc]
        rw [List.getLastD_eq_getLast?, List.getLast?_append]; rfl
      rw [hl, hz, Bool.not_true, Bool.and_false, decide_eq_false]
      intro hh
      rw [e] at hh
      have h1 := congrArg List.length hh
      have h2 := dw_len blankH (a ++ [c])
      simp only [List.concat_eq_append, List.length_append, List.length_cons, List.length_nil] at h1 h2
      omega

/-! Line by line. -/
theorem lines_none (f : Nat) (b : List UInt8) (n : Nat) (out : List HdV) (h : (10 : UInt8) ∉ b) : linesH (f + 1) b n out = ([], 0, if 8192 < n + b.length then 3 else 10) := by
  unfold linesH
  rw [if_pos (find_miss 10 b h)]
theorem lines_far (f : Nat) (a x : List UInt8) (n : Nat) (out : List HdV) (h : (10 : UInt8) ∉ a) (hf : 8192 < n + a.length + 1) : linesH (f + 1) (a ++ 10 :: x) n out = ([], 0, 3) := by
  have e := find_byte 10 a x h
  unfold linesH
  rw [if_neg (by rw [e]; simp), e, if_pos hf]
theorem lines_end (f : Nat) (a x : List UInt8) (n : Nat) (out : List HdV) (h : (10 : UInt8) ∉ a) (hf : ¬ 8192 < n + a.length + 1) (hc : crH a = []) : linesH (f + 1) (a ++ 10 :: x) n out = (out, n + a.length + 1, 0) := by
  have e := find_byte 10 a x h
  unfold linesH
  rw [if_neg (by rw [e]; simp), e, if_neg hf, List.take_left, if_pos hc]
theorem lines_bad (f : Nat) (a x : List UInt8) (n : Nat) (out : List HdV) (h : (10 : UInt8) ∉ a) (hf : ¬ 8192 < n + a.length + 1) (hc : ¬ crH a = []) (ho : oneB (crH a) = false) : linesH (f + 1) (a ++ 10 :: x) n out = ([], 0, 5) := by
  have e := find_byte 10 a x h
  unfold linesH
  rw [if_neg (by rw [e]; simp), e, if_neg hf, List.take_left, if_neg hc, one_false _ ho]
theorem lines_many (f : Nat) (a x : List UInt8) (n : Nat) (out : List HdV) (h : (10 : UInt8) ∉ a) (hf : ¬ 8192 < n + a.length + 1) (hc : ¬ crH a = []) (ho : oneB (crH a) = true) (hm : out.length = 64) : linesH (f + 1) (a ++ 10 :: x) n out = ([], 0, 3) := by
  have e := find_byte 10 a x h
  unfold linesH
  rw [if_neg (by rw [e]; simp), e, if_neg hf, List.take_left, if_neg hc, one_true _ ho]
  exact if_pos hm
theorem lines_on (f : Nat) (a x : List UInt8) (n : Nat) (out : List HdV) (h : (10 : UInt8) ∉ a) (hf : ¬ 8192 < n + a.length + 1) (hc : ¬ crH a = []) (ho : oneB (crH a) = true) (hm : ¬ out.length = 64) : linesH (f + 1) (a ++ 10 :: x) n out = linesH f x (n + a.length + 1) (out ++ [oneV (crH a)]) := by
  have e := find_byte 10 a x h
  have ed : (a ++ 10 :: x).drop (a.length + 1) = x := by simp
  conv => lhs; unfold linesH
  rw [if_neg (by rw [e]; simp), e, if_neg hf, List.take_left, if_neg hc, one_true _ ho, ed]
  simp only
  rw [if_neg hm]
/-- What is left of the bytes b behind n of them, with the headers out, ends as b does. -/
def LeadsH (b : List UInt8) (n : Nat) (out : List HdV) : Prop := ∃ f, b.length - n < f ∧ linesH f (b.drop n) n out = parseH b
theorem leads_zero (b : List UInt8) : LeadsH b 0 [] := ⟨b.length + 1, by omega, rfl⟩
theorem LeadsH.pos {b : List UInt8} {n : Nat} {out : List HdV} (h : LeadsH b n out) : ∃ f, b.length - n < f + 1 ∧ linesH (f + 1) (b.drop n) n out = parseH b := by
  obtain ⟨f, h1, h2⟩ := h
  match f, h1, h2 with
  | 0, h1, _ => omega
  | f + 1, h1, h2 => exact ⟨f, h1, h2⟩
/-- A line's end, a bytes behind n. -/
def LineAt (b : List UInt8) (n : Nat) (a : List UInt8) : Prop := (10 : UInt8) ∉ a ∧ b.drop n = a ++ 10 :: b.drop (n + a.length + 1)
theorem LeadsH.none {b : List UInt8} {n : Nat} {out : List HdV} (h : LeadsH b n out) (hn : n ≤ b.length) (hno : (10 : UInt8) ∉ b.drop n) : parseH b = ([], 0, if 8192 < b.length then 3 else 10) := by
  obtain ⟨f, h1, h2⟩ := h.pos
  rw [← h2, lines_none f _ n out hno, List.length_drop, show n + (b.length - n) = b.length from by omega]
theorem LeadsH.far {b : List UInt8} {n : Nat} {out : List HdV} {a : List UInt8} (h : LeadsH b n out) (hl : LineAt b n a) (hf : 8192 < n + a.length + 1) : parseH b = ([], 0, 3) := by
  obtain ⟨f, h1, h2⟩ := h.pos
  rw [← h2, hl.2, lines_far f a _ n out hl.1 hf]
theorem LeadsH.end {b : List UInt8} {n : Nat} {out : List HdV} {a : List UInt8} (h : LeadsH b n out) (hl : LineAt b n a) (hf : n + a.length + 1 ≤ 8192) (hc : crH a = []) : parseH b = (out, n + a.length + 1, 0) := by
  obtain ⟨f, h1, h2⟩ := h.pos
  rw [← h2, hl.2, lines_end f a _ n out hl.1 (by omega) hc]
theorem LeadsH.bad {b : List UInt8} {n : Nat} {out : List HdV} {a : List UInt8} (h : LeadsH b n out) (hl : LineAt b n a) (hf : n + a.length + 1 ≤ 8192) (hc : ¬ crH a = []) (ho : oneB (crH a) = false) : parseH b = ([], 0, 5) := by
  obtain ⟨f, h1, h2⟩ := h.pos
  rw [← h2, hl.2, lines_bad f a _ n out hl.1 (by omega) hc ho]
theorem LeadsH.many {b : List UInt8} {n : Nat} {out : List HdV} {a : List UInt8} (h : LeadsH b n out) (hl : LineAt b n a) (hf : n + a.length + 1 ≤ 8192) (hc : ¬ crH a = []) (ho : oneB (crH a) = true) (hm : out.length = 64) : parseH b = ([], 0, 3) := by
  obtain ⟨f, h1, h2⟩ := h.pos
  rw [← h2, hl.2, lines_many f a _ n out hl.1 (by omega) hc ho hm]
theorem LineAt.le {b : List UInt8} {n : Nat} {a : List UInt8} (h : LineAt b n a) : n + a.length + 1 ≤ b.length := by
  have := congrArg List.length h.2
  simp only [List.length_drop, List.length_append, List.length_cons] at this
  omega
theorem LeadsH.on {b : List UInt8} {n : Nat} {out : List HdV} {a : List UInt8} (h : LeadsH b n out) (hl : LineAt b n a) (hf : n + a.length + 1 ≤ 8192) (hc : ¬ crH a = []) (ho : oneB (crH a) = true) (hm : ¬ out.length = 64) : LeadsH b (n + a.length + 1) (out ++ [oneV (crH a)]) := by
  obtain ⟨f, h1, h2⟩ := h.pos
  have := hl.le
  refine ⟨f, by omega, ?_⟩
  rw [← h2, hl.2, lines_on f a _ n out hl.1 (by omega) hc ho hm]
theorem lines_out : ∀ (f : Nat) (b : List UInt8) (n : Nat) (out : List HdV), out.length ≤ 64 → (linesH f b n out).1.length ≤ 64
  | 0, b, n, out, h => by simp [linesH]
  | f + 1, b, n, out, h => by
    unfold linesH
    split
    · simp
    · split
      · simp
      · split
        · exact h
        · split
          · simp
          · split
            · simp
            · rename_i hne
              exact lines_out f _ _ _ (by simp; omega)
theorem parse_out (b : List UInt8) (_h : b.length ≤ 1000000) : (parseH b).1.length ≤ 1000000 := Nat.le_trans (lines_out _ b 0 [] (by simp)) (by decide)
/-- In the first bytes there is a line's end, or there is none. -/
theorem head_dec (b : List UInt8) (n : Nat) (hn : n ≤ 8192) (hb : n ≤ b.length) : ((10 : UInt8) ∉ (b.take 8192).drop n) ∨ ∃ a x, (b.take 8192).drop n = a ++ 10 :: x ∧ LineAt b n a ∧ n + a.length + 1 ≤ 8192 := by
  rcases first_dec 10 ((b.take 8192).drop n) with h | ⟨a, x, e, h⟩
  · exact .inl h
  · refine .inr ⟨a, x, e, ⟨h, ?_⟩, ?_⟩
    · have e2 : b.drop n = (b.take 8192).drop n ++ b.drop 8192 := by
        conv => lhs; rw [← List.take_append_drop 8192 b]
        rw [List.drop_append, List.length_take, show n - min 8192 b.length = 0 from by omega, List.drop_zero]
      rw [e] at e2
      have e3 : b.drop (n + a.length + 1) = x ++ b.drop 8192 := by
        rw [Nat.add_assoc, ← List.drop_drop, e2]
        simp
      rw [e2, e3]; simp
    · have := congrArg List.length e
      simp only [List.length_drop, List.length_take, List.length_append, List.length_cons] at this
      omega
/-- None in the first bytes. -/
theorem LeadsH.unended {b : List UInt8} {n : Nat} {out : List HdV} (h : LeadsH b n out) (hn : n ≤ 8192) (hb : n ≤ b.length) (hno : (10 : UInt8) ∉ (b.take 8192).drop n) : parseH b = ([], 0, if 8192 < b.length then 3 else 10) := by
  rcases first_dec 10 (b.drop n) with h1 | ⟨a, x, e, h1⟩
  · exact h.none hb h1
  · have hl : LineAt b n a := ⟨h1, by
      rw [e, show n + a.length + 1 = n + (a.length + 1) from by omega, ← List.drop_drop, e]
      simp⟩
    have hle := hl.le
    have hf : 8192 < n + a.length + 1 := by
      rcases Nat.lt_or_ge 8192 (n + a.length + 1) with h2 | h2
      · exact h2
      · exfalso
        apply hno
        rw [List.drop_take, e]
        have : (a ++ 10 :: x).take (8192 - n) = a ++ 10 :: x.take (8192 - n - a.length - 1) := by
          rw [List.take_append, List.take_of_length_le (by omega)]
          rw [show 8192 - n - a.length = (8192 - n - a.length - 1) + 1 from by omega, List.take_succ_cons]
          rfl
        rw [this]; simp
    rw [h.far hl hf, if_pos (by omega)]
end Go.Proofs.YtlgfepaicgnkpaaDoor
