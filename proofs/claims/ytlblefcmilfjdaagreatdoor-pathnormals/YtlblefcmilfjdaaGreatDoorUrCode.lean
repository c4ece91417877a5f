
/- How the program takes a URL apart, against the parts: plain mathematics for layer 7 (no program in it). -/
import Derived.Test.YtlblefcmilfjdaaGreatDoorUrBack
import Derived.Lib.IndexMore
import Derived.Lib.IndexAny
import Derived.Lib.LastIndexByte
namespace Go.Proofs.YtlblefcmilfjdaaGreatDoor
set_option linter.unusedVariables false
set_option linter.unusedSimpArgs false

/-! The first of a byte, the last of one. -/
theorem first_dec (c : UInt8) (l : List UInt8) : c ∉ l ∨ ∃ a x, l = a ++ c :: x ∧ c ∉ a := by
  induction l with
  | nil => exact .inl (by simp)
  | cons y r ih =>
    by_cases hy : y = c
    · exact .inr ⟨[], r, by rw [hy]; rfl, by simp⟩
    · rcases ih with h | ⟨a, x, e, h⟩
      · exact .inl (by rw [List.mem_cons]; rintro (h1 | h1); exact hy h1.symm; exact h h1)
      · exact .inr ⟨y :: a, x, by rw [e]; rfl, by rw [List.mem_cons]; rintro (h1 | h1); exact hy h1.symm; exact h h1⟩
theorem last_dec (c : UInt8) (l : List UInt8) : c ∉ l ∨ ∃ x y, l = x ++ c :: y ∧ c ∉ y := by
  induction l with
  | nil => exact .inl (by simp)
  | cons d r ih =>
    rcases ih with h | ⟨x, y, e, h⟩
    · by_cases hd : d = c
      · exact .inr ⟨[], r, by rw [hd]; rfl, h⟩
      · exact .inl (by rw [List.mem_cons]; rintro (h1 | h1); exact hd h1.symm; exact h h1)
    · exact .inr ⟨d :: x, y, by rw [e]; rfl, h⟩
theorem cut_no (c : UInt8) (l : List UInt8) (h : c ∉ l) : Lib.cut l [c] = (l, [], false) := by
  unfold Lib.cut
  rw [index_no c l h, if_neg (by omega)]
theorem cut_at (c : UInt8) (a x : List UInt8) (h : c ∉ a) : Lib.cut (a ++ c :: x) [c] = (a, x, true) := by
  unfold Lib.cut
  rw [index_at c x a h, if_pos (by omega)]
  simp
theorem indexB_no (c : UInt8) : ∀ l : List UInt8, c ∉ l → Lib.indexByte l c = -1
  | [], _ => rfl
  | d :: r, h => by
    rw [List.mem_cons, not_or] at h
    have : (d == c) = false := by rw [beq_eq_false_iff_ne]; exact fun e => h.1 e.symm
    rw [Lib.indexByte, this, indexB_no c r h.2]
    rfl
theorem indexB_at (c : UInt8) (x : List UInt8) : ∀ a : List UInt8, c ∉ a → Lib.indexByte (a ++ c :: x) c = a.length
  | [], _ => by
    show Lib.indexByte (c :: x) c = _
    rw [Lib.indexByte]; simp
  | d :: r, h => by
    rw [List.mem_cons, not_or] at h
    have : (d == c) = false := by rw [beq_eq_false_iff_ne]; exact fun e => h.1 e.symm
    rw [List.cons_append, Lib.indexByte, this, indexB_at c x r h.2]
    have h2 : ((r.length : Int) == -1) = false := by rw [beq_eq_false_iff_ne]; omega
    rw [h2]
    simp
theorem indexB_mem (c : UInt8) (l : List UInt8) : decide (0 ≤ Lib.indexByte l c) = l.contains c := by
  rcases first_dec c l with h | ⟨a, x, rfl, h⟩
  · rw [indexB_no c l h]
    have : l.contains c = false := by simpa using h
    rw [this]; rfl
  · rw [indexB_at c x a h]
    have : (a ++ c :: x).contains c = true := by simp
    rw [this]
    exact decide_eq_true (by omega)
theorem anyC_eq (cs : List UInt8) : ∀ l : List UInt8, Lib.containsAny l cs = l.any fun c => cs.contains c
  | [] => rfl
  | d :: r => by
    have ih := anyC_eq cs r
    have hg := Lib.indexAny_ge cs r
    unfold Lib.containsAny at ih ⊢
    rw [List.any_cons, ← ih, Lib.indexAny]
    cases hd : cs.contains d with
    | true => simp
    | false =>
      simp only [Bool.false_eq_true, if_false, Bool.false_or]
      by_cases h1 : Lib.indexAny r cs = -1
      · rw [h1]; rfl
      · have : (Lib.indexAny r cs == -1) = false := by simpa using h1
        rw [this]
        simp only [Bool.false_eq_true, if_false]
        exact decide_eq_decide.2 (by omega)
theorem find_any (cs l : List UInt8) : decide (findU cs l = l.length) = !(l.any fun c => cs.contains c) := by
  cases h : l.any fun c => cs.contains c with
  | true =>
    rw [List.any_eq_true] at h
    obtain ⟨x, hx, hc⟩ := h
    have := List.findIdx_lt_length_of_exists (xs := l) (p := fun c => cs.contains c) ⟨x, hx, hc⟩
    exact decide_eq_false (by unfold findU; omega)
  | false =>
    rw [List.any_eq_false] at h
    refine decide_eq_true (findU_none cs l fun j hj => ?_)
    have := h (l.getD j 0) (by rw [List.getD_eq_getElem?_getD, List.getElem?_eq_getElem hj]; exact List.getElem_mem hj)
    simpa using this
theorem find_skip (cs p t : List UInt8) (h : ∀ c ∈ p, cs.contains c = false) : findU cs (p ++ t) = p.length + findU cs t := by
  unfold findU
  rw [List.findIdx_append, if_neg]
  · omega
  · intro hlt
    rw [List.findIdx_lt_length] at hlt
    obtain ⟨x, hx, hc⟩ := hlt
    rw [h x hx] at hc; cases hc
theorem find_here (cs : List UInt8) (c : UInt8) (t : List UInt8) (h : cs.contains c = true) : findU cs (c :: t) = 0 := by
  unfold findU
  rw [List.findIdx_cons, h]; rfl
theorem find_nil (cs : List UInt8) : findU cs [] = 0 := rfl

/-- Where the last of a byte is. -/
def lastI (c : UInt8) (l : List UInt8) : Int := Lib.lastIndexByte ⟨l.toArray⟩ (c.toNat : Int)
theorem arr_at (l : List UInt8) (j : Nat) (h : j < l.length) : (l.toArray)[j]! = l.getD j 0 := by
  rw [getElem!_pos _ _ (by simpa using h), List.getD_eq_getElem?_getD, List.getElem?_eq_getElem h]
  rfl
theorem lastI_dec (c : UInt8) (l : List UInt8) : (lastI c l = -1 ∧ c ∉ l) ∨ ∃ x y, l = x ++ c :: y ∧ c ∉ y ∧ lastI c l = x.length := by
  have hs := Lib.lastIdx_spec ⟨l.toArray⟩ (c.toNat : Int) l.length
  have e : lastI c l = Lib.lastIdx ⟨l.toArray⟩ (c.toNat : Int) l.length := rfl
  rw [← e] at hs
  rcases hs with ⟨h1, h2⟩ | ⟨i, hi, h1, h2, h3⟩
  · refine .inl ⟨h1, fun hm => ?_⟩
    obtain ⟨j, hj, hc⟩ := List.getElem_of_mem hm
    refine h2 j hj ?_
    show (((l.toArray)[j]!).toNat : Int) = _
    rw [arr_at l j hj, List.getD_eq_getElem?_getD, List.getElem?_eq_getElem hj]
    show ((l[j]).toNat : Int) = _
    rw [hc]
  · have hi2 : i < l.length := hi
    refine .inr ⟨l.take i, l.drop (i + 1), ?_, ?_, ?_⟩
    · have h4 : (((l.toArray)[i]!).toNat : Int) = c.toNat := h2
      rw [arr_at l i hi2, List.getD_eq_getElem?_getD, List.getElem?_eq_getElem hi2] at h4
      have h5 : l[i] = c := UInt8.toNat_inj.1 (by have : ((l[i]).toNat : Int) = c.toNat := h4; omega)
      rw [← h5, ← List.drop_eq_getElem_cons hi2, List.take_append_drop]
    · intro hm
      obtain ⟨j, hj, hc⟩ := List.getElem_of_mem hm
      rw [List.length_drop] at hj
      rw [List.getElem_drop] at hc
      refine h3 (i + 1 + j) (by omega) (by omega) ?_
      show (((l.toArray)[i + 1 + j]!).toNat : Int) = _
      rw [arr_at l _ (by omega), List.getD_eq_getElem?_getD, List.getElem?_eq_getElem (by omega)]
      show ((l[i + 1 + j]).toNat : Int) = _
      rw [hc]
    · rw [h1, List.length_take]; omega
theorem lastI_no (c : UInt8) (l : List UInt8) (h : c ∉ l) : lastI c l = -1 := by
  rcases lastI_dec c l with ⟨h1, _⟩ | ⟨x, y, rfl, _, _⟩
  · exact h1
  · exact absurd (by simp) h
theorem lastI_at (c : UInt8) (x y : List UInt8) (h : c ∉ y) : lastI c (x ++ c :: y) = x.length := by
  rcases lastI_dec c (x ++ c :: y) with ⟨_, h2⟩ | ⟨x2, y2, e, h2, h3⟩
  · exact absurd (by simp) h2
  · rw [h3]
    have hle : ∀ (x y x2 y2 : List UInt8), c ∉ y → x ++ c :: y = x2 ++ c :: y2 → x2.length ≤ x.length := fun x y x2 y2 hy e => by
      rcases Nat.lt_or_ge x.length x2.length with hlt | hge
      · exfalso
        have h4 : (x ++ c :: y)[x2.length]? = some c := by rw [e, List.getElem?_append_right (Nat.le_refl _), Nat.sub_self]; rfl
        rw [List.getElem?_append_right (by omega), show x2.length - x.length = (x2.length - x.length - 1) + 1 from by omega, List.getElem?_cons_succ] at h4
        exact hy (List.mem_of_getElem? h4)
      · exact hge
    have a := hle x y x2 y2 h e
    have b := hle x2 y2 x y h2 e.symm
    omega
theorem lastI_lt (c : UInt8) (x y : List UInt8) (h : c ∉ y) : lastI c (x ++ y) < x.length := by
  rcases last_dec c x with h1 | ⟨a, b, rfl, hb⟩
  · rw [lastI_no c _ (by rw [List.mem_append]; rintro (h2 | h2); exact h1 h2; exact h h2)]
    omega
  · rw [show a ++ c :: b ++ y = a ++ c :: (b ++ y) from by simp, lastI_at c a (b ++ y) (by rw [List.mem_append]; rintro (h2 | h2); exact hb h2; exact h h2)]
    simp; omega
/-- The user's mark. -/
theorem user_none (a : List UInt8) (h : lastCut 64 (fun _ => false) a = none) : lastI 64 a = -1 := by
  rcases last_dec 64 a with h1 | ⟨x, y, rfl, hy⟩
  · exact lastI_no 64 a h1
  · rw [lastCut_hit 64 _ y hy (fun _ _ => rfl) x] at h; cases h
theorem user_some (a x y : List UInt8) (h : lastCut 64 (fun _ => false) a = some (x, y)) : a = x ++ 64 :: y ∧ lastI 64 a = x.length := by
  rcases last_dec 64 a with h1 | ⟨x2, y2, rfl, hy⟩
  · rw [lastCut_no 64 _ a h1] at h; cases h
  · rw [lastCut_hit 64 _ y2 hy (fun _ _ => rfl) x2] at h
    injection h with h
    injection h with h1 h2
    subst h1; subst h2
    exact ⟨rfl, lastI_at 64 x2 y2 hy⟩
/-- The port's mark. -/
theorem port_none (a : List UInt8) (h : lastCut 58 (fun c => c == 93) a = none) : lastI 58 a ≤ lastI 93 a := by
  rcases last_dec 58 a with h1 | ⟨x, y, rfl, hy⟩
  · rw [lastI_no 58 a h1]
    rcases lastI_dec 93 a with ⟨h2, _⟩ | ⟨x, y, _, _, h2⟩ <;> rw [h2] <;> omega
  · rcases last_dec 93 y with h2 | ⟨x2, y2, rfl, hy2⟩
    · rw [lastCut_hit 58 _ y hy (fun d hd => by rw [beq_eq_false_iff_ne]; exact fun e => h2 (e ▸ hd)) x] at h; cases h
    · rw [lastI_at 58 x _ hy, show x ++ 58 :: (x2 ++ 93 :: y2) = (x ++ 58 :: x2) ++ 93 :: y2 from by simp, lastI_at 93 (x ++ 58 :: x2) y2 hy2]
      simp; omega
theorem port_some (a x y : List UInt8) (h : lastCut 58 (fun c => c == 93) a = some (x, y)) : a = x ++ 58 :: y ∧ lastI 58 a = x.length ∧ lastI 93 a < x.length := by
  rcases last_dec 58 a with h1 | ⟨x2, y2, rfl, hy⟩
  · rw [lastCut_no 58 _ a h1] at h; cases h
  · rcases last_dec 93 y2 with h2 | ⟨x3, y3, rfl, hy3⟩
    · rw [lastCut_hit 58 _ y2 hy (fun d hd => by rw [beq_eq_false_iff_ne]; exact fun e => h2 (e ▸ hd)) x2] at h
      injection h with h
      injection h with h3 h4
      subst h3; subst h4
      refine ⟨rfl, lastI_at 58 x2 y2 hy, lastI_lt 93 x2 (58 :: y2) ?_⟩
      rw [List.mem_cons]; rintro (h3 | h3); cases h3; exact h2 h3
    · rw [show x2 ++ 58 :: (x3 ++ 93 :: y3) = (x2 ++ 58 :: x3) ++ 93 :: y3 from by simp] at h
      rw [lastCut_stop 58 93 _ rfl (by decide) y3 (fun hm => hy (by simp [hm])) (x2 ++ 58 :: x3)] at h
      cases h

/-! The parts, the program's way. -/
def isSchB (a : List UInt8) : Bool := decide (a ≠ []) && letterU (a.getD 0 0) && a.all schB
def firstC (s2 : List UInt8) : Int := Lib.indexByte (Lib.cut s2 [47]).1 58
def headC (s3 : List UInt8) (u : UrlV) : UrlV :=
  if Lib.hasPrefix s3 [47, 47] then authU (Lib.cut (s3.drop 2) [47]).1 { u with hasAuth := true, path := (s3.drop 2).drop (Lib.cut (s3.drop 2) [47]).1.length } else { u with path := s3 }
def okC (u : UrlV) : Bool := !(Lib.containsAny (u.user ++ u.path ++ u.query ++ u.frag) [91, 93]) && !(decide (0 ≤ Lib.indexByte u.frag 35)) && hostU u.host && u.port.all digitU
def tailC (l : List UInt8) : UrlV := { zeroU with frag := (Lib.cut l [35]).2.1, hasFrag := (Lib.cut l [35]).2.2, query := (Lib.cut (Lib.cut l [35]).1 [63]).2.1, hasQuery := (Lib.cut (Lib.cut l [35]).1 [63]).2.2 }
def restC (l : List UInt8) : List UInt8 := (Lib.cut (Lib.cut l [35]).1 [63]).1
def partsC (l : List UInt8) : UrlV × Bool :=
  if 0 ≤ firstC (restC l) then
    (if isSchB ((restC l).take (firstC (restC l)).toNat) then
      (headC ((restC l).drop ((firstC (restC l)).toNat + 1)) { tailC l with scheme := (restC l).take (firstC (restC l)).toNat },
       okC (headC ((restC l).drop ((firstC (restC l)).toNat + 1)) { tailC l with scheme := (restC l).take (firstC (restC l)).toNat }))
     else (zeroU, false))
  else (headC (restC l) (tailC l), okC (headC (restC l) (tailC l)))
/-- What follows the path. -/
def tailT (u : UrlV) : List UInt8 := (if u.hasQuery then 63 :: u.query else []) ++ (if u.hasFrag then 35 :: u.frag else [])
theorem tailT_dec (l : List UInt8) : l = restC l ++ tailT (tailC l) ∧ (63 : UInt8) ∉ restC l ∧ (35 : UInt8) ∉ restC l ∧ (35 : UInt8) ∉ (tailC l).query ∧ ((tailC l).hasQuery = false → (tailC l).query = []) ∧ ((tailC l).hasFrag = false → (tailC l).frag = []) := by
  have key : ∀ (s1 f : List UInt8) (hf : Bool), (35 : UInt8) ∉ s1 → (hf = false → f = []) → Lib.cut l [35] = (s1, f, hf) → l = s1 ++ (if hf then 35 :: f else []) →
      (l = restC l ++ tailT (tailC l) ∧ (63 : UInt8) ∉ restC l ∧ (35 : UInt8) ∉ restC l ∧ (35 : UInt8) ∉ (tailC l).query ∧ ((tailC l).hasQuery = false → (tailC l).query = []) ∧ ((tailC l).hasFrag = false → (tailC l).frag = [])) := fun s1 f hf h1 h2 h3 h4 => by
    unfold tailT tailC restC
    rw [h3]
    simp only
    rcases first_dec 63 s1 with h | ⟨s2, q, rfl, h⟩
    · rw [cut_no 63 s1 h]
      refine ⟨?_, h, h1, by simp, fun _ => rfl, h2⟩
      simp only [Bool.false_eq_true, if_false, List.nil_append]
      exact h4
    · rw [cut_at 63 s2 q h]
      rw [List.mem_append, not_or, List.mem_cons, not_or] at h1
      refine ⟨?_, h, h1.1, h1.2.2, (fun e => by cases e), h2⟩
      simp only [if_true]
      rw [h4]; simp
  rcases first_dec 35 l with h | ⟨s1, f, e, h⟩
  · exact key l [] false h (fun _ => rfl) (cut_no 35 l h) (by simp)
  · exact key s1 f true h (fun e => by cases e) (by rw [e]; exact cut_at 35 s1 f h) (by rw [e]; simp)
theorem tailT_find (cs : List UInt8) (h1 : cs.contains 63 = true) (h2 : cs.contains 35 = true) (u : UrlV) : findU cs (tailT u) = 0 := by
  unfold tailT
  cases u.hasQuery with
  | true => simp only [if_true, List.cons_append]; exact find_here cs 63 _ h1
  | false =>
    cases u.hasFrag with
    | true => simp only [if_true, Bool.false_eq_true, if_false, List.nil_append]; exact find_here cs 35 _ h2
    | false => rfl
theorem tailT_head (u : UrlV) (h : tailT u ≠ []) : (tailT u).getD 0 0 = 63 ∨ (tailT u).getD 0 0 = 35 := by
  unfold tailT at h ⊢
  cases hq : u.hasQuery with
  | true => left; simp
  | false =>
    cases hf : u.hasFrag with
    | true => right; simp
    | false => rw [hq, hf] at h; exact absurd rfl h
/-- What follows is read as it was. -/
theorem tailU_tailT (p : List UInt8) (u t : UrlV) (h63 : (63 : UInt8) ∉ p) (h35 : (35 : UInt8) ∉ p) (hq : (35 : UInt8) ∉ t.query) (hq0 : t.hasQuery = false → t.query = []) (hf0 : t.hasFrag = false → t.frag = []) (hu : u.query = [] ∧ u.hasQuery = false ∧ u.frag = [] ∧ u.hasFrag = false) :
    tailU (p ++ tailT t) u = { u with path := p, query := t.query, hasQuery := t.hasQuery, frag := t.frag, hasFrag := t.hasFrag } := by
  obtain ⟨u1, u2, u3, u4, u5, u6, u7, u8, u9, u10, u11, u12⟩ := u
  obtain ⟨hu1, hu2, hu3, hu4⟩ := hu
  simp only at hu1 hu2 hu3 hu4
  subst hu1; subst hu2; subst hu3; subst hu4
  have hp : findU [63, 35] (p ++ tailT t) = p.length := by
    rw [find_skip [63, 35] p _ (fun c hc => by
      rw [List.contains_eq_mem, decide_eq_false_iff_not]
      intro hm
      simp only [List.mem_cons, List.not_mem_nil, or_false] at hm
      rcases hm with rfl | rfl
      · exact h63 hc
      · exact h35 hc), tailT_find _ rfl rfl]
    rfl
  unfold tailU
  simp only [hp, List.take_left, List.drop_left]
  unfold tailT
  cases h1 : t.hasQuery with
  | true =>
    simp only [if_true, List.cons_append, List.getD_cons_zero, List.drop_one, List.tail_cons]
    cases h2 : t.hasFrag with
    | true =>
      have hq2 : findU [35] (t.query ++ 35 :: t.frag) = t.query.length := by
        rw [find_skip [35] t.query _ (fun c hc => by
          rw [List.contains_eq_mem, decide_eq_false_iff_not]
          intro hm
          simp only [List.mem_cons, List.not_mem_nil, or_false] at hm
          subst hm; exact hq hc), find_here _ _ _ rfl]
        rfl
      simp only [if_true, hq2, List.take_left, List.drop_left]
      rw [if_neg (by simp)]
      simp
    | false =>
      have hq2 : findU [35] t.query = t.query.length := findU_none _ _ (fun j hj => by
        rw [List.contains_eq_mem, decide_eq_false_iff_not]
        intro hm
        simp only [List.mem_cons, List.not_mem_nil, or_false] at hm
        rw [List.getD_eq_getElem?_getD, List.getElem?_eq_getElem hj] at hm
        have hm2 : t.query[j] = 35 := hm
        exact hq (hm2 ▸ List.getElem_mem hj))
      simp only [Bool.false_eq_true, if_false, List.append_nil, hq2, List.take_length, List.drop_length, if_true]
      rw [hf0 h2]
  | false =>
    rw [hq0 h1]
    cases h2 : t.hasFrag with
    | true =>
      simp only [if_true, Bool.false_eq_true, if_false, List.nil_append, List.getD_cons_zero]
      rw [if_neg (show ¬ ((35 : UInt8) = 63) by decide)]
      simp
    | false =>
      simp only [Bool.false_eq_true, if_false, List.nil_append]
      rw [hf0 h2, if_neg (show ¬ (([] : List UInt8).getD 0 0 = 63) by decide)]
      simp
theorem authU_with (a : List UInt8) (u t : UrlV) (p : List UInt8) :
    { authU a u with path := p, query := t.query, hasQuery := t.hasQuery, frag := t.frag, hasFrag := t.hasFrag } = authU a { u with path := p, query := t.query, hasQuery := t.hasQuery, frag := t.frag, hasFrag := t.hasFrag } := by
  unfold authU
  cases h1 : lastCut 64 (fun _ => false) a with
  | none =>
    simp only
    cases h2 : lastCut 58 (fun c => c == 93) a with
    | none => rfl
    | some q => rfl
  | some q =>
    obtain ⟨x, y⟩ := q
    simp only
    cases h2 : lastCut 58 (fun c => c == 93) y with
    | none => rfl
    | some q => rfl
theorem authU_more (a : List UInt8) (u : UrlV) : (authU a u).query = u.query ∧ (authU a u).hasQuery = u.hasQuery ∧ (authU a u).frag = u.frag ∧ (authU a u).hasFrag = u.hasFrag ∧ (authU a u).hasAuth = u.hasAuth ∧ (authU a u).path = u.path ∧ (authU a u).scheme = u.scheme := by
  unfold authU
  cases h1 : lastCut 64 (fun _ => false) a with
  | none =>
    simp only
    cases h2 : lastCut 58 (fun c => c == 93) a with
    | none => exact ⟨rfl, rfl, rfl, rfl, rfl, rfl, rfl⟩
    | some q => exact ⟨rfl, rfl, rfl, rfl, rfl, rfl, rfl⟩
  | some q =>
    obtain ⟨x, y⟩ := q
    simp only
    cases h2 : lastCut 58 (fun c => c == 93) y with
    | none => exact ⟨rfl, rfl, rfl, rfl, rfl, rfl, rfl⟩
    | some q => exact ⟨rfl, rfl, rfl, rfl, rfl, rfl, rfl⟩
theorem prefix_two (s : List UInt8) : Lib.hasPrefix s [47, 47] = decide (s.take 2 = [47, 47]) := by
  unfold Lib.hasPrefix
  match s with
  | [] => rfl
  | [a] => simp [List.isPrefixOf]
  | a :: b :: r =>
    have e : List.isPrefixOf [47, 47] (a :: b :: r) = ((47 == a) && ((47 == b) && true)) := rfl
    rw [e]
    have e2 : (a :: b :: r).take 2 = [a, b] := rfl
    rw [e2, Bool.eq_iff_iff, decide_eq_true_iff, Bool.and_eq_true, Bool.and_eq_true, beq_iff_eq, beq_iff_eq]
    constructor
    · rintro ⟨h1, h2, _⟩; rw [← h1, ← h2]
    · intro h
      injection h with h1 h2
      injection h2 with h2 h3
      exact ⟨h1.symm, h2.symm, rfl⟩
theorem take_two (s3 : List UInt8) (t : UrlV) : (s3 ++ tailT t).take 2 = [47, 47] ↔ s3.take 2 = [47, 47] := by
  have key : ∀ j, j < (tailT t).length → j = 0 → (tailT t)[j]? ≠ some 47 := fun j hj h0 he => by
    subst h0
    have hne : tailT t ≠ [] := fun e => by rw [e] at hj; cases hj
    have := tailT_head t hne
    rw [List.getD_eq_getElem?_getD, he] at this
    rcases this with h | h <;> cases h
  constructor
  · intro h
    match s3 with
    | [] =>
      exfalso
      rw [List.nil_append] at h
      have h0 : ((tailT t).take 2)[0]? = some 47 := by rw [h]; rfl
      rw [List.getElem?_take_of_lt (by omega)] at h0
      exact key 0 (List.getElem?_eq_some_iff.1 h0).1 rfl h0
    | [a] =>
      exfalso
      have h0 : (([a] ++ tailT t).take 2)[1]? = some 47 := by rw [h]; rfl
      rw [List.getElem?_take_of_lt (by omega)] at h0
      have h1 : (tailT t)[0]? = some 47 := h0
      exact key 0 (List.getElem?_eq_some_iff.1 h1).1 rfl h1
    | a :: b :: r => exact h
  · intro h
    match s3 with
    | [] => cases h
    | [a] => simp at h
    | a :: b :: r => exact h
/-- Behind the scheme: as the parts are. -/
theorem headC_parts (sch s3 : List UInt8) (t : UrlV) (h63 : (63 : UInt8) ∉ s3) (h35 : (35 : UInt8) ∉ s3) (hq : (35 : UInt8) ∉ t.query) (hq0 : t.hasQuery = false → t.query = []) (hf0 : t.hasFrag = false → t.frag = [])
    (ht : t = { zeroU with query := t.query, hasQuery := t.hasQuery, frag := t.frag, hasFrag := t.hasFrag }) : partsU sch (s3 ++ tailT t) = headC s3 { t with scheme := sch } := by
  unfold partsU headU headC
  rw [prefix_two]
  by_cases h2 : s3.take 2 = [47, 47]
  · rw [if_pos ((take_two s3 t).2 h2), decide_eq_true h2, if_pos rfl]
    simp only
    have hl2 : 2 ≤ s3.length := by
      have := congrArg List.length h2
      rw [List.length_take] at this
      have e : ([47, 47] : List UInt8).length = 2 := rfl
      omega
    rw [List.drop_append_of_le_length hl2]
    have hm : ∀ c, c ∈ s3.drop 2 → c ∈ s3 := fun c hc => List.mem_of_mem_drop hc
    generalize s3.drop 2 = r at hm
    have r63 : (63 : UInt8) ∉ r := fun h => h63 (hm _ h)
    have r35 : (35 : UInt8) ∉ r := fun h => h35 (hm _ h)
    have hU : ∀ A : List UInt8, ({ authU A { ({ zeroU with scheme := sch } : UrlV) with hasAuth := true } with path := [], query := t.query, hasQuery := t.hasQuery, frag := t.frag, hasFrag := t.hasFrag } : UrlV) = authU A { ({ t with scheme := sch } : UrlV) with hasAuth := true, path := [] } := fun A => by
      rw [authU_with]
      refine congrArg (authU A) ?_
      rw [ht]
    have key : ∀ a x : List UInt8, (47 : UInt8) ∉ a → r = a ++ x → (x = [] ∨ ∃ y, x = 47 :: y) → Lib.cut r [47] = (a, x.drop 1, decide (x ≠ [])) →
        tailU ((r ++ tailT t).drop (findU [47, 63, 35] (r ++ tailT t))) (authU ((r ++ tailT t).take (findU [47, 63, 35] (r ++ tailT t))) { ({ zeroU with scheme := sch } : UrlV) with hasAuth := true })
          = authU (Lib.cut r [47]).1 { ({ t with scheme := sch } : UrlV) with hasAuth := true, path := r.drop (Lib.cut r [47]).1.length } := fun a x ha hr hx hc => by
      have hf : findU [47, 63, 35] (r ++ tailT t) = a.length := by
        rw [hr, List.append_assoc, find_skip [47, 63, 35] a _ (fun c hc => by
          rw [List.contains_eq_mem, decide_eq_false_iff_not]
          intro hm2
          simp only [List.mem_cons, List.not_mem_nil, or_false] at hm2
          rcases hm2 with rfl | rfl | rfl
          · exact ha hc
          · exact r63 (by rw [hr]; simp [hc])
          · exact r35 (by rw [hr]; simp [hc]))]
        rcases hx with rfl | ⟨y, rfl⟩
        · rw [List.nil_append, tailT_find _ rfl rfl]; rfl
        · rw [List.cons_append, find_here _ _ _ rfl]; rfl
      rw [hf, hc]
      simp only
      have e1 : (r ++ tailT t).take a.length = a := by rw [hr, List.append_assoc, List.take_left]
      have e2 : (r ++ tailT t).drop a.length = x ++ tailT t := by rw [hr, List.append_assoc, List.drop_left]
      have e3 : r.drop a.length = x := by rw [hr, List.drop_left]
      rw [e1, e2, e3]
      have hau := authU_more a { ({ zeroU with scheme := sch } : UrlV) with hasAuth := true }
      rw [tailU_tailT x _ t (fun h => r63 (by rw [hr]; simp [h])) (fun h => r35 (by rw [hr]; simp [h])) hq hq0 hf0 ⟨hau.1, hau.2.1, hau.2.2.1, hau.2.2.2.1⟩, authU_with]
      refine congrArg (authU a) ?_
      conv => rhs; rw [ht]
    rcases first_dec 47 r with h | ⟨a, x, e, h⟩
    · exact key r [] h (by simp) (.inl rfl) (by rw [cut_no 47 r h]; rfl)
    · exact key a (47 :: x) h e (.inr ⟨x, rfl⟩) (by rw [e, cut_at 47 a x h]; rfl)
  · rw [if_neg (fun h => h2 ((take_two s3 t).1 h)), decide_eq_false h2, if_neg (by simp)]
    simp only
    rw [tailU_tailT s3 _ t h63 h35 hq hq0 hf0 ⟨rfl, rfl, rfl, rfl⟩]
    conv => rhs; rw [ht]
theorem headC_auth (s3 : List UInt8) (u : UrlV) (h : u.hasAuth = false) (hh : u.host = []) : (headC s3 u).hasAuth = false → (headC s3 u).host = [] := by
  unfold headC
  split
  · intro e
    rw [(authU_more _ _).2.2.2.2.1] at e
    cases e
  · exact fun _ => hh
theorem okC_okU (u : UrlV) (h : u.hasAuth = false → u.host = []) : okC u = okU u := by
  unfold okC okU
  rw [indexB_mem, anyC_eq, find_any, find_any]
  have e1 : (u.frag.any fun c => ([35] : List UInt8).contains c) = u.frag.contains 35 := by
    rw [Bool.eq_iff_iff, List.any_eq_true, List.contains_eq_mem, decide_eq_true_iff]
    constructor
    · rintro ⟨x, hx, hc⟩
      rw [List.contains_eq_mem, decide_eq_true_iff, List.mem_singleton] at hc
      exact hc ▸ hx
    · intro hm
      exact ⟨35, hm, rfl⟩
  rw [e1]
  have e2 : (!u.hasAuth || hostU u.host) = hostU u.host := by
    cases ha : u.hasAuth with
    | true => simp
    | false => rw [h ha]; rfl
  rw [e2]
  cases u.frag.contains 35 <;> cases ((u.user ++ u.path ++ u.query ++ u.frag).any fun c => ([91, 93] : List UInt8).contains c) <;> cases hostU u.host <;> cases u.port.all digitU <;> rfl
theorem sch_bad (a : List UInt8) : isSchB a = false ↔ (a = [] ∨ letterU (a.getD 0 0) = false ∨ a.all schB = false) := by
  unfold isSchB
  rw [Bool.and_eq_false_iff, Bool.and_eq_false_iff, decide_eq_false_iff_not]
  constructor
  · rintro ((h | h) | h)
    · exact .inl (Classical.not_not.1 h)
    · exact .inr (.inl h)
    · exact .inr (.inr h)
  · rintro (h | h | h)
    · exact .inl (.inl (fun hn => hn h))
    · exact .inl (.inr h)
    · exact .inr h
theorem tailC_shape (l : List UInt8) : tailC l = { zeroU with query := (tailC l).query, hasQuery := (tailC l).hasQuery, frag := (tailC l).frag, hasFrag := (tailC l).hasFrag } := rfl
/-- The scheme, the program's way. -/
theorem schC_no (l : List UInt8) (h : ¬ 0 ≤ firstC (restC l)) : schemeU l = some ([], l) := by
  obtain ⟨hl, h63, h35, hq, hq0, hf0⟩ := tailT_dec l
  have key : ∀ F x : List UInt8, (47 : UInt8) ∉ F → (58 : UInt8) ∉ F → restC l = F ++ x → (x = [] ∨ ∃ y, x = 47 :: y) → schemeU l = some ([], l) := fun F x h47 h58 hr hx => by
    unfold schemeU
    rw [if_neg]
    rintro ⟨h1, h2⟩
    have hf : findU [58, 47, 63, 35] l = F.length := by
      rw [hl, hr, List.append_assoc, find_skip _ F _ (fun c hc => by
        rw [List.contains_eq_mem, decide_eq_false_iff_not]
        intro hm2
        simp only [List.mem_cons, List.not_mem_nil, or_false] at hm2
        rcases hm2 with rfl | rfl | rfl | rfl
        · exact h58 hc
        · exact h47 hc
        · exact h63 (by rw [hr]; simp [hc])
        · exact h35 (by rw [hr]; simp [hc]))]
      rcases hx with rfl | ⟨y, rfl⟩
      · rw [List.nil_append, tailT_find _ rfl rfl]; rfl
      · rw [List.cons_append, find_here _ _ _ rfl]; rfl
    rw [hf] at h1 h2
    have e : l.getD F.length 0 = (x ++ tailT (tailC l)).getD 0 0 := by
      rw [List.getD_eq_getElem?_getD, List.getD_eq_getElem?_getD]
      conv => lhs; rw [hl, hr, List.append_assoc, List.getElem?_append_right (Nat.le_refl _), Nat.sub_self]
    rw [e] at h2
    rcases hx with rfl | ⟨y, rfl⟩
    · rw [List.nil_append] at h2
      by_cases hne : tailT (tailC l) = []
      · rw [hne] at h2; cases h2
      · rcases tailT_head _ hne with h3 | h3 <;> rw [h3] at h2 <;> cases h2
    · cases h2
  unfold firstC at h
  rcases first_dec 47 (restC l) with h1 | ⟨a, x, e, h1⟩
  · rw [cut_no 47 _ h1] at h
    have h2 : (58 : UInt8) ∉ restC l := fun hm => by
      have := indexB_mem 58 (restC l)
      rw [decide_eq_false h, List.contains_eq_mem, decide_eq_true hm] at this
      cases this
    exact key (restC l) [] h1 h2 (by simp) (.inl rfl)
  · rw [e, cut_at 47 a x h1] at h
    have h2 : (58 : UInt8) ∉ a := fun hm => by
      have := indexB_mem 58 a
      rw [decide_eq_false h, List.contains_eq_mem, decide_eq_true hm] at this
      cases this
    exact key a (47 :: x) h1 h2 e (.inr ⟨x, rfl⟩)
theorem schC_yes (l : List UInt8) (h : 0 ≤ firstC (restC l)) : (firstC (restC l)).toNat < (restC l).length ∧
    schemeU l = if isSchB ((restC l).take (firstC (restC l)).toNat) then some ((restC l).take (firstC (restC l)).toNat, (restC l).drop ((firstC (restC l)).toNat + 1) ++ tailT (tailC l)) else none := by
  obtain ⟨hl, h63, h35, hq, hq0, hf0⟩ := tailT_dec l
  obtain ⟨a, y, hr, h58, h47, hfc⟩ : ∃ a y, restC l = a ++ 58 :: y ∧ (58 : UInt8) ∉ a ∧ (47 : UInt8) ∉ a ∧ firstC (restC l) = a.length := by
    unfold firstC at h ⊢
    rcases first_dec 47 (restC l) with h1 | ⟨F, x, e, h1⟩
    · rw [cut_no 47 _ h1] at h ⊢
      rcases first_dec 58 (restC l) with h2 | ⟨a, y, e, h2⟩
      · rw [indexB_no 58 _ h2] at h; omega
      · refine ⟨a, y, e, h2, fun hm => h1 (by rw [e]; simp [hm]), ?_⟩
        simp only
        rw [e, indexB_at 58 y a h2]
    · rw [e, cut_at 47 F x h1] at h ⊢
      rcases first_dec 58 F with h2 | ⟨a, y, e2, h2⟩
      · rw [indexB_no 58 _ h2] at h; omega
      · refine ⟨a, y ++ 47 :: x, by rw [e2]; simp, h2, fun hm => h1 (by rw [e2]; simp [hm]), ?_⟩
        simp only
        rw [e2, indexB_at 58 y a h2]
  rw [hfc, Int.toNat_natCast]
  have hlt : a.length < (restC l).length := by rw [hr]; simp
  refine ⟨hlt, ?_⟩
  have e1 : (restC l).take a.length = a := by rw [hr, List.take_left]
  have e2 : (restC l).drop (a.length + 1) = y := by rw [hr]; simp
  rw [e1, e2]
  have hl2 : l = a ++ 58 :: (y ++ tailT (tailC l)) := by
    conv => lhs; rw [hl, hr]
    simp
  have hf : findU [58, 47, 63, 35] l = a.length := by
    rw [hl2, find_skip _ a _ (fun c hc => by
      rw [List.contains_eq_mem, decide_eq_false_iff_not]
      intro hm2
      simp only [List.mem_cons, List.not_mem_nil, or_false] at hm2
      rcases hm2 with rfl | rfl | rfl | rfl
      · exact h58 hc
      · exact h47 hc
      · exact h63 (by rw [hr]; simp [hc])
      · exact h35 (by rw [hr]; simp [hc])), find_here _ _ _ rfl]
    rfl
  generalize hT : y ++ tailT (tailC l) = R at hl2
  unfold schemeU
  rw [hf]
  have e3 : l.take a.length = a := by rw [hl2, List.take_left]
  have e4 : l.drop (a.length + 1) = R := by rw [hl2]; simp
  have e5 : l.getD a.length 0 = 58 := by
    rw [List.getD_eq_getElem?_getD, hl2, List.getElem?_append_right (Nat.le_refl _), Nat.sub_self]; rfl
  rw [e3, e4, e5, if_pos ⟨by rw [hl2]; simp, rfl⟩]
  have e6 : a ≠ [] → l.getD 0 0 = a.getD 0 0 := fun hne => by
    obtain ⟨c, r, rfl⟩ := List.exists_cons_of_ne_nil hne
    rw [hl2]; rfl
  cases hb : isSchB a with
  | false =>
    rw [if_neg (show ¬ (false = true) by decide), if_pos]
    rcases (sch_bad a).1 hb with h1 | h1 | h1
    · left; rw [h1]; rfl
    · by_cases ha : a = []
      · left; rw [ha]; rfl
      · right; left; rw [e6 ha]; exact h1
    · right; right; exact h1
  | true =>
    rw [if_pos rfl, if_neg]
    have hgood : ¬ (a = [] ∨ letterU (a.getD 0 0) = false ∨ a.all schB = false) := fun h2 => by rw [(sch_bad a).2 h2] at hb; cases hb
    rintro (h1 | h1 | h1)
    · exact hgood (.inl (List.length_eq_zero_iff.1 h1))
    · by_cases ha : a = []
      · exact hgood (.inl ha)
      · rw [e6 ha] at h1
        exact hgood (.inr (.inl h1))
    · exact hgood (.inr (.inr h1))
/-- The program's way is the parts'. -/
theorem partsC_parse (l : List UInt8) (hs : standsU l = true) : parseU l = if (partsC l).2 then some (partsC l).1 else none := by
  obtain ⟨hl, h63, h35, hq, hq0, hf0⟩ := tailT_dec l
  unfold parseU partsC
  rw [hs, if_neg (by simp)]
  by_cases h : 0 ≤ firstC (restC l)
  · obtain ⟨hlt, hsch⟩ := schC_yes l h
    rw [hsch, if_pos h]
    cases hb : isSchB ((restC l).take (firstC (restC l)).toNat) with
    | false => simp
    | true =>
      simp only [if_true]
      rw [headC_parts _ _ (tailC l) (fun hm => h63 (List.mem_of_mem_drop hm)) (fun hm => h35 (List.mem_of_mem_drop hm)) hq hq0 hf0 (tailC_shape l)]
      rw [okC_okU _ (headC_auth _ _ rfl rfl)]
  · rw [schC_no l h, if_neg h]
    simp only
    have e := headC_parts [] (restC l) (tailC l) h63 h35 hq hq0 hf0 (tailC_shape l)
    rw [← hl] at e
    rw [e, okC_okU _ (headC_auth _ _ rfl rfl)]
    rfl
end Go.Proofs.YtlblefcmilfjdaaGreatDoor
