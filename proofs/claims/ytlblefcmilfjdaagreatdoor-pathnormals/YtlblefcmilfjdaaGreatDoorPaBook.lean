
/- Dots out of a path, signs in their normal form: plain mathematics for layer 8 (no program in it). -/
import Derived.Test.YtlblefcmilfjdaaGreatDoorUrCode
namespace Go.Proofs.YtlblefcmilfjdaaGreatDoor
set_option linter.unusedVariables false
set_option linter.unusedSimpArgs false

/-- How many bytes the next segment has. -/
def segN (l : List UInt8) : Nat := 1 + findU [47] (l.drop 1)
def sgD (l : List UInt8) : List UInt8 := l.take (segN l)
def rsD (l : List UInt8) : List UInt8 := l.drop (segN l)
/-- Without its last segment, and the slash ahead of it. -/
def upD (o : List UInt8) : List UInt8 := match lastCut 47 (fun _ => false) o with
  | some (x, _) => x
  | none => []
def orS (r : List UInt8) : List UInt8 := if r = [] then [47] else r
def trimS (r : List UInt8) : List UInt8 := if r.getD 0 0 = 47 then r.drop 1 else r
def stepD (l o : List UInt8) : List UInt8 × List UInt8 :=
  if sgD l = [46] ∨ sgD l = [46, 46] then (trimS (rsD l), o)
  else if sgD l = [47, 46] then (orS (rsD l), o)
  else if sgD l = [47, 46, 46] then (orS (rsD l), upD o)
  else (rsD l, o ++ sgD l)
theorem sg_rs (l : List UInt8) : sgD l ++ rsD l = l := List.take_append_drop _ _
theorem segN_le (l : List UInt8) (h : l ≠ []) : segN l ≤ l.length := by
  obtain ⟨c, r, rfl⟩ := List.exists_cons_of_ne_nil h
  have := findU_le [47] r
  unfold segN
  simp only [List.drop_one, List.tail_cons, List.length_cons]
  omega
theorem sg_len (l : List UInt8) (h : l ≠ []) : (sgD l).length = segN l := by
  unfold sgD
  rw [List.length_take, Nat.min_eq_left (segN_le l h)]
theorem rs_len (l : List UInt8) (h : l ≠ []) : (rsD l).length + segN l = l.length := by
  unfold rsD
  rw [List.length_drop]
  have := segN_le l h
  omega
theorem trim_len (r : List UInt8) : (trimS r).length ≤ r.length := by
  unfold trimS
  split
  · rw [List.length_drop]; omega
  · exact Nat.le_refl _
theorem up_len (o : List UInt8) : (upD o).length ≤ o.length := by
  unfold upD
  cases h : lastCut 47 (fun _ => false) o with
  | none => simp
  | some p =>
    obtain ⟨x, y⟩ := p
    have := congrArg List.length (lastCut_app _ _ _ _ _ h)
    simp at this ⊢
    omega
theorem step_len (l o : List UInt8) (h : l ≠ []) : (stepD l o).1.length < l.length ∧ (stepD l o).1.length + (stepD l o).2.length ≤ l.length + o.length := by
  have h1 := sg_len l h
  have h2 := rs_len l h
  have h3 : 1 ≤ segN l := by unfold segN; omega
  have h4 := trim_len (rsD l)
  have h5 := up_len o
  unfold stepD
  by_cases c1 : sgD l = [46] ∨ sgD l = [46, 46]
  · rw [if_pos c1]; simp only; omega
  · rw [if_neg c1]
    by_cases c2 : sgD l = [47, 46]
    · rw [if_pos c2]
      have : segN l = 2 := by rw [← h1, c2]; rfl
      unfold orS
      split <;> simp <;> omega
    · rw [if_neg c2]
      by_cases c3 : sgD l = [47, 46, 46]
      · rw [if_pos c3]
        have : segN l = 3 := by rw [← h1, c3]; rfl
        unfold orS
        split <;> simp <;> omega
      · rw [if_neg c3]; simp only [List.length_append]; omega
def runD : Nat → List UInt8 → List UInt8 → List UInt8
  | 0, _, o => o
  | n + 1, l, o => if l = [] then o else runD n (stepD l o).1 (stepD l o).2
theorem runD_nil (n : Nat) (o : List UInt8) : runD n [] o = o := by
  cases n with
  | zero => rfl
  | succ n => simp [runD]
theorem runD_more : ∀ (n m : Nat) (l o : List UInt8), l.length ≤ n → l.length ≤ m → runD n l o = runD m l o
  | 0, m, l, o, h, _ => by
    have : l = [] := List.length_eq_zero_iff.1 (by omega)
    subst this
    rw [runD_nil, runD_nil]
  | n + 1, 0, l, o, _, h => by
    have : l = [] := List.length_eq_zero_iff.1 (by omega)
    subst this
    rw [runD_nil, runD_nil]
  | n + 1, m + 1, l, o, h1, h2 => by
    unfold runD
    by_cases hl : l = []
    · rw [if_pos hl, if_pos hl]
    · rw [if_neg hl, if_neg hl]
      have := (step_len l o hl).1
      exact runD_more n m _ _ (by omega) (by omega)
def dotD (l o : List UInt8) : List UInt8 := runD l.length l o
def dotsU (l : List UInt8) : List UInt8 := dotD l []
theorem dotD_nil (o : List UInt8) : dotD [] o = o := rfl
theorem dotD_step (l o : List UInt8) (h : l ≠ []) : dotD l o = dotD (stepD l o).1 (stepD l o).2 := by
  have h1 := (step_len l o h).1
  unfold dotD
  obtain ⟨c, r, rfl⟩ := List.exists_cons_of_ne_nil h
  rw [List.length_cons, runD, if_neg h]
  rw [List.length_cons] at h1
  exact runD_more _ _ _ _ (by omega) (Nat.le_refl _)
/-- What holds ahead, and stays step by step, holds at the end. -/
theorem dot_ind (I : List UInt8 → List UInt8 → Prop) (hI : ∀ l o, l ≠ [] → I l o → I (stepD l o).1 (stepD l o).2) : ∀ (n : Nat) (l o : List UInt8), l.length ≤ n → I l o → I [] (dotD l o)
  | 0, l, o, h, hi => by
    have : l = [] := List.length_eq_zero_iff.1 (by omega)
    subst this
    exact hi
  | n + 1, l, o, h, hi => by
    by_cases hl : l = []
    · subst hl; exact hi
    · rw [dotD_step l o hl]
      have := (step_len l o hl).1
      exact dot_ind I hI n _ _ (by omega) (hI l o hl hi)
theorem dots_len (l : List UInt8) : (dotsU l).length ≤ l.length := by
  have := dot_ind (fun a o => a.length + o.length ≤ l.length) (fun a o ha h => Nat.le_trans (step_len a o ha).2 h) l.length l [] (Nat.le_refl _) (by simp)
  show (dotD l []).length ≤ l.length
  simpa using this
/-- What is behind a segment begins with a slash. -/
theorem rs_head (l : List UInt8) : rsD l = [] ∨ (rsD l).getD 0 0 = 47 := by
  rcases Nat.lt_or_ge (findU [47] (l.drop 1)) (l.drop 1).length with h | h
  · right
    have := findU_at [47] (l.drop 1) h
    have e : (rsD l).getD 0 0 = (l.drop 1).getD (findU [47] (l.drop 1)) 0 := by
      unfold rsD segN
      rw [List.getD_eq_getElem?_getD, List.getD_eq_getElem?_getD, List.getElem?_drop, List.getElem?_drop, Nat.add_zero]
    rw [e]
    simpa using this
  · left
    unfold rsD segN
    have := findU_le [47] (l.drop 1)
    rw [List.length_drop] at h
    exact List.drop_eq_nil_of_le (by omega)
theorem rs_cons (l : List UInt8) (h : rsD l ≠ []) : ∃ b, rsD l = 47 :: b := by
  rcases rs_head l with h1 | h1
  · exact absurd h1 h
  · obtain ⟨c, b, e⟩ := List.exists_cons_of_ne_nil h
    rw [e] at h1
    have : c = 47 := h1
    exact ⟨b, by rw [e, this]⟩
/-- No slash in a segment but at its head. -/
theorem sg_free (l : List UInt8) : (47 : UInt8) ∉ (sgD l).drop 1 := by
  intro hm
  obtain ⟨j, hj, e⟩ := List.mem_iff_getElem.1 hm
  have hlen : j < findU [47] (l.drop 1) := by
    have : ((sgD l).drop 1).length ≤ findU [47] (l.drop 1) := by
      unfold sgD segN
      rw [List.length_drop, List.length_take]; omega
    omega
  have := findU_ahead [47] (l.drop 1) j hlen
  have e2 : (l.drop 1).getD j 0 = 47 := by
    have : ((sgD l).drop 1)[j]? = some 47 := by rw [List.getElem?_eq_getElem hj, e]
    unfold sgD segN at this
    rw [List.getElem?_drop, List.getElem?_take_of_lt (by omega)] at this
    rw [List.getD_eq_getElem?_getD, List.getElem?_drop, this]; rfl
  rw [e2] at this
  simp at this
theorem or_ne (r : List UInt8) (h : r = [] ∨ r.getD 0 0 = 47) : orS r ≠ [] ∧ (orS r).getD 0 0 = 47 := by
  unfold orS
  split
  · exact ⟨by simp, rfl⟩
  · rename_i hr
    rcases h with h | h
    · exact absurd h hr
    · exact ⟨hr, h⟩
theorem up_cases (o : List UInt8) : (upD o = [] ∧ (47 : UInt8) ∉ o) ∨ ∃ x y, o = x ++ 47 :: y ∧ (47 : UInt8) ∉ y ∧ upD o = x := by
  rcases last_dec 47 o with h | ⟨x, y, rfl, hy⟩
  · left
    refine ⟨?_, h⟩
    unfold upD
    rw [lastCut_no 47 _ o h]
  · right
    refine ⟨x, y, rfl, hy, ?_⟩
    unfold upD
    rw [lastCut_hit 47 _ y hy (fun _ _ => rfl) x]

/-! Done twice it is done once. -/
def SegOk (s : List UInt8) : Prop := s ≠ [] ∧ (47 : UInt8) ∉ s.drop 1 ∧ s ≠ [46] ∧ s ≠ [46, 46] ∧ s ≠ [47, 46] ∧ s ≠ [47, 46, 46]
/-- Good segments: all but the first begin with a slash. -/
def Segs : List (List UInt8) → Prop
  | [] => True
  | s :: r => SegOk s ∧ ∀ t ∈ r, SegOk t ∧ t.getD 0 0 = 47
theorem seg_of (s t : List UInt8) (hs : s ≠ []) (hf : (47 : UInt8) ∉ s.drop 1) (ht : t = [] ∨ t.getD 0 0 = 47) : segN (s ++ t) = s.length := by
  obtain ⟨c, n, rfl⟩ := List.exists_cons_of_ne_nil hs
  unfold segN
  simp only [List.cons_append, List.drop_one, List.tail_cons] at hf ⊢
  rw [find_skip [47] n t (fun d hd => by
    have : d ≠ 47 := fun e => hf (e ▸ hd)
    simpa using this)]
  have : findU [47] t = 0 := by
    match t with
    | [] => rfl
    | d :: t =>
      rcases ht with h | h
      · cases h
      · have hd : d = 47 := h
        exact find_here [47] d t (by rw [hd]; rfl)
  rw [this, List.length_cons]; omega
theorem segs_head (xs : List (List UInt8)) (h : ∀ t ∈ xs, SegOk t ∧ t.getD 0 0 = 47) : xs.flatten = [] ∨ xs.flatten.getD 0 0 = 47 := by
  match xs with
  | [] => exact .inl rfl
  | s :: r =>
    right
    have h1 := h s (by simp)
    obtain ⟨c, n, rfl⟩ := List.exists_cons_of_ne_nil h1.1.1
    exact h1.2
theorem dot_segs : ∀ (xs : List (List UInt8)), Segs xs → ∀ o, dotD xs.flatten o = o ++ xs.flatten
  | [], _, o => by simp [dotD_nil]
  | s :: r, h, o => by
    obtain ⟨⟨h1, h2, h3, h4, h5, h6⟩, hr⟩ := h
    have hn := seg_of s r.flatten h1 h2 (segs_head r hr)
    have hl : s ++ r.flatten ≠ [] := by simp [h1]
    have es : sgD (s ++ r.flatten) = s := by unfold sgD; rw [hn]; simp
    have er : rsD (s ++ r.flatten) = r.flatten := by unfold rsD; rw [hn]; simp
    rw [List.flatten_cons, dotD_step _ _ hl]
    have e : stepD (s ++ r.flatten) o = (r.flatten, o ++ s) := by
      unfold stepD
      rw [es, er, if_neg (by rintro (h | h); exact h3 h; exact h4 h), if_neg h5, if_neg h6]
    rw [e]
    have hs : Segs r := by
      match r, hr with
      | [], _ => trivial
      | t :: q, hr => exact ⟨(hr t (by simp)).1, fun x hx => hr x (by simp [hx])⟩
    rw [dot_segs r hs]
    simp
theorem head_app (a b : List UInt8) (h : a ≠ []) : (a ++ b).getD 0 0 = a.getD 0 0 := by
  obtain ⟨c, r, rfl⟩ := List.exists_cons_of_ne_nil h
  rfl
theorem sg_ne (l : List UInt8) (h : l ≠ []) : sgD l ≠ [] := fun e => by
  have := sg_len l h
  rw [e] at this
  unfold segN at this
  simp at this
  omega
theorem sg_head (l : List UInt8) (h : l ≠ []) : (sgD l).getD 0 0 = l.getD 0 0 := by
  conv => rhs; rw [← sg_rs l]
  exact (head_app _ _ (sg_ne l h)).symm
theorem segs_snoc (xs : List (List UInt8)) (s : List UInt8) (h : Segs xs) (hs : SegOk s) (hh : xs = [] ∨ s.getD 0 0 = 47) : Segs (xs ++ [s]) := by
  match xs, h with
  | [], _ => exact ⟨hs, fun t ht => by cases ht⟩
  | a :: r, h =>
    refine ⟨h.1, fun t ht => ?_⟩
    rcases List.mem_append.1 ht with h1 | h1
    · exact h.2 t h1
    · rw [List.mem_singleton] at h1
      subst h1
      rcases hh with h2 | h2
      · cases h2
      · exact ⟨hs, h2⟩
theorem segs_init (xs : List (List UInt8)) (s : List UInt8) (h : Segs (xs ++ [s])) : Segs xs ∧ SegOk s ∧ (xs = [] ∨ s.getD 0 0 = 47) := by
  match xs, h with
  | [], h => exact ⟨trivial, h.1, .inl rfl⟩
  | a :: r, h => exact ⟨⟨h.1, fun t ht => h.2 t (by simp [ht])⟩, (h.2 s (by simp)).1, .inr (h.2 s (by simp)).2⟩
theorem up_segs (xs : List (List UInt8)) (h : Segs xs) : ∃ ys, Segs ys ∧ upD xs.flatten = ys.flatten := by
  rcases List.eq_nil_or_concat xs with rfl | ⟨ys, s, rfl⟩
  · exact ⟨[], trivial, rfl⟩
  · obtain ⟨h1, h2, h3⟩ := segs_init ys s (by simpa using h)
    refine ⟨ys, h1, ?_⟩
    obtain ⟨c, n, rfl⟩ := List.exists_cons_of_ne_nil h2.1
    have hn : (47 : UInt8) ∉ n := by simpa using h2.2.1
    have e : (ys.concat (c :: n)).flatten = ys.flatten ++ c :: n := by simp
    rw [e]
    by_cases hc : c = 47
    · subst hc
      unfold upD
      rw [lastCut_hit 47 _ n hn (fun _ _ => rfl)]
    · rcases h3 with rfl | h3
      · unfold upD
        rw [lastCut_no 47 _ _ (by simp [hn, Ne.symm hc])]
        rfl
      · exact absurd h3 hc
theorem step_segs (l o : List UInt8) (hl : l ≠ []) (h : (∃ xs, Segs xs ∧ o = xs.flatten) ∧ (l.getD 0 0 = 47 ∨ l = [] ∨ o = [])) : (∃ xs, Segs xs ∧ (stepD l o).2 = xs.flatten) ∧ ((stepD l o).1.getD 0 0 = 47 ∨ (stepD l o).1 = [] ∨ (stepD l o).2 = []) := by
  obtain ⟨⟨xs, hx, rfl⟩, hh⟩ := h
  have hd := sg_head l hl
  unfold stepD
  by_cases c1 : sgD l = [46] ∨ sgD l = [46, 46]
  · rw [if_pos c1]
    have h46 : l.getD 0 0 = 46 := by rw [← hd]; rcases c1 with e | e <;> rw [e] <;> rfl
    have ho : xs.flatten = [] := by
      rcases hh with h1 | h1 | h1
      · rw [h46] at h1; cases h1
      · exact absurd h1 hl
      · exact h1
    exact ⟨⟨xs, hx, rfl⟩, .inr (.inr ho)⟩
  · rw [if_neg c1]
    by_cases c2 : sgD l = [47, 46]
    · rw [if_pos c2]
      exact ⟨⟨xs, hx, rfl⟩, .inl (or_ne _ (rs_head l)).2⟩
    · rw [if_neg c2]
      by_cases c3 : sgD l = [47, 46, 46]
      · rw [if_pos c3]
        exact ⟨up_segs xs hx, .inl (or_ne _ (rs_head l)).2⟩
      · rw [if_neg c3]
        refine ⟨⟨xs ++ [sgD l], segs_snoc xs (sgD l) hx ⟨sg_ne l hl, sg_free l, fun e => c1 (.inl e), fun e => c1 (.inr e), c2, c3⟩ ?_, by simp⟩, ?_⟩
        · rcases hh with h1 | h1 | h1
          · exact .inr (hd.trans h1)
          · exact absurd h1 hl
          · left
            match xs, hx with
            | [], _ => rfl
            | a :: r, hx =>
              exfalso
              rw [List.flatten_cons, List.append_eq_nil_iff] at h1
              exact hx.1.1 h1.1
        · rcases rs_head l with h1 | h1
          · exact .inr (.inl h1)
          · exact .inl h1
theorem dots_twice (l : List UInt8) : dotsU (dotsU l) = dotsU l := by
  have := dot_ind (fun a o => (∃ xs, Segs xs ∧ o = xs.flatten) ∧ (a.getD 0 0 = 47 ∨ a = [] ∨ o = [])) step_segs l.length l [] (Nat.le_refl _) ⟨⟨[], trivial, rfl⟩, .inr (.inr rfl)⟩
  obtain ⟨⟨xs, hx, e⟩, _⟩ := this
  show dotD (dotD l []) [] = dotD l []
  rw [e, dot_segs xs hx]
  rfl
/-- What begins with a slash does so without dots. -/
theorem dots_slash (l : List UInt8) (hl : l ≠ []) (h : l.getD 0 0 = 47) : dotsU l ≠ [] ∧ (dotsU l).getD 0 0 = 47 := by
  have key : ∀ a o : List UInt8, a ≠ [] → ((a ≠ [] → a.getD 0 0 = 47) ∧ (o ≠ [] → o.getD 0 0 = 47) ∧ (a ≠ [] ∨ o ≠ [])) → (((stepD a o).1 ≠ [] → (stepD a o).1.getD 0 0 = 47) ∧ ((stepD a o).2 ≠ [] → (stepD a o).2.getD 0 0 = 47) ∧ ((stepD a o).1 ≠ [] ∨ (stepD a o).2 ≠ [])) := fun a o ha hh => by
    have h47 := hh.1 ha
    have hd := sg_head a ha
    unfold stepD
    by_cases c1 : sgD a = [46] ∨ sgD a = [46, 46]
    · exfalso
      rw [h47] at hd
      rcases c1 with e | e <;> rw [e] at hd <;> cases hd
    · rw [if_neg c1]
      by_cases c2 : sgD a = [47, 46]
      · rw [if_pos c2]
        have := or_ne _ (rs_head a)
        exact ⟨fun _ => this.2, hh.2.1, .inl this.1⟩
      · rw [if_neg c2]
        by_cases c3 : sgD a = [47, 46, 46]
        · rw [if_pos c3]
          have := or_ne _ (rs_head a)
          refine ⟨fun _ => this.2, fun hu => ?_, .inl this.1⟩
          rcases up_cases o with ⟨e, _⟩ | ⟨x, y, rfl, _, e⟩
          · exact absurd e hu
          · show (upD (x ++ 47 :: y)).getD 0 0 = 47
            rw [e] at hu ⊢
            rw [← head_app x (47 :: y) hu]
            exact hh.2.1 (by simp)
        · rw [if_neg c3]
          refine ⟨fun hr => ?_, fun _ => ?_, .inr ?_⟩
          · rcases rs_head a with h1 | h1
            · exact absurd h1 hr
            · exact h1
          · show (o ++ sgD a).getD 0 0 = 47
            by_cases ho : o = []
            · rw [ho, List.nil_append, hd, h47]
            · rw [head_app _ _ ho]; exact hh.2.1 ho
          · simp [sg_ne a ha]
  have := dot_ind _ key l.length l [] (Nat.le_refl _) ⟨fun _ => h, fun h => absurd rfl h, .inl hl⟩
  have h1 : dotD l [] ≠ [] := by
    rcases this.2.2 with h | h
    · exact absurd rfl h
    · exact h
  exact ⟨h1, this.2.1 h1⟩
/-- What holds of pieces, and of what they make, holds without dots. -/
theorem dots_keep (P : List UInt8 → Prop) (p0 : P []) (p47 : P [47]) (papp : ∀ a b, P a → P b → P (a ++ b)) (pcut : ∀ a b, P (a ++ 47 :: b) → P a ∧ P (47 :: b)) (ptail : ∀ b, P (47 :: b) → P b) (l : List UInt8) (h : P l) : P (dotsU l) := by
  have hsr : ∀ a, P a → P (sgD a) ∧ P (rsD a) := fun a ha => by
    by_cases hr : rsD a = []
    · have := sg_rs a
      rw [hr, List.append_nil] at this
      exact ⟨this.symm ▸ ha, hr.symm ▸ p0⟩
    · obtain ⟨b, e⟩ := rs_cons a hr
      have := sg_rs a
      rw [e] at this ⊢
      exact pcut _ _ (this.symm ▸ ha)
  have hor : ∀ a, P a → P (orS a) := fun a ha => by
    unfold orS; split
    · exact p47
    · exact ha
  have := dot_ind (fun a o => P a ∧ P o) (fun a o ha hh => by
    obtain ⟨h1, h2⟩ := hsr a hh.1
    unfold stepD
    by_cases c1 : sgD a = [46] ∨ sgD a = [46, 46]
    · rw [if_pos c1]
      refine ⟨?_, hh.2⟩
      show P (trimS (rsD a))
      by_cases hr : rsD a = []
      · rw [hr]; exact p0
      · obtain ⟨b, e⟩ := rs_cons a hr
        rw [e] at h2 ⊢
        exact ptail b h2
    · rw [if_neg c1]
      by_cases c2 : sgD a = [47, 46]
      · rw [if_pos c2]; exact ⟨hor _ h2, hh.2⟩
      · rw [if_neg c2]
        by_cases c3 : sgD a = [47, 46, 46]
        · rw [if_pos c3]
          refine ⟨hor _ h2, ?_⟩
          show P (upD o)
          rcases up_cases o with ⟨e, _⟩ | ⟨x, y, rfl, _, e⟩
          · rw [e]; exact p0
          · rw [e]; exact (pcut x y hh.2).1
        · rw [if_neg c3]; exact ⟨h2, papp _ _ hh.2 h1⟩) l.length l [] (Nat.le_refl _) ⟨h, p0⟩
  exact this.2
end Go.Proofs.YtlblefcmilfjdaaGreatDoor
namespace Go.Proofs.YtlblefcmilfjdaaGreatDoor
set_option linter.unusedVariables false
set_option linter.unusedSimpArgs false

def lowB (c : UInt8) : UInt8 := if 65 ≤ c.toNat ∧ c.toNat ≤ 90 then c + 32 else c
/-- The byte of two digits. -/
def twoU (a b : UInt8) : UInt8 := UInt8.ofNat (hexV a * 16 + hexV b)
/-- A byte as it stands: itself (as f has it), or a sign and two digits. -/
def signU (f : UInt8 → UInt8) (v : UInt8) : List UInt8 := if plainU v then [f v] else [37, hexD (v.toNat / 16), hexD (v.toNat % 16)]
def tidyU (f : UInt8 → UInt8) : List UInt8 → List UInt8
  | [] => []
  | [c] => [f c]
  | [c, d] => [f c, f d]
  | c :: a :: b :: r => if c = 37 then signU f (twoU a b) ++ tidyU f r else f c :: tidyU f (a :: b :: r)
theorem tidy_cons (f : UInt8 → UInt8) (c : UInt8) (l : List UInt8) (h : c ≠ 37) : tidyU f (c :: l) = f c :: tidyU f l := by
  match l with
  | [] => rfl
  | [d] => rfl
  | a :: b :: r => rw [tidyU, if_neg h]
theorem tidy_hex (f : UInt8 → UInt8) (a b : UInt8) (r : List UInt8) : tidyU f (37 :: a :: b :: r) = signU f (twoU a b) ++ tidyU f r := by rw [tidyU, if_pos rfl]
theorem hex_fin : ∀ n : Fin 256, hexU (UInt8.ofNat n.val) = true → byteU (UInt8.ofNat n.val) = true ∧ UInt8.ofNat n.val ≠ 37 ∧ UInt8.ofNat n.val ≠ 47 ∧ UInt8.ofNat n.val ≠ 35 ∧ UInt8.ofNat n.val ≠ 63 ∧ UInt8.ofNat n.val ≠ 58 ∧ UInt8.ofNat n.val ≠ 64 ∧ hexV (UInt8.ofNat n.val) < 16 := by decide +kernel
theorem hex_byte (c : UInt8) (h : hexU c = true) : byteU c = true ∧ c ≠ 37 ∧ c ≠ 47 ∧ c ≠ 35 ∧ c ≠ 63 ∧ c ≠ 58 ∧ c ≠ 64 ∧ hexV c < 16 := by
  have := hex_fin ⟨c.toNat, c.toNat_lt⟩
  simp only [UInt8.ofNat_toNat] at this
  exact this h
/-- What stands. -/
def StandsI (l : List UInt8) : Prop := standsU l = true
theorem StandsI.of {l : List UInt8} (h : standsU l = true) : StandsI l := h
theorem StandsI.to {l : List UInt8} (h : StandsI l) : standsU l = true := h
theorem StandsI.nil : StandsI [] := rfl
theorem StandsI.byte (c : UInt8) (r : List UInt8) (h1 : byteU c = true) (h2 : c ≠ 37) (ih : StandsI r) : StandsI (c :: r) := by
  show (byteU c && (c != 37 || hexTwo r) && standsU r) = true
  rw [h1, ih.to]
  simp [h2]
theorem StandsI.sign (a b : UInt8) (r : List UInt8) (ha : hexU a = true) (hb : hexU b = true) (ih : StandsI r) : StandsI (37 :: a :: b :: r) := by
  show (byteU 37 && ((37 : UInt8) != 37 || (hexU a && hexU b)) && (byteU a && (a != 37 || hexTwo (b :: r)) && (byteU b && (b != 37 || hexTwo r) && standsU r))) = true
  have h1 := hex_byte a ha
  have h2 := hex_byte b hb
  have h3 : byteU 37 = true := by decide
  rw [ih.to, ha, hb, h1.1, h2.1, h3]
  simp [h1.2.1, h2.2.1]
/-- What stands is nothing, a byte and what stands, or a sign with two digits and what stands. -/
theorem StandsI.parts {l : List UInt8} (h : StandsI l) : l = [] ∨ (∃ c r, l = c :: r ∧ byteU c = true ∧ c ≠ 37 ∧ StandsI r) ∨ ∃ a b r, l = 37 :: a :: b :: r ∧ hexU a = true ∧ hexU b = true ∧ StandsI r := by
  match l, h with
  | [], _ => exact .inl rfl
  | c :: r, hs =>
    have hs : standsU (c :: r) = true := hs
    have e : standsU (c :: r) = (byteU c && (c != 37 || hexTwo r) && standsU r) := rfl
    rw [e, Bool.and_eq_true, Bool.and_eq_true] at hs
    obtain ⟨⟨h1, h2⟩, h3⟩ := hs
    by_cases hc : c = 37
    · subst hc
      match r, h2, h3 with
      | [], h2, _ => simp [hexTwo] at h2
      | [_], h2, _ => simp [hexTwo] at h2
      | a :: b :: t, h2, h3 =>
        have h4 : (hexU a && hexU b) = true := by simpa [hexTwo] using h2
        rw [Bool.and_eq_true] at h4
        have e2 : standsU (a :: b :: t) = (byteU a && (a != 37 || hexTwo (b :: t)) && (byteU b && (b != 37 || hexTwo t) && standsU t)) := rfl
        rw [e2, Bool.and_eq_true, Bool.and_eq_true, Bool.and_eq_true] at h3
        exact .inr (.inr ⟨a, b, t, rfl, h4.1, h4.2, h3.2.2⟩)
    · exact .inr (.inl ⟨c, r, rfl, h1, hc, h3⟩)
theorem stands_to (P : List UInt8 → Prop) (p0 : P []) (p1 : ∀ c r, byteU c = true → c ≠ 37 → StandsI r → P r → P (c :: r)) (p2 : ∀ a b r, hexU a = true → hexU b = true → StandsI r → P r → P (37 :: a :: b :: r)) : ∀ (n : Nat) (l : List UInt8), l.length ≤ n → StandsI l → P l
  | n, [], _, _ => p0
  | 0, c :: r, h, _ => by simp at h
  | n + 1, c :: r, h, hs => by
    rcases hs.parts with e | ⟨c', r', e, h1, h2, h3⟩ | ⟨a, b, r', e, h1, h2, h3⟩
    · cases e
    · rw [e] at h ⊢
      exact p1 _ _ h1 h2 h3 (stands_to P p0 p1 p2 n r' (by simp at h; omega) h3)
    · rw [e] at h ⊢
      exact p2 _ _ _ h1 h2 h3 (stands_to P p0 p1 p2 n r' (by simp at h; omega) h3)
theorem StandsI.ind (P : List UInt8 → Prop) {l : List UInt8} (h : StandsI l) (p0 : P []) (p1 : ∀ c r, byteU c = true → c ≠ 37 → StandsI r → P r → P (c :: r)) (p2 : ∀ a b r, hexU a = true → hexU b = true → StandsI r → P r → P (37 :: a :: b :: r)) : P l := stands_to P p0 p1 p2 l.length l (Nat.le_refl _) h
theorem StandsI.app {a b : List UInt8} (h : StandsI a) (hb : StandsI b) : StandsI (a ++ b) :=
  StandsI.ind (fun a => StandsI (a ++ b)) h hb (fun c r h1 h2 _ ih => .byte c _ h1 h2 ih) (fun x y r h1 h2 _ ih => .sign x y _ h1 h2 ih)
theorem stands_byte (c : UInt8) (x : List UInt8) (hc : c ≠ 37) (h : StandsI (c :: x)) : byteU c = true ∧ StandsI x := by
  rcases h.parts with e | ⟨c', r', e, h1, h2, h3⟩ | ⟨a, b, r', e, h1, h2, h3⟩
  · cases e
  · cases e; exact ⟨h1, h3⟩
  · cases e; exact absurd rfl hc
theorem stands_hex (x : List UInt8) (h : StandsI (37 :: x)) : ∃ a b r, x = a :: b :: r ∧ hexU a = true ∧ hexU b = true ∧ StandsI r := by
  rcases h.parts with e | ⟨c', r', e, h1, h2, h3⟩ | ⟨a, b, r', e, h1, h2, h3⟩
  · cases e
  · cases e; exact absurd rfl h2
  · cases e; exact ⟨a, b, r', rfl, h1, h2, h3⟩
/-- Cut at what is no digit, both stand. -/
theorem stands_cut (d : UInt8) (hd : hexU d = false) : ∀ (n : Nat) (a b : List UInt8), a.length ≤ n → StandsI (a ++ d :: b) → StandsI a ∧ StandsI (d :: b)
  | _, [], b, _, h => ⟨.nil, h⟩
  | 0, c :: r, b, h, _ => by simp at h
  | n + 1, c :: r, b, h, hs => by
    simp only [List.length_cons] at h
    by_cases hc : c = 37
    · subst hc
      obtain ⟨x, y, t, e, hx, hy, ht⟩ := stands_hex _ hs
      match r, h, e with
      | [], _, e =>
        injection e with e1 e2
        subst e1
        rw [hd] at hx; cases hx
      | [z], _, e =>
        injection e with e1 e2
        injection e2 with e2 e3
        subst e2
        rw [hd] at hy; cases hy
      | x' :: y' :: t', h, e =>
        injection e with e1 e2
        injection e2 with e2 e3
        subst e1; subst e2
        simp only [List.length_cons] at h
        have e4 : t' ++ d :: b = t := e3
        have := stands_cut d hd n t' b (by omega) (by rw [e4]; exact ht)
        exact ⟨.sign x' y' t' hx hy this.1, this.2⟩
    · obtain ⟨h1, ht⟩ := stands_byte c (r ++ d :: b) hc hs
      have := stands_cut d hd n r b (by omega) ht
      exact ⟨.byte c r h1 hc this.1, this.2⟩
theorem stands_tail (d : UInt8) (hd : d ≠ 37) (b : List UInt8) (h : StandsI (d :: b)) : StandsI b := (stands_byte d b hd h).2

/-! What f may be: nothing, or to lower case. -/
structure FOk (f : UInt8 → UInt8) : Prop where
  byte : ∀ c, byteU c = true → c ≠ 37 → byteU (f c) = true ∧ f c ≠ 37
  plain : ∀ c, plainU c = true → plainU (f c) = true
  twice : ∀ c, f (f c) = f c
  dels : ∀ c d, d ∈ ([47, 63, 35, 58, 64, 91, 93] : List UInt8) → f c = d → c = d
theorem low_fin : ∀ n : Fin 256, (byteU (UInt8.ofNat n.val) = true → UInt8.ofNat n.val ≠ 37 → byteU (lowB (UInt8.ofNat n.val)) = true ∧ lowB (UInt8.ofNat n.val) ≠ 37) ∧ (plainU (UInt8.ofNat n.val) = true → plainU (lowB (UInt8.ofNat n.val)) = true) ∧ lowB (lowB (UInt8.ofNat n.val)) = lowB (UInt8.ofNat n.val) ∧ (∀ d ∈ ([47, 63, 35, 58, 64, 91, 93] : List UInt8), lowB (UInt8.ofNat n.val) = d → UInt8.ofNat n.val = d) := by decide +kernel
theorem fok_low : FOk lowB := by
  have key : ∀ c : UInt8, _ := fun c => low_fin ⟨c.toNat, c.toNat_lt⟩
  simp only [UInt8.ofNat_toNat] at key
  exact ⟨fun c => (key c).1, fun c => (key c).2.1, fun c => (key c).2.2.1, fun c d hd h => (key c).2.2.2 d hd h⟩
theorem fok_id : FOk id := ⟨fun c h1 h2 => ⟨h1, h2⟩, fun c h => h, fun c => rfl, fun c d _ h => h⟩
theorem hexD_facts : ∀ n : Fin 16, hexU (hexD n.val) = true ∧ hexV (hexD n.val) = n.val ∧ plainU (hexD n.val) = true ∧ hexU (lowB (hexD n.val)) = true ∧ hexV (lowB (hexD n.val)) = n.val := by decide
theorem two_back (v : UInt8) : twoU (hexD (v.toNat / 16)) (hexD (v.toNat % 16)) = v ∧ twoU (lowB (hexD (v.toNat / 16))) (lowB (hexD (v.toNat % 16))) = v := by
  have hv := v.toNat_lt
  have h1 := hexD_facts ⟨v.toNat / 16, by omega⟩
  have h2 := hexD_facts ⟨v.toNat % 16, by omega⟩
  unfold twoU
  rw [h1.2.1, h2.2.1, h1.2.2.2.2, h2.2.2.2.2]
  exact ⟨hex_back v, hex_back v⟩
theorem sign_stands (f : UInt8 → UInt8) (hf : FOk f) (v : UInt8) : StandsI (signU f v) := by
  unfold signU
  have hv := v.toNat_lt
  split
  · rename_i h
    have h1 := plain_byte v h
    have h2 := hf.byte v h1.1 h1.2
    exact .byte _ _ h2.1 h2.2 .nil
  · exact .sign _ _ _ (hexD_facts ⟨v.toNat / 16, by omega⟩).1 (hexD_facts ⟨v.toNat % 16, by omega⟩).1 .nil
theorem tidy_stands (f : UInt8 → UInt8) (hf : FOk f) {l : List UInt8} (h : StandsI l) : StandsI (tidyU f l) := by
  refine StandsI.ind (fun l => StandsI (tidyU f l)) h ?_ ?_ ?_
  · exact .nil
  · intro c r h1 h2 _ ih
    rw [tidy_cons f c r h2]
    have := hf.byte c h1 h2
    exact .byte _ _ this.1 this.2 ih
  · intro a b r ha hb _ ih
    rw [tidy_hex]
    exact (sign_stands f hf _).app ih
theorem tidy_app (f : UInt8 → UInt8) {a : List UInt8} (h : StandsI a) (b : List UInt8) : tidyU f (a ++ b) = tidyU f a ++ tidyU f b := by
  refine StandsI.ind (fun l => tidyU f (l ++ b) = tidyU f l ++ tidyU f b) h ?_ ?_ ?_
  · rfl
  · intro c r h1 h2 _ ih
    rw [List.cons_append, tidy_cons f c _ h2, tidy_cons f c r h2, ih, List.cons_append]
  · intro x y r hx hy _ ih
    rw [List.cons_append, List.cons_append, List.cons_append, tidy_hex, tidy_hex, ih, List.append_assoc]
theorem tidy_sign (f : UInt8 → UInt8) (hf : FOk f) (v : UInt8) : tidyU f (signU f v) = signU f v := by
  unfold signU
  split
  · rename_i h
    have h1 := plain_byte v h
    have h2 := hf.byte v h1.1 h1.2
    rw [tidy_cons f _ _ h2.2, hf.twice]; rfl
  · rename_i h
    rw [tidy_hex, (two_back v).1]
    unfold signU
    rw [if_neg h]; rfl
theorem tidy_twice (f : UInt8 → UInt8) (hf : FOk f) {l : List UInt8} (h : StandsI l) : tidyU f (tidyU f l) = tidyU f l := by
  refine StandsI.ind (fun l => tidyU f (tidyU f l) = tidyU f l) h ?_ ?_ ?_
  · rfl
  · intro c r h1 h2 _ ih
    rw [tidy_cons f c r h2, tidy_cons f _ _ (hf.byte c h1 h2).2, hf.twice, ih]
  · intro a b r ha hb _ ih
    rw [tidy_hex, tidy_app f (sign_stands f hf _), tidy_sign f hf, ih]
/-- A host's normal form is made in three steps. -/
theorem tidy_host {l : List UInt8} (h : StandsI l) : tidyU id ((tidyU id l).map lowB) = tidyU lowB l ∧ StandsI ((tidyU id l).map lowB) := by
  refine StandsI.ind (fun l => tidyU id ((tidyU id l).map lowB) = tidyU lowB l ∧ StandsI ((tidyU id l).map lowB)) h ?_ ?_ ?_
  · exact ⟨rfl, .nil⟩
  · intro c r h1 h2 _ ih
    have h3 := fok_low.byte c h1 h2
    rw [tidy_cons id c r h2, List.map_cons, tidy_cons lowB c r h2]
    show tidyU id (lowB c :: _) = _ ∧ StandsI (lowB c :: _)
    rw [tidy_cons id _ _ h3.2, ih.1]
    exact ⟨rfl, .byte _ _ h3.1 h3.2 ih.2⟩
  · intro a b r ha hb _ ih
    rw [tidy_hex, tidy_hex, List.map_append]
    have key : StandsI ((signU id (twoU a b)).map lowB) ∧ tidyU id ((signU id (twoU a b)).map lowB) = signU lowB (twoU a b) := by
      generalize twoU a b = v
      have hv := v.toNat_lt
      unfold signU
      split
      · rename_i h
        have h1 := plain_byte v h
        have h2 := fok_low.byte v h1.1 h1.2
        refine ⟨.byte _ _ h2.1 h2.2 .nil, ?_⟩
        show tidyU id [lowB v] = _
        rw [tidy_cons id _ _ h2.2]; rfl
      · rename_i h
        refine ⟨.sign _ _ _ (hexD_facts ⟨v.toNat / 16, by omega⟩).2.2.2.1 (hexD_facts ⟨v.toNat % 16, by omega⟩).2.2.2.1 .nil, ?_⟩
        show tidyU id [37, lowB _, lowB _] = _
        rw [tidy_hex, (two_back v).2]
        unfold signU
        rw [if_neg h]; rfl
    exact ⟨by rw [tidy_app id key.1, key.2, ih.1], key.1.app ih.2⟩
theorem sign_len (f : UInt8 → UInt8) (v : UInt8) : (signU f v).length ≤ 3 := by
  unfold signU; split <;> simp
theorem tidy_len (f : UInt8 → UInt8) {l : List UInt8} (h : StandsI l) : (tidyU f l).length ≤ l.length := by
  refine StandsI.ind (fun l => (tidyU f l).length ≤ l.length) h ?_ ?_ ?_
  · exact Nat.le_refl _
  · intro c r h1 h2 _ ih
    rw [tidy_cons f c r h2]; simpa using ih
  · intro a b r ha hb _ ih
    rw [tidy_hex, List.length_append]
    have := sign_len f (twoU a b)
    simp only [List.length_cons]; omega
/-- Which bytes there are in it. -/
theorem tidy_mem (f : UInt8 → UInt8) (hf : FOk f) {l : List UInt8} (h : StandsI l) : ∀ c ∈ tidyU f l, (∃ d ∈ l, c = f d) ∨ plainU c = true ∨ c = 37 := by
  refine StandsI.ind (fun l => ∀ c ∈ tidyU f l, (∃ d ∈ l, c = f d) ∨ plainU c = true ∨ c = 37) h ?_ ?_ ?_
  · intro c hc; cases hc
  · intro d r h1 h2 _ ih
    intro c hc
    rw [tidy_cons f d r h2] at hc
    rcases List.mem_cons.1 hc with rfl | hc
    · exact .inl ⟨d, by simp, rfl⟩
    · rcases ih c hc with ⟨e, he, h3⟩ | h3
      · exact .inl ⟨e, by simp [he], h3⟩
      · exact .inr h3
  · intro a b r ha hb _ ih
    intro c hc
    rw [tidy_hex] at hc
    rcases List.mem_append.1 hc with hc | hc
    · right
      revert hc
      generalize twoU a b = v
      have hv := v.toNat_lt
      unfold signU
      split
      · rename_i h
        intro hc
        rw [List.mem_singleton] at hc
        rw [hc]
        exact .inl (hf.plain v h)
      · intro hc
        simp only [List.mem_cons, List.not_mem_nil, or_false] at hc
        rcases hc with rfl | rfl | rfl
        · exact .inr rfl
        · exact .inl (hexD_facts ⟨v.toNat / 16, by omega⟩).2.2.1
        · exact .inl (hexD_facts ⟨v.toNat % 16, by omega⟩).2.2.1
    · rcases ih c hc with ⟨e, he, h3⟩ | h3
      · exact .inl ⟨e, by simp [he], h3⟩
      · exact .inr h3
theorem plain_dels : ∀ n : Fin 256, plainU (UInt8.ofNat n.val) = true → UInt8.ofNat n.val ∉ ([47, 63, 35, 58, 64, 91, 93] : List UInt8) := by decide +kernel
/-- No sign is made that parts a URL. -/
theorem tidy_free (f : UInt8 → UInt8) (hf : FOk f) {l : List UInt8} (h : StandsI l) (d : UInt8) (hd : d ∈ ([47, 63, 35, 58, 64, 91, 93] : List UInt8)) (hl : d ∉ l) : d ∉ tidyU f l := fun hm => by
  rcases tidy_mem f hf h d hm with ⟨e, he, h3⟩ | h3 | h3
  · exact hl (hf.dels e d hd h3.symm ▸ he)
  · have := plain_dels ⟨d.toNat, d.toNat_lt⟩
    simp only [UInt8.ofNat_toNat] at this
    exact this h3 hd
  · subst h3
    revert hd
    decide
/-- What is in its normal form, cut at a slash. -/
theorem tidy_keep (f : UInt8 → UInt8) (l : List UInt8) (h : StandsI l ∧ tidyU f l = l) (h47 : f 47 = 47) : StandsI (dotsU l) ∧ tidyU f (dotsU l) = dotsU l := by
  refine dots_keep (fun a => StandsI a ∧ tidyU f a = a) ⟨.nil, rfl⟩ ⟨.byte 47 [] (by decide) (by decide) .nil, ?_⟩ (fun a b ha hb => ⟨ha.1.app hb.1, by rw [tidy_app f ha.1, ha.2, hb.2]⟩) (fun a b hh => ?_) (fun b hb => ⟨stands_tail 47 (by decide) b hb.1, ?_⟩) l h
  · show [f 47] = [47]
    rw [h47]
  · have h1 := stands_cut 47 (by decide) a.length a b (Nat.le_refl _) hh.1
    have h2 := hh.2
    rw [tidy_app f h1.1] at h2
    have l1 := tidy_len f h1.1
    have l2 := tidy_len f h1.2
    have l3 := congrArg List.length h2
    rw [List.length_append, List.length_append] at l3
    obtain ⟨e1, e2⟩ := List.append_inj h2 (by omega)
    exact ⟨⟨h1.1, e1⟩, ⟨h1.2, e2⟩⟩
  · have := hb.2
    rw [tidy_cons f 47 b (by decide), h47] at this
    exact (List.cons.inj this).2
end Go.Proofs.YtlblefcmilfjdaaGreatDoor
