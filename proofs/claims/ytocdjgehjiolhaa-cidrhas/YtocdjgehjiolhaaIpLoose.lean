
/- Addresses written loosely: plain mathematics. -/
import Derived.Test.YtocdjgehjiolhaaIpRound
namespace Go.Proofs.Ytocdjgehjiolhaa
set_option linter.unusedSimpArgs false
set_option linter.unusedVariables false

/-- A part that is written loosely; -1: it is none. -/
def partA (x : List UInt8) : Int :=
  if 2 ≤ x.length ∧ x.getD 0 0 = 48 ∧ (x.getD 1 0 = 120 ∨ x.getD 1 0 = 88) then (if x.length = 2 then 0 else num 16 (x.drop 2))
  else if 2 ≤ x.length ∧ x.getD 0 0 = 48 then num 8 x
  else num 10 x
/-- The parts but the last, as a number; none: one is none. -/
def allTo (P : List (List UInt8)) : Nat → Option Int
  | 0 => some 0
  | k + 1 => match allTo P k with
    | none => none
    | some n => if partA (P.getD k []) < 0 ∨ 255 < partA (P.getD k []) then none else some (n * 256 + partA (P.getD k []))
def trimDot (l : List UInt8) : List UInt8 := if l.getLast? = some 46 then l.dropLast else l
def looseP (P : List (List UInt8)) : Option (List UInt8) :=
  if 4 < P.length then none
  else match allTo P (P.length - 1) with
    | none => none
    | some n => if partA (P.getD (P.length - 1) []) < 0 ∨ 256 ^ (5 - P.length) ≤ partA (P.getD (P.length - 1) []) then none
      else some (v4B (n * 256 ^ (5 - P.length) + partA (P.getD (P.length - 1) [])).toNat)
/-- One of IPv4, written loosely. -/
def looseA (l : List UInt8) : Option (List UInt8) := looseP (cutL 46 (trimDot l))

theorem num_no (base : Nat) (x : List UInt8) (c : UInt8) (hc : c ∈ x) (hd : ¬ dig c < base) : num base x = -1 := by
  unfold num
  rw [if_neg]
  intro h
  unfold isNum at h
  simp only [Bool.and_eq_true, List.all_eq_true, decide_eq_true_eq] at h
  exact hd (h.2 c hc)
theorem part_colon (x : List UInt8) (hc : (58 : UInt8) ∈ x) : partA x = -1 := by
  unfold partA
  have h58 : ∀ b, b ≤ 16 → ¬ dig 58 < b := fun b hb h => by
    have : dig 58 = 99 := by decide
    omega
  split
  · rename_i h
    obtain ⟨h1, h2, h3⟩ := h
    match x, h1, h2, h3, hc with
    | a :: b :: r, _, h2, h3, hc =>
      have ha : a = 48 := by simpa using h2
      have hb : b = 120 ∨ b = 88 := by simpa using h3
      have hr : (58 : UInt8) ∈ r := by
        simp only [List.mem_cons] at hc
        rcases hc with h | h | h
        · rw [ha] at h; exact absurd h (by decide)
        · rcases hb with e | e <;> (rw [e] at h; exact absurd h (by decide))
        · exact h
      have hl : ¬ (a :: b :: r).length = 2 := by
        cases r with
        | nil => simp at hr
        | cons z s => simp
      rw [if_neg hl]
      exact num_no 16 _ 58 (by simpa using hr) (h58 16 (by omega))
  · split
    · exact num_no 8 x 58 hc (h58 8 (by omega))
    · exact num_no 10 x 58 hc (h58 10 (by omega))
theorem cut_mem (b c : UInt8) (hbc : c ≠ b) : ∀ l : List UInt8, c ∈ l → ∃ x ∈ cutL b l, c ∈ x
  | [], h => by simp at h
  | d :: r, h => by
    have hne := cutL_pos b r
    unfold cutL
    by_cases hd : d = b
    · rw [if_pos hd]
      have hr : c ∈ r := by
        rcases List.mem_cons.1 h with e | e
        · exact absurd (e.trans hd) hbc
        · exact e
      obtain ⟨x, hx, hcx⟩ := cut_mem b c hbc r hr
      exact ⟨x, by simp [hx], hcx⟩
    · rw [if_neg hd]
      rcases List.mem_cons.1 h with e | e
      · exact ⟨d :: (cutL b r).headD [], by simp, by simp [e]⟩
      · obtain ⟨x, hx, hcx⟩ := cut_mem b c hbc r e
        cases hcl : cutL b r with
        | nil => rw [hcl] at hne; simp at hne
        | cons y s =>
          rw [hcl] at hx
          rcases List.mem_cons.1 hx with e2 | e2
          · exact ⟨d :: y, by simp, by rw [← e2]; simp [hcx]⟩
          · exact ⟨x, by simp [e2], hcx⟩
theorem allTo_part (P : List (List UInt8)) : ∀ k n, allTo P k = some n → ∀ j, j < k → 0 ≤ partA (P.getD j [])
  | 0, n, _, j, hj => absurd hj (by omega)
  | k + 1, n, h, j, hj => by
    rw [allTo] at h
    cases hk : allTo P k with
    | none => rw [hk] at h; cases h
    | some m =>
      rw [hk] at h
      simp only at h
      split at h
      · cases h
      · rename_i hc
        rcases Nat.lt_or_ge j k with h1 | h1
        · exact allTo_part P k m hk j h1
        · have : j = k := by omega
          rw [this]
          omega
/-- With a colon it is none. -/
theorem loose_colon (l : List UInt8) (h : (58 : UInt8) ∈ l) : looseA l = none := by
  have h1 : (58 : UInt8) ∈ trimDot l := by
    unfold trimDot
    split
    · rename_i he
      obtain ⟨ys, rfl⟩ := List.getLast?_eq_some_iff.1 he
      rcases List.mem_append.1 h with h | h
      · simpa using h
      · simp at h
    · exact h
  obtain ⟨x, hx, hcx⟩ := cut_mem 46 58 (by decide) _ h1
  obtain ⟨j, hj, hjx⟩ := List.mem_iff_getElem.1 hx
  have hp : partA ((cutL 46 (trimDot l)).getD j []) = -1 := by
    rw [List.getD_eq_getElem?_getD, List.getElem?_eq_getElem hj, Option.getD_some, hjx]
    exact part_colon x hcx
  unfold looseA looseP
  generalize cutL 46 (trimDot l) = P at hj hp
  split
  · rfl
  · cases ha : allTo P (P.length - 1) with
    | none => rfl
    | some n =>
      simp only
      rcases Nat.lt_or_ge j (P.length - 1) with h2 | h2
      · have := allTo_part P _ n ha j h2
        rw [hp] at this
        omega
      · have : j = P.length - 1 := by omega
        rw [← this, hp, if_pos (by omega)]

theorem cut_snoc (b : UInt8) : ∀ ys : List UInt8, cutL b (ys ++ [b]) = cutL b ys ++ [[]]
  | [] => by simp [cutL]
  | c :: r => by
    have ih := cut_snoc b r
    have hne := cutL_pos b r
    cases hcl : cutL b r with
    | nil => rw [hcl] at hne; simp at hne
    | cons y s =>
      rw [hcl] at ih
      simp only [List.cons_append, cutL, ih, hcl]
      split <;> simp
theorem trim_same (l : List UInt8) (h : (cutL 46 l).getLast? ≠ some []) : trimDot l = l := by
  unfold trimDot
  rw [if_neg]
  intro he
  obtain ⟨ys, rfl⟩ := List.getLast?_eq_some_iff.1 he
  rw [cut_snoc] at h
  simp at h
theorem part_ok (x : List UInt8) (h : okFour x = true) : partA x = num 10 x ∧ 0 ≤ num 10 x ∧ num 10 x ≤ 255 ∧ x ≠ [] := by
  unfold okFour at h
  simp only [Bool.and_eq_true, decide_eq_true_eq, Bool.not_eq_true', Bool.and_eq_false_iff, decide_eq_false_iff_not] at h
  obtain ⟨⟨h1, h2⟩, h3⟩ := h
  have hne : x ≠ [] := fun e => by rw [e] at h1; exact absurd h1 (by decide)
  have hhd : ¬ (2 ≤ x.length ∧ x.getD 0 0 = 48) := fun ⟨e1, e2⟩ => by
    rcases h3 with h3 | h3
    · omega
    · cases x with
      | nil => exact hne rfl
      | cons c r => exact h3 (by simpa using e2)
  refine ⟨?_, h1, h2, hne⟩
  unfold partA
  rw [if_neg (fun e => hhd ⟨e.1, e.2.1⟩), if_neg hhd]
/-- What is written strictly is read loosely alike. -/
theorem loose_four (l : List UInt8) (h : 0 ≤ four l) : looseA l = some (v4B (four l).toNat) := by
  unfold four at h ⊢
  split at h
  · rename_i a b c d hc
    split at h
    · rename_i hok
      simp only [Bool.and_eq_true] at hok
      obtain ⟨⟨⟨ha, hb⟩, hc'⟩, hd⟩ := hok
      obtain ⟨pa, a0, a1, _⟩ := part_ok a ha
      obtain ⟨pb, b0, b1, _⟩ := part_ok b hb
      obtain ⟨pc, c0, c1, _⟩ := part_ok c hc'
      obtain ⟨pd, d0, d1, dn⟩ := part_ok d hd
      have ht := trim_same l (by rw [hc]; simpa using dn)
      unfold looseA looseP
      rw [ht, hc]
      have e0 : ([a, b, c, d] : List (List UInt8)).getD 0 [] = a := rfl
      have e1 : ([a, b, c, d] : List (List UInt8)).getD 1 [] = b := rfl
      have e2 : ([a, b, c, d] : List (List UInt8)).getD 2 [] = c := rfl
      have e3 : ([a, b, c, d] : List (List UInt8)).getD 3 [] = d := rfl
      have s1 : allTo [a, b, c, d] 1 = some (num 10 a) := by
        rw [allTo, allTo]
        simp only [e0, pa]
        rw [if_neg (by omega)]
        simp
      have s2 : allTo [a, b, c, d] 2 = some (num 10 a * 256 + num 10 b) := by
        rw [allTo, s1]
        simp only [e1, pb]
        rw [if_neg (by omega)]
      have s3 : allTo [a, b, c, d] 3 = some ((num 10 a * 256 + num 10 b) * 256 + num 10 c) := by
        rw [allTo, s2]
        simp only [e2, pc]
        rw [if_neg (by omega)]
      rw [show ([a, b, c, d] : List (List UInt8)).length = 4 from rfl, if_neg (by omega), show (4 : Nat) - 1 = 3 from rfl, s3]
      simp only [e3, pd]
      rw [if_neg (by simp; omega)]
      simp [ha, hb, hc', hd]
    · exact absurd h (by decide)
  · exact absurd h (by decide)
/-- What is read strictly and loosely is read alike. -/
theorem loose_parse (l B : List UInt8) (r : Bool × List UInt8) (hl : looseA l = some B) (hp : parseA l = some r) : r = (false, B) := by
  unfold parseA at hp
  by_cases h4 : 0 ≤ four l
  · rw [if_pos h4] at hp
    rw [loose_four l h4] at hl
    cases hl
    cases hp
    rfl
  · exfalso
    rw [if_neg h4] at hp
    by_cases h58 : (58 : UInt8) ∈ l
    · rw [loose_colon l h58] at hl; cases hl
    · rw [cut_none 58 l h58] at hp
      cases hg : grp [l] with
      | none => rw [hg] at hp; cases hp
      | some g =>
        rw [hg] at hp
        simp only at hp
        rw [if_pos (.inl (by simp))] at hp
        cases hp
/-- A number, written so. -/
def formB (kind n : Nat) : List UInt8 := if kind % 3 = 1 then 48 :: digs 8 n else if kind % 3 = 2 then 48 :: 120 :: digs 16 n else digs 10 n
theorem valB_zero (base : Nat) (r : List UInt8) : valB base (48 :: r) = valB base r := by
  unfold valB
  have : dig 48 = 0 := by decide
  simp [this]
theorem form_part (kind n : Nat) (h : n < 4294967296) : partA (formB kind n) = (n : Int) := by
  unfold formB
  split
  · have hne := digs_ne 8 n (by omega) (by omega)
    cases hd : digs 8 n with
    | nil => exact absurd hd hne
    | cons c r =>
      have hc := digsF_all 8 (by omega) (by omega) 20 n c (by show c ∈ digs 8 n; rw [hd]; simp)
      unfold partA
      have hx : ¬ (2 ≤ (48 :: c :: r).length ∧ (48 :: c :: r).getD 0 0 = 48 ∧ ((48 :: c :: r).getD 1 0 = 120 ∨ (48 :: c :: r).getD 1 0 = 88)) := fun ⟨_, _, e⟩ => by
        have e' : c = 120 ∨ c = 88 := by simpa using e
        have h1 := hc.1
        rcases e' with e | e <;> (rw [e] at h1; exact absurd h1 (by decide))
      rw [if_neg hx, if_pos ⟨by simp, by simp⟩, ← hd]
      have hv := digs_num 8 n (by omega) (by omega) (by omega) (by omega)
      unfold num at hv ⊢
      rw [valB_zero]
      have hi : isNum 8 (48 :: digs 8 n) = isNum 8 (digs 8 n) := by
        unfold isNum
        rw [hd]
        have : decide (dig 48 < 8) = true := by decide
        simp [this]
      rw [hi]
      exact hv
  · split
    · have hne := digs_ne 16 n (by omega) (by omega)
      unfold partA
      rw [if_pos ⟨by simp, by simp, by simp⟩, if_neg (by cases hd : digs 16 n with
        | nil => exact absurd hd hne
        | cons c r => simp)]
      exact digs_num 16 n (by omega) (by omega) (by omega) (by omega)
    · unfold partA
      have hx : ¬ (2 ≤ (digs 10 n).length ∧ (digs 10 n).getD 0 0 = 48) := fun ⟨e1, e2⟩ => by
        by_cases h0 : n = 0
        · subst h0; exact absurd e1 (by decide)
        · have := digsF_head 10 (by omega) (by omega) 19 n (by omega) (by omega)
          apply this
          show (digs 10 n).headD 0 = 48
          cases hd : digs 10 n with
          | nil => rw [hd] at e1; simp at e1
          | cons c r => rw [hd] at e2; simpa using e2
      rw [if_neg (fun e => hx ⟨e.1, e.2.1⟩), if_neg hx]
      exact digs_num 10 n (by omega) (by omega) (by omega) (by omega)
theorem form_46 (kind n : Nat) : (46 : UInt8) ∉ formB kind n := by
  unfold formB
  split
  · simp only [List.mem_cons, not_or]; exact ⟨by decide, digs_46 8 n (by omega) (by omega)⟩
  · split
    · simp only [List.mem_cons, not_or]; exact ⟨by decide, by decide, digs_46 16 n (by omega) (by omega)⟩
    · exact digs_46 10 n (by omega) (by omega)
theorem form_ne (kind n : Nat) : formB kind n ≠ [] := by
  unfold formB
  split
  · simp
  · split
    · simp
    · exact digs_ne 10 n (by omega) (by omega)
theorem loose_join (P : List (List UInt8)) (h0 : P ≠ []) (h46 : ∀ x ∈ P, (46 : UInt8) ∉ x) (hne : ∀ x ∈ P, x ≠ []) : looseA (joinL 46 P) = looseP P := by
  have hc := cut_join 46 P h0 h46
  unfold looseA
  rw [trim_same (joinL 46 P) (by
    rw [hc]
    intro e
    obtain ⟨ys, rfl⟩ := List.getLast?_eq_some_iff.1 e
    exact hne [] (by simp) rfl), hc]

end Go.Proofs.Ytocdjgehjiolhaa
