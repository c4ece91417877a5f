
/- URLs in their parts: plain mathematics for layer 7 (no program in it). -/
import Derived.Below
namespace Go.Proofs.YtlblefcmilfjdaaGreatDoor
set_option linter.unusedVariables false
set_option linter.unusedSimpArgs false

/-- The parts of a URL. -/
structure UrlV where
  scheme : List UInt8
  user : List UInt8
  hasUser : Bool
  host : List UInt8
  port : List UInt8
  hasPort : Bool
  hasAuth : Bool
  path : List UInt8
  query : List UInt8
  hasQuery : Bool
  frag : List UInt8
  hasFrag : Bool
def zeroU : UrlV := ⟨[], [], false, [], [], false, false, [], [], false, [], false⟩
/-- Where the first of some bytes is; the length: there is none. -/
def findU (of l : List UInt8) : Nat := l.findIdx fun c => of.contains c
theorem findU_le (of l : List UInt8) : findU of l ≤ l.length := List.findIdx_le_length
theorem findU_at (of l : List UInt8) (h : findU of l < l.length) : of.contains (l.getD (findU of l) 0) = true := by
  have := List.findIdx_getElem (xs := l) (p := fun c => of.contains c) (w := h)
  rw [List.getD_eq_getElem?_getD, List.getElem?_eq_getElem h]
  exact this
theorem findU_ahead (of l : List UInt8) (j : Nat) (h : j < findU of l) : of.contains (l.getD j 0) = false := by
  have hl : j < l.length := Nat.lt_of_lt_of_le h (findU_le of l)
  have := List.not_of_lt_findIdx (xs := l) (p := fun c => of.contains c) h
  rw [List.getD_eq_getElem?_getD, List.getElem?_eq_getElem hl]
  simpa using this
/-- It is the first. -/
theorem findU_eq (of l : List UInt8) (k : Nat) (hk : k < l.length) (h : of.contains (l.getD k 0) = true) (ha : ∀ j, j < k → of.contains (l.getD j 0) = false) : findU of l = k := by
  rcases Nat.lt_trichotomy (findU of l) k with h1 | h1 | h1
  · have := findU_at of l (by omega)
    rw [ha _ h1] at this
    cases this
  · exact h1
  · rw [findU_ahead of l k h1] at h
    cases h
theorem findU_none (of l : List UInt8) (ha : ∀ j, j < l.length → of.contains (l.getD j 0) = false) : findU of l = l.length := by
  rcases Nat.lt_or_ge (findU of l) l.length with h | h
  · have := findU_at of l h
    rw [ha _ h] at this
    cases this
  · exact Nat.le_antisymm (findU_le of l) h
/-- The last b behind which nothing stops: what is ahead of it, what is behind. -/
def lastCut (b : UInt8) (stop : UInt8 → Bool) : List UInt8 → Option (List UInt8 × List UInt8)
  | [] => none
  | c :: r => match lastCut b stop r with
    | some (x, y) => some (c :: x, y)
    | none => if c == b && r.all fun d => !stop d then some ([], r) else none
theorem lastCut_app (b : UInt8) (stop : UInt8 → Bool) : ∀ (a x y : List UInt8), lastCut b stop a = some (x, y) → a = x ++ b :: y
  | [], x, y, h => by cases h
  | c :: r, x, y, h => by
    unfold lastCut at h
    cases hr : lastCut b stop r with
    | some p =>
      obtain ⟨x', y'⟩ := p
      rw [hr] at h
      simp only [Option.some.injEq, Prod.mk.injEq] at h
      obtain ⟨rfl, rfl⟩ := h
      rw [List.cons_append, ← lastCut_app b stop r x' y' hr]
    | none =>
      rw [hr] at h
      simp only at h
      split at h
      · rename_i hc
        simp only [Bool.and_eq_true, beq_iff_eq] at hc
        injection h with h
        injection h with h1 h2
        rw [← h1, ← h2, hc.1]
        rfl
      · cases h
theorem lastCut_no (b : UInt8) (stop : UInt8 → Bool) : ∀ a : List UInt8, b ∉ a → lastCut b stop a = none
  | [], _ => rfl
  | c :: r, h => by
    rw [List.mem_cons, not_or] at h
    unfold lastCut
    rw [lastCut_no b stop r h.2]
    have : (c == b) = false := by rw [beq_eq_false_iff_ne]; exact fun e => h.1 e.symm
    simp [this]
theorem lastCut_hit (b : UInt8) (stop : UInt8 → Bool) (y : List UInt8) (hy : b ∉ y) (hs : ∀ d ∈ y, stop d = false) : ∀ x : List UInt8, lastCut b stop (x ++ b :: y) = some (x, y)
  | [] => by
    show lastCut b stop (b :: y) = _
    unfold lastCut
    rw [lastCut_no b stop y hy]
    have : y.all (fun d => !stop d) = true := List.all_eq_true.2 fun d hd => by rw [hs d hd]; rfl
    simp [this]
  | c :: x => by
    rw [List.cons_append]
    unfold lastCut
    rw [lastCut_hit b stop y hy hs x]
/-- A stop behind which no b is: none is found. -/
theorem lastCut_stop (b c : UInt8) (stop : UInt8 → Bool) (hc : stop c = true) (hcb : c ≠ b) (y : List UInt8) (hy : b ∉ y) : ∀ x : List UInt8, lastCut b stop (x ++ c :: y) = none
  | [] => by
    show lastCut b stop (c :: y) = _
    unfold lastCut
    rw [lastCut_no b stop y hy]
    have : (c == b) = false := by rw [beq_eq_false_iff_ne]; exact hcb
    simp [this]
  | d :: x => by
    rw [List.cons_append]
    unfold lastCut
    rw [lastCut_stop b c stop hc hcb y hy x]
    have : (x ++ c :: y).all (fun d => !stop d) = false := by
      rw [List.all_eq_false]
      exact ⟨c, by simp, by rw [hc]; simp⟩
    simp [this]

def letterU (c : UInt8) : Bool := decide (97 ≤ c.toNat ∧ c.toNat ≤ 122) || decide (65 ≤ c.toNat ∧ c.toNat ≤ 90)
def digitU (c : UInt8) : Bool := decide (48 ≤ c.toNat ∧ c.toNat ≤ 57)
def hexU (c : UInt8) : Bool := digitU c || decide (97 ≤ c.toNat ∧ c.toNat ≤ 102) || decide (65 ≤ c.toNat ∧ c.toNat ≤ 70)
/-- May a byte stand in a URL, percent signs aside? -/
def byteU (c : UInt8) : Bool := decide (33 ≤ c.toNat ∧ c.toNat ≤ 126) && !([34, 60, 62, 92, 94, 123, 124, 125] : List UInt8).contains c && c != 96
/-- Two hexadecimal digits next? -/
def hexTwo : List UInt8 → Bool
  | a :: b :: _ => hexU a && hexU b
  | _ => false
def standsU : List UInt8 → Bool
  | [] => true
  | c :: r => byteU c && (c != 37 || hexTwo r) && standsU r
/-- The authority's parts. -/
def authU (a : List UInt8) (u : UrlV) : UrlV :=
  let (u, a) := match lastCut 64 (fun _ => false) a with
    | some (x, y) => ({ u with hasUser := true, user := x }, y)
    | none => (u, a)
  match lastCut 58 (fun c => c == 93) a with
  | some (x, y) => { u with hasPort := true, port := y, host := x }
  | none => { u with host := a }
/-- What is behind the authority. -/
def tailU (l : List UInt8) (u : UrlV) : UrlV :=
  let p := findU [63, 35] l
  let u := { u with path := l.take p }
  let r := l.drop p
  let (u, r) := if r.getD 0 0 = 63 then
      let q := r.drop 1
      let e := findU [35] q
      ({ u with hasQuery := true, query := q.take e }, q.drop e)
    else (u, r)
  if r = [] then u else { u with hasFrag := true, frag := r.drop 1 }
def joinU (u : UrlV) : List UInt8 :=
  (if u.scheme = [] then [] else u.scheme ++ [58]) ++ (if u.hasAuth then [47, 47] else []) ++ (if u.hasUser then u.user ++ [64] else []) ++ u.host ++ (if u.hasPort then 58 :: u.port else []) ++ u.path ++ (if u.hasQuery then 63 :: u.query else []) ++ (if u.hasFrag then 35 :: u.frag else [])
/-- What follows the authority, put together again. -/
theorem tail_join (l : List UInt8) (u : UrlV) (hp : u.path = []) (hq : u.hasQuery = false) (hf : u.hasFrag = false) :
    (tailU l u).path ++ (if (tailU l u).hasQuery then 63 :: (tailU l u).query else []) ++ (if (tailU l u).hasFrag then 35 :: (tailU l u).frag else []) = l
    ∧ (tailU l u).scheme = u.scheme ∧ (tailU l u).hasAuth = u.hasAuth ∧ (tailU l u).hasUser = u.hasUser ∧ (tailU l u).user = u.user ∧ (tailU l u).host = u.host ∧ (tailU l u).hasPort = u.hasPort ∧ (tailU l u).port = u.port := by
  have hl : l = l.take (findU [63, 35] l) ++ l.drop (findU [63, 35] l) := (List.take_append_drop _ _).symm
  unfold tailU
  simp only
  by_cases h63 : (l.drop (findU [63, 35] l)).getD 0 0 = 63
  · simp only [if_pos h63]
    have hne : l.drop (findU [63, 35] l) ≠ [] := fun e => by rw [e] at h63; cases h63
    obtain ⟨c, r, hr⟩ := List.exists_cons_of_ne_nil hne
    rw [hr] at h63 hl
    have hc : c = 63 := h63
    subst hc
    rw [hr, List.drop_one, List.tail_cons]
    have hq2 : r = r.take (findU [35] r) ++ r.drop (findU [35] r) := (List.take_append_drop _ _).symm
    by_cases h0 : r.drop (findU [35] r) = []
    · simp only [if_pos h0]
      refine ⟨?_, by first | rfl | trivial, by first | rfl | trivial, by first | rfl | trivial, by first | rfl | trivial, by first | rfl | trivial, by first | rfl | trivial, by first | rfl | trivial⟩
      rw [h0, List.append_nil] at hq2
      simp only [hf, if_true, Bool.false_eq_true, if_false, List.append_nil]
      rw [← hq2]
      exact hl.symm
    · simp only [if_neg h0]
      refine ⟨?_, by first | rfl | trivial, by first | rfl | trivial, by first | rfl | trivial, by first | rfl | trivial, by first | rfl | trivial, by first | rfl | trivial, by first | rfl | trivial⟩
      obtain ⟨d, t, ht⟩ := List.exists_cons_of_ne_nil h0
      have hlt : findU [35] r < r.length := by
        rcases Nat.lt_or_ge (findU [35] r) r.length with h | h
        · exact h
        · exact absurd (List.drop_eq_nil_of_le h) h0
      have hd := findU_at [35] r hlt
      have hd2 : r.getD (findU [35] r) 0 = d := by
        have : (r.drop (findU [35] r))[0]? = some d := by rw [ht]; rfl
        rw [List.getElem?_drop, Nat.add_zero] at this
        rw [List.getD_eq_getElem?_getD, this]; rfl
      rw [hd2] at hd
      have hd3 : d = 35 := by simpa using hd
      simp only [if_true]
      rw [ht, hd3] at hq2
      rw [ht, List.drop_one, List.tail_cons]
      conv => rhs; rw [hl, hq2]
      simp
  · simp only [if_neg h63]
    by_cases h0 : l.drop (findU [63, 35] l) = []
    · simp only [if_pos h0]
      refine ⟨?_, by first | rfl | trivial, by first | rfl | trivial, by first | rfl | trivial, by first | rfl | trivial, by first | rfl | trivial, by first | rfl | trivial, by first | rfl | trivial⟩
      rw [h0, List.append_nil] at hl
      simp only [hf, hq, Bool.false_eq_true, if_false, List.append_nil]
      exact hl.symm
    · simp only [if_neg h0]
      refine ⟨?_, by first | rfl | trivial, by first | rfl | trivial, by first | rfl | trivial, by first | rfl | trivial, by first | rfl | trivial, by first | rfl | trivial, by first | rfl | trivial⟩
      obtain ⟨d, t, ht⟩ := List.exists_cons_of_ne_nil h0
      have hlt : findU [63, 35] l < l.length := by
        rcases Nat.lt_or_ge (findU [63, 35] l) l.length with h | h
        · exact h
        · exact absurd (List.drop_eq_nil_of_le h) h0
      have hd := findU_at [63, 35] l hlt
      have hd2 : l.getD (findU [63, 35] l) 0 = d := by
        have : (l.drop (findU [63, 35] l))[0]? = some d := by rw [ht]; rfl
        rw [List.getElem?_drop, Nat.add_zero] at this
        rw [List.getD_eq_getElem?_getD, this]; rfl
      rw [hd2] at hd
      rw [ht] at h63
      have hd3 : d = 35 := by
        have h1 : d ≠ 63 := h63
        simp at hd
        rcases hd with h | h
        · exact absurd h h1
        · exact h
      simp only [hq, Bool.false_eq_true, if_false, List.append_nil, if_true]
      rw [ht, List.drop_one, List.tail_cons]
      conv => rhs; rw [hl, ht, hd3]
end Go.Proofs.YtlblefcmilfjdaaGreatDoor
