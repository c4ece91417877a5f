
/- Values of JSON as trees, and how a text is read as one: mathematics (no program in it). -/
import Derived.Test.YtlgkbdebpnbndaaGreatDoorXmBook
namespace Go.Proofs.YtlgkbdebpnbndaaGreatDoor
set_option linter.unusedVariables false
set_option linter.unusedSimpArgs false

/-- A value but for those within: kind, number, text, names. -/
abbrev LabJ := Int × Int × List UInt8 × List (List UInt8)
def VJ : Nat → Type
  | 0 => LabJ
  | d + 1 => LabJ × List (VJ d)
def labJ : (d : Nat) → VJ d → LabJ
  | 0, t => t
  | _ + 1, t => t.1
def leafJ : (d : Nat) → LabJ → VJ d
  | 0, l => l
  | _ + 1, l => (l, [])
def kidsJ : (d : Nat) → VJ d → List (VJ (d - 1))
  | 0, _ => []
  | _ + 1, t => t.2
def zeroL : LabJ := (0, 0, [], [])
def zeroJ (d : Nat) : VJ d := leafJ d zeroL
theorem labJ_leaf (d : Nat) (l : LabJ) : labJ d (leafJ d l) = l := by cases d <;> rfl
theorem kidsJ_leaf (d : Nat) (l : LabJ) : kidsJ d (leafJ d l) = [] := by cases d <;> rfl

/-! ### Parts of a text -/
def begJ (c : UInt8) : Bool := ([110, 116, 102, 45, 48, 49, 50, 51, 52, 53, 54, 55, 56, 57, 34, 91, 123] : List UInt8).contains c
def cntJ (l : List UInt8) (n : Nat) : Except Nat Nat := match l with
  | [] => .ok n
  | c :: _ => if begJ c then (if n + 1 ≤ 8192 then .ok (n + 1) else .error 3) else .ok n
/-- Four digits. -/
def fourJ (l : List UInt8) : Option (Nat × List UInt8) :=
  if l.length < 4 then none else if okD 16 (l.take 4) then some (numE 16 (l.take 4), l.drop 4) else none
def pairJ (a b : Nat) : Nat := 65536 + (a - 55296) * 1024 + (b - 56320)
/-- What stands behind a backslash and a u. -/
def uniJ (l : List UInt8) : Option (Nat × List UInt8) := match fourJ l with
  | none => none
  | some (a, r) => if a < 55296 ∨ 57344 ≤ a then some (a, r)
    else if preX [92, 117] r then (match fourJ (r.drop 2) with
      | none => none
      | some (b, r2) => if 56320 ≤ a ∨ b < 56320 ∨ 57344 ≤ b then none else some (pairJ a b, r2))
    else none
def plainE (c : UInt8) : Option Nat :=
  if c = 34 then some 34 else if c = 92 then some 92 else if c = 47 then some 47 else if c = 98 then some 8 else if c = 102 then some 12 else if c = 110 then some 10 else if c = 114 then some 13 else if c = 116 then some 9 else none
/-- What stands behind a backslash. -/
def escJ (l : List UInt8) : Option (Nat × List UInt8) := match l with
  | [] => none
  | c :: r => if c = 117 then uniJ r else (plainE c).map fun n => (n, r)
/-- A text, behind its quote. -/
def strL : Nat → List UInt8 → List UInt8 → Option (List UInt8 × List UInt8)
  | 0, _, _ => none
  | f + 1, out, l => match l with
    | [] => none
    | c :: r => if c = 34 then some (out, r) else if c = 92 then (match escJ r with
        | none => none
        | some (v, r2) => strL f (out ++ encL v) r2)
      else if c.toNat < 32 then none else strL f (out ++ [c]) r
def strW (out l : List UInt8) : Option (List UInt8 × List UInt8) := strL (l.length + 1) out l
def digJ (c : UInt8) : Bool := decide (48 ≤ c.toNat ∧ c.toNat ≤ 57)
def decJ (l : List UInt8) : Nat := l.foldl (fun a c => a * 10 + (c.toNat - 48)) 0
def intJ (l : List UInt8) : Option (List UInt8 × List UInt8) :=
  if preX [48] l then some ([48], l.drop 1) else if (l.takeWhile digJ).isEmpty then none else some (l.takeWhile digJ, l.dropWhile digJ)
/-- Digits, one at least: what is behind them. -/
def digsJ (l : List UInt8) : Option (List UInt8) := if (l.takeWhile digJ).isEmpty then none else some (l.dropWhile digJ)
def fracJ (l : List UInt8) : Option (Bool × List UInt8) :=
  if preX [46] l then (digsJ (l.drop 1)).map fun r => (true, r) else some (false, l)
def signJ (l : List UInt8) : List UInt8 := if preX [43] l then l.drop 1 else if preX [45] l then l.drop 1 else l
def expJ (l : List UInt8) : Option (Bool × List UInt8) :=
  if preX [101] l || preX [69] l then (digsJ (signJ (l.drop 1))).map fun r => (true, r) else some (false, l)
def fitsJ (v : Int) : Bool := decide (-9223372036854775808 ≤ v ∧ v ≤ 9223372036854775807)
def minJ (l : List UInt8) : List UInt8 := if preX [45] l then l.drop 1 else l
def numJ (l : List UInt8) : Except Nat (Int × List UInt8) := match intJ (minJ l) with
  | none => .error 5
  | some (ds, l2) => match fracJ l2 with
    | none => .error 5
    | some (f, l3) => match expJ l3 with
      | none => .error 5
      | some (g, l4) => if f || g then .error 1 else if fitsJ (if preX [45] l then -(decJ ds : Int) else decJ ds) then .ok (if preX [45] l then -(decJ ds : Int) else decJ ds, l4) else .error 1

/-! ### Values -/
section
variable {α : Type}
def lstL (el : List UInt8 → Nat → Except Nat (α × List UInt8 × Nat)) : Nat → List α → List UInt8 → Nat → Except Nat (List α × List UInt8 × Nat)
  | 0, _, _, _ => .error 99
  | f + 1, ks, l, n => match el l n with
    | .error e => .error e
    | .ok (v, l2, n2) => if preX [93] (l2.dropWhile whX) then .ok (ks ++ [v], (l2.dropWhile whX).drop 1, n2)
      else if preX [44] (l2.dropWhile whX) then lstL el f (ks ++ [v]) ((l2.dropWhile whX).drop 1) n2 else .error 5
def lstW (el : List UInt8 → Nat → Except Nat (α × List UInt8 × Nat)) (ks : List α) (l : List UInt8) (n : Nat) := lstL el (l.length + 1) ks l n
/-- A list, behind its bracket. -/
def lstJ (el : List UInt8 → Nat → Except Nat (α × List UInt8 × Nat)) (l : List UInt8) (n : Nat) : Except Nat (List α × List UInt8 × Nat) :=
  if preX [93] (l.dropWhile whX) then .ok ([], (l.dropWhile whX).drop 1, n) else lstW el [] (l.dropWhile whX) n
/-- A name, and the colon. -/
def nameJ (ns : List (List UInt8)) (l : List UInt8) : Option (List UInt8 × List UInt8) :=
  if preX [34] (l.dropWhile whX) then (match strW [] ((l.dropWhile whX).drop 1) with
    | none => none
    | some (s, r) => if ns.contains s then none else if preX [58] (r.dropWhile whX) then some (s, (r.dropWhile whX).drop 1) else none)
  else none
def objL (el : List UInt8 → Nat → Except Nat (α × List UInt8 × Nat)) : Nat → List (List UInt8) → List α → List UInt8 → Nat → Except Nat (List (List UInt8) × List α × List UInt8 × Nat)
  | 0, _, _, _, _ => .error 99
  | f + 1, ns, ks, l, n => match nameJ ns l with
    | none => .error 5
    | some (s, l1) => match el l1 n with
      | .error e => .error e
      | .ok (v, l2, n2) => if preX [125] (l2.dropWhile whX) then .ok (ns ++ [s], ks ++ [v], (l2.dropWhile whX).drop 1, n2)
        else if preX [44] (l2.dropWhile whX) then objL el f (ns ++ [s]) (ks ++ [v]) ((l2.dropWhile whX).drop 1) n2 else .error 5
def objW (el : List UInt8 → Nat → Except Nat (α × List UInt8 × Nat)) (ns : List (List UInt8)) (ks : List α) (l : List UInt8) (n : Nat) := objL el (l.length + 1) ns ks l n
def objJ (el : List UInt8 → Nat → Except Nat (α × List UInt8 × Nat)) (l : List UInt8) (n : Nat) : Except Nat (List (List UInt8) × List α × List UInt8 × Nat) :=
  if preX [125] (l.dropWhile whX) then .ok ([], [], (l.dropWhile whX).drop 1, n) else objW el [] [] (l.dropWhile whX) n
def nullN : List UInt8 := [110, 117, 108, 108]
def trueN : List UInt8 := [116, 114, 117, 101]
def falsN : List UInt8 := [102, 97, 108, 115, 101]
/-- What begins here; the count is done. -/
def atomJ (leaf : LabJ → α) (nest : Bool → List UInt8 → Nat → Except Nat (α × List UInt8 × Nat)) (l : List UInt8) (m : Nat) : Except Nat (α × List UInt8 × Nat) :=
  if preX nullN l then .ok (leaf (0, 0, [], []), l.drop 4, m)
  else if preX trueN l then .ok (leaf (1, 1, [], []), l.drop 4, m)
  else if preX falsN l then .ok (leaf (1, 0, [], []), l.drop 5, m)
  else if preX [34] l then (match strW [] (l.drop 1) with
    | none => .error 5
    | some (s, r) => .ok (leaf (3, 0, s, []), r, m))
  else if preX [91] l then nest false (l.drop 1) m
  else if preX [123] l then nest true (l.drop 1) m
  else (match numJ l with
    | .error e => .error e
    | .ok (v, r) => .ok (leaf (2, v, [], []), r, m))
def topJ (leaf : LabJ → α) (nest : Bool → List UInt8 → Nat → Except Nat (α × List UInt8 × Nat)) (l : List UInt8) (n : Nat) : Except Nat (α × List UInt8 × Nat) :=
  match cntJ (l.dropWhile whX) n with
  | .error e => .error e
  | .ok m => atomJ leaf nest (l.dropWhile whX) m
end
def nestJ (d lev : Nat) (el : List UInt8 → Nat → Except Nat (VJ d × List UInt8 × Nat)) (ob : Bool) (l : List UInt8) (m : Nat) : Except Nat (VJ (d + 1) × List UInt8 × Nat) :=
  if 16 < lev + 1 then .error 9 else if ob then (match objJ el l m with
    | .error e => .error e
    | .ok (ns, ks, r, m2) => .ok (((5, 0, [], ns), ks), r, m2))
  else (match lstJ el l m with
    | .error e => .error e
    | .ok (ks, r, m2) => .ok (((4, 0, [], []), ks), r, m2))
def valJ : (d : Nat) → Nat → List UInt8 → Nat → Except Nat (VJ d × List UInt8 × Nat)
  | 0, lev, l, n => topJ (leafJ 0) (fun _ _ _ => if 16 < lev + 1 then .error 9 else .error 98) l n
  | d + 1, lev, l, n => topJ (leafJ (d + 1)) (nestJ d lev (valJ d (lev + 1))) l n
/-- A whole text. -/
def parJ (s : List UInt8) : Except Nat (VJ 40) :=
  if 65536 < s.length then .error 3 else if !V s then .error 5 else
  match valJ 40 0 s 0 with
  | .error e => .error e
  | .ok (t, l, _) => if (l.dropWhile whX).isEmpty then .ok t else .error 5

/-! ### What is left grows shorter -/
theorem drop_lt {p l : List UInt8} (h : preX p l = true) (hp : p ≠ []) : (l.drop p.length).length < l.length := (pre_drop h hp).2
theorem drop_one {c : UInt8} {l : List UInt8} (h : preX [c] l = true) : (l.drop 1).length < l.length := (pre_drop h (by simp)).2
theorem four_len {l r : List UInt8} {n : Nat} (h : fourJ l = some (n, r)) : r.length + 4 = l.length := by
  unfold fourJ at h
  split at h
  · cases h
  · rename_i hl
    split at h
    · injection h with h
      injection h with _ h
      subst h
      rw [List.length_drop]
      omega
    · cases h
theorem uni_len {l r : List UInt8} {n : Nat} (h : uniJ l = some (n, r)) : r.length < l.length := by
  unfold uniJ at h
  split at h
  · cases h
  · rename_i a r1 h4
    have := four_len h4
    split at h
    · injection h with h
      injection h with _ h
      subst h
      omega
    · split at h
      · split at h
        · cases h
        · rename_i b r2 h5
          have h6 := four_len h5
          rw [List.length_drop] at h6
          split at h
          · cases h
          · injection h with h
            injection h with _ h
            subst h
            omega
      · cases h
theorem esc_len {l r : List UInt8} {n : Nat} (h : escJ l = some (n, r)) : r.length < l.length := by
  unfold escJ at h
  split at h
  · cases h
  · rename_i c r1
    split at h
    · have := uni_len h
      rw [List.length_cons]
      omega
    · cases hp : plainE c with
      | none => rw [hp] at h; cases h
      | some v =>
        rw [hp] at h
        injection h with h
        injection h with _ h
        subst h
        simp
theorem strL_fuel : ∀ (n f g : Nat) (out l : List UInt8), l.length ≤ n → l.length < f → l.length < g → strL f out l = strL g out l
  | n, 0, _, _, _, _, h, _ => by omega
  | n, _ + 1, 0, _, _, _, _, h => by omega
  | n, f + 1, g + 1, out, [], _, _, _ => rfl
  | 0, f + 1, g + 1, out, c :: r, h, _, _ => by simp at h
  | n + 1, f + 1, g + 1, out, c :: r, h0, h1, h2 => by
    simp only [List.length_cons] at h0 h1 h2
    simp only [strL]
    split
    · rfl
    · split
      · cases he : escJ r with
        | none => rfl
        | some q =>
          have := esc_len (n := q.1) (r := q.2) he
          exact strL_fuel n f g _ q.2 (by omega) (by omega) (by omega)
      · split
        · rfl
        · exact strL_fuel n f g _ r (by omega) (by omega) (by omega)
theorem strW_nil (out : List UInt8) : strW out [] = none := rfl
theorem strW_cons (out : List UInt8) (c : UInt8) (r : List UInt8) : strW out (c :: r) = if c = 34 then some (out, r) else if c = 92 then (match escJ r with
        | none => none
        | some (v, r2) => strW (out ++ encL v) r2)
      else if c.toNat < 32 then none else strW (out ++ [c]) r := by
  have e : strW out (c :: r) = strL ((c :: r).length + 1) out (c :: r) := rfl
  rw [e, strL]
  by_cases h1 : c = 34
  · rw [if_pos h1, if_pos h1]
  · rw [if_neg h1, if_neg h1]
    by_cases h2 : c = 92
    · rw [if_pos h2, if_pos h2]
      cases he : escJ r with
      | none => rfl
      | some q =>
        obtain ⟨v, r2⟩ := q
        have := esc_len he
        exact strL_fuel r.length _ _ _ r2 (by omega) (by simp only [List.length_cons]; omega) (by omega)
    · rw [if_neg h2, if_neg h2]
      rfl
theorem str_len : ∀ (n : Nat) (out l s r : List UInt8), l.length ≤ n → strW out l = some (s, r) → r.length < l.length
  | n, out, [], s, r, _, h => by cases h
  | 0, out, c :: r0, s, r, h0, h => by simp at h0
  | n + 1, out, c :: r0, s, r, h0, h => by
    simp only [List.length_cons] at h0 ⊢
    rw [strW_cons] at h
    split at h
    · injection h with h
      injection h with _ h
      subst h
      omega
    · split at h
      · cases he : escJ r0 with
        | none => rw [he] at h; cases h
        | some q =>
          rw [he] at h
          have := esc_len (n := q.1) (r := q.2) he
          have := str_len n _ _ _ _ (by omega) h
          omega
      · split at h
        · cases h
        · have := str_len n _ _ _ _ (by omega) h
          omega

theorem digs_len {l r : List UInt8} (h : digsJ l = some r) : r.length < l.length := by
  unfold digsJ at h
  split at h
  · cases h
  · rename_i hn
    injection h with h
    subst h
    have h1 : (l.takeWhile digJ).length + (l.dropWhile digJ).length = l.length := by rw [← List.length_append, List.takeWhile_append_dropWhile]
    have h2 : 0 < (l.takeWhile digJ).length := by
      rw [List.length_pos_iff]
      simpa using hn
    omega
theorem int_len {l r ds : List UInt8} (h : intJ l = some (ds, r)) : r.length < l.length := by
  unfold intJ at h
  split at h
  · rename_i hp
    injection h with h
    injection h with _ h
    subst h
    exact drop_one hp
  · split at h
    · cases h
    · rename_i hn
      injection h with h
      injection h with _ h
      subst h
      exact digs_len (l := l) (by unfold digsJ; rw [if_neg hn])
theorem min_len (l : List UInt8) : (minJ l).length ≤ l.length := by
  unfold minJ
  split
  · rw [List.length_drop]; omega
  · exact Nat.le_refl _
theorem sign_len (l : List UInt8) : (signJ l).length ≤ l.length := by
  unfold signJ
  split
  · rw [List.length_drop]; omega
  · split
    · rw [List.length_drop]; omega
    · exact Nat.le_refl _
theorem frac_len {l r : List UInt8} {b : Bool} (h : fracJ l = some (b, r)) : r.length ≤ l.length := by
  unfold fracJ at h
  split at h
  · cases hd : digsJ (l.drop 1) with
    | none => rw [hd] at h; cases h
    | some q =>
      rw [hd] at h
      injection h with h
      injection h with _ h
      subst h
      have := digs_len hd
      rw [List.length_drop] at this
      omega
  · injection h with h
    injection h with _ h
    subst h
    exact Nat.le_refl _
theorem exp_len {l r : List UInt8} {b : Bool} (h : expJ l = some (b, r)) : r.length ≤ l.length := by
  unfold expJ at h
  split at h
  · cases hd : digsJ (signJ (l.drop 1)) with
    | none => rw [hd] at h; cases h
    | some q =>
      rw [hd] at h
      injection h with h
      injection h with _ h
      subst h
      have := digs_len hd
      have h2 := sign_len (l.drop 1)
      rw [List.length_drop] at h2
      omega
  · injection h with h
    injection h with _ h
    subst h
    exact Nat.le_refl _
theorem num_len {l r : List UInt8} {v : Int} (h : numJ l = .ok (v, r)) : r.length < l.length := by
  unfold numJ at h
  split at h
  · cases h
  · rename_i ds l2 h1
    split at h
    · cases h
    · rename_i f l3 h2
      split at h
      · cases h
      · rename_i g l4 h3
        generalize (if preX [45] l then -(decJ ds : Int) else decJ ds) = z at h
        split at h
        · cases h
        · split at h
          · injection h with h
            injection h with _ h
            subst h
            have := int_len h1
            have := min_len l
            have := frac_len h2
            have := exp_len h3
            omega
          · cases h
theorem cnt_le {l : List UInt8} {n m : Nat} (h : cntJ l n = .ok m) (hn : n ≤ 8192) : m ≤ 8192 := by
  unfold cntJ at h
  split at h
  · injection h with h; omega
  · split at h
    · split at h
      · injection h with h; omega
      · cases h
    · injection h with h; omega
def ShrJ {α : Type} (el : List UInt8 → Nat → Except Nat (α × List UInt8 × Nat)) : Prop := ∀ l n v r m, n ≤ 8192 → el l n = .ok (v, r, m) → r.length < l.length ∧ m ≤ 8192
section
variable {α : Type} {el : List UInt8 → Nat → Except Nat (α × List UInt8 × Nat)}
theorem lst_fuel (hel : ShrJ el) : ∀ (k f g : Nat) (ks : List α) (l : List UInt8) (n : Nat), n ≤ 8192 → l.length ≤ k → l.length < f → l.length < g → lstL el f ks l n = lstL el g ks l n
  | k, 0, _, _, _, _, _, _, h, _ => by omega
  | k, _ + 1, 0, _, _, _, _, _, _, h => by omega
  | k, f + 1, g + 1, ks, l, n, hn, h0, h1, h2 => by
    rw [lstL, lstL]
    cases he : el l n with
    | error e => rfl
    | ok q =>
      obtain ⟨v, l2, n2⟩ := q
      obtain ⟨e1, e2⟩ := hel _ _ _ _ _ hn he
      have e3 := dw_len whX l2
      simp only
      by_cases h3 : preX [93] (l2.dropWhile whX) = true
      · rw [if_pos h3, if_pos h3]
      · rw [if_neg h3, if_neg h3]
        by_cases h4 : preX [44] (l2.dropWhile whX) = true
        · rw [if_pos h4, if_pos h4]
          have e4 := drop_one h4
          match k with
          | 0 => omega
          | k + 1 => exact lst_fuel hel k f g _ _ n2 e2 (by omega) (by omega) (by omega)
        · rw [if_neg h4, if_neg h4]
theorem lstW_step (hel : ShrJ el) (ks : List α) (l : List UInt8) (n : Nat) (hn : n ≤ 8192) : lstW el ks l n = (match el l n with
    | .error e => .error e
    | .ok (v, l2, n2) => if preX [93] (l2.dropWhile whX) then .ok (ks ++ [v], (l2.dropWhile whX).drop 1, n2)
      else if preX [44] (l2.dropWhile whX) then lstW el (ks ++ [v]) ((l2.dropWhile whX).drop 1) n2 else .error 5) := by
  unfold lstW
  rw [lstL]
  cases he : el l n with
  | error e => rfl
  | ok q =>
    obtain ⟨v, l2, n2⟩ := q
    obtain ⟨e1, e2⟩ := hel _ _ _ _ _ hn he
    have e3 := dw_len whX l2
    simp only
    by_cases h3 : preX [93] (l2.dropWhile whX) = true
    · rw [if_pos h3, if_pos h3]
    · rw [if_neg h3, if_neg h3]
      by_cases h4 : preX [44] (l2.dropWhile whX) = true
      · rw [if_pos h4, if_pos h4]
        have e4 := drop_one h4
        exact lst_fuel hel _ _ _ _ _ n2 e2 (Nat.le_refl _) (by omega) (by omega)
      · rw [if_neg h4, if_neg h4]
theorem lstW_len (hel : ShrJ el) : ∀ (k : Nat) (ks : List α) (l : List UInt8) (n : Nat) (ks2 : List α) (r : List UInt8) (m : Nat), n ≤ 8192 → l.length ≤ k → lstW el ks l n = .ok (ks2, r, m) → r.length < l.length ∧ m ≤ 8192
  | k, ks, l, n, ks2, r, m, hn, h0, h => by
    rw [lstW_step hel ks l n hn] at h
    cases he : el l n with
    | error e => rw [he] at h; cases h
    | ok q =>
      obtain ⟨v, l2, n2⟩ := q
      rw [he] at h
      obtain ⟨e1, e2⟩ := hel _ _ _ _ _ hn he
      have e3 := dw_len whX l2
      simp only at h
      split at h
      · rename_i h3
        injection h with h
        injection h with _ h
        injection h with h4 h5
        subst h4 h5
        have := drop_one h3
        exact ⟨by omega, e2⟩
      · split at h
        · rename_i h4
          have e4 := drop_one h4
          match k with
          | 0 => omega
          | k + 1 =>
            have := lstW_len hel k _ _ _ _ _ _ e2 (by omega) h
            exact ⟨by omega, this.2⟩
        · cases h
theorem lstJ_len (hel : ShrJ el) {l r : List UInt8} {n m : Nat} {ks : List α} (hn : n ≤ 8192) (h : lstJ el l n = .ok (ks, r, m)) : r.length < l.length ∧ m ≤ 8192 := by
  unfold lstJ at h
  have e3 := dw_len whX l
  split at h
  · rename_i h3
    injection h with h
    injection h with _ h
    injection h with h4 h5
    subst h4 h5
    have := drop_one h3
    exact ⟨by omega, hn⟩
  · have := lstW_len hel _ _ _ _ _ _ _ hn (Nat.le_refl _) h
    exact ⟨by omega, this.2⟩
theorem name_len {ns : List (List UInt8)} {l s r : List UInt8} (h : nameJ ns l = some (s, r)) : r.length < l.length := by
  unfold nameJ at h
  have e3 := dw_len whX l
  split at h
  · rename_i h3
    have e4 := drop_one h3
    cases hs : strW [] ((l.dropWhile whX).drop 1) with
    | none => rw [hs] at h; cases h
    | some q =>
      obtain ⟨s', r'⟩ := q
      rw [hs] at h
      have e5 := str_len _ _ _ _ _ (Nat.le_refl _) hs
      have e6 := dw_len whX r'
      simp only at h
      split at h
      · cases h
      · split at h
        · rename_i h7
          have e7 := drop_one h7
          injection h with h
          injection h with _ h
          subst h
          omega
        · cases h
  · cases h
theorem obj_fuel (hel : ShrJ el) : ∀ (k f g : Nat) (ns : List (List UInt8)) (ks : List α) (l : List UInt8) (n : Nat), n ≤ 8192 → l.length ≤ k → l.length < f → l.length < g → objL el f ns ks l n = objL el g ns ks l n
  | k, 0, _, _, _, _, _, _, _, h, _ => by omega
  | k, _ + 1, 0, _, _, _, _, _, _, _, h => by omega
  | k, f + 1, g + 1, ns, ks, l, n, hn, h0, h1, h2 => by
    rw [objL, objL]
    cases hs : nameJ ns l with
    | none => rfl
    | some q =>
      obtain ⟨s, l1⟩ := q
      have e0 := name_len hs
      simp only
      cases he : el l1 n with
      | error e => rfl
      | ok q =>
        obtain ⟨v, l2, n2⟩ := q
        obtain ⟨e1, e2⟩ := hel _ _ _ _ _ hn he
        have e3 := dw_len whX l2
        simp only
        by_cases h3 : preX [125] (l2.dropWhile whX) = true
        · rw [if_pos h3, if_pos h3]
        · rw [if_neg h3, if_neg h3]
          by_cases h4 : preX [44] (l2.dropWhile whX) = true
          · rw [if_pos h4, if_pos h4]
            have e4 := drop_one h4
            match k with
            | 0 => omega
            | k + 1 => exact obj_fuel hel k f g _ _ _ n2 e2 (by omega) (by omega) (by omega)
          · rw [if_neg h4, if_neg h4]
theorem objW_step (hel : ShrJ el) (ns : List (List UInt8)) (ks : List α) (l : List UInt8) (n : Nat) (hn : n ≤ 8192) : objW el ns ks l n = (match nameJ ns l with
    | none => .error 5
    | some (s, l1) => match el l1 n with
      | .error e => .error e
      | .ok (v, l2, n2) => if preX [125] (l2.dropWhile whX) then .ok (ns ++ [s], ks ++ [v], (l2.dropWhile whX).drop 1, n2)
        else if preX [44] (l2.dropWhile whX) then objW el (ns ++ [s]) (ks ++ [v]) ((l2.dropWhile whX).drop 1) n2 else .error 5) := by
  unfold objW
  rw [objL]
  cases hs : nameJ ns l with
  | none => rfl
  | some q =>
    obtain ⟨s, l1⟩ := q
    have e0 := name_len hs
    simp only
    cases he : el l1 n with
    | error e => rfl
    | ok q =>
      obtain ⟨v, l2, n2⟩ := q
      obtain ⟨e1, e2⟩ := hel _ _ _ _ _ hn he
      have e3 := dw_len whX l2
      simp only
      by_cases h3 : preX [125] (l2.dropWhile whX) = true
      · rw [if_pos h3, if_pos h3]
      · rw [if_neg h3, if_neg h3]
        by_cases h4 : preX [44] (l2.dropWhile whX) = true
        · rw [if_pos h4, if_pos h4]
          have e4 := drop_one h4
          exact obj_fuel hel _ _ _ _ _ _ n2 e2 (Nat.le_refl _) (by omega) (by omega)
        · rw [if_neg h4, if_neg h4]
theorem objW_len (hel : ShrJ el) : ∀ (k : Nat) (ns : List (List UInt8)) (ks : List α) (l : List UInt8) (n : Nat) (ns2 : List (List UInt8)) (ks2 : List α) (r : List UInt8) (m : Nat), n ≤ 8192 → l.length ≤ k → objW el ns ks l n = .ok (ns2, ks2, r, m) → r.length < l.length ∧ m ≤ 8192
  | k, ns, ks, l, n, ns2, ks2, r, m, hn, h0, h => by
    rw [objW_step hel ns ks l n hn] at h
    cases hs : nameJ ns l with
    | none => rw [hs] at h; cases h
    | some q =>
      obtain ⟨s, l1⟩ := q
      have e0 := name_len hs
      rw [hs] at h
      simp only at h
      cases he : el l1 n with
      | error e => rw [he] at h; cases h
      | ok q =>
        obtain ⟨v, l2, n2⟩ := q
        rw [he] at h
        obtain ⟨e1, e2⟩ := hel _ _ _ _ _ hn he
        have e3 := dw_len whX l2
        simp only at h
        split at h
        · rename_i h3
          injection h with h
          injection h with _ h
          injection h with _ h
          injection h with h4 h5
          subst h4 h5
          have := drop_one h3
          exact ⟨by omega, e2⟩
        · split at h
          · rename_i h4
            have e4 := drop_one h4
            match k with
            | 0 => omega
            | k + 1 =>
              have := objW_len hel k _ _ _ _ _ _ _ _ e2 (by omega) h
              exact ⟨by omega, this.2⟩
          · cases h
theorem objJ_len (hel : ShrJ el) {l r : List UInt8} {n m : Nat} {ns : List (List UInt8)} {ks : List α} (hn : n ≤ 8192) (h : objJ el l n = .ok (ns, ks, r, m)) : r.length < l.length ∧ m ≤ 8192 := by
  unfold objJ at h
  have e3 := dw_len whX l
  split at h
  · rename_i h3
    injection h with h
    injection h with _ h
    injection h with _ h
    injection h with h4 h5
    subst h4 h5
    have := drop_one h3
    exact ⟨by omega, hn⟩
  · have := objW_len hel _ _ _ _ _ _ _ _ _ hn (Nat.le_refl _) h
    exact ⟨by omega, this.2⟩
theorem top_len {leaf : LabJ → α} {nest : Bool → List UInt8 → Nat → Except Nat (α × List UInt8 × Nat)} (hne : ∀ ob, ShrJ (nest ob)) : ShrJ (topJ leaf nest) := by
  intro l n v r m hn h
  unfold topJ at h
  have e3 := dw_len whX l
  cases hc : cntJ (l.dropWhile whX) n with
  | error e => rw [hc] at h; cases h
  | ok k =>
    rw [hc] at h
    have hk := cnt_le hc hn
    simp only at h
    generalize l.dropWhile whX = l1 at h e3
    unfold atomJ at h
    split at h
    · rename_i h3
      injection h with h; injection h with _ h; injection h with h4 h5; subst h4 h5
      have := drop_lt h3 (by simp [nullN])
      have e : nullN.length = 4 := rfl
      rw [e] at this
      exact ⟨by omega, hk⟩
    · split at h
      · rename_i h3
        injection h with h; injection h with _ h; injection h with h4 h5; subst h4 h5
        have := drop_lt h3 (by simp [trueN])
        have e : trueN.length = 4 := rfl
        rw [e] at this
        exact ⟨by omega, hk⟩
      · split at h
        · rename_i h3
          injection h with h; injection h with _ h; injection h with h4 h5; subst h4 h5
          have := drop_lt h3 (by simp [falsN])
          have e : falsN.length = 5 := rfl
          rw [e] at this
          exact ⟨by omega, hk⟩
        · split at h
          · rename_i h3
            have e4 := drop_one h3
            cases hs : strW [] (l1.drop 1) with
            | none => rw [hs] at h; cases h
            | some q =>
              rw [hs] at h
              injection h with h; injection h with _ h; injection h with h4 h5; subst h4 h5
              have := str_len _ _ _ q.1 q.2 (Nat.le_refl _) hs
              exact ⟨by omega, hk⟩
          · split at h
            · rename_i h3
              have e4 := drop_one h3
              have := hne _ _ _ _ _ _ hk h
              exact ⟨by omega, this.2⟩
            · split at h
              · rename_i h3
                have e4 := drop_one h3
                have := hne _ _ _ _ _ _ hk h
                exact ⟨by omega, this.2⟩
              · cases hx : numJ l1 with
                | error e => rw [hx] at h; cases h
                | ok q =>
                  rw [hx] at h
                  injection h with h; injection h with _ h; injection h with h4 h5; subst h4 h5
                  have := num_len (v := q.1) (r := q.2) hx
                  exact ⟨by omega, hk⟩
end
theorem nestJ_len {d lev : Nat} {el : List UInt8 → Nat → Except Nat (VJ d × List UInt8 × Nat)} (hel : ShrJ el) (ob : Bool) : ShrJ (nestJ d lev el ob) := by
  intro l n v r m hn h
  unfold nestJ at h
  split at h
  · cases h
  · split at h
    · cases ho : objJ el l n with
      | error e => rw [ho] at h; cases h
      | ok q =>
        obtain ⟨ns, ks, r2, m2⟩ := q
        rw [ho] at h
        injection h with h; injection h with _ h; injection h with h4 h5; subst h4 h5
        exact objJ_len hel hn ho
    · cases ho : lstJ el l n with
      | error e => rw [ho] at h; cases h
      | ok q =>
        obtain ⟨ks, r2, m2⟩ := q
        rw [ho] at h
        injection h with h; injection h with _ h; injection h with h4 h5; subst h4 h5
        exact lstJ_len hel hn ho
theorem val_shr : ∀ (d lev : Nat), ShrJ (valJ d lev)
  | 0, lev => top_len fun ob l n v r m hn h => by
      split at h <;> cases h
  | d + 1, lev => top_len (nestJ_len (val_shr d (lev + 1)))
theorem val_step (d lev : Nat) (l : List UInt8) (n : Nat) : valJ (d + 1) lev l n = topJ (leafJ (d + 1)) (nestJ d lev (valJ d (lev + 1))) l n := rfl
theorem dw_dw (p : UInt8 → Bool) (l : List UInt8) : (l.dropWhile p).dropWhile p = l.dropWhile p := by
  induction l with
  | nil => rfl
  | cons c r ih =>
    by_cases h : p c = true
    · rw [List.dropWhile_cons_of_pos h, ih]
    · rw [List.dropWhile_cons_of_neg h, List.dropWhile_cons_of_neg h]
end Go.Proofs.YtlgkbdebpnbndaaGreatDoor
