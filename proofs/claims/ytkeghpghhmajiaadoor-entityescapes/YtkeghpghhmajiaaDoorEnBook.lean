
/- Signs that stand for runes, lines, values: what they come to (no program in it). -/
import Derived.Test.YtkeghpghhmajiaaDoorEnMath
import Derived.Lib.Replace
namespace Go.Proofs.YtkeghpghhmajiaaDoor
set_option linter.unusedVariables false
set_option linter.unusedSimpArgs false

/-- The sign that stands for a byte; the byte, where none does. -/
def escE (c : UInt8) : List UInt8 :=
  if c = 38 then [38, 97, 109, 112, 59] else if c = 60 then [38, 108, 116, 59] else if c = 62 then [38, 103, 116, 59] else if c = 34 then [38, 113, 117, 111, 116, 59] else if c = 39 then [38, 97, 112, 111, 115, 59] else if c = 13 then [38, 35, 49, 51, 59] else [c]
def escL (l : List UInt8) : List UInt8 := l.flatMap escE
theorem escL_nil : escL [] = [] := rfl
theorem escL_cons (c : UInt8) (l : List UInt8) : escL (c :: l) = escE c ++ escL l := rfl
theorem escL_app (a b : List UInt8) : escL (a ++ b) = escL a ++ escL b := by simp [escL]
theorem escE_len (c : UInt8) : (escE c).length ≤ 6 := by
  unfold escE
  repeat' split
  all_goals simp
theorem escL_len : ∀ l : List UInt8, (escL l).length ≤ 6 * l.length
  | [] => by simp [escL]
  | c :: l => by
    have := escE_len c; have := escL_len l
    rw [escL_cons, List.length_append, List.length_cons]; omega
theorem u8_neE {c d : UInt8} (h : c.toNat ≠ d.toNat) : c ≠ d := fun e => h (by rw [e])
theorem escE_high (c : UInt8) (h : 128 ≤ c.toNat) : escE c = [c] := by
  unfold escE
  rw [if_neg (u8_neE (by show c.toNat ≠ 38; omega)), if_neg (u8_neE (by show c.toNat ≠ 60; omega)), if_neg (u8_neE (by show c.toNat ≠ 62; omega)), if_neg (u8_neE (by show c.toNat ≠ 34; omega)), if_neg (u8_neE (by show c.toNat ≠ 39; omega)), if_neg (u8_neE (by show c.toNat ≠ 13; omega))]
theorem escL_high : ∀ l : List UInt8, (∀ c ∈ l, 128 ≤ c.toNat) → escL l = l
  | [], _ => rfl
  | c :: l, h => by rw [escL_cons, escE_high c (h c (by simp)), escL_high l (fun d hd => h d (by simp [hd]))]; rfl
theorem escE_ascii (c : UInt8) (h : c.toNat < 128) : ∀ d ∈ escE c, d.toNat < 128 := by
  unfold escE
  repeat' split
  all_goals (intro d hd; simp at hd)
  all_goals first
    | (rcases hd with rfl | rfl | rfl | rfl | rfl | rfl <;> decide)
    | (rcases hd with rfl | rfl | rfl | rfl | rfl <;> decide)
    | (rcases hd with rfl | rfl | rfl | rfl <;> decide)
    | (rw [hd]; exact h)
/-- What is written with signs may be, where the text may. -/
theorem V_esc (l : List UInt8) (h : V l = true) : V (escL l) = true := by
  refine V_ind (P := fun l => V (escL l) = true) rfl ?_ l.length l (Nat.le_refl _) h
  intro v t hv ht ih
  rw [escL_app]
  by_cases h1 : v < 128
  · rw [enc1 h1, escL_cons, escL_nil, List.append_nil, V_ascii _ _ (escE_ascii _ (by rw [bt_nat (by omega)]; exact h1))]
    exact ih
  · rw [escL_high _ (encL_high v hv (by omega)), V_enc v hv]; exact ih
/-- The sign of a rune; none for most. -/
def signV (v : Nat) : List UInt8 :=
  if v = 38 then [38, 97, 109, 112, 59] else if v = 60 then [38, 108, 116, 59] else if v = 62 then [38, 103, 116, 59] else if v = 34 then [38, 113, 117, 111, 116, 59] else if v = 39 then [38, 97, 112, 111, 115, 59] else if v = 13 then [38, 35, 49, 51, 59] else []
theorem u8_isE {c d : UInt8} : c = d ↔ c.toNat = d.toNat := ⟨fun e => by rw [e], UInt8.toNat_inj.1⟩
theorem esc_enc (v : Nat) (hv : validR v = true) : escL (encL v) = if signV v = [] then encL v else signV v := by
  by_cases h1 : v < 128
  · have e : ∀ d : UInt8, (bt v = d) = (v = d.toNat) := fun d => by rw [u8_isE, bt_nat (by omega)]
    rw [enc1 h1, escL_cons, escL_nil, List.append_nil]
    unfold escE signV
    simp only [e, show (38 : UInt8).toNat = 38 from rfl, show (60 : UInt8).toNat = 60 from rfl, show (62 : UInt8).toNat = 62 from rfl, show (34 : UInt8).toNat = 34 from rfl, show (39 : UInt8).toNat = 39 from rfl, show (13 : UInt8).toNat = 13 from rfl]
    repeat' split
    all_goals first | rfl | simp_all
  · rw [escL_high _ (encL_high v hv (by omega))]
    have : signV v = [] := by
      unfold signV
      rw [if_neg (by omega), if_neg (by omega), if_neg (by omega), if_neg (by omega), if_neg (by omega), if_neg (by omega)]
    rw [if_pos this]

/-! ### Signs turned to runes -/
/-- What a digit says; 99: it is none. -/
def digE (c : UInt8) : Nat := if 48 ≤ c.toNat ∧ c.toNat ≤ 57 then c.toNat - 48 else if 97 ≤ c.toNat ∧ c.toNat ≤ 102 then c.toNat - 97 + 10 else if 65 ≤ c.toNat ∧ c.toNat ≤ 70 then c.toNat - 65 + 10 else 99
def numE (b : Nat) (l : List UInt8) : Nat := l.foldl (fun a c => a * b + digE c) 0
def okD (b : Nat) (l : List UInt8) : Bool := l.all fun c => decide (digE c < b)
/-- May the rune of that number stand? -/
def runeN (n : Nat) : Option Nat := if validR n && xmlN n then some n else none
def numR (b most : Nat) (l : List UInt8) : Option Nat := if l ≠ [] ∧ l.length ≤ most ∧ okD b l = true then runeN (numE b l) else none
def nameR (l : List UInt8) : Option Nat :=
  if l = [97, 109, 112] then some 38 else if l = [108, 116] then some 60 else if l = [103, 116] then some 62 else if l = [113, 117, 111, 116] then some 34 else if l = [97, 112, 111, 115] then some 39 else none
/-- The rune of what stands between & and ;. -/
def runeR (l : List UInt8) : Option Nat := match l with
  | 35 :: 120 :: d => numR 16 6 d
  | 35 :: d => numR 10 7 d
  | l => nameR l
/-- What stands ahead of the first semicolon, and what behind it. -/
def cutE : List UInt8 → Option (List UInt8 × List UInt8)
  | [] => none
  | c :: r => if c = 59 then some ([], r) else (cutE r).map fun p => (c :: p.1, p.2)
theorem cutE_some : ∀ (l b t : List UInt8), cutE l = some (b, t) → l = b ++ 59 :: t ∧ ∀ c ∈ b, c ≠ 59
  | [], b, t, h => by simp [cutE] at h
  | c :: r, b, t, h => by
    simp only [cutE] at h
    by_cases hc : c = 59
    · rw [if_pos hc] at h
      simp at h
      obtain ⟨rfl, rfl⟩ := h
      exact ⟨by rw [hc]; rfl, fun _ h => by simp at h⟩
    · rw [if_neg hc] at h
      cases hr : cutE r with
      | none => rw [hr] at h; simp at h
      | some p =>
        rw [hr] at h
        simp at h
        obtain ⟨rfl, rfl⟩ := h
        obtain ⟨h1, h2⟩ := cutE_some r p.1 p.2 (by rw [hr])
        refine ⟨by rw [List.cons_append, ← h1], fun d hd => ?_⟩
        rcases List.mem_cons.1 hd with rfl | hd
        · exact hc
        · exact h2 d hd
theorem cutE_none : ∀ l : List UInt8, cutE l = none ↔ ∀ c ∈ l, c ≠ 59
  | [] => by simp [cutE]
  | c :: r => by
    simp only [cutE]
    by_cases hc : c = 59
    · simp [hc]
    · rw [if_neg hc, Option.map_eq_none_iff, cutE_none r]
      simp [hc]
theorem cutE_mk : ∀ (b t : List UInt8), (∀ c ∈ b, c ≠ 59) → cutE (b ++ 59 :: t) = some (b, t)
  | [], t, _ => by simp [cutE]
  | c :: b, t, h => by
    rw [List.cons_append]
    simp only [cutE]
    rw [if_neg (h c (by simp)), cutE_mk b t (fun d hd => h d (by simp [hd]))]; rfl
/-- Signs turned to runes; none: it can't be. -/
def unF : Nat → List UInt8 → Option (List UInt8)
  | 0, _ => some []
  | _ + 1, [] => some []
  | f + 1, c :: r => if c = 38 then (match cutE r with
      | none => none
      | some (b, t) => match runeR b with
        | none => none
        | some n => (unF f t).map (encL n ++ ·)) else (unF f r).map (c :: ·)
theorem unF_nil (f : Nat) : unF f [] = some [] := by cases f <;> rfl
theorem unF_fuel : ∀ (f g : Nat) (l : List UInt8), l.length ≤ f → l.length ≤ g → unF f l = unF g l
  | 0, g, l, hf, _ => by
    obtain rfl : l = [] := List.length_eq_zero_iff.1 (by omega)
    rw [unF_nil, unF_nil]
  | f + 1, 0, l, _, hg => by
    obtain rfl : l = [] := List.length_eq_zero_iff.1 (by omega)
    rw [unF_nil, unF_nil]
  | f + 1, g + 1, [], _, _ => by rw [unF_nil, unF_nil]
  | f + 1, g + 1, c :: r, hf, hg => by
    simp only [List.length_cons] at hf hg
    simp only [unF]
    split
    · cases hc : cutE r with
      | none => rfl
      | some p =>
        obtain ⟨b, t⟩ := p
        have hl := congrArg List.length (cutE_some r b t hc).1
        simp only [List.length_append, List.length_cons] at hl
        show (match runeR b with | none => none | some n => (unF f t).map (encL n ++ ·)) = (match runeR b with | none => none | some n => (unF g t).map (encL n ++ ·))
        rw [unF_fuel f g t (by omega) (by omega)]
    · rw [unF_fuel f g r (by omega) (by omega)]
def unL (l : List UInt8) : Option (List UInt8) := unF l.length l
theorem unL_nil : unL [] = some [] := rfl
theorem unL_cons (c : UInt8) (r : List UInt8) (h : c ≠ 38) : unL (c :: r) = (unL r).map (c :: ·) := by
  unfold unL
  rw [List.length_cons, unF, if_neg h]
theorem unL_no (r : List UInt8) (h : cutE r = none) : unL (38 :: r) = none := by
  unfold unL
  rw [List.length_cons, unF, if_pos rfl, h]
theorem unL_bad (r b t : List UInt8) (h : cutE r = some (b, t)) (h2 : runeR b = none) : unL (38 :: r) = none := by
  unfold unL
  rw [List.length_cons, unF, if_pos rfl, h]
  simp only [h2]
theorem unL_ok (r b t : List UInt8) (n : Nat) (h : cutE r = some (b, t)) (h2 : runeR b = some n) : unL (38 :: r) = (unL t).map (encL n ++ ·) := by
  have hl := congrArg List.length (cutE_some r b t h).1
  simp only [List.length_append, List.length_cons] at hl
  unfold unL
  rw [List.length_cons, unF, if_pos rfl, h]
  simp only [h2]
  rw [unF_fuel r.length t.length t (by omega) (Nat.le_refl _)]
theorem unL_app : ∀ (a t : List UInt8), (∀ c ∈ a, c ≠ 38) → unL (a ++ t) = (unL t).map (a ++ ·)
  | [], t, _ => by simp
  | c :: a, t, h => by
    rw [List.cons_append, unL_cons c _ (h c (by simp)), unL_app a t (fun d hd => h d (by simp [hd]))]
    cases unL t <;> simp
/-- A rune that is no & is left. -/
theorem unL_enc (v : Nat) (hv : validR v = true) (h : v ≠ 38) (t : List UInt8) : unL (encL v ++ t) = (unL t).map (encL v ++ ·) := by
  refine unL_app _ _ fun c hc => ?_
  by_cases h1 : v < 128
  · rw [enc1 h1] at hc
    simp at hc
    subst hc
    exact u8_neE (by rw [bt_nat (by omega)]; exact h)
  · have := encL_high v hv (by omega) c hc
    exact u8_neE (by show c.toNat ≠ 38; omega)
theorem run13 : runeR [35, 49, 51] = some 13 := by decide +kernel
theorem unL_sign (b t : List UInt8) (n : Nat) (hb : ∀ c ∈ b, c ≠ 59) (h : runeR b = some n) : unL (38 :: (b ++ 59 :: t)) = (unL t).map (encL n ++ ·) := unL_ok _ b t n (cutE_mk b t hb) h
/-- What was written with signs is turned back. -/
theorem un_esc : ∀ l : List UInt8, unL (escL l) = some l
  | [] => rfl
  | c :: l => by
    have ih := un_esc l
    rw [escL_cons]
    unfold escE
    repeat' split
    · rw [show [38, 97, 109, 112, 59] ++ escL l = 38 :: ([97, 109, 112] ++ 59 :: escL l) from rfl, unL_sign _ _ 38 (by decide) (by decide +kernel), ih]; rename_i h; rw [h]; rfl
    · rw [show [38, 108, 116, 59] ++ escL l = 38 :: ([108, 116] ++ 59 :: escL l) from rfl, unL_sign _ _ 60 (by decide) (by decide +kernel), ih]; rename_i h; rw [h]; rfl
    · rw [show [38, 103, 116, 59] ++ escL l = 38 :: ([103, 116] ++ 59 :: escL l) from rfl, unL_sign _ _ 62 (by decide) (by decide +kernel), ih]; rename_i h; rw [h]; rfl
    · rw [show [38, 113, 117, 111, 116, 59] ++ escL l = 38 :: ([113, 117, 111, 116] ++ 59 :: escL l) from rfl, unL_sign _ _ 34 (by decide) (by decide +kernel), ih]; rename_i h; rw [h]; rfl
    · rw [show [38, 97, 112, 111, 115, 59] ++ escL l = 38 :: ([97, 112, 111, 115] ++ 59 :: escL l) from rfl, unL_sign _ _ 39 (by decide) (by decide +kernel), ih]; rename_i h; rw [h]; rfl
    · rw [show [38, 35, 49, 51, 59] ++ escL l = 38 :: ([35, 49, 51] ++ 59 :: escL l) from rfl, unL_sign _ _ 13 (by decide) (by decide +kernel), ih]; rename_i h; rw [h]; rfl
    · rw [show [c] ++ escL l = c :: escL l from rfl, unL_cons c _ (by assumption), ih]; rfl
/-- What a reference names is of ASCII. -/
theorem dig_ascii (b : Nat) (hb : b ≤ 16) (c : UInt8) (h : digE c < b) : c.toNat < 128 := by
  unfold digE at h
  repeat' split at h
  all_goals omega
theorem numR_ascii {b most : Nat} {l : List UInt8} {n : Nat} (hb : b ≤ 16) (h : numR b most l = some n) : ∀ c ∈ l, c.toNat < 128 := by
  unfold numR at h
  split at h
  · rename_i hh
    intro c hc
    have := List.all_eq_true.1 hh.2.2 c hc
    exact dig_ascii b hb c (by simpa using this)
  · cases h
theorem nameR_ascii {l : List UInt8} {n : Nat} (h : nameR l = some n) : ∀ c ∈ l, c.toNat < 128 := by
  unfold nameR at h
  repeat' split at h
  all_goals first | (rename_i hh; subst hh; decide) | cases h | skip
theorem runeR_ascii {l : List UInt8} {n : Nat} (h : runeR l = some n) : ∀ c ∈ l, c.toNat < 128 := by
  unfold runeR at h
  split at h
  · intro c hc
    rcases List.mem_cons.1 hc with rfl | hc
    · decide
    · rcases List.mem_cons.1 hc with rfl | hc
      · decide
      · exact numR_ascii (by decide) h c hc
  · intro c hc
    rcases List.mem_cons.1 hc with rfl | hc
    · decide
    · exact numR_ascii (by decide) h c hc
  · exact nameR_ascii h
theorem runeN_some {n m : Nat} (h : runeN n = some m) : m = n ∧ validR n = true ∧ xmlN n = true := by
  unfold runeN at h
  split at h
  · rename_i hh
    rw [Bool.and_eq_true] at hh
    exact ⟨(Option.some.inj h).symm, hh.1, hh.2⟩
  · cases h
theorem runeR_valid {l : List UInt8} {n : Nat} (h : runeR l = some n) : validR n = true := by
  have aux : ∀ b m d, numR b m d = some n → validR n = true := fun b m d h => by
    unfold numR at h
    split at h
    · obtain ⟨e, h1, _⟩ := runeN_some h
      rw [e]; exact h1
    · cases h
  unfold runeR at h
  split at h
  · exact aux _ _ _ h
  · exact aux _ _ _ h
  · unfold nameR at h
    repeat' split at h
    all_goals first | (have := Option.some.inj h; subst this; decide) | cases h

/-! ### Lines -/
/-- Line feeds alone. -/
def linE : List UInt8 → List UInt8
  | [] => []
  | c :: r => if c ≠ 13 then c :: linE r else if r.head? = some 10 then linE r else 10 :: linE r
theorem linE_len : ∀ l : List UInt8, (linE l).length ≤ l.length
  | [] => Nat.le_refl _
  | c :: r => by
    have := linE_len r
    simp only [linE]
    repeat' split
    all_goals (simp only [List.length_cons]; omega)
theorem linE_plain : ∀ l : List UInt8, (∀ c ∈ l, c ≠ 13) → linE l = l
  | [], _ => rfl
  | c :: r, h => by
    simp only [linE]
    rw [if_pos (h c (by simp)), linE_plain r (fun d hd => h d (by simp [hd]))]
theorem escL_no13 (l : List UInt8) : ∀ c ∈ escL l, c ≠ 13 := by
  intro c hc
  obtain ⟨d, _, hd⟩ := List.mem_flatMap.1 hc
  unfold escE at hd
  repeat' split at hd
  all_goals simp at hd
  all_goals first
    | (rcases hd with rfl | rfl | rfl | rfl | rfl | rfl <;> decide)
    | (rcases hd with rfl | rfl | rfl | rfl | rfl <;> decide)
    | (rcases hd with rfl | rfl | rfl | rfl <;> decide)
    | (rw [hd]; assumption)
theorem lin_esc (l : List UInt8) : linE (escL l) = escL l := linE_plain _ (escL_no13 l)
/-- Every instance replaced, from the left. -/
def repF (old new : List UInt8) : Nat → List UInt8 → List UInt8
  | 0, l => l
  | _ + 1, [] => []
  | f + 1, c :: r => if old.isPrefixOf (c :: r) then new ++ repF old new f ((c :: r).drop old.length) else c :: repF old new f r
theorem repF_nil (old new : List UInt8) (f : Nat) : repF old new f [] = [] := by cases f <;> rfl
theorem index_none_cons {c : UInt8} {r old : List UInt8} (h : Lib.index (c :: r) old = -1) : old.isPrefixOf (c :: r) = false ∧ Lib.index r old = -1 := by
  unfold Lib.index at h
  cases hp : old.isPrefixOf (c :: r) with
  | true => rw [hp, if_pos rfl] at h; cases h
  | false =>
    rw [hp, if_neg (by simp)] at h
    refine ⟨rfl, ?_⟩
    by_cases hi : (Lib.index r old == -1) = true
    · exact beq_iff_eq.1 hi
    · rw [if_neg hi] at h
      have := Lib.index_ge r old
      omega
theorem repF_none (old new : List UInt8) : ∀ (f : Nat) (l : List UInt8), Lib.index l old = -1 → repF old new f l = l
  | 0, l, _ => rfl
  | f + 1, [], _ => rfl
  | f + 1, c :: r, h => by
    obtain ⟨h1, h2⟩ := index_none_cons h
    simp only [repF]
    rw [if_neg (by rw [h1]; simp), repF_none old new f r h2]
theorem index_hit {l old : List UInt8} {i : Nat} (h1 : 1 ≤ old.length) (h : Lib.index l old = (i : Int)) : match i with
    | 0 => old.isPrefixOf l = true ∧ l ≠ []
    | k + 1 => ∃ c r, l = c :: r ∧ old.isPrefixOf (c :: r) = false ∧ Lib.index r old = (k : Int) := by
  cases l with
  | nil =>
    unfold Lib.index at h
    rw [if_neg (by cases old <;> simp at h1 ⊢)] at h
    omega
  | cons c r =>
    unfold Lib.index at h
    cases hp : old.isPrefixOf (c :: r) with
    | true =>
      rw [hp, if_pos rfl] at h
      obtain rfl : i = 0 := by omega
      exact ⟨rfl, by simp⟩
    | false =>
      rw [hp, if_neg (by simp)] at h
      by_cases hi : (Lib.index r old == -1) = true
      · rw [if_pos hi] at h; omega
      · rw [if_neg hi] at h
        have hg := Lib.index_ge r old
        have hne : Lib.index r old ≠ -1 := fun e => hi (beq_iff_eq.2 e)
        cases i with
        | zero => omega
        | succ k => exact ⟨c, r, rfl, hp, by omega⟩
/-- Up to the first instance nothing is replaced. -/
theorem repF_hit (old new : List UInt8) (h1 : 1 ≤ old.length) : ∀ (i : Nat) (l : List UInt8) (f : Nat), Lib.index l old = (i : Int) → l.length ≤ f → ∃ g, (l.drop (i + old.length)).length ≤ g ∧ repF old new f l = l.take i ++ new ++ repF old new g (l.drop (i + old.length))
  | 0, l, f, h, hf => by
    obtain ⟨hp, hne⟩ := index_hit h1 h
    match l, hne with
    | c :: r, _ =>
      simp only [List.length_cons] at hf
      obtain ⟨f, rfl⟩ : ∃ f', f = f' + 1 := ⟨f - 1, by omega⟩
      refine ⟨f, ?_, ?_⟩
      · rw [List.length_drop, List.length_cons]; omega
      · simp only [repF]
        rw [if_pos hp, Nat.zero_add]; simp
  | i + 1, l, f, h, hf => by
    obtain ⟨c, r, rfl, hp, hr⟩ := index_hit h1 h
    simp only [List.length_cons] at hf
    obtain ⟨f, rfl⟩ : ∃ f', f = f' + 1 := ⟨f - 1, by omega⟩
    obtain ⟨g, hg, e⟩ := repF_hit old new h1 i r f hr (by omega)
    refine ⟨g, ?_, ?_⟩
    · rw [show i + 1 + old.length = (i + old.length) + 1 from by omega, List.drop_succ_cons]; exact hg
    · simp only [repF]
      rw [if_neg (by rw [hp]; simp), e, show i + 1 + old.length = (i + old.length) + 1 from by omega, List.drop_succ_cons, List.take_succ_cons]
      simp
theorem replaceK_rep (old new : List UInt8) (h1 : 1 ≤ old.length) : ∀ (k : Nat) (l : List UInt8) (f : Nat), l.length ≤ f → Lib.count l old ≤ k → Lib.replaceK old new k l = repF old new f l
  | k, l, f, hf, hk => by
    by_cases hi : Lib.index l old = -1
    · rw [repF_none old new f l hi]
      cases k with
      | zero => rfl
      | succ k => rw [Lib.replaceK, if_pos (by rw [hi]; rfl)]
    · have hg := Lib.index_ge l old
      obtain ⟨i, h⟩ : ∃ i : Nat, Lib.index l old = (i : Int) := ⟨(Lib.index l old).toNat, by omega⟩
      obtain ⟨g, hg2, e⟩ := repF_hit old new h1 i l f h hf
      have hc : Lib.count l old = 1 + Lib.count (l.drop (i + old.length)) old := Lib.count_hit (fun e0 => by rw [e0] at h1; simp at h1) h
      cases k with
      | zero => omega
      | succ k =>
        rw [Lib.replaceK_hit old new k l i h, e, replaceK_rep old new h1 k _ g hg2 (by omega)]
/-- strings.ReplaceAll at an old that is not empty. -/
theorem replaceAll_rep (old new l : List UInt8) (h1 : 1 ≤ old.length) (hne : old ≠ new) : Lib.replaceAll l old new = repF old new l.length l := by
  unfold Lib.replaceAll Lib.replace
  rw [if_neg (by simpa using hne)]
  refine replaceK_rep old new h1 _ l l.length (Nat.le_refl _) ?_
  unfold Lib.replaceNum
  rw [if_pos (Or.inl (by decide))]
  exact Nat.le_refl _
/-- One byte for another. -/
theorem rep_one (x y : UInt8) : ∀ (f : Nat) (l : List UInt8), l.length ≤ f → repF [x] [y] f l = l.map fun c => if c = x then y else c
  | 0, l, h => by
    obtain rfl : l = [] := List.length_eq_zero_iff.1 (by omega)
    rfl
  | f + 1, [], _ => rfl
  | f + 1, c :: r, h => by
    simp only [List.length_cons] at h
    simp only [repF, List.map_cons]
    by_cases hc : c = x
    · subst hc
      rw [if_pos (by simp [List.isPrefixOf]), if_pos rfl]
      simp only [List.length_cons, List.length_nil, List.drop_succ_cons, List.drop_zero]
      rw [rep_one c y f r (by omega)]; rfl
    · rw [if_neg (by simp [List.isPrefixOf]; exact fun e => hc e.symm), if_neg hc, rep_one x y f r (by omega)]
theorem rep_lines : ∀ (n f : Nat) (l : List UInt8), l.length ≤ n → l.length ≤ f → (repF [13, 10] [10] f l).map (fun c => if c = 13 then 10 else c) = linE l
  | _, 0, l, _, h => by
    obtain rfl : l = [] := List.length_eq_zero_iff.1 (by omega)
    rfl
  | 0, f + 1, l, h, _ => by
    obtain rfl : l = [] := List.length_eq_zero_iff.1 (by omega)
    rfl
  | n + 1, f + 1, [], _, _ => rfl
  | n + 1, f + 1, c :: r, hn, hf => by
    simp only [List.length_cons] at hn hf
    simp only [repF, linE]
    by_cases hc : c = 13
    · subst hc
      match r with
      | [] =>
        rw [if_neg (by simp [List.isPrefixOf]), repF_nil]
        simp [linE]
      | d :: t =>
        simp only [List.length_cons] at hn hf
        by_cases hd : d = 10
        · subst hd
          rw [if_pos (by simp [List.isPrefixOf])]
          simp only [List.length_cons, List.length_nil, List.drop_succ_cons, List.drop_zero, List.cons_append, List.nil_append, List.map_cons]
          rw [rep_lines n f t (by omega) (by omega)]
          simp [linE]
        · rw [if_neg (by simp [List.isPrefixOf]; exact fun e => hd e.symm), List.map_cons, rep_lines n f (d :: t) (by simp; omega) (by simp; omega)]
          simp [hd]
    · rw [if_neg (by simp [List.isPrefixOf]; exact fun e _ => hc e.symm), List.map_cons, rep_lines n f r (by omega) (by omega)]
      simp [hc]
/-- Tabs and line feeds are blanks. -/
def blankE (l : List UInt8) : List UInt8 := l.map fun c => if c = 9 ∨ c = 10 then 32 else c
theorem blank_two (l : List UInt8) : (l.map fun c => if c = 10 then (32 : UInt8) else c).map (fun c => if c = 9 then 32 else c) = blankE l := by
  rw [List.map_map]
  apply List.map_congr_left
  intro c _
  simp only [Function.comp]
  by_cases h1 : c = 10
  · subst h1; decide
  · by_cases h2 : c = 9
    · subst h2; decide
    · simp [h1, h2]
end Go.Proofs.YtkeghpghhmajiaaDoor
