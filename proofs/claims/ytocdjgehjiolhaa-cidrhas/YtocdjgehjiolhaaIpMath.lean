
/- Addresses as they are written: plain mathematics, and that what is written in short is read back. -/
import Derived.Below
namespace Go.Proofs.Ytocdjgehjiolhaa
set_option linter.unusedSimpArgs false
set_option linter.unusedVariables false

/-- A text's parts between a byte. -/
def cutL (b : UInt8) : List UInt8 → List (List UInt8)
  | [] => [[]]
  | c :: r => if c = b then [] :: cutL b r else (c :: (cutL b r).headD []) :: (cutL b r).tail
theorem cutL_pos (b : UInt8) : ∀ l, 0 < (cutL b l).length
  | [] => by simp [cutL]
  | c :: r => by unfold cutL; split <;> simp
theorem cut_none (b : UInt8) : ∀ x : List UInt8, b ∉ x → cutL b x = [x]
  | [], _ => rfl
  | c :: r, h => by
    have h1 : c ≠ b := fun e => h (by simp [e])
    have ih := cut_none b r (fun e => h (by simp [e]))
    simp [cutL, h1, ih]
theorem cut_app (b : UInt8) (r : List UInt8) : ∀ x : List UInt8, b ∉ x → cutL b (x ++ b :: r) = x :: cutL b r
  | [], _ => by simp [cutL]
  | c :: y, h => by
    have h1 : c ≠ b := fun e => h (by simp [e])
    have ih := cut_app b r y (fun e => h (by simp [e]))
    simp [cutL, h1, ih]
/-- Parts, a byte between them. -/
def joinL (b : UInt8) : List (List UInt8) → List UInt8
  | [] => []
  | [x] => x
  | x :: y :: r => x ++ b :: joinL b (y :: r)
theorem cut_join (b : UInt8) : ∀ L : List (List UInt8), L ≠ [] → (∀ x ∈ L, b ∉ x) → cutL b (joinL b L) = L
  | [], h, _ => absurd rfl h
  | [x], _, h => cut_none b x (h x (by simp))
  | x :: y :: r, _, h => by
    rw [joinL, cut_app b _ x (h x (by simp)), cut_join b (y :: r) (by simp) (fun z hz => h z (by simp only [List.mem_cons] at hz ⊢; exact Or.inr hz))]
/-- A digit's value (99: none). -/
def dig (c : UInt8) : Nat := if 48 ≤ c.toNat ∧ c.toNat ≤ 57 then c.toNat - 48 else if 97 ≤ c.toNat ∧ c.toNat ≤ 102 then c.toNat - 87 else if 65 ≤ c.toNat ∧ c.toNat ≤ 70 then c.toNat - 55 else 99
def valB (base : Nat) (l : List UInt8) : Nat := l.foldl (fun n c => n * base + dig c) 0
def isNum (base : Nat) (l : List UInt8) : Bool := !l.isEmpty && l.all fun c => decide (dig c < base)
/-- All of a text, by a base; at most 2^32; -1: it is none. -/
def num (base : Nat) (l : List UInt8) : Int := if isNum base l then ((min (valB base l) 4294967296 : Nat) : Int) else -1
theorem valB_snoc (base : Nat) (l : List UInt8) (c : UInt8) : valB base (l ++ [c]) = valB base l * base + dig c := by simp [valB]
/-- A part of an IPv4. -/
def okFour (x : List UInt8) : Bool := decide (0 ≤ num 10 x) && decide (num 10 x ≤ 255) && !(decide (1 < x.length) && decide (x.headD 0 = 48))
def four (l : List UInt8) : Int := match cutL 46 l with
  | [a, b, c, d] => if okFour a && okFour b && okFour c && okFour d then ((num 10 a * 256 + num 10 b) * 256 + num 10 c) * 256 + num 10 d else -1
  | _ => -1
/-- The groups behind the first k parts; -1: the gap. -/
def grpTo (l : List (List UInt8)) : Nat → Option (List Int × Bool)
  | 0 => some ([], false)
  | k + 1 => match grpTo l k with
    | none => none
    | some (out, gap) =>
      if l.getD k [] = [] then
        if k ≠ 0 ∧ k ≠ l.length - 1 then (if gap then none else some (out ++ [-1], true))
        else if l.length < 3 ∨ (k = 0 ∧ l.getD 1 [] ≠ []) ∨ (0 < k ∧ l.getD (l.length - 2) [] ≠ []) then none
        else some (out, gap)
      else if 0 ≤ four (l.getD k []) ∧ k = l.length - 1 then some (out ++ [four (l.getD k []) / 65536, four (l.getD k []) % 65536], gap)
      else if num 16 (l.getD k []) < 0 ∨ 4 < (l.getD k []).length then none
      else some (out ++ [num 16 (l.getD k [])], gap)
def grp (l : List (List UInt8)) : Option (List Int) := (grpTo l l.length).map (·.1)
def b8 (n : Nat) : UInt8 := UInt8.ofNat n
def v4B (n : Nat) : List UInt8 := List.replicate 12 0 ++ [b8 (n / 16777216), b8 (n / 65536), b8 (n / 256), b8 n]
/-- The bytes of groups, the gap being n groups long. -/
def fillG (g : List Int) (n : Nat) : List UInt8 := g.flatMap fun x => if x < 0 then List.replicate (2 * n) 0 else [b8 (x / 256).toNat, b8 (x % 256).toNat]
def cntG (g : List Int) : Nat := (g.filter fun x => decide (0 ≤ x)).length
def gapG (g : List Int) : Bool := g.any fun x => decide (x < 0)
/-- One, written strictly. -/
def parseA (l : List UInt8) : Option (Bool × List UInt8) :=
  if 0 ≤ four l then some (false, v4B (four l).toNat)
  else match grp (cutL 58 l) with
    | none => none
    | some g => if (cutL 58 l).length < 3 ∨ 8 < cntG g ∨ (gapG g = false ∧ cntG g ≠ 8) then none else some (true, fillG g (8 - cntG g))

/-- A digit's byte. -/
def dch (d : Nat) : UInt8 := if d < 10 then b8 (48 + d) else b8 (87 + d)
def digsF (base : Nat) : Nat → Nat → List UInt8
  | 0, _ => []
  | f + 1, n => if n < base then [dch n] else digsF base f (n / base) ++ [dch (n % base)]
def digs (base n : Nat) : List UInt8 := digsF base 20 n
theorem dch_fin : ∀ d : Fin 16, dig (dch d.val) = d.val ∧ dch d.val ≠ 46 ∧ dch d.val ≠ 58 ∧ (0 < d.val → dch d.val ≠ 48) := by decide
theorem dig_dch (d : Nat) (h : d < 16) : dig (dch d) = d := (dch_fin ⟨d, h⟩).1
theorem dch_46 (d : Nat) (h : d < 16) : dch d ≠ 46 := (dch_fin ⟨d, h⟩).2.1
theorem dch_58 (d : Nat) (h : d < 16) : dch d ≠ 58 := (dch_fin ⟨d, h⟩).2.2.1
theorem dch_48 (d : Nat) (h : d < 16) (h0 : 0 < d) : dch d ≠ 48 := (dch_fin ⟨d, h⟩).2.2.2 h0
theorem digsF_val (base : Nat) (hb2 : 2 ≤ base) (hb : base ≤ 16) : ∀ f n, n < base ^ f → valB base (digsF base f n) = n
  | 0, n, h => by simp at h; simp [h, digsF, valB]
  | f + 1, n, h => by
    unfold digsF
    split
    · rename_i hn
      simp [valB, dig_dch n (by omega)]
    · rename_i hn
      have hm : n % base < 16 := Nat.lt_of_lt_of_le (Nat.mod_lt _ (by omega)) hb
      rw [valB_snoc, digsF_val base hb2 hb f (n / base) (by rw [Nat.div_lt_iff_lt_mul (by omega), ← Nat.pow_succ]; exact h), dig_dch _ hm, Nat.mul_comm]
      exact Nat.div_add_mod n base
theorem digsF_all (base : Nat) (hb2 : 2 ≤ base) (hb : base ≤ 16) : ∀ f n c, c ∈ digsF base f n → dig c < base ∧ c ≠ 46 ∧ c ≠ 58
  | 0, n, c, h => by simp [digsF] at h
  | f + 1, n, c, h => by
    unfold digsF at h
    split at h
    · rename_i hn
      simp only [List.mem_cons, List.not_mem_nil, or_false] at h
      subst h
      exact ⟨by rw [dig_dch n (by omega)]; exact hn, dch_46 n (by omega), dch_58 n (by omega)⟩
    · rename_i hn
      have hm : n % base < base := Nat.mod_lt _ (by omega)
      rcases List.mem_append.1 h with h | h
      · exact digsF_all base hb2 hb f (n / base) c h
      · simp only [List.mem_cons, List.not_mem_nil, or_false] at h
        subst h
        exact ⟨by rw [dig_dch _ (by omega)]; exact hm, dch_46 _ (by omega), dch_58 _ (by omega)⟩
theorem digsF_len (base : Nat) (hb2 : 2 ≤ base) (hb : base ≤ 16) : ∀ k f n, n < base ^ (k + 1) → (digsF base f n).length ≤ k + 1
  | k, 0, n, _ => by simp [digsF]
  | 0, f + 1, n, h => by
    rw [Nat.zero_add, Nat.pow_one] at h
    simp [digsF, h]
  | k + 1, f + 1, n, h => by
    unfold digsF
    split
    · simp
    · have := digsF_len base hb2 hb k f (n / base) (by rw [Nat.div_lt_iff_lt_mul (by omega), ← Nat.pow_succ]; exact h)
      simp; omega
theorem digsF_ne (base : Nat) : ∀ f n, digsF base (f + 1) n ≠ [] := fun f n => by
  unfold digsF
  split <;> simp
theorem digsF_head (base : Nat) (hb2 : 2 ≤ base) (hb : base ≤ 16) : ∀ f n, n < base ^ (f + 1) → 0 < n → (digsF base (f + 1) n).headD 0 ≠ 48
  | 0, n, h, h0 => by
    rw [Nat.zero_add, Nat.pow_one] at h
    simp [digsF, h]
    exact dch_48 n (by omega) h0
  | f + 1, n, h, h0 => by
    unfold digsF
    split
    · rename_i hn
      simp
      exact dch_48 n (by omega) h0
    · rename_i hn
      have ih := digsF_head base hb2 hb f (n / base) (by rw [Nat.div_lt_iff_lt_mul (by omega), ← Nat.pow_succ]; exact h) (Nat.div_pos (by omega) (by omega))
      have hne := digsF_ne base f (n / base)
      cases hd : digsF base (f + 1) (n / base) with
      | nil => exact absurd hd hne
      | cons c r => rw [hd] at ih; simpa using ih
theorem digs_num (base n : Nat) (hb2 : 2 ≤ base) (hb : base ≤ 16) (hn : n < base ^ 20) (h32 : n ≤ 4294967296) : num base (digs base n) = (n : Int) := by
  have h1 : isNum base (digs base n) = true := by
    unfold isNum digs
    have hne := digsF_ne base 19 n
    have ha := digsF_all base hb2 hb 20 n
    simp only [Bool.and_eq_true, List.all_eq_true, decide_eq_true_eq]
    refine ⟨?_, fun c hc => (ha c hc).1⟩
    cases hd : digsF base 20 n with
    | nil => exact absurd hd hne
    | cons c r => rfl
  unfold num
  rw [if_pos h1]
  unfold digs
  rw [digsF_val base hb2 hb 20 n hn, Nat.min_eq_left h32]
theorem digs_ok (n : Nat) (h : n ≤ 255) : okFour (digs 10 n) = true := by
  have h1 := digs_num 10 n (by omega) (by omega) (by omega) (by omega)
  unfold okFour
  rw [h1]
  by_cases h0 : n = 0
  · subst h0; decide
  · have h2 := digsF_head 10 (by omega) (by omega) 19 n (by omega) (by omega)
    have h3 : decide ((digs 10 n).headD 0 = 48) = false := by simpa [digs] using h2
    rw [h3]
    simp
    omega
theorem digs_46 (base n : Nat) (hb2 : 2 ≤ base) (hb : base ≤ 16) : (46 : UInt8) ∉ digs base n := fun h => (digsF_all base hb2 hb 20 n 46 h).2.1 rfl
theorem digs_58 (base n : Nat) (hb2 : 2 ≤ base) (hb : base ≤ 16) : (58 : UInt8) ∉ digs base n := fun h => (digsF_all base hb2 hb 20 n 58 h).2.2 rfl
theorem digs_ne (base n : Nat) (hb2 : 2 ≤ base) (hb : base ≤ 16) : digs base n ≠ [] := digsF_ne base 19 n
/-- An IPv4, as it is written. -/
def dotsB (a b c d : Nat) : List UInt8 := joinL 46 [digs 10 a, digs 10 b, digs 10 c, digs 10 d]
theorem four_dots (a b c d : Nat) (ha : a ≤ 255) (hb : b ≤ 255) (hc : c ≤ 255) (hd : d ≤ 255) : four (dotsB a b c d) = ((((a * 256 + b) * 256 + c) * 256 + d : Nat) : Int) := by
  have hcut : cutL 46 (dotsB a b c d) = [digs 10 a, digs 10 b, digs 10 c, digs 10 d] := cut_join 46 _ (by simp) (fun x hx => by
    simp only [List.mem_cons, List.not_mem_nil, or_false] at hx
    rcases hx with rfl | rfl | rfl | rfl <;> exact digs_46 10 _ (by omega) (by omega))
  unfold four
  rw [hcut]
  simp only [digs_ok a ha, digs_ok b hb, digs_ok c hc, digs_ok d hd, Bool.and_self, if_true]
  rw [digs_num 10 a (by omega) (by omega) (by omega) (by omega), digs_num 10 b (by omega) (by omega) (by omega) (by omega), digs_num 10 c (by omega) (by omega) (by omega) (by omega), digs_num 10 d (by omega) (by omega) (by omega) (by omega)]
  omega
theorem four_no (l : List UInt8) (h : (46 : UInt8) ∉ l) : four l = -1 := by
  unfold four
  rw [cut_none 46 l h]

end Go.Proofs.Ytocdjgehjiolhaa
