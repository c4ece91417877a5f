
/- Texts rune by rune: plain facts about UTF-8, with no program in them. -/
import Derived.Lib.DecodeN
import Derived.Lib.DecodeNEq
import Derived.Lib.RuneCount
import Derived.Lib.Strings
import Derived.Lib.IndexBytes
import Derived.Below
namespace Go.Proofs.YtkeghpghhmajiaaDoor
set_option linter.unusedVariables false
set_option linter.unusedSimpArgs false
open Go.RowKit

/-- At this place a text cannot be read: the rune of faults, and not by its own three bytes. -/
def badAt (s : ByteArray) (pos : Nat) : Bool := ((Utf8.decode s pos).1 == 65533) && !(Lib.hasPrefix (s.data.toList.drop pos) [239, 191, 189])

def vldFrom (s : ByteArray) : Nat → Nat → Bool
  | 0, _ => true
  | f + 1, pos => if pos < s.size then (if badAt s pos then false else vldFrom s f (pos + (Utf8.decode s pos).2)) else true
def vld (s : ByteArray) : Bool := vldFrom s s.size 0
def chk (s : ByteArray) : Int := if vld s then 0 else 5

theorem vldFrom_end (s : ByteArray) (f pos : Nat) (h : ¬ pos < s.size) : vldFrom s f pos = true := by
  cases f <;> simp [vldFrom, h]
theorem vldFrom_step (s : ByteArray) (f pos : Nat) (h : pos < s.size) (hb : badAt s pos = false) : vldFrom s (f + 1) pos = vldFrom s f (pos + (Utf8.decode s pos).2) := by
  simp [vldFrom, h, hb]
theorem vldFrom_bad (s : ByteArray) (f pos : Nat) (h : pos < s.size) (hb : badAt s pos = true) : vldFrom s (f + 1) pos = false := by
  simp [vldFrom, h, hb]
theorem chkT_ok {s : ByteArray} (h : vld s = true) : chk s = 0 := by simp [chk, h]
theorem chkT_no {s : ByteArray} (h : vld s = false) : chk s = 5 := by simp [chk, h]
theorem badAt_other (s : ByteArray) (pos : Nat) (h : (((Utf8.decode s pos).1 : Int) == 65533) = false) : badAt s pos = false := by
  have : ((Utf8.decode s pos).1 == 65533) = false := by
    rw [beq_eq_false_iff_ne] at h ⊢
    omega
  simp [badAt, this]
theorem badAt_err (s : ByteArray) (pos : Nat) (h : (((Utf8.decode s pos).1 : Int) == 65533) = true) : badAt s pos = !(Lib.hasPrefix (s.data.toList.drop pos) [239, 191, 189]) := by
  have : ((Utf8.decode s pos).1 == 65533) = true := by
    rw [beq_iff_eq] at h ⊢
    omega
  simp [badAt, this]

/-- A rune that is read lies within the text. -/
theorem decode_fits (s : ByteArray) (pos : Nat) (h : pos < s.size) : pos + (Utf8.decode s pos).2 ≤ s.size := by
  rw [Lib.decode_at]
  generalize (s.get! pos).toNat = b0
  generalize (s.get! (pos + 1)).toNat = b1
  generalize (s.get! (pos + 2)).toNat = b2
  generalize (s.get! (pos + 3)).toNat = b3
  unfold Lib.decodeN
  repeat' split
  all_goals (simp only; omega)

theorem get_eqT (s : ByteArray) (i : Nat) : s.get! i = s.data.toList.getD i 0 := by
  obtain ⟨⟨l⟩⟩ := s
  show (l.toArray)[i]! = _
  rw [List.getElem!_toArray, List.getD_eq_getElem?_getD, List.getElem!_eq_getElem?_getD]
  rfl
theorem get_at (s : ByteArray) (p : Nat) (h : p < s.size) : s.get! p = s[p] := by
  rw [get_eqT, List.getD_eq_getElem?_getD, Lib.data_getElem? s p h]; rfl

theorem pre3 (l : List UInt8) (a b c : UInt8) : Lib.hasPrefix l [a, b, c] = (decide (3 ≤ l.length) && (l.getD 0 0 == a && (l.getD 1 0 == b && l.getD 2 0 == c))) := by
  unfold Lib.hasPrefix
  match l with
  | [] => simp [List.isPrefixOf]
  | [x] => simp [List.isPrefixOf]
  | [x, y] => simp [List.isPrefixOf]
  | x :: y :: z :: t =>
    rw [Bool.eq_iff_iff]
    simp only [List.isPrefixOf, List.length_cons, List.getD_cons_zero, List.getD_cons_succ, Bool.and_true, Bool.and_eq_true, beq_iff_eq, decide_eq_true_eq]
    constructor
    · rintro ⟨rfl, rfl, rfl⟩; exact ⟨by omega, rfl, rfl, rfl⟩
    · rintro ⟨_, rfl, rfl, rfl⟩; exact ⟨rfl, rfl, rfl⟩

theorem drop_getD (l : List UInt8) (p j : Nat) : (l.drop p).getD j 0 = l.getD (p + j) 0 := by
  rw [List.getD_eq_getElem?_getD, List.getD_eq_getElem?_getD, List.getElem?_drop]

theorem byte_lt (s : ByteArray) (i : Nat) : (s.get! i).toNat < 256 := (s.get! i).toNat_lt

/-- The rune of faults by its own bytes: three, and just these. -/
theorem own_bytes (s : ByteArray) (p : Nat) : Lib.hasPrefix (s.data.toList.drop p) [239, 191, 189] = true ↔ (3 ≤ s.size - p ∧ (s.get! p).toNat = 239 ∧ (s.get! (p + 1)).toNat = 191 ∧ (s.get! (p + 2)).toNat = 189) := by
  rw [pre3, drop_getD, drop_getD, drop_getD, ← get_eqT, ← get_eqT, ← get_eqT, List.length_drop, ← Lib.size_eq]
  simp only [Bool.and_eq_true, beq_iff_eq, decide_eq_true_eq, Nat.add_zero]
  constructor
  · rintro ⟨h, h0, h1, h2⟩; rw [h0, h1, h2]; exact ⟨h, rfl, rfl, rfl⟩
  · rintro ⟨h, h0, h1, h2⟩
    exact ⟨h, UInt8.toNat_inj.1 (h0.trans rfl), UInt8.toNat_inj.1 (h1.trans rfl), UInt8.toNat_inj.1 (h2.trans rfl)⟩

theorem dN_err3 (n b0 b1 b2 b3 : Nat) (h0 : b0 < 256) (_h1 : b1 < 256) (_h2 : b2 < 256) (h : (Lib.decodeN n b0 b1 b2 b3).1 = 65533) :
    Lib.decodeN n b0 b1 b2 b3 = (65533, 1) ∨ (3 ≤ n ∧ b0 = 239 ∧ b1 = 191 ∧ b2 = 189) := by
  revert h
  unfold Lib.decodeN
  repeat' split
  all_goals intro h
  all_goals first | (left; rfl) | (exfalso; simp only at h; omega) | (right; simp only at h; omega)
theorem dN_own (n b3 : Nat) (h : 3 ≤ n) : Lib.decodeN n 239 191 189 b3 = (65533, 3) := by
  unfold Lib.decodeN
  repeat' split
  all_goals first | (exfalso; omega) | rfl

/-- A place is bad just where decoding reads a fault. -/
theorem bad_iff (s : ByteArray) (p : Nat) : badAt s p = true ↔ Utf8.decode s p = (65533, 1) := by
  unfold badAt
  rw [Bool.and_eq_true, beq_iff_eq, Bool.not_eq_true', Lib.decode_at]
  constructor
  · rintro ⟨h1, h2⟩
    rcases dN_err3 _ _ _ _ _ (byte_lt s p) (byte_lt s (p + 1)) (byte_lt s (p + 2)) h1 with h | ⟨ha, hb, hc, hd⟩
    · exact h
    · exfalso
      have := (own_bytes s p).2 ⟨ha, hb, hc, hd⟩
      rw [this] at h2; simp at h2
  · intro h
    refine ⟨by rw [h], ?_⟩
    cases hq : Lib.hasPrefix (s.data.toList.drop p) [239, 191, 189] with
    | false => rfl
    | true =>
      exfalso
      obtain ⟨ha, hb, hc, hd⟩ := (own_bytes s p).1 hq
      rw [hb, hc, hd, dN_own _ _ ha] at h
      simp at h

/-- What the reference's Rune answers: the rune and its bytes; 0 and 0 at a fault. -/
def refR (s : ByteArray) (p : Nat) : Nat × Nat := if badAt s p then (0, 0) else Utf8.decode s p
theorem refR_bad {s : ByteArray} {p : Nat} (h : Utf8.decode s p = (65533, 1)) : refR s p = (0, 0) := by
  have := (bad_iff s p).2 h
  simp [refR, this]
theorem refR_ok {s : ByteArray} {p v k : Nat} (h : Utf8.decode s p = (v, k)) (hk : v ≠ 65533 ∨ k ≠ 1) : refR s p = (v, k) := by
  have : badAt s p = false := by
    cases hb : badAt s p with
    | false => rfl
    | true => have := (bad_iff s p).1 hb; rw [h] at this; simp at this; omega
  simp [refR, this, h]

theorem dNT_ascii (n b0 b1 b2 b3 : Nat) (h : b0 < 128) : Lib.decodeN n b0 b1 b2 b3 = (b0, 1) := by simp [Lib.decodeN, h]
theorem dN_lead (n b0 b1 b2 b3 : Nat) (h : b0 < 256) (h1 : ¬ b0 < 128) (h2 : b0 < 194 ∨ 245 ≤ b0) : Lib.decodeN n b0 b1 b2 b3 = (65533, 1) := by
  unfold Lib.decodeN
  repeat' split
  all_goals first | (exfalso; omega) | rfl
theorem dN_2no (n b0 b1 b2 b3 : Nat) (h : 194 ≤ b0) (h' : b0 < 224) (hb : n < 2 ∨ ¬ (128 ≤ b1 ∧ b1 < 192)) : Lib.decodeN n b0 b1 b2 b3 = (65533, 1) := by
  unfold Lib.decodeN
  repeat' split
  all_goals first | (exfalso; omega) | rfl
theorem dN_2ok (n b0 b1 b2 b3 : Nat) (h : 194 ≤ b0) (h' : b0 < 224) (hn : 2 ≤ n) (h1 : 128 ≤ b1 ∧ b1 < 192) : Lib.decodeN n b0 b1 b2 b3 = (b0 % 32 * 64 + b1 % 64, 2) := by
  unfold Lib.decodeN
  repeat' split
  all_goals first | (exfalso; omega) | rfl
theorem dN_3no (n b0 b1 b2 b3 : Nat) (h : 224 ≤ b0) (h' : b0 < 240) (hb : n < 3 ∨ ¬ (128 ≤ b1 ∧ b1 < 192) ∨ ¬ (128 ≤ b2 ∧ b2 < 192)) : Lib.decodeN n b0 b1 b2 b3 = (65533, 1) := by
  unfold Lib.decodeN
  repeat' split
  all_goals first | (exfalso; omega) | rfl
theorem dN_3bad (n b0 b1 b2 b3 : Nat) (h : 224 ≤ b0) (h' : b0 < 240) (hv : (b0 % 16 * 64 + b1 % 64) * 64 + b2 % 64 < 2048 ∨ (55296 ≤ (b0 % 16 * 64 + b1 % 64) * 64 + b2 % 64 ∧ (b0 % 16 * 64 + b1 % 64) * 64 + b2 % 64 < 57344)) : Lib.decodeN n b0 b1 b2 b3 = (65533, 1) := by
  unfold Lib.decodeN
  repeat' split
  all_goals first | (exfalso; omega) | rfl
theorem dN_3ok (n b0 b1 b2 b3 : Nat) (h : 224 ≤ b0) (h' : b0 < 240) (hn : 3 ≤ n) (h1 : 128 ≤ b1 ∧ b1 < 192) (h2 : 128 ≤ b2 ∧ b2 < 192)
    (hv : ¬ (b0 % 16 * 64 + b1 % 64) * 64 + b2 % 64 < 2048) (hw : ¬ (55296 ≤ (b0 % 16 * 64 + b1 % 64) * 64 + b2 % 64 ∧ (b0 % 16 * 64 + b1 % 64) * 64 + b2 % 64 < 57344)) : Lib.decodeN n b0 b1 b2 b3 = ((b0 % 16 * 64 + b1 % 64) * 64 + b2 % 64, 3) := by
  unfold Lib.decodeN
  repeat' split
  all_goals first | (exfalso; omega) | (apply Prod.ext <;> simp only <;> omega)
theorem dN_4no (n b0 b1 b2 b3 : Nat) (h : 240 ≤ b0) (h' : b0 < 245) (hb : n < 4 ∨ ¬ (128 ≤ b1 ∧ b1 < 192) ∨ ¬ (128 ≤ b2 ∧ b2 < 192) ∨ ¬ (128 ≤ b3 ∧ b3 < 192)) : Lib.decodeN n b0 b1 b2 b3 = (65533, 1) := by
  unfold Lib.decodeN
  repeat' split
  all_goals first | (exfalso; omega) | rfl
theorem dN_4bad (n b0 b1 b2 b3 : Nat) (h : 240 ≤ b0) (h' : b0 < 245) (hv : ((b0 % 8 * 64 + b1 % 64) * 64 + b2 % 64) * 64 + b3 % 64 < 65536 ∨ 1114111 < ((b0 % 8 * 64 + b1 % 64) * 64 + b2 % 64) * 64 + b3 % 64) : Lib.decodeN n b0 b1 b2 b3 = (65533, 1) := by
  unfold Lib.decodeN
  repeat' split
  all_goals first | (exfalso; omega) | rfl
theorem dN_4ok (n b0 b1 b2 b3 : Nat) (h : 240 ≤ b0) (h' : b0 < 245) (hn : 4 ≤ n) (h1 : 128 ≤ b1 ∧ b1 < 192) (h2 : 128 ≤ b2 ∧ b2 < 192) (h3 : 128 ≤ b3 ∧ b3 < 192)
    (hv : ¬ ((b0 % 8 * 64 + b1 % 64) * 64 + b2 % 64) * 64 + b3 % 64 < 65536) (hw : ¬ 1114111 < ((b0 % 8 * 64 + b1 % 64) * 64 + b2 % 64) * 64 + b3 % 64) : Lib.decodeN n b0 b1 b2 b3 = (((b0 % 8 * 64 + b1 % 64) * 64 + b2 % 64) * 64 + b3 % 64, 4) := by
  unfold Lib.decodeN
  repeat' split
  all_goals first | (exfalso; omega) | (apply Prod.ext <;> simp only <;> omega)
/-- The runes from a place on. -/
def runesFrom (s : ByteArray) : Nat → Nat → List Nat
  | 0, _ => []
  | f + 1, pos => if pos < s.size then (Utf8.decode s pos).1 :: runesFrom s f (pos + (Utf8.decode s pos).2) else []
def runesOf (s : ByteArray) : List Nat := runesFrom s s.size 0
theorem runesFrom_end (s : ByteArray) (f pos : Nat) (h : ¬ pos < s.size) : runesFrom s f pos = [] := by cases f <;> simp [runesFrom, h]
theorem runesFrom_step (s : ByteArray) (f pos : Nat) (h : pos < s.size) : runesFrom s (f + 1) pos = (Utf8.decode s pos).1 :: runesFrom s f (pos + (Utf8.decode s pos).2) := by simp [runesFrom, h]
theorem runesFrom_length (s : ByteArray) : ∀ f pos, (runesFrom s f pos).length = Lib.runeCountFrom s f pos
  | 0, pos => by simp [runesFrom, Lib.runeCountFrom]
  | f + 1, pos => by
    have ih := runesFrom_length s f (pos + (Utf8.decode s pos).2)
    by_cases h : pos < s.size
    · simp [runesFrom, Lib.runeCountFrom, h, ih]; omega
    · simp [runesFrom, Lib.runeCountFrom, h]
theorem runesOf_length (s : ByteArray) : (runesOf s).length = Lib.runeCount s := runesFrom_length s _ _
theorem refR_of_bad {s : ByteArray} {p : Nat} (h : badAt s p = true) : refR s p = (0, 0) := by simp [refR, h]
theorem refR_of_ok {s : ByteArray} {p : Nat} (h : badAt s p = false) : refR s p = Utf8.decode s p := by simp [refR, h]
theorem decode_le (s : ByteArray) (p : Nat) : (Utf8.decode s p).1 ≤ 1114111 := by
  rw [Lib.decode_at]
  unfold Lib.decodeN
  repeat' split
  all_goals (simp only; omega)
def xmlN (r : Nat) : Bool := decide (r = 9 ∨ r = 10 ∨ r = 13 ∨ (32 ≤ r ∧ r ≤ 55295) ∨ (57344 ≤ r ∧ r ≤ 65533) ∨ 65536 ≤ r)
def xmlB (s : ByteArray) : Bool := (runesOf s).all xmlN
def xmlE (b : Bool) : Int := if b then 0 else 1
theorem xmlN_yes {r : Nat} (h : r = 9 ∨ r = 10 ∨ r = 13 ∨ (32 ≤ r ∧ r ≤ 55295) ∨ (57344 ≤ r ∧ r ≤ 65533) ∨ 65536 ≤ r) : xmlN r = true := by simp [xmlN, h]
theorem xmlN_no {r : Nat} (h : ¬ (r = 9 ∨ r = 10 ∨ r = 13 ∨ (32 ≤ r ∧ r ≤ 55295) ∨ (57344 ≤ r ∧ r ≤ 65533) ∨ 65536 ≤ r)) : xmlN r = false := by simp only [xmlN, h, decide_false]
theorem xmlN_out {r : Nat} (h : xmlN r = true) : r = 9 ∨ r = 10 ∨ r = 13 ∨ (32 ≤ r ∧ r ≤ 55295) ∨ (57344 ≤ r ∧ r ≤ 65533) ∨ 65536 ≤ r := by simpa only [xmlN, decide_eq_true_eq] using h
theorem xmlN_out' {r : Nat} (h : xmlN r = false) : ¬ (r = 9 ∨ r = 10 ∨ r = 13 ∨ (32 ≤ r ∧ r ≤ 55295) ∨ (57344 ≤ r ∧ r ≤ 65533) ∨ 65536 ≤ r) := by simpa only [xmlN, decide_eq_false_iff_not] using h
theorem all_step {s : ByteArray} {b pos : Nat} (hp : pos < s.size) : (runesFrom s (b + 1) pos).all xmlN = (xmlN (Utf8.decode s pos).1 && (runesFrom s b (pos + (Utf8.decode s pos).2)).all xmlN) := by
  rw [runesFrom_step s b pos hp, List.all_cons]
end Go.Proofs.YtkeghpghhmajiaaDoor
