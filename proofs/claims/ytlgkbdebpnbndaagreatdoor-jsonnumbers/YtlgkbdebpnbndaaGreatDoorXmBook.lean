
/- The mathematics of texts, of signs and of trees; no program. -/
import Derived.Lib.DecodeN
import Derived.Lib.DecodeNEq
import Derived.Lib.RuneCount
import Derived.Lib.Strings
import Derived.Lib.IndexBytes
import Derived.Below
import Derived.Lib.RuneBytes
import Derived.Lib.Replace
import Derived.Lib.IndexMore
import Derived.Lib.SlTrimSet
namespace Go.Proofs.YtlgkbdebpnbndaaGreatDoor
set_option linter.unusedVariables false
set_option linter.unusedSimpArgs false
open Go.RowKit

/-- At this place a text cannot be read: the rune of faults, and not by its own three bytes. -/
def badAt (s : ByteArray) (pos : Nat) : Bool := ((Utf8.decode s pos).1 == 65533) && !(Lib.hasPrefix (s.data.toList.drop pos) [239, 191, 189])

def vldFrom (s : ByteArray) : Nat → Nat → Bool
  | 0, _ => true
  | f + 1, pos => if pos < s.size then (if badAt s pos then false else vldFrom s f (pos + (Utf8.decode s pos).2)) else true
def vld (s : ByteArray) : Bool := vldFrom s s.size 0
def chk (s : ByteArray) : Int := if vld s then 0 else 5

theorem vldFrom_end (s : ByteArray) (f pos : Nat) (h : ¬ pos < s.size) : vldFrom s f pos = true := by
  cases f <;> simp [vldFrom, h]
theorem vldFrom_step (s : ByteArray) (f pos : Nat) (h : pos < s.size) (hb : badAt s pos = false) : vldFrom s (f + 1) pos = vldFrom s f (pos + (Utf8.decode s pos).2) := by
  simp [vldFrom, h, hb]
theorem vldFrom_bad (s : ByteArray) (f pos : Nat) (h : pos < s.size) (hb : badAt s pos = true) : vldFrom s (f + 1) pos = false := by
  simp [vldFrom, h, hb]
theorem chkT_ok {s : ByteArray} (h : vld s = true) : chk s = 0 := by simp [chk, h]
theorem chkT_no {s : ByteArray} (h : vld s = false) : chk s = 5 := by simp [chk, h]
theorem badAt_other (s : ByteArray) (pos : Nat) (h : (((Utf8.decode s pos).1 : Int) == 65533) = false) : badAt s pos = false := by
  have : ((Utf8.decode s pos).1 == 65533) = false := by
    rw [beq_eq_false_iff_ne] at h ⊢
    omega
  simp [badAt, this]
theorem badAt_err (s : ByteArray) (pos : Nat) (h : (((Utf8.decode s pos).1 : Int) == 65533) = true) : badAt s pos = !(Lib.hasPrefix (s.data.toList.drop pos) [239, 191, 189]) := by
  have : ((Utf8.decode s pos).1 == 65533) = true := by
    rw [beq_iff_eq] at h ⊢
    omega
  simp [badAt, this]

/-- A rune that is read lies within the text. -/
theorem decode_fits (s : ByteArray) (pos : Nat) (h : pos < s.size) : pos + (Utf8.decode s pos).2 ≤ s.size := by
  rw [Lib.decode_at]
  generalize (s.get! pos).toNat = b0
  generalize (s.get! (pos + 1)).toNat = b1
  generalize (s.get! (pos + 2)).toNat = b2
  generalize (s.get! (pos + 3)).toNat = b3
  unfold Lib.decodeN
  repeat' split
  all_goals (simp only; omega)

theorem get_eqT (s : ByteArray) (i : Nat) : s.get! i = s.data.toList.getD i 0 := by
  obtain ⟨⟨l⟩⟩ := s
  show (l.toArray)[i]! = _
  rw [List.getElem!_toArray, List.getD_eq_getElem?_getD, List.getElem!_eq_getElem?_getD]
  rfl
theorem get_at (s : ByteArray) (p : Nat) (h : p < s.size) : s.get! p = s[p] := by
  rw [get_eqT, List.getD_eq_getElem?_getD, Lib.data_getElem? s p h]; rfl

theorem pre3 (l : List UInt8) (a b c : UInt8) : Lib.hasPrefix l [a, b, c] = (decide (3 ≤ l.length) && (l.getD 0 0 == a && (l.getD 1 0 == b && l.getD 2 0 == c))) := by
  unfold Lib.hasPrefix
  match l with
  | [] => simp [List.isPrefixOf]
  | [x] => simp [List.isPrefixOf]
  | [x, y] => simp [List.isPrefixOf]
  | x :: y :: z :: t =>
    rw [Bool.eq_iff_iff]
    simp only [List.isPrefixOf, List.length_cons, List.getD_cons_zero, List.getD_cons_succ, Bool.and_true, Bool.and_eq_true, beq_iff_eq, decide_eq_true_eq]
    constructor
    · rintro ⟨rfl, rfl, rfl⟩; exact ⟨by omega, rfl, rfl, rfl⟩
    · rintro ⟨_, rfl, rfl, rfl⟩; exact ⟨rfl, rfl, rfl⟩

theorem drop_getD (l : List UInt8) (p j : Nat) : (l.drop p).getD j 0 = l.getD (p + j) 0 := by
  rw [List.getD_eq_getElem?_getD, List.getD_eq_getElem?_getD, List.getElem?_drop]

theorem byte_lt (s : ByteArray) (i : Nat) : (s.get! i).toNat < 256 := (s.get! i).toNat_lt

/-- The rune of faults by its own bytes: three, and just these. -/
theorem own_bytes (s : ByteArray) (p : Nat) : Lib.hasPrefix (s.data.toList.drop p) [239, 191, 189] = true ↔ (3 ≤ s.size - p ∧ (s.get! p).toNat = 239 ∧ (s.get! (p + 1)).toNat = 191 ∧ (s.get! (p + 2)).toNat = 189) := by
  rw [pre3, drop_getD, drop_getD, drop_getD, ← get_eqT, ← get_eqT, ← get_eqT, List.length_drop, ← Lib.size_eq]
  simp only [Bool.and_eq_true, beq_iff_eq, decide_eq_true_eq, Nat.add_zero]
  constructor
  · rintro ⟨h, h0, h1, h2⟩; rw [h0, h1, h2]; exact ⟨h, rfl, rfl, rfl⟩
  · rintro ⟨h, h0, h1, h2⟩
    exact ⟨h, UInt8.toNat_inj.1 (h0.trans rfl), UInt8.toNat_inj.1 (h1.trans rfl), UInt8.toNat_inj.1 (h2.trans rfl)⟩

theorem dN_err3 (n b0 b1 b2 b3 : Nat) (h0 : b0 < 256) (_h1 : b1 < 256) (_h2 : b2 < 256) (h : (Lib.decodeN n b0 b1 b2 b3).1 = 65533) :
    Lib.decodeN n b0 b1 b2 b3 = (65533, 1) ∨ (3 ≤ n ∧ b0 = 239 ∧ b1 = 191 ∧ b2 = 189) := by
  revert h
  unfold Lib.decodeN
  repeat' split
  all_goals intro h
  all_goals first | (left; rfl) | (exfalso; simp only at h; omega) | (right; simp only at h; omega)
theorem dN_own (n b3 : Nat) (h : 3 ≤ n) : Lib.decodeN n 239 191 189 b3 = (65533, 3) := by
  unfold Lib.decodeN
  repeat' split
  all_goals first | (exfalso; omega) | rfl

/-- A place is bad just where decoding reads a fault. -/
theorem bad_iff (s : ByteArray) (p : Nat) : badAt s p = true ↔ Utf8.decode s p = (65533, 1) := by
  unfold badAt
  rw [Bool.and_eq_true, beq_iff_eq, Bool.not_eq_true', Lib.decode_at]
  constructor
  · rintro ⟨h1, h2⟩
    rcases dN_err3 _ _ _ _ _ (byte_lt s p) (byte_lt s (p + 1)) (byte_lt s (p + 2)) h1 with h | ⟨ha, hb, hc, hd⟩
    · exact h
    · exfalso
      have := (own_bytes s p).2 ⟨ha, hb, hc, hd⟩
      rw [this] at h2; simp at h2
  · intro h
    refine ⟨by rw [h], ?_⟩
    cases hq : Lib.hasPrefix (s.data.toList.drop p) [239, 191, 189] with
    | false => rfl
    | true =>
      exfalso
      obtain ⟨ha, hb, hc, hd⟩ := (own_bytes s p).1 hq
      rw [hb, hc, hd, dN_own _ _ ha] at h
      simp at h

/-- What the reference's Rune answers: the rune and its bytes; 0 and 0 at a fault. -/
def refR (s : ByteArray) (p : Nat) : Nat × Nat := if badAt s p then (0, 0) else Utf8.decode s p
theorem refR_bad {s : ByteArray} {p : Nat} (h : Utf8.decode s p = (65533, 1)) : refR s p = (0, 0) := by
  have := (bad_iff s p).2 h
  simp [refR, this]
theorem refR_ok {s : ByteArray} {p v k : Nat} (h : Utf8.decode s p = (v, k)) (hk : v ≠ 65533 ∨ k ≠ 1) : refR s p = (v, k) := by
  have : badAt s p = false := by
    cases hb : badAt s p with
    | false => rfl
    | true => have := (bad_iff s p).1 hb; rw [h] at this; simp at this; omega
  simp [refR, this, h]

theorem dNT_ascii (n b0 b1 b2 b3 : Nat) (h : b0 < 128) : Lib.decodeN n b0 b1 b2 b3 = (b0, 1) := by simp [Lib.decodeN, h]
theorem dN_lead (n b0 b1 b2 b3 : Nat) (h : b0 < 256) (h1 : ¬ b0 < 128) (h2 : b0 < 194 ∨ 245 ≤ b0) : Lib.decodeN n b0 b1 b2 b3 = (65533, 1) := by
  unfold Lib.decodeN
  repeat' split
  all_goals first | (exfalso; omega) | rfl
theorem dN_2no (n b0 b1 b2 b3 : Nat) (h : 194 ≤ b0) (h' : b0 < 224) (hb : n < 2 ∨ ¬ (128 ≤ b1 ∧ b1 < 192)) : Lib.decodeN n b0 b1 b2 b3 = (65533, 1) := by
  unfold Lib.decodeN
  repeat' split
  all_goals first | (exfalso; omega) | rfl
theorem dN_2ok (n b0 b1 b2 b3 : Nat) (h : 194 ≤ b0) (h' : b0 < 224) (hn : 2 ≤ n) (h1 : 128 ≤ b1 ∧ b1 < 192) : Lib.decodeN n b0 b1 b2 b3 = (b0 % 32 * 64 + b1 % 64, 2) := by
  unfold Lib.decodeN
  repeat' split
  all_goals first | (exfalso; omega) | rfl
theorem dN_3no (n b0 b1 b2 b3 : Nat) (h : 224 ≤ b0) (h' : b0 < 240) (hb : n < 3 ∨ ¬ (128 ≤ b1 ∧ b1 < 192) ∨ ¬ (128 ≤ b2 ∧ b2 < 192)) : Lib.decodeN n b0 b1 b2 b3 = (65533, 1) := by
  unfold Lib.decodeN
  repeat' split
  all_goals first | (exfalso; omega) | rfl
theorem dN_3bad (n b0 b1 b2 b3 : Nat) (h : 224 ≤ b0) (h' : b0 < 240) (hv : (b0 % 16 * 64 + b1 % 64) * 64 + b2 % 64 < 2048 ∨ (55296 ≤ (b0 % 16 * 64 + b1 % 64) * 64 + b2 % 64 ∧ (b0 % 16 * 64 + b1 % 64) * 64 + b2 % 64 < 57344)) : Lib.decodeN n b0 b1 b2 b3 = (65533, 1) := by
  unfold Lib.decodeN
  repeat' split
  all_goals first | (exfalso; omega) | rfl
theorem dN_3ok (n b0 b1 b2 b3 : Nat) (h : 224 ≤ b0) (h' : b0 < 240) (hn : 3 ≤ n) (h1 : 128 ≤ b1 ∧ b1 < 192) (h2 : 128 ≤ b2 ∧ b2 < 192)
    (hv : ¬ (b0 % 16 * 64 + b1 % 64) * 64 + b2 % 64 < 2048) (hw : ¬ (55296 ≤ (b0 % 16 * 64 + b1 % 64) * 64 + b2 % 64 ∧ (b0 % 16 * 64 + b1 % 64) * 64 + b2 % 64 < 57344)) : Lib.decodeN n b0 b1 b2 b3 = ((b0 % 16 * 64 + b1 % 64) * 64 + b2 % 64, 3) := by
  unfold Lib.decodeN
  repeat' split
  all_goals first | (exfalso; omega) | (apply Prod.ext <;> simp only <;> omega)
theorem dN_4no (n b0 b1 b2 b3 : Nat) (h : 240 ≤ b0) (h' : b0 < 245) (hb : n < 4 ∨ ¬ (128 ≤ b1 ∧ b1 < 192) ∨ ¬ (128 ≤ b2 ∧ b2 < 192) ∨ ¬ (128 ≤ b3 ∧ b3 < 192)) : Lib.decodeN n b0 b1 b2 b3 = (65533, 1) := by
  unfold Lib.decodeN
  repeat' split
  all_goals first | (exfalso; omega) | rfl
theorem dN_4bad (n b0 b1 b2 b3 : Nat) (h : 240 ≤ b0) (h' : b0 < 245) (hv : ((b0 % 8 * 64 + b1 % 64) * 64 + b2 % 64) * 64 + b3 % 64 < 65536 ∨ 1114111 < ((b0 % 8 * 64 + b1 % 64) * 64 + b2 % 64) * 64 + b3 % 64) : Lib.decodeN n b0 b1 b2 b3 = (65533, 1) := by
  unfold Lib.decodeN
  repeat' split
  all_goals first | (exfalso; omega) | rfl
theorem dN_4ok (n b0 b1 b2 b3 : Nat) (h : 240 ≤ b0) (h' : b0 < 245) (hn : 4 ≤ n) (h1 : 128 ≤ b1 ∧ b1 < 192) (h2 : 128 ≤ b2 ∧ b2 < 192) (h3 : 128 ≤ b3 ∧ b3 < 192)
    (hv : ¬ ((b0 % 8 * 64 + b1 % 64) * 64 + b2 % 64) * 64 + b3 % 64 < 65536) (hw : ¬ 1114111 < ((b0 % 8 * 64 + b1 % 64) * 64 + b2 % 64) * 64 + b3 % 64) : Lib.decodeN n b0 b1 b2 b3 = (((b0 % 8 * 64 + b1 % 64) * 64 + b2 % 64) * 64 + b3 % 64, 4) := by
  unfold Lib.decodeN
  repeat' split
  all_goals first | (exfalso; omega) | (apply Prod.ext <;> simp only <;> omega)
/-- The runes from a place on. -/
def runesFrom (s : ByteArray) : Nat → Nat → List Nat
  | 0, _ => []
  | f + 1, pos => if pos < s.size then (Utf8.decode s pos).1 :: runesFrom s f (pos + (Utf8.decode s pos).2) else []
def runesOf (s : ByteArray) : List Nat := runesFrom s s.size 0
theorem runesFrom_end (s : ByteArray) (f pos : Nat) (h : ¬ pos < s.size) : runesFrom s f pos = [] := by cases f <;> simp [runesFrom, h]
theorem runesFrom_step (s : ByteArray) (f pos : Nat) (h : pos < s.size) : runesFrom s (f + 1) pos = (Utf8.decode s pos).1 :: runesFrom s f (pos + (Utf8.decode s pos).2) := by simp [runesFrom, h]
theorem runesFrom_length (s : ByteArray) : ∀ f pos, (runesFrom s f pos).length = Lib.runeCountFrom s f pos
  | 0, pos => by simp [runesFrom, Lib.runeCountFrom]
  | f + 1, pos => by
    have ih := runesFrom_length s f (pos + (Utf8.decode s pos).2)
    by_cases h : pos < s.size
    · simp [runesFrom, Lib.runeCountFrom, h, ih]; omega
    · simp [runesFrom, Lib.runeCountFrom, h]
theorem runesOf_length (s : ByteArray) : (runesOf s).length = Lib.runeCount s := runesFrom_length s _ _
theorem refR_of_bad {s : ByteArray} {p : Nat} (h : badAt s p = true) : refR s p = (0, 0) := by simp [refR, h]
theorem refR_of_ok {s : ByteArray} {p : Nat} (h : badAt s p = false) : refR s p = Utf8.decode s p := by simp [refR, h]
theorem decode_le (s : ByteArray) (p : Nat) : (Utf8.decode s p).1 ≤ 1114111 := by
  rw [Lib.decode_at]
  unfold Lib.decodeN
  repeat' split
  all_goals (simp only; omega)
def xmlN (r : Nat) : Bool := decide (r = 9 ∨ r = 10 ∨ r = 13 ∨ (32 ≤ r ∧ r ≤ 55295) ∨ (57344 ≤ r ∧ r ≤ 65533) ∨ 65536 ≤ r)
def xmlB (s : ByteArray) : Bool := (runesOf s).all xmlN
def xmlE (b : Bool) : Int := if b then 0 else 1
theorem xmlN_yes {r : Nat} (h : r = 9 ∨ r = 10 ∨ r = 13 ∨ (32 ≤ r ∧ r ≤ 55295) ∨ (57344 ≤ r ∧ r ≤ 65533) ∨ 65536 ≤ r) : xmlN r = true := by simp [xmlN, h]
theorem xmlN_no {r : Nat} (h : ¬ (r = 9 ∨ r = 10 ∨ r = 13 ∨ (32 ≤ r ∧ r ≤ 55295) ∨ (57344 ≤ r ∧ r ≤ 65533) ∨ 65536 ≤ r)) : xmlN r = false := by simp only [xmlN, h, decide_false]
theorem xmlN_out {r : Nat} (h : xmlN r = true) : r = 9 ∨ r = 10 ∨ r = 13 ∨ (32 ≤ r ∧ r ≤ 55295) ∨ (57344 ≤ r ∧ r ≤ 65533) ∨ 65536 ≤ r := by simpa only [xmlN, decide_eq_true_eq] using h
theorem xmlN_out' {r : Nat} (h : xmlN r = false) : ¬ (r = 9 ∨ r = 10 ∨ r = 13 ∨ (32 ≤ r ∧ r ≤ 55295) ∨ (57344 ≤ r ∧ r ≤ 65533) ∨ 65536 ≤ r) := by simpa only [xmlN, decide_eq_false_iff_not] using h
theorem all_step {s : ByteArray} {b pos : Nat} (hp : pos < s.size) : (runesFrom s (b + 1) pos).all xmlN = (xmlN (Utf8.decode s pos).1 && (runesFrom s b (pos + (Utf8.decode s pos).2)).all xmlN) := by
  rw [runesFrom_step s b pos hp, List.all_cons]
end Go.Proofs.YtlgkbdebpnbndaaGreatDoor
namespace Go.Proofs.YtlgkbdebpnbndaaGreatDoor
set_option linter.unusedVariables false
set_option linter.unusedSimpArgs false

/-- Is it a rune's number? -/
def validR (v : Nat) : Bool := decide (v < 55296 ∨ (57344 ≤ v ∧ v ≤ 1114111))
theorem validR_iff {v : Nat} : validR v = true ↔ (v < 55296 ∨ (57344 ≤ v ∧ v ≤ 1114111)) := by simp [validR]
/-- A rune's bytes. -/
def encL (v : Nat) : List UInt8 := Lib.encodeRune (v : Int)
def bt (n : Nat) : UInt8 := n.toUInt8
theorem bt_nat {n : Nat} (h : n < 256) : (bt n).toNat = n := by simp [bt]; omega
theorem enc1 {v : Nat} (h : v < 128) : encL v = [bt v] := by
  unfold encL Lib.encodeRune
  rw [Lib.encodeRuneZ_one (by omega) (by omega)]; simp [bt]
theorem enc2 {v : Nat} (h : 128 ≤ v) (h' : v ≤ 2047) : encL v = [bt (192 + v / 64), bt (128 + v % 64)] := by
  unfold encL Lib.encodeRune
  rw [Lib.encodeRuneZ_two (by omega) (by omega)]
  simp only [List.map_cons, List.map_nil, bt]
  rw [show ((192 : Int) + (v : Int) / 64).toNat = 192 + v / 64 from by omega, show ((128 : Int) + (v : Int) % 64).toNat = 128 + v % 64 from by omega]
theorem enc3 {v : Nat} (h : (2048 ≤ v ∧ v < 55296) ∨ (57344 ≤ v ∧ v ≤ 65535)) : encL v = [bt (224 + v / 4096), bt (128 + v / 64 % 64), bt (128 + v % 64)] := by
  unfold encL Lib.encodeRune
  rw [Lib.encodeRuneZ_three (by omega)]
  simp only [List.map_cons, List.map_nil, bt]
  rw [show ((224 : Int) + (v : Int) / 4096).toNat = 224 + v / 4096 from by omega, show ((128 : Int) + (v : Int) / 64 % 64).toNat = 128 + v / 64 % 64 from by omega, show ((128 : Int) + (v : Int) % 64).toNat = 128 + v % 64 from by omega]
theorem enc4 {v : Nat} (h : 65536 ≤ v) (h' : v ≤ 1114111) : encL v = [bt (240 + v / 262144), bt (128 + v / 4096 % 64), bt (128 + v / 64 % 64), bt (128 + v % 64)] := by
  unfold encL Lib.encodeRune
  rw [Lib.encodeRuneZ_four (by omega) (by omega)]
  simp only [List.map_cons, List.map_nil, bt]
  rw [show ((240 : Int) + (v : Int) / 262144).toNat = 240 + v / 262144 from by omega, show ((128 : Int) + (v : Int) / 4096 % 64).toNat = 128 + v / 4096 % 64 from by omega, show ((128 : Int) + (v : Int) / 64 % 64).toNat = 128 + v / 64 % 64 from by omega, show ((128 : Int) + (v : Int) % 64).toNat = 128 + v % 64 from by omega]
theorem encL_len (v : Nat) : 1 ≤ (encL v).length ∧ (encL v).length ≤ 4 := by
  have := Lib.encodeRuneZ_length (v : Int)
  simpa [encL, Lib.encodeRune] using this

/-- The rune that bytes begin with, and how many bytes it has. -/
def decL (l : List UInt8) : Nat × Nat := Lib.decodeN l.length (l.getD 0 0).toNat (l.getD 1 0).toNat (l.getD 2 0).toNat (l.getD 3 0).toNat
theorem decL_at (s : ByteArray) (p : Nat) : Utf8.decode s p = decL (s.data.toList.drop p) := by
  rw [Lib.decode_at]
  unfold decL
  rw [List.length_drop, drop_getD, drop_getD, drop_getD, drop_getD, ← get_eqT, ← get_eqT, ← get_eqT, ← get_eqT, ← Lib.size_eq]
  rfl
theorem dn_back2 (n b2 b3 v : Nat) (hn : 2 ≤ n) (h : 128 ≤ v) (h' : v ≤ 2047) : Lib.decodeN n (192 + v / 64) (128 + v % 64) b2 b3 = (v, 2) := by
  unfold Lib.decodeN
  repeat' split
  all_goals first | (exfalso; omega) | (apply Prod.ext <;> simp only <;> omega)
theorem dn_back3 (n b3 v : Nat) (hn : 3 ≤ n) (h : (2048 ≤ v ∧ v < 55296) ∨ (57344 ≤ v ∧ v ≤ 65535)) : Lib.decodeN n (224 + v / 4096) (128 + v / 64 % 64) (128 + v % 64) b3 = (v, 3) := by
  unfold Lib.decodeN
  repeat' split
  all_goals first | (exfalso; omega) | (apply Prod.ext <;> simp only <;> omega)
theorem dn_back4 (n v : Nat) (hn : 4 ≤ n) (h : 65536 ≤ v) (h' : v ≤ 1114111) : Lib.decodeN n (240 + v / 262144) (128 + v / 4096 % 64) (128 + v / 64 % 64) (128 + v % 64) = (v, 4) := by
  unfold Lib.decodeN
  repeat' split
  all_goals first | (exfalso; omega) | (apply Prod.ext <;> simp only <;> omega)
/-- A rune's bytes are read as that rune, whatever stands behind. -/
theorem encL_dec (v : Nat) (hv : validR v = true) (t : List UInt8) : decL (encL v ++ t) = (v, (encL v).length) := by
  have hv' := validR_iff.1 hv
  by_cases h1 : v < 128
  · rw [enc1 h1]; unfold decL
    simp only [List.cons_append, List.nil_append, List.getD_cons_zero, List.length_cons, List.length_nil]
    rw [bt_nat (by omega)]; exact dNT_ascii _ _ _ _ _ h1
  · by_cases h2 : v ≤ 2047
    · rw [enc2 (by omega) h2]; unfold decL
      simp only [List.cons_append, List.nil_append, List.getD_cons_zero, List.getD_cons_succ, List.length_cons, List.length_nil]
      rw [bt_nat (by omega), bt_nat (by omega)]; exact dn_back2 _ _ _ _ (by omega) (by omega) h2
    · by_cases h3 : v ≤ 65535
      · rw [enc3 (by omega)]; unfold decL
        simp only [List.cons_append, List.nil_append, List.getD_cons_zero, List.getD_cons_succ, List.length_cons, List.length_nil]
        rw [bt_nat (by omega), bt_nat (by omega), bt_nat (by omega)]; exact dn_back3 _ _ _ (by omega) (by omega)
      · rw [enc4 (by omega) (by omega)]; unfold decL
        simp only [List.cons_append, List.nil_append, List.getD_cons_zero, List.getD_cons_succ, List.length_cons, List.length_nil]
        rw [bt_nat (by omega), bt_nat (by omega), bt_nat (by omega), bt_nat (by omega)]; exact dn_back4 _ _ (by omega) (by omega) (by omega)
theorem dn_cases (n b0 b1 b2 b3 : Nat) (h0 : b0 < 256) (h1 : b1 < 256) (h2 : b2 < 256) (h3 : b3 < 256) (hb : Lib.decodeN n b0 b1 b2 b3 ≠ (65533, 1)) :
    b0 < 128 ∨ (∃ v, 2 ≤ n ∧ 128 ≤ v ∧ v ≤ 2047 ∧ b0 = 192 + v / 64 ∧ b1 = 128 + v % 64) ∨
    (∃ v, 3 ≤ n ∧ ((2048 ≤ v ∧ v < 55296) ∨ (57344 ≤ v ∧ v ≤ 65535)) ∧ b0 = 224 + v / 4096 ∧ b1 = 128 + v / 64 % 64 ∧ b2 = 128 + v % 64) ∨
    (∃ v, 4 ≤ n ∧ 65536 ≤ v ∧ v ≤ 1114111 ∧ b0 = 240 + v / 262144 ∧ b1 = 128 + v / 4096 % 64 ∧ b2 = 128 + v / 64 % 64 ∧ b3 = 128 + v % 64) := by
  revert hb
  unfold Lib.decodeN
  split
  · intro _; left; assumption
  split
  · split
    · intro _; right; left; exact ⟨b0 % 32 * 64 + b1 % 64, by omega⟩
    · intro h; exact absurd rfl h
  split
  · split
    · intro _; right; right; left; exact ⟨b0 % 16 * 4096 + b1 % 64 * 64 + b2 % 64, by omega⟩
    · intro h; exact absurd rfl h
  split
  · split
    · intro _; right; right; right; exact ⟨b0 % 8 * 262144 + b1 % 64 * 4096 + b2 % 64 * 64 + b3 % 64, by omega⟩
    · intro h; exact absurd rfl h
  · intro h; exact absurd rfl h
theorem bt_of {c : UInt8} {n : Nat} (h : c.toNat = n) : c = bt n := by subst h; simp [bt]
/-- Where no fault is met, bytes begin with a rune's bytes. -/
theorem decL_enc (l : List UInt8) (hl : l ≠ []) (hb : decL l ≠ (65533, 1)) : ∃ v t, validR v = true ∧ l = encL v ++ t := by
  unfold decL at hb
  rcases dn_cases _ _ _ _ _ (UInt8.toNat_lt _) (UInt8.toNat_lt _) (UInt8.toNat_lt _) (UInt8.toNat_lt _) hb with h | ⟨v, h⟩ | ⟨v, h⟩ | ⟨v, h⟩
  · match l, hl with
    | c :: t, _ =>
      simp only [List.getD_cons_zero] at h
      exact ⟨c.toNat, t, validR_iff.2 (by omega), by rw [enc1 h, ← bt_of rfl]; rfl⟩
  · match l, h with
    | c :: d :: t, h =>
      simp only [List.getD_cons_zero, List.getD_cons_succ] at h
      obtain ⟨_, a, b, e0, e1⟩ := h
      exact ⟨v, t, validR_iff.2 (by omega), by rw [enc2 a b, ← bt_of e0, ← bt_of e1]; rfl⟩
    | [c], h => simp at h
    | [], h => simp at h
  · match l, h with
    | c :: d :: e :: t, h =>
      simp only [List.getD_cons_zero, List.getD_cons_succ] at h
      obtain ⟨_, a, e0, e1, e2⟩ := h
      exact ⟨v, t, validR_iff.2 (by omega), by rw [enc3 a, ← bt_of e0, ← bt_of e1, ← bt_of e2]; rfl⟩
    | [c, d], h => simp at h
    | [c], h => simp at h
    | [], h => simp at h
  · match l, h with
    | c :: d :: e :: f :: t, h =>
      simp only [List.getD_cons_zero, List.getD_cons_succ] at h
      obtain ⟨_, a, b, e0, e1, e2, e3⟩ := h
      exact ⟨v, t, validR_iff.2 (by omega), by rw [enc4 a b, ← bt_of e0, ← bt_of e1, ← bt_of e2, ← bt_of e3]; rfl⟩
    | [c, d, e], h => simp at h
    | [c, d], h => simp at h
    | [c], h => simp at h
    | [], h => simp at h
/-- A rune's bytes: one below 128, or all from 128 on. -/
theorem encL_high (v : Nat) (hv : validR v = true) (h : 128 ≤ v) : ∀ c ∈ encL v, 128 ≤ c.toNat := by
  have hv' := validR_iff.1 hv
  intro c hc
  by_cases h2 : v ≤ 2047
  · rw [enc2 h h2] at hc
    simp only [List.mem_cons, List.not_mem_nil, or_false] at hc
    rcases hc with rfl | rfl <;> rw [bt_nat (by omega)] <;> omega
  · by_cases h3 : v ≤ 65535
    · rw [enc3 (by omega)] at hc
      simp only [List.mem_cons, List.not_mem_nil, or_false] at hc
      rcases hc with rfl | rfl | rfl <;> rw [bt_nat (by omega)] <;> omega
    · rw [enc4 (by omega) (by omega)] at hc
      simp only [List.mem_cons, List.not_mem_nil, or_false] at hc
      rcases hc with rfl | rfl | rfl | rfl <;> rw [bt_nat (by omega)] <;> omega
theorem enc_ne (v : Nat) : encL v ≠ [] := fun h => by have := (encL_len v).1; rw [h] at this; simp at this
theorem enc_byte (c : UInt8) (h : c.toNat < 128) : encL c.toNat = [c] := by rw [enc1 h, ← bt_of rfl]
/-- The rune's bytes are not those of a fault. -/
theorem enc_fine (v : Nat) (hv : validR v = true) (t : List UInt8) : decL (encL v ++ t) ≠ (65533, 1) := by
  rw [encL_dec v hv t]
  intro h
  have h1 := congrArg Prod.fst h
  have h2 := congrArg Prod.snd h
  simp only at h1 h2
  subst h1
  rw [enc3 (by omega)] at h2
  simp at h2

/-- Are bytes runes' bytes, one behind the other? -/
def vldL : Nat → List UInt8 → Bool
  | 0, _ => true
  | f + 1, l => if l = [] then true else if decL l = (65533, 1) then false else vldL f (l.drop (decL l).2)
theorem vldL_nil (f : Nat) : vldL f [] = true := by cases f <;> rfl
theorem vldL_enc (f v : Nat) (hv : validR v = true) (t : List UInt8) : vldL (f + 1) (encL v ++ t) = vldL f t := by
  have h0 : encL v ++ t ≠ [] := by simp [enc_ne v]
  rw [vldL, if_neg h0, if_neg (enc_fine v hv t), encL_dec v hv t]
  simp
theorem vldL_bad (f : Nat) (l : List UInt8) (hl : l ≠ []) (hb : decL l = (65533, 1)) : vldL (f + 1) l = false := by
  rw [vldL, if_neg hl, if_pos hb]
theorem vldL_fuel : ∀ (f g : Nat) (l : List UInt8), l.length ≤ f → l.length ≤ g → vldL f l = vldL g l
  | 0, g, l, hf, _ => by
    obtain rfl : l = [] := List.length_eq_zero_iff.1 (by omega)
    rw [vldL_nil, vldL_nil]
  | f + 1, 0, l, _, hg => by
    obtain rfl : l = [] := List.length_eq_zero_iff.1 (by omega)
    rw [vldL_nil, vldL_nil]
  | f + 1, g + 1, l, hf, hg => by
    by_cases hl : l = []
    · subst hl; rw [vldL_nil, vldL_nil]
    · by_cases hb : decL l = (65533, 1)
      · rw [vldL_bad f l hl hb, vldL_bad g l hl hb]
      · obtain ⟨v, t, hv, rfl⟩ := decL_enc l hl hb
        rw [vldL_enc f v hv, vldL_enc g v hv]
        have := (encL_len v).1
        simp only [List.length_append] at hf hg
        exact vldL_fuel f g t (by omega) (by omega)
def V (l : List UInt8) : Bool := vldL l.length l
theorem V_nil : V [] = true := rfl
theorem V_enc (v : Nat) (hv : validR v = true) (t : List UInt8) : V (encL v ++ t) = V t := by
  have h1 := (encL_len v).1
  unfold V
  rw [vldL_fuel (encL v ++ t).length (t.length + (encL v).length - 1 + 1) _ (Nat.le_refl _) (by simp; omega), vldL_enc _ v hv]
  exact vldL_fuel _ _ t (by omega) (Nat.le_refl _)
theorem V_bad (l : List UInt8) (hl : l ≠ []) (hb : decL l = (65533, 1)) : V l = false := by
  unfold V
  rw [vldL_fuel l.length (l.length + 1) l (Nat.le_refl _) (by omega)]
  exact vldL_bad _ l hl hb
/-- A text that may be and is not empty begins with a rune's bytes. -/
theorem V_open {l : List UInt8} (h : V l = true) (hl : l ≠ []) : ∃ v t, validR v = true ∧ l = encL v ++ t ∧ V t = true := by
  have hb : decL l ≠ (65533, 1) := fun hb => by rw [V_bad l hl hb] at h; cases h
  obtain ⟨v, t, hv, rfl⟩ := decL_enc l hl hb
  exact ⟨v, t, hv, rfl, by rwa [V_enc v hv t] at h⟩
theorem V_ind {P : List UInt8 → Prop} (h0 : P []) (h1 : ∀ v t, validR v = true → V t = true → P t → P (encL v ++ t)) : ∀ (n : Nat) (l : List UInt8), l.length ≤ n → V l = true → P l
  | 0, l, hn, _ => by
    obtain rfl : l = [] := List.length_eq_zero_iff.1 (by omega)
    exact h0
  | n + 1, l, hn, h => by
    by_cases hl : l = []
    · subst hl; exact h0
    · obtain ⟨v, t, hv, rfl, ht⟩ := V_open h hl
      have := (encL_len v).1
      rw [List.length_append] at hn
      exact h1 v t hv ht (V_ind h0 h1 n t (by omega) ht)
theorem V_byte (c : UInt8) (h : c.toNat < 128) (t : List UInt8) : V (c :: t) = V t := by
  have := V_enc c.toNat (validR_iff.2 (by omega)) t
  rwa [enc_byte c h] at this
theorem V_ascii : ∀ (a t : List UInt8), (∀ c ∈ a, c.toNat < 128) → V (a ++ t) = V t
  | [], t, _ => rfl
  | c :: a, t, h => by
    rw [List.cons_append, V_byte c (h c (by simp)), V_ascii a t (fun d hd => h d (by simp [hd]))]
/-- The program's check of a text is this one. -/
theorem vldFrom_L (s : ByteArray) : ∀ f pos, vldFrom s f pos = vldL f (s.data.toList.drop pos)
  | 0, pos => rfl
  | f + 1, pos => by
    have hlen : s.data.toList.length = s.size := by rw [← Lib.size_eq]
    by_cases hp : pos < s.size
    · have hne : s.data.toList.drop pos ≠ [] := fun h => by
        have := congrArg List.length h
        rw [List.length_drop, hlen] at this; simp at this; omega
      cases hb : badAt s pos with
      | true =>
        rw [vldFrom_bad s f pos hp hb]
        have := (bad_iff s pos).1 hb
        rw [decL_at] at this
        rw [vldL_bad f _ hne this]
      | false =>
        have hd : decL (s.data.toList.drop pos) ≠ (65533, 1) := fun h => by
          rw [← decL_at] at h
          have := (bad_iff s pos).2 h
          rw [hb] at this; cases this
        rw [vldFrom_step s f pos hp hb, vldFrom_L s f, vldL, if_neg hne, if_neg hd, List.drop_drop, decL_at]
    · rw [vldFrom_end s (f + 1) pos hp, List.drop_of_length_le (by omega), vldL_nil]
theorem vld_V (s : ByteArray) : vld s = V s.data.toList := by
  unfold vld V
  rw [vldFrom_L, List.drop_zero, ← Lib.size_eq]
/-- The runes of a text. -/
theorem runesFrom_enc (s : ByteArray) (f pos v : Nat) (t : List UInt8) (hv : validR v = true) (h : s.data.toList.drop pos = encL v ++ t) : runesFrom s (f + 1) pos = v :: runesFrom s f (pos + (encL v).length) := by
  have hlen : s.data.toList.length = s.size := by rw [← Lib.size_eq]
  have hp : pos < s.size := by
    have := congrArg List.length h
    rw [List.length_drop, hlen, List.length_append] at this
    have := (encL_len v).1
    omega
  rw [runesFrom_step s f pos hp, decL_at, h, encL_dec v hv]
theorem runes_one (v : Nat) (hv : validR v = true) : runesOf ⟨(encL v).toArray⟩ = [v] := by
  have h1 := (encL_len v).1
  have hd : (⟨(encL v).toArray⟩ : ByteArray).data.toList = encL v := rfl
  have hs : (⟨(encL v).toArray⟩ : ByteArray).size = (encL v).length := by rw [Lib.size_eq]
  unfold runesOf
  rw [hs]
  obtain ⟨k, hk⟩ : ∃ k, (encL v).length = k + 1 := ⟨(encL v).length - 1, by omega⟩
  rw [hk, runesFrom_enc _ k 0 v [] hv (by rw [hd]; simp), runesFrom_end]
  rw [hs]; omega
end Go.Proofs.YtlgkbdebpnbndaaGreatDoor
namespace Go.Proofs.YtlgkbdebpnbndaaGreatDoor
set_option linter.unusedVariables false
set_option linter.unusedSimpArgs false

/-- The sign that stands for a byte; the byte, where none does. -/
def escE (c : UInt8) : List UInt8 :=
  if c = 38 then [38, 97, 109, 112, 59] else if c = 60 then [38, 108, 116, 59] else if c = 62 then [38, 103, 116, 59] else if c = 34 then [38, 113, 117, 111, 116, 59] else if c = 39 then [38, 97, 112, 111, 115, 59] else if c = 13 then [38, 35, 49, 51, 59] else [c]
def escL (l : List UInt8) : List UInt8 := l.flatMap escE
theorem escL_nil : escL [] = [] := rfl
theorem escL_cons (c : UInt8) (l : List UInt8) : escL (c :: l) = escE c ++ escL l := rfl
theorem escL_app (a b : List UInt8) : escL (a ++ b) = escL a ++ escL b := by simp [escL]
theorem escE_len (c : UInt8) : (escE c).length ≤ 6 := by
  unfold escE
  repeat' split
  all_goals simp
theorem escL_len : ∀ l : List UInt8, (escL l).length ≤ 6 * l.length
  | [] => by simp [escL]
  | c :: l => by
    have := escE_len c; have := escL_len l
    rw [escL_cons, List.length_append, List.length_cons]; omega
theorem u8_neE {c d : UInt8} (h : c.toNat ≠ d.toNat) : c ≠ d := fun e => h (by rw [e])
theorem escE_high (c : UInt8) (h : 128 ≤ c.toNat) : escE c = [c] := by
  unfold escE
  rw [if_neg (u8_neE (by show c.toNat ≠ 38; omega)), if_neg (u8_neE (by show c.toNat ≠ 60; omega)), if_neg (u8_neE (by show c.toNat ≠ 62; omega)), if_neg (u8_neE (by show c.toNat ≠ 34; omega)), if_neg (u8_neE (by show c.toNat ≠ 39; omega)), if_neg (u8_neE (by show c.toNat ≠ 13; omega))]
theorem escL_high : ∀ l : List UInt8, (∀ c ∈ l, 128 ≤ c.toNat) → escL l = l
  | [], _ => rfl
  | c :: l, h => by rw [escL_cons, escE_high c (h c (by simp)), escL_high l (fun d hd => h d (by simp [hd]))]; rfl
theorem escE_ascii (c : UInt8) (h : c.toNat < 128) : ∀ d ∈ escE c, d.toNat < 128 := by
  unfold escE
  repeat' split
  all_goals (intro d hd; simp at hd)
  all_goals first
    | (rcases hd with rfl | rfl | rfl | rfl | rfl | rfl <;> decide)
    | (rcases hd with rfl | rfl | rfl | rfl | rfl <;> decide)
    | (rcases hd with rfl | rfl | rfl | rfl <;> decide)
    | (rw [hd]; exact h)
/-- What is written with signs may be, where the text may. -/
theorem V_esc (l : List UInt8) (h : V l = true) : V (escL l) = true := by
  refine V_ind (P := fun l => V (escL l) = true) rfl ?_ l.length l (Nat.le_refl _) h
  intro v t hv ht ih
  rw [escL_app]
  by_cases h1 : v < 128
  · rw [enc1 h1, escL_cons, escL_nil, List.append_nil, V_ascii _ _ (escE_ascii _ (by rw [bt_nat (by omega)]; exact h1))]
    exact ih
  · rw [escL_high _ (encL_high v hv (by omega)), V_enc v hv]; exact ih
/-- The sign of a rune; none for most. -/
def signV (v : Nat) : List UInt8 :=
  if v = 38 then [38, 97, 109, 112, 59] else if v = 60 then [38, 108, 116, 59] else if v = 62 then [38, 103, 116, 59] else if v = 34 then [38, 113, 117, 111, 116, 59] else if v = 39 then [38, 97, 112, 111, 115, 59] else if v = 13 then [38, 35, 49, 51, 59] else []
theorem u8_isE {c d : UInt8} : c = d ↔ c.toNat = d.toNat := ⟨fun e => by rw [e], UInt8.toNat_inj.1⟩
theorem esc_enc (v : Nat) (hv : validR v = true) : escL (encL v) = if signV v = [] then encL v else signV v := by
  by_cases h1 : v < 128
  · have e : ∀ d : UInt8, (bt v = d) = (v = d.toNat) := fun d => by rw [u8_isE, bt_nat (by omega)]
    rw [enc1 h1, escL_cons, escL_nil, List.append_nil]
    unfold escE signV
    simp only [e, show (38 : UInt8).toNat = 38 from rfl, show (60 : UInt8).toNat = 60 from rfl, show (62 : UInt8).toNat = 62 from rfl, show (34 : UInt8).toNat = 34 from rfl, show (39 : UInt8).toNat = 39 from rfl, show (13 : UInt8).toNat = 13 from rfl]
    repeat' split
    all_goals first | rfl | simp_all
  · rw [escL_high _ (encL_high v hv (by omega))]
    have : signV v = [] := by
      unfold signV
      rw [if_neg (by omega), if_neg (by omega), if_neg (by omega), if_neg (by omega), if_neg (by omega), if_neg (by omega)]
    rw [if_pos this]

/-! ### Signs turned to runes -/
/-- What a digit says; 99: it is none. -/
def digE (c : UInt8) : Nat := if 48 ≤ c.toNat ∧ c.toNat ≤ 57 then c.toNat - 48 else if 97 ≤ c.toNat ∧ c.toNat ≤ 102 then c.toNat - 97 + 10 else if 65 ≤ c.toNat ∧ c.toNat ≤ 70 then c.toNat - 65 + 10 else 99
def numE (b : Nat) (l : List UInt8) : Nat := l.foldl (fun a c => a * b + digE c) 0
def okD (b : Nat) (l : List UInt8) : Bool := l.all fun c => decide (digE c < b)
/-- May the rune of that number stand? -/
def runeN (n : Nat) : Option Nat := if validR n && xmlN n then some n else none
def numR (b most : Nat) (l : List UInt8) : Option Nat := if l ≠ [] ∧ l.length ≤ most ∧ okD b l = true then runeN (numE b l) else none
def nameR (l : List UInt8) : Option Nat :=
  if l = [97, 109, 112] then some 38 else if l = [108, 116] then some 60 else if l = [103, 116] then some 62 else if l = [113, 117, 111, 116] then some 34 else if l = [97, 112, 111, 115] then some 39 else none
/-- The rune of what stands between & and ;. -/
def runeR (l : List UInt8) : Option Nat := match l with
  | 35 :: 120 :: d => numR 16 6 d
  | 35 :: d => numR 10 7 d
  | l => nameR l
/-- What stands ahead of the first semicolon, and what behind it. -/
def cutE : List UInt8 → Option (List UInt8 × List UInt8)
  | [] => none
  | c :: r => if c = 59 then some ([], r) else (cutE r).map fun p => (c :: p.1, p.2)
theorem cutE_some : ∀ (l b t : List UInt8), cutE l = some (b, t) → l = b ++ 59 :: t ∧ ∀ c ∈ b, c ≠ 59
  | [], b, t, h => by simp [cutE] at h
  | c :: r, b, t, h => by
    simp only [cutE] at h
    by_cases hc : c = 59
    · rw [if_pos hc] at h
      simp at h
      obtain ⟨rfl, rfl⟩ := h
      exact ⟨by rw [hc]; rfl, fun _ h => by simp at h⟩
    · rw [if_neg hc] at h
      cases hr : cutE r with
      | none => rw [hr] at h; simp at h
      | some p =>
        rw [hr] at h
        simp at h
        obtain ⟨rfl, rfl⟩ := h
        obtain ⟨h1, h2⟩ := cutE_some r p.1 p.2 (by rw [hr])
        refine ⟨by rw [List.cons_append, ← h1], fun d hd => ?_⟩
        rcases List.mem_cons.1 hd with rfl | hd
        · exact hc
        · exact h2 d hd
theorem cutE_none : ∀ l : List UInt8, cutE l = none ↔ ∀ c ∈ l, c ≠ 59
  | [] => by simp [cutE]
  | c :: r => by
    simp only [cutE]
    by_cases hc : c = 59
    · simp [hc]
    · rw [if_neg hc, Option.map_eq_none_iff, cutE_none r]
      simp [hc]
theorem cutE_mk : ∀ (b t : List UInt8), (∀ c ∈ b, c ≠ 59) → cutE (b ++ 59 :: t) = some (b, t)
  | [], t, _ => by simp [cutE]
  | c :: b, t, h => by
    rw [List.cons_append]
    simp only [cutE]
    rw [if_neg (h c (by simp)), cutE_mk b t (fun d hd => h d (by simp [hd]))]; rfl
/-- Signs turned to runes; none: it can't be. -/
def unF : Nat → List UInt8 → Option (List UInt8)
  | 0, _ => some []
  | _ + 1, [] => some []
  | f + 1, c :: r => if c = 38 then (match cutE r with
      | none => none
      | some (b, t) => match runeR b with
        | none => none
        | some n => (unF f t).map (encL n ++ ·)) else (unF f r).map (c :: ·)
theorem unF_nil (f : Nat) : unF f [] = some [] := by cases f <;> rfl
theorem unF_fuel : ∀ (f g : Nat) (l : List UInt8), l.length ≤ f → l.length ≤ g → unF f l = unF g l
  | 0, g, l, hf, _ => by
    obtain rfl : l = [] := List.length_eq_zero_iff.1 (by omega)
    rw [unF_nil, unF_nil]
  | f + 1, 0, l, _, hg => by
    obtain rfl : l = [] := List.length_eq_zero_iff.1 (by omega)
    rw [unF_nil, unF_nil]
  | f + 1, g + 1, [], _, _ => by rw [unF_nil, unF_nil]
  | f + 1, g + 1, c :: r, hf, hg => by
    simp only [List.length_cons] at hf hg
    simp only [unF]
    split
    · cases hc : cutE r with
      | none => rfl
      | some p =>
        obtain ⟨b, t⟩ := p
        have hl := congrArg List.length (cutE_some r b t hc).1
        simp only [List.length_append, List.length_cons] at hl
        show (match runeR b with | none => none | some n => (unF f t).map (encL n ++ ·)) = (match runeR b with | none => none | some n => (unF g t).map (encL n ++ ·))
        rw [unF_fuel f g t (by omega) (by omega)]
    · rw [unF_fuel f g r (by omega) (by omega)]
def unL (l : List UInt8) : Option (List UInt8) := unF l.length l
/-- The same, of a text that may be. -/
def unA (l : List UInt8) : Option (List UInt8) := if V l then unL l else none
theorem unL_nil : unL [] = some [] := rfl
theorem unL_cons (c : UInt8) (r : List UInt8) (h : c ≠ 38) : unL (c :: r) = (unL r).map (c :: ·) := by
  unfold unL
  rw [List.length_cons, unF, if_neg h]
theorem unL_no (r : List UInt8) (h : cutE r = none) : unL (38 :: r) = none := by
  unfold unL
  rw [List.length_cons, unF, if_pos rfl, h]
theorem unL_bad (r b t : List UInt8) (h : cutE r = some (b, t)) (h2 : runeR b = none) : unL (38 :: r) = none := by
  unfold unL
  rw [List.length_cons, unF, if_pos rfl, h]
  simp only [h2]
theorem unL_ok (r b t : List UInt8) (n : Nat) (h : cutE r = some (b, t)) (h2 : runeR b = some n) : unL (38 :: r) = (unL t).map (encL n ++ ·) := by
  have hl := congrArg List.length (cutE_some r b t h).1
  simp only [List.length_append, List.length_cons] at hl
  unfold unL
  rw [List.length_cons, unF, if_pos rfl, h]
  simp only [h2]
  rw [unF_fuel r.length t.length t (by omega) (Nat.le_refl _)]
theorem unL_app : ∀ (a t : List UInt8), (∀ c ∈ a, c ≠ 38) → unL (a ++ t) = (unL t).map (a ++ ·)
  | [], t, _ => by simp
  | c :: a, t, h => by
    rw [List.cons_append, unL_cons c _ (h c (by simp)), unL_app a t (fun d hd => h d (by simp [hd]))]
    cases unL t <;> simp
/-- A rune that is no & is left. -/
theorem unL_enc (v : Nat) (hv : validR v = true) (h : v ≠ 38) (t : List UInt8) : unL (encL v ++ t) = (unL t).map (encL v ++ ·) := by
  refine unL_app _ _ fun c hc => ?_
  by_cases h1 : v < 128
  · rw [enc1 h1] at hc
    simp at hc
    subst hc
    exact u8_neE (by rw [bt_nat (by omega)]; exact h)
  · have := encL_high v hv (by omega) c hc
    exact u8_neE (by show c.toNat ≠ 38; omega)
theorem run13 : runeR [35, 49, 51] = some 13 := by decide +kernel
theorem unL_sign (b t : List UInt8) (n : Nat) (hb : ∀ c ∈ b, c ≠ 59) (h : runeR b = some n) : unL (38 :: (b ++ 59 :: t)) = (unL t).map (encL n ++ ·) := unL_ok _ b t n (cutE_mk b t hb) h
/-- What was written with signs is turned back. -/
theorem un_esc : ∀ l : List UInt8, unL (escL l) = some l
  | [] => rfl
  | c :: l => by
    have ih := un_esc l
    rw [escL_cons]
    unfold escE
    repeat' split
    · rw [show [38, 97, 109, 112, 59] ++ escL l = 38 :: ([97, 109, 112] ++ 59 :: escL l) from rfl, unL_sign _ _ 38 (by decide) (by decide +kernel), ih]; rename_i h; rw [h]; rfl
    · rw [show [38, 108, 116, 59] ++ escL l = 38 :: ([108, 116] ++ 59 :: escL l) from rfl, unL_sign _ _ 60 (by decide) (by decide +kernel), ih]; rename_i h; rw [h]; rfl
    · rw [show [38, 103, 116, 59] ++ escL l = 38 :: ([103, 116] ++ 59 :: escL l) from rfl, unL_sign _ _ 62 (by decide) (by decide +kernel), ih]; rename_i h; rw [h]; rfl
    · rw [show [38, 113, 117, 111, 116, 59] ++ escL l = 38 :: ([113, 117, 111, 116] ++ 59 :: escL l) from rfl, unL_sign _ _ 34 (by decide) (by decide +kernel), ih]; rename_i h; rw [h]; rfl
    · rw [show [38, 97, 112, 111, 115, 59] ++ escL l = 38 :: ([97, 112, 111, 115] ++ 59 :: escL l) from rfl, unL_sign _ _ 39 (by decide) (by decide +kernel), ih]; rename_i h; rw [h]; rfl
    · rw [show [38, 35, 49, 51, 59] ++ escL l = 38 :: ([35, 49, 51] ++ 59 :: escL l) from rfl, unL_sign _ _ 13 (by decide) (by decide +kernel), ih]; rename_i h; rw [h]; rfl
    · rw [show [c] ++ escL l = c :: escL l from rfl, unL_cons c _ (by assumption), ih]; rfl
/-- What a reference names is of ASCII. -/
theorem dig_ascii (b : Nat) (hb : b ≤ 16) (c : UInt8) (h : digE c < b) : c.toNat < 128 := by
  unfold digE at h
  repeat' split at h
  all_goals omega
theorem numR_ascii {b most : Nat} {l : List UInt8} {n : Nat} (hb : b ≤ 16) (h : numR b most l = some n) : ∀ c ∈ l, c.toNat < 128 := by
  unfold numR at h
  split at h
  · rename_i hh
    intro c hc
    have := List.all_eq_true.1 hh.2.2 c hc
    exact dig_ascii b hb c (by simpa using this)
  · cases h
theorem nameR_ascii {l : List UInt8} {n : Nat} (h : nameR l = some n) : ∀ c ∈ l, c.toNat < 128 := by
  unfold nameR at h
  repeat' split at h
  all_goals first | (rename_i hh; subst hh; decide) | cases h | skip
theorem runeR_ascii {l : List UInt8} {n : Nat} (h : runeR l = some n) : ∀ c ∈ l, c.toNat < 128 := by
  unfold runeR at h
  split at h
  · intro c hc
    rcases List.mem_cons.1 hc with rfl | hc
    · decide
    · rcases List.mem_cons.1 hc with rfl | hc
      · decide
      · exact numR_ascii (by decide) h c hc
  · intro c hc
    rcases List.mem_cons.1 hc with rfl | hc
    · decide
    · exact numR_ascii (by decide) h c hc
  · exact nameR_ascii h
theorem runeN_some {n m : Nat} (h : runeN n = some m) : m = n ∧ validR n = true ∧ xmlN n = true := by
  unfold runeN at h
  split at h
  · rename_i hh
    rw [Bool.and_eq_true] at hh
    exact ⟨(Option.some.inj h).symm, hh.1, hh.2⟩
  · cases h
theorem runeR_valid {l : List UInt8} {n : Nat} (h : runeR l = some n) : validR n = true := by
  have aux : ∀ b m d, numR b m d = some n → validR n = true := fun b m d h => by
    unfold numR at h
    split at h
    · obtain ⟨e, h1, _⟩ := runeN_some h
      rw [e]; exact h1
    · cases h
  unfold runeR at h
  split at h
  · exact aux _ _ _ h
  · exact aux _ _ _ h
  · unfold nameR at h
    repeat' split at h
    all_goals first | (have := Option.some.inj h; subst this; decide) | cases h

/-! ### Lines -/
/-- Line feeds alone. -/
def linE : List UInt8 → List UInt8
  | [] => []
  | c :: r => if c ≠ 13 then c :: linE r else if r.head? = some 10 then linE r else 10 :: linE r
theorem linE_len : ∀ l : List UInt8, (linE l).length ≤ l.length
  | [] => Nat.le_refl _
  | c :: r => by
    have := linE_len r
    simp only [linE]
    repeat' split
    all_goals (simp only [List.length_cons]; omega)
theorem linE_plain : ∀ l : List UInt8, (∀ c ∈ l, c ≠ 13) → linE l = l
  | [], _ => rfl
  | c :: r, h => by
    simp only [linE]
    rw [if_pos (h c (by simp)), linE_plain r (fun d hd => h d (by simp [hd]))]
theorem escL_no13 (l : List UInt8) : ∀ c ∈ escL l, c ≠ 13 := by
  intro c hc
  obtain ⟨d, _, hd⟩ := List.mem_flatMap.1 hc
  unfold escE at hd
  repeat' split at hd
  all_goals simp at hd
  all_goals first
    | (rcases hd with rfl | rfl | rfl | rfl | rfl | rfl <;> decide)
    | (rcases hd with rfl | rfl | rfl | rfl | rfl <;> decide)
    | (rcases hd with rfl | rfl | rfl | rfl <;> decide)
    | (rw [hd]; assumption)
theorem lin_esc (l : List UInt8) : linE (escL l) = escL l := linE_plain _ (escL_no13 l)
/-- Every instance replaced, from the left. -/
def repF (old new : List UInt8) : Nat → List UInt8 → List UInt8
  | 0, l => l
  | _ + 1, [] => []
  | f + 1, c :: r => if old.isPrefixOf (c :: r) then new ++ repF old new f ((c :: r).drop old.length) else c :: repF old new f r
theorem repF_nil (old new : List UInt8) (f : Nat) : repF old new f [] = [] := by cases f <;> rfl
theorem index_none_cons {c : UInt8} {r old : List UInt8} (h : Lib.index (c :: r) old = -1) : old.isPrefixOf (c :: r) = false ∧ Lib.index r old = -1 := by
  unfold Lib.index at h
  cases hp : old.isPrefixOf (c :: r) with
  | true => rw [hp, if_pos rfl] at h; cases h
  | false =>
    rw [hp, if_neg (by simp)] at h
    refine ⟨rfl, ?_⟩
    by_cases hi : (Lib.index r old == -1) = true
    · exact beq_iff_eq.1 hi
    · rw [if_neg hi] at h
      have := Lib.index_ge r old
      omega
theorem repF_none (old new : List UInt8) : ∀ (f : Nat) (l : List UInt8), Lib.index l old = -1 → repF old new f l = l
  | 0, l, _ => rfl
  | f + 1, [], _ => rfl
  | f + 1, c :: r, h => by
    obtain ⟨h1, h2⟩ := index_none_cons h
    simp only [repF]
    rw [if_neg (by rw [h1]; simp), repF_none old new f r h2]
theorem index_hit {l old : List UInt8} {i : Nat} (h1 : 1 ≤ old.length) (h : Lib.index l old = (i : Int)) : match i with
    | 0 => old.isPrefixOf l = true ∧ l ≠ []
    | k + 1 => ∃ c r, l = c :: r ∧ old.isPrefixOf (c :: r) = false ∧ Lib.index r old = (k : Int) := by
  cases l with
  | nil =>
    unfold Lib.index at h
    rw [if_neg (by cases old <;> simp at h1 ⊢)] at h
    omega
  | cons c r =>
    unfold Lib.index at h
    cases hp : old.isPrefixOf (c :: r) with
    | true =>
      rw [hp, if_pos rfl] at h
      obtain rfl : i = 0 := by omega
      exact ⟨rfl, by simp⟩
    | false =>
      rw [hp, if_neg (by simp)] at h
      by_cases hi : (Lib.index r old == -1) = true
      · rw [if_pos hi] at h; omega
      · rw [if_neg hi] at h
        have hg := Lib.index_ge r old
        have hne : Lib.index r old ≠ -1 := fun e => hi (beq_iff_eq.2 e)
        cases i with
        | zero => omega
        | succ k => exact ⟨c, r, rfl, hp, by omega⟩
/-- Up to the first instance nothing is replaced. -/
theorem repF_hit (old new : List UInt8) (h1 : 1 ≤ old.length) : ∀ (i : Nat) (l : List UInt8) (f : Nat), Lib.index l old = (i : Int) → l.length ≤ f → ∃ g, (l.drop (i + old.length)).length ≤ g ∧ repF old new f l = l.take i ++ new ++ repF old new g (l.drop (i + old.length))
  | 0, l, f, h, hf => by
    obtain ⟨hp, hne⟩ := index_hit h1 h
    match l, hne with
    | c :: r, _ =>
      simp only [List.length_cons] at hf
      obtain ⟨f, rfl⟩ : ∃ f', f = f' + 1 := ⟨f - 1, by omega⟩
      refine ⟨f, ?_, ?_⟩
      · rw [List.length_drop, List.length_cons]; omega
      · simp only [repF]
        rw [if_pos hp, Nat.zero_add]; simp
  | i + 1, l, f, h, hf => by
    obtain ⟨c, r, rfl, hp, hr⟩ := index_hit h1 h
    simp only [List.length_cons] at hf
    obtain ⟨f, rfl⟩ : ∃ f', f = f' + 1 := ⟨f - 1, by omega⟩
    obtain ⟨g, hg, e⟩ := repF_hit old new h1 i r f hr (by omega)
    refine ⟨g, ?_, ?_⟩
    · rw [show i + 1 + old.length = (i + old.length) + 1 from by omega, List.drop_succ_cons]; exact hg
    · simp only [repF]
      rw [if_neg (by rw [hp]; simp), e, show i + 1 + old.length = (i + old.length) + 1 from by omega, List.drop_succ_cons, List.take_succ_cons]
      simp
theorem replaceK_rep (old new : List UInt8) (h1 : 1 ≤ old.length) : ∀ (k : Nat) (l : List UInt8) (f : Nat), l.length ≤ f → Lib.count l old ≤ k → Lib.replaceK old new k l = repF old new f l
  | k, l, f, hf, hk => by
    by_cases hi : Lib.index l old = -1
    · rw [repF_none old new f l hi]
      cases k with
      | zero => rfl
      | succ k => rw [Lib.replaceK, if_pos (by rw [hi]; rfl)]
    · have hg := Lib.index_ge l old
      obtain ⟨i, h⟩ : ∃ i : Nat, Lib.index l old = (i : Int) := ⟨(Lib.index l old).toNat, by omega⟩
      obtain ⟨g, hg2, e⟩ := repF_hit old new h1 i l f h hf
      have hc : Lib.count l old = 1 + Lib.count (l.drop (i + old.length)) old := Lib.count_hit (fun e0 => by rw [e0] at h1; simp at h1) h
      cases k with
      | zero => omega
      | succ k =>
        rw [Lib.replaceK_hit old new k l i h, e, replaceK_rep old new h1 k _ g hg2 (by omega)]
/-- strings.ReplaceAll at an old that is not empty. -/
theorem replaceAll_rep (old new l : List UInt8) (h1 : 1 ≤ old.length) (hne : old ≠ new) : Lib.replaceAll l old new = repF old new l.length l := by
  unfold Lib.replaceAll Lib.replace
  rw [if_neg (by simpa using hne)]
  refine replaceK_rep old new h1 _ l l.length (Nat.le_refl _) ?_
  unfold Lib.replaceNum
  rw [if_pos (Or.inl (by decide))]
  exact Nat.le_refl _
/-- One byte for another. -/
theorem rep_one (x y : UInt8) : ∀ (f : Nat) (l : List UInt8), l.length ≤ f → repF [x] [y] f l = l.map fun c => if c = x then y else c
  | 0, l, h => by
    obtain rfl : l = [] := List.length_eq_zero_iff.1 (by omega)
    rfl
  | f + 1, [], _ => rfl
  | f + 1, c :: r, h => by
    simp only [List.length_cons] at h
    simp only [repF, List.map_cons]
    by_cases hc : c = x
    · subst hc
      rw [if_pos (by simp [List.isPrefixOf]), if_pos rfl]
      simp only [List.length_cons, List.length_nil, List.drop_succ_cons, List.drop_zero]
      rw [rep_one c y f r (by omega)]; rfl
    · rw [if_neg (by simp [List.isPrefixOf]; exact fun e => hc e.symm), if_neg hc, rep_one x y f r (by omega)]
theorem rep_lines : ∀ (n f : Nat) (l : List UInt8), l.length ≤ n → l.length ≤ f → (repF [13, 10] [10] f l).map (fun c => if c = 13 then 10 else c) = linE l
  | _, 0, l, _, h => by
    obtain rfl : l = [] := List.length_eq_zero_iff.1 (by omega)
    rfl
  | 0, f + 1, l, h, _ => by
    obtain rfl : l = [] := List.length_eq_zero_iff.1 (by omega)
    rfl
  | n + 1, f + 1, [], _, _ => rfl
  | n + 1, f + 1, c :: r, hn, hf => by
    simp only [List.length_cons] at hn hf
    simp only [repF, linE]
    by_cases hc : c = 13
    · subst hc
      match r with
      | [] =>
        rw [if_neg (by simp [List.isPrefixOf]), repF_nil]
        simp [linE]
      | d :: t =>
        simp only [List.length_cons] at hn hf
        by_cases hd : d = 10
        · subst hd
          rw [if_pos (by simp [List.isPrefixOf])]
          simp only [List.length_cons, List.length_nil, List.drop_succ_cons, List.drop_zero, List.cons_append, List.nil_append, List.map_cons]
          rw [rep_lines n f t (by omega) (by omega)]
          simp [linE]
        · rw [if_neg (by simp [List.isPrefixOf]; exact fun e => hd e.symm), List.map_cons, rep_lines n f (d :: t) (by simp; omega) (by simp; omega)]
          simp [hd]
    · rw [if_neg (by simp [List.isPrefixOf]; exact fun e _ => hc e.symm), List.map_cons, rep_lines n f r (by omega) (by omega)]
      simp [hc]
/-- Tabs and line feeds are blanks. -/
def blankE (l : List UInt8) : List UInt8 := l.map fun c => if c = 9 ∨ c = 10 then 32 else c
theorem blank_two (l : List UInt8) : (l.map fun c => if c = 10 then (32 : UInt8) else c).map (fun c => if c = 9 then 32 else c) = blankE l := by
  rw [List.map_map]
  apply List.map_congr_left
  intro c _
  simp only [Function.comp]
  by_cases h1 : c = 10
  · subst h1; decide
  · by_cases h2 : c = 9
    · subst h2; decide
    · simp [h1, h2]
end Go.Proofs.YtlgkbdebpnbndaaGreatDoor
namespace Go.Proofs.YtlgkbdebpnbndaaGreatDoor
set_option linter.unusedVariables false
set_option linter.unusedSimpArgs false

theorem mk_data (l : List UInt8) : (⟨l.toArray⟩ : ByteArray).data.toList = l := rfl
theorem mk_size (l : List UInt8) : (⟨l.toArray⟩ : ByteArray).size = l.length := by rw [Lib.size_eq]
/-- The runes from a place on hang on what stands from there on. -/
theorem runes_shift (a t : List UInt8) : ∀ f pos, runesFrom ⟨(a ++ t).toArray⟩ f (a.length + pos) = runesFrom ⟨t.toArray⟩ f pos
  | 0, pos => rfl
  | f + 1, pos => by
    have hd : Utf8.decode ⟨(a ++ t).toArray⟩ (a.length + pos) = Utf8.decode ⟨t.toArray⟩ pos := by
      rw [decL_at, decL_at, mk_data, mk_data]
      rw [List.drop_append, show a.length + pos - a.length = pos from by omega, List.drop_of_length_le (by omega)]; rfl
    by_cases hp : pos < t.length
    · rw [runesFrom_step _ f _ (by rw [mk_size, List.length_append]; omega), runesFrom_step _ f _ (by rw [mk_size]; exact hp), hd, Nat.add_assoc, runes_shift a t f]
    · rw [runesFrom_end _ _ _ (by rw [mk_size, List.length_append]; omega), runesFrom_end _ _ _ (by rw [mk_size]; exact hp)]
theorem runes_fuel (s : ByteArray) : ∀ f g pos, s.size ≤ pos + f → s.size ≤ pos + g → runesFrom s f pos = runesFrom s g pos
  | 0, g, pos, hf, _ => by rw [runesFrom_end s 0 pos (by omega), runesFrom_end s g pos (by omega)]
  | f + 1, 0, pos, _, hg => by rw [runesFrom_end s (f + 1) pos (by omega), runesFrom_end s 0 pos (by omega)]
  | f + 1, g + 1, pos, hf, hg => by
    by_cases hp : pos < s.size
    · have := Lib.decode_width_pos s pos hp
      rw [runesFrom_step s f pos hp, runesFrom_step s g pos hp, runes_fuel s f g _ (by omega) (by omega)]
    · rw [runesFrom_end s _ pos hp, runesFrom_end s _ pos hp]
theorem runes_enc (v : Nat) (hv : validR v = true) (t : List UInt8) : runesOf ⟨(encL v ++ t).toArray⟩ = v :: runesOf ⟨t.toArray⟩ := by
  have h1 := (encL_len v).1
  unfold runesOf
  rw [mk_size, mk_size]
  obtain ⟨k, hk⟩ : ∃ k, (encL v ++ t).length = k + 1 := ⟨(encL v ++ t).length - 1, by rw [List.length_append]; omega⟩
  rw [hk, runesFrom_enc _ k 0 v t hv (by rw [mk_data]; simp)]
  have hs := runes_shift (encL v) t k 0
  rw [Nat.add_zero] at hs
  rw [Nat.zero_add, hs]
  congr 1
  rw [List.length_append] at hk
  exact runes_fuel _ _ _ _ (by rw [mk_size]; omega) (by rw [mk_size]; omega)
/-- May a text stand in XML? -/
def X (l : List UInt8) : Bool := V l && xmlB ⟨l.toArray⟩
theorem X_nil : X [] = true := by decide +kernel
theorem X_V {l : List UInt8} (h : X l = true) : V l = true := by unfold X at h; rw [Bool.and_eq_true] at h; exact h.1
theorem X_enc (v : Nat) (hv : validR v = true) (t : List UInt8) : X (encL v ++ t) = (xmlN v && X t) := by
  unfold X xmlB
  rw [V_enc v hv, runes_enc v hv, List.all_cons]
  cases V t <;> cases xmlN v <;> simp
theorem X_open {l : List UInt8} (h : X l = true) (hl : l ≠ []) : ∃ v t, validR v = true ∧ xmlN v = true ∧ l = encL v ++ t ∧ X t = true := by
  obtain ⟨v, t, hv, rfl, _⟩ := V_open (X_V h) hl
  rw [X_enc v hv, Bool.and_eq_true] at h
  exact ⟨v, t, hv, h.1, rfl, h.2⟩
theorem X_ind {P : List UInt8 → Prop} (h0 : P []) (h1 : ∀ v t, validR v = true → xmlN v = true → X t = true → P t → P (encL v ++ t)) : ∀ (n : Nat) (l : List UInt8), l.length ≤ n → X l = true → P l
  | 0, l, hn, _ => by
    obtain rfl : l = [] := List.length_eq_zero_iff.1 (by omega)
    exact h0
  | n + 1, l, hn, h => by
    by_cases hl : l = []
    · subst hl; exact h0
    · obtain ⟨v, t, hv, hx, rfl, ht⟩ := X_open h hl
      have := (encL_len v).1
      rw [List.length_append] at hn
      exact h1 v t hv hx ht (X_ind h0 h1 n t (by omega) ht)
theorem X_app {a : List UInt8} (h : X a = true) (b : List UInt8) : X (a ++ b) = X b := by
  refine X_ind (P := fun a => X (a ++ b) = X b) rfl ?_ a.length a (Nat.le_refl _) h
  intro v t hv hx ht ih
  rw [List.append_assoc, X_enc v hv, hx, ih]; rfl
theorem X_byte (c : UInt8) (h : c.toNat < 128) (t : List UInt8) : X (c :: t) = (xmlN c.toNat && X t) := by
  have := X_enc c.toNat (validR_iff.2 (by omega)) t
  rwa [enc_byte c h] at this
theorem X_ascii : ∀ (a t : List UInt8), (∀ c ∈ a, c.toNat < 128 ∧ xmlN c.toNat = true) → X (a ++ t) = X t
  | [], t, _ => rfl
  | c :: a, t, h => by
    have hc := h c (by simp)
    rw [List.cons_append, X_byte c hc.1, hc.2, X_ascii a t (fun d hd => h d (by simp [hd]))]; rfl
/-- At a byte of ASCII a text that may stand is cut in two that may. -/
theorem X_cut : ∀ (n : Nat) (a : List UInt8) (c : UInt8) (b : List UInt8), a.length ≤ n → c.toNat < 128 → X (a ++ c :: b) = true → X a = true ∧ X b = true ∧ xmlN c.toNat = true
  | n, [], c, b, _, hc, h => by
    rw [List.nil_append, X_byte c hc, Bool.and_eq_true] at h
    exact ⟨X_nil, h.2, h.1⟩
  | 0, x :: a, c, b, hn, _, _ => by simp at hn
  | n + 1, x :: a, c, b, hn, hc, h => by
    obtain ⟨v, t, hv, hx, he, ht⟩ := X_open h (by simp)
    have h1 := (encL_len v).1
    by_cases hl : (encL v).length ≤ (x :: a).length
    · have e1 : (x :: a) = encL v ++ (x :: a).drop (encL v).length := by
        have := congrArg (List.take (encL v).length) he
        rw [List.take_append_of_le_length hl, List.take_left' rfl] at this
        conv => lhs; rw [← List.take_append_drop (encL v).length (x :: a), this]
      have e2 : (x :: a).drop (encL v).length ++ c :: b = t := by
        have := congrArg (List.drop (encL v).length) he
        rw [List.drop_append_of_le_length hl, List.drop_left' rfl] at this
        exact this
      rw [← e2] at ht
      obtain ⟨i1, i2, i3⟩ := X_cut n ((x :: a).drop (encL v).length) c b (by rw [List.length_drop]; omega) hc ht
      refine ⟨?_, i2, i3⟩
      rw [e1, X_enc v hv, hx, i1]; rfl
    · exfalso
      have hmem : c ∈ encL v := by
        have h2 : (encL v ++ t)[(x :: a).length]? = some c := by rw [← he]; simp
        rw [List.getElem?_append_left (by omega)] at h2
        exact List.mem_of_getElem? h2
      have hv128 : 128 ≤ v := by
        rcases Nat.lt_or_ge v 128 with h3 | h3
        · rw [enc1 h3] at hl; simp at hl
        · exact h3
      have := encL_high v hv hv128 c hmem
      omega
theorem X_left {a b : List UInt8} {c : UInt8} (hc : c.toNat < 128) (h : X (a ++ c :: b) = true) : X a = true := (X_cut _ a c b (Nat.le_refl _) hc h).1
theorem X_right {a b : List UInt8} {c : UInt8} (hc : c.toNat < 128) (h : X (a ++ c :: b) = true) : X b = true := (X_cut _ a c b (Nat.le_refl _) hc h).2.1
theorem X_tail {c : UInt8} {b : List UInt8} (hc : c.toNat < 128) (h : X (c :: b) = true) : X b = true := X_right (a := []) hc h
/-- Behind bytes of ASCII. -/
theorem X_behind : ∀ (a b : List UInt8), (∀ c ∈ a, c.toNat < 128) → X (a ++ b) = true → X b = true
  | [], b, _, h => h
  | c :: a, b, ha, h => X_behind a b (fun d hd => ha d (by simp [hd])) (X_tail (ha c (by simp)) h)
theorem X_drop (a b : List UInt8) (l : List UInt8) (he : l = a ++ b) (ha : ∀ c ∈ a, c.toNat < 128) (h : X l = true) : X b = true := X_behind a b ha (by rw [← he]; exact h)
theorem X_dropWhile (p : UInt8 → Bool) (hp : ∀ c, p c = true → c.toNat < 128) (l : List UInt8) (h : X l = true) : X (l.dropWhile p) = true :=
  X_drop (l.takeWhile p) (l.dropWhile p) l List.takeWhile_append_dropWhile.symm (fun c hc => hp c (by have := List.all_takeWhile (l := l) (p := p); exact List.all_eq_true.1 this c hc)) h
/-- A rune that a sign stands for may stand. -/
theorem runeR_xml {l : List UInt8} {n : Nat} (h : runeR l = some n) : xmlN n = true := by
  have aux : ∀ b m d, numR b m d = some n → xmlN n = true := fun b m d h => by
    unfold numR at h
    split at h
    · obtain ⟨e, _, h1⟩ := runeN_some h
      rw [e]; exact h1
    · cases h
  unfold runeR at h
  split at h
  · exact aux _ _ _ h
  · exact aux _ _ _ h
  · unfold nameR at h
    repeat' split at h
    all_goals first | (have := Option.some.inj h; subst this; decide) | cases h
/-- Signs turned to runes: what may stand stays so. -/
theorem X_un : ∀ (n : Nat) (l t : List UInt8), l.length ≤ n → X l = true → unL l = some t → X t = true
  | n, [], t, _, _, hu => by
    rw [unL_nil] at hu
    rw [← Option.some.inj hu]; exact X_nil
  | 0, c :: r, t, hn, _, _ => by simp at hn
  | n + 1, c :: r, t, hn, h, hu => by
    obtain ⟨v, q, hv, hx, he, hq⟩ := X_open h (by simp)
    have h1 := (encL_len v).1
    have hlen := congrArg List.length he
    rw [List.length_append] at hlen
    by_cases h38 : v = 38
    · have e38 : encL v = [38] := by subst h38; decide
      rw [e38] at he
      rw [he, List.cons_append, List.nil_append] at hu
      cases hc : cutE q with
      | none => rw [unL_no q hc] at hu; cases hu
      | some p =>
        obtain ⟨b, z⟩ := p
        cases hr : runeR b with
        | none => rw [unL_bad q b z hc hr] at hu; cases hu
        | some m =>
          rw [unL_ok q b z m hc hr] at hu
          cases hz : unL z with
          | none => rw [hz] at hu; cases hu
          | some tz =>
            rw [hz] at hu
            have hq2 := (cutE_some q b z hc).1
            have hXz : X z = true := X_right (a := b) (c := 59) (by decide) (by rw [← hq2]; exact hq)
            have hl2 := congrArg List.length hq2
            rw [List.length_append, List.length_cons] at hl2
            have ih := X_un n z tz (by rw [e38] at hlen; simp only [List.length_cons] at hlen hn; simp at hlen; omega) hXz hz
            have ht : encL m ++ tz = t := Option.some.inj hu
            rw [← ht, X_enc m (runeR_valid hr), runeR_xml hr, ih]; rfl
    · rw [he, unL_enc v hv h38] at hu
      cases hz : unL q with
      | none => rw [hz] at hu; cases hu
      | some tz =>
        rw [hz] at hu
        have ih := X_un n q tz (by simp only [List.length_cons] at hlen hn; omega) hq hz
        have ht : encL v ++ tz = t := Option.some.inj hu
        rw [← ht, X_enc v hv, hx, ih]; rfl
theorem linE_app : ∀ (a t : List UInt8), (∀ c ∈ a, c ≠ 13) → linE (a ++ t) = a ++ linE t
  | [], t, _ => rfl
  | c :: a, t, h => by
    rw [List.cons_append]
    simp only [linE]
    rw [if_pos (h c (by simp)), linE_app a t (fun d hd => h d (by simp [hd]))]; rfl
theorem enc_no (v : Nat) (hv : validR v = true) (d : UInt8) (hd : d.toNat < 128) (h : v ≠ d.toNat) : ∀ c ∈ encL v, c ≠ d := by
  intro c hc
  by_cases h1 : v < 128
  · rw [enc1 h1] at hc
    rw [List.mem_singleton.1 hc]
    exact u8_neE (by rw [bt_nat (by omega)]; exact h)
  · have := encL_high v hv (by omega) c hc
    exact u8_neE (by omega)
theorem X_lin (l : List UInt8) (h : X l = true) : X (linE l) = true := by
  refine X_ind (P := fun l => X (linE l) = true) (by decide +kernel) ?_ l.length l (Nat.le_refl _) h
  intro v t hv hx ht ih
  by_cases h13 : v = 13
  · have e13 : encL v = [13] := by subst h13; decide
    rw [e13, List.cons_append, List.nil_append]
    simp only [linE]
    rw [if_neg (by simp)]
    split
    · exact ih
    · rw [X_byte 10 (by decide), ih]; decide
  · rw [linE_app _ _ (enc_no v hv 13 (by decide) h13), X_enc v hv, hx, ih]; rfl
theorem X_blank (l : List UInt8) (h : X l = true) : X (blankE l) = true := by
  refine X_ind (P := fun l => X (blankE l) = true) (by decide +kernel) ?_ l.length l (Nat.le_refl _) h
  intro v t hv hx ht ih
  have ea : blankE (encL v ++ t) = blankE (encL v) ++ blankE t := by unfold blankE; rw [List.map_append]
  rw [ea]
  by_cases h9 : v = 9 ∨ v = 10
  · have e9 : blankE (encL v) = [32] := by rcases h9 with h | h <;> (subst h; decide)
    rw [e9, List.cons_append, List.nil_append, X_byte 32 (by decide), ih]; decide
  · have e9 : blankE (encL v) = encL v := by
      unfold blankE
      have h1 := enc_no v hv 9 (by decide) (fun e => h9 (.inl e))
      have h2 := enc_no v hv 10 (by decide) (fun e => h9 (.inr e))
      conv => rhs; rw [← List.map_id (encL v)]
      apply List.map_congr_left
      intro c hc
      rw [if_neg (fun e => e.elim (h1 c hc) (h2 c hc))]; rfl
    rw [e9, X_enc v hv, hx, ih]; rfl
/-- What is written with signs may stand, where the text may. -/
theorem X_esc (l : List UInt8) (h : X l = true) : X (escL l) = true := by
  refine X_ind (P := fun l => X (escL l) = true) (by decide +kernel) ?_ l.length l (Nat.le_refl _) h
  intro v t hv hx ht ih
  rw [escL_app]
  by_cases h1 : v < 128
  · have e1 : escL (encL v) = escE (bt v) := by rw [enc1 h1, escL_cons, escL_nil, List.append_nil]
    rw [e1]
    have hb : (bt v).toNat = v := bt_nat (by omega)
    have : ∀ c ∈ escE (bt v), c.toNat < 128 ∧ xmlN c.toNat = true := by
      intro c hc
      unfold escE at hc
      repeat' split at hc
      all_goals first
        | (simp at hc; rcases hc with rfl | rfl | rfl | rfl | rfl | rfl <;> decide)
        | (simp at hc; rcases hc with rfl | rfl | rfl | rfl | rfl <;> decide)
        | (simp at hc; rcases hc with rfl | rfl | rfl | rfl <;> decide)
        | (rw [List.mem_singleton.1 hc, hb]; exact ⟨h1, hx⟩)
    rw [X_ascii _ _ this]; exact ih
  · rw [escL_high _ (encL_high v hv (by omega)), X_enc v hv, hx, ih]; rfl
end Go.Proofs.YtlgkbdebpnbndaaGreatDoor
namespace Go.Proofs.YtlgkbdebpnbndaaGreatDoor
set_option linter.unusedVariables false
set_option linter.unusedSimpArgs false

/-- Where the first of some bytes is; the length: there is none. -/
def findU (of l : List UInt8) : Nat := l.findIdx fun c => of.contains c
theorem findU_le (of l : List UInt8) : findU of l ≤ l.length := List.findIdx_le_length
theorem findU_at (of l : List UInt8) (h : findU of l < l.length) : of.contains (l.getD (findU of l) 0) = true := by
  have := List.findIdx_getElem (xs := l) (p := fun c => of.contains c) (w := h)
  rw [List.getD_eq_getElem?_getD, List.getElem?_eq_getElem h]
  exact this
theorem findU_ahead (of l : List UInt8) (j : Nat) (h : j < findU of l) : of.contains (l.getD j 0) = false := by
  have hl : j < l.length := Nat.lt_of_lt_of_le h (findU_le of l)
  have := List.not_of_lt_findIdx (xs := l) (p := fun c => of.contains c) h
  rw [List.getD_eq_getElem?_getD, List.getElem?_eq_getElem hl]
  simpa using this
/-- It is the first. -/
theorem findU_eq (of l : List UInt8) (k : Nat) (hk : k < l.length) (h : of.contains (l.getD k 0) = true) (ha : ∀ j, j < k → of.contains (l.getD j 0) = false) : findU of l = k := by
  rcases Nat.lt_trichotomy (findU of l) k with h1 | h1 | h1
  · have := findU_at of l (by omega)
    rw [ha _ h1] at this
    cases this
  · exact h1
  · rw [findU_ahead of l k h1] at h
    cases h
theorem findU_none (of l : List UInt8) (ha : ∀ j, j < l.length → of.contains (l.getD j 0) = false) : findU of l = l.length := by
  rcases Nat.lt_or_ge (findU of l) l.length with h | h
  · have := findU_at of l h
    rw [ha _ h] at this
    cases this
  · exact Nat.le_antisymm (findU_le of l) h
def letterU (c : UInt8) : Bool := decide (97 ≤ c.toNat ∧ c.toNat ≤ 122) || decide (65 ≤ c.toNat ∧ c.toNat ≤ 90)
def digitU (c : UInt8) : Bool := decide (48 ≤ c.toNat ∧ c.toNat ≤ 57)
theorem index_at (b : UInt8) (r : List UInt8) : ∀ x : List UInt8, b ∉ x → Lib.index (x ++ b :: r) [b] = x.length
  | [], _ => by simp [Lib.index]
  | c :: y, h => by
    have h1 : c ≠ b := fun e => h (by simp [e])
    have ih := index_at b r y (fun e => h (by simp [e]))
    have h2 : List.isPrefixOf [b] (c :: (y ++ b :: r)) = false := by
      simp [List.isPrefixOf, h1.symm]
    rw [List.cons_append, Lib.index, h2, ih]
    have h3 : ((y.length : Int) == -1) = false := by rw [beq_eq_false_iff_ne]; omega
    simp [h3]
theorem index_no (b : UInt8) : ∀ x : List UInt8, b ∉ x → Lib.index x [b] = -1
  | [], _ => by simp [Lib.index]
  | c :: y, h => by
    have h1 : c ≠ b := fun e => h (by simp [e])
    have ih := index_no b y (fun e => h (by simp [e]))
    have h2 : List.isPrefixOf [b] (c :: y) = false := by simp [List.isPrefixOf, h1.symm]
    rw [Lib.index, h2, ih]
    simp
theorem first_dec (c : UInt8) (l : List UInt8) : c ∉ l ∨ ∃ a x, l = a ++ c :: x ∧ c ∉ a := by
  induction l with
  | nil => exact .inl (by simp)
  | cons y r ih =>
    by_cases hy : y = c
    · exact .inr ⟨[], r, by rw [hy]; rfl, by simp⟩
    · rcases ih with h | ⟨a, x, e, h⟩
      · exact .inl (by rw [List.mem_cons]; rintro (h1 | h1); exact hy h1.symm; exact h h1)
      · exact .inr ⟨y :: a, x, by rw [e]; rfl, by rw [List.mem_cons]; rintro (h1 | h1); exact hy h1.symm; exact h h1⟩
theorem cut_no (c : UInt8) (l : List UInt8) (h : c ∉ l) : Lib.cut l [c] = (l, [], false) := by
  unfold Lib.cut
  rw [index_no c l h, if_neg (by omega)]
theorem cut_at (c : UInt8) (a x : List UInt8) (h : c ∉ a) : Lib.cut (a ++ c :: x) [c] = (a, x, true) := by
  unfold Lib.cut
  rw [index_at c x a h, if_pos (by omega)]
  simp
theorem indexB_no (c : UInt8) : ∀ l : List UInt8, c ∉ l → Lib.indexByte l c = -1
  | [], _ => rfl
  | d :: r, h => by
    rw [List.mem_cons, not_or] at h
    have : (d == c) = false := by rw [beq_eq_false_iff_ne]; exact fun e => h.1 e.symm
    rw [Lib.indexByte, this, indexB_no c r h.2]
    rfl
theorem indexB_at (c : UInt8) (x : List UInt8) : ∀ a : List UInt8, c ∉ a → Lib.indexByte (a ++ c :: x) c = a.length
  | [], _ => by
    show Lib.indexByte (c :: x) c = _
    rw [Lib.indexByte]; simp
  | d :: r, h => by
    rw [List.mem_cons, not_or] at h
    have : (d == c) = false := by rw [beq_eq_false_iff_ne]; exact fun e => h.1 e.symm
    rw [List.cons_append, Lib.indexByte, this, indexB_at c x r h.2]
    have h2 : ((r.length : Int) == -1) = false := by rw [beq_eq_false_iff_ne]; omega
    rw [h2]
    simp
theorem indexB_mem (c : UInt8) (l : List UInt8) : decide (0 ≤ Lib.indexByte l c) = l.contains c := by
  rcases first_dec c l with h | ⟨a, x, rfl, h⟩
  · rw [indexB_no c l h]
    have : l.contains c = false := by simpa using h
    rw [this]; rfl
  · rw [indexB_at c x a h]
    have : (a ++ c :: x).contains c = true := by simp
    rw [this]
    exact decide_eq_true (by omega)
theorem find_skip (cs p t : List UInt8) (h : ∀ c ∈ p, cs.contains c = false) : findU cs (p ++ t) = p.length + findU cs t := by
  unfold findU
  rw [List.findIdx_append, if_neg]
  · omega
  · intro hlt
    rw [List.findIdx_lt_length] at hlt
    obtain ⟨x, hx, hc⟩ := hlt
    rw [h x hx] at hc; cases hc
theorem find_here (cs : List UInt8) (c : UInt8) (t : List UInt8) (h : cs.contains c = true) : findU cs (c :: t) = 0 := by
  unfold findU
  rw [List.findIdx_cons, h]; rfl
theorem find_nil (cs : List UInt8) : findU cs [] = 0 := rfl
def lowB (c : UInt8) : UInt8 := if 65 ≤ c.toNat ∧ c.toNat ≤ 90 then c + 32 else c
def lowTo (l : List UInt8) (k : Nat) : List UInt8 := (l.take k).map lowB ++ l.drop k
theorem lowTo_zero (l : List UInt8) : lowTo l 0 = l := by simp [lowTo]
theorem lowTo_all (l : List UInt8) (k : Nat) (h : l.length ≤ k) : lowTo l k = l.map lowB := by simp [lowTo, List.take_of_length_le h, List.drop_of_length_le h]
theorem lowTo_len (l : List UInt8) (k : Nat) : (lowTo l k).length = l.length := by simp [lowTo]; omega
theorem lowTo_at (l : List UInt8) (k : Nat) (h : k < l.length) : (lowTo l k).getD k 0 = l.getD k 0 := by
  unfold lowTo
  rw [List.getD_eq_getElem?_getD, List.getElem?_append_right (by simp; omega)]
  simp [Nat.min_eq_left (Nat.le_of_lt h), h]
theorem lowTo_succ (l : List UInt8) (k : Nat) (h : k < l.length) : lowTo l (k + 1) = (lowTo l k).set k (lowB (l.getD k 0)) := by
  have hg : l.getD k 0 = l[k] := by rw [List.getD_eq_getElem?_getD, List.getElem?_eq_getElem h]; rfl
  rw [hg]
  unfold lowTo
  rw [List.take_succ_eq_append_getElem h, List.map_append, List.set_append_right _ _ (by simp; omega)]
  have e : k - ((l.take k).map lowB).length = 0 := by simp; omega
  rw [e, List.drop_eq_getElem_cons h, List.set_cons_zero]
  simp only [List.map_cons, List.map_nil, List.append_assoc, List.cons_append, List.nil_append]
theorem lowTo_skip (l : List UInt8) (k : Nat) (h : k < l.length) (hc : lowB (l.getD k 0) = l.getD k 0) : lowTo l (k + 1) = lowTo l k := by
  have hg : l.getD k 0 = l[k] := by rw [List.getD_eq_getElem?_getD, List.getElem?_eq_getElem h]; rfl
  rw [hg] at hc
  unfold lowTo
  rw [List.take_succ_eq_append_getElem h, List.map_append, List.drop_eq_getElem_cons h]
  simp [hc]
theorem lowB_hit (c : UInt8) (h1 : 65 ≤ (c.toNat : Int)) (h2 : (c.toNat : Int) ≤ 90) : ((lowB c).toNat : Int) = (c.toNat : Int) + 32 := by
  have : 65 ≤ c.toNat ∧ c.toNat ≤ 90 := by omega
  simp only [lowB, this, and_self, if_true, UInt8.toNat_add]
  have e : UInt8.toNat 32 = 32 := rfl
  rw [e]; omega
theorem lowB_miss (c : UInt8) (h : ¬ (65 ≤ (c.toNat : Int) ∧ (c.toNat : Int) ≤ 90)) : lowB c = c := by
  have : ¬ (65 ≤ c.toNat ∧ c.toNat ≤ 90) := by omega
  simp [lowB, this]
theorem drop8 (l : List UInt8) (k : Nat) (h : k < l.length) : l.drop k = l.getD k 0 :: l.drop (k + 1) := by
  rw [List.drop_eq_getElem_cons h, List.getD_eq_getElem?_getD, List.getElem?_eq_getElem h]; rfl
end Go.Proofs.YtlgkbdebpnbndaaGreatDoor
namespace Go.Proofs.YtlgkbdebpnbndaaGreatDoor
set_option linter.unusedVariables false
set_option linter.unusedSimpArgs false

structure HdV where
  name : List UInt8
  value : List UInt8
def signH (c : UInt8) : Bool := letterU c || digitU c || ([33, 35, 36, 37, 38, 39, 42, 43, 45, 46, 94, 95, 124, 126] : List UInt8).contains c || c == 96
def tokenH (s : List UInt8) : Bool := s.all signH && !s.isEmpty
def blankH (c : UInt8) : Bool := c == 32 || c == 9
def badH (c : UInt8) : Bool := c == 127 || (decide (c.toNat < 32) && c != 9)
def valueH (v : List UInt8) : Bool := v.all (fun c => !badH c) && !blankH (v.headD 0) && !blankH (v.getLastD 0)
def mayH (h : HdV) : Bool := valueH h.value && tokenH h.name
def lineH (h : HdV) : List UInt8 := h.name ++ 58 :: 32 :: h.value
def sizeH : List HdV → Nat
  | [] => 2
  | h :: r => h.name.length + 2 + h.value.length + 2 + sizeH r
def printH : List HdV → List UInt8
  | [] => [13, 10]
  | h :: r => lineH h ++ 13 :: 10 :: printH r
theorem print_size : ∀ l, (printH l).length = sizeH l
  | [] => rfl
  | h :: r => by
    simp only [printH, sizeH, lineH, List.length_append, List.length_cons, print_size r]
    omega
def checkH (l : List HdV) : Int := if l.all mayH then (if 64 < l.length ∨ 8192 < sizeH l then 3 else 0) else 1
/-- A line without its carriage return. -/
def crH (l : List UInt8) : List UInt8 := if l.getLastD 0 = 13 then l.dropLast else l
def trimH (l : List UInt8) : List UInt8 := ((l.dropWhile blankH).reverse.dropWhile blankH).reverse
def oneH (l : List UInt8) : Option HdV :=
  if findU [58] l = l.length then none
  else if mayH ⟨l.take (findU [58] l), trimH (l.drop (findU [58] l + 1))⟩ then some ⟨l.take (findU [58] l), trimH (l.drop (findU [58] l + 1))⟩ else none
/-- Line by line: what is left, how many bytes are behind, what was read. -/
def linesH : Nat → List UInt8 → Nat → List HdV → List HdV × Nat × Int
  | 0, _, _, _ => ([], 0, 10)
  | f + 1, b, n, out =>
    if findU [10] b = b.length then ([], 0, if 8192 < n + b.length then 3 else 10)
    else if 8192 < n + findU [10] b + 1 then ([], 0, 3)
    else if crH (b.take (findU [10] b)) = [] then (out, n + findU [10] b + 1, 0)
    else match oneH (crH (b.take (findU [10] b))) with
      | none => ([], 0, 5)
      | some h => if out.length = 64 then ([], 0, 3) else linesH f (b.drop (findU [10] b + 1)) (n + findU [10] b + 1) (out ++ [h])
def parseH (b : List UInt8) : List HdV × Nat × Int := linesH (b.length + 1) b 0 []
theorem find_byte (c : UInt8) (a r : List UInt8) (h : c ∉ a) : findU [c] (a ++ c :: r) = a.length := by
  rw [find_skip [c] a _ (fun d hd => by
    have : d ≠ c := fun e => h (e ▸ hd)
    simpa using this), find_here [c] c r (by simp)]
  rfl
theorem find_miss (c : UInt8) (a : List UInt8) (h : c ∉ a) : findU [c] a = a.length := by
  have := find_skip [c] a [] (fun d hd => by
    have : d ≠ c := fun e => h (e ▸ hd)
    simpa using this)
  rw [List.append_nil, find_nil] at this
  exact this
theorem sign_fin : ∀ n : Fin 256, signH (UInt8.ofNat n.val) = true → UInt8.ofNat n.val ≠ 58 ∧ UInt8.ofNat n.val ≠ 10 ∧ UInt8.ofNat n.val ≠ 13 := by decide +kernel
theorem sign_not (c : UInt8) (h : signH c = true) : c ≠ 58 ∧ c ≠ 10 ∧ c ≠ 13 := by
  have := sign_fin ⟨c.toNat, c.toNat_lt⟩
  simp only [UInt8.ofNat_toNat] at this
  exact this h
theorem may_parts (h : HdV) (hm : mayH h = true) : (∀ c ∈ h.name, c ≠ 58 ∧ c ≠ 10 ∧ c ≠ 13) ∧ h.name ≠ [] ∧ (∀ c ∈ h.value, c ≠ 10 ∧ c ≠ 13) ∧ blankH (h.value.headD 0) = false ∧ blankH (h.value.getLastD 0) = false := by
  unfold mayH valueH tokenH at hm
  simp only [Bool.and_eq_true, Bool.not_eq_true', List.all_eq_true] at hm
  obtain ⟨⟨⟨h1, h2⟩, h3⟩, h4, h5⟩ := hm
  refine ⟨fun c hc => sign_not c (h4 c hc), fun e => ?_, fun c hc => ?_, h2, h3⟩
  · rw [e] at h5; cases h5
  · have := h1 c hc
    constructor
    · rintro rfl; revert this; decide
    · rintro rfl; revert this; decide
theorem trim_own (v : List UInt8) (h1 : blankH (v.headD 0) = false) (h2 : blankH (v.getLastD 0) = false) : trimH (32 :: v) = v := by
  unfold trimH
  have e1 : (32 :: v).dropWhile blankH = v := by
    rw [List.dropWhile_cons_of_pos (by decide)]
    cases v with
    | nil => rfl
    | cons c r => rw [List.dropWhile_cons_of_neg (by simpa using h1)]
  rw [e1]
  have e2 : v.reverse.dropWhile blankH = v.reverse := by
    rcases List.eq_nil_or_concat v with rfl | ⟨x, d, rfl⟩
    · rfl
    · have : blankH d = false := by simpa using h2
      rw [List.concat_eq_append, List.reverse_append, List.reverse_singleton, List.singleton_append, List.dropWhile_cons_of_neg (by simp [this])]
  rw [e2, List.reverse_reverse]
/-- A header's own line is read as it. -/
theorem one_own (h : HdV) (hm : mayH h = true) : oneH (lineH h) = some h := by
  obtain ⟨h1, h2, h3, h4, h5⟩ := may_parts h hm
  have hf : findU [58] (lineH h) = h.name.length := find_byte 58 h.name _ (fun hc => (h1 58 hc).1 rfl)
  have hne : ¬ findU [58] (lineH h) = (lineH h).length := by rw [hf]; unfold lineH; simp
  unfold oneH
  rw [if_neg hne, hf]
  have e1 : (lineH h).take h.name.length = h.name := by unfold lineH; simp
  have e2 : (lineH h).drop (h.name.length + 1) = 32 :: h.value := by unfold lineH; simp
  rw [e1, e2, trim_own h.value h4 h5, if_pos hm]
theorem line_free (h : HdV) (hm : mayH h = true) : (10 : UInt8) ∉ lineH h ++ [13] ∧ crH (lineH h ++ [13]) = lineH h ∧ lineH h ≠ [] := by
  obtain ⟨h1, h2, h3, h4, h5⟩ := may_parts h hm
  refine ⟨fun hc => ?_, ?_, ?_⟩
  · unfold lineH at hc
    simp only [List.mem_append, List.mem_cons, List.not_mem_nil, or_false] at hc
    rcases hc with (hc | hc | hc | hc) | hc
    · exact (h1 10 hc).2.1 rfl
    · revert hc; decide
    · revert hc; decide
    · exact (h3 10 hc).1 rfl
    · revert hc; decide
  · unfold crH
    rw [if_pos (by simp)]
    simp
  · unfold lineH; simp
/-- What is put together is read back, whatever follows. -/
theorem lines_print : ∀ (l : List HdV) (f n : Nat) (out : List HdV) (more : List UInt8), l.all mayH = true → l.length < f → out.length + l.length ≤ 64 → n + sizeH l ≤ 8192 → linesH f (printH l ++ more) n out = (out ++ l, n + sizeH l, 0)
  | [], 0, n, out, more, _, hf, _, _ => by simp at hf
  | [], f + 1, n, out, more, _, _, _, hs => by
    have e : findU [10] (printH [] ++ more) = 1 := find_byte 10 [13] more (by decide)
    have hl : ¬ findU [10] (printH [] ++ more) = (printH [] ++ more).length := by rw [e]; simp [printH]
    unfold linesH
    rw [if_neg hl, e]
    have h2 : sizeH [] = 2 := rfl
    rw [h2] at hs ⊢
    rw [if_neg (by omega)]
    have e2 : crH ((printH [] ++ more).take 1) = [] := rfl
    rw [e2, if_pos rfl, List.append_nil]
  | h :: r, 0, n, out, more, _, hf, _, _ => by simp at hf
  | h :: r, f + 1, n, out, more, hm, hf, ho, hs => by
    rw [List.all_cons, Bool.and_eq_true] at hm
    obtain ⟨g1, g2, g3⟩ := line_free h hm.1
    simp only [List.length_cons] at hf ho
    have hsz : sizeH (h :: r) = h.name.length + 2 + h.value.length + 2 + sizeH r := rfl
    have hll : (lineH h ++ [13]).length = h.name.length + h.value.length + 3 := by unfold lineH; simp; omega
    have es : printH (h :: r) ++ more = (lineH h ++ [13]) ++ 10 :: (printH r ++ more) := by simp [printH]
    have e : findU [10] (printH (h :: r) ++ more) = (lineH h ++ [13]).length := by rw [es]; exact find_byte 10 _ _ g1
    have hl : ¬ findU [10] (printH (h :: r) ++ more) = (printH (h :: r) ++ more).length := by rw [e, es]; simp
    have et : (printH (h :: r) ++ more).take (lineH h ++ [13]).length = lineH h ++ [13] := by rw [es, List.take_left]
    have ed : (printH (h :: r) ++ more).drop ((lineH h ++ [13]).length + 1) = printH r ++ more := by
      rw [es, List.drop_append]
      simp
    have h2 : 2 ≤ sizeH r := by rw [← print_size]; cases r <;> simp [printH]; omega
    rw [hsz] at hs ⊢
    unfold linesH
    rw [if_neg hl, e, et, g2, ed, if_neg (by omega), if_neg g3, one_own h hm.1]
    simp only
    rw [if_neg (by omega), lines_print r f _ _ more hm.2 (by omega) (by simp; omega) (by omega)]
    simp only [List.append_assoc, List.singleton_append, Prod.mk.injEq, true_and, and_true]
    omega
theorem print_parse (l : List HdV) (h : checkH l = 0) (more : List UInt8) : parseH (printH l ++ more) = (l, (printH l).length, 0) := by
  unfold checkH at h
  split at h
  · rename_i hm
    split at h
    · cases h
    · rename_i hc
      rw [not_or] at hc
      have hls : l.length ≤ sizeH l := by
        clear h hm hc
        induction l with
        | nil => simp [sizeH]
        | cons a r ih => simp only [sizeH, List.length_cons]; omega
      unfold parseH
      rw [lines_print l _ 0 [] more hm (by rw [List.length_append, print_size]; omega) (by simp; omega) (by omega), print_size]
      simp
  · cases h
/-- Of a beginning more is to come. -/
theorem lines_cut : ∀ (l : List HdV) (f n k : Nat) (out : List HdV), l.all mayH = true → k < f → out.length + l.length ≤ 64 → n + sizeH l ≤ 8192 → k < sizeH l → linesH f ((printH l).take k) n out = ([], 0, 10)
  | l, 0, n, k, out, _, hf, _, _, _ => by simp at hf
  | [], f + 1, n, k, out, _, _, _, hs, hk => by
    have h2 : sizeH [] = 2 := rfl
    rw [h2] at hs hk
    have hn : (10 : UInt8) ∉ (printH []).take k := by
      rcases (show k = 0 ∨ k = 1 by omega) with rfl | rfl <;> simp [printH]
    have hlen : ((printH []).take k).length = k := by rw [List.length_take]; simp [printH]; omega
    unfold linesH
    rw [if_pos (find_miss 10 _ hn), hlen, if_neg (by omega)]
  | h :: r, f + 1, n, k, out, hm, hf, ho, hs, hk => by
    rw [List.all_cons, Bool.and_eq_true] at hm
    obtain ⟨g1, g2, g3⟩ := line_free h hm.1
    simp only [List.length_cons] at ho
    have hsz : sizeH (h :: r) = h.name.length + 2 + h.value.length + 2 + sizeH r := rfl
    have hll : (lineH h ++ [13]).length = h.name.length + h.value.length + 3 := by unfold lineH; simp; omega
    have es : printH (h :: r) = (lineH h ++ [13]) ++ 10 :: printH r := by simp [printH]
    rw [hsz] at hs hk
    rcases Nat.lt_or_ge (lineH h ++ [13]).length k with hgt | hle
    · obtain ⟨j, rfl⟩ : ∃ j, k = (lineH h ++ [13]).length + (j + 1) := ⟨k - (lineH h ++ [13]).length - 1, by omega⟩
      have et : (printH (h :: r)).take ((lineH h ++ [13]).length + (j + 1)) = (lineH h ++ [13]) ++ 10 :: (printH r).take j := by
        rw [es, List.take_length_add_append]
        rfl
      rw [et]
      have e : findU [10] ((lineH h ++ [13]) ++ 10 :: (printH r).take j) = (lineH h ++ [13]).length := find_byte 10 _ _ g1
      have hl : ¬ findU [10] ((lineH h ++ [13]) ++ 10 :: (printH r).take j) = ((lineH h ++ [13]) ++ 10 :: (printH r).take j).length := by rw [e]; simp
      have e1 : ((lineH h ++ [13]) ++ 10 :: (printH r).take j).take (lineH h ++ [13]).length = lineH h ++ [13] := by rw [List.take_left]
      have ed : ((lineH h ++ [13]) ++ 10 :: (printH r).take j).drop ((lineH h ++ [13]).length + 1) = (printH r).take j := by
        rw [List.drop_append]
        simp
      unfold linesH
      rw [if_neg hl, e, e1, g2, ed, if_neg (by omega), if_neg g3, one_own h hm.1]
      simp only
      rw [if_neg (by omega)]
      exact lines_cut r f _ j _ hm.2 (by omega) (by simp; omega) (by omega) (by omega)
    · have et : (printH (h :: r)).take k = (lineH h ++ [13]).take k := by rw [es, List.take_append_of_le_length hle]
      have hn : (10 : UInt8) ∉ (printH (h :: r)).take k := by rw [et]; exact fun hc => g1 (List.mem_of_mem_take hc)
      have hlen : ((printH (h :: r)).take k).length ≤ k := by rw [List.length_take]; omega
      unfold linesH
      rw [if_pos (find_miss 10 _ hn), if_neg (by omega)]
theorem cut_parse (l : List HdV) (h : checkH l = 0) (k : Nat) (hk : k < (printH l).length) : parseH ((printH l).take k) = ([], 0, 10) := by
  rw [print_size] at hk
  unfold checkH at h
  split at h
  · rename_i hm
    split at h
    · cases h
    · rename_i hc
      rw [not_or] at hc
      unfold parseH
      exact lines_cut l _ 0 k [] hm (by rw [List.length_take, print_size]; omega) (by simp; omega) (by omega) hk
  · cases h
end Go.Proofs.YtlgkbdebpnbndaaGreatDoor
namespace Go.Proofs.YtlgkbdebpnbndaaGreatDoor
set_option linter.unusedVariables false
set_option linter.unusedSimpArgs false

/-! A line is read. -/
def zeroH : HdV := ⟨[], []⟩
def oneV (l : List UInt8) : HdV := if findU [58] l = l.length then zeroH else ⟨l.take (findU [58] l), trimH (l.drop (findU [58] l + 1))⟩
def oneB (l : List UInt8) : Bool := !decide (findU [58] l = l.length) && mayH (oneV l)
theorem one_eq (l : List UInt8) : oneH l = if oneB l then some (oneV l) else none := by
  unfold oneH oneB oneV
  by_cases h : findU [58] l = l.length
  · rw [if_pos h, decide_eq_true h]; rfl
  · simp only [if_neg h, decide_eq_false h, Bool.not_false, Bool.true_and]
theorem one_true (l : List UInt8) (h : oneB l = true) : oneH l = some (oneV l) := by rw [one_eq, if_pos h]
theorem one_false (l : List UInt8) (h : oneB l = false) : oneH l = none := by rw [one_eq, h]; rfl
theorem oneV_no (l : List UInt8) (h : (58 : UInt8) ∉ l) : oneV l = zeroH ∧ oneB l = false := by
  have e := find_miss 58 l h
  constructor
  · unfold oneV; rw [if_pos e]
  · unfold oneB; rw [decide_eq_true e]; rfl
theorem oneV_at (a x : List UInt8) (h : (58 : UInt8) ∉ a) : oneV (a ++ 58 :: x) = ⟨a, trimH x⟩ ∧ oneB (a ++ 58 :: x) = mayH ⟨a, trimH x⟩ := by
  have e := find_byte 58 a x h
  have hne : ¬ findU [58] (a ++ 58 :: x) = (a ++ 58 :: x).length := by rw [e]; simp
  have ev : oneV (a ++ 58 :: x) = ⟨a, trimH x⟩ := by
    unfold oneV
    rw [if_neg hne, e]
    simp
  refine ⟨ev, ?_⟩
  unfold oneB
  rw [decide_eq_false hne, ev]
  rfl

/-! Trimmed at both ends, in either order. -/
theorem dw_all (p : UInt8 → Bool) : ∀ l : List UInt8, (∀ c ∈ l, p c = true) → l.dropWhile p = []
  | [], _ => rfl
  | c :: r, h => by rw [List.dropWhile_cons_of_pos (h c (by simp)), dw_all p r (fun d hd => h d (by simp [hd]))]
theorem dw_app (p : UInt8 → Bool) : ∀ (a b : List UInt8), (∀ c ∈ a, p c = true) → (a ++ b).dropWhile p = b.dropWhile p
  | [], _, _ => rfl
  | c :: r, b, h => by rw [List.cons_append, List.dropWhile_cons_of_pos (h c (by simp)), dw_app p r b (fun d hd => h d (by simp [hd]))]
theorem dw_neg (p : UInt8 → Bool) (c : UInt8) (r : List UInt8) (h : p c = false) : (c :: r).dropWhile p = c :: r := List.dropWhile_cons_of_neg (by simp [h])
theorem dw_dec (p : UInt8 → Bool) : ∀ l : List UInt8, (∀ c ∈ l, p c = true) ∨ ∃ a c r, l = a ++ c :: r ∧ (∀ d ∈ a, p d = true) ∧ p c = false
  | [] => .inl (by simp)
  | x :: t => by
    cases hx : p x with
    | false => exact .inr ⟨[], x, t, rfl, by simp, hx⟩
    | true =>
      rcases dw_dec p t with h | ⟨a, c, r, e, h1, h2⟩
      · exact .inl fun c hc => by
          rcases List.mem_cons.1 hc with rfl | hc
          · exact hx
          · exact h c hc
      · exact .inr ⟨x :: a, c, r, by rw [e]; rfl, fun d hd => by
          rcases List.mem_cons.1 hd with rfl | hd
          · exact hx
          · exact h1 d hd, h2⟩
def trR (p : UInt8 → Bool) (l : List UInt8) : List UInt8 := (l.reverse.dropWhile p).reverse
theorem trR_all (p : UInt8 → Bool) (l : List UInt8) (h : ∀ c ∈ l, p c = true) : trR p l = [] := by
  unfold trR; rw [dw_all p _ (fun c hc => h c (by simpa using hc))]; rfl
theorem trR_at (p : UInt8 → Bool) (a : List UInt8) (c : UInt8) (b : List UInt8) (hc : p c = false) (hb : ∀ d ∈ b, p d = true) : trR p (a ++ c :: b) = a ++ [c] := by
  unfold trR
  rw [List.reverse_append, List.reverse_cons, List.append_assoc, dw_app p _ _ (fun d hd => hb d (by simpa using hd)), List.singleton_append, dw_neg p c _ hc]
  simp
theorem tr_dec (p : UInt8 → Bool) (l : List UInt8) : (∀ c ∈ l, p c = true) ∨ ∃ a c b, l = a ++ c :: b ∧ p c = false ∧ ∀ d ∈ b, p d = true := by
  rcases dw_dec p l.reverse with h | ⟨a, c, r, e, h1, h2⟩
  · exact .inl fun c hc => h c (by simpa using hc)
  · refine .inr ⟨r.reverse, c, a.reverse, ?_, h2, fun d hd => h1 d (by simpa using hd)⟩
    have := congrArg List.reverse e
    rw [List.reverse_reverse] at this
    rw [this]; simp
theorem trim_swap (p : UInt8 → Bool) (l : List UInt8) : trR p (l.dropWhile p) = (trR p l).dropWhile p := by
  rcases tr_dec p l with h | ⟨a, c, b, rfl, hc, hb⟩
  · rw [dw_all p l h, trR_all p l h]; rfl
  · rw [trR_at p a c b hc hb]
    rcases dw_dec p a with h | ⟨x, d, y, rfl, h1, h2⟩
    · rw [dw_app p a _ h, dw_app p a _ h, dw_neg p c _ hc, dw_neg p c _ hc]
      exact trR_at p [] c b hc hb
    · simp only [List.append_assoc, List.cons_append]
      rw [dw_app p x _ h1, dw_app p x _ h1, dw_neg p d _ h2, dw_neg p d _ h2]
      exact trR_at p (d :: y) c b hc hb
theorem blank_in (c : UInt8) : ([32, 9] : List UInt8).contains c = blankH c := by
  unfold blankH
  simp only [List.contains, List.elem]
  cases (c == 32) <;> cases (c == 9) <;> rfl
theorem trim_lib (l : List UInt8) : Lib.trimS l [32, 9] = trimH l := by
  have e : (fun c : UInt8 => ([32, 9] : List UInt8).contains c) = blankH := funext blank_in
  unfold Lib.trimS Lib.trimLeftS Lib.trimRightS trimH
  rw [e]
  exact (trim_swap blankH l).symm
theorem trR_len (p : UInt8 → Bool) (l : List UInt8) : (trR p l).length ≤ l.length := by
  unfold trR
  rw [List.length_reverse]
  have := (List.dropWhile_sublist (l := l.reverse) p).length_le
  simpa using this
theorem dw_len (p : UInt8 → Bool) (l : List UInt8) : (l.dropWhile p).length ≤ l.length := (List.dropWhile_sublist (l := l) p).length_le
theorem trim_len (l : List UInt8) : (trimH l).length ≤ l.length := Nat.le_trans (trR_len blankH _) (dw_len blankH l)
/-- What has no blank at its ends is as it is trimmed. -/
theorem trim_iff (v : List UInt8) : decide (v = trimH v) = (!blankH (v.headD 0) && !blankH (v.getLastD 0)) := by
  rcases tr_dec blankH v with h | ⟨a, c, b, rfl, hc, hb⟩
  · cases v with
    | nil => rfl
    | cons x r =>
      have : trimH (x :: r) = [] := by
        show trR blankH _ = _
        rw [dw_all _ _ h]; rfl
      rw [this, decide_eq_false (by simp), List.headD_cons, h x (by simp)]
      rfl
  · have e : trimH (a ++ c :: b) = (a ++ [c]).dropWhile blankH := by
      show trR blankH _ = _
      rw [trim_swap, trR_at _ a c b hc hb]
    rcases List.eq_nil_or_concat b with rfl | ⟨b', z, rfl⟩
    · have hl : (a ++ [c]).getLastD 0 = c := by simp
      rw [e, hl, hc]
      cases a with
      | nil =>
        show decide ([c] = [c].dropWhile blankH) = _
        rw [dw_neg _ c _ hc]
        simp [hc]
      | cons x r =>
        show decide (x :: (r ++ [c]) = (x :: (r ++ [c])).dropWhile blankH) = (!blankH x && !false)
        cases hx : blankH x with
        | false => rw [dw_neg _ x _ hx]; simp
        | true =>
          rw [List.dropWhile_cons_of_pos hx, decide_eq_false]
          · rfl
          · intro hh
            have := congrArg List.length hh
            have := dw_len blankH (r ++ [c])
            simp only [List.length_cons] at *
            omega
    · have hz : blankH z = true := hb z (by simp)
      have hl : (a ++ c :: b'.concat z).getLastD 0 = z := by
        rw [List.concat_eq_append, ← List.cons_append, ← List.append_assoc]
        rw [List.getLastD_eq_getLast?, List.getLast?_append]; rfl
      rw [hl, hz, Bool.not_true, Bool.and_false, decide_eq_false]
      intro hh
      rw [e] at hh
      have h1 := congrArg List.length hh
      have h2 := dw_len blankH (a ++ [c])
      simp only [List.concat_eq_append, List.length_append, List.length_cons, List.length_nil] at h1 h2
      omega

/-! Line by line. -/
theorem lines_none (f : Nat) (b : List UInt8) (n : Nat) (out : List HdV) (h : (10 : UInt8) ∉ b) : linesH (f + 1) b n out = ([], 0, if 8192 < n + b.length then 3 else 10) := by
  unfold linesH
  rw [if_pos (find_miss 10 b h)]
theorem lines_far (f : Nat) (a x : List UInt8) (n : Nat) (out : List HdV) (h : (10 : UInt8) ∉ a) (hf : 8192 < n + a.length + 1) : linesH (f + 1) (a ++ 10 :: x) n out = ([], 0, 3) := by
  have e := find_byte 10 a x h
  unfold linesH
  rw [if_neg (by rw [e]; simp), e, if_pos hf]
theorem lines_end (f : Nat) (a x : List UInt8) (n : Nat) (out : List HdV) (h : (10 : UInt8) ∉ a) (hf : ¬ 8192 < n + a.length + 1) (hc : crH a = []) : linesH (f + 1) (a ++ 10 :: x) n out = (out, n + a.length + 1, 0) := by
  have e := find_byte 10 a x h
  unfold linesH
  rw [if_neg (by rw [e]; simp), e, if_neg hf, List.take_left, if_pos hc]
theorem lines_bad (f : Nat) (a x : List UInt8) (n : Nat) (out : List HdV) (h : (10 : UInt8) ∉ a) (hf : ¬ 8192 < n + a.length + 1) (hc : ¬ crH a = []) (ho : oneB (crH a) = false) : linesH (f + 1) (a ++ 10 :: x) n out = ([], 0, 5) := by
  have e := find_byte 10 a x h
  unfold linesH
  rw [if_neg (by rw [e]; simp), e, if_neg hf, List.take_left, if_neg hc, one_false _ ho]
theorem lines_many (f : Nat) (a x : List UInt8) (n : Nat) (out : List HdV) (h : (10 : UInt8) ∉ a) (hf : ¬ 8192 < n + a.length + 1) (hc : ¬ crH a = []) (ho : oneB (crH a) = true) (hm : out.length = 64) : linesH (f + 1) (a ++ 10 :: x) n out = ([], 0, 3) := by
  have e := find_byte 10 a x h
  unfold linesH
  rw [if_neg (by rw [e]; simp), e, if_neg hf, List.take_left, if_neg hc, one_true _ ho]
  exact if_pos hm
theorem lines_on (f : Nat) (a x : List UInt8) (n : Nat) (out : List HdV) (h : (10 : UInt8) ∉ a) (hf : ¬ 8192 < n + a.length + 1) (hc : ¬ crH a = []) (ho : oneB (crH a) = true) (hm : ¬ out.length = 64) : linesH (f + 1) (a ++ 10 :: x) n out = linesH f x (n + a.length + 1) (out ++ [oneV (crH a)]) := by
  have e := find_byte 10 a x h
  have ed : (a ++ 10 :: x).drop (a.length + 1) = x := by simp
  conv => lhs; unfold linesH
  rw [if_neg (by rw [e]; simp), e, if_neg hf, List.take_left, if_neg hc, one_true _ ho, ed]
  simp only
  rw [if_neg hm]
/-- What is left of the bytes b behind n of them, with the headers out, ends as b does. -/
def LeadsH (b : List UInt8) (n : Nat) (out : List HdV) : Prop := ∃ f, b.length - n < f ∧ linesH f (b.drop n) n out = parseH b
theorem leads_zero (b : List UInt8) : LeadsH b 0 [] := ⟨b.length + 1, by omega, rfl⟩
theorem LeadsH.pos {b : List UInt8} {n : Nat} {out : List HdV} (h : LeadsH b n out) : ∃ f, b.length - n < f + 1 ∧ linesH (f + 1) (b.drop n) n out = parseH b := by
  obtain ⟨f, h1, h2⟩ := h
  match f, h1, h2 with
  | 0, h1, _ => omega
  | f + 1, h1, h2 => exact ⟨f, h1, h2⟩
/-- A line's end, a bytes behind n. -/
def LineAt (b : List UInt8) (n : Nat) (a : List UInt8) : Prop := (10 : UInt8) ∉ a ∧ b.drop n = a ++ 10 :: b.drop (n + a.length + 1)
theorem LeadsH.none {b : List UInt8} {n : Nat} {out : List HdV} (h : LeadsH b n out) (hn : n ≤ b.length) (hno : (10 : UInt8) ∉ b.drop n) : parseH b = ([], 0, if 8192 < b.length then 3 else 10) := by
  obtain ⟨f, h1, h2⟩ := h.pos
  rw [← h2, lines_none f _ n out hno, List.length_drop, show n + (b.length - n) = b.length from by omega]
theorem LeadsH.far {b : List UInt8} {n : Nat} {out : List HdV} {a : List UInt8} (h : LeadsH b n out) (hl : LineAt b n a) (hf : 8192 < n + a.length + 1) : parseH b = ([], 0, 3) := by
  obtain ⟨f, h1, h2⟩ := h.pos
  rw [← h2, hl.2, lines_far f a _ n out hl.1 hf]
theorem LeadsH.end {b : List UInt8} {n : Nat} {out : List HdV} {a : List UInt8} (h : LeadsH b n out) (hl : LineAt b n a) (hf : n + a.length + 1 ≤ 8192) (hc : crH a = []) : parseH b = (out, n + a.length + 1, 0) := by
  obtain ⟨f, h1, h2⟩ := h.pos
  rw [← h2, hl.2, lines_end f a _ n out hl.1 (by omega) hc]
theorem LeadsH.bad {b : List UInt8} {n : Nat} {out : List HdV} {a : List UInt8} (h : LeadsH b n out) (hl : LineAt b n a) (hf : n + a.length + 1 ≤ 8192) (hc : ¬ crH a = []) (ho : oneB (crH a) = false) : parseH b = ([], 0, 5) := by
  obtain ⟨f, h1, h2⟩ := h.pos
  rw [← h2, hl.2, lines_bad f a _ n out hl.1 (by omega) hc ho]
theorem LeadsH.many {b : List UInt8} {n : Nat} {out : List HdV} {a : List UInt8} (h : LeadsH b n out) (hl : LineAt b n a) (hf : n + a.length + 1 ≤ 8192) (hc : ¬ crH a = []) (ho : oneB (crH a) = true) (hm : out.length = 64) : parseH b = ([], 0, 3) := by
  obtain ⟨f, h1, h2⟩ := h.pos
  rw [← h2, hl.2, lines_many f a _ n out hl.1 (by omega) hc ho hm]
theorem LineAt.le {b : List UInt8} {n : Nat} {a : List UInt8} (h : LineAt b n a) : n + a.length + 1 ≤ b.length := by
  have := congrArg List.length h.2
  simp only [List.length_drop, List.length_append, List.length_cons] at this
  omega
theorem LeadsH.on {b : List UInt8} {n : Nat} {out : List HdV} {a : List UInt8} (h : LeadsH b n out) (hl : LineAt b n a) (hf : n + a.length + 1 ≤ 8192) (hc : ¬ crH a = []) (ho : oneB (crH a) = true) (hm : ¬ out.length = 64) : LeadsH b (n + a.length + 1) (out ++ [oneV (crH a)]) := by
  obtain ⟨f, h1, h2⟩ := h.pos
  have := hl.le
  refine ⟨f, by omega, ?_⟩
  rw [← h2, hl.2, lines_on f a _ n out hl.1 (by omega) hc ho hm]
theorem lines_out : ∀ (f : Nat) (b : List UInt8) (n : Nat) (out : List HdV), out.length ≤ 64 → (linesH f b n out).1.length ≤ 64
  | 0, b, n, out, h => by simp [linesH]
  | f + 1, b, n, out, h => by
    unfold linesH
    split
    · simp
    · split
      · simp
      · split
        · exact h
        · split
          · simp
          · split
            · simp
            · rename_i hne
              exact lines_out f _ _ _ (by simp; omega)
theorem parse_out (b : List UInt8) (_h : b.length ≤ 1000000) : (parseH b).1.length ≤ 1000000 := Nat.le_trans (lines_out _ b 0 [] (by simp)) (by decide)
/-- In the first bytes there is a line's end, or there is none. -/
theorem head_dec (b : List UInt8) (n : Nat) (hn : n ≤ 8192) (hb : n ≤ b.length) : ((10 : UInt8) ∉ (b.take 8192).drop n) ∨ ∃ a x, (b.take 8192).drop n = a ++ 10 :: x ∧ LineAt b n a ∧ n + a.length + 1 ≤ 8192 := by
  rcases first_dec 10 ((b.take 8192).drop n) with h | ⟨a, x, e, h⟩
  · exact .inl h
  · refine .inr ⟨a, x, e, ⟨h, ?_⟩, ?_⟩
    · have e2 : b.drop n = (b.take 8192).drop n ++ b.drop 8192 := by
        conv => lhs; rw [← List.take_append_drop 8192 b]
        rw [List.drop_append, List.length_take, show n - min 8192 b.length = 0 from by omega, List.drop_zero]
      rw [e] at e2
      have e3 : b.drop (n + a.length + 1) = x ++ b.drop 8192 := by
        rw [Nat.add_assoc, ← List.drop_drop, e2]
        simp
      rw [e2, e3]; simp
    · have := congrArg List.length e
      simp only [List.length_drop, List.length_take, List.length_append, List.length_cons] at this
      omega
/-- None in the first bytes. -/
theorem LeadsH.unended {b : List UInt8} {n : Nat} {out : List HdV} (h : LeadsH b n out) (hn : n ≤ 8192) (hb : n ≤ b.length) (hno : (10 : UInt8) ∉ (b.take 8192).drop n) : parseH b = ([], 0, if 8192 < b.length then 3 else 10) := by
  rcases first_dec 10 (b.drop n) with h1 | ⟨a, x, e, h1⟩
  · exact h.none hb h1
  · have hl : LineAt b n a := ⟨h1, by
      rw [e, show n + a.length + 1 = n + (a.length + 1) from by omega, ← List.drop_drop, e]
      simp⟩
    have hle := hl.le
    have hf : 8192 < n + a.length + 1 := by
      rcases Nat.lt_or_ge 8192 (n + a.length + 1) with h2 | h2
      · exact h2
      · exfalso
        apply hno
        rw [List.drop_take, e]
        have : (a ++ 10 :: x).take (8192 - n) = a ++ 10 :: x.take (8192 - n - a.length - 1) := by
          rw [List.take_append, List.take_of_length_le (by omega)]
          rw [show 8192 - n - a.length = (8192 - n - a.length - 1) + 1 from by omega, List.take_succ_cons]
          rfl
        rw [this]; simp
    rw [h.far hl hf, if_pos (by omega)]
end Go.Proofs.YtlgkbdebpnbndaaGreatDoor
namespace Go.Proofs.YtlgkbdebpnbndaaGreatDoor
set_option linter.unusedVariables false
set_option linter.unusedSimpArgs false

/-! Numbers in hexadecimal digits. -/
def digC (n : Nat) : UInt8 := UInt8.ofNat (if n < 10 then 48 + n else 87 + n)
def isHx (c : UInt8) : Bool := decide (48 ≤ c.toNat ∧ c.toNat ≤ 57) || decide (97 ≤ c.toNat ∧ c.toNat ≤ 102) || decide (65 ≤ c.toNat ∧ c.toNat ≤ 70)
def hxv (c : UInt8) : Nat := if 48 ≤ c.toNat ∧ c.toNat ≤ 57 then c.toNat - 48 else if 97 ≤ c.toNat ∧ c.toNat ≤ 102 then c.toNat - 97 + 10 else c.toNat - 65 + 10
def hexF : Nat → Nat → List UInt8
  | 0, _ => []
  | f + 1, n => if n < 16 then [digC n] else hexF f (n / 16) ++ [digC (n % 16)]
def hexC (n : Nat) : List UInt8 := hexF 16 n
def valC (l : List UInt8) : Nat := l.foldl (fun n c => n * 16 + hxv c) 0
theorem val_snoc (l : List UInt8) (c : UInt8) : valC (l ++ [c]) = valC l * 16 + hxv c := by simp [valC]
theorem dig_fin : ∀ n : Fin 16, isHx (digC n.val) = true ∧ hxv (digC n.val) = n.val ∧ digC n.val ≠ 10 ∧ digC n.val ≠ 13 ∧ digC n.val ≠ 59 := by decide +kernel
theorem dig_ok (n : Nat) (h : n < 16) : isHx (digC n) = true ∧ hxv (digC n) = n ∧ digC n ≠ 10 ∧ digC n ≠ 13 ∧ digC n ≠ 59 := dig_fin ⟨n, h⟩
theorem hexF_ok : ∀ (f n : Nat), n < 16 ^ (f + 1) → valC (hexF (f + 1) n) = n ∧ (∀ c ∈ hexF (f + 1) n, isHx c = true ∧ c ≠ 10 ∧ c ≠ 13 ∧ c ≠ 59) ∧ 0 < (hexF (f + 1) n).length ∧ (hexF (f + 1) n).length ≤ f + 1
  | 0, n, h => by
    have hn : n < 16 := by simpa using h
    have hd := dig_ok n hn
    unfold hexF
    rw [if_pos hn]
    refine ⟨by simp [valC, hd.2.1], fun c hc => ?_, by simp, by simp⟩
    rw [List.mem_singleton] at hc
    subst hc
    exact ⟨hd.1, hd.2.2⟩
  | f + 1, n, h => by
    unfold hexF
    by_cases hn : n < 16
    · have hd := dig_ok n hn
      rw [if_pos hn]
      refine ⟨by simp [valC, hd.2.1], fun c hc => ?_, by simp, by simp⟩
      rw [List.mem_singleton] at hc
      subst hc
      exact ⟨hd.1, hd.2.2⟩
    · rw [if_neg hn]
      have hq : n / 16 < 16 ^ (f + 1) := by
        rw [Nat.div_lt_iff_lt_mul (by decide)]
        rw [Nat.pow_succ] at h
        exact h
      obtain ⟨h1, h2, h3, h4⟩ := hexF_ok f (n / 16) hq
      have hd := dig_ok (n % 16) (Nat.mod_lt _ (by decide))
      refine ⟨?_, fun c hc => ?_, by simp, by simp; omega⟩
      · rw [val_snoc, h1, hd.2.1]; omega
      · rw [List.mem_append, List.mem_singleton] at hc
        rcases hc with hc | rfl
        · exact h2 c hc
        · exact ⟨hd.1, hd.2.2⟩
theorem hexF_more : ∀ (f n : Nat), n < 16 ^ f → 0 < f → hexF (f + 1) n = hexF f n
  | 0, n, _, h => by omega
  | 1, n, h, _ => by
    have hn : n < 16 := by simpa using h
    unfold hexF
    rw [if_pos hn, if_pos hn]
  | f + 2, n, h, _ => by
    by_cases hn : n < 16
    · unfold hexF
      rw [if_pos hn, if_pos hn]
    · rw [show hexF (f + 2 + 1) n = hexF (f + 2) (n / 16) ++ [digC (n % 16)] from by rw [hexF, if_neg hn]]
      rw [show hexF (f + 2) n = hexF (f + 1) (n / 16) ++ [digC (n % 16)] from by rw [hexF, if_neg hn]]
      rw [hexF_more (f + 1) (n / 16) (by
        rw [Nat.div_lt_iff_lt_mul (by decide)]
        rw [Nat.pow_succ] at h
        exact h) (by omega)]
theorem hexF_cut : ∀ (k f n : Nat), n < 16 ^ f → 0 < f → hexF (f + k) n = hexF f n
  | 0, f, n, _, _ => rfl
  | k + 1, f, n, h, h0 => by
    rw [show f + (k + 1) = (f + k) + 1 from by omega, hexF_more (f + k) n (Nat.lt_of_lt_of_le h (Nat.pow_le_pow_right (by decide) (by omega))) (by omega), hexF_cut k f n h h0]
theorem hexC_ok (n : Nat) (h : n < 4294967296) : valC (hexC n) = n ∧ (∀ c ∈ hexC n, isHx c = true ∧ c ≠ 10 ∧ c ≠ 13 ∧ c ≠ 59) ∧ 0 < (hexC n).length ∧ (hexC n).length ≤ 8 := by
  have e : hexC n = hexF 8 n := hexF_cut 8 8 n h (by decide)
  rw [e]
  exact hexF_ok 7 n h
/-- How many bytes a line says there are; -1: it is none. -/
def szC (s : List UInt8) : Int := if 256 < s.length ∨ (13 : UInt8) ∈ s ∨ findU [59] s < 1 ∨ 8 < findU [59] s ∨ (s.take (findU [59] s)).all isHx = false then -1 else (valC (s.take (findU [59] s)) : Int)
theorem sz_hex (n : Nat) (h : n < 4294967296) : szC (hexC n) = n := by
  obtain ⟨h1, h2, h3, h4⟩ := hexC_ok n h
  have hf : findU [59] (hexC n) = (hexC n).length := find_miss 59 _ (fun hc => (h2 59 hc).2.2.2 rfl)
  unfold szC
  rw [hf, List.take_length, h1]
  rw [if_neg]
  rintro (h5 | h5 | h5 | h5 | h5)
  · omega
  · exact (h2 13 h5).2.2.1 rfl
  · omega
  · omega
  · rw [List.all_eq_true.2 (fun c hc => (h2 c hc).1)] at h5
    cases h5
/-! Put together. -/
def oneC (p : List UInt8) : List UInt8 := if p = [] then [] else hexC p.length ++ [13, 10] ++ p ++ [13, 10]
def endC : List UInt8 := [48, 13, 10, 13, 10]
def encC (l : List (List UInt8)) : List UInt8 := l.flatMap oneC ++ endC
theorem enc_cons (p : List UInt8) (l : List (List UInt8)) : encC (p :: l) = oneC p ++ encC l := by simp [encC]
/-! Read. -/
/-- The rest r of the bytes, 'at' of them behind, the body so far. -/
def decC : Nat → List UInt8 → Nat → List UInt8 → List UInt8 × Nat × Int
  | 0, _, _, _ => ([], 0, 10)
  | f + 1, r, at0, body =>
    if findU [10] r = r.length ∧ r.length < 258 then ([], 0, 10)
    else if 258 ≤ findU [10] r ∨ findU [10] r = 0 ∨ r.getD (findU [10] r - 1) 0 ≠ 13 then ([], 0, 5)
    else if szC (r.take (findU [10] r - 1)) < 0 then ([], 0, 5)
    else if szC (r.take (findU [10] r - 1)) = 0 then
      (if (parseH (r.drop (findU [10] r + 1))).2.2 ≠ 0 then ([], 0, (parseH (r.drop (findU [10] r + 1))).2.2) else (body, at0 + (findU [10] r + 1) + (parseH (r.drop (findU [10] r + 1))).2.1, 0))
    else if 32768 < (body.length : Int) + szC (r.take (findU [10] r - 1)) then ([], 0, 3)
    else if (r.drop (findU [10] r + 1)).length ≤ (szC (r.take (findU [10] r - 1))).toNat then ([], 0, 10)
    else if (r.drop (findU [10] r + 1)).getD (szC (r.take (findU [10] r - 1))).toNat 0 ≠ 13 then ([], 0, 5)
    else if (r.drop (findU [10] r + 1)).length ≤ (szC (r.take (findU [10] r - 1))).toNat + 1 then ([], 0, 10)
    else if (r.drop (findU [10] r + 1)).getD ((szC (r.take (findU [10] r - 1))).toNat + 1) 0 ≠ 10 then ([], 0, 5)
    else decC f ((r.drop (findU [10] r + 1)).drop ((szC (r.take (findU [10] r - 1))).toNat + 2)) (at0 + (findU [10] r + 1) + ((szC (r.take (findU [10] r - 1))).toNat + 2)) (body ++ (r.drop (findU [10] r + 1)).take (szC (r.take (findU [10] r - 1))).toNat)
def decodeC (b : List UInt8) : List UInt8 × Nat × Int := decC (b.length + 1) b 0 []
/-- A line s, its end, and t behind it: what is left of a step. -/
theorem dec_line (f : Nat) (s t : List UInt8) (at0 : Nat) (body : List UInt8) (h10 : (10 : UInt8) ∉ s) (hs : s.length ≤ 256) : decC (f + 1) (s ++ 13 :: 10 :: t) at0 body =
    if szC s < 0 then ([], 0, 5)
    else if szC s = 0 then (if (parseH t).2.2 ≠ 0 then ([], 0, (parseH t).2.2) else (body, at0 + (s.length + 2) + (parseH t).2.1, 0))
    else if 32768 < (body.length : Int) + szC s then ([], 0, 3)
    else if t.length ≤ (szC s).toNat then ([], 0, 10)
    else if t.getD (szC s).toNat 0 ≠ 13 then ([], 0, 5)
    else if t.length ≤ (szC s).toNat + 1 then ([], 0, 10)
    else if t.getD ((szC s).toNat + 1) 0 ≠ 10 then ([], 0, 5)
    else decC f (t.drop ((szC s).toNat + 2)) (at0 + (s.length + 2) + ((szC s).toNat + 2)) (body ++ t.take (szC s).toNat) := by
  have es : s ++ 13 :: 10 :: t = (s ++ [13]) ++ 10 :: t := by simp
  have hn : (10 : UInt8) ∉ s ++ [13] := by
    rw [List.mem_append, List.mem_singleton]
    rintro (h | h)
    · exact h10 h
    · revert h; decide
  have hf : findU [10] (s ++ 13 :: 10 :: t) = s.length + 1 := by
    rw [es, find_byte 10 _ _ hn]; simp
  have hlen : (s ++ 13 :: 10 :: t).length = s.length + 2 + t.length := by simp; omega
  have hg : (s ++ 13 :: 10 :: t).getD (s.length + 1 - 1) 0 = 13 := by
    rw [Nat.add_sub_cancel, List.getD_eq_getElem?_getD, List.getElem?_append_right (Nat.le_refl _), Nat.sub_self]
    rfl
  have ht : (s ++ 13 :: 10 :: t).take (s.length + 1 - 1) = s := by rw [Nat.add_sub_cancel, List.take_left]
  have hd : (s ++ 13 :: 10 :: t).drop (s.length + 1 + 1) = t := by
    rw [show s.length + 1 + 1 = s.length + 2 from by omega, ← List.drop_drop, List.drop_left]
    rfl
  conv => lhs; unfold decC
  rw [hf, hg, ht, hd, hlen]
  rw [if_neg (by omega), if_neg (by
    rintro (h | h | h)
    · omega
    · omega
    · exact h rfl)]
theorem sz_nought : szC [48] = 0 := by kernel_rfl
theorem chk_nil : checkH [] = 0 := by kernel_rfl
theorem parse_end (more : List UInt8) : parseH (13 :: 10 :: more) = ([], 2, 0) := print_parse [] chk_nil more
theorem parse_e0 : parseH [] = ([], 0, 10) := by kernel_rfl
theorem parse_e1 : parseH [13] = ([], 0, 10) := by kernel_rfl
theorem one_shape (p : List UInt8) (h : p ≠ []) (t : List UInt8) : oneC p ++ t = hexC p.length ++ 13 :: 10 :: (p ++ 13 :: 10 :: t) := by
  unfold oneC
  rw [if_neg h]
  simp
theorem getD_at (p t : List UInt8) (c : UInt8) : (p ++ c :: t).getD p.length 0 = c := by
  rw [List.getD_eq_getElem?_getD, List.getElem?_append_right (Nat.le_refl _), Nat.sub_self]; rfl
theorem getD_at1 (p t : List UInt8) (c d : UInt8) : (p ++ c :: d :: t).getD (p.length + 1) 0 = d := by
  rw [List.getD_eq_getElem?_getD, List.getElem?_append_right (by omega), show p.length + 1 - p.length = 1 from by omega]; rfl
/-- A chunk is read. -/
theorem dec_one (f : Nat) (p t : List UInt8) (at0 : Nat) (body : List UInt8) (h : p ≠ []) (hb : body.length + p.length ≤ 32768) : decC (f + 1) (oneC p ++ t) at0 body = decC f t (at0 + (oneC p).length) (body ++ p) := by
  have hn : p.length < 4294967296 := by omega
  obtain ⟨h1, h2, h3, h4⟩ := hexC_ok p.length hn
  have hsz := sz_hex p.length hn
  have hp : 0 < p.length := List.length_pos_iff.2 h
  have hol : (oneC p).length = (hexC p.length).length + 2 + (p.length + 2) := by
    unfold oneC
    rw [if_neg h]
    simp; omega
  rw [one_shape p h t, dec_line f (hexC p.length) (p ++ 13 :: 10 :: t) at0 body (fun hc => (h2 10 hc).2.1 rfl) (by omega), hsz, Int.toNat_natCast]
  rw [if_neg (by omega), if_neg (by omega), if_neg (by omega), if_neg (by simp), getD_at, if_neg (by simp), if_neg (by simp), getD_at1, if_neg (by simp), List.take_left]
  rw [show (p ++ 13 :: 10 :: t).drop (p.length + 2) = t from by rw [← List.drop_drop, List.drop_left]; rfl, hol]
  rw [show at0 + ((hexC p.length).length + 2) + (p.length + 2) = at0 + ((hexC p.length).length + 2 + (p.length + 2)) from by omega]
theorem dec_end (f : Nat) (more : List UInt8) (at0 : Nat) (body : List UInt8) : decC (f + 1) (endC ++ more) at0 body = (body, at0 + 5, 0) := by
  have e : endC ++ more = [48] ++ 13 :: 10 :: (13 :: 10 :: more) := rfl
  rw [e, dec_line f [48] (13 :: 10 :: more) at0 body (by decide) (by decide), sz_nought, parse_end]
  rw [if_neg (by decide), if_pos rfl, if_neg (by simp)]
  rfl
/-- What is put together is read back, whatever follows. -/
theorem dec_enc : ∀ (l : List (List UInt8)) (f : Nat) (more : List UInt8) (at0 : Nat) (body : List UInt8), (encC l).length < f → body.length + l.flatten.length ≤ 32768 → decC f (encC l ++ more) at0 body = (body ++ l.flatten, at0 + (encC l).length, 0)
  | [], 0, _, _, _, hf, _ => by simp at hf
  | [], f + 1, more, at0, body, _, _ => by
    rw [show encC [] ++ more = endC ++ more from rfl, dec_end, List.flatten_nil, List.append_nil]
    rfl
  | p :: l, f, more, at0, body, hf, hb => by
    rw [enc_cons] at hf ⊢
    rw [List.flatten_cons, List.length_append] at hb
    by_cases h : p = []
    · subst h
      have e : oneC [] = [] := rfl
      rw [e, List.nil_append] at hf ⊢
      rw [dec_enc l f more at0 body hf (by omega), List.flatten_cons, List.nil_append]
    · rw [List.length_append] at hf
      have hol : 0 < (oneC p).length := by
        unfold oneC
        rw [if_neg h]
        simp; omega
      match f, hf with
      | f + 1, hf =>
        rw [List.append_assoc, dec_one f p _ at0 body h (by omega), dec_enc l f more _ _ (by omega) (by rw [List.length_append]; omega), List.flatten_cons, List.append_assoc, List.length_append]
        rw [show at0 + (oneC p).length + (encC l).length = at0 + ((oneC p).length + (encC l).length) from by omega]
theorem decode_enc (l : List (List UInt8)) (h : l.flatten.length ≤ 32768) (more : List UInt8) : decodeC (encC l ++ more) = (l.flatten, (encC l).length, 0) := by
  unfold decodeC
  rw [dec_enc l _ more 0 [] (by rw [List.length_append]; omega) (by simpa using h)]
  simp
/-- No line's end yet. -/
theorem dec_short (f : Nat) (r : List UInt8) (at0 : Nat) (body : List UInt8) (h : (10 : UInt8) ∉ r) (hl : r.length < 258) : decC (f + 1) r at0 body = ([], 0, 10) := by
  conv => lhs; unfold decC
  rw [if_pos ⟨find_miss 10 r h, hl⟩]
theorem end_cut (f k : Nat) (hk : k < 5) (at0 : Nat) (body : List UInt8) : decC (f + 1) (endC.take k) at0 body = ([], 0, 10) := by
  rcases (show k = 0 ∨ k = 1 ∨ k = 2 ∨ k = 3 ∨ k = 4 by omega) with rfl | rfl | rfl | rfl | rfl
  · exact dec_short f _ at0 body (by decide) (by decide)
  · exact dec_short f _ at0 body (by decide) (by decide)
  · exact dec_short f _ at0 body (by decide) (by decide)
  · have e : endC.take 3 = [48] ++ 13 :: 10 :: [] := rfl
    rw [e, dec_line f [48] [] at0 body (by decide) (by decide), sz_nought, parse_e0]
    rfl
  · have e : endC.take 4 = [48] ++ 13 :: 10 :: [13] := rfl
    rw [e, dec_line f [48] [13] at0 body (by decide) (by decide), sz_nought, parse_e1]
    rfl
/-- Of a beginning more is to come. -/
theorem dec_cut : ∀ (l : List (List UInt8)) (f k : Nat) (at0 : Nat) (body : List UInt8), k < f → k < (encC l).length → body.length + l.flatten.length ≤ 32768 → decC f ((encC l).take k) at0 body = ([], 0, 10)
  | [], 0, k, _, _, hf, _, _ => by omega
  | [], f + 1, k, at0, body, _, hk, _ => end_cut f k hk at0 body
  | p :: l, f, k, at0, body, hf, hk, hb => by
    rw [enc_cons] at hk ⊢
    rw [List.flatten_cons, List.length_append] at hb
    by_cases h : p = []
    · subst h
      have e : oneC [] = [] := rfl
      rw [e, List.nil_append] at hk ⊢
      exact dec_cut l f k at0 body hf hk (by omega)
    · have hn : p.length < 4294967296 := by omega
      obtain ⟨h1, h2, h3, h4⟩ := hexC_ok p.length hn
      have hsz := sz_hex p.length hn
      have hp : 0 < p.length := List.length_pos_iff.2 h
      have h10 : (10 : UInt8) ∉ hexC p.length := fun hc => (h2 10 hc).2.1 rfl
      have hlt : (oneC p ++ encC l).length = (hexC p.length).length + 2 + (p.length + 2 + (encC l).length) := by
        rw [one_shape p h]; simp; omega
      rw [hlt] at hk
      match f, hf with
      | f + 1, hf =>
        rw [one_shape p h]
        generalize hexC p.length = s at h1 h2 h3 h4 hsz h10 hk
        by_cases hks : k ≤ s.length + 1
        · have et : (s ++ 13 :: 10 :: (p ++ 13 :: 10 :: encC l)).take k = (s ++ [13]).take k := by
            rw [show s ++ 13 :: 10 :: (p ++ 13 :: 10 :: encC l) = (s ++ [13]) ++ 10 :: (p ++ 13 :: 10 :: encC l) from by simp, List.take_append_of_le_length (by simp; omega)]
          rw [et]
          refine dec_short f _ at0 body (fun hc => ?_) (by rw [List.length_take]; simp; omega)
          have := List.mem_of_mem_take hc
          rw [List.mem_append, List.mem_singleton] at this
          rcases this with h5 | h5
          · exact h10 h5
          · revert h5; decide
        · obtain ⟨j, rfl⟩ : ∃ j, k = s.length + (j + 2) := ⟨k - s.length - 2, by omega⟩
          have et : (s ++ 13 :: 10 :: (p ++ 13 :: 10 :: encC l)).take (s.length + (j + 2)) = s ++ 13 :: 10 :: (p ++ 13 :: 10 :: encC l).take j := by
            rw [List.take_length_add_append]
            rfl
          rw [et, dec_line f s _ at0 body h10 (by omega), hsz, Int.toNat_natCast]
          rw [if_neg (by omega), if_neg (by omega), if_neg (by omega)]
          have hlj : ((p ++ 13 :: 10 :: encC l).take j).length = min j (p.length + 2 + (encC l).length) := by
            rw [List.length_take]; simp; omega
          by_cases hj1 : j ≤ p.length
          · rw [if_pos (by rw [hlj]; omega)]
          · rw [if_neg (by rw [hlj]; omega)]
            obtain ⟨i, rfl⟩ : ∃ i, j = p.length + (i + 1) := ⟨j - p.length - 1, by omega⟩
            rw [List.take_length_add_append] at hlj ⊢
            rw [List.take_succ_cons] at hlj ⊢
            rw [getD_at, if_neg (by simp)]
            by_cases hi : i = 0
            · subst hi
              rw [if_pos (by simp)]
            · obtain ⟨i2, rfl⟩ : ∃ i2, i = i2 + 1 := ⟨i - 1, by omega⟩
              rw [List.take_succ_cons] at hlj ⊢
              rw [if_neg (by simp), getD_at1, if_neg (by simp)]
              rw [show (p ++ 13 :: 10 :: (encC l).take i2).drop (p.length + 2) = (encC l).take i2 from by rw [← List.drop_drop, List.drop_left]; rfl, List.take_left]
              exact dec_cut l f i2 _ _ (by omega) (by omega) (by rw [List.length_append]; omega)
theorem decode_cut (l : List (List UInt8)) (h : l.flatten.length ≤ 32768) (k : Nat) (hk : k < (encC l).length) : decodeC ((encC l).take k) = ([], 0, 10) := by
  unfold decodeC
  have hl : ((encC l).take k).length = k := by rw [List.length_take]; omega
  rw [hl]
  exact dec_cut l (k + 1) k 0 [] (by omega) hk (by simpa using h)
end Go.Proofs.YtlgkbdebpnbndaaGreatDoor
namespace Go.Proofs.YtlgkbdebpnbndaaGreatDoor
set_option linter.unusedVariables false
set_option linter.unusedSimpArgs false

/-! A size's line. -/
/-- A line's digits d: what it says. -/
structure DigsC (s d : List UInt8) : Prop where
  cut : (Lib.cut s [59]).1 = d
  le : d.length ≤ s.length
  find : findU [59] s = d.length
  size : szC s = if 256 < s.length ∨ (13 : UInt8) ∈ s ∨ d.length < 1 ∨ 8 < d.length ∨ d.all isHx = false then -1 else (valC d : Int)
  take : s.take d.length = d
theorem digs_of (s : List UInt8) : ∃ d, DigsC s d := by
  rcases first_dec 59 s with hno | ⟨a, x, rfl, hno⟩
  · have hf := find_miss 59 s hno
    refine ⟨s, by rw [cut_no 59 s hno], Nat.le_refl _, hf, ?_, List.take_length⟩
    unfold szC
    rw [hf, List.take_length]
  · have hf := find_byte 59 a x hno
    refine ⟨a, by rw [cut_at 59 a x hno], by simp, hf, ?_, List.take_left⟩
    unfold szC
    rw [hf, List.take_left]
/-- What the program's Size tells: it refuses a line feed, too. -/
def szP (s : List UInt8) : Int := if (10 : UInt8) ∈ s then -1 else szC s
theorem szP_eq (s : List UInt8) (h : (10 : UInt8) ∉ s) : szP s = szC s := by unfold szP; rw [if_neg h]
theorem hxv_lt : ∀ n : Fin 256, isHx (UInt8.ofNat n.val) = true → hxv (UInt8.ofNat n.val) < 16 := by decide +kernel
theorem hxv16 (c : UInt8) (h : isHx c = true) : hxv c < 16 := by
  have := hxv_lt ⟨c.toNat, c.toNat_lt⟩
  simp only [UInt8.ofNat_toNat] at this
  exact this h
theorem valA_lt : ∀ (l : List UInt8) (acc : Nat), l.all isHx = true → l.foldl (fun n c => n * 16 + hxv c) acc < (acc + 1) * 16 ^ l.length
  | [], acc, _ => by simp
  | c :: r, acc, h => by
    rw [List.all_cons, Bool.and_eq_true] at h
    have h1 := valA_lt r (acc * 16 + hxv c) h.2
    have h2 := hxv16 c h.1
    rw [List.foldl_cons, List.length_cons]
    refine Nat.lt_of_lt_of_le h1 ?_
    rw [Nat.pow_succ, Nat.mul_comm (16 ^ r.length) 16, ← Nat.mul_assoc]
    exact Nat.mul_le_mul_right _ (by omega)
theorem val_lt (l : List UInt8) (h : l.all isHx = true) : valC l < 16 ^ l.length := by
  have := valA_lt l 0 h
  rw [Nat.zero_add, Nat.one_mul] at this
  exact this
theorem val_small (l : List UInt8) (h : l.all isHx = true) (hl : l.length ≤ 8) : valC l < 4294967296 := by
  have h1 := val_lt l h
  have h2 : 16 ^ l.length ≤ 16 ^ 8 := Nat.pow_le_pow_right (by decide) hl
  omega
theorem szC_small (s : List UInt8) : szC s < 4294967296 := by
  obtain ⟨d, hd⟩ := digs_of s
  rw [hd.size]
  by_cases h : 256 < s.length ∨ (13 : UInt8) ∈ s ∨ d.length < 1 ∨ 8 < d.length ∨ d.all isHx = false
  · rw [if_pos h]; omega
  · rw [if_neg h]
    have ha : d.all isHx = true := by
      cases hh : d.all isHx with
      | true => rfl
      | false => exact absurd (.inr (.inr (.inr (.inr hh)))) h
    have := val_small d ha (by
      rcases Nat.lt_or_ge 8 d.length with h8 | h8
      · exact absurd (.inr (.inr (.inr (.inl h8)))) h
      · exact h8)
    omega

/-! One step. -/
/-- What stands behind a chunk. -/
def chkC (t : List UInt8) (S : Nat) : Int :=
  if t.length ≤ S then 10 else if t.getD S 0 ≠ 13 then 5 else if t.length ≤ S + 1 then 10 else if t.getD (S + 1) 0 ≠ 10 then 5 else 0
def stepC (f : Nat) (t : List UInt8) (S at1 : Nat) (body : List UInt8) : List UInt8 × Nat × Int :=
  if S = 0 then (if (parseH t).2.2 ≠ 0 then ([], 0, (parseH t).2.2) else (body, at1 + (parseH t).2.1, 0))
  else if 32768 < body.length + S then ([], 0, 3)
  else if chkC t S ≠ 0 then ([], 0, chkC t S)
  else decC f (t.drop (S + 2)) (at1 + (S + 2)) (body ++ t.take S)
theorem dec_step (f : Nat) (s t : List UInt8) (at0 : Nat) (body : List UInt8) (h10 : (10 : UInt8) ∉ s) (hs : s.length ≤ 256) (h0 : 0 ≤ szC s) : decC (f + 1) (s ++ 13 :: 10 :: t) at0 body = stepC f t (szC s).toNat (at0 + (s.length + 2)) body := by
  rw [dec_line f s t at0 body h10 hs]
  obtain ⟨S, hS⟩ : ∃ S : Nat, szC s = (S : Int) := ⟨(szC s).toNat, by omega⟩
  rw [hS, Int.toNat_natCast]
  unfold stepC chkC
  rw [if_neg (by omega)]
  by_cases hz : S = 0
  · subst hz
    rw [if_pos (by rfl), if_pos rfl]
  · rw [if_neg (by omega), if_neg hz]
    by_cases hb : 32768 < body.length + S
    · rw [if_pos (by omega), if_pos hb]
    · rw [if_neg (by omega), if_neg hb]
      by_cases h1 : t.length ≤ S
      · simp only [if_pos h1]
        rfl
      · simp only [if_neg h1]
        by_cases h2 : t.getD S 0 ≠ 13
        · simp only [if_pos h2]
          rfl
        · simp only [if_neg h2]
          by_cases h3 : t.length ≤ S + 1
          · simp only [if_pos h3]
            rfl
          · simp only [if_neg h3]
            by_cases h4 : t.getD (S + 1) 0 ≠ 10
            · simp only [if_pos h4]
              rfl
            · simp only [if_neg h4]
              rfl
theorem dec_neg (f : Nat) (s t : List UInt8) (at0 : Nat) (body : List UInt8) (h10 : (10 : UInt8) ∉ s) (hs : s.length ≤ 256) (h0 : szC s < 0) : decC (f + 1) (s ++ 13 :: 10 :: t) at0 body = ([], 0, 5) := by
  rw [dec_line f s t at0 body h10 hs, if_pos h0]
theorem dec_far (f : Nat) (r : List UInt8) (at0 : Nat) (body : List UInt8) (h : (10 : UInt8) ∉ r.take 258) (hl : 258 ≤ r.length) : decC (f + 1) r at0 body = ([], 0, 5) := by
  have hf : 258 ≤ findU [10] r := by
    have e := find_skip [10] (r.take 258) (r.drop 258) (fun d hd => by
      have : d ≠ 10 := fun e => h (e ▸ hd)
      simpa using this)
    rw [List.take_append_drop, List.length_take] at e
    omega
  conv => lhs; unfold decC
  rw [if_neg (by omega), if_pos (.inl hf)]
theorem dec_bad (f : Nat) (a t : List UInt8) (at0 : Nat) (body : List UInt8) (h : (10 : UInt8) ∉ a) (hl : a.length < 258) (hc : a.getLastD 0 ≠ 13) : decC (f + 1) (a ++ 10 :: t) at0 body = ([], 0, 5) := by
  have hf := find_byte 10 a t h
  conv => lhs; unfold decC
  rw [hf, if_neg (by simp), if_pos]
  rcases List.eq_nil_or_concat a with rfl | ⟨y, z, rfl⟩
  · exact .inr (.inl rfl)
  · refine .inr (.inr ?_)
    rw [List.concat_eq_append] at hc ⊢
    have e1 : (y ++ [z]).getLastD 0 = z := by rw [List.getLastD_eq_getLast?, List.getLast?_append]; rfl
    rw [e1] at hc
    rw [List.append_assoc, List.length_append, List.length_singleton, Nat.add_sub_cancel]
    rw [show y ++ ([z] ++ 10 :: t) = y ++ z :: (10 :: t) from rfl, getD_at]
    exact hc
/-- What a line tells: how many bytes, how long it is, or why it is none. -/
structure LineC (r : List UInt8) (S N : Nat) (E : Int) : Prop where
  none : E ≠ 0 → S = 0 ∧ N = 0 ∧ ∀ f at0 body, decC (f + 1) r at0 body = ([], 0, E)
  some : E = 0 → 0 < N ∧ N ≤ r.length ∧ S < 4294967296 ∧ ∀ f at0 body, decC (f + 1) r at0 body = stepC f (r.drop N) S (at0 + N) body
theorem LineC.bad {r : List UInt8} {E : Int} (h0 : E ≠ 0) (h : ∀ f at0 body, decC (f + 1) r at0 body = ([], 0, E)) : LineC r 0 0 E := ⟨fun _ => ⟨rfl, rfl, h⟩, fun h => absurd h h0⟩
theorem line_short (r : List UInt8) (h : (10 : UInt8) ∉ r.take 258) : LineC r 0 0 (if r.length < 258 then 10 else 5) := by
  by_cases hl : r.length < 258
  · rw [if_pos hl]
    rw [List.take_of_length_le (by omega)] at h
    exact .bad (by decide) (fun f at0 body => dec_short f r at0 body h hl)
  · rw [if_neg hl]
    exact .bad (by decide) (fun f at0 body => dec_far f r at0 body h (by omega))
theorem line_bad (a t : List UInt8) (h : (10 : UInt8) ∉ a) (hl : a.length < 258) (hc : a.getLastD 0 ≠ 13) : LineC (a ++ 10 :: t) 0 0 5 := .bad (by decide) (fun f at0 body => dec_bad f a t at0 body h hl hc)
theorem line_neg (s t : List UInt8) (h : (10 : UInt8) ∉ s) (hl : s.length ≤ 256) (hz : szC s < 0) : LineC (s ++ 13 :: 10 :: t) 0 0 5 := .bad (by decide) (fun f at0 body => dec_neg f s t at0 body h hl hz)
theorem line_at (s t : List UInt8) (h : (10 : UInt8) ∉ s) (hl : s.length ≤ 256) (hz : 0 ≤ szC s) : LineC (s ++ 13 :: 10 :: t) (szC s).toNat (s.length + 2) 0 := by
  refine ⟨fun h => absurd rfl h, fun _ => ⟨by omega, by simp, by have := szC_small s; omega, fun f at0 body => ?_⟩⟩
  rw [dec_step f s t at0 body h hl hz]
  congr 1
  rw [← List.drop_drop, List.drop_left]
  rfl
theorem line_dec (r : List UInt8) : (10 : UInt8) ∉ r.take 258 ∨ ∃ a x t, r.take 258 = a ++ 10 :: x ∧ r = a ++ 10 :: t ∧ (10 : UInt8) ∉ a ∧ a.length < 258 := by
  rcases first_dec 10 (r.take 258) with h | ⟨a, x, e, h⟩
  · exact .inl h
  · refine .inr ⟨a, x, x ++ r.drop 258, e, ?_, h, ?_⟩
    · rw [show a ++ 10 :: (x ++ r.drop 258) = (a ++ 10 :: x) ++ r.drop 258 from by simp, ← e, List.take_append_drop]
    · have := congrArg List.length e
      rw [List.length_take, List.length_append, List.length_cons] at this
      omega
theorem chk_ok (t : List UInt8) (S : Nat) (h : chkC t S = 0) : S + 2 ≤ t.length := by
  unfold chkC at h
  by_cases h1 : t.length ≤ S
  · rw [if_pos h1] at h; cases h
  · rw [if_neg h1] at h
    by_cases h2 : t.getD S 0 ≠ 13
    · rw [if_pos h2] at h; cases h
    · rw [if_neg h2] at h
      by_cases h3 : t.length ≤ S + 1
      · rw [if_pos h3] at h; cases h
      · omega
/-! The whole, from the bytes that are left. -/
def LeadsC (b : List UInt8) (k : Nat) (body : List UInt8) : Prop := ∃ f, b.length - k < f ∧ decC f (b.drop k) k body = decodeC b
theorem leadsC_zero (b : List UInt8) : LeadsC b 0 [] := ⟨b.length + 1, by omega, rfl⟩
theorem LeadsC.pos {b : List UInt8} {k : Nat} {body : List UInt8} (h : LeadsC b k body) : ∃ f, b.length - k < f + 1 ∧ decC (f + 1) (b.drop k) k body = decodeC b := by
  obtain ⟨f, h1, h2⟩ := h
  match f, h1, h2 with
  | 0, h1, _ => omega
  | f + 1, h1, h2 => exact ⟨f, h1, h2⟩
theorem LeadsC.none {b : List UInt8} {k : Nat} {body : List UInt8} {S N : Nat} {E : Int} (h : LeadsC b k body) (hl : LineC (b.drop k) S N E) (he : E ≠ 0) : decodeC b = ([], 0, E) := by
  obtain ⟨f, h1, h2⟩ := h.pos
  rw [← h2, (hl.none he).2.2]
theorem LeadsC.step {b : List UInt8} {k : Nat} {body : List UInt8} {S N : Nat} (h : LeadsC b k body) (hl : LineC (b.drop k) S N 0) : ∃ f, b.length - k < f + 1 ∧ decodeC b = stepC f (b.drop (k + N)) S (k + N) body := by
  obtain ⟨f, h1, h2⟩ := h.pos
  refine ⟨f, h1, ?_⟩
  rw [← h2, (hl.some rfl).2.2.2, List.drop_drop]
theorem LeadsC.end {b : List UInt8} {k : Nat} {body : List UInt8} {N : Nat} (h : LeadsC b k body) (hl : LineC (b.drop k) 0 N 0) : decodeC b = if (parseH (b.drop (k + N))).2.2 ≠ 0 then ([], 0, (parseH (b.drop (k + N))).2.2) else (body, k + N + (parseH (b.drop (k + N))).2.1, 0) := by
  obtain ⟨f, h1, h2⟩ := h.step hl
  rw [h2]
  unfold stepC
  rw [if_pos rfl]
theorem LeadsC.long {b : List UInt8} {k : Nat} {body : List UInt8} {S N : Nat} (h : LeadsC b k body) (hl : LineC (b.drop k) S N 0) (hS : S ≠ 0) (hb : 32768 < body.length + S) : decodeC b = ([], 0, 3) := by
  obtain ⟨f, h1, h2⟩ := h.step hl
  rw [h2]
  unfold stepC
  rw [if_neg hS, if_pos hb]
theorem LeadsC.chk {b : List UInt8} {k : Nat} {body : List UInt8} {S N : Nat} (h : LeadsC b k body) (hl : LineC (b.drop k) S N 0) (hS : S ≠ 0) (hb : ¬ 32768 < body.length + S) (hc : chkC (b.drop (k + N)) S ≠ 0) : decodeC b = ([], 0, chkC (b.drop (k + N)) S) := by
  obtain ⟨f, h1, h2⟩ := h.step hl
  rw [h2]
  unfold stepC
  rw [if_neg hS, if_neg hb, if_pos hc]
theorem LeadsC.on {b : List UInt8} {k : Nat} {body : List UInt8} {S N : Nat} (h : LeadsC b k body) (hl : LineC (b.drop k) S N 0) (hS : S ≠ 0) (hb : ¬ 32768 < body.length + S) (hc : chkC (b.drop (k + N)) S = 0) : k + N + (S + 2) ≤ b.length ∧ LeadsC b (k + N + (S + 2)) (body ++ (b.drop (k + N)).take S) := by
  obtain ⟨f, h1, h2⟩ := h.step hl
  have h3 := chk_ok _ _ hc
  rw [List.length_drop] at h3
  have h4 := (hl.some rfl).1
  refine ⟨by omega, f, by omega, ?_⟩
  rw [h2]
  unfold stepC
  rw [if_neg hS, if_neg hb, if_neg (by simpa using hc), List.drop_drop]
/-- The end behind a chunk, as the program looks at it. -/
theorem chk_prog (t : List UInt8) (S : Nat) (h : S ≤ t.length) : chkC t S = if ((t.drop S).take 2).isPrefixOf [13, 10] then (if ((t.drop S).take 2).length < 2 then 10 else 0) else 5 := by
  have hl : t.length = S + (t.drop S).length := by rw [List.length_drop]; omega
  have hg : ∀ j, t.getD (S + j) 0 = (t.drop S).getD j 0 := fun j => by simp [List.getD_eq_getElem?_getD]
  have hg0 := hg 0
  have hg1 := hg 1
  rw [Nat.add_zero] at hg0
  unfold chkC
  rw [hl, hg0, hg1]
  generalize t.drop S = r
  rcases r with _ | ⟨c, _ | ⟨d, r⟩⟩
  · simp
  · by_cases hc : c = 13
    · subst hc; simp
    · simp [hc]
  · by_cases hc : c = 13
    · by_cases hd : d = 10
      · subst hc hd; simp
      · subst hc; simp [hd]
    · simp [hc]
/-! How long what is put together is. -/
theorem one_len (p : List UInt8) (h : p.length < 4294967296) : (oneC p).length ≤ 13 * p.length := by
  unfold oneC
  by_cases hp : p = []
  · rw [if_pos hp]; simp
  · rw [if_neg hp]
    have h1 := (hexC_ok p.length h).2.2.2
    have h2 : 0 < p.length := List.length_pos_iff.2 hp
    simp only [List.length_append, List.length_cons, List.length_nil]
    omega
theorem ones_len : ∀ l : List (List UInt8), l.flatten.length ≤ 32768 → (l.flatMap oneC).length ≤ 13 * l.flatten.length
  | [], _ => by simp
  | p :: l, h => by
    rw [List.flatten_cons, List.length_append] at h
    have h1 := one_len p (by omega)
    have h2 := ones_len l (by omega)
    rw [List.flatMap_cons, List.flatten_cons, List.length_append, List.length_append]
    omega
theorem enc_len (l : List (List UInt8)) (h : l.flatten.length ≤ 32768) : (encC l).length ≤ 500000 := by
  have := ones_len l h
  unfold encC endC
  rw [List.length_append]
  simp only [List.length_cons, List.length_nil]
  omega
theorem enc_pos (l : List (List UInt8)) : 5 ≤ (encC l).length := by
  unfold encC endC
  rw [List.length_append]
  simp only [List.length_cons, List.length_nil]
  omega
theorem hex_small (n : Nat) (h : n < 16) : hexC n = [digC n] := by
  unfold hexC
  rw [hexF, if_pos h]
theorem hex_great (n : Nat) (h : ¬ n < 16) (hn : n < 4294967296) : hexC n = hexC (n / 16) ++ hexC (n % 16) := by
  rw [hex_small (n % 16) (Nat.mod_lt _ (by decide))]
  unfold hexC
  rw [show hexF 16 n = hexF 15 (n / 16) ++ [digC (n % 16)] from by rw [hexF, if_neg h], ← hexF_more 15 (n / 16) (by omega) (by decide)]
end Go.Proofs.YtlgkbdebpnbndaaGreatDoor
namespace Go.Proofs.YtlgkbdebpnbndaaGreatDoor
set_option linter.unusedVariables false
set_option linter.unusedSimpArgs false

theorem getD_drop (b : List UInt8) (a j : Nat) : (b.drop a).getD j 0 = b.getD (a + j) 0 := by simp [List.getD_eq_getElem?_getD]
/-- From a the look for a line's end stands at e. -/
structure ScanC (b : List UInt8) (a e : Nat) : Prop where
  ge : a ≤ e
  le : e ≤ b.length
  on : ∀ i, a ≤ i → i < e → b.getD i 0 ≠ 10 ∧ i < a + 258
  upto : e ≤ a + 258
theorem getD_in (a x : List UInt8) (j : Nat) (h : j < a.length) : (a ++ x).getD j 0 ∈ a := by
  rw [List.getD_eq_getElem?_getD, List.getElem?_append_left h, List.getElem?_eq_getElem h]
  exact List.getElem_mem h
theorem scan_dec (b : List UInt8) (a : Nat) (ha : a ≤ b.length) : ∃ e, ScanC b a e ∧
    ((e = b.length ∧ e < a + 258 ∧ ∀ f body, decC (f + 1) (b.drop a) a body = ([], 0, 10)) ∨
     (e = a + 258 ∧ ∀ f body, decC (f + 1) (b.drop a) a body = ([], 0, 5)) ∨
     (e < b.length ∧ e < a + 258 ∧ b.getD e 0 = 10 ∧ (e = a ∨ b.getD (e - 1) 0 ≠ 13) ∧ ∀ f body, decC (f + 1) (b.drop a) a body = ([], 0, 5)) ∨
     (e < b.length ∧ e < a + 258 ∧ b.getD e 0 = 10 ∧ a < e ∧ b.getD (e - 1) 0 = 13 ∧
       (szC ((b.drop a).take (e - 1 - a)) < 0 → ∀ f body, decC (f + 1) (b.drop a) a body = ([], 0, 5)) ∧
       (0 ≤ szC ((b.drop a).take (e - 1 - a)) → ∀ f body, decC (f + 1) (b.drop a) a body = stepC f (b.drop (e + 1)) (szC ((b.drop a).take (e - 1 - a))).toNat (e + 1) body))) := by
  have hl : (b.drop a).length = b.length - a := List.length_drop
  have hat : ∀ i, a ≤ i → b.getD i 0 = (b.drop a).getD (i - a) 0 := fun i hi => by rw [getD_drop, show a + (i - a) = i from by omega]
  rcases line_dec (b.drop a) with hno | ⟨p, x, t, hx, hr, hp, hpl⟩
  · rcases Nat.lt_or_ge (b.drop a).length 258 with h | h
    · refine ⟨b.length, ⟨ha, Nat.le_refl _, fun i h1 h2 => ⟨?_, by omega⟩, by omega⟩, .inl ⟨rfl, by omega, fun f body => ?_⟩⟩
      · rw [hat i h1]
        intro e
        refine hno ?_
        rw [List.take_of_length_le (by omega), ← e, List.getD_eq_getElem?_getD, List.getElem?_eq_getElem (by omega)]
        exact List.getElem_mem _
      · rw [List.take_of_length_le (by omega)] at hno
        exact dec_short f _ a body hno h
    · refine ⟨a + 258, ⟨by omega, by omega, fun i h1 h2 => ⟨?_, h2⟩, Nat.le_refl _⟩, .inr (.inl ⟨rfl, fun f body => dec_far f _ a body hno h⟩)⟩
      rw [hat i h1]
      intro e
      refine hno ?_
      have hi : i - a < ((b.drop a).take 258).length := by rw [List.length_take]; omega
      have : ((b.drop a).take 258)[i - a]'hi = (b.drop a).getD (i - a) 0 := by
        rw [List.getElem_take, List.getD_eq_getElem?_getD, List.getElem?_eq_getElem (by omega)]; rfl
      rw [← e, ← this]
      exact List.getElem_mem hi
  · have hbl : b.length = a + p.length + 1 + t.length := by
      have := congrArg List.length hr
      rw [hl, List.length_append, List.length_cons] at this
      omega
    have hsc : ScanC b a (a + p.length) := ⟨by omega, by omega, fun i h1 h2 => ⟨by
      rw [hat i h1, hr]
      intro e
      have := getD_in p (10 :: t) (i - a) (by omega)
      rw [e] at this
      exact hp this, by omega⟩, by omega⟩
    have h10 : b.getD (a + p.length) 0 = 10 := by rw [← getD_drop, hr, getD_at]
    refine ⟨a + p.length, hsc, .inr (.inr ?_)⟩
    by_cases hc : p.getLastD 0 = 13
    · obtain ⟨s, rfl⟩ : ∃ s, p = s ++ [13] := by
        rcases List.eq_nil_or_concat p with rfl | ⟨y, z, rfl⟩
        · cases hc
        · rw [List.concat_eq_append] at hc ⊢
          have e : (y ++ [z]).getLastD 0 = z := by rw [List.getLastD_eq_getLast?, List.getLast?_append]; rfl
          rw [e] at hc
          subst hc
          exact ⟨y, rfl⟩
      have hsl : (s ++ [13]).length = s.length + 1 := by simp
      have h10s : (10 : UInt8) ∉ s := fun h => hp (by simp [h])
      have hr2 : b.drop a = s ++ 13 :: 10 :: t := by rw [hr]; simp
      rw [hsl] at h10 hpl hbl ⊢
      have e1 : a + (s.length + 1) - 1 - a = s.length := by omega
      have e2 : (b.drop a).take s.length = s := by rw [hr2, List.take_left]
      have e3 : b.drop (a + (s.length + 1) + 1) = t := by
        rw [show a + (s.length + 1) + 1 = a + (s.length + 2) from by omega, ← List.drop_drop, hr2, ← List.drop_drop, List.drop_left]
        rfl
      have h13 : b.getD (a + (s.length + 1) - 1) 0 = 13 := by
        rw [show a + (s.length + 1) - 1 = a + s.length from by omega, ← getD_drop, hr2, getD_at]
      rw [e1, e2, e3]
      refine .inr ⟨by omega, by omega, h10, by omega, h13, fun hz f body => ?_, fun hz f body => ?_⟩
      · rw [hr2]; exact dec_neg f s t a body h10s (by omega) hz
      · rw [hr2, dec_step f s t a body h10s (by omega) hz]
        rw [show a + (s.length + 2) = a + (s.length + 1) + 1 from by omega]
    · refine .inl ⟨by omega, by omega, h10, ?_, fun f body => by rw [hr]; exact dec_bad f p t a body hp hpl hc⟩
      rcases List.eq_nil_or_concat p with rfl | ⟨y, z, rfl⟩
      · exact .inl rfl
      · right
        rw [List.concat_eq_append] at hc hr ⊢
        have e : (y ++ [z]).getLastD 0 = z := by rw [List.getLastD_eq_getLast?, List.getLast?_append]; rfl
        rw [e] at hc
        rw [show a + (y ++ [z]).length - 1 = a + y.length from by simp, ← getD_drop, hr, List.append_assoc]
        rw [show y ++ ([z] ++ 10 :: t) = y ++ z :: (10 :: t) from rfl, getD_at]
        exact hc
/-- m bytes of a chunk and its end are looked at. -/
structure CopyC (t : List UInt8) (S m : Nat) : Prop where
  le : m ≤ t.length
  cr : S < m → t.getD S 0 = 13
  lf : S + 1 < m → t.getD (S + 1) 0 = 10
theorem CopyC.zero (t : List UInt8) (S : Nat) : CopyC t S 0 := ⟨Nat.zero_le _, fun h => by omega, fun h => by omega⟩
theorem CopyC.more {t : List UInt8} {S m : Nat} (h : CopyC t S m) (hm : t.length ≤ m) (hs : m < S + 2) : chkC t S = 10 := by
  have hl := h.le
  unfold chkC
  by_cases h1 : t.length ≤ S
  · rw [if_pos h1]
  · rw [if_neg h1, if_neg (by rw [h.cr (by omega)]; simp), if_pos (by omega)]
theorem CopyC.badCr {t : List UInt8} {S : Nat} (hm : S < t.length) (hc : t.getD S 0 ≠ 13) : chkC t S = 5 := by
  unfold chkC
  rw [if_neg (by omega), if_pos hc]
theorem CopyC.badLf {t : List UInt8} {S : Nat} (h : CopyC t S (S + 1)) (hm : S + 1 < t.length) (hc : t.getD (S + 1) 0 ≠ 10) : chkC t S = 5 := by
  unfold chkC
  rw [if_neg (by omega), if_neg (by rw [h.cr (by omega)]; simp), if_neg (by omega), if_pos hc]
theorem CopyC.done {t : List UInt8} {S : Nat} (h : CopyC t S (S + 2)) : chkC t S = 0 := by
  have hl := h.le
  unfold chkC
  rw [if_neg (by omega), if_neg (by rw [h.cr (by omega)]; simp), if_neg (by omega), if_neg (by rw [h.lf (by omega)]; simp)]
theorem CopyC.step {t : List UInt8} {S m : Nat} (h : CopyC t S m) (hm : m < t.length) (h1 : m = S → t.getD S 0 = 13) (h2 : m = S + 1 → t.getD (S + 1) 0 = 10) : CopyC t S (m + 1) :=
  ⟨by omega, fun hh => by
    rcases Nat.lt_or_ge S m with h3 | h3
    · exact h.cr h3
    · exact h1 (by omega), fun hh => by
    rcases Nat.lt_or_ge (S + 1) m with h3 | h3
    · exact h.lf h3
    · exact h2 (by omega)⟩
theorem step_zero (f : Nat) (t : List UInt8) (at1 : Nat) (body : List UInt8) : stepC f t 0 at1 body = if (parseH t).2.2 ≠ 0 then ([], 0, (parseH t).2.2) else (body, at1 + (parseH t).2.1, 0) := by unfold stepC; rw [if_pos rfl]
theorem step_long (f : Nat) (t : List UInt8) (S at1 : Nat) (body : List UInt8) (h0 : S ≠ 0) (h : 32768 < body.length + S) : stepC f t S at1 body = ([], 0, 3) := by unfold stepC; rw [if_neg h0, if_pos h]
theorem step_chk (f : Nat) (t : List UInt8) (S at1 : Nat) (body : List UInt8) (h0 : S ≠ 0) (h : ¬ 32768 < body.length + S) (E : Int) (hE : chkC t S = E) (hne : E ≠ 0) : stepC f t S at1 body = ([], 0, E) := by unfold stepC; rw [if_neg h0, if_neg h, hE, if_pos hne]
theorem step_on (f : Nat) (t : List UInt8) (S at1 : Nat) (body : List UInt8) (h0 : S ≠ 0) (h : ¬ 32768 < body.length + S) (hE : chkC t S = 0) : stepC f t S at1 body = decC f (t.drop (S + 2)) (at1 + (S + 2)) (body ++ t.take S) := by unfold stepC; rw [if_neg h0, if_neg h, hE, if_neg (by simp)]
end Go.Proofs.YtlgkbdebpnbndaaGreatDoor
namespace Go.Proofs.YtlgkbdebpnbndaaGreatDoor
set_option linter.unusedVariables false
set_option linter.unusedSimpArgs false

/-- A node but for its kids: name, attributes, text. -/
abbrev Lab := List UInt8 × List HdV × List UInt8
/-- Nodes of so many levels below the first. -/
def Tr : Nat → Type
  | 0 => Lab
  | d + 1 => Lab × List (Tr d)
def lab : (d : Nat) → Tr d → Lab
  | 0, t => t
  | _ + 1, t => t.1
def leaf : (d : Nat) → Lab → Tr d
  | 0, l => l
  | _ + 1, l => (l, [])
theorem lab_leaf (d : Nat) (l : Lab) : lab d (leaf d l) = l := by cases d <;> rfl
def nmT (d : Nat) (t : Tr d) : List UInt8 := (lab d t).1
def txT (d : Nat) (t : Tr d) : List UInt8 := (lab d t).2.2

def letX (c : UInt8) : Bool := (97 ≤ c.toNat && c.toNat ≤ 122) || (65 ≤ c.toNat && c.toNat ≤ 90) || c.toNat == 95
def latX (c : UInt8) : Bool := letX c || (48 ≤ c.toNat && c.toNat ≤ 57) || c.toNat == 46 || c.toNat == 45 || c.toNat == 58
def nameX (l : List UInt8) : Bool := decide (1 ≤ l.length) && decide (l.length ≤ 64) && letX (l.getD 0 0) && l.all latX
def whX (c : UInt8) : Bool := c.toNat == 32 || c.toNat == 9 || c.toNat == 10 || c.toNat == 13
def preX (p l : List UInt8) : Bool := p.isPrefixOf l

/-! ### What may be -/
def distN : List (List UInt8) → Bool
  | [] => true
  | a :: r => !r.contains a && distN r
def attsOk (l : List HdV) : Bool := l.all (fun a => nameX a.name && X a.value) && distN (l.map (·.name))
def noAdj : List Bool → Bool
  | a :: b :: r => !(a && b) && noAdj (b :: r)
  | _ => true
def mayTop (l : Lab) (bare kidsOk : Bool) : Bool :=
  if l.1.isEmpty then !l.2.2.isEmpty && l.2.1.isEmpty && bare && X l.2.2 else nameX l.1 && l.2.2.isEmpty && attsOk l.2.1 && kidsOk
def mayT : (d : Nat) → Tr d → Bool
  | 0, t => mayTop t true true
  | d + 1, t => mayTop t.1 t.2.isEmpty (t.2.all (mayT d) && noAdj (t.2.map fun k => (nmT d k).isEmpty))
def maxL (l : List Nat) : Nat := l.foldr Nat.max 0
def deepT : (d : Nat) → Tr d → Nat
  | 0, t => if t.1.isEmpty then 0 else 1
  | d + 1, t => if t.1.1.isEmpty then 0 else maxL (t.2.map (deepT d)) + 1
def manyT : (d : Nat) → Tr d → Nat
  | 0, t => 1 + (if t.1.isEmpty then 0 else t.2.1.length)
  | d + 1, t => 1 + (if t.1.1.isEmpty then 0 else t.1.2.1.length) + (t.2.map (manyT d)).sum
/-- Why a tree may not be. -/
def checkT (d : Nat) (t : Tr d) : Nat := if (nmT d t).isEmpty || !mayT d t then 1 else if 16 < deepT d t then 9 else if 4096 < manyT d t then 3 else 0

/-! ### Put together -/
def tabE (c : UInt8) : List UInt8 := if c = 9 then [38, 35, 57, 59] else if c = 10 then [38, 35, 49, 48, 59] else [c]
def attE (v : List UInt8) : List UInt8 := (escL v).flatMap tabE
def attP (a : HdV) : List UInt8 := 32 :: (a.name ++ 61 :: 34 :: (attE a.value ++ [34]))
def opP (l : Lab) : List UInt8 := 60 :: (l.1 ++ l.2.1.flatMap attP)
def clP (n : List UInt8) : List UInt8 := 60 :: 47 :: (n ++ [62])
def printT : (d : Nat) → Tr d → List UInt8
  | 0, t => if t.1.isEmpty then escL t.2.2 else opP t ++ [47, 62]
  | d + 1, t => if t.1.1.isEmpty then escL t.1.2.2 else if t.2.isEmpty then opP t.1 ++ [47, 62] else opP t.1 ++ 62 :: (t.2.flatMap (printT d) ++ clP t.1.1)

/-! ### Read -/
/-- Up to a text, and what is behind it; none: it does not come. -/
def untX (p : List UInt8) : List UInt8 → Option (List UInt8 × List UInt8)
  | [] => none
  | c :: r => if preX p (c :: r) then some ([], (c :: r).drop p.length) else (untX p r).map fun q => (c :: q.1, q.2)
def hdW : List UInt8 → Bool
  | c :: _ => whX c
  | [] => false
/-- White, comments and notes (only the last two, if not all). -/
def asX (all : Bool) : Nat → List UInt8 → Except Nat (List UInt8)
  | 0, l => .ok l
  | f + 1, l =>
    if preX [60, 33, 45, 45] l then (match untX [45, 45, 62] (l.drop 4) with
      | none => .error 5
      | some q => asX all f q.2)
    else if preX [60, 63] l then (match untX [63, 62] (l.drop 2) with
      | none => .error 5
      | some q => asX all f q.2)
    else if all && hdW l then asX all f (l.dropWhile whX) else .ok l
def valX (raw : List UInt8) : Option (List UInt8) := unA (blankE (linE raw))
/-- An attribute. -/
def attX (as : List HdV) (l : List UInt8) (m : Nat) : Except Nat (HdV × List UInt8 × Nat) :=
  if !nameX (l.takeWhile latX) then .error 5 else
  match (l.dropWhile latX).dropWhile whX with
  | 61 :: r => (match r.dropWhile whX with
    | q :: r2 => if q = 34 ∨ q = 39 then (match untX [q] r2 with
      | none => .error 5
      | some p => if p.1.contains 60 then .error 5 else (match valX p.1 with
        | none => .error 5
        | some v => if (as.map (·.name)).contains (l.takeWhile latX) then .error 5 else if m + 1 ≤ 4096 then .ok (⟨l.takeWhile latX, v⟩, p.2, m + 1) else .error 3)) else .error 5
    | [] => .error 5)
  | _ => .error 5
/-- Attributes, up to the end of a tag; true: nothing is within. -/
def atsX : Nat → List HdV → List UInt8 → Nat → Except Nat (List HdV × Bool × List UInt8 × Nat)
  | 0, _, _, _ => .error 99
  | f + 1, as, l, m =>
    if preX [47, 62] (l.dropWhile whX) then .ok (as, true, (l.dropWhile whX).drop 2, m)
    else if preX [62] (l.dropWhile whX) then .ok (as, false, (l.dropWhile whX).drop 1, m)
    else if (l.dropWhile whX).length = l.length then .error 5
    else (match attX as (l.dropWhile whX) m with
      | .error e => .error e
      | .ok (a, l2, m2) => atsX f (as ++ [a]) l2 m2)
/-- A tag. -/
def opX (lev : Nat) (l : List UInt8) (m : Nat) : Except Nat (List UInt8 × List HdV × Bool × List UInt8 × Nat) :=
  match l with
  | 60 :: r => if !nameX (r.takeWhile latX) then .error 5 else if lev = 0 then .error 9 else if 4096 < m + 1 then .error 3 else
    (match atsX ((r.dropWhile latX).length + 1) [] (r.dropWhile latX) (m + 1) with
    | .error e => .error e
    | .ok (as, b, l2, m2) => .ok (r.takeWhile latX, as, b, l2, m2))
  | _ => .error 5
/-- A text follows kids. -/
def sayX (d : Nat) (ks : List (Tr d)) (s : List UInt8) (m : Nat) : Except Nat (List (Tr d) × Nat) :=
  if s.isEmpty then .ok (ks, m) else
  match ks.getLast? with
  | some k => if (nmT d k).isEmpty then .ok (ks.dropLast ++ [leaf d ([], [], txT d k ++ s)], m) else if m + 1 ≤ 4096 then .ok (ks ++ [leaf d ([], [], s)], m + 1) else .error 3
  | none => if m + 1 ≤ 4096 then .ok ([leaf d ([], [], s)], m + 1) else .error 3
/-- What is within an element. -/
def kidX (d : Nat) (el : List UInt8 → Nat → Except Nat (Tr d × List UInt8 × Nat)) : Nat → List (Tr d) → List UInt8 → Nat → Except Nat (List (Tr d) × List UInt8 × Nat)
  | 0, _, _, _ => .error 99
  | f + 1, ks, l, m =>
    if preX [60, 47] l then .ok (ks, l, m)
    else if preX [60, 33, 45, 45] l || preX [60, 63] l then (match asX false l.length l with
      | .error e => .error e
      | .ok l2 => kidX d el f ks l2 m)
    else if preX [60, 33, 91, 67, 68, 65, 84, 65, 91] l then (match untX [93, 93, 62] (l.drop 9) with
      | none => .error 5
      | some q => (match sayX d ks q.1 m with
        | .error e => .error e
        | .ok (ks2, m2) => kidX d el f ks2 q.2 m2))
    else if preX [60] l then (match el l m with
      | .error e => .error e
      | .ok (t, l2, m2) => kidX d el f (ks ++ [t]) l2 m2)
    else if (untX [93, 93, 62] (l.takeWhile (· != 60))).isSome || (l.dropWhile (· != 60)).isEmpty then .error 5
    else (match unA (l.takeWhile (· != 60)) with
      | none => .error 5
      | some s => (match sayX d ks s m with
        | .error e => .error e
        | .ok (ks2, m2) => kidX d el f ks2 (l.dropWhile (· != 60)) m2))
/-- The end of an element. -/
def clX (n l : List UInt8) : Option (List UInt8) :=
  if (l.drop 2).takeWhile latX = n then (match ((l.drop 2).dropWhile latX).dropWhile whX with
    | 62 :: r => some r
    | _ => none) else none
/-- An element, so many levels being left. -/
def elX : (d : Nat) → Nat → List UInt8 → Nat → Except Nat (Tr d × List UInt8 × Nat)
  | 0, lev, l, m => (match opX lev l m with
    | .error e => .error e
    | .ok (n, as, true, l2, m2) => .ok ((n, as, []), l2, m2)
    | .ok (_, _, false, _, _) => .error 98)
  | d + 1, lev, l, m => (match opX lev l m with
    | .error e => .error e
    | .ok (n, as, true, l2, m2) => .ok (((n, as, []), []), l2, m2)
    | .ok (n, as, false, l2, m2) => (match kidX d (elX d (lev - 1)) (l2.length + 1) [] l2 m2 with
      | .error e => .error e
      | .ok (ks, l3, m3) => (match clX n l3 with
        | none => .error 5
        | some r => .ok (((n, as, []), ks), r, m3))))
/-- A file. -/
def parX (s : List UInt8) : Except Nat (Tr 40) :=
  if 65536 < s.length then .error 3 else if !X s then .error 5 else
  match asX true ((linE s).length) (linE s) with
  | .error e => .error e
  | .ok l1 => if preX [60, 33, 68, 79, 67, 84, 89, 80, 69] l1 then .error 8 else (match elX 40 16 l1 0 with
    | .error e => .error e
    | .ok (t, l2, _) => (match asX true l2.length l2 with
      | .error e => .error e
      | .ok l3 => if l3.isEmpty then .ok t else .error 5))
end Go.Proofs.YtlgkbdebpnbndaaGreatDoor
namespace Go.Proofs.YtlgkbdebpnbndaaGreatDoor
set_option linter.unusedVariables false
set_option linter.unusedSimpArgs false

theorem lat_fin : ∀ n : Fin 256, latX (UInt8.ofNat n.val) = true → n.val < 128 ∧ xmlN n.val = true ∧ whX (UInt8.ofNat n.val) = false ∧ n.val ≠ 60 ∧ n.val ≠ 62 ∧ n.val ≠ 47 ∧ n.val ≠ 61 ∧ n.val ≠ 13 ∧ n.val ≠ 33 ∧ n.val ≠ 63 := by decide +kernel
theorem lat_of {c : UInt8} (h : latX c = true) : c.toNat < 128 ∧ xmlN c.toNat = true ∧ whX c = false ∧ c.toNat ≠ 60 ∧ c.toNat ≠ 62 ∧ c.toNat ≠ 47 ∧ c.toNat ≠ 61 ∧ c.toNat ≠ 13 ∧ c.toNat ≠ 33 ∧ c.toNat ≠ 63 := by
  have := lat_fin ⟨c.toNat, c.toNat_lt⟩
  simp only [UInt8.ofNat_toNat] at this
  exact this h
theorem tw_app {p : UInt8 → Bool} : ∀ (a : List UInt8) (c : UInt8) (r : List UInt8), a.all p = true → p c = false → (a ++ c :: r).takeWhile p = a ∧ (a ++ c :: r).dropWhile p = c :: r
  | [], c, r, _, hc => by simp [List.takeWhile, List.dropWhile, hc]
  | x :: a, c, r, ha, hc => by
    rw [List.all_cons, Bool.and_eq_true] at ha
    obtain ⟨h1, h2⟩ := tw_app a c r ha.2 hc
    simp [List.takeWhile, List.dropWhile, ha.1, h1, h2]
theorem dw_no {p : UInt8 → Bool} (c : UInt8) (r : List UInt8) (h : p c = false) : (c :: r).dropWhile p = c :: r := by simp [List.dropWhile, h]
theorem name_all {n : List UInt8} (h : nameX n = true) : n.all latX = true := by
  unfold nameX at h
  rw [Bool.and_eq_true] at h
  exact h.2
theorem name_head {n : List UInt8} (h : nameX n = true) : ∃ c r, n = c :: r ∧ letX c = true := by
  unfold nameX at h
  simp only [Bool.and_eq_true, decide_eq_true_eq] at h
  cases n with
  | nil => simp at h
  | cons c r => exact ⟨c, r, rfl, by simpa using h.1.2⟩
theorem let_fin : ∀ n : Fin 256, letX (UInt8.ofNat n.val) = true → latX (UInt8.ofNat n.val) = true := by decide +kernel
theorem name_ne {n : List UInt8} (h : nameX n = true) : n ≠ [] := by
  obtain ⟨c, r, rfl, _⟩ := name_head h
  simp
theorem unt_one (q : UInt8) : ∀ (raw r : List UInt8), (∀ c ∈ raw, c ≠ q) → untX [q] (raw ++ q :: r) = some (raw, r)
  | [], r, _ => by simp [untX, preX, List.isPrefixOf]
  | c :: raw, r, h => by
    have hc : c ≠ q := h c (by simp)
    rw [List.cons_append]
    simp only [untX]
    rw [if_neg (by simp [preX, List.isPrefixOf]; exact fun e => hc e.symm), unt_one q raw r (fun d hd => h d (by simp [hd]))]
    rfl
/-- A text whose last byte does not come does not come. -/
theorem unt_none (a b e : UInt8) : ∀ l : List UInt8, (∀ c ∈ l, c ≠ e) → untX [a, b, e] l = none
  | [], _ => rfl
  | c :: r, h => by
    simp only [untX]
    rw [if_neg ?_, unt_none a b e r (fun d hd => h d (by simp [hd]))]
    · rfl
    · intro hp
      unfold preX at hp
      match r, h with
      | [], _ => simp [List.isPrefixOf] at hp
      | [_], _ => simp [List.isPrefixOf] at hp
      | x :: y :: t, h =>
        simp [List.isPrefixOf] at hp
        exact h y (by simp) hp.2.2.symm

/-! ### Values of attributes -/
def attB (c : UInt8) : List UInt8 := (escE c).flatMap tabE
theorem attE_cons (c : UInt8) (l : List UInt8) : attE (c :: l) = attB c ++ attE l := by
  unfold attE attB
  rw [escL_cons, List.flatMap_append]
theorem attE_nil : attE [] = [] := rfl
theorem attB_cases (c : UInt8) : (c = 9 ∧ attB c = [38, 35, 57, 59]) ∨ (c = 10 ∧ attB c = [38, 35, 49, 48, 59]) ∨ (c ≠ 9 ∧ c ≠ 10 ∧ attB c = escE c) := by
  by_cases h9 : c = 9
  · subst h9; exact .inl ⟨rfl, by decide⟩
  · by_cases h10 : c = 10
    · subst h10; exact .inr (.inl ⟨rfl, by decide⟩)
    · refine .inr (.inr ⟨h9, h10, ?_⟩)
      unfold attB escE
      repeat' split
      all_goals first | decide | (simp [List.flatMap, tabE, h9, h10])
theorem attB_fin : ∀ n : Fin 256, ∀ d ∈ attB (UInt8.ofNat n.val), d ≠ 34 ∧ d ≠ 60 ∧ d ≠ 9 ∧ d ≠ 10 ∧ d ≠ 13 := by decide +kernel
theorem attE_no (v : List UInt8) : ∀ d ∈ attE v, d ≠ 34 ∧ d ≠ 60 ∧ d ≠ 9 ∧ d ≠ 10 ∧ d ≠ 13 := by
  induction v with
  | nil => intro d hd; simp [attE_nil] at hd
  | cons c v ih =>
    intro d hd
    rw [attE_cons] at hd
    rcases List.mem_append.1 hd with h | h
    · have := attB_fin ⟨c.toNat, c.toNat_lt⟩
      simp only [UInt8.ofNat_toNat] at this
      exact this d h
    · exact ih d h
theorem un_att : ∀ v : List UInt8, unL (attE v) = some v
  | [] => rfl
  | c :: v => by
    have ih := un_att v
    rw [attE_cons]
    rcases attB_cases c with ⟨rfl, h⟩ | ⟨rfl, h⟩ | ⟨_, _, h⟩
    · rw [h, show [38, 35, 57, 59] ++ attE v = 38 :: ([35, 57] ++ 59 :: attE v) from rfl, unL_sign _ _ 9 (by decide) (by decide +kernel), ih]; rfl
    · rw [h, show [38, 35, 49, 48, 59] ++ attE v = 38 :: ([35, 49, 48] ++ 59 :: attE v) from rfl, unL_sign _ _ 10 (by decide) (by decide +kernel), ih]; rfl
    · rw [h]
      unfold escE
      repeat' split
      · rw [show [38, 97, 109, 112, 59] ++ attE v = 38 :: ([97, 109, 112] ++ 59 :: attE v) from rfl, unL_sign _ _ 38 (by decide) (by decide +kernel), ih]; rename_i h; rw [h]; rfl
      · rw [show [38, 108, 116, 59] ++ attE v = 38 :: ([108, 116] ++ 59 :: attE v) from rfl, unL_sign _ _ 60 (by decide) (by decide +kernel), ih]; rename_i h; rw [h]; rfl
      · rw [show [38, 103, 116, 59] ++ attE v = 38 :: ([103, 116] ++ 59 :: attE v) from rfl, unL_sign _ _ 62 (by decide) (by decide +kernel), ih]; rename_i h; rw [h]; rfl
      · rw [show [38, 113, 117, 111, 116, 59] ++ attE v = 38 :: ([113, 117, 111, 116] ++ 59 :: attE v) from rfl, unL_sign _ _ 34 (by decide) (by decide +kernel), ih]; rename_i h; rw [h]; rfl
      · rw [show [38, 97, 112, 111, 115, 59] ++ attE v = 38 :: ([97, 112, 111, 115] ++ 59 :: attE v) from rfl, unL_sign _ _ 39 (by decide) (by decide +kernel), ih]; rename_i h; rw [h]; rfl
      · rw [show [38, 35, 49, 51, 59] ++ attE v = 38 :: ([35, 49, 51] ++ 59 :: attE v) from rfl, unL_sign _ _ 13 (by decide) (by decide +kernel), ih]; rename_i h; rw [h]; rfl
      · rw [show [c] ++ attE v = c :: attE v from rfl, unL_cons c _ (by assumption), ih]; rfl
theorem attB_ascii : ∀ n : Fin 128, xmlN n.val = true → ∀ d ∈ attB (UInt8.ofNat n.val), d.toNat < 128 ∧ xmlN d.toNat = true := by decide +kernel
theorem attE_app (a b : List UInt8) : attE (a ++ b) = attE a ++ attE b := by
  unfold attE
  rw [escL_app, List.flatMap_append]
theorem attE_high : ∀ l : List UInt8, (∀ c ∈ l, 128 ≤ c.toNat) → attE l = l
  | [], _ => rfl
  | c :: l, h => by
    have hc := h c (by simp)
    rw [attE_cons, attE_high l (fun d hd => h d (by simp [hd]))]
    rcases attB_cases c with ⟨rfl, _⟩ | ⟨rfl, _⟩ | ⟨_, _, e⟩
    · exact absurd hc (by decide)
    · exact absurd hc (by decide)
    · rw [e, escE_high c hc]; rfl
theorem X_att (l : List UInt8) (h : X l = true) : X (attE l) = true := by
  refine X_ind (P := fun l => X (attE l) = true) (by decide +kernel) ?_ l.length l (Nat.le_refl _) h
  intro v t hv hx ht ih
  rw [attE_app]
  by_cases h1 : v < 128
  · have e1 : attE (encL v) = attB (bt v) := by rw [enc1 h1, attE_cons, attE_nil, List.append_nil]
    have := attB_ascii ⟨v, h1⟩ hx
    rw [e1, X_ascii _ _ (by simpa [bt] using this)]; exact ih
  · rw [attE_high _ (encL_high v hv (by omega)), X_enc v hv, hx, ih]; rfl
theorem blank_plain : ∀ l : List UInt8, (∀ c ∈ l, c ≠ 9 ∧ c ≠ 10) → blankE l = l
  | [], _ => rfl
  | c :: l, h => by
    have hc := h c (by simp)
    have ih := blank_plain l (fun d hd => h d (by simp [hd]))
    unfold blankE at ih ⊢
    rw [List.map_cons, ih, if_neg (fun e => e.elim hc.1 hc.2)]
theorem val_att (v : List UInt8) (h : X v = true) : valX (attE v) = some v := by
  unfold valX
  rw [linE_plain _ (fun c hc => (attE_no v c hc).2.2.2.2), blank_plain _ (fun c hc => ⟨(attE_no v c hc).2.2.1, (attE_no v c hc).2.2.2.1⟩)]
  unfold unA
  rw [X_V (X_att v h), if_pos rfl, un_att]
/-- An attribute is read back. -/
theorem att_back (as : List HdV) (a : HdV) (rest : List UInt8) (m : Nat) (hn : nameX a.name = true) (hv : X a.value = true) (hd : (as.map (·.name)).contains a.name = false) (hm : m + 1 ≤ 4096) :
    attX as (a.name ++ 61 :: 34 :: (attE a.value ++ 34 :: rest)) m = .ok (a, rest, m + 1) := by
  obtain ⟨h1, h2⟩ := tw_app a.name 61 (34 :: (attE a.value ++ 34 :: rest)) (name_all hn) (by decide)
  unfold attX
  rw [h1, h2, hn]
  simp only [Bool.not_true, Bool.false_eq_true, if_false]
  rw [dw_no 61 _ (by decide)]
  simp only
  rw [dw_no 34 _ (by decide)]
  simp only [true_or, if_true]
  rw [unt_one 34 _ _ (fun c hc => (attE_no _ c hc).1)]
  simp only
  rw [show (attE a.value).contains 60 = false from by
    rw [List.contains_eq_mem, decide_eq_false_iff_not]
    exact fun h => (attE_no _ 60 h).2.1 rfl]
  simp only [Bool.false_eq_true, if_false]
  rw [val_att _ hv]
  simp only
  rw [hd, if_pos hm]
  simp only [Bool.false_eq_true, if_false]
theorem dist_mid : ∀ (l : List (List UInt8)) (a : List UInt8) (r : List (List UInt8)), distN (l ++ a :: r) = true → l.contains a = false
  | [], a, r, _ => rfl
  | x :: l, a, r, h => by
    rw [List.cons_append] at h
    simp only [distN, Bool.and_eq_true, Bool.not_eq_true'] at h
    have ih := dist_mid l a r h.2
    have hx : x ≠ a := fun e => by
      have h1 := h.1
      rw [List.contains_eq_mem, decide_eq_false_iff_not] at h1
      exact h1 (by rw [e]; simp)
    rw [List.contains_cons, ih, Bool.or_false, beq_eq_false_iff_ne]
    exact fun e => hx e.symm
/-- The end of a tag. -/
def endP (b : Bool) (r : List UInt8) : List UInt8 := if b then 47 :: 62 :: r else 62 :: r
theorem ats_back (b : Bool) (rest : List UInt8) : ∀ (ts as : List HdV) (f m : Nat), ts.length + 1 ≤ f → ts.all (fun a => nameX a.name && X a.value) = true → distN ((as ++ ts).map (·.name)) = true → m + ts.length ≤ 4096 →
    atsX f as (ts.flatMap attP ++ endP b rest) m = .ok (as ++ ts, b, rest, m + ts.length)
  | [], as, f, m, hf, _, _, _ => by
    obtain ⟨f, rfl⟩ : ∃ f', f = f' + 1 := ⟨f - 1, by simp at hf; omega⟩
    cases b with
    | true =>
      simp only [endP, if_true, List.flatMap_nil, List.nil_append, atsX]
      rw [dw_no 47 _ (by decide), if_pos (by simp [preX, List.isPrefixOf])]
      simp
    | false =>
      simp only [endP, Bool.false_eq_true, if_false, List.flatMap_nil, List.nil_append, atsX]
      rw [dw_no 62 _ (by decide), if_neg (by simp [preX, List.isPrefixOf]), if_pos (by simp [preX, List.isPrefixOf])]
      simp
  | a :: ts, as, f, m, hf, ha, hd, hm => by
    obtain ⟨f, rfl⟩ : ∃ f', f = f' + 1 := ⟨f - 1, by simp at hf; omega⟩
    rw [List.all_cons, Bool.and_eq_true, Bool.and_eq_true] at ha
    obtain ⟨⟨hn, hv⟩, hr⟩ := ha
    simp only [List.length_cons] at hf hm
    obtain ⟨c, nr, hnm, hc⟩ := name_head hn
    have hcl : latX c = true := by
      have := let_fin ⟨c.toNat, c.toNat_lt⟩
      simp only [UInt8.ofNat_toNat] at this
      exact this hc
    have hlo := lat_of hcl
    have e0 : (a :: ts).flatMap attP ++ endP b rest = 32 :: (a.name ++ 61 :: 34 :: (attE a.value ++ 34 :: (ts.flatMap attP ++ endP b rest))) := by
      rw [List.flatMap_cons]
      simp [attP]
    have e1 : (32 :: (a.name ++ 61 :: 34 :: (attE a.value ++ 34 :: (ts.flatMap attP ++ endP b rest)))).dropWhile whX = a.name ++ 61 :: 34 :: (attE a.value ++ 34 :: (ts.flatMap attP ++ endP b rest)) := by
      rw [List.dropWhile_cons_of_pos (by decide), hnm, List.cons_append, dw_no c _ hlo.2.2.1]
    have hp : ∀ d r, d.toNat ≠ c.toNat → preX (d :: r) (a.name ++ 61 :: 34 :: (attE a.value ++ 34 :: (ts.flatMap attP ++ endP b rest))) = false := fun d r h => by
      rw [hnm, List.cons_append]
      simp only [preX, List.isPrefixOf, Bool.and_eq_false_iff, beq_eq_false_iff_ne]
      exact .inl (fun e => h (by rw [e]))
    have hdist : ((as.map (·.name)).contains a.name) = false := by
      rw [List.map_append, List.map_cons] at hd
      exact dist_mid _ _ _ hd
    rw [e0]
    simp only [atsX]
    rw [e1, hp 47 _ (by show 47 ≠ c.toNat; omega), hp 62 _ (by show 62 ≠ c.toNat; omega)]
    simp only [Bool.false_eq_true, if_false]
    rw [if_neg (by simp), att_back as a _ m hn hv hdist (by omega)]
    simp only
    rw [ats_back b rest ts (as ++ [a]) f (m + 1) (by omega) hr (by rw [List.append_assoc]; exact hd) (by omega)]
    simp only [List.append_assoc, List.cons_append, List.nil_append, List.length_cons]
    rw [show m + 1 + ts.length = m + (ts.length + 1) from by omega]
/-- A tag is read back. -/
theorem op_back (lev : Nat) (l : Lab) (b : Bool) (rest : List UInt8) (m : Nat) (hn : nameX l.1 = true) (ha : attsOk l.2.1 = true) (hl : lev ≠ 0) (hm : m + 1 + l.2.1.length ≤ 4096) :
    opX lev (opP l ++ endP b rest) m = .ok (l.1, l.2.1, b, rest, m + 1 + l.2.1.length) := by
  unfold attsOk at ha
  rw [Bool.and_eq_true] at ha
  obtain ⟨c, r, e, hc⟩ : ∃ c r, l.2.1.flatMap attP ++ endP b rest = c :: r ∧ latX c = false := by
    cases hq : l.2.1 with
    | nil =>
      cases b with
      | true => exact ⟨47, _, rfl, by decide⟩
      | false => exact ⟨62, _, rfl, by decide⟩
    | cons a ts => exact ⟨32, _, by rw [List.flatMap_cons]; rfl, by decide⟩
  have e0 : opP l ++ endP b rest = 60 :: (l.1 ++ c :: r) := by
    unfold opP
    rw [List.cons_append, List.append_assoc, e]
  obtain ⟨h1, h2⟩ := tw_app l.1 c r (name_all hn) hc
  rw [e0]
  unfold opX
  simp only
  rw [h1, h2, hn]
  simp only [Bool.not_true, Bool.false_eq_true, if_false]
  rw [if_neg hl, if_neg (by omega), ← e, ats_back b rest l.2.1 [] _ (m + 1) (by
    have : l.2.1.length ≤ (l.2.1.flatMap attP).length := by
      induction l.2.1 with
      | nil => simp
      | cons a ts ih =>
        have h1 : 1 ≤ (attP a).length := by unfold attP; rw [List.length_cons]; omega
        rw [List.flatMap_cons, List.length_append, List.length_cons]; omega
    rw [List.length_append]
    omega) ha.1 (by simpa using ha.2) (by omega)]
  simp
theorem cl_back (n rest : List UInt8) (h : nameX n = true) : clX n (clP n ++ rest) = some rest := by
  obtain ⟨h1, h2⟩ := tw_app n 62 rest (name_all h) (by decide)
  have e : (clP n ++ rest).drop 2 = n ++ 62 :: rest := by simp [clP]
  unfold clX
  rw [e, h1, h2, if_pos rfl, dw_no 62 _ (by decide)]
  rfl
/-! ### Trees -/
/-- A text is a leaf. -/
theorem text_leaf : ∀ (d : Nat) (k : Tr d), mayT d k = true → (nmT d k).isEmpty = true → k = leaf d ([], [], txT d k) ∧ txT d k ≠ [] ∧ X (txT d k) = true ∧ manyT d k = 1 ∧ printT d k = escL (txT d k)
  | 0, t, h, hn => by
    obtain ⟨n, as, tx⟩ := t
    simp only [nmT, lab] at hn
    simp only [mayT, mayTop] at h
    rw [if_pos hn] at h
    simp only [Bool.and_eq_true, Bool.not_eq_true'] at h
    obtain ⟨⟨⟨h1, h2⟩, _⟩, h3⟩ := h
    have en : n = [] := List.isEmpty_iff.1 hn
    have ea : as = [] := List.isEmpty_iff.1 h2
    subst en; subst ea
    refine ⟨rfl, fun e => ?_, h3, rfl, rfl⟩
    have : tx = [] := e
    rw [this] at h1; simp at h1
  | d + 1, t, h, hn => by
    obtain ⟨⟨n, as, tx⟩, ks⟩ := t
    simp only [nmT, lab] at hn
    simp only [mayT, mayTop] at h
    rw [if_pos hn] at h
    simp only [Bool.and_eq_true, Bool.not_eq_true'] at h
    obtain ⟨⟨⟨h1, h2⟩, h4⟩, h3⟩ := h
    have en : n = [] := List.isEmpty_iff.1 hn
    have ea : as = [] := List.isEmpty_iff.1 h2
    have ek : ks = [] := List.isEmpty_iff.1 h4
    subst en; subst ea; subst ek
    refine ⟨rfl, fun e => ?_, h3, rfl, rfl⟩
    have : tx = [] := e
    rw [this] at h1; simp at h1
/-- How an element that may be begins. -/
theorem el_head : ∀ (d : Nat) (k : Tr d), mayT d k = true → (nmT d k).isEmpty = false → ∃ c r, letX c = true ∧ printT d k = 60 :: c :: r
  | 0, t, h, hn => by
    obtain ⟨n, as, tx⟩ := t
    simp only [nmT, lab] at hn
    simp only [mayT, mayTop] at h
    rw [hn] at h
    simp only [Bool.false_eq_true, if_false, Bool.and_eq_true] at h
    obtain ⟨c, r, rfl, hc⟩ := name_head h.1.1.1
    exact ⟨c, _, hc, by simp only [printT]; rw [hn]; rfl⟩
  | d + 1, t, h, hn => by
    obtain ⟨⟨n, as, tx⟩, ks⟩ := t
    simp only [nmT, lab] at hn
    simp only [mayT, mayTop] at h
    rw [hn] at h
    simp only [Bool.false_eq_true, if_false, Bool.and_eq_true] at h
    obtain ⟨c, r, rfl, hc⟩ := name_head h.1.1.1
    cases ks with
    | nil => exact ⟨c, _, hc, by simp only [printT]; rw [hn]; rfl⟩
    | cons k ks => exact ⟨c, _, hc, by simp only [printT]; rw [hn]; rfl⟩
theorem escE_fin : ∀ n : Fin 256, ∀ d ∈ escE (UInt8.ofNat n.val), d ≠ 60 ∧ d ≠ 62 ∧ d ≠ 13 := by decide +kernel
theorem escL_no (l : List UInt8) : ∀ c ∈ escL l, c ≠ 60 ∧ c ≠ 62 ∧ c ≠ 13 := by
  intro c hc
  obtain ⟨d, _, hd⟩ := List.mem_flatMap.1 hc
  have := escE_fin ⟨d.toNat, d.toNat_lt⟩
  simp only [UInt8.ofNat_toNat] at this
  exact this c hd
theorem escE_ne (c : UInt8) : escE c ≠ [] := by
  unfold escE
  repeat' split
  all_goals simp
theorem escL_ne {l : List UInt8} (h : l ≠ []) : escL l ≠ [] := by
  cases l with
  | nil => exact absurd rfl h
  | cons c r =>
    rw [escL_cons]
    intro e
    exact escE_ne c (List.append_eq_nil_iff.1 e).1
def lastB (d : Nat) (ks : List (Tr d)) : Bool := match ks.getLast? with
  | some k => (nmT d k).isEmpty
  | none => false
theorem say_push (d : Nat) (ks : List (Tr d)) (s : List UInt8) (m : Nat) (hs : s ≠ []) (hl : lastB d ks = false) (hm : m + 1 ≤ 4096) : sayX d ks s m = .ok (ks ++ [leaf d ([], [], s)], m + 1) := by
  unfold sayX
  rw [show s.isEmpty = false from by cases s <;> simp at hs ⊢]
  simp only [Bool.false_eq_true, if_false]
  unfold lastB at hl
  cases hk : ks.getLast? with
  | none =>
    simp only
    rw [if_pos hm, List.getLast?_eq_none_iff.1 hk]; rfl
  | some k =>
    rw [hk] at hl
    simp only at hl ⊢
    rw [hl]
    simp only [Bool.false_eq_true, if_false]
    rw [if_pos hm]
theorem last_snoc (d : Nat) (ks : List (Tr d)) (k : Tr d) : lastB d (ks ++ [k]) = (nmT d k).isEmpty := by
  unfold lastB
  rw [List.getLast?_concat]
theorem pre_no {p l : List UInt8} {a b c : UInt8} {r : List UInt8} (hp : p = a :: b :: r) (hb : b ≠ c) (t : List UInt8) : preX p (60 :: c :: t) = false := by
  subst hp
  simp only [preX, List.isPrefixOf, Bool.and_eq_false_iff, beq_eq_false_iff_ne]
  exact .inr (.inl hb)
theorem pre_not {p : List UInt8} {c : UInt8} {r : List UInt8} (hp : ∃ q, p = 60 :: q) (hc : c ≠ 60) : preX p (c :: r) = false := by
  obtain ⟨q, rfl⟩ := hp
  simp only [preX, List.isPrefixOf, Bool.and_eq_false_iff, beq_eq_false_iff_ne]
  exact .inl (fun e => hc e.symm)
/-- Kids are read back. -/
theorem kid_back (d : Nat) (el : List UInt8 → Nat → Except Nat (Tr d × List UInt8 × Nat)) (rest : List UInt8) : ∀ (todo dn : List (Tr d)) (f m : Nat), todo.length + 1 ≤ f → todo.all (mayT d) = true → noAdj (lastB d dn :: todo.map fun k => (nmT d k).isEmpty) = true → m + (todo.map (manyT d)).sum ≤ 4096 →
    (∀ k ∈ todo, (nmT d k).isEmpty = false → ∀ r m, m + manyT d k ≤ 4096 → el (printT d k ++ r) m = .ok (k, r, m + manyT d k)) →
    kidX d el f dn (todo.flatMap (printT d) ++ 60 :: 47 :: rest) m = .ok (dn ++ todo, 60 :: 47 :: rest, m + (todo.map (manyT d)).sum)
  | [], dn, f, m, hf, _, _, _, _ => by
    obtain ⟨f, rfl⟩ : ∃ f', f = f' + 1 := ⟨f - 1, by simp at hf; omega⟩
    simp only [List.flatMap_nil, List.nil_append, kidX]
    rw [if_pos (by simp [preX, List.isPrefixOf])]
    simp
  | k :: ks, dn, f, m, hf, ha, hadj, hm, hel => by
    obtain ⟨f, rfl⟩ : ∃ f', f = f' + 1 := ⟨f - 1, by simp at hf; omega⟩
    rw [List.all_cons, Bool.and_eq_true] at ha
    simp only [List.length_cons, List.map_cons, List.sum_cons] at hf hm hadj
    have e0 : (k :: ks).flatMap (printT d) ++ 60 :: 47 :: rest = printT d k ++ (ks.flatMap (printT d) ++ 60 :: 47 :: rest) := by
      rw [List.flatMap_cons, List.append_assoc]
    rw [e0]
    cases hnk : (nmT d k).isEmpty with
    | false =>
      obtain ⟨c, r, hc, hp⟩ := el_head d k ha.1 hnk
      have hcl : latX c = true := by
        have := let_fin ⟨c.toNat, c.toNat_lt⟩
        simp only [UInt8.ofNat_toNat] at this
        exact this hc
      have hlo := lat_of hcl
      have h47 : (47 : UInt8) ≠ c := u8_neE (by show 47 ≠ c.toNat; omega)
      have h33 : (33 : UInt8) ≠ c := u8_neE (by show 33 ≠ c.toNat; omega)
      have h63 : (63 : UInt8) ≠ c := u8_neE (by show 63 ≠ c.toNat; omega)
      have hE := hel k (by simp) hnk (ks.flatMap (printT d) ++ 60 :: 47 :: rest) m (by omega)
      have e1 : printT d k ++ (ks.flatMap (printT d) ++ 60 :: 47 :: rest) = 60 :: c :: (r ++ (ks.flatMap (printT d) ++ 60 :: 47 :: rest)) := by rw [hp]; rfl
      rw [e1] at hE ⊢
      simp only [kidX]
      rw [pre_no (l := []) (p := [60, 47]) rfl h47, pre_no (l := []) (p := [60, 33, 45, 45]) rfl h33, pre_no (l := []) (p := [60, 63]) rfl h63, pre_no (l := []) (p := [60, 33, 91, 67, 68, 65, 84, 65, 91]) rfl h33]
      simp only [Bool.false_eq_true, if_false, Bool.or_self]
      rw [if_pos (by simp [preX, List.isPrefixOf]), hE]
      simp only
      rw [kid_back d el rest ks (dn ++ [k]) f (m + manyT d k) (by omega) ha.2 (by
        rw [last_snoc, hnk]
        rw [hnk] at hadj
        cases hk2 : ks.map (fun k => (nmT d k).isEmpty) with
        | nil => rfl
        | cons x y =>
          rw [hk2] at hadj
          simp only [noAdj, Bool.and_false, Bool.not_false, Bool.true_and, Bool.false_and] at hadj ⊢
          exact hadj) (by omega) (fun k' hk' => hel k' (by simp [hk']))]
      simp only [List.append_assoc, List.cons_append, List.nil_append, List.map_cons, List.sum_cons]
      rw [show m + manyT d k + (ks.map (manyT d)).sum = m + (manyT d k + (ks.map (manyT d)).sum) from by omega]
    | true =>
      obtain ⟨hleaf, hne, hX, hmany, hpr⟩ := text_leaf d k ha.1 hnk
      rw [hmany] at hm
      have hlast : lastB d dn = false := by
        simp only [noAdj, hnk, Bool.and_true, Bool.and_eq_true, Bool.not_eq_true'] at hadj
        exact hadj.1
      obtain ⟨z, hz⟩ : ∃ z, ks.flatMap (printT d) ++ 60 :: 47 :: rest = 60 :: z := by
        cases ks with
        | nil => exact ⟨_, rfl⟩
        | cons k2 ks2 =>
          have h2 : (nmT d k2).isEmpty = false := by
            simp only [List.map_cons, noAdj, hnk, Bool.true_and, Bool.and_eq_true, Bool.not_eq_true'] at hadj
            exact hadj.2.1
          rw [List.all_cons, Bool.and_eq_true] at ha
          obtain ⟨c, r, _, hp2⟩ := el_head d k2 ha.2.1 h2
          exact ⟨_, by rw [List.flatMap_cons, hp2]; rfl⟩
      obtain ⟨c, r, hcr⟩ : ∃ c r, escL (txT d k) = c :: r := by
        cases he : escL (txT d k) with
        | nil => exact absurd he (escL_ne hne)
        | cons c r => exact ⟨c, r, rfl⟩
      have hc60 : c ≠ 60 := (escL_no (txT d k) c (by rw [hcr]; simp)).1
      obtain ⟨t1, t2⟩ := tw_app (p := (· != 60)) (escL (txT d k)) 60 z (List.all_eq_true.2 fun c hc => by
        have := (escL_no (txT d k) c hc).1
        simpa using this) (by decide)
      have e1 : printT d k ++ (ks.flatMap (printT d) ++ 60 :: 47 :: rest) = escL (txT d k) ++ 60 :: z := by rw [hpr, hz]
      have e2 : escL (txT d k) ++ 60 :: z = c :: (r ++ 60 :: z) := by rw [hcr]; rfl
      have hu : unA (escL (txT d k)) = some (txT d k) := by
        unfold unA
        rw [V_esc _ (X_V hX), if_pos rfl, un_esc]
      rw [e1]
      simp only [kidX]
      rw [t1, t2, unt_none 93 93 62 _ (fun c hc => (escL_no (txT d k) c hc).2.1), hu, e2, pre_not ⟨_, rfl⟩ hc60, pre_not ⟨_, rfl⟩ hc60, pre_not ⟨_, rfl⟩ hc60, pre_not ⟨_, rfl⟩ hc60, pre_not ⟨_, rfl⟩ hc60]
      simp only [Bool.false_eq_true, if_false, Bool.or_self, Option.isSome_none, List.isEmpty_cons]
      rw [say_push d dn (txT d k) m hne hlast (by omega)]
      simp only
      rw [← hz, ← hleaf, kid_back d el rest ks (dn ++ [k]) f (m + 1) (by omega) ha.2 (by
        rw [last_snoc, hnk]
        rw [hnk] at hadj
        cases hk2 : ks.map (fun k => (nmT d k).isEmpty) with
        | nil => rfl
        | cons x y =>
          rw [hk2] at hadj
          simp only [noAdj, Bool.and_eq_true] at hadj ⊢
          exact hadj.2) (by omega) (fun k' hk' => hel k' (by simp [hk']))]
      simp only [List.append_assoc, List.cons_append, List.nil_append, List.map_cons, List.sum_cons, hmany]
      rw [show m + 1 + (ks.map (manyT d)).sum = m + (1 + (ks.map (manyT d)).sum) from by omega]
theorem max_mem {l : List Nat} {x : Nat} (h : x ∈ l) : x ≤ maxL l := by
  induction l with
  | nil => simp at h
  | cons a l ih =>
    have e : maxL (a :: l) = Nat.max a (maxL l) := rfl
    rw [e]
    rcases List.mem_cons.1 h with rfl | h
    · exact Nat.le_max_left _ _
    · exact Nat.le_trans (ih h) (Nat.le_max_right _ _)
theorem sum_mem {α : Type} (f : α → Nat) {l : List α} {x : α} (h : x ∈ l) : f x ≤ (l.map f).sum := by
  induction l with
  | nil => simp at h
  | cons a l ih =>
    rw [List.map_cons, List.sum_cons]
    rcases List.mem_cons.1 h with rfl | h
    · omega
    · have := ih h; omega
theorem print_pos : ∀ (d : Nat) (k : Tr d), mayT d k = true → 1 ≤ (printT d k).length := fun d k h => by
  cases hn : (nmT d k).isEmpty with
  | true =>
    obtain ⟨_, hne, _, _, hp⟩ := text_leaf d k h hn
    rw [hp]
    exact List.length_pos_iff.2 (escL_ne hne)
  | false =>
    obtain ⟨c, r, _, hp⟩ := el_head d k h hn
    rw [hp]; simp
/-- An element is read back. -/
theorem el_back : ∀ (d lev : Nat) (t : Tr d) (rest : List UInt8) (m : Nat), mayT d t = true → (nmT d t).isEmpty = false → deepT d t ≤ lev → m + manyT d t ≤ 4096 → elX d lev (printT d t ++ rest) m = .ok (t, rest, m + manyT d t)
  | 0, lev, t, rest, m, h, hn, hd, hm => by
    obtain ⟨n, as, tx⟩ := t
    simp only [nmT, lab] at hn
    simp only [mayT, mayTop] at h
    rw [hn] at h
    simp only [Bool.false_eq_true, if_false, Bool.and_eq_true] at h
    have etx : tx = [] := List.isEmpty_iff.1 h.1.1.2
    subst etx
    simp only [deepT, hn, Bool.false_eq_true, if_false] at hd
    simp only [manyT, hn, Bool.false_eq_true, if_false] at hm ⊢
    have e : printT 0 (n, as, []) ++ rest = opP (n, as, []) ++ endP true rest := by
      simp only [printT, hn, Bool.false_eq_true, if_false, List.append_assoc]; rfl
    rw [e]
    simp only [elX]
    rw [op_back lev (n, as, []) true rest m h.1.1.1 h.1.2 (by omega) (by simp only; omega)]
    simp only
    rw [Nat.add_assoc]
  | d + 1, lev, t, rest, m, h, hn, hd, hm => by
    obtain ⟨⟨n, as, tx⟩, ks⟩ := t
    simp only [nmT, lab] at hn
    simp only [mayT, mayTop] at h
    rw [hn] at h
    simp only [Bool.false_eq_true, if_false, Bool.and_eq_true] at h
    have etx : tx = [] := List.isEmpty_iff.1 h.1.1.2
    subst etx
    simp only [deepT, hn, Bool.false_eq_true, if_false] at hd
    simp only [manyT, hn, Bool.false_eq_true, if_false] at hm ⊢
    cases hk : ks with
    | nil =>
      subst hk
      have e : printT (d + 1) ((n, as, []), []) ++ rest = opP (n, as, []) ++ endP true rest := by
        simp only [printT, hn, Bool.false_eq_true, if_false, List.isEmpty_nil, if_true, List.append_assoc]; rfl
      rw [e]
      simp only [elX]
      rw [op_back lev (n, as, []) true rest m h.1.1.1 h.1.2 (by omega) (by simp only; simp at hm; omega)]
      exact congrArg (fun x => (Except.ok ((((n, as, []), []) : Tr (d + 1)), rest, x) : Except Nat (Tr (d + 1) × List UInt8 × Nat))) (by simp; omega)
    | cons k0 ks0 =>
      have hne : ks.isEmpty = false := by rw [hk]; rfl
      rw [← hk]
      have e : printT (d + 1) ((n, as, []), ks) ++ rest = opP (n, as, []) ++ endP false (ks.flatMap (printT d) ++ 60 :: 47 :: (n ++ 62 :: rest)) := by
        simp only [printT, hn, hne, Bool.false_eq_true, if_false, List.append_assoc, endP, clP]
        simp
      have hlen : ks.length ≤ (ks.flatMap (printT d)).length := by
        have hall := List.all_eq_true.1 h.2.1
        clear hm hd h e hk hne
        induction ks with
        | nil => simp
        | cons a l ih =>
          have h1 := print_pos d a (hall a (by simp))
          have h2 := ih (fun x hx => hall x (by simp [hx]))
          rw [List.flatMap_cons, List.length_append, List.length_cons]; omega
      rw [e]
      simp only [elX]
      rw [op_back lev (n, as, []) false _ m h.1.1.1 h.1.2 (by omega) (by simp only; omega)]
      simp only
      rw [kid_back d (elX d (lev - 1)) (n ++ 62 :: rest) ks [] _ (m + 1 + as.length) (by rw [List.length_append]; omega) h.2.1 (by
        have h4 := h.2.2
        cases hq : ks.map (fun k => (nmT d k).isEmpty) with
        | nil => rfl
        | cons x y =>
          rw [hq] at h4
          simp only [lastB, List.getLast?_nil, noAdj, Bool.false_and, Bool.not_false, Bool.true_and]
          exact h4) (by omega) (fun k hk2 hn2 r m2 hm2 => by
        have hdk := max_mem (List.mem_map_of_mem (f := deepT d) hk2)
        exact el_back d (lev - 1) k r m2 (List.all_eq_true.1 h.2.1 k hk2) hn2 (by omega) hm2)]
      simp only [List.nil_append]
      have hcl := cl_back n rest h.1.1.1
      rw [show clP n ++ rest = 60 :: 47 :: (n ++ 62 :: rest) from by simp [clP]] at hcl
      rw [hcl]
      simp only
      rw [show m + 1 + as.length + (ks.map (manyT d)).sum = m + (1 + as.length + (ks.map (manyT d)).sum) from by omega]
end Go.Proofs.YtlgkbdebpnbndaaGreatDoor
namespace Go.Proofs.YtlgkbdebpnbndaaGreatDoor
set_option linter.unusedVariables false
set_option linter.unusedSimpArgs false

theorem name_X {n : List UInt8} (h : nameX n = true) (t : List UInt8) : X (n ++ t) = X t :=
  X_ascii n t (fun c hc => by
    have := lat_of (List.all_eq_true.1 (name_all h) c hc)
    exact ⟨this.1, this.2.1⟩)
theorem atts_X : ∀ (l : List HdV) (t : List UInt8), l.all (fun a => nameX a.name && X a.value) = true → X (l.flatMap attP ++ t) = X t
  | [], t, _ => rfl
  | a :: l, t, h => by
    rw [List.all_cons, Bool.and_eq_true, Bool.and_eq_true] at h
    rw [List.flatMap_cons, List.append_assoc]
    rw [show attP a = 32 :: (a.name ++ 61 :: 34 :: (attE a.value ++ [34])) from rfl, List.cons_append, X_byte 32 (by decide), List.append_assoc, name_X h.1.1, List.cons_append, List.cons_append, X_byte 61 (by decide), X_byte 34 (by decide), List.append_assoc, X_app (X_att _ h.1.2), List.cons_append, List.nil_append, X_byte 34 (by decide), atts_X l t h.2]
    simp [show xmlN 32 = true from by decide, show xmlN 61 = true from by decide, show xmlN 34 = true from by decide]
theorem op_X (l : Lab) (t : List UInt8) (hn : nameX l.1 = true) (ha : attsOk l.2.1 = true) : X (opP l ++ t) = X t := by
  unfold attsOk at ha
  rw [Bool.and_eq_true] at ha
  unfold opP
  rw [List.cons_append, X_byte 60 (by decide), List.append_assoc, name_X hn, atts_X _ _ ha.1]
  simp [show xmlN 60 = true from by decide]
theorem cl_X (n t : List UInt8) (hn : nameX n = true) : X (clP n ++ t) = X t := by
  unfold clP
  rw [List.cons_append, List.cons_append, X_byte 60 (by decide), X_byte 47 (by decide), List.append_assoc, name_X hn, List.cons_append, List.nil_append, X_byte 62 (by decide)]
  simp [show xmlN 60 = true from by decide, show xmlN 47 = true from by decide, show xmlN 62 = true from by decide]
theorem flat_X {α : Type} (f : α → List UInt8) : ∀ l : List α, (∀ k ∈ l, X (f k) = true) → X (l.flatMap f) = true
  | [], _ => X_nil
  | a :: l, h => by
    rw [List.flatMap_cons, X_app (h a (by simp))]
    exact flat_X f l (fun x hx => h x (by simp [hx]))
/-- What is put together may stand. -/
theorem print_X : ∀ (d : Nat) (t : Tr d), mayT d t = true → X (printT d t) = true
  | 0, t, h => by
    obtain ⟨n, as, tx⟩ := t
    simp only [mayT, mayTop] at h
    simp only [printT]
    cases hn : n.isEmpty with
    | true =>
      rw [if_pos hn] at h
      simp only [Bool.and_eq_true] at h
      simp only [if_true]
      exact X_esc _ h.2
    | false =>
      rw [hn] at h
      simp only [Bool.false_eq_true, if_false, Bool.and_eq_true] at h ⊢
      rw [op_X (n, as, tx) _ h.1.1.1 h.1.2]
      decide +kernel
  | d + 1, t, h => by
    obtain ⟨⟨n, as, tx⟩, ks⟩ := t
    simp only [mayT, mayTop] at h
    simp only [printT]
    cases hn : n.isEmpty with
    | true =>
      rw [if_pos hn] at h
      simp only [Bool.and_eq_true] at h
      simp only [if_true]
      exact X_esc _ h.2
    | false =>
      rw [hn] at h
      simp only [Bool.false_eq_true, if_false, Bool.and_eq_true] at h ⊢
      split
      · rw [op_X (n, as, tx) _ h.1.1.1 h.1.2]
        decide +kernel
      · rw [op_X (n, as, tx) _ h.1.1.1 h.1.2, X_byte 62 (by decide)]
        have hk : X (ks.flatMap (printT d)) = true := flat_X (printT d) ks (fun k hk => print_X d k (List.all_eq_true.1 h.2.1 k hk))
        rw [X_app hk]
        have := cl_X n [] h.1.1.1
        rw [List.append_nil] at this
        rw [this]
        decide +kernel
theorem name_13 {n : List UInt8} (h : nameX n = true) : ∀ c ∈ n, c ≠ 13 := fun c hc => by
  have := lat_of (List.all_eq_true.1 (name_all h) c hc)
  exact u8_neE (by show c.toNat ≠ 13; omega)
theorem op_13 (l : Lab) (hn : nameX l.1 = true) (ha : attsOk l.2.1 = true) : ∀ c ∈ opP l, c ≠ 13 := by
  unfold attsOk at ha
  rw [Bool.and_eq_true] at ha
  intro c hc
  unfold opP at hc
  rcases List.mem_cons.1 hc with rfl | hc
  · decide
  · rcases List.mem_append.1 hc with hc | hc
    · exact name_13 hn c hc
    · obtain ⟨a, ham, hca⟩ := List.mem_flatMap.1 hc
      have hna := List.all_eq_true.1 ha.1 a ham
      rw [Bool.and_eq_true] at hna
      unfold attP at hca
      rcases List.mem_cons.1 hca with rfl | hca
      · decide
      · rcases List.mem_append.1 hca with hca | hca
        · exact name_13 hna.1 c hca
        · rcases List.mem_cons.1 hca with rfl | hca
          · decide
          · rcases List.mem_cons.1 hca with rfl | hca
            · decide
            · rcases List.mem_append.1 hca with hca | hca
              · exact (attE_no _ c hca).2.2.2.2
              · rw [List.mem_singleton.1 hca]; decide
theorem cl_13 (n : List UInt8) (hn : nameX n = true) : ∀ c ∈ clP n, c ≠ 13 := by
  intro c hc
  unfold clP at hc
  rcases List.mem_cons.1 hc with rfl | hc
  · decide
  · rcases List.mem_cons.1 hc with rfl | hc
    · decide
    · rcases List.mem_append.1 hc with hc | hc
      · exact name_13 hn c hc
      · rw [List.mem_singleton.1 hc]; decide
theorem print_13 : ∀ (d : Nat) (t : Tr d), mayT d t = true → ∀ c ∈ printT d t, c ≠ 13
  | 0, t, h => by
    obtain ⟨n, as, tx⟩ := t
    simp only [mayT, mayTop] at h
    simp only [printT]
    cases hn : n.isEmpty with
    | true =>
      simp only [if_true]
      exact fun c hc => (escL_no _ c hc).2.2
    | false =>
      rw [hn] at h
      simp only [Bool.false_eq_true, if_false, Bool.and_eq_true] at h ⊢
      intro c hc
      rcases List.mem_append.1 hc with hc | hc
      · exact op_13 (n, as, tx) h.1.1.1 h.1.2 c hc
      · simp at hc
        rcases hc with rfl | rfl <;> decide
  | d + 1, t, h => by
    obtain ⟨⟨n, as, tx⟩, ks⟩ := t
    simp only [mayT, mayTop] at h
    simp only [printT]
    cases hn : n.isEmpty with
    | true =>
      simp only [if_true]
      exact fun c hc => (escL_no _ c hc).2.2
    | false =>
      rw [hn] at h
      simp only [Bool.false_eq_true, if_false, Bool.and_eq_true] at h ⊢
      split
      · intro c hc
        rcases List.mem_append.1 hc with hc | hc
        · exact op_13 (n, as, tx) h.1.1.1 h.1.2 c hc
        · simp at hc
          rcases hc with rfl | rfl <;> decide
      · intro c hc
        rcases List.mem_append.1 hc with hc | hc
        · exact op_13 (n, as, tx) h.1.1.1 h.1.2 c hc
        · rcases List.mem_cons.1 hc with rfl | hc
          · decide
          · rcases List.mem_append.1 hc with hc | hc
            · obtain ⟨k, hk, hck⟩ := List.mem_flatMap.1 hc
              exact print_13 d k (List.all_eq_true.1 h.2.1 k hk) c hck
            · exact cl_13 n h.1.1.1 c hc
theorem as_none (all : Bool) (c : UInt8) (r : List UInt8) (hc : letX c = true) : ∀ f, asX all f (60 :: c :: r) = .ok (60 :: c :: r)
  | 0 => rfl
  | f + 1 => by
    have hcl : latX c = true := by
      have := let_fin ⟨c.toNat, c.toNat_lt⟩
      simp only [UInt8.ofNat_toNat] at this
      exact this hc
    have hlo := lat_of hcl
    have h33 : (33 : UInt8) ≠ c := u8_neE (by show 33 ≠ c.toNat; omega)
    have h63 : (63 : UInt8) ≠ c := u8_neE (by show 63 ≠ c.toNat; omega)
    simp only [asX]
    rw [pre_no (l := []) (p := [60, 33, 45, 45]) rfl h33, pre_no (l := []) (p := [60, 63]) rfl h63]
    simp [hdW, show whX 60 = false from by decide]
/-- A tree put together is read back. -/
theorem par_back (t : Tr 40) (h : checkT 40 t = 0) (hl : (printT 40 t).length ≤ 65536) : parX (printT 40 t) = .ok t := by
  unfold checkT at h
  split at h
  · cases h
  · rename_i h1
    split at h
    · cases h
    · split at h
      · cases h
      · rename_i h2 h3
        rw [Bool.or_eq_true] at h1
        have hn : (nmT 40 t).isEmpty = false := by
          cases hq : (nmT 40 t).isEmpty with
          | false => rfl
          | true => exact absurd (.inl hq) h1
        have hm : mayT 40 t = true := by
          cases hq : mayT 40 t with
          | true => rfl
          | false => exact absurd (.inr (by rw [hq]; rfl)) h1
        have hb := el_back 40 16 t [] 0 hm hn (by omega) (by omega)
        rw [List.append_nil] at hb
        obtain ⟨c, r, hc, hp⟩ := el_head 40 t hm hn
        have hcl : latX c = true := by
          have := let_fin ⟨c.toNat, c.toNat_lt⟩
          simp only [UInt8.ofNat_toNat] at this
          exact this hc
        have hlo := lat_of hcl
        have h33 : (33 : UInt8) ≠ c := u8_neE (by show 33 ≠ c.toNat; omega)
        unfold parX
        rw [if_neg (by omega), print_X 40 t hm, linE_plain _ (print_13 40 t hm)]
        simp only [Bool.not_true, Bool.false_eq_true, if_false]
        have ha := as_none true c r hc (printT 40 t).length
        rw [← hp] at ha
        rw [ha]
        simp only
        rw [show preX [60, 33, 68, 79, 67, 84, 89, 80, 69] (printT 40 t) = false from by rw [hp]; exact pre_no (l := []) rfl h33 r, hb]
        simp [asX]
end Go.Proofs.YtlgkbdebpnbndaaGreatDoor
namespace Go.Proofs.YtlgkbdebpnbndaaGreatDoor
set_option linter.unusedVariables false
set_option linter.unusedSimpArgs false

theorem wh_fin : ∀ n : Fin 256, whX (UInt8.ofNat n.val) = true → n.val < 128 := by decide +kernel
theorem wh_low {c : UInt8} (h : whX c = true) : c.toNat < 128 := by
  have := wh_fin ⟨c.toNat, c.toNat_lt⟩
  simp only [UInt8.ofNat_toNat] at this
  exact this h
theorem X_wh {l : List UInt8} (h : X l = true) : X (l.dropWhile whX) = true := X_dropWhile whX (fun c hc => wh_low hc) l h
theorem X_lat {l : List UInt8} (h : X l = true) : X (l.dropWhile latX) = true := X_dropWhile latX (fun c hc => (lat_of hc).1) l h
theorem unt_some (p : List UInt8) (hp : p ≠ []) : ∀ (l a b : List UInt8), untX p l = some (a, b) → l = a ++ (p ++ b)
  | [], a, b, h => by simp [untX] at h
  | c :: r, a, b, h => by
    simp only [untX] at h
    split at h
    · rename_i hq
      have h2 := Option.some.inj h
      have ha : a = [] := (congrArg Prod.fst h2).symm
      have hb : b = (c :: r).drop p.length := (congrArg Prod.snd h2).symm
      subst ha
      rw [hb, List.nil_append]
      unfold preX at hq
      obtain ⟨z, hz⟩ := List.isPrefixOf_iff_prefix.1 hq
      rw [← hz]
      simp
    · cases hu : untX p r with
      | none => rw [hu] at h; cases h
      | some q =>
        rw [hu] at h
        have h2 := Option.some.inj h
        have ha : a = c :: q.1 := (congrArg Prod.fst h2).symm
        have hb : b = q.2 := (congrArg Prod.snd h2).symm
        have ih := unt_some p hp r q.1 q.2 (by rw [hu])
        rw [ha, hb, List.cons_append, ← ih]
/-- Cut at a text of ASCII. -/
theorem X_unt {p l a b : List UInt8} (hp : p ≠ []) (ha : ∀ c ∈ p, c.toNat < 128) (h : X l = true) (hu : untX p l = some (a, b)) : X a = true ∧ X b = true := by
  have e := unt_some p hp l a b hu
  cases p with
  | nil => exact absurd rfl hp
  | cons c q =>
    rw [e, List.cons_append] at h
    exact ⟨X_left (ha c (by simp)) h, X_behind q b (fun d hd => ha d (by simp [hd])) (X_right (ha c (by simp)) h)⟩
theorem X_pre {p l : List UInt8} (ha : ∀ c ∈ p, c.toNat < 128) (hp : preX p l = true) (h : X l = true) : X (l.drop p.length) = true := by
  unfold preX at hp
  obtain ⟨z, hz⟩ := List.isPrefixOf_iff_prefix.1 hp
  rw [← hz] at h ⊢
  rw [List.drop_left' rfl]
  exact X_behind p z ha h
theorem as_X (all : Bool) : ∀ (f : Nat) (l l2 : List UInt8), X l = true → asX all f l = .ok l2 → X l2 = true
  | 0, l, l2, h, he => by
    have : l = l2 := by simpa [asX] using he
    rw [← this]; exact h
  | f + 1, l, l2, h, he => by
    simp only [asX] at he
    split at he
    · rename_i hp
      have h4 := X_pre (p := [60, 33, 45, 45]) (by decide) hp h
      cases hu : untX [45, 45, 62] (l.drop 4) with
      | none => rw [hu] at he; cases he
      | some q =>
        rw [hu] at he
        exact as_X all f q.2 l2 (X_unt (a := q.1) (by decide) (by decide) h4 hu).2 he
    · split at he
      · rename_i hp
        have h4 := X_pre (p := [60, 63]) (by decide) hp h
        cases hu : untX [63, 62] (l.drop 2) with
        | none => rw [hu] at he; cases he
        | some q =>
          rw [hu] at he
          exact as_X all f q.2 l2 (X_unt (a := q.1) (by decide) (by decide) h4 hu).2 he
      · split at he
        · exact as_X all f _ l2 (X_wh h) he
        · have : l = l2 := by simpa using he
          rw [← this]; exact h
theorem val_X {raw v : List UInt8} (h : X raw = true) (hv : valX raw = some v) : X v = true := by
  unfold valX unA at hv
  split at hv
  · exact X_un _ _ v (Nat.le_refl _) (X_blank _ (X_lin _ h)) hv
  · cases hv
theorem att_may {as : List HdV} {l : List UInt8} {m : Nat} {a : HdV} {l2 : List UInt8} {m2 : Nat} (h : X l = true) (he : attX as l m = .ok (a, l2, m2)) :
    nameX a.name = true ∧ X a.value = true ∧ (as.map (·.name)).contains a.name = false ∧ m2 = m + 1 ∧ m2 ≤ 4096 ∧ X l2 = true := by
  unfold attX at he
  split at he
  · cases he
  · rename_i hn
    have hn' : nameX (l.takeWhile latX) = true := by simpa using hn
    split at he
    · rename_i r hr
      have hXr : X r = true := X_tail (c := 61) (by decide) (by rw [← hr]; exact X_wh (X_lat h))
      split at he
      · rename_i q r2 hq
        split at he
        · rename_i hqq
          have hq128 : q.toNat < 128 := by rcases hqq with e | e <;> (rw [e]; decide)
          have hX2 : X r2 = true := X_tail hq128 (by rw [← hq]; exact X_wh hXr)
          cases hu : untX [q] r2 with
          | none => rw [hu] at he; cases he
          | some p =>
            rw [hu] at he
            simp only at he
            have hp := X_unt (p := [q]) (a := p.1) (b := p.2) (by simp) (fun c hc => by rw [List.mem_singleton.1 hc]; exact hq128) hX2 hu
            split at he
            · cases he
            · cases hv : valX p.1 with
              | none => rw [hv] at he; cases he
              | some v =>
                rw [hv] at he
                simp only at he
                split at he
                · cases he
                · rename_i hd
                  split at he
                  · rename_i hm
                    have h9 := Except.ok.inj he
                    have e1 : a = ⟨l.takeWhile latX, v⟩ := (congrArg Prod.fst h9).symm
                    have e2 : l2 = p.2 := (congrArg (fun x => x.2.1) h9).symm
                    have e3 : m2 = m + 1 := (congrArg (fun x => x.2.2) h9).symm
                    rw [e1, e2, e3]
                    refine ⟨hn', val_X hp.1 hv, ?_, rfl, hm, hp.2⟩
                    cases hq : (as.map (·.name)).contains (l.takeWhile latX) with
                    | false => rfl
                    | true => exact absurd hq hd
                  · cases he
        · cases he
      · cases he
    · cases he
theorem dist_snoc : ∀ (l : List (List UInt8)) (a : List UInt8), distN l = true → l.contains a = false → distN (l ++ [a]) = true
  | [], a, _, _ => rfl
  | x :: l, a, h, hc => by
    rw [List.cons_append]
    simp only [distN, Bool.and_eq_true, Bool.not_eq_true'] at h ⊢
    rw [List.contains_cons, Bool.or_eq_false_iff] at hc
    refine ⟨?_, dist_snoc l a h.2 hc.2⟩
    rw [List.contains_eq_mem, decide_eq_false_iff_not] at h ⊢
    intro hm
    rcases List.mem_append.1 hm with hm | hm
    · exact h.1 hm
    · have h5 := hc.1
      rw [List.mem_singleton.1 hm] at h5
      simp at h5
theorem atts_snoc {as : List HdV} {a : HdV} (h : attsOk as = true) (hn : nameX a.name = true) (hv : X a.value = true) (hc : (as.map (·.name)).contains a.name = false) : attsOk (as ++ [a]) = true := by
  unfold attsOk at h ⊢
  rw [Bool.and_eq_true] at h ⊢
  refine ⟨?_, ?_⟩
  · rw [List.all_append, h.1]
    simp [hn, hv]
  · rw [List.map_append]
    exact dist_snoc _ _ h.2 hc
theorem ats_may : ∀ (f : Nat) (as : List HdV) (l : List UInt8) (m : Nat) (as2 : List HdV) (b : Bool) (l2 : List UInt8) (m2 : Nat), X l = true → attsOk as = true → m ≤ 4096 → atsX f as l m = .ok (as2, b, l2, m2) → attsOk as2 = true ∧ m2 + as.length = m + as2.length ∧ m2 ≤ 4096 ∧ X l2 = true
  | 0, as, l, m, as2, b, l2, m2, _, _, _, he => by simp [atsX] at he
  | f + 1, as, l, m, as2, b, l2, m2, h, ha, hm, he => by
    simp only [atsX] at he
    split at he
    · rename_i hp
      have h9 := Except.ok.inj he
      have e1 : as = as2 := congrArg Prod.fst h9
      have e2 : (l.dropWhile whX).drop 2 = l2 := congrArg (fun x => x.2.2.1) h9
      have e3 : m = m2 := congrArg (fun x => x.2.2.2) h9
      rw [← e1, ← e2, ← e3]
      exact ⟨ha, rfl, hm, X_pre (p := [47, 62]) (by decide) hp (X_wh h)⟩
    · split at he
      · rename_i hp
        have h9 := Except.ok.inj he
        have e1 : as = as2 := congrArg Prod.fst h9
        have e2 : (l.dropWhile whX).drop 1 = l2 := congrArg (fun x => x.2.2.1) h9
        have e3 : m = m2 := congrArg (fun x => x.2.2.2) h9
        rw [← e1, ← e2, ← e3]
        exact ⟨ha, rfl, hm, X_pre (p := [62]) (by decide) hp (X_wh h)⟩
      · split at he
        · cases he
        · cases ht : attX as (l.dropWhile whX) m with
          | error e => rw [ht] at he; cases he
          | ok q =>
            obtain ⟨a, l3, m3⟩ := q
            rw [ht] at he
            simp only at he
            obtain ⟨k1, k2, k3, k4, k5, k6⟩ := att_may (X_wh h) ht
            obtain ⟨j1, j2, j3, j4⟩ := ats_may f (as ++ [a]) l3 m3 as2 b l2 m2 k6 (atts_snoc ha k1 k2 k3) k5 he
            refine ⟨j1, ?_, j3, j4⟩
            simp only [List.length_append, List.length_cons, List.length_nil] at j2
            omega
theorem op_may {lev : Nat} {l : List UInt8} {m : Nat} {n : List UInt8} {as : List HdV} {b : Bool} {l2 : List UInt8} {m2 : Nat} (h : X l = true) (he : opX lev l m = .ok (n, as, b, l2, m2)) :
    nameX n = true ∧ attsOk as = true ∧ m2 = m + 1 + as.length ∧ m2 ≤ 4096 ∧ X l2 = true ∧ lev ≠ 0 := by
  unfold opX at he
  split at he
  · rename_i r
    have hr : X r = true := X_tail (c := 60) (by decide) h
    split at he
    · cases he
    · rename_i hn
      split at he
      · cases he
      · rename_i hl
        split at he
        · cases he
        · rename_i hm
          cases ht : atsX ((r.dropWhile latX).length + 1) [] (r.dropWhile latX) (m + 1) with
          | error e => rw [ht] at he; cases he
          | ok q =>
            obtain ⟨as', b', l', m'⟩ := q
            rw [ht] at he
            have h9 := Except.ok.inj he
            have e0 : r.takeWhile latX = n := congrArg Prod.fst h9
            have e1 : as' = as := congrArg (fun x => x.2.1) h9
            have e3 : l' = l2 := congrArg (fun x => x.2.2.2.1) h9
            have e4 : m' = m2 := congrArg (fun x => x.2.2.2.2) h9
            obtain ⟨j1, j2, j3, j4⟩ := ats_may _ [] _ (m + 1) as' b' l' m' (X_lat hr) (by decide) (by omega) ht
            rw [← e0, ← e1, ← e3, ← e4]
            refine ⟨by simpa using hn, j1, ?_, j3, j4, hl⟩
            simpa using j2
  · cases he
/-- Kids that may be. -/
structure KidsOk (d lev : Nat) (ks : List (Tr d)) : Prop where
  all : ks.all (mayT d) = true
  adj : noAdj (ks.map fun k => (nmT d k).isEmpty) = true
  deep : ∀ k ∈ ks, deepT d k ≤ lev
theorem adj_snoc : ∀ (l : List Bool) (b : Bool), noAdj l = true → (l.getLast? = some true → b = false) → noAdj (l ++ [b]) = true
  | [], b, _, _ => rfl
  | [a], b, _, h => by
    simp only [List.cons_append, List.nil_append, noAdj, Bool.and_true]
    cases a with
    | false => rfl
    | true => rw [h rfl]; rfl
  | a :: c :: l, b, h, hl => by
    simp only [List.cons_append, noAdj, Bool.and_eq_true] at h ⊢
    exact ⟨h.1, adj_snoc (c :: l) b h.2 (fun e => hl (by rw [List.getLast?_cons_cons]; exact e))⟩
theorem last_flag (d : Nat) (ks : List (Tr d)) : (ks.map fun k => (nmT d k).isEmpty).getLast? = some true ↔ lastB d ks = true := by
  unfold lastB
  rw [List.getLast?_map]
  cases ks.getLast? with
  | none => simp
  | some k => simp
theorem kids_push {d lev : Nat} {ks : List (Tr d)} {k : Tr d} (h : KidsOk d lev ks) (hk : mayT d k = true) (hd : deepT d k ≤ lev) (hl : lastB d ks = true → (nmT d k).isEmpty = false) : KidsOk d lev (ks ++ [k]) := by
  refine ⟨?_, ?_, ?_⟩
  · rw [List.all_append, h.all]; simp [hk]
  · rw [List.map_append]
    exact adj_snoc _ _ h.adj (fun e => hl ((last_flag d ks).1 e))
  · intro x hx
    rcases List.mem_append.1 hx with hx | hx
    · exact h.deep x hx
    · rw [List.mem_singleton.1 hx]; exact hd
theorem leaf_may (d : Nat) (s : List UInt8) (hs : s ≠ []) (hX : X s = true) : mayT d (leaf d ([], [], s)) = true ∧ deepT d (leaf d ([], [], s)) = 0 ∧ manyT d (leaf d ([], [], s)) = 1 ∧ nmT d (leaf d ([], [], s)) = [] := by
  have he : s.isEmpty = false := by cases s <;> simp at hs ⊢
  cases d with
  | zero => exact ⟨by simp [leaf, mayT, mayTop, he, hX], rfl, rfl, rfl⟩
  | succ d => exact ⟨by simp [leaf, mayT, mayTop, he, hX], rfl, rfl, rfl⟩
theorem say_may {d lev : Nat} {ks : List (Tr d)} {s : List UInt8} {m : Nat} {ks2 : List (Tr d)} {m2 : Nat} (h : KidsOk d lev ks) (hX : X s = true) (hm : m ≤ 4096) (he : sayX d ks s m = .ok (ks2, m2)) :
    KidsOk d lev ks2 ∧ m2 + (ks.map (manyT d)).sum = m + (ks2.map (manyT d)).sum ∧ m2 ≤ 4096 := by
  unfold sayX at he
  split at he
  · have h9 := Except.ok.inj he
    have e1 : ks = ks2 := congrArg Prod.fst h9
    have e2 : m = m2 := congrArg Prod.snd h9
    rw [← e1, ← e2]
    exact ⟨h, rfl, hm⟩
  · rename_i hs0
    have hs : s ≠ [] := fun e => hs0 (by rw [e]; rfl)
    obtain ⟨f1, f2, f3, f4⟩ := leaf_may d s hs hX
    split at he
    · rename_i k hk
      split at he
      · rename_i hnk
        have h9 := Except.ok.inj he
        have e1 : ks.dropLast ++ [leaf d ([], [], txT d k ++ s)] = ks2 := congrArg Prod.fst h9
        have e2 : m = m2 := congrArg Prod.snd h9
        obtain ⟨l, hl⟩ : ∃ l, ks = l ++ [k] := by
          obtain ⟨l, hl⟩ := List.getLast?_eq_some_iff.1 hk
          exact ⟨l, hl⟩
        subst hl
        rw [List.dropLast_concat] at e1
        have hkm : mayT d k = true := by
          have := h.all
          rw [List.all_append, Bool.and_eq_true] at this
          simpa using this.2
        obtain ⟨_, g2, g3, g4, _⟩ := text_leaf d k hkm hnk
        obtain ⟨i1, i2, i3, i4⟩ := leaf_may d (txT d k ++ s) (by simp [hs]) (by rw [X_app g3]; exact hX)
        rw [← e1, ← e2]
        refine ⟨⟨?_, ?_, ?_⟩, ?_, hm⟩
        · have := h.all
          rw [List.all_append, Bool.and_eq_true] at this
          rw [List.all_append, this.1]
          simp [i1]
        · have := h.adj
          rw [List.map_append, List.map_cons, List.map_nil] at this ⊢
          rw [i4, show ([] : List UInt8).isEmpty = (nmT d k).isEmpty from by rw [hnk]; rfl]
          exact this
        · intro x hx
          rcases List.mem_append.1 hx with hx | hx
          · exact h.deep x (by simp [hx])
          · rw [List.mem_singleton.1 hx, i2]; omega
        · simp only [List.map_append, List.map_cons, List.map_nil, List.sum_append, List.sum_cons, List.sum_nil, i3, g4]
      · rename_i hnk
        split at he
        · rename_i hm1
          have h9 := Except.ok.inj he
          have e1 : ks ++ [leaf d ([], [], s)] = ks2 := congrArg Prod.fst h9
          have e2 : m + 1 = m2 := congrArg Prod.snd h9
          rw [← e1, ← e2]
          refine ⟨kids_push h f1 (by omega) (fun hl => ?_), ?_, hm1⟩
          · exfalso
            unfold lastB at hl
            rw [hk] at hl
            exact hnk hl
          · simp only [List.map_append, List.map_cons, List.map_nil, List.sum_append, List.sum_cons, List.sum_nil, f3]; omega
        · cases he
    · rename_i hk
      split at he
      · rename_i hm1
        have h9 := Except.ok.inj he
        have e1 : [leaf d ([], [], s)] = ks2 := congrArg Prod.fst h9
        have e2 : m + 1 = m2 := congrArg Prod.snd h9
        have e0 : ks = [] := List.getLast?_eq_none_iff.1 hk
        subst e0
        rw [← e1, ← e2]
        refine ⟨kids_push (ks := []) h f1 (by omega) (fun hl => by simp [lastB] at hl), ?_, hm1⟩
        simp [f3]
      · cases he
theorem kid_may (d lev : Nat) (el : List UInt8 → Nat → Except Nat (Tr d × List UInt8 × Nat))
    (hel : ∀ l m t l2 m2, X l = true → m ≤ 4096 → el l m = .ok (t, l2, m2) → mayT d t = true ∧ (nmT d t).isEmpty = false ∧ deepT d t ≤ lev ∧ m2 = m + manyT d t ∧ m2 ≤ 4096 ∧ X l2 = true) :
    ∀ (f : Nat) (ks : List (Tr d)) (l : List UInt8) (m : Nat) (ks2 : List (Tr d)) (l2 : List UInt8) (m2 : Nat), X l = true → KidsOk d lev ks → m ≤ 4096 → kidX d el f ks l m = .ok (ks2, l2, m2) →
      KidsOk d lev ks2 ∧ m2 + (ks.map (manyT d)).sum = m + (ks2.map (manyT d)).sum ∧ m2 ≤ 4096 ∧ X l2 = true ∧ preX [60, 47] l2 = true
  | 0, ks, l, m, ks2, l2, m2, _, _, _, he => by simp [kidX] at he
  | f + 1, ks, l, m, ks2, l2, m2, h, hk, hm, he => by
    simp only [kidX] at he
    split at he
    · rename_i hp
      have h9 := Except.ok.inj he
      have e1 : ks = ks2 := congrArg Prod.fst h9
      have e2 : l = l2 := congrArg (fun x => x.2.1) h9
      have e3 : m = m2 := congrArg (fun x => x.2.2) h9
      rw [← e1, ← e2, ← e3]
      exact ⟨hk, rfl, hm, h, hp⟩
    · split at he
      · cases ha : asX false l.length l with
        | error e => rw [ha] at he; cases he
        | ok l3 =>
          rw [ha] at he
          exact kid_may d lev el hel f ks l3 m ks2 l2 m2 (as_X false _ l l3 h ha) hk hm he
      · split at he
        · rename_i hp
          have h9 := X_pre (p := [60, 33, 91, 67, 68, 65, 84, 65, 91]) (by decide) hp h
          cases hu : untX [93, 93, 62] (l.drop 9) with
          | none => rw [hu] at he; cases he
          | some q =>
            rw [hu] at he
            simp only at he
            have hq := X_unt (p := [93, 93, 62]) (a := q.1) (b := q.2) (by decide) (by decide) h9 hu
            cases hs : sayX d ks q.1 m with
            | error e => rw [hs] at he; cases he
            | ok z =>
              obtain ⟨ks3, m3⟩ := z
              rw [hs] at he
              simp only at he
              obtain ⟨i1, i2, i3⟩ := say_may hk hq.1 hm hs
              obtain ⟨j1, j2, j3, j4, j5⟩ := kid_may d lev el hel f ks3 q.2 m3 ks2 l2 m2 hq.2 i1 i3 he
              exact ⟨j1, by omega, j3, j4, j5⟩
        · split at he
          · cases ht : el l m with
            | error e => rw [ht] at he; cases he
            | ok z =>
              obtain ⟨t, l3, m3⟩ := z
              rw [ht] at he
              simp only at he
              obtain ⟨i1, i2, i3, i4, i5, i6⟩ := hel l m t l3 m3 h hm ht
              obtain ⟨j1, j2, j3, j4, j5⟩ := kid_may d lev el hel f (ks ++ [t]) l3 m3 ks2 l2 m2 i6 (kids_push hk i1 i3 (fun _ => i2)) i5 he
              refine ⟨j1, ?_, j3, j4, j5⟩
              simp only [List.map_append, List.map_cons, List.map_nil, List.sum_append, List.sum_cons, List.sum_nil] at j2
              omega
          · split at he
            · cases he
            · rename_i hr
              rw [Bool.or_eq_true, not_or] at hr
              obtain ⟨z, hz⟩ : ∃ z, l.dropWhile (· != 60) = 60 :: z := by
                cases hq : l.dropWhile (· != 60) with
                | nil => rw [hq] at hr; simp at hr
                | cons c z =>
                  have h5 := List.head?_dropWhile_not (p := (· != 60)) (l := l)
                  rw [hq] at h5
                  simp at h5
                  exact ⟨z, by rw [h5]⟩
              have hl : l = l.takeWhile (· != 60) ++ 60 :: z := by rw [← hz, List.takeWhile_append_dropWhile]
              have hXr : X (l.takeWhile (· != 60)) = true := X_left (c := 60) (b := z) (by decide) (by rw [← hl]; exact h)
              have hXz : X (60 :: z) = true := by
                have h6 := X_right (a := l.takeWhile (· != 60)) (c := 60) (b := z) (by decide) (by rw [← hl]; exact h)
                rw [X_byte 60 (by decide), h6]; decide
              cases hu : unA (l.takeWhile (· != 60)) with
              | none => rw [hu] at he; cases he
              | some s =>
                rw [hu] at he
                simp only at he
                have hXs : X s = true := by
                  unfold unA at hu
                  split at hu
                  · exact X_un _ _ s (Nat.le_refl _) hXr hu
                  · cases hu
                cases hs : sayX d ks s m with
                | error e => rw [hs] at he; cases he
                | ok q =>
                  obtain ⟨ks3, m3⟩ := q
                  rw [hs] at he
                  simp only at he
                  obtain ⟨i1, i2, i3⟩ := say_may hk hXs hm hs
                  rw [hz] at he
                  obtain ⟨j1, j2, j3, j4, j5⟩ := kid_may d lev el hel f ks3 (60 :: z) m3 ks2 l2 m2 hXz i1 i3 he
                  exact ⟨j1, by omega, j3, j4, j5⟩
theorem cl_may {n l r : List UInt8} (h : X l = true) (hp : preX [60, 47] l = true) (he : clX n l = some r) : X r = true := by
  unfold clX at he
  split at he
  · split at he
    · rename_i q hq
      rw [← Option.some.inj he]
      exact X_tail (c := 62) (by decide) (by rw [← hq]; exact X_wh (X_lat (X_pre (p := [60, 47]) (by decide) hp h)))
    · cases he
  · cases he
theorem max_le {l : List Nat} {x : Nat} (h : ∀ y ∈ l, y ≤ x) : maxL l ≤ x := by
  induction l with
  | nil => exact Nat.zero_le _
  | cons a l ih =>
    have e : maxL (a :: l) = Nat.max a (maxL l) := rfl
    rw [e]
    exact Nat.max_le.2 ⟨h a (by simp), ih (fun y hy => h y (by simp [hy]))⟩
/-- An element that is read may be. -/
theorem el_may : ∀ (d lev : Nat) (l : List UInt8) (m : Nat) (t : Tr d) (l2 : List UInt8) (m2 : Nat), X l = true → m ≤ 4096 → elX d lev l m = .ok (t, l2, m2) → mayT d t = true ∧ (nmT d t).isEmpty = false ∧ deepT d t ≤ lev ∧ m2 = m + manyT d t ∧ m2 ≤ 4096 ∧ X l2 = true
  | 0, lev, l, m, t, l2, m2, h, hm, he => by
    simp only [elX] at he
    cases ho : opX lev l m with
    | error e => rw [ho] at he; cases he
    | ok q =>
      obtain ⟨n, as, b, l3, m3⟩ := q
      rw [ho] at he
      obtain ⟨k1, k2, k3, k4, k5, k6⟩ := op_may h ho
      have hne : n.isEmpty = false := by
        have := name_ne k1
        cases n <;> simp at this ⊢
      cases b with
      | false => cases he
      | true =>
        have h9 := Except.ok.inj he
        have e1 : ((n, as, []) : Lab) = t := congrArg Prod.fst h9
        have e2 : l3 = l2 := congrArg (fun x => x.2.1) h9
        have e3 : m3 = m2 := congrArg (fun x => x.2.2) h9
        rw [← e1, ← e2, ← e3]
        refine ⟨?_, hne, ?_, ?_, k4, k5⟩
        · simp [mayT, mayTop, hne, k1, k2]
        · simp only [deepT, hne, Bool.false_eq_true, if_false]; omega
        · simp only [manyT, hne, Bool.false_eq_true, if_false]; omega
  | d + 1, lev, l, m, t, l2, m2, h, hm, he => by
    simp only [elX] at he
    cases ho : opX lev l m with
    | error e => rw [ho] at he; cases he
    | ok q =>
      obtain ⟨n, as, b, l3, m3⟩ := q
      rw [ho] at he
      obtain ⟨k1, k2, k3, k4, k5, k6⟩ := op_may h ho
      have hne : n.isEmpty = false := by
        have := name_ne k1
        cases n <;> simp at this ⊢
      cases b with
      | true =>
        have h9 := Except.ok.inj he
        have e1 : (((n, as, []), []) : Lab × List (Tr d)) = t := congrArg Prod.fst h9
        have e2 : l3 = l2 := congrArg (fun x => x.2.1) h9
        have e3 : m3 = m2 := congrArg (fun x => x.2.2) h9
        rw [← e1, ← e2, ← e3]
        refine ⟨?_, hne, ?_, ?_, k4, k5⟩
        · simp [mayT, mayTop, hne, k1, k2, noAdj]
        · simp only [deepT, hne, Bool.false_eq_true, if_false, List.map_nil]
          show maxL [] + 1 ≤ lev
          simp only [maxL, List.foldr_nil]; omega
        · simp only [manyT, hne, Bool.false_eq_true, if_false, List.map_nil, List.sum_nil]; omega
      | false =>
        simp only at he
        cases hkx : kidX d (elX d (lev - 1)) (l3.length + 1) [] l3 m3 with
        | error e => rw [hkx] at he; cases he
        | ok q =>
          obtain ⟨ks, l4, m4⟩ := q
          rw [hkx] at he
          simp only at he
          obtain ⟨j1, j2, j3, j4, j5⟩ := kid_may d (lev - 1) (elX d (lev - 1)) (fun l m t l2 m2 h1 h2 h3 => el_may d (lev - 1) l m t l2 m2 h1 h2 h3) (l3.length + 1) [] l3 m3 ks l4 m4 k5 ⟨rfl, rfl, fun k hk => by simp at hk⟩ k4 hkx
          cases hc : clX n l4 with
          | none => rw [hc] at he; cases he
          | some r =>
            rw [hc] at he
            have h9 := Except.ok.inj he
            have e1 : (((n, as, []), ks) : Lab × List (Tr d)) = t := congrArg Prod.fst h9
            have e2 : r = l2 := congrArg (fun x => x.2.1) h9
            have e3 : m4 = m2 := congrArg (fun x => x.2.2) h9
            rw [← e1, ← e2, ← e3]
            have hdp : maxL (ks.map (deepT d)) ≤ lev - 1 := max_le (fun y hy => by
              obtain ⟨k, hk, rfl⟩ := List.mem_map.1 hy
              exact j1.deep k hk)
            refine ⟨?_, hne, ?_, ?_, j3, cl_may j4 j5 hc⟩
            · simp only [mayT, mayTop, hne, Bool.false_eq_true, if_false, k1, k2, j1.all, j1.adj]; rfl
            · simp only [deepT, hne, Bool.false_eq_true, if_false]; omega
            · simp only [manyT, hne, Bool.false_eq_true, if_false]
              simp only [List.map_nil, List.sum_nil] at j2
              omega
/-- What is read may be. -/
theorem par_may {s : List UInt8} {t : Tr 40} (h : parX s = .ok t) : checkT 40 t = 0 := by
  unfold parX at h
  split at h
  · cases h
  · split at h
    · cases h
    · rename_i hx
      have hX : X (linE s) = true := X_lin s (by simpa using hx)
      cases ha : asX true (linE s).length (linE s) with
      | error e => rw [ha] at h; cases h
      | ok l1 =>
        rw [ha] at h
        simp only at h
        split at h
        · cases h
        · cases he : elX 40 16 l1 0 with
          | error e => rw [he] at h; cases h
          | ok q =>
            obtain ⟨t1, l2, m⟩ := q
            rw [he] at h
            simp only at h
            obtain ⟨i1, i2, i3, i4, i5, _⟩ := el_may 40 16 l1 0 t1 l2 m (as_X true _ _ l1 hX ha) (by omega) he
            cases hb : asX true l2.length l2 with
            | error e => rw [hb] at h; cases h
            | ok l3 =>
              rw [hb] at h
              simp only at h
              split at h
              · have e1 : t1 = t := Except.ok.inj h
                rw [← e1]
                unfold checkT
                rw [i1, i2]
                simp only [Bool.not_true, Bool.or_self, Bool.false_eq_true, if_false]
                rw [if_neg (by omega), if_neg (by omega)]
              · cases h
end Go.Proofs.YtlgkbdebpnbndaaGreatDoor
namespace Go.Proofs.YtlgkbdebpnbndaaGreatDoor
set_option linter.unusedVariables false
set_option linter.unusedSimpArgs false

def repL (n : Nat) (l : List UInt8) : List UInt8 := (List.replicate n l).flatten
theorem repL_zero (l : List UInt8) : repL 0 l = [] := rfl
theorem repL_succ (n : Nat) (l : List UInt8) : repL (n + 1) l = l ++ repL n l := by simp [repL, List.replicate_succ]
theorem repL_snoc : ∀ (n : Nat) (l : List UInt8), repL (n + 1) l = repL n l ++ l
  | 0, l => by simp [repL]
  | n + 1, l => by
    rw [repL_succ (n + 1), repL_snoc n l, ← List.append_assoc, ← repL_succ, repL_snoc n l]
theorem repL_len (n : Nat) (l : List UInt8) : (repL n l).length = n * l.length := by
  induction n with
  | zero => simp [repL]
  | succ n ih => rw [repL_succ, List.length_append, ih, Nat.add_mul]; omega
def aO : List UInt8 := [60, 97, 62]
def aC : List UInt8 := [60, 47, 97, 62]
def bE : List UInt8 := [60, 98, 47, 62]
/-- Elements within one another, others within the last. -/
def nest (n m : Nat) (rest : List UInt8) : List UInt8 := repL n aO ++ (repL m bE ++ (repL n aC ++ rest))
theorem nest_succ (n m : Nat) (rest : List UInt8) : nest (n + 1) m rest = 60 :: 97 :: 62 :: nest n m (60 :: 47 :: 97 :: 62 :: rest) := by
  unfold nest
  rw [repL_succ n aO, repL_snoc n aC]
  simp [aO, aC]
theorem nest_zero (m : Nat) (rest : List UInt8) : nest 0 m rest = repL m bE ++ rest := by simp [nest, repL]
theorem op_deep (l : Lab) (b : Bool) (rest : List UInt8) (m : Nat) (hn : nameX l.1 = true) : opX 0 (opP l ++ endP b rest) m = .error 9 := by
  obtain ⟨c, r, e, hc⟩ : ∃ c r, l.2.1.flatMap attP ++ endP b rest = c :: r ∧ latX c = false := by
    cases hq : l.2.1 with
    | nil =>
      cases b with
      | true => exact ⟨47, _, rfl, by decide⟩
      | false => exact ⟨62, _, rfl, by decide⟩
    | cons a ts => exact ⟨32, _, by rw [List.flatMap_cons]; rfl, by decide⟩
  have e0 : opP l ++ endP b rest = 60 :: (l.1 ++ c :: r) := by
    unfold opP
    rw [List.cons_append, List.append_assoc, e]
  obtain ⟨h1, h2⟩ := tw_app l.1 c r (name_all hn) hc
  rw [e0]
  unfold opX
  simp only
  rw [h1, hn]
  simp
theorem op_many (lev : Nat) (l : Lab) (b : Bool) (rest : List UInt8) (m : Nat) (hn : nameX l.1 = true) (hl : lev ≠ 0) (hm : 4096 < m + 1) : opX lev (opP l ++ endP b rest) m = .error 3 := by
  obtain ⟨c, r, e, hc⟩ : ∃ c r, l.2.1.flatMap attP ++ endP b rest = c :: r ∧ latX c = false := by
    cases hq : l.2.1 with
    | nil =>
      cases b with
      | true => exact ⟨47, _, rfl, by decide⟩
      | false => exact ⟨62, _, rfl, by decide⟩
    | cons a ts => exact ⟨32, _, by rw [List.flatMap_cons]; rfl, by decide⟩
  have e0 : opP l ++ endP b rest = 60 :: (l.1 ++ c :: r) := by
    unfold opP
    rw [List.cons_append, List.append_assoc, e]
  obtain ⟨h1, h2⟩ := tw_app l.1 c r (name_all hn) hc
  rw [e0]
  unfold opX
  simp only
  rw [h1, hn]
  simp only [Bool.not_true, Bool.false_eq_true, if_false]
  rw [if_neg hl, if_pos hm]
theorem el_err {d lev : Nat} {l : List UInt8} {m e : Nat} (h : opX lev l m = .error e) : elX d lev l m = .error e := by
  cases d with
  | zero => simp only [elX]; rw [h]
  | succ d => simp only [elX]; rw [h]
/-- An element stands next. -/
theorem kid_el (d : Nat) (el : List UInt8 → Nat → Except Nat (Tr d × List UInt8 × Nat)) (f : Nat) (ks : List (Tr d)) (c : UInt8) (r : List UInt8) (m : Nat) (hc : letX c = true) :
    kidX d el (f + 1) ks (60 :: c :: r) m = (match el (60 :: c :: r) m with
      | .error e => .error e
      | .ok (t, l2, m2) => kidX d el f (ks ++ [t]) l2 m2) := by
  have hcl : latX c = true := by
    have := let_fin ⟨c.toNat, c.toNat_lt⟩
    simp only [UInt8.ofNat_toNat] at this
    exact this hc
  have hlo := lat_of hcl
  have h47 : (47 : UInt8) ≠ c := u8_neE (by show 47 ≠ c.toNat; omega)
  have h33 : (33 : UInt8) ≠ c := u8_neE (by show 33 ≠ c.toNat; omega)
  have h63 : (63 : UInt8) ≠ c := u8_neE (by show 63 ≠ c.toNat; omega)
  simp only [kidX]
  rw [pre_no (l := []) (p := [60, 47]) rfl h47, pre_no (l := []) (p := [60, 33, 45, 45]) rfl h33, pre_no (l := []) (p := [60, 63]) rfl h63, pre_no (l := []) (p := [60, 33, 91, 67, 68, 65, 84, 65, 91]) rfl h33]
  simp only [Bool.false_eq_true, if_false, Bool.or_self]
  rw [if_pos (by simp [preX, List.isPrefixOf])]
  all_goals rfl
theorem kid_end (d : Nat) (el : List UInt8 → Nat → Except Nat (Tr d × List UInt8 × Nat)) (f : Nat) (ks : List (Tr d)) (r : List UInt8) (m : Nat) : kidX d el (f + 1) ks (60 :: 47 :: r) m = .ok (ks, 60 :: 47 :: r, m) := by
  simp only [kidX]
  rw [if_pos (by simp [preX, List.isPrefixOf])]
def bT (d : Nat) : Tr d := leaf d ([98], [], [])
theorem bT_facts (d : Nat) : mayT d (bT d) = true ∧ (nmT d (bT d)).isEmpty = false ∧ deepT d (bT d) = 1 ∧ manyT d (bT d) = 1 ∧ printT d (bT d) = bE := by
  cases d with
  | zero => exact ⟨by decide +kernel, rfl, rfl, rfl, rfl⟩
  | succ d =>
    refine ⟨?_, rfl, rfl, rfl, rfl⟩
    simp [bT, leaf, mayT, mayTop, noAdj, show nameX [98] = true from by decide, show attsOk [] = true from by decide]
theorem el_b (d lev : Nat) (rest : List UInt8) (m : Nat) (hl : 1 ≤ lev) (hm : m + 1 ≤ 4096) : elX d lev (60 :: 98 :: 47 :: 62 :: rest) m = .ok (bT d, rest, m + 1) := by
  obtain ⟨h1, h2, h3, h4, h5⟩ := bT_facts d
  have := el_back d lev (bT d) rest m h1 h2 (by omega) (by omega)
  rw [h5, h4] at this
  exact this
theorem rep_b (m : Nat) (rest : List UInt8) : repL (m + 1) bE ++ rest = 60 :: 98 :: 47 :: 62 :: (repL m bE ++ rest) := by rw [repL_succ]; rfl
theorem kid_bs (d lev : Nat) (hl : 1 ≤ lev) (rest : List UInt8) : ∀ (m : Nat) (ks : List (Tr d)) (f cnt : Nat), m + 1 ≤ f → cnt + m ≤ 4096 → kidX d (elX d lev) f ks (repL m bE ++ 60 :: 47 :: rest) cnt = .ok (ks ++ List.replicate m (bT d), 60 :: 47 :: rest, cnt + m)
  | 0, ks, f, cnt, hf, hc => by
    obtain ⟨f, rfl⟩ : ∃ f', f = f' + 1 := ⟨f - 1, by omega⟩
    rw [repL_zero, List.nil_append, kid_end]; simp
  | m + 1, ks, f, cnt, hf, hc => by
    obtain ⟨f, rfl⟩ : ∃ f', f = f' + 1 := ⟨f - 1, by omega⟩
    rw [rep_b, kid_el d _ f ks 98 _ cnt (by decide), el_b d lev _ cnt hl (by omega)]
    simp only
    rw [kid_bs d lev hl rest m (ks ++ [bT d]) f (cnt + 1) (by omega) (by omega)]
    simp only [List.append_assoc, List.cons_append, List.nil_append, List.replicate_succ]
    rw [show cnt + 1 + m = cnt + (m + 1) from by omega]
theorem kid_many (d lev : Nat) (hl : 1 ≤ lev) (rest : List UInt8) : ∀ (m : Nat) (ks : List (Tr d)) (f cnt : Nat), m + 1 ≤ f → cnt ≤ 4096 → 4096 < cnt + m → kidX d (elX d lev) f ks (repL m bE ++ rest) cnt = .error 3
  | 0, ks, f, cnt, hf, h1, h2 => by omega
  | m + 1, ks, f, cnt, hf, h1, h2 => by
    obtain ⟨f, rfl⟩ : ∃ f', f = f' + 1 := ⟨f - 1, by omega⟩
    rw [rep_b, kid_el d _ f ks 98 _ cnt (by decide)]
    by_cases hc : cnt + 1 ≤ 4096
    · rw [el_b d lev _ cnt hl hc]
      simp only
      exact kid_many d lev hl rest m (ks ++ [bT d]) f (cnt + 1) (by omega) hc (by omega)
    · have he : elX d lev (60 :: 98 :: 47 :: 62 :: (repL m bE ++ rest)) cnt = .error 3 := el_err (op_many lev ([98], [], []) true (repL m bE ++ rest) cnt (by decide) (by omega) (by omega))
      rw [he]
theorem kid_deep0 (d : Nat) (rest : List UInt8) (m : Nat) (ks : List (Tr d)) (f cnt : Nat) (hf : 1 ≤ f) : kidX d (elX d 0) f ks (repL (m + 1) bE ++ rest) cnt = .error 9 := by
  obtain ⟨f, rfl⟩ : ∃ f', f = f' + 1 := ⟨f - 1, by omega⟩
  have he : elX d 0 (60 :: 98 :: 47 :: 62 :: (repL m bE ++ rest)) cnt = .error 9 := el_err (op_deep ([98], [], []) true (repL m bE ++ rest) cnt (by decide))
  rw [rep_b, kid_el d _ f ks 98 _ cnt (by decide), he]
theorem op_a (lev : Nat) (rest : List UInt8) (m : Nat) (hl : lev ≠ 0) (hm : m + 1 ≤ 4096) : opX lev (60 :: 97 :: 62 :: rest) m = .ok ([97], [], false, rest, m + 1) := op_back lev ([97], [], []) false rest m (by decide) (by decide) hl (by simpa using hm)
theorem nest_len (n m : Nat) (rest : List UInt8) : m ≤ (nest n m rest).length := by
  unfold nest
  rw [List.length_append, List.length_append, repL_len, repL_len]
  simp [bE]
  omega
theorem bs_facts (d m : Nat) : maxL ((List.replicate m (bT d)).map (deepT d)) ≤ 1 ∧ ((List.replicate m (bT d)).map (manyT d)).sum = m := by
  obtain ⟨_, _, h3, h4, _⟩ := bT_facts d
  rw [List.map_replicate, List.map_replicate, h3, h4]
  refine ⟨max_le (fun y hy => by rw [(List.mem_replicate.1 hy).2]; exact Nat.le_refl _), ?_⟩
  simp
/-- What may be. -/
theorem nest_ok (m : Nat) : ∀ (n d lev cnt : Nat) (rest : List UInt8), n + 1 ≤ d → n + 1 ≤ lev → (m = 0 ∨ n + 2 ≤ lev) → cnt + n + 1 + m ≤ 4096 →
    ∃ t, elX d lev (nest (n + 1) m rest) cnt = .ok (t, rest, cnt + n + 1 + m) ∧ (nmT d t).isEmpty = false ∧ deepT d t ≤ n + 2 ∧ manyT d t = n + 1 + m
  | 0, d + 1, lev, cnt, rest, hd, hl, hm, hc => by
    have hk : kidX d (elX d (lev - 1)) ((nest 0 m (60 :: 47 :: 97 :: 62 :: rest)).length + 1) [] (nest 0 m (60 :: 47 :: 97 :: 62 :: rest)) (cnt + 1) = .ok (List.replicate m (bT d), 60 :: 47 :: 97 :: 62 :: rest, cnt + 1 + m) := by
      have hln := nest_len 0 m (60 :: 47 :: 97 :: 62 :: rest)
      generalize (nest 0 m (60 :: 47 :: 97 :: 62 :: rest)).length = F at hln ⊢
      rw [nest_zero]
      rcases hm with h0 | h1
      · subst h0
        rw [repL_zero, List.nil_append, kid_end]; rfl
      · have := kid_bs d (lev - 1) (by omega) (97 :: 62 :: rest) m [] (F + 1) (cnt + 1) (by omega) (by omega)
        rw [List.nil_append] at this
        exact this
    obtain ⟨f1, f2⟩ := bs_facts d m
    refine ⟨(([97], [], []), List.replicate m (bT d)), ?_, rfl, ?_, ?_⟩
    · rw [nest_succ]
      simp only [elX]
      rw [op_a lev _ cnt (by omega) (by omega)]
      simp only
      rw [hk]
      simp only
      rw [show clX [97] (60 :: 47 :: 97 :: 62 :: rest) = some rest from cl_back [97] rest (by decide)]
    · show maxL ((List.replicate m (bT d)).map (deepT d)) + 1 ≤ 0 + 2
      omega
    · show 1 + 0 + ((List.replicate m (bT d)).map (manyT d)).sum = 0 + 1 + m
      omega
  | n + 1, d + 1, lev, cnt, rest, hd, hl, hm, hc => by
    obtain ⟨t, h1, h2, h3, h4⟩ := nest_ok m n d (lev - 1) (cnt + 1) (60 :: 47 :: 97 :: 62 :: rest) (by omega) (by omega) (by omega) (by omega)
    refine ⟨(([97], [], []), [t]), ?_, rfl, ?_, ?_⟩
    · rw [nest_succ]
      simp only [elX]
      rw [op_a lev _ cnt (by omega) (by omega)]
      simp only
      obtain ⟨g, hg⟩ : ∃ g, (nest (n + 1) m (60 :: 47 :: 97 :: 62 :: rest)).length = g + 1 := ⟨(nest (n + 1) m (60 :: 47 :: 97 :: 62 :: rest)).length - 1, by rw [nest_succ]; simp⟩
      have hk : kidX d (elX d (lev - 1)) ((nest (n + 1) m (60 :: 47 :: 97 :: 62 :: rest)).length + 1) [] (nest (n + 1) m (60 :: 47 :: 97 :: 62 :: rest)) (cnt + 1) = .ok ([t], 60 :: 47 :: 97 :: 62 :: rest, cnt + 1 + n + 1 + m) := by
        rw [hg]
        rw [nest_succ] at h1 ⊢
        rw [kid_el d _ (g + 1) [] 97 _ (cnt + 1) (by decide), h1]
        simp only
        rw [kid_end]; rfl
      rw [hk]
      simp only
      rw [show clX [97] (60 :: 47 :: 97 :: 62 :: rest) = some rest from cl_back [97] rest (by decide)]
      exact congrArg (fun x => (Except.ok (((([97], [], []), [t]) : Tr (d + 1)), rest, x) : Except Nat (Tr (d + 1) × List UInt8 × Nat))) (by omega)
    · show maxL [deepT d t] + 1 ≤ _
      have : maxL [deepT d t] = deepT d t := by simp [maxL]
      omega
    · show 1 + 0 + ([manyT d t]).sum = _
      simp
      omega
/-- Too deep. -/
theorem nest_deep (m : Nat) : ∀ (n d lev cnt : Nat) (rest : List UInt8), n + 1 ≤ d → (lev ≤ n ∨ (lev = n + 1 ∧ 0 < m)) → cnt + lev ≤ 4096 → elX d lev (nest (n + 1) m rest) cnt = .error 9
  | 0, d + 1, lev, cnt, rest, hd, hl, hc => by
    rw [nest_succ]
    by_cases h0 : lev = 0
    · subst h0
      exact el_err (op_deep ([97], [], []) false _ cnt (by decide))
    · obtain ⟨rfl, hm⟩ : lev = 1 ∧ 0 < m := by omega
      simp only [elX]
      rw [op_a 1 _ cnt (by omega) (by omega)]
      simp only
      obtain ⟨k, rfl⟩ : ∃ k, m = k + 1 := ⟨m - 1, by omega⟩
      rw [nest_zero, show (1 : Nat) - 1 = 0 from rfl, kid_deep0 d _ k [] _ _ (by omega)]
  | n + 1, d + 1, lev, cnt, rest, hd, hl, hc => by
    rw [nest_succ]
    by_cases h0 : lev = 0
    · subst h0
      exact el_err (op_deep ([97], [], []) false _ cnt (by decide))
    · have ih := nest_deep m n d (lev - 1) (cnt + 1) (60 :: 47 :: 97 :: 62 :: rest) (by omega) (by omega) (by omega)
      simp only [elX]
      rw [op_a lev _ cnt h0 (by omega)]
      simp only
      rw [nest_succ] at ih ⊢
      rw [kid_el d _ _ [] 97 _ (cnt + 1) (by decide), ih]
/-- Too many. -/
theorem nest_many (m : Nat) : ∀ (n d lev cnt : Nat) (rest : List UInt8), n + 1 ≤ d → n + 2 ≤ lev → cnt + n + 1 ≤ 4096 → 4096 < cnt + n + 1 + m → elX d lev (nest (n + 1) m rest) cnt = .error 3
  | 0, d + 1, lev, cnt, rest, hd, hl, hc, hm => by
    have hln := nest_len 0 m (60 :: 47 :: 97 :: 62 :: rest)
    rw [nest_succ]
    simp only [elX]
    rw [op_a lev _ cnt (by omega) (by omega)]
    simp only
    generalize (nest 0 m (60 :: 47 :: 97 :: 62 :: rest)).length = F at hln ⊢
    rw [nest_zero, kid_many d (lev - 1) (by omega) _ m [] (F + 1) (cnt + 1) (by omega) (by omega) (by omega)]
  | n + 1, d + 1, lev, cnt, rest, hd, hl, hc, hm => by
    have ih := nest_many m n d (lev - 1) (cnt + 1) (60 :: 47 :: 97 :: 62 :: rest) (by omega) (by omega) (by omega) (by omega)
    rw [nest_succ]
    simp only [elX]
    rw [op_a lev _ cnt (by omega) (by omega)]
    simp only
    rw [nest_succ] at ih ⊢
    rw [kid_el d _ _ [] 97 _ (cnt + 1) (by decide), ih]
theorem rep_mem {n : Nat} {l : List UInt8} {c : UInt8} (h : c ∈ repL n l) : c ∈ l := by
  unfold repL at h
  obtain ⟨x, hx, hc⟩ := List.mem_flatten.1 h
  rw [(List.mem_replicate.1 hx).2] at hc
  exact hc
theorem nest_mem {n m : Nat} {c : UInt8} (h : c ∈ nest n m []) : c.toNat < 128 ∧ xmlN c.toNat = true ∧ c ≠ 13 := by
  unfold nest at h
  have h3 : c ∈ aO ∨ c ∈ bE ∨ c ∈ aC := by
    rcases List.mem_append.1 h with h | h
    · exact .inl (rep_mem h)
    · rcases List.mem_append.1 h with h | h
      · exact .inr (.inl (rep_mem h))
      · rw [List.append_nil] at h
        exact .inr (.inr (rep_mem h))
  have key : ∀ c ∈ aO ++ (bE ++ aC), c.toNat < 128 ∧ xmlN c.toNat = true ∧ c ≠ 13 := by decide
  exact key c (by simp only [List.mem_append]; exact h3)
/-- The file is read as its element is. -/
theorem par_nest (n m : Nat) (hl : (nest (n + 1) m []).length ≤ 65536) : parX (nest (n + 1) m []) = (match elX 40 16 (nest (n + 1) m []) 0 with
    | .error e => .error e
    | .ok (t, l2, _) => (match asX true l2.length l2 with
      | .error e => .error e
      | .ok l3 => if l3.isEmpty then .ok t else .error 5)) := by
  have hX : X (nest (n + 1) m []) = true := by
    have := X_ascii (nest (n + 1) m []) [] (fun c hc => ⟨(nest_mem hc).1, (nest_mem hc).2.1⟩)
    rw [List.append_nil] at this
    rw [this]; exact X_nil
  have h13 : linE (nest (n + 1) m []) = nest (n + 1) m [] := linE_plain _ (fun c hc => (nest_mem hc).2.2)
  unfold parX
  rw [if_neg (by omega), hX, h13]
  simp only [Bool.not_true, Bool.false_eq_true, if_false]
  rw [show asX true (nest (n + 1) m []).length (nest (n + 1) m []) = .ok (nest (n + 1) m []) from by
    generalize (nest (n + 1) m []).length = F
    rw [nest_succ]
    exact as_none true 97 _ (by decide) F]
  simp only
  rw [show preX [60, 33, 68, 79, 67, 84, 89, 80, 69] (nest (n + 1) m []) = false from by rw [nest_succ]; exact pre_no (l := []) rfl (by decide) _]
  simp only [Bool.false_eq_true, if_false]
  all_goals rfl
/-- What XmlDeep asks, of a file of n + 1 elements within one another and m within the last. -/
theorem par_deep (n m : Nat) (hn : n ≤ 19) (hm : m ≤ 4199) : (16 < n + 1 → parX (nest (n + 1) m []) = .error 9) ∧ (n + 1 = 16 → 0 < m → parX (nest (n + 1) m []) = .error 9) ∧ (n + 1 ≤ 16 → ¬ (n + 1 = 16 ∧ 0 < m) → 4096 < n + 1 + m → parX (nest (n + 1) m []) = .error 3) ∧ (n + 1 ≤ 16 → ¬ (n + 1 = 16 ∧ 0 < m) → n + 1 + m ≤ 4096 → ∃ t, parX (nest (n + 1) m []) = .ok t ∧ deepT 40 t ≤ n + 2 ∧ manyT 40 t = n + 1 + m) := by
  have hl : (nest (n + 1) m []).length ≤ 65536 := by
    unfold nest
    rw [List.length_append, List.length_append, List.length_append, repL_len, repL_len, repL_len]
    simp [aO, aC, bE]
    omega
  have hp := par_nest n m hl
  refine ⟨fun h => ?_, fun h h2 => ?_, fun h h2 h3 => ?_, fun h h2 h3 => ?_⟩
  · rw [hp, nest_deep m n 40 16 0 [] (by omega) (by omega) (by omega)]
  · rw [hp, nest_deep m n 40 16 0 [] (by omega) (by omega) (by omega)]
  · rw [hp, nest_many m n 40 16 0 [] (by omega) (by omega) (by omega) (by omega)]
  · obtain ⟨t, h4, _, h5, h6⟩ := nest_ok m n 40 16 0 [] (by omega) (by omega) (by omega) (by omega)
    refine ⟨t, ?_, h5, h6⟩
    rw [hp, h4]
    simp [asX]
end Go.Proofs.YtlgkbdebpnbndaaGreatDoor
namespace Go.Proofs.YtlgkbdebpnbndaaGreatDoor
set_option linter.unusedVariables false
set_option linter.unusedSimpArgs false

/-- A part at the end, and shorter. -/
def Sh (a l : List UInt8) : Prop := a <:+ l ∧ a.length < l.length
theorem Sh.le {a l : List UInt8} (h : Sh a l) {b : List UInt8} (k : l <:+ b) : Sh a b := ⟨h.1.trans k, Nat.lt_of_lt_of_le h.2 k.length_le⟩
theorem Sh.of {a l b : List UInt8} (h : a <:+ l) (k : Sh l b) : Sh a b := ⟨h.trans k.1, Nat.lt_of_le_of_lt h.length_le k.2⟩
theorem sh_cons (c : UInt8) (r : List UInt8) : Sh r (c :: r) := ⟨List.suffix_cons c r, by simp⟩
theorem unt_sh {p l a b : List UInt8} (hp : p ≠ []) (h : untX p l = some (a, b)) : Sh b l := by
  have e := unt_some p hp l a b h
  have : 0 < p.length := List.length_pos_iff.2 hp
  exact ⟨⟨a ++ p, by rw [e, List.append_assoc]⟩, by rw [e]; simp; omega⟩
theorem dw_suf (p : UInt8 → Bool) (l : List UInt8) : l.dropWhile p <:+ l := List.dropWhile_suffix p
theorem pre_cons {a : UInt8} {p l : List UInt8} (h : preX (a :: p) l = true) : ∃ r, l = a :: r ∧ preX p r = true := by
  cases l with
  | nil => simp [preX] at h
  | cons c r =>
    unfold preX at h ⊢
    rw [List.isPrefixOf, Bool.and_eq_true, beq_iff_eq] at h
    exact ⟨r, by rw [h.1], h.2⟩
theorem pre_drop {p l : List UInt8} (h : preX p l = true) (hp : p ≠ []) : Sh (l.drop p.length) l := by
  have h1 : p <+: l := List.isPrefixOf_iff_prefix.1 h
  have h2 := h1.length_le
  have : 0 < p.length := List.length_pos_iff.2 hp
  exact ⟨List.drop_suffix _ _, by rw [List.length_drop]; omega⟩
/-! Comments and notes. -/
theorem as_sh (all : Bool) : ∀ (f : Nat) (l l2 : List UInt8), asX all f l = .ok l2 → l2 <:+ l
  | 0, l, l2, h => by
    unfold asX at h
    injection h with h
    rw [h]; exact List.suffix_refl _
  | f + 1, l, l2, h => by
    rw [asX] at h
    split at h
    · split at h
      · cases h
      · rename_i q hq
        exact (as_sh all f q.2 l2 h).trans ((unt_sh (by simp) hq).1.trans (List.drop_suffix _ _))
    · split at h
      · split at h
        · cases h
        · rename_i q hq
          exact (as_sh all f q.2 l2 h).trans ((unt_sh (by simp) hq).1.trans (List.drop_suffix _ _))
      · split at h
        · exact (as_sh all f _ l2 h).trans (dw_suf _ _)
        · injection h with h
          rw [h]; exact List.suffix_refl _
theorem hd_dw {l : List UInt8} (h : hdW l = true) : Sh (l.dropWhile whX) l := by
  cases l with
  | nil => simp [hdW] at h
  | cons c r =>
    have hc : whX c = true := h
    rw [List.dropWhile_cons, hc]
    exact Sh.of (dw_suf _ _) (sh_cons c r)
theorem as_fuel (all : Bool) : ∀ (n f g : Nat) (l : List UInt8), l.length ≤ n → l.length ≤ f → l.length ≤ g → asX all f l = asX all g l := by
  intro n
  induction n with
  | zero =>
    intro f g l h0 _ _
    have : l = [] := List.length_eq_zero_iff.1 (by omega)
    subst this
    have : ∀ k, asX all k [] = .ok [] := fun k => by cases k <;> simp [asX, preX, hdW]
    rw [this, this]
  | succ n ih =>
    intro f g l h0 hf hg
    by_cases hn : l.length = 0
    · have : l = [] := List.length_eq_zero_iff.1 hn
      subst this
      have : ∀ k, asX all k [] = .ok [] := fun k => by cases k <;> simp [asX, preX, hdW]
      rw [this, this]
    obtain ⟨f, rfl⟩ : ∃ f', f = f' + 1 := ⟨f - 1, by omega⟩
    obtain ⟨g, rfl⟩ : ∃ g', g = g' + 1 := ⟨g - 1, by omega⟩
    rw [asX, asX]
    have key : ∀ b, Sh b l → asX all f b = asX all g b := fun b hb => ih f g b (by have := hb.2; omega) (by have := hb.2; omega) (by have := hb.2; omega)
    split
    · rename_i h1
      split
      · rfl
      · rename_i q hq
        exact key _ ((unt_sh (by simp) hq).le (List.drop_suffix _ _))
    · split
      · split
        · rfl
        · rename_i q hq
          exact key _ ((unt_sh (by simp) hq).le (List.drop_suffix _ _))
      · split
        · rename_i h3
          rw [Bool.and_eq_true] at h3
          exact key _ (hd_dw h3.2)
        · rfl
/-- White, comments and notes. -/
def asW (all : Bool) (l : List UInt8) : Except Nat (List UInt8) := asX all l.length l
theorem asW_of (all : Bool) (f : Nat) (l : List UInt8) (h : l.length ≤ f) : asX all f l = asW all l := as_fuel all l.length f l.length l (Nat.le_refl _) h (Nat.le_refl _)
theorem asW_c (all : Bool) {l : List UInt8} (h : preX [60, 33, 45, 45] l = true) : asW all l = (match untX [45, 45, 62] (l.drop 4) with
    | none => .error 5
    | some q => asW all q.2) := by
  have hs := pre_drop h (by simp)
  rw [← asW_of all (l.length + 1) l (by omega), asX, if_pos h]
  cases hu : untX [45, 45, 62] (l.drop 4) with
  | none => rfl
  | some q => exact asW_of all _ _ (by have := ((unt_sh (by simp) hu).le (List.drop_suffix 4 l)).2; omega)
theorem asW_n (all : Bool) {l : List UInt8} (h0 : preX [60, 33, 45, 45] l = false) (h : preX [60, 63] l = true) : asW all l = (match untX [63, 62] (l.drop 2) with
    | none => .error 5
    | some q => asW all q.2) := by
  rw [← asW_of all (l.length + 1) l (by omega), asX, if_neg (by rw [h0]; simp), if_pos h]
  cases hu : untX [63, 62] (l.drop 2) with
  | none => rfl
  | some q => exact asW_of all _ _ (by have := ((unt_sh (by simp) hu).le (List.drop_suffix 2 l)).2; omega)
theorem asW_w {l : List UInt8} (h0 : preX [60, 33, 45, 45] l = false) (h1 : preX [60, 63] l = false) (h : hdW l = true) : asW true l = asW true (l.dropWhile whX) := by
  have hs := hd_dw h
  rw [← asW_of true (l.length + 1) l (by omega), asX, if_neg (by rw [h0]; simp), if_neg (by rw [h1]; simp), if_pos (by rw [h]; rfl)]
  exact asW_of true _ _ (by have := hs.2; omega)
theorem asW_ok (all : Bool) {l : List UInt8} (h0 : preX [60, 33, 45, 45] l = false) (h1 : preX [60, 63] l = false) (h : (all && hdW l) = false) : asW all l = .ok l := by
  rw [← asW_of all (l.length + 1) l (by omega), asX, if_neg (by rw [h0]; simp), if_neg (by rw [h1]; simp), if_neg (by rw [h]; simp)]
/-! Attributes, a tag. -/
theorem att_sh {as : List HdV} {l : List UInt8} {m : Nat} {a : HdV} {l2 : List UInt8} {m2 : Nat} (h : attX as l m = .ok (a, l2, m2)) : Sh l2 l ∧ m2 = m + 1 ∧ m + 1 ≤ 4096 := by
  unfold attX at h
  split at h
  · cases h
  · split at h
    · rename_i r hr
      split at h
      · rename_i q r2 hr2
        split at h
        · split at h
          · cases h
          · rename_i p hp
            split at h
            · cases h
            · split at h
              · cases h
              · split at h
                · cases h
                · split at h
                  · rename_i hm
                    injection h with h
                    injection h with h1 h2
                    injection h2 with h2 h3
                    refine ⟨?_, h3.symm, hm⟩
                    rw [← h2]
                    have s1 := unt_sh (by simp) hp
                    have s2 : r2 <:+ r := (List.suffix_cons q r2).trans (by rw [← hr2]; exact dw_suf _ _)
                    have s3 : r <:+ l := (List.suffix_cons 61 r).trans (by rw [← hr]; exact (dw_suf _ _).trans (dw_suf _ _))
                    exact s1.le (s2.trans s3)
                  · cases h
        · cases h
      · cases h
    · cases h
theorem ats_sh : ∀ (f : Nat) (as : List HdV) (l : List UInt8) (m : Nat) (as2 : List HdV) (b : Bool) (l2 : List UInt8) (m2 : Nat), atsX f as l m = .ok (as2, b, l2, m2) → Sh l2 l ∧ m ≤ m2 ∧ (m ≤ 4096 → m2 ≤ 4096)
  | 0, as, l, m, as2, b, l2, m2, h => by simp [atsX] at h
  | f + 1, as, l, m, as2, b, l2, m2, h => by
    rw [atsX] at h
    split at h
    · rename_i hp
      injection h with h
      injection h with h1 h2
      injection h2 with h2 h3
      injection h3 with h3 h4
      subst h3 h4
      exact ⟨(pre_drop hp (by simp)).le (dw_suf _ _), Nat.le_refl _, id⟩
    · split at h
      · rename_i hp
        injection h with h
        injection h with h1 h2
        injection h2 with h2 h3
        injection h3 with h3 h4
        subst h3 h4
        exact ⟨(pre_drop hp (by simp)).le (dw_suf _ _), Nat.le_refl _, id⟩
      · split at h
        · cases h
        · split at h
          · cases h
          · rename_i a la ma ha
            obtain ⟨h1, rfl, h3⟩ := att_sh ha
            obtain ⟨k1, k2, k3⟩ := ats_sh f _ _ _ _ _ _ _ h
            exact ⟨k1.le (h1.1.trans (dw_suf _ _)), by omega, fun _ => k3 h3⟩
theorem ats_fuel : ∀ (n f g : Nat) (as : List HdV) (l : List UInt8) (m : Nat), l.length ≤ n → l.length + 1 ≤ f → l.length + 1 ≤ g → atsX f as l m = atsX g as l m := by
  intro n
  induction n with
  | zero =>
    intro f g as l m h0 hf hg
    have : l = [] := List.length_eq_zero_iff.1 (by omega)
    subst this
    obtain ⟨f, rfl⟩ : ∃ f', f = f' + 1 := ⟨f - 1, by omega⟩
    obtain ⟨g, rfl⟩ : ∃ g', g = g' + 1 := ⟨g - 1, by omega⟩
    simp [atsX, preX]
  | succ n ih =>
    intro f g as l m h0 hf hg
    obtain ⟨f, rfl⟩ : ∃ f', f = f' + 1 := ⟨f - 1, by omega⟩
    obtain ⟨g, rfl⟩ : ∃ g', g = g' + 1 := ⟨g - 1, by omega⟩
    rw [atsX, atsX]
    split
    · rfl
    · split
      · rfl
      · split
        · rfl
        · split
          · rfl
          · rename_i a la ma ha
            have hs := (att_sh ha).1.le (dw_suf whX l)
            have := hs.2
            exact ih f g _ _ _ (by omega) (by omega) (by omega)
theorem op_sh {lev : Nat} {l : List UInt8} {m : Nat} {n : List UInt8} {as : List HdV} {b : Bool} {l2 : List UInt8} {m2 : Nat} (h : opX lev l m = .ok (n, as, b, l2, m2)) : Sh l2 l ∧ m < m2 ∧ m2 ≤ 4096 ∧ nameX n = true ∧ lev ≠ 0 := by
  unfold opX at h
  split at h
  · rename_i r
    split at h
    · cases h
    · rename_i hn
      split at h
      · cases h
      · rename_i hlev
        split at h
        · cases h
        · rename_i hm
          split at h
          · cases h
          · rename_i as' b' l' m' ha
            injection h with h
            injection h with h1 h2
            injection h2 with h2 h3
            injection h3 with h3 h4
            injection h4 with h4 h5
            subst h1 h2 h3 h4 h5
            obtain ⟨k1, k2, k3⟩ := ats_sh _ _ _ _ _ _ _ _ ha
            exact ⟨k1.le ((dw_suf _ _).trans (List.suffix_cons 60 r)), by omega, k3 (by omega), by simpa using hn, hlev⟩
  · cases h
/-! What is within. -/
/-- What is read as an element gets shorter. -/
def Shrinks {α : Type} (el : List UInt8 → Nat → Except Nat (α × List UInt8 × Nat)) : Prop := ∀ l m t l2 m2, m ≤ 4096 → el l m = .ok (t, l2, m2) → Sh l2 l ∧ m2 ≤ 4096
theorem say_le {d : Nat} {ks : List (Tr d)} {s : List UInt8} {m : Nat} {ks2 : List (Tr d)} {m2 : Nat} (h : sayX d ks s m = .ok (ks2, m2)) (hm : m ≤ 4096) : m2 ≤ 4096 := by
  unfold sayX at h
  split at h
  · injection h with h; injection h with h1 h2; omega
  · split at h
    · split at h
      · injection h with h; injection h with h1 h2; omega
      · split at h
        · injection h with h; injection h with h1 h2; omega
        · cases h
    · split at h
      · injection h with h; injection h with h1 h2; omega
      · cases h
theorem kid_sh {d : Nat} {el : List UInt8 → Nat → Except Nat (Tr d × List UInt8 × Nat)} (hel : Shrinks el) : ∀ (f : Nat) (ks : List (Tr d)) (l : List UInt8) (m : Nat) (ks2 : List (Tr d)) (l2 : List UInt8) (m2 : Nat), m ≤ 4096 → kidX d el f ks l m = .ok (ks2, l2, m2) → l2 <:+ l ∧ m2 ≤ 4096 ∧ preX [60, 47] l2 = true
  | 0, ks, l, m, ks2, l2, m2, _, h => by simp [kidX] at h
  | f + 1, ks, l, m, ks2, l2, m2, hm, h => by
    rw [kidX] at h
    split at h
    · rename_i hp
      injection h with h
      injection h with h1 h2
      injection h2 with h2 h3
      subst h2 h3
      exact ⟨List.suffix_refl _, hm, hp⟩
    · split at h
      · split at h
        · cases h
        · rename_i l3 ha
          obtain ⟨k1, k2, k3⟩ := kid_sh hel f _ _ _ _ _ _ hm h
          exact ⟨k1.trans (as_sh _ _ _ _ ha), k2, k3⟩
      · split at h
        · split at h
          · cases h
          · rename_i q hq
            split at h
            · cases h
            · rename_i ks3 m3 hs
              obtain ⟨k1, k2, k3⟩ := kid_sh hel f _ _ _ _ _ _ (say_le hs hm) h
              exact ⟨k1.trans ((unt_sh (by simp) hq).1.trans (List.drop_suffix _ _)), k2, k3⟩
        · split at h
          · split at h
            · cases h
            · rename_i t l3 m3 he
              obtain ⟨e1, e2⟩ := hel _ _ _ _ _ hm he
              obtain ⟨k1, k2, k3⟩ := kid_sh hel f _ _ _ _ _ _ e2 h
              exact ⟨k1.trans e1.1, k2, k3⟩
          · split at h
            · cases h
            · split at h
              · cases h
              · split at h
                · cases h
                · rename_i ks3 m3 hs
                  obtain ⟨k1, k2, k3⟩ := kid_sh hel f _ _ _ _ _ _ (say_le hs hm) h
                  exact ⟨k1.trans (dw_suf _ _), k2, k3⟩
theorem cl_sh {n l r : List UInt8} (h : clX n l = some r) : r <:+ l := by
  unfold clX at h
  split at h
  · split at h
    · rename_i r' hr
      injection h with h
      subst h
      exact (List.suffix_cons 62 r').trans (by rw [← hr]; exact (dw_suf _ _).trans ((dw_suf _ _).trans (List.drop_suffix _ _)))
    · cases h
  · cases h
theorem el_sh : ∀ (d lev : Nat), Shrinks (elX d lev)
  | 0, lev, l, m, t, l2, m2, hm, h => by
    unfold elX at h
    split at h
    · cases h
    · rename_i ho
      injection h with h
      injection h with h1 h2
      injection h2 with h2 h3
      subst h2 h3
      have := op_sh ho
      exact ⟨this.1, this.2.2.1⟩
    · cases h
  | d + 1, lev, l, m, t, l2, m2, hm, h => by
    unfold elX at h
    split at h
    · cases h
    · rename_i ho
      injection h with h
      injection h with h1 h2
      injection h2 with h2 h3
      subst h2 h3
      have := op_sh ho
      exact ⟨this.1, this.2.2.1⟩
    · rename_i ho
      split at h
      · cases h
      · rename_i ks l3 m3 hk
        split at h
        · cases h
        · rename_i r hc
          injection h with h
          injection h with h1 h2
          injection h2 with h2 h3
          subst h2 h3
          obtain ⟨o1, o2, o3, _⟩ := op_sh ho
          obtain ⟨k1, k2, _⟩ := kid_sh (el_sh d (lev - 1)) _ _ _ _ _ _ _ o3 hk
          exact ⟨Sh.of ((cl_sh hc).trans k1) o1, k2⟩
theorem kid_fuel {d : Nat} {el : List UInt8 → Nat → Except Nat (Tr d × List UInt8 × Nat)} (hel : Shrinks el) : ∀ (n f g : Nat) (ks : List (Tr d)) (l : List UInt8) (m : Nat), m ≤ 4096 → l.length ≤ n → l.length + 1 ≤ f → l.length + 1 ≤ g → kidX d el f ks l m = kidX d el g ks l m := by
  intro n
  induction n with
  | zero =>
    intro f g ks l m hm h0 hf hg
    have : l = [] := List.length_eq_zero_iff.1 (by omega)
    subst this
    obtain ⟨f, rfl⟩ : ∃ f', f = f' + 1 := ⟨f - 1, by omega⟩
    obtain ⟨g, rfl⟩ : ∃ g', g = g' + 1 := ⟨g - 1, by omega⟩
    simp [kidX, preX]
  | succ n ih =>
    intro f g ks l m hm h0 hf hg
    obtain ⟨f, rfl⟩ : ∃ f', f = f' + 1 := ⟨f - 1, by omega⟩
    obtain ⟨g, rfl⟩ : ∃ g', g = g' + 1 := ⟨g - 1, by omega⟩
    have key : ∀ ks b m, m ≤ 4096 → Sh b l → kidX d el f ks b m = kidX d el g ks b m := fun ks b m hm hb => ih f g ks b m hm (by have := hb.2; omega) (by have := hb.2; omega) (by have := hb.2; omega)
    rw [kidX, kidX]
    split
    · rfl
    · split
      · rename_i hp
        split
        · rfl
        · rename_i l2 ha
          refine key _ _ _ hm ?_
          have ha' : asW false l = .ok l2 := ha
          cases hc : preX [60, 33, 45, 45] l with
          | true =>
            rw [asW_c false hc] at ha'
            split at ha'
            · cases ha'
            · rename_i q hq
              exact Sh.of (as_sh _ _ _ _ ha') ((unt_sh (by simp) hq).le (List.drop_suffix _ _))
          | false =>
            rw [hc, Bool.false_or] at hp
            rw [asW_n false hc hp] at ha'
            split at ha'
            · cases ha'
            · rename_i q hq
              exact Sh.of (as_sh _ _ _ _ ha') ((unt_sh (by simp) hq).le (List.drop_suffix _ _))
      · split
        · split
          · rfl
          · rename_i q hq
            split
            · rfl
            · rename_i ks3 m3 hs
              exact key _ _ _ (say_le hs hm) ((unt_sh (by simp) hq).le (List.drop_suffix _ _))
        · split
          · split
            · rfl
            · rename_i t l3 m3 he
              obtain ⟨e1, e2⟩ := hel _ _ _ _ _ hm he
              exact key _ _ _ e2 e1
          · rename_i h60
            split
            · rfl
            · rename_i hne
              split
              · rfl
              · split
                · rfl
                · rename_i ks3 m3 hs
                  refine key _ _ _ (say_le hs hm) ⟨dw_suf _ _, ?_⟩
                  cases l with
                  | nil => simp at hne
                  | cons c r =>
                    have hc : (c != 60) = true := by
                      rw [bne_iff_ne]
                      intro e
                      subst e
                      exact h60 (by simp [preX])
                    rw [List.dropWhile_cons, hc]
                    exact (Sh.of (dw_suf _ _) (sh_cons c r)).2
/-- What is within, read on. -/
def kidW (d : Nat) (el : List UInt8 → Nat → Except Nat (Tr d × List UInt8 × Nat)) (ks : List (Tr d)) (l : List UInt8) (m : Nat) := kidX d el (l.length + 1) ks l m
end Go.Proofs.YtlgkbdebpnbndaaGreatDoor
namespace Go.Proofs.YtlgkbdebpnbndaaGreatDoor
set_option linter.unusedVariables false
set_option linter.unusedSimpArgs false

def passX (p l : List UInt8) : List UInt8 := if preX p l then l.drop p.length else l
theorem pass_yes {p l : List UInt8} (h : preX p l = true) : passX p l = l.drop p.length := if_pos h
theorem pass_no {p l : List UInt8} (h : preX p l = false) : passX p l = l := if_neg (by rw [h]; simp)
theorem pass_suf (p l : List UInt8) : passX p l <:+ l := by
  unfold passX
  split
  · exact List.drop_suffix _ _
  · exact List.suffix_refl _
/-- Does a comment or a note stand here? -/
def atAs (l : List UInt8) : Bool := preX [60, 33, 45, 45] l || preX [60, 63] l
/-- What is behind it; none: it does not end. -/
def asideX (l : List UInt8) : Option (List UInt8) :=
  if preX [60, 33, 45, 45] l then (untX [45, 45, 62] (l.drop 4)).map (·.2) else (untX [63, 62] (passX [60, 63] l)).map (·.2)
theorem aside_sh {l b : List UInt8} (ha : asideX l = some b) : Sh b l := by
  unfold asideX at ha
  split at ha
  · obtain ⟨q, hq, rfl⟩ := Option.map_eq_some_iff.1 ha
    exact (unt_sh (by simp) hq).le (List.drop_suffix _ _)
  · obtain ⟨q, hq, rfl⟩ := Option.map_eq_some_iff.1 ha
    exact (unt_sh (by simp) hq).le (pass_suf _ _)
theorem asW_at (all : Bool) {l : List UInt8} (h : atAs l = true) : asW all l = (match asideX l with
    | none => .error 5
    | some b => asW all b) := by
  unfold asideX
  cases hc : preX [60, 33, 45, 45] l with
  | true =>
    rw [asW_c all hc, if_pos rfl]
    cases untX [45, 45, 62] (l.drop 4) <;> rfl
  | false =>
    have hn : preX [60, 63] l = true := by unfold atAs at h; rw [hc, Bool.false_or] at h; exact h
    have e2 : passX [60, 63] l = l.drop 2 := pass_yes hn
    rw [asW_n all hc hn, if_neg (by simp), e2]
    cases untX [63, 62] (l.drop 2) <;> rfl
theorem as_pre {l : List UInt8} (h : atAs l = false) : preX [60, 33, 45, 45] l = false ∧ preX [60, 63] l = false := by
  unfold atAs at h
  rw [Bool.or_eq_false_iff] at h
  exact h
/-- White at the front or none: the same. -/
theorem asW_white (l : List UInt8) : asW true (l.dropWhile whX) = asW true l := by
  cases h : hdW l with
  | true =>
    cases l with
    | nil => rfl
    | cons c r =>
      have hc : whX c = true := h
      have hn : c ≠ 60 := fun e => by subst e; simp [whX] at hc
      have h0 : preX [60, 33, 45, 45] (c :: r) = false := pre_not ⟨_, rfl⟩ hn
      have h1 : preX [60, 63] (c :: r) = false := pre_not ⟨_, rfl⟩ hn
      exact (asW_w h0 h1 h).symm
  | false =>
    cases l with
    | nil => rfl
    | cons c r =>
      have hc : whX c = false := h
      rw [List.dropWhile_cons, hc]
      rfl
theorem dw_hd (l : List UInt8) : hdW (l.dropWhile whX) = false := by
  induction l with
  | nil => rfl
  | cons c r ih =>
    rw [List.dropWhile_cons]
    cases hc : whX c with
    | true => exact ih
    | false => exact hc
theorem end_no {l : List UInt8} (h : atAs l = true) : preX [60, 47] l = false := by
  cases he : preX [60, 47] l with
  | false => rfl
  | true =>
    obtain ⟨r, rfl, h2⟩ := pre_cons he
    obtain ⟨r, rfl, _⟩ := pre_cons h2
    simp [atAs, preX, List.isPrefixOf] at h
section
variable {d : Nat} {el : List UInt8 → Nat → Except Nat (Tr d × List UInt8 × Nat)}
theorem kidW_of (hel : Shrinks el) (f : Nat) (ks : List (Tr d)) (l : List UInt8) (m : Nat) (hm : m ≤ 4096) (hf : l.length + 1 ≤ f) : kidX d el f ks l m = kidW d el ks l m := kid_fuel hel l.length f (l.length + 1) ks l m hm (Nat.le_refl _) hf (Nat.le_refl _)
theorem kidW_end (ks : List (Tr d)) (l : List UInt8) (m : Nat) (h : preX [60, 47] l = true) : kidW d el ks l m = .ok (ks, l, m) := by
  unfold kidW
  rw [kidX, if_pos h]
theorem kid_skip (hel : Shrinks el) (ks : List (Tr d)) (f : Nat) (b : List UInt8) (m : Nat) (hm : m ≤ 4096) (hf : b.length + 1 ≤ f) : (match asW false b with
    | .error e => .error e
    | .ok l2 => kidX d el f ks l2 m) = kidW d el ks b m := by
  cases h : atAs b with
  | false =>
    obtain ⟨h0, h1⟩ := as_pre h
    rw [asW_ok false h0 h1 rfl]
    exact kidW_of hel f ks b m hm hf
  | true =>
    have he := end_no h
    unfold kidW
    rw [kidX, if_neg (by rw [he]; simp), if_pos (by unfold atAs at h; exact h)]
    show _ = match asW false b with | .error e => _ | .ok l2 => _
    cases ha : asW false b with
    | error e => rfl
    | ok l2 =>
      have hs : Sh l2 b := by
        rw [asW_at false h] at ha
        split at ha
        · cases ha
        · rename_i c hc
          exact Sh.of (as_sh _ _ _ _ ha) (aside_sh hc)
      have := hs.2
      exact (kidW_of hel f ks l2 m hm (by omega)).trans (kidW_of hel b.length ks l2 m hm (by omega)).symm
theorem kidW_as (hel : Shrinks el) (ks : List (Tr d)) (l : List UInt8) (m : Nat) (hm : m ≤ 4096) (h : atAs l = true) : kidW d el ks l m = (match asideX l with
    | none => .error 5
    | some b => kidW d el ks b m) := by
  have he := end_no h
  rw [← kid_skip hel ks (l.length + 1) l m hm (Nat.le_refl _), asW_at false h]
  cases ha : asideX l with
  | none => rfl
  | some b => exact kid_skip hel ks (l.length + 1) b m hm (by have := (aside_sh ha).2; omega)
theorem kidW_el (hel : Shrinks el) (ks : List (Tr d)) (l : List UInt8) (m : Nat) (hm : m ≤ 4096) (h0 : preX [60, 47] l = false) (h1 : atAs l = false) (h2 : preX [60, 33, 91, 67, 68, 65, 84, 65, 91] l = false) (h3 : preX [60] l = true) : kidW d el ks l m = (match el l m with
    | .error e => .error e
    | .ok (t, l2, m2) => kidW d el (ks ++ [t]) l2 m2) := by
  unfold atAs at h1
  conv => lhs; unfold kidW
  rw [kidX, if_neg (by rw [h0]; simp), if_neg (by rw [h1]; simp), if_neg (by rw [h2]; simp), if_pos h3]
  cases he : el l m with
  | error e => rfl
  | ok q =>
    obtain ⟨t, l2, m2⟩ := q
    obtain ⟨e1, e2⟩ := hel _ _ _ _ _ hm he
    exact kidW_of hel _ _ _ _ e2 (by have := e1.2; omega)
/-- A piece of a text. -/
def pieceX (l : List UInt8) : Except Nat (List UInt8 × List UInt8) :=
  if preX [60, 33, 91, 67, 68, 65, 84, 65, 91] l then (match untX [93, 93, 62] (l.drop 9) with
    | none => .error 5
    | some q => .ok q)
  else if (untX [93, 93, 62] (l.takeWhile (· != 60))).isSome || (l.dropWhile (· != 60)).isEmpty then .error 5
  else (match unA (l.takeWhile (· != 60)) with
    | none => .error 5
    | some s => .ok (s, l.dropWhile (· != 60)))
theorem kidW_piece (hel : Shrinks el) (ks : List (Tr d)) (l : List UInt8) (m : Nat) (hm : m ≤ 4096) (h0 : preX [60, 47] l = false) (h1 : atAs l = false) (h2 : preX [60, 33, 91, 67, 68, 65, 84, 65, 91] l = true ∨ preX [60] l = false) : kidW d el ks l m = (match pieceX l with
    | .error e => .error e
    | .ok (s, l2) => (match sayX d ks s m with
      | .error e => .error e
      | .ok (ks2, m2) => kidW d el ks2 l2 m2)) := by
  unfold atAs at h1
  conv => lhs; unfold kidW
  rw [kidX, if_neg (by rw [h0]; simp), if_neg (by rw [h1]; simp)]
  unfold pieceX
  cases hr : preX [60, 33, 91, 67, 68, 65, 84, 65, 91] l with
  | true =>
    rw [if_pos rfl, if_pos rfl]
    cases hu : untX [93, 93, 62] (l.drop 9) with
    | none => rfl
    | some q =>
      obtain ⟨a, b⟩ := q
      simp only
      cases hs : sayX d ks a m with
      | error e => rfl
      | ok q2 =>
        obtain ⟨ks2, m2⟩ := q2
        exact kidW_of hel _ _ _ _ (say_le hs hm) (by have := ((unt_sh (by simp) hu).le (List.drop_suffix 9 l)).2; omega)
  | false =>
    have h3 := h2.resolve_left (by rw [hr]; simp)
    simp only [Bool.false_eq_true, if_false, h3]
    by_cases hne : ((untX [93, 93, 62] (l.takeWhile (· != 60))).isSome || (l.dropWhile (· != 60)).isEmpty) = true
    · rw [if_pos hne, if_pos hne]
    · rw [if_neg hne, if_neg hne]
      cases hu : unA (l.takeWhile (· != 60)) with
      | none => rfl
      | some s =>
        simp only
        cases hs : sayX d ks s m with
        | error e => rfl
        | ok q2 =>
          obtain ⟨ks2, m2⟩ := q2
          refine kidW_of hel _ _ _ _ (say_le hs hm) ?_
          cases l with
          | nil => simp at hne
          | cons c r =>
            have hc : (c != 60) = true := by
              rw [bne_iff_ne]
              intro e
              subst e
              simp [preX] at h3
            rw [List.dropWhile_cons, hc]
            have := (Sh.of (dw_suf (· != 60) r) (sh_cons c r)).2
            exact this
end
theorem piece_sh {l s l2 : List UInt8} (h : pieceX l = .ok (s, l2)) : l2 <:+ l := by
  unfold pieceX at h
  split at h
  · split at h
    · cases h
    · rename_i q hq
      injection h with h
      subst h
      exact (unt_sh (by simp) hq).1.trans (List.drop_suffix _ _)
  · split at h
    · cases h
    · split at h
      · cases h
      · injection h with h
        injection h with h1 h2
        rw [← h2]
        exact dw_suf _ _
/-- The text that is under way, as a kid. -/
def pend (d : Nat) (ws : List UInt8) : List (Tr d) := if ws.isEmpty then [] else [leaf d ([], [], ws)]
theorem say_pend (d : Nat) (kd : List (Tr d)) (ws s : List UInt8) (m : Nat) (hk : lastB d kd = false) : sayX d (kd ++ pend d ws) s m =
    if s.isEmpty then .ok (kd ++ pend d ws, m) else if !ws.isEmpty then .ok (kd ++ pend d (ws ++ s), m) else if m + 1 ≤ 4096 then .ok (kd ++ pend d s, m + 1) else .error 3 := by
  cases hs : s.isEmpty with
  | true => unfold sayX; rw [hs]; rfl
  | false =>
    have hs' : s ≠ [] := by intro e; subst e; simp at hs
    cases hw : ws.isEmpty with
    | true =>
      have e : pend d ws = [] := by unfold pend; rw [hw]; rfl
      rw [e, List.append_nil]
      have e2 : pend d s = [leaf d ([], [], s)] := by unfold pend; rw [hs]; rfl
      rw [e2]
      simp only [Bool.not_true, if_false, Bool.false_eq_true]
      by_cases hm : m + 1 ≤ 4096
      · rw [if_pos hm, say_push d kd s m hs' hk hm]
      · rw [if_neg hm]
        unfold sayX
        rw [hs]
        simp only [Bool.false_eq_true, if_false]
        cases hl : kd.getLast? with
        | none => simp [hm]
        | some k =>
          have : (nmT d k).isEmpty = false := by unfold lastB at hk; rw [hl] at hk; exact hk
          simp [this, hm]
    | false =>
      have e : pend d ws = [leaf d ([], [], ws)] := by unfold pend; rw [hw]; rfl
      have e2 : pend d (ws ++ s) = [leaf d ([], [], ws ++ s)] := by
        unfold pend
        have : (ws ++ s).isEmpty = false := by cases ws <;> simp_all
        rw [this]; rfl
      rw [e, e2]
      unfold sayX
      rw [hs]
      have hn : nmT d (leaf d ([], [], ws)) = [] := by unfold nmT; rw [lab_leaf]
      have ht : txT d (leaf d ([], [], ws)) = ws := by unfold txT; rw [lab_leaf]
      simp [hn, ht]
/-! Lengths. -/
theorem rune_two {b : List UInt8} {n : Nat} (h : runeR b = some n) : 2 ≤ b.length := by
  unfold runeR at h
  split at h
  · simp only [List.length_cons]; omega
  · rename_i d _
    unfold numR at h
    split at h
    · rename_i hd
      have := List.length_pos_iff.2 hd.1
      simp only [List.length_cons]; omega
    · cases h
  · unfold nameR at h
    split at h
    · rename_i e; rw [e]; decide
    · split at h
      · rename_i e; rw [e]; decide
      · split at h
        · rename_i e; rw [e]; decide
        · split at h
          · rename_i e; rw [e]; decide
          · split at h
            · rename_i e; rw [e]; decide
            · cases h
theorem unF_len : ∀ (f : Nat) (l s : List UInt8), unF f l = some s → s.length ≤ l.length
  | 0, l, s, h => by simp only [unF] at h; injection h with h; subst h; simp
  | f + 1, [], s, h => by simp only [unF] at h; injection h with h; subst h; simp
  | f + 1, c :: r, s, h => by
    simp only [unF] at h
    split at h
    · cases hc : cutE r with
      | none => rw [hc] at h; cases h
      | some p =>
        obtain ⟨b, t⟩ := p
        rw [hc] at h
        simp only at h
        have hl := congrArg List.length (cutE_some r b t hc).1
        simp only [List.length_append, List.length_cons] at hl
        cases hn : runeR b with
        | none => rw [hn] at h; cases h
        | some n =>
          rw [hn] at h
          simp only at h
          obtain ⟨u, hu, rfl⟩ := Option.map_eq_some_iff.1 h
          have h1 := unF_len f t u hu
          have h2 := rune_two hn
          have h3 := (encL_len n).2
          simp only [List.length_append, List.length_cons]
          omega
    · obtain ⟨u, hu, rfl⟩ := Option.map_eq_some_iff.1 h
      have h1 := unF_len f r u hu
      simp only [List.length_cons]
      omega
theorem unA_len {l s : List UInt8} (h : unA l = some s) : s.length ≤ l.length := by
  unfold unA at h
  split at h
  · exact unF_len _ _ _ h
  · cases h
theorem piece_len {l s l2 : List UInt8} (h : pieceX l = .ok (s, l2)) : s.length + l2.length ≤ l.length ∧ (s ≠ [] → l2.length < l.length) := by
  have key : s.length + l2.length ≤ l.length := by
    unfold pieceX at h
    split at h
    · split at h
      · cases h
      · rename_i q hq
        injection h with h
        subst h
        have e := congrArg List.length (unt_some _ (by simp) _ _ _ hq)
        simp at e
        omega
    · split at h
      · cases h
      · split at h
        · cases h
        · rename_i u hu
          injection h with h
          injection h with h1 h2
          subst h1 h2
          have h3 := unA_len hu
          have e := congrArg List.length (List.takeWhile_append_dropWhile (p := (· != 60)) (l := l))
          rw [List.length_append] at e
          omega
  refine ⟨key, fun hs => ?_⟩
  have := List.length_pos_iff.2 hs
  omega
theorem piece_sh2 {l s l2 : List UInt8} (h : pieceX l = .ok (s, l2)) (h0 : preX [60, 33, 91, 67, 68, 65, 84, 65, 91] l = true ∨ preX [60] l = false) : Sh l2 l := by
  refine ⟨piece_sh h, ?_⟩
  unfold pieceX at h
  split at h
  · split at h
    · cases h
    · rename_i q hq
      injection h with h
      subst h
      exact ((unt_sh (by simp) hq).le (List.drop_suffix 9 l)).2
  · rename_i hr
    have h3 := h0.resolve_left hr
    split at h
    · cases h
    · rename_i hne
      split at h
      · cases h
      · injection h with h
        injection h with h1 h2
        subst h2
        cases l with
        | nil => simp at hne
        | cons c r =>
          have hc : (c != 60) = true := by
            rw [bne_iff_ne]
            intro e
            subst e
            simp [preX] at h3
          rw [List.dropWhile_cons, hc]
          exact (Sh.of (dw_suf (· != 60) r) (sh_cons c r)).2
end Go.Proofs.YtlgkbdebpnbndaaGreatDoor
