
/- The mathematics of texts, of signs and of trees; no program. -/
import Derived.Lib.DecodeN
import Derived.Lib.DecodeNEq
import Derived.Lib.RuneCount
import Derived.Lib.Strings
import Derived.Lib.IndexBytes
import Derived.Below
import Derived.Lib.RuneBytes
import Derived.Lib.Replace
import Derived.Lib.IndexMore
import Derived.Lib.SlTrimSet
namespace Go.Proofs.YthjibliaofmlhaaGreatDoor
set_option linter.unusedVariables false
set_option linter.unusedSimpArgs false
open Go.RowKit

/-- At this place a text cannot be read: the rune of faults, and not by its own three bytes. -/
def badAt (s : ByteArray) (pos : Nat) : Bool := ((Utf8.decode s pos).1 == 65533) && !(Lib.hasPrefix (s.data.toList.drop pos) [239, 191, 189])

def vldFrom (s : ByteArray) : Nat → Nat → Bool
  | 0, _ => true
  | f + 1, pos => if pos < s.size then (if badAt s pos then false else vldFrom s f (pos + (Utf8.decode s pos).2)) else true
def vld (s : ByteArray) : Bool := vldFrom s s.size 0
def chk (s : ByteArray) : Int := if vld s then 0 else 5

theorem vldFrom_end (s : ByteArray) (f pos : Nat) (h : ¬ pos < s.size) : vldFrom s f pos = true := by
  cases f <;> simp [vldFrom, h]
theorem vldFrom_step (s : ByteArray) (f pos : Nat) (h : pos < s.size) (hb : badAt s pos = false) : vldFrom s (f + 1) pos = vldFrom s f (pos + (Utf8.decode s pos).2) := by
  simp [vldFrom, h, hb]
theorem vldFrom_bad (s : ByteArray) (f pos : Nat) (h : pos < s.size) (hb : badAt s pos = true) : vldFrom s (f + 1) pos = false := by
  simp [vldFrom, h, hb]
theorem chkT_ok {s : ByteArray} (h : vld s = true) : chk s = 0 := by simp [chk, h]
theorem chkT_no {s : ByteArray} (h : vld s = false) : chk s = 5 := by simp [chk, h]
theorem badAt_other (s : ByteArray) (pos : Nat) (h : (((Utf8.decode s pos).1 : Int) == 65533) = false) : badAt s pos = false := by
  have : ((Utf8.decode s pos).1 == 65533) = false := by
    rw [beq_eq_false_iff_ne] at h ⊢
    omega
  simp [badAt, this]
theorem badAt_err (s : ByteArray) (pos : Nat) (h : (((Utf8.decode s pos).1 : Int) == 65533) = true) : badAt s pos = !(Lib.hasPrefix (s.data.toList.drop pos) [239, 191, 189]) := by
  have : ((Utf8.decode s pos).1 == 65533) = true := by
    rw [beq_iff_eq] at h ⊢
    omega
  simp [badAt, this]

theorem get_eqT (s : ByteArray) (i : Nat) : s.get! i = s.data.toList.getD i 0 := by
  obtain ⟨⟨l⟩⟩ := s
  show (l.toArray)[i]! = _
  rw [List.getElem!_toArray, List.getD_eq_getElem?_getD, List.getElem!_eq_getElem?_getD]
  rfl
theorem pre3 (l : List UInt8) (a b c : UInt8) : Lib.hasPrefix l [a, b, c] = (decide (3 ≤ l.length) && (l.getD 0 0 == a && (l.getD 1 0 == b && l.getD 2 0 == c))) := by
  unfold Lib.hasPrefix
  match l with
  | [] => simp [List.isPrefixOf]
  | [x] => simp [List.isPrefixOf]
  | [x, y] => simp [List.isPrefixOf]
  | x :: y :: z :: t =>
    rw [Bool.eq_iff_iff]
    simp only [List.isPrefixOf, List.length_cons, List.getD_cons_zero, List.getD_cons_succ, Bool.and_true, Bool.and_eq_true, beq_iff_eq, decide_eq_true_eq]
    constructor
    · rintro ⟨rfl, rfl, rfl⟩; exact ⟨by omega, rfl, rfl, rfl⟩
    · rintro ⟨_, rfl, rfl, rfl⟩; exact ⟨rfl, rfl, rfl⟩

theorem drop_getD (l : List UInt8) (p j : Nat) : (l.drop p).getD j 0 = l.getD (p + j) 0 := by
  rw [List.getD_eq_getElem?_getD, List.getD_eq_getElem?_getD, List.getElem?_drop]

theorem byte_lt (s : ByteArray) (i : Nat) : (s.get! i).toNat < 256 := (s.get! i).toNat_lt

/-- The rune of faults by its own bytes: three, and just these. -/
theorem own_bytes (s : ByteArray) (p : Nat) : Lib.hasPrefix (s.data.toList.drop p) [239, 191, 189] = true ↔ (3 ≤ s.size - p ∧ (s.get! p).toNat = 239 ∧ (s.get! (p + 1)).toNat = 191 ∧ (s.get! (p + 2)).toNat = 189) := by
  rw [pre3, drop_getD, drop_getD, drop_getD, ← get_eqT, ← get_eqT, ← get_eqT, List.length_drop, ← Lib.size_eq]
  simp only [Bool.and_eq_true, beq_iff_eq, decide_eq_true_eq, Nat.add_zero]
  constructor
  · rintro ⟨h, h0, h1, h2⟩; rw [h0, h1, h2]; exact ⟨h, rfl, rfl, rfl⟩
  · rintro ⟨h, h0, h1, h2⟩
    exact ⟨h, UInt8.toNat_inj.1 (h0.trans rfl), UInt8.toNat_inj.1 (h1.trans rfl), UInt8.toNat_inj.1 (h2.trans rfl)⟩

theorem dN_err3 (n b0 b1 b2 b3 : Nat) (h0 : b0 < 256) (_h1 : b1 < 256) (_h2 : b2 < 256) (h : (Lib.decodeN n b0 b1 b2 b3).1 = 65533) :
    Lib.decodeN n b0 b1 b2 b3 = (65533, 1) ∨ (3 ≤ n ∧ b0 = 239 ∧ b1 = 191 ∧ b2 = 189) := by
  revert h
  unfold Lib.decodeN
  repeat' split
  all_goals intro h
  all_goals first | (left; rfl) | (exfalso; simp only at h; omega) | (right; simp only at h; omega)
theorem dN_own (n b3 : Nat) (h : 3 ≤ n) : Lib.decodeN n 239 191 189 b3 = (65533, 3) := by
  unfold Lib.decodeN
  repeat' split
  all_goals first | (exfalso; omega) | rfl

/-- A place is bad just where decoding reads a fault. -/
theorem bad_iff (s : ByteArray) (p : Nat) : badAt s p = true ↔ Utf8.decode s p = (65533, 1) := by
  unfold badAt
  rw [Bool.and_eq_true, beq_iff_eq, Bool.not_eq_true', Lib.decode_at]
  constructor
  · rintro ⟨h1, h2⟩
    rcases dN_err3 _ _ _ _ _ (byte_lt s p) (byte_lt s (p + 1)) (byte_lt s (p + 2)) h1 with h | ⟨ha, hb, hc, hd⟩
    · exact h
    · exfalso
      have := (own_bytes s p).2 ⟨ha, hb, hc, hd⟩
      rw [this] at h2; simp at h2
  · intro h
    refine ⟨by rw [h], ?_⟩
    cases hq : Lib.hasPrefix (s.data.toList.drop p) [239, 191, 189] with
    | false => rfl
    | true =>
      exfalso
      obtain ⟨ha, hb, hc, hd⟩ := (own_bytes s p).1 hq
      rw [hb, hc, hd, dN_own _ _ ha] at h
      simp at h

theorem dNT_ascii (n b0 b1 b2 b3 : Nat) (h : b0 < 128) : Lib.decodeN n b0 b1 b2 b3 = (b0, 1) := by simp [Lib.decodeN, h]
/-- The runes from a place on. -/
def runesFrom (s : ByteArray) : Nat → Nat → List Nat
  | 0, _ => []
  | f + 1, pos => if pos < s.size then (Utf8.decode s pos).1 :: runesFrom s f (pos + (Utf8.decode s pos).2) else []
def runesOf (s : ByteArray) : List Nat := runesFrom s s.size 0
theorem runesFrom_end (s : ByteArray) (f pos : Nat) (h : ¬ pos < s.size) : runesFrom s f pos = [] := by cases f <;> simp [runesFrom, h]
theorem runesFrom_step (s : ByteArray) (f pos : Nat) (h : pos < s.size) : runesFrom s (f + 1) pos = (Utf8.decode s pos).1 :: runesFrom s f (pos + (Utf8.decode s pos).2) := by simp [runesFrom, h]
theorem decode_le (s : ByteArray) (p : Nat) : (Utf8.decode s p).1 ≤ 1114111 := by
  rw [Lib.decode_at]
  unfold Lib.decodeN
  repeat' split
  all_goals (simp only; omega)
def xmlN (r : Nat) : Bool := decide (r = 9 ∨ r = 10 ∨ r = 13 ∨ (32 ≤ r ∧ r ≤ 55295) ∨ (57344 ≤ r ∧ r ≤ 65533) ∨ 65536 ≤ r)
def xmlB (s : ByteArray) : Bool := (runesOf s).all xmlN
def xmlE (b : Bool) : Int := if b then 0 else 1
theorem xmlN_yes {r : Nat} (h : r = 9 ∨ r = 10 ∨ r = 13 ∨ (32 ≤ r ∧ r ≤ 55295) ∨ (57344 ≤ r ∧ r ≤ 65533) ∨ 65536 ≤ r) : xmlN r = true := by simp [xmlN, h]
theorem xmlN_no {r : Nat} (h : ¬ (r = 9 ∨ r = 10 ∨ r = 13 ∨ (32 ≤ r ∧ r ≤ 55295) ∨ (57344 ≤ r ∧ r ≤ 65533) ∨ 65536 ≤ r)) : xmlN r = false := by simp only [xmlN, h, decide_false]
theorem all_step {s : ByteArray} {b pos : Nat} (hp : pos < s.size) : (runesFrom s (b + 1) pos).all xmlN = (xmlN (Utf8.decode s pos).1 && (runesFrom s b (pos + (Utf8.decode s pos).2)).all xmlN) := by
  rw [runesFrom_step s b pos hp, List.all_cons]
end Go.Proofs.YthjibliaofmlhaaGreatDoor
namespace Go.Proofs.YthjibliaofmlhaaGreatDoor
set_option linter.unusedVariables false
set_option linter.unusedSimpArgs false

/-- Is it a rune's number? -/
def validR (v : Nat) : Bool := decide (v < 55296 ∨ (57344 ≤ v ∧ v ≤ 1114111))
theorem validR_iff {v : Nat} : validR v = true ↔ (v < 55296 ∨ (57344 ≤ v ∧ v ≤ 1114111)) := by simp [validR]
/-- A rune's bytes. -/
def encL (v : Nat) : List UInt8 := Lib.encodeRune (v : Int)
def bt (n : Nat) : UInt8 := n.toUInt8
theorem bt_nat {n : Nat} (h : n < 256) : (bt n).toNat = n := by simp [bt]; omega
theorem enc1 {v : Nat} (h : v < 128) : encL v = [bt v] := by
  unfold encL Lib.encodeRune
  rw [Lib.encodeRuneZ_one (by omega) (by omega)]; simp [bt]
theorem enc2 {v : Nat} (h : 128 ≤ v) (h' : v ≤ 2047) : encL v = [bt (192 + v / 64), bt (128 + v % 64)] := by
  unfold encL Lib.encodeRune
  rw [Lib.encodeRuneZ_two (by omega) (by omega)]
  simp only [List.map_cons, List.map_nil, bt]
  rw [show ((192 : Int) + (v : Int) / 64).toNat = 192 + v / 64 from by omega, show ((128 : Int) + (v : Int) % 64).toNat = 128 + v % 64 from by omega]
theorem enc3 {v : Nat} (h : (2048 ≤ v ∧ v < 55296) ∨ (57344 ≤ v ∧ v ≤ 65535)) : encL v = [bt (224 + v / 4096), bt (128 + v / 64 % 64), bt (128 + v % 64)] := by
  unfold encL Lib.encodeRune
  rw [Lib.encodeRuneZ_three (by omega)]
  simp only [List.map_cons, List.map_nil, bt]
  rw [show ((224 : Int) + (v : Int) / 4096).toNat = 224 + v / 4096 from by omega, show ((128 : Int) + (v : Int) / 64 % 64).toNat = 128 + v / 64 % 64 from by omega, show ((128 : Int) + (v : Int) % 64).toNat = 128 + v % 64 from by omega]
theorem enc4 {v : Nat} (h : 65536 ≤ v) (h' : v ≤ 1114111) : encL v = [bt (240 + v / 262144), bt (128 + v / 4096 % 64), bt (128 + v / 64 % 64), bt (128 + v % 64)] := by
  unfold encL Lib.encodeRune
  rw [Lib.encodeRuneZ_four (by omega) (by omega)]
  simp only [List.map_cons, List.map_nil, bt]
  rw [show ((240 : Int) + (v : Int) / 262144).toNat = 240 + v / 262144 from by omega, show ((128 : Int) + (v : Int) / 4096 % 64).toNat = 128 + v / 4096 % 64 from by omega, show ((128 : Int) + (v : Int) / 64 % 64).toNat = 128 + v / 64 % 64 from by omega, show ((128 : Int) + (v : Int) % 64).toNat = 128 + v % 64 from by omega]
theorem encL_len (v : Nat) : 1 ≤ (encL v).length ∧ (encL v).length ≤ 4 := by
  have := Lib.encodeRuneZ_length (v : Int)
  simpa [encL, Lib.encodeRune] using this

/-- The rune that bytes begin with, and how many bytes it has. -/
def decL (l : List UInt8) : Nat × Nat := Lib.decodeN l.length (l.getD 0 0).toNat (l.getD 1 0).toNat (l.getD 2 0).toNat (l.getD 3 0).toNat
theorem decL_at (s : ByteArray) (p : Nat) : Utf8.decode s p = decL (s.data.toList.drop p) := by
  rw [Lib.decode_at]
  unfold decL
  rw [List.length_drop, drop_getD, drop_getD, drop_getD, drop_getD, ← get_eqT, ← get_eqT, ← get_eqT, ← get_eqT, ← Lib.size_eq]
  rfl
theorem dn_back2 (n b2 b3 v : Nat) (hn : 2 ≤ n) (h : 128 ≤ v) (h' : v ≤ 2047) : Lib.decodeN n (192 + v / 64) (128 + v % 64) b2 b3 = (v, 2) := by
  unfold Lib.decodeN
  repeat' split
  all_goals first | (exfalso; omega) | (apply Prod.ext <;> simp only <;> omega)
theorem dn_back3 (n b3 v : Nat) (hn : 3 ≤ n) (h : (2048 ≤ v ∧ v < 55296) ∨ (57344 ≤ v ∧ v ≤ 65535)) : Lib.decodeN n (224 + v / 4096) (128 + v / 64 % 64) (128 + v % 64) b3 = (v, 3) := by
  unfold Lib.decodeN
  repeat' split
  all_goals first | (exfalso; omega) | (apply Prod.ext <;> simp only <;> omega)
theorem dn_back4 (n v : Nat) (hn : 4 ≤ n) (h : 65536 ≤ v) (h' : v ≤ 1114111) : Lib.decodeN n (240 + v / 262144) (128 + v / 4096 % 64) (128 + v / 64 % 64) (128 + v % 64) = (v, 4) := by
  unfold Lib.decodeN
  repeat' split
  all_goals first | (exfalso; omega) | (apply Prod.ext <;> simp only <;> omega)
/-- A rune's bytes are read as that rune, whatever stands behind. -/
theorem encL_dec (v : Nat) (hv : validR v = true) (t : List UInt8) : decL (encL v ++ t) = (v, (encL v).length) := by
  have hv' := validR_iff.1 hv
  by_cases h1 : v < 128
  · rw [enc1 h1]; unfold decL
    simp only [List.cons_append, List.nil_append, List.getD_cons_zero, List.length_cons, List.length_nil]
    rw [bt_nat (by omega)]; exact dNT_ascii _ _ _ _ _ h1
  · by_cases h2 : v ≤ 2047
    · rw [enc2 (by omega) h2]; unfold decL
      simp only [List.cons_append, List.nil_append, List.getD_cons_zero, List.getD_cons_succ, List.length_cons, List.length_nil]
      rw [bt_nat (by omega), bt_nat (by omega)]; exact dn_back2 _ _ _ _ (by omega) (by omega) h2
    · by_cases h3 : v ≤ 65535
      · rw [enc3 (by omega)]; unfold decL
        simp only [List.cons_append, List.nil_append, List.getD_cons_zero, List.getD_cons_succ, List.length_cons, List.length_nil]
        rw [bt_nat (by omega), bt_nat (by omega), bt_nat (by omega)]; exact dn_back3 _ _ _ (by omega) (by omega)
      · rw [enc4 (by omega) (by omega)]; unfold decL
        simp only [List.cons_append, List.nil_append, List.getD_cons_zero, List.getD_cons_succ, List.length_cons, List.length_nil]
        rw [bt_nat (by omega), bt_nat (by omega), bt_nat (by omega), bt_nat (by omega)]; exact dn_back4 _ _ (by omega) (by omega) (by omega)
theorem dn_cases (n b0 b1 b2 b3 : Nat) (h0 : b0 < 256) (h1 : b1 < 256) (h2 : b2 < 256) (h3 : b3 < 256) (hb : Lib.decodeN n b0 b1 b2 b3 ≠ (65533, 1)) :
    b0 < 128 ∨ (∃ v, 2 ≤ n ∧ 128 ≤ v ∧ v ≤ 2047 ∧ b0 = 192 + v / 64 ∧ b1 = 128 + v % 64) ∨
    (∃ v, 3 ≤ n ∧ ((2048 ≤ v ∧ v < 55296) ∨ (57344 ≤ v ∧ v ≤ 65535)) ∧ b0 = 224 + v / 4096 ∧ b1 = 128 + v / 64 % 64 ∧ b2 = 128 + v % 64) ∨
    (∃ v, 4 ≤ n ∧ 65536 ≤ v ∧ v ≤ 1114111 ∧ b0 = 240 + v / 262144 ∧ b1 = 128 + v / 4096 % 64 ∧ b2 = 128 + v / 64 % 64 ∧ b3 = 128 + v % 64) := by
  revert hb
  unfold Lib.decodeN
  split
  · intro _; left; assumption
  split
  · split
    · intro _; right; left; exact ⟨b0 % 32 * 64 + b1 % 64, by omega⟩
    · intro h; exact absurd rfl h
  split
  · split
    · intro _; right; right; left; exact ⟨b0 % 16 * 4096 + b1 % 64 * 64 + b2 % 64, by omega⟩
    · intro h; exact absurd rfl h
  split
  · split
    · intro _; right; right; right; exact ⟨b0 % 8 * 262144 + b1 % 64 * 4096 + b2 % 64 * 64 + b3 % 64, by omega⟩
    · intro h; exact absurd rfl h
  · intro h; exact absurd rfl h
theorem bt_of {c : UInt8} {n : Nat} (h : c.toNat = n) : c = bt n := by subst h; simp [bt]
/-- Where no fault is met, bytes begin with a rune's bytes. -/
theorem decL_enc (l : List UInt8) (hl : l ≠ []) (hb : decL l ≠ (65533, 1)) : ∃ v t, validR v = true ∧ l = encL v ++ t := by
  unfold decL at hb
  rcases dn_cases _ _ _ _ _ (UInt8.toNat_lt _) (UInt8.toNat_lt _) (UInt8.toNat_lt _) (UInt8.toNat_lt _) hb with h | ⟨v, h⟩ | ⟨v, h⟩ | ⟨v, h⟩
  · match l, hl with
    | c :: t, _ =>
      simp only [List.getD_cons_zero] at h
      exact ⟨c.toNat, t, validR_iff.2 (by omega), by rw [enc1 h, ← bt_of rfl]; rfl⟩
  · match l, h with
    | c :: d :: t, h =>
      simp only [List.getD_cons_zero, List.getD_cons_succ] at h
      obtain ⟨_, a, b, e0, e1⟩ := h
      exact ⟨v, t, validR_iff.2 (by omega), by rw [enc2 a b, ← bt_of e0, ← bt_of e1]; rfl⟩
    | [c], h => simp at h
    | [], h => simp at h
  · match l, h with
    | c :: d :: e :: t, h =>
      simp only [List.getD_cons_zero, List.getD_cons_succ] at h
      obtain ⟨_, a, e0, e1, e2⟩ := h
      exact ⟨v, t, validR_iff.2 (by omega), by rw [enc3 a, ← bt_of e0, ← bt_of e1, ← bt_of e2]; rfl⟩
    | [c, d], h => simp at h
    | [c], h => simp at h
    | [], h => simp at h
  · match l, h with
    | c :: d :: e :: f :: t, h =>
      simp only [List.getD_cons_zero, List.getD_cons_succ] at h
      obtain ⟨_, a, b, e0, e1, e2, e3⟩ := h
      exact ⟨v, t, validR_iff.2 (by omega), by rw [enc4 a b, ← bt_of e0, ← bt_of e1, ← bt_of e2, ← bt_of e3]; rfl⟩
    | [c, d, e], h => simp at h
    | [c, d], h => simp at h
    | [c], h => simp at h
    | [], h => simp at h
/-- A rune's bytes: one below 128, or all from 128 on. -/
theorem encL_high (v : Nat) (hv : validR v = true) (h : 128 ≤ v) : ∀ c ∈ encL v, 128 ≤ c.toNat := by
  have hv' := validR_iff.1 hv
  intro c hc
  by_cases h2 : v ≤ 2047
  · rw [enc2 h h2] at hc
    simp only [List.mem_cons, List.not_mem_nil, or_false] at hc
    rcases hc with rfl | rfl <;> rw [bt_nat (by omega)] <;> omega
  · by_cases h3 : v ≤ 65535
    · rw [enc3 (by omega)] at hc
      simp only [List.mem_cons, List.not_mem_nil, or_false] at hc
      rcases hc with rfl | rfl | rfl <;> rw [bt_nat (by omega)] <;> omega
    · rw [enc4 (by omega) (by omega)] at hc
      simp only [List.mem_cons, List.not_mem_nil, or_false] at hc
      rcases hc with rfl | rfl | rfl | rfl <;> rw [bt_nat (by omega)] <;> omega
theorem enc_ne (v : Nat) : encL v ≠ [] := fun h => by have := (encL_len v).1; rw [h] at this; simp at this
/-- The rune's bytes are not those of a fault. -/
theorem enc_fine (v : Nat) (hv : validR v = true) (t : List UInt8) : decL (encL v ++ t) ≠ (65533, 1) := by
  rw [encL_dec v hv t]
  intro h
  have h1 := congrArg Prod.fst h
  have h2 := congrArg Prod.snd h
  simp only at h1 h2
  subst h1
  rw [enc3 (by omega)] at h2
  simp at h2

/-- Are bytes runes' bytes, one behind the other? -/
def vldL : Nat → List UInt8 → Bool
  | 0, _ => true
  | f + 1, l => if l = [] then true else if decL l = (65533, 1) then false else vldL f (l.drop (decL l).2)
theorem vldL_nil (f : Nat) : vldL f [] = true := by cases f <;> rfl
theorem vldL_enc (f v : Nat) (hv : validR v = true) (t : List UInt8) : vldL (f + 1) (encL v ++ t) = vldL f t := by
  have h0 : encL v ++ t ≠ [] := by simp [enc_ne v]
  rw [vldL, if_neg h0, if_neg (enc_fine v hv t), encL_dec v hv t]
  simp
theorem vldL_bad (f : Nat) (l : List UInt8) (hl : l ≠ []) (hb : decL l = (65533, 1)) : vldL (f + 1) l = false := by
  rw [vldL, if_neg hl, if_pos hb]
theorem vldL_fuel : ∀ (f g : Nat) (l : List UInt8), l.length ≤ f → l.length ≤ g → vldL f l = vldL g l
  | 0, g, l, hf, _ => by
    obtain rfl : l = [] := List.length_eq_zero_iff.1 (by omega)
    rw [vldL_nil, vldL_nil]
  | f + 1, 0, l, _, hg => by
    obtain rfl : l = [] := List.length_eq_zero_iff.1 (by omega)
    rw [vldL_nil, vldL_nil]
  | f + 1, g + 1, l, hf, hg => by
    by_cases hl : l = []
    · subst hl; rw [vldL_nil, vldL_nil]
    · by_cases hb : decL l = (65533, 1)
      · rw [vldL_bad f l hl hb, vldL_bad g l hl hb]
      · obtain ⟨v, t, hv, rfl⟩ := decL_enc l hl hb
        rw [vldL_enc f v hv, vldL_enc g v hv]
        have := (encL_len v).1
        simp only [List.length_append] at hf hg
        exact vldL_fuel f g t (by omega) (by omega)
def V (l : List UInt8) : Bool := vldL l.length l
theorem V_enc (v : Nat) (hv : validR v = true) (t : List UInt8) : V (encL v ++ t) = V t := by
  have h1 := (encL_len v).1
  unfold V
  rw [vldL_fuel (encL v ++ t).length (t.length + (encL v).length - 1 + 1) _ (Nat.le_refl _) (by simp; omega), vldL_enc _ v hv]
  exact vldL_fuel _ _ t (by omega) (Nat.le_refl _)
theorem V_bad (l : List UInt8) (hl : l ≠ []) (hb : decL l = (65533, 1)) : V l = false := by
  unfold V
  rw [vldL_fuel l.length (l.length + 1) l (Nat.le_refl _) (by omega)]
  exact vldL_bad _ l hl hb
/-- A text that may be and is not empty begins with a rune's bytes. -/
theorem V_open {l : List UInt8} (h : V l = true) (hl : l ≠ []) : ∃ v t, validR v = true ∧ l = encL v ++ t ∧ V t = true := by
  have hb : decL l ≠ (65533, 1) := fun hb => by rw [V_bad l hl hb] at h; cases h
  obtain ⟨v, t, hv, rfl⟩ := decL_enc l hl hb
  exact ⟨v, t, hv, rfl, by rwa [V_enc v hv t] at h⟩
/-- The program's check of a text is this one. -/
theorem vldFrom_L (s : ByteArray) : ∀ f pos, vldFrom s f pos = vldL f (s.data.toList.drop pos)
  | 0, pos => rfl
  | f + 1, pos => by
    have hlen : s.data.toList.length = s.size := by rw [← Lib.size_eq]
    by_cases hp : pos < s.size
    · have hne : s.data.toList.drop pos ≠ [] := fun h => by
        have := congrArg List.length h
        rw [List.length_drop, hlen] at this; simp at this; omega
      cases hb : badAt s pos with
      | true =>
        rw [vldFrom_bad s f pos hp hb]
        have := (bad_iff s pos).1 hb
        rw [decL_at] at this
        rw [vldL_bad f _ hne this]
      | false =>
        have hd : decL (s.data.toList.drop pos) ≠ (65533, 1) := fun h => by
          rw [← decL_at] at h
          have := (bad_iff s pos).2 h
          rw [hb] at this; cases this
        rw [vldFrom_step s f pos hp hb, vldFrom_L s f, vldL, if_neg hne, if_neg hd, List.drop_drop, decL_at]
    · rw [vldFrom_end s (f + 1) pos hp, List.drop_of_length_le (by omega), vldL_nil]
theorem vld_V (s : ByteArray) : vld s = V s.data.toList := by
  unfold vld V
  rw [vldFrom_L, List.drop_zero, ← Lib.size_eq]
/-- The runes of a text. -/
theorem runesFrom_enc (s : ByteArray) (f pos v : Nat) (t : List UInt8) (hv : validR v = true) (h : s.data.toList.drop pos = encL v ++ t) : runesFrom s (f + 1) pos = v :: runesFrom s f (pos + (encL v).length) := by
  have hlen : s.data.toList.length = s.size := by rw [← Lib.size_eq]
  have hp : pos < s.size := by
    have := congrArg List.length h
    rw [List.length_drop, hlen, List.length_append] at this
    have := (encL_len v).1
    omega
  rw [runesFrom_step s f pos hp, decL_at, h, encL_dec v hv]
theorem runes_one (v : Nat) (hv : validR v = true) : runesOf ⟨(encL v).toArray⟩ = [v] := by
  have h1 := (encL_len v).1
  have hd : (⟨(encL v).toArray⟩ : ByteArray).data.toList = encL v := rfl
  have hs : (⟨(encL v).toArray⟩ : ByteArray).size = (encL v).length := by rw [Lib.size_eq]
  unfold runesOf
  rw [hs]
  obtain ⟨k, hk⟩ : ∃ k, (encL v).length = k + 1 := ⟨(encL v).length - 1, by omega⟩
  rw [hk, runesFrom_enc _ k 0 v [] hv (by rw [hd]; simp), runesFrom_end]
  rw [hs]; omega
end Go.Proofs.YthjibliaofmlhaaGreatDoor
namespace Go.Proofs.YthjibliaofmlhaaGreatDoor
set_option linter.unusedVariables false
set_option linter.unusedSimpArgs false

theorem u8_neE {c d : UInt8} (h : c.toNat ≠ d.toNat) : c ≠ d := fun e => h (by rw [e])
/-! ### Signs turned to runes -/
/-- What a digit says; 99: it is none. -/
def digE (c : UInt8) : Nat := if 48 ≤ c.toNat ∧ c.toNat ≤ 57 then c.toNat - 48 else if 97 ≤ c.toNat ∧ c.toNat ≤ 102 then c.toNat - 97 + 10 else if 65 ≤ c.toNat ∧ c.toNat ≤ 70 then c.toNat - 65 + 10 else 99
def numE (b : Nat) (l : List UInt8) : Nat := l.foldl (fun a c => a * b + digE c) 0
def okD (b : Nat) (l : List UInt8) : Bool := l.all fun c => decide (digE c < b)
/-- May the rune of that number stand? -/
def runeN (n : Nat) : Option Nat := if validR n && xmlN n then some n else none
def numR (b most : Nat) (l : List UInt8) : Option Nat := if l ≠ [] ∧ l.length ≤ most ∧ okD b l = true then runeN (numE b l) else none
def nameR (l : List UInt8) : Option Nat :=
  if l = [97, 109, 112] then some 38 else if l = [108, 116] then some 60 else if l = [103, 116] then some 62 else if l = [113, 117, 111, 116] then some 34 else if l = [97, 112, 111, 115] then some 39 else none
/-- The rune of what stands between & and ;. -/
def runeR (l : List UInt8) : Option Nat := match l with
  | 35 :: 120 :: d => numR 16 6 d
  | 35 :: d => numR 10 7 d
  | l => nameR l
/-- What stands ahead of the first semicolon, and what behind it. -/
def cutE : List UInt8 → Option (List UInt8 × List UInt8)
  | [] => none
  | c :: r => if c = 59 then some ([], r) else (cutE r).map fun p => (c :: p.1, p.2)
theorem cutE_some : ∀ (l b t : List UInt8), cutE l = some (b, t) → l = b ++ 59 :: t ∧ ∀ c ∈ b, c ≠ 59
  | [], b, t, h => by simp [cutE] at h
  | c :: r, b, t, h => by
    simp only [cutE] at h
    by_cases hc : c = 59
    · rw [if_pos hc] at h
      simp at h
      obtain ⟨rfl, rfl⟩ := h
      exact ⟨by rw [hc]; rfl, fun _ h => by simp at h⟩
    · rw [if_neg hc] at h
      cases hr : cutE r with
      | none => rw [hr] at h; simp at h
      | some p =>
        rw [hr] at h
        simp at h
        obtain ⟨rfl, rfl⟩ := h
        obtain ⟨h1, h2⟩ := cutE_some r p.1 p.2 (by rw [hr])
        refine ⟨by rw [List.cons_append, ← h1], fun d hd => ?_⟩
        rcases List.mem_cons.1 hd with rfl | hd
        · exact hc
        · exact h2 d hd
/-- Signs turned to runes; none: it can't be. -/
def unF : Nat → List UInt8 → Option (List UInt8)
  | 0, _ => some []
  | _ + 1, [] => some []
  | f + 1, c :: r => if c = 38 then (match cutE r with
      | none => none
      | some (b, t) => match runeR b with
        | none => none
        | some n => (unF f t).map (encL n ++ ·)) else (unF f r).map (c :: ·)
theorem unF_nil (f : Nat) : unF f [] = some [] := by cases f <;> rfl
theorem unF_fuel : ∀ (f g : Nat) (l : List UInt8), l.length ≤ f → l.length ≤ g → unF f l = unF g l
  | 0, g, l, hf, _ => by
    obtain rfl : l = [] := List.length_eq_zero_iff.1 (by omega)
    rw [unF_nil, unF_nil]
  | f + 1, 0, l, _, hg => by
    obtain rfl : l = [] := List.length_eq_zero_iff.1 (by omega)
    rw [unF_nil, unF_nil]
  | f + 1, g + 1, [], _, _ => by rw [unF_nil, unF_nil]
  | f + 1, g + 1, c :: r, hf, hg => by
    simp only [List.length_cons] at hf hg
    simp only [unF]
    split
    · cases hc : cutE r with
      | none => rfl
      | some p =>
        obtain ⟨b, t⟩ := p
        have hl := congrArg List.length (cutE_some r b t hc).1
        simp only [List.length_append, List.length_cons] at hl
        show (match runeR b with | none => none | some n => (unF f t).map (encL n ++ ·)) = (match runeR b with | none => none | some n => (unF g t).map (encL n ++ ·))
        rw [unF_fuel f g t (by omega) (by omega)]
    · rw [unF_fuel f g r (by omega) (by omega)]
def unL (l : List UInt8) : Option (List UInt8) := unF l.length l
/-- The same, of a text that may be. -/
def unA (l : List UInt8) : Option (List UInt8) := if V l then unL l else none
theorem unL_nil : unL [] = some [] := rfl
theorem unL_cons (c : UInt8) (r : List UInt8) (h : c ≠ 38) : unL (c :: r) = (unL r).map (c :: ·) := by
  unfold unL
  rw [List.length_cons, unF, if_neg h]
theorem unL_no (r : List UInt8) (h : cutE r = none) : unL (38 :: r) = none := by
  unfold unL
  rw [List.length_cons, unF, if_pos rfl, h]
theorem unL_bad (r b t : List UInt8) (h : cutE r = some (b, t)) (h2 : runeR b = none) : unL (38 :: r) = none := by
  unfold unL
  rw [List.length_cons, unF, if_pos rfl, h]
  simp only [h2]
theorem unL_ok (r b t : List UInt8) (n : Nat) (h : cutE r = some (b, t)) (h2 : runeR b = some n) : unL (38 :: r) = (unL t).map (encL n ++ ·) := by
  have hl := congrArg List.length (cutE_some r b t h).1
  simp only [List.length_append, List.length_cons] at hl
  unfold unL
  rw [List.length_cons, unF, if_pos rfl, h]
  simp only [h2]
  rw [unF_fuel r.length t.length t (by omega) (Nat.le_refl _)]
theorem unL_app : ∀ (a t : List UInt8), (∀ c ∈ a, c ≠ 38) → unL (a ++ t) = (unL t).map (a ++ ·)
  | [], t, _ => by simp
  | c :: a, t, h => by
    rw [List.cons_append, unL_cons c _ (h c (by simp)), unL_app a t (fun d hd => h d (by simp [hd]))]
    cases unL t <;> simp
/-- A rune that is no & is left. -/
theorem unL_enc (v : Nat) (hv : validR v = true) (h : v ≠ 38) (t : List UInt8) : unL (encL v ++ t) = (unL t).map (encL v ++ ·) := by
  refine unL_app _ _ fun c hc => ?_
  by_cases h1 : v < 128
  · rw [enc1 h1] at hc
    simp at hc
    subst hc
    exact u8_neE (by rw [bt_nat (by omega)]; exact h)
  · have := encL_high v hv (by omega) c hc
    exact u8_neE (by show c.toNat ≠ 38; omega)
/-- What a reference names is of ASCII. -/
theorem dig_ascii (b : Nat) (hb : b ≤ 16) (c : UInt8) (h : digE c < b) : c.toNat < 128 := by
  unfold digE at h
  repeat' split at h
  all_goals omega
theorem numR_ascii {b most : Nat} {l : List UInt8} {n : Nat} (hb : b ≤ 16) (h : numR b most l = some n) : ∀ c ∈ l, c.toNat < 128 := by
  unfold numR at h
  split at h
  · rename_i hh
    intro c hc
    have := List.all_eq_true.1 hh.2.2 c hc
    exact dig_ascii b hb c (by simpa using this)
  · cases h
theorem nameR_ascii {l : List UInt8} {n : Nat} (h : nameR l = some n) : ∀ c ∈ l, c.toNat < 128 := by
  unfold nameR at h
  repeat' split at h
  all_goals first | (rename_i hh; subst hh; decide) | cases h | skip
theorem runeR_ascii {l : List UInt8} {n : Nat} (h : runeR l = some n) : ∀ c ∈ l, c.toNat < 128 := by
  unfold runeR at h
  split at h
  · intro c hc
    rcases List.mem_cons.1 hc with rfl | hc
    · decide
    · rcases List.mem_cons.1 hc with rfl | hc
      · decide
      · exact numR_ascii (by decide) h c hc
  · intro c hc
    rcases List.mem_cons.1 hc with rfl | hc
    · decide
    · exact numR_ascii (by decide) h c hc
  · exact nameR_ascii h
theorem runeN_some {n m : Nat} (h : runeN n = some m) : m = n ∧ validR n = true ∧ xmlN n = true := by
  unfold runeN at h
  split at h
  · rename_i hh
    rw [Bool.and_eq_true] at hh
    exact ⟨(Option.some.inj h).symm, hh.1, hh.2⟩
  · cases h
theorem runeR_valid {l : List UInt8} {n : Nat} (h : runeR l = some n) : validR n = true := by
  have aux : ∀ b m d, numR b m d = some n → validR n = true := fun b m d h => by
    unfold numR at h
    split at h
    · obtain ⟨e, h1, _⟩ := runeN_some h
      rw [e]; exact h1
    · cases h
  unfold runeR at h
  split at h
  · exact aux _ _ _ h
  · exact aux _ _ _ h
  · unfold nameR at h
    repeat' split at h
    all_goals first | (have := Option.some.inj h; subst this; decide) | cases h

/-! ### Lines -/
/-- Line feeds alone. -/
def linE : List UInt8 → List UInt8
  | [] => []
  | c :: r => if c ≠ 13 then c :: linE r else if r.head? = some 10 then linE r else 10 :: linE r
theorem linE_len : ∀ l : List UInt8, (linE l).length ≤ l.length
  | [] => Nat.le_refl _
  | c :: r => by
    have := linE_len r
    simp only [linE]
    repeat' split
    all_goals (simp only [List.length_cons]; omega)
/-- Every instance replaced, from the left. -/
def repF (old new : List UInt8) : Nat → List UInt8 → List UInt8
  | 0, l => l
  | _ + 1, [] => []
  | f + 1, c :: r => if old.isPrefixOf (c :: r) then new ++ repF old new f ((c :: r).drop old.length) else c :: repF old new f r
theorem repF_nil (old new : List UInt8) (f : Nat) : repF old new f [] = [] := by cases f <;> rfl
theorem index_none_cons {c : UInt8} {r old : List UInt8} (h : Lib.index (c :: r) old = -1) : old.isPrefixOf (c :: r) = false ∧ Lib.index r old = -1 := by
  unfold Lib.index at h
  cases hp : old.isPrefixOf (c :: r) with
  | true => rw [hp, if_pos rfl] at h; cases h
  | false =>
    rw [hp, if_neg (by simp)] at h
    refine ⟨rfl, ?_⟩
    by_cases hi : (Lib.index r old == -1) = true
    · exact beq_iff_eq.1 hi
    · rw [if_neg hi] at h
      have := Lib.index_ge r old
      omega
theorem repF_none (old new : List UInt8) : ∀ (f : Nat) (l : List UInt8), Lib.index l old = -1 → repF old new f l = l
  | 0, l, _ => rfl
  | f + 1, [], _ => rfl
  | f + 1, c :: r, h => by
    obtain ⟨h1, h2⟩ := index_none_cons h
    simp only [repF]
    rw [if_neg (by rw [h1]; simp), repF_none old new f r h2]
theorem index_hit {l old : List UInt8} {i : Nat} (h1 : 1 ≤ old.length) (h : Lib.index l old = (i : Int)) : match i with
    | 0 => old.isPrefixOf l = true ∧ l ≠ []
    | k + 1 => ∃ c r, l = c :: r ∧ old.isPrefixOf (c :: r) = false ∧ Lib.index r old = (k : Int) := by
  cases l with
  | nil =>
    unfold Lib.index at h
    rw [if_neg (by cases old <;> simp at h1 ⊢)] at h
    omega
  | cons c r =>
    unfold Lib.index at h
    cases hp : old.isPrefixOf (c :: r) with
    | true =>
      rw [hp, if_pos rfl] at h
      obtain rfl : i = 0 := by omega
      exact ⟨rfl, by simp⟩
    | false =>
      rw [hp, if_neg (by simp)] at h
      by_cases hi : (Lib.index r old == -1) = true
      · rw [if_pos hi] at h; omega
      · rw [if_neg hi] at h
        have hg := Lib.index_ge r old
        have hne : Lib.index r old ≠ -1 := fun e => hi (beq_iff_eq.2 e)
        cases i with
        | zero => omega
        | succ k => exact ⟨c, r, rfl, hp, by omega⟩
/-- Up to the first instance nothing is replaced. -/
theorem repF_hit (old new : List UInt8) (h1 : 1 ≤ old.length) : ∀ (i : Nat) (l : List UInt8) (f : Nat), Lib.index l old = (i : Int) → l.length ≤ f → ∃ g, (l.drop (i + old.length)).length ≤ g ∧ repF old new f l = l.take i ++ new ++ repF old new g (l.drop (i + old.length))
  | 0, l, f, h, hf => by
    obtain ⟨hp, hne⟩ := index_hit h1 h
    match l, hne with
    | c :: r, _ =>
      simp only [List.length_cons] at hf
      obtain ⟨f, rfl⟩ : ∃ f', f = f' + 1 := ⟨f - 1, by omega⟩
      refine ⟨f, ?_, ?_⟩
      · rw [List.length_drop, List.length_cons]; omega
      · simp only [repF]
        rw [if_pos hp, Nat.zero_add]; simp
  | i + 1, l, f, h, hf => by
    obtain ⟨c, r, rfl, hp, hr⟩ := index_hit h1 h
    simp only [List.length_cons] at hf
    obtain ⟨f, rfl⟩ : ∃ f', f = f' + 1 := ⟨f - 1, by omega⟩
    obtain ⟨g, hg, e⟩ := repF_hit old new h1 i r f hr (by omega)
    refine ⟨g, ?_, ?_⟩
    · rw [show i + 1 + old.length = (i + old.length) + 1 from by omega, List.drop_succ_cons]; exact hg
    · simp only [repF]
      rw [if_neg (by rw [hp]; simp), e, show i + 1 + old.length = (i + old.length) + 1 from by omega, List.drop_succ_cons, List.take_succ_cons]
      simp
theorem replaceK_rep (old new : List UInt8) (h1 : 1 ≤ old.length) : ∀ (k : Nat) (l : List UInt8) (f : Nat), l.length ≤ f → Lib.count l old ≤ k → Lib.replaceK old new k l = repF old new f l
  | k, l, f, hf, hk => by
    by_cases hi : Lib.index l old = -1
    · rw [repF_none old new f l hi]
      cases k with
      | zero => rfl
      | succ k => rw [Lib.replaceK, if_pos (by rw [hi]; rfl)]
    · have hg := Lib.index_ge l old
      obtain ⟨i, h⟩ : ∃ i : Nat, Lib.index l old = (i : Int) := ⟨(Lib.index l old).toNat, by omega⟩
      obtain ⟨g, hg2, e⟩ := repF_hit old new h1 i l f h hf
      have hc : Lib.count l old = 1 + Lib.count (l.drop (i + old.length)) old := Lib.count_hit (fun e0 => by rw [e0] at h1; simp at h1) h
      cases k with
      | zero => omega
      | succ k =>
        rw [Lib.replaceK_hit old new k l i h, e, replaceK_rep old new h1 k _ g hg2 (by omega)]
/-- strings.ReplaceAll at an old that is not empty. -/
theorem replaceAll_rep (old new l : List UInt8) (h1 : 1 ≤ old.length) (hne : old ≠ new) : Lib.replaceAll l old new = repF old new l.length l := by
  unfold Lib.replaceAll Lib.replace
  rw [if_neg (by simpa using hne)]
  refine replaceK_rep old new h1 _ l l.length (Nat.le_refl _) ?_
  unfold Lib.replaceNum
  rw [if_pos (Or.inl (by decide))]
  exact Nat.le_refl _
/-- One byte for another. -/
theorem rep_one (x y : UInt8) : ∀ (f : Nat) (l : List UInt8), l.length ≤ f → repF [x] [y] f l = l.map fun c => if c = x then y else c
  | 0, l, h => by
    obtain rfl : l = [] := List.length_eq_zero_iff.1 (by omega)
    rfl
  | f + 1, [], _ => rfl
  | f + 1, c :: r, h => by
    simp only [List.length_cons] at h
    simp only [repF, List.map_cons]
    by_cases hc : c = x
    · subst hc
      rw [if_pos (by simp [List.isPrefixOf]), if_pos rfl]
      simp only [List.length_cons, List.length_nil, List.drop_succ_cons, List.drop_zero]
      rw [rep_one c y f r (by omega)]; rfl
    · rw [if_neg (by simp [List.isPrefixOf]; exact fun e => hc e.symm), if_neg hc, rep_one x y f r (by omega)]
theorem rep_lines : ∀ (n f : Nat) (l : List UInt8), l.length ≤ n → l.length ≤ f → (repF [13, 10] [10] f l).map (fun c => if c = 13 then 10 else c) = linE l
  | _, 0, l, _, h => by
    obtain rfl : l = [] := List.length_eq_zero_iff.1 (by omega)
    rfl
  | 0, f + 1, l, h, _ => by
    obtain rfl : l = [] := List.length_eq_zero_iff.1 (by omega)
    rfl
  | n + 1, f + 1, [], _, _ => rfl
  | n + 1, f + 1, c :: r, hn, hf => by
    simp only [List.length_cons] at hn hf
    simp only [repF, linE]
    by_cases hc : c = 13
    · subst hc
      match r with
      | [] =>
        rw [if_neg (by simp [List.isPrefixOf]), repF_nil]
        simp [linE]
      | d :: t =>
        simp only [List.length_cons] at hn hf
        by_cases hd : d = 10
        · subst hd
          rw [if_pos (by simp [List.isPrefixOf])]
          simp only [List.length_cons, List.length_nil, List.drop_succ_cons, List.drop_zero, List.cons_append, List.nil_append, List.map_cons]
          rw [rep_lines n f t (by omega) (by omega)]
          simp [linE]
        · rw [if_neg (by simp [List.isPrefixOf]; exact fun e => hd e.symm), List.map_cons, rep_lines n f (d :: t) (by simp; omega) (by simp; omega)]
          simp [hd]
    · rw [if_neg (by simp [List.isPrefixOf]; exact fun e _ => hc e.symm), List.map_cons, rep_lines n f r (by omega) (by omega)]
      simp [hc]
/-- Tabs and line feeds are blanks. -/
def blankE (l : List UInt8) : List UInt8 := l.map fun c => if c = 9 ∨ c = 10 then 32 else c
theorem blank_two (l : List UInt8) : (l.map fun c => if c = 10 then (32 : UInt8) else c).map (fun c => if c = 9 then 32 else c) = blankE l := by
  rw [List.map_map]
  apply List.map_congr_left
  intro c _
  simp only [Function.comp]
  by_cases h1 : c = 10
  · subst h1; decide
  · by_cases h2 : c = 9
    · subst h2; decide
    · simp [h1, h2]
end Go.Proofs.YthjibliaofmlhaaGreatDoor
namespace Go.Proofs.YthjibliaofmlhaaGreatDoor
set_option linter.unusedVariables false
set_option linter.unusedSimpArgs false

/-- May a text stand in XML? -/
def X (l : List UInt8) : Bool := V l && xmlB ⟨l.toArray⟩
end Go.Proofs.YthjibliaofmlhaaGreatDoor
namespace Go.Proofs.YthjibliaofmlhaaGreatDoor
set_option linter.unusedVariables false
set_option linter.unusedSimpArgs false

/-- Where the first of some bytes is; the length: there is none. -/
def findU (of l : List UInt8) : Nat := l.findIdx fun c => of.contains c
def letterU (c : UInt8) : Bool := decide (97 ≤ c.toNat ∧ c.toNat ≤ 122) || decide (65 ≤ c.toNat ∧ c.toNat ≤ 90)
def digitU (c : UInt8) : Bool := decide (48 ≤ c.toNat ∧ c.toNat ≤ 57)
theorem find_skip (cs p t : List UInt8) (h : ∀ c ∈ p, cs.contains c = false) : findU cs (p ++ t) = p.length + findU cs t := by
  unfold findU
  rw [List.findIdx_append, if_neg]
  · omega
  · intro hlt
    rw [List.findIdx_lt_length] at hlt
    obtain ⟨x, hx, hc⟩ := hlt
    rw [h x hx] at hc; cases hc
theorem find_here (cs : List UInt8) (c : UInt8) (t : List UInt8) (h : cs.contains c = true) : findU cs (c :: t) = 0 := by
  unfold findU
  rw [List.findIdx_cons, h]; rfl
theorem find_nil (cs : List UInt8) : findU cs [] = 0 := rfl
end Go.Proofs.YthjibliaofmlhaaGreatDoor
namespace Go.Proofs.YthjibliaofmlhaaGreatDoor
set_option linter.unusedVariables false
set_option linter.unusedSimpArgs false

structure HdV where
  name : List UInt8
  value : List UInt8
def signH (c : UInt8) : Bool := letterU c || digitU c || ([33, 35, 36, 37, 38, 39, 42, 43, 45, 46, 94, 95, 124, 126] : List UInt8).contains c || c == 96
def tokenH (s : List UInt8) : Bool := s.all signH && !s.isEmpty
def blankH (c : UInt8) : Bool := c == 32 || c == 9
def badH (c : UInt8) : Bool := c == 127 || (decide (c.toNat < 32) && c != 9)
def valueH (v : List UInt8) : Bool := v.all (fun c => !badH c) && !blankH (v.headD 0) && !blankH (v.getLastD 0)
def mayH (h : HdV) : Bool := valueH h.value && tokenH h.name
/-- A line without its carriage return. -/
def crH (l : List UInt8) : List UInt8 := if l.getLastD 0 = 13 then l.dropLast else l
def trimH (l : List UInt8) : List UInt8 := ((l.dropWhile blankH).reverse.dropWhile blankH).reverse
def oneH (l : List UInt8) : Option HdV :=
  if findU [58] l = l.length then none
  else if mayH ⟨l.take (findU [58] l), trimH (l.drop (findU [58] l + 1))⟩ then some ⟨l.take (findU [58] l), trimH (l.drop (findU [58] l + 1))⟩ else none
/-- Line by line: what is left, how many bytes are behind, what was read. -/
def linesH : Nat → List UInt8 → Nat → List HdV → List HdV × Nat × Int
  | 0, _, _, _ => ([], 0, 10)
  | f + 1, b, n, out =>
    if findU [10] b = b.length then ([], 0, if 8192 < n + b.length then 3 else 10)
    else if 8192 < n + findU [10] b + 1 then ([], 0, 3)
    else if crH (b.take (findU [10] b)) = [] then (out, n + findU [10] b + 1, 0)
    else match oneH (crH (b.take (findU [10] b))) with
      | none => ([], 0, 5)
      | some h => if out.length = 64 then ([], 0, 3) else linesH f (b.drop (findU [10] b + 1)) (n + findU [10] b + 1) (out ++ [h])
def parseH (b : List UInt8) : List HdV × Nat × Int := linesH (b.length + 1) b 0 []
theorem find_byte (c : UInt8) (a r : List UInt8) (h : c ∉ a) : findU [c] (a ++ c :: r) = a.length := by
  rw [find_skip [c] a _ (fun d hd => by
    have : d ≠ c := fun e => h (e ▸ hd)
    simpa using this), find_here [c] c r (by simp)]
  rfl
theorem find_miss (c : UInt8) (a : List UInt8) (h : c ∉ a) : findU [c] a = a.length := by
  have := find_skip [c] a [] (fun d hd => by
    have : d ≠ c := fun e => h (e ▸ hd)
    simpa using this)
  rw [List.append_nil, find_nil] at this
  exact this
end Go.Proofs.YthjibliaofmlhaaGreatDoor
namespace Go.Proofs.YthjibliaofmlhaaGreatDoor
set_option linter.unusedVariables false
set_option linter.unusedSimpArgs false

/-! A line is read. -/
def zeroH : HdV := ⟨[], []⟩
def oneV (l : List UInt8) : HdV := if findU [58] l = l.length then zeroH else ⟨l.take (findU [58] l), trimH (l.drop (findU [58] l + 1))⟩
def oneB (l : List UInt8) : Bool := !decide (findU [58] l = l.length) && mayH (oneV l)
theorem one_eq (l : List UInt8) : oneH l = if oneB l then some (oneV l) else none := by
  unfold oneH oneB oneV
  by_cases h : findU [58] l = l.length
  · rw [if_pos h, decide_eq_true h]; rfl
  · simp only [if_neg h, decide_eq_false h, Bool.not_false, Bool.true_and]
theorem one_true (l : List UInt8) (h : oneB l = true) : oneH l = some (oneV l) := by rw [one_eq, if_pos h]
theorem one_false (l : List UInt8) (h : oneB l = false) : oneH l = none := by rw [one_eq, h]; rfl
/-! Trimmed at both ends, in either order. -/
/-! Line by line. -/
theorem lines_none (f : Nat) (b : List UInt8) (n : Nat) (out : List HdV) (h : (10 : UInt8) ∉ b) : linesH (f + 1) b n out = ([], 0, if 8192 < n + b.length then 3 else 10) := by
  unfold linesH
  rw [if_pos (find_miss 10 b h)]
theorem lines_far (f : Nat) (a x : List UInt8) (n : Nat) (out : List HdV) (h : (10 : UInt8) ∉ a) (hf : 8192 < n + a.length + 1) : linesH (f + 1) (a ++ 10 :: x) n out = ([], 0, 3) := by
  have e := find_byte 10 a x h
  unfold linesH
  rw [if_neg (by rw [e]; simp), e, if_pos hf]
theorem lines_end (f : Nat) (a x : List UInt8) (n : Nat) (out : List HdV) (h : (10 : UInt8) ∉ a) (hf : ¬ 8192 < n + a.length + 1) (hc : crH a = []) : linesH (f + 1) (a ++ 10 :: x) n out = (out, n + a.length + 1, 0) := by
  have e := find_byte 10 a x h
  unfold linesH
  rw [if_neg (by rw [e]; simp), e, if_neg hf, List.take_left, if_pos hc]
theorem lines_bad (f : Nat) (a x : List UInt8) (n : Nat) (out : List HdV) (h : (10 : UInt8) ∉ a) (hf : ¬ 8192 < n + a.length + 1) (hc : ¬ crH a = []) (ho : oneB (crH a) = false) : linesH (f + 1) (a ++ 10 :: x) n out = ([], 0, 5) := by
  have e := find_byte 10 a x h
  unfold linesH
  rw [if_neg (by rw [e]; simp), e, if_neg hf, List.take_left, if_neg hc, one_false _ ho]
theorem lines_many (f : Nat) (a x : List UInt8) (n : Nat) (out : List HdV) (h : (10 : UInt8) ∉ a) (hf : ¬ 8192 < n + a.length + 1) (hc : ¬ crH a = []) (ho : oneB (crH a) = true) (hm : out.length = 64) : linesH (f + 1) (a ++ 10 :: x) n out = ([], 0, 3) := by
  have e := find_byte 10 a x h
  unfold linesH
  rw [if_neg (by rw [e]; simp), e, if_neg hf, List.take_left, if_neg hc, one_true _ ho]
  exact if_pos hm
theorem lines_on (f : Nat) (a x : List UInt8) (n : Nat) (out : List HdV) (h : (10 : UInt8) ∉ a) (hf : ¬ 8192 < n + a.length + 1) (hc : ¬ crH a = []) (ho : oneB (crH a) = true) (hm : ¬ out.length = 64) : linesH (f + 1) (a ++ 10 :: x) n out = linesH f x (n + a.length + 1) (out ++ [oneV (crH a)]) := by
  have e := find_byte 10 a x h
  have ed : (a ++ 10 :: x).drop (a.length + 1) = x := by simp
  conv => lhs; unfold linesH
  rw [if_neg (by rw [e]; simp), e, if_neg hf, List.take_left, if_neg hc, one_true _ ho, ed]
  simp only
  rw [if_neg hm]
/-- What is left of the bytes b behind n of them, with the headers out, ends as b does. -/
def LeadsH (b : List UInt8) (n : Nat) (out : List HdV) : Prop := ∃ f, b.length - n < f ∧ linesH f (b.drop n) n out = parseH b
theorem LeadsH.pos {b : List UInt8} {n : Nat} {out : List HdV} (h : LeadsH b n out) : ∃ f, b.length - n < f + 1 ∧ linesH (f + 1) (b.drop n) n out = parseH b := by
  obtain ⟨f, h1, h2⟩ := h
  match f, h1, h2 with
  | 0, h1, _ => omega
  | f + 1, h1, h2 => exact ⟨f, h1, h2⟩
/-- A line's end, a bytes behind n. -/
def LineAt (b : List UInt8) (n : Nat) (a : List UInt8) : Prop := (10 : UInt8) ∉ a ∧ b.drop n = a ++ 10 :: b.drop (n + a.length + 1)
theorem LeadsH.none {b : List UInt8} {n : Nat} {out : List HdV} (h : LeadsH b n out) (hn : n ≤ b.length) (hno : (10 : UInt8) ∉ b.drop n) : parseH b = ([], 0, if 8192 < b.length then 3 else 10) := by
  obtain ⟨f, h1, h2⟩ := h.pos
  rw [← h2, lines_none f _ n out hno, List.length_drop, show n + (b.length - n) = b.length from by omega]
theorem LeadsH.far {b : List UInt8} {n : Nat} {out : List HdV} {a : List UInt8} (h : LeadsH b n out) (hl : LineAt b n a) (hf : 8192 < n + a.length + 1) : parseH b = ([], 0, 3) := by
  obtain ⟨f, h1, h2⟩ := h.pos
  rw [← h2, hl.2, lines_far f a _ n out hl.1 hf]
theorem LeadsH.end {b : List UInt8} {n : Nat} {out : List HdV} {a : List UInt8} (h : LeadsH b n out) (hl : LineAt b n a) (hf : n + a.length + 1 ≤ 8192) (hc : crH a = []) : parseH b = (out, n + a.length + 1, 0) := by
  obtain ⟨f, h1, h2⟩ := h.pos
  rw [← h2, hl.2, lines_end f a _ n out hl.1 (by omega) hc]
theorem LeadsH.bad {b : List UInt8} {n : Nat} {out : List HdV} {a : List UInt8} (h : LeadsH b n out) (hl : LineAt b n a) (hf : n + a.length + 1 ≤ 8192) (hc : ¬ crH a = []) (ho : oneB (crH a) = false) : parseH b = ([], 0, 5) := by
  obtain ⟨f, h1, h2⟩ := h.pos
  rw [← h2, hl.2, lines_bad f a _ n out hl.1 (by omega) hc ho]
theorem LeadsH.many {b : List UInt8} {n : Nat} {out : List HdV} {a : List UInt8} (h : LeadsH b n out) (hl : LineAt b n a) (hf : n + a.length + 1 ≤ 8192) (hc : ¬ crH a = []) (ho : oneB (crH a) = true) (hm : out.length = 64) : parseH b = ([], 0, 3) := by
  obtain ⟨f, h1, h2⟩ := h.pos
  rw [← h2, hl.2, lines_many f a _ n out hl.1 (by omega) hc ho hm]
theorem LineAt.le {b : List UInt8} {n : Nat} {a : List UInt8} (h : LineAt b n a) : n + a.length + 1 ≤ b.length := by
  have := congrArg List.length h.2
  simp only [List.length_drop, List.length_append, List.length_cons] at this
  omega
theorem LeadsH.on {b : List UInt8} {n : Nat} {out : List HdV} {a : List UInt8} (h : LeadsH b n out) (hl : LineAt b n a) (hf : n + a.length + 1 ≤ 8192) (hc : ¬ crH a = []) (ho : oneB (crH a) = true) (hm : ¬ out.length = 64) : LeadsH b (n + a.length + 1) (out ++ [oneV (crH a)]) := by
  obtain ⟨f, h1, h2⟩ := h.pos
  have := hl.le
  refine ⟨f, by omega, ?_⟩
  rw [← h2, hl.2, lines_on f a _ n out hl.1 (by omega) hc ho hm]
end Go.Proofs.YthjibliaofmlhaaGreatDoor
namespace Go.Proofs.YthjibliaofmlhaaGreatDoor
set_option linter.unusedVariables false
set_option linter.unusedSimpArgs false

/-! Numbers in hexadecimal digits. -/
def isHx (c : UInt8) : Bool := decide (48 ≤ c.toNat ∧ c.toNat ≤ 57) || decide (97 ≤ c.toNat ∧ c.toNat ≤ 102) || decide (65 ≤ c.toNat ∧ c.toNat ≤ 70)
def hxv (c : UInt8) : Nat := if 48 ≤ c.toNat ∧ c.toNat ≤ 57 then c.toNat - 48 else if 97 ≤ c.toNat ∧ c.toNat ≤ 102 then c.toNat - 97 + 10 else c.toNat - 65 + 10
def valC (l : List UInt8) : Nat := l.foldl (fun n c => n * 16 + hxv c) 0
/-- How many bytes a line says there are; -1: it is none. -/
def szC (s : List UInt8) : Int := if 256 < s.length ∨ (13 : UInt8) ∈ s ∨ findU [59] s < 1 ∨ 8 < findU [59] s ∨ (s.take (findU [59] s)).all isHx = false then -1 else (valC (s.take (findU [59] s)) : Int)
/-! Put together. -/
/-! Read. -/
/-- The rest r of the bytes, 'at' of them behind, the body so far. -/
def decC : Nat → List UInt8 → Nat → List UInt8 → List UInt8 × Nat × Int
  | 0, _, _, _ => ([], 0, 10)
  | f + 1, r, at0, body =>
    if findU [10] r = r.length ∧ r.length < 258 then ([], 0, 10)
    else if 258 ≤ findU [10] r ∨ findU [10] r = 0 ∨ r.getD (findU [10] r - 1) 0 ≠ 13 then ([], 0, 5)
    else if szC (r.take (findU [10] r - 1)) < 0 then ([], 0, 5)
    else if szC (r.take (findU [10] r - 1)) = 0 then
      (if (parseH (r.drop (findU [10] r + 1))).2.2 ≠ 0 then ([], 0, (parseH (r.drop (findU [10] r + 1))).2.2) else (body, at0 + (findU [10] r + 1) + (parseH (r.drop (findU [10] r + 1))).2.1, 0))
    else if 32768 < (body.length : Int) + szC (r.take (findU [10] r - 1)) then ([], 0, 3)
    else if (r.drop (findU [10] r + 1)).length ≤ (szC (r.take (findU [10] r - 1))).toNat then ([], 0, 10)
    else if (r.drop (findU [10] r + 1)).getD (szC (r.take (findU [10] r - 1))).toNat 0 ≠ 13 then ([], 0, 5)
    else if (r.drop (findU [10] r + 1)).length ≤ (szC (r.take (findU [10] r - 1))).toNat + 1 then ([], 0, 10)
    else if (r.drop (findU [10] r + 1)).getD ((szC (r.take (findU [10] r - 1))).toNat + 1) 0 ≠ 10 then ([], 0, 5)
    else decC f ((r.drop (findU [10] r + 1)).drop ((szC (r.take (findU [10] r - 1))).toNat + 2)) (at0 + (findU [10] r + 1) + ((szC (r.take (findU [10] r - 1))).toNat + 2)) (body ++ (r.drop (findU [10] r + 1)).take (szC (r.take (findU [10] r - 1))).toNat)
def decodeC (b : List UInt8) : List UInt8 × Nat × Int := decC (b.length + 1) b 0 []
end Go.Proofs.YthjibliaofmlhaaGreatDoor
namespace Go.Proofs.YthjibliaofmlhaaGreatDoor
set_option linter.unusedVariables false
set_option linter.unusedSimpArgs false

/-! A size's line. -/
/-- A line's digits d: what it says. -/
structure DigsC (s d : List UInt8) : Prop where
  cut : (Lib.cut s [59]).1 = d
  le : d.length ≤ s.length
  find : findU [59] s = d.length
  size : szC s = if 256 < s.length ∨ (13 : UInt8) ∈ s ∨ d.length < 1 ∨ 8 < d.length ∨ d.all isHx = false then -1 else (valC d : Int)
  take : s.take d.length = d
/-! One step. -/
/-- What stands behind a chunk. -/
def chkC (t : List UInt8) (S : Nat) : Int :=
  if t.length ≤ S then 10 else if t.getD S 0 ≠ 13 then 5 else if t.length ≤ S + 1 then 10 else if t.getD (S + 1) 0 ≠ 10 then 5 else 0
def stepC (f : Nat) (t : List UInt8) (S at1 : Nat) (body : List UInt8) : List UInt8 × Nat × Int :=
  if S = 0 then (if (parseH t).2.2 ≠ 0 then ([], 0, (parseH t).2.2) else (body, at1 + (parseH t).2.1, 0))
  else if 32768 < body.length + S then ([], 0, 3)
  else if chkC t S ≠ 0 then ([], 0, chkC t S)
  else decC f (t.drop (S + 2)) (at1 + (S + 2)) (body ++ t.take S)
/-- What a line tells: how many bytes, how long it is, or why it is none. -/
structure LineC (r : List UInt8) (S N : Nat) (E : Int) : Prop where
  none : E ≠ 0 → S = 0 ∧ N = 0 ∧ ∀ f at0 body, decC (f + 1) r at0 body = ([], 0, E)
  some : E = 0 → 0 < N ∧ N ≤ r.length ∧ S < 4294967296 ∧ ∀ f at0 body, decC (f + 1) r at0 body = stepC f (r.drop N) S (at0 + N) body
theorem LineC.bad {r : List UInt8} {E : Int} (h0 : E ≠ 0) (h : ∀ f at0 body, decC (f + 1) r at0 body = ([], 0, E)) : LineC r 0 0 E := ⟨fun _ => ⟨rfl, rfl, h⟩, fun h => absurd h h0⟩
theorem chk_ok (t : List UInt8) (S : Nat) (h : chkC t S = 0) : S + 2 ≤ t.length := by
  unfold chkC at h
  by_cases h1 : t.length ≤ S
  · rw [if_pos h1] at h; cases h
  · rw [if_neg h1] at h
    by_cases h2 : t.getD S 0 ≠ 13
    · rw [if_pos h2] at h; cases h
    · rw [if_neg h2] at h
      by_cases h3 : t.length ≤ S + 1
      · rw [if_pos h3] at h; cases h
      · omega
/-! The whole, from the bytes that are left. -/
def LeadsC (b : List UInt8) (k : Nat) (body : List UInt8) : Prop := ∃ f, b.length - k < f ∧ decC f (b.drop k) k body = decodeC b
theorem LeadsC.pos {b : List UInt8} {k : Nat} {body : List UInt8} (h : LeadsC b k body) : ∃ f, b.length - k < f + 1 ∧ decC (f + 1) (b.drop k) k body = decodeC b := by
  obtain ⟨f, h1, h2⟩ := h
  match f, h1, h2 with
  | 0, h1, _ => omega
  | f + 1, h1, h2 => exact ⟨f, h1, h2⟩
theorem LeadsC.none {b : List UInt8} {k : Nat} {body : List UInt8} {S N : Nat} {E : Int} (h : LeadsC b k body) (hl : LineC (b.drop k) S N E) (he : E ≠ 0) : decodeC b = ([], 0, E) := by
  obtain ⟨f, h1, h2⟩ := h.pos
  rw [← h2, (hl.none he).2.2]
theorem LeadsC.step {b : List UInt8} {k : Nat} {body : List UInt8} {S N : Nat} (h : LeadsC b k body) (hl : LineC (b.drop k) S N 0) : ∃ f, b.length - k < f + 1 ∧ decodeC b = stepC f (b.drop (k + N)) S (k + N) body := by
  obtain ⟨f, h1, h2⟩ := h.pos
  refine ⟨f, h1, ?_⟩
  rw [← h2, (hl.some rfl).2.2.2, List.drop_drop]
theorem LeadsC.end {b : List UInt8} {k : Nat} {body : List UInt8} {N : Nat} (h : LeadsC b k body) (hl : LineC (b.drop k) 0 N 0) : decodeC b = if (parseH (b.drop (k + N))).2.2 ≠ 0 then ([], 0, (parseH (b.drop (k + N))).2.2) else (body, k + N + (parseH (b.drop (k + N))).2.1, 0) := by
  obtain ⟨f, h1, h2⟩ := h.step hl
  rw [h2]
  unfold stepC
  rw [if_pos rfl]
theorem LeadsC.chk {b : List UInt8} {k : Nat} {body : List UInt8} {S N : Nat} (h : LeadsC b k body) (hl : LineC (b.drop k) S N 0) (hS : S ≠ 0) (hb : ¬ 32768 < body.length + S) (hc : chkC (b.drop (k + N)) S ≠ 0) : decodeC b = ([], 0, chkC (b.drop (k + N)) S) := by
  obtain ⟨f, h1, h2⟩ := h.step hl
  rw [h2]
  unfold stepC
  rw [if_neg hS, if_neg hb, if_pos hc]
theorem LeadsC.on {b : List UInt8} {k : Nat} {body : List UInt8} {S N : Nat} (h : LeadsC b k body) (hl : LineC (b.drop k) S N 0) (hS : S ≠ 0) (hb : ¬ 32768 < body.length + S) (hc : chkC (b.drop (k + N)) S = 0) : k + N + (S + 2) ≤ b.length ∧ LeadsC b (k + N + (S + 2)) (body ++ (b.drop (k + N)).take S) := by
  obtain ⟨f, h1, h2⟩ := h.step hl
  have h3 := chk_ok _ _ hc
  rw [List.length_drop] at h3
  have h4 := (hl.some rfl).1
  refine ⟨by omega, f, by omega, ?_⟩
  rw [h2]
  unfold stepC
  rw [if_neg hS, if_neg hb, if_neg (by simpa using hc), List.drop_drop]
/-! How long what is put together is. -/
end Go.Proofs.YthjibliaofmlhaaGreatDoor
namespace Go.Proofs.YthjibliaofmlhaaGreatDoor
set_option linter.unusedVariables false
set_option linter.unusedSimpArgs false

/-- From a the look for a line's end stands at e. -/
structure ScanC (b : List UInt8) (a e : Nat) : Prop where
  ge : a ≤ e
  le : e ≤ b.length
  on : ∀ i, a ≤ i → i < e → b.getD i 0 ≠ 10 ∧ i < a + 258
  upto : e ≤ a + 258
/-- m bytes of a chunk and its end are looked at. -/
structure CopyC (t : List UInt8) (S m : Nat) : Prop where
  le : m ≤ t.length
  cr : S < m → t.getD S 0 = 13
  lf : S + 1 < m → t.getD (S + 1) 0 = 10
theorem CopyC.zero (t : List UInt8) (S : Nat) : CopyC t S 0 := ⟨Nat.zero_le _, fun h => by omega, fun h => by omega⟩
theorem CopyC.done {t : List UInt8} {S : Nat} (h : CopyC t S (S + 2)) : chkC t S = 0 := by
  have hl := h.le
  unfold chkC
  rw [if_neg (by omega), if_neg (by rw [h.cr (by omega)]; simp), if_neg (by omega), if_neg (by rw [h.lf (by omega)]; simp)]
theorem CopyC.step {t : List UInt8} {S m : Nat} (h : CopyC t S m) (hm : m < t.length) (h1 : m = S → t.getD S 0 = 13) (h2 : m = S + 1 → t.getD (S + 1) 0 = 10) : CopyC t S (m + 1) :=
  ⟨by omega, fun hh => by
    rcases Nat.lt_or_ge S m with h3 | h3
    · exact h.cr h3
    · exact h1 (by omega), fun hh => by
    rcases Nat.lt_or_ge (S + 1) m with h3 | h3
    · exact h.lf h3
    · exact h2 (by omega)⟩
end Go.Proofs.YthjibliaofmlhaaGreatDoor
namespace Go.Proofs.YthjibliaofmlhaaGreatDoor
set_option linter.unusedVariables false
set_option linter.unusedSimpArgs false

/-- A node but for its kids: name, attributes, text. -/
abbrev Lab := List UInt8 × List HdV × List UInt8
/-- Nodes of so many levels below the first. -/
def Tr : Nat → Type
  | 0 => Lab
  | d + 1 => Lab × List (Tr d)
def lab : (d : Nat) → Tr d → Lab
  | 0, t => t
  | _ + 1, t => t.1
def leaf : (d : Nat) → Lab → Tr d
  | 0, l => l
  | _ + 1, l => (l, [])
theorem lab_leaf (d : Nat) (l : Lab) : lab d (leaf d l) = l := by cases d <;> rfl
def nmT (d : Nat) (t : Tr d) : List UInt8 := (lab d t).1
def txT (d : Nat) (t : Tr d) : List UInt8 := (lab d t).2.2

def letX (c : UInt8) : Bool := (97 ≤ c.toNat && c.toNat ≤ 122) || (65 ≤ c.toNat && c.toNat ≤ 90) || c.toNat == 95
def latX (c : UInt8) : Bool := letX c || (48 ≤ c.toNat && c.toNat ≤ 57) || c.toNat == 46 || c.toNat == 45 || c.toNat == 58
def nameX (l : List UInt8) : Bool := decide (1 ≤ l.length) && decide (l.length ≤ 64) && letX (l.getD 0 0) && l.all latX
def whX (c : UInt8) : Bool := c.toNat == 32 || c.toNat == 9 || c.toNat == 10 || c.toNat == 13
def preX (p l : List UInt8) : Bool := p.isPrefixOf l

/-! ### What may be -/
def distN : List (List UInt8) → Bool
  | [] => true
  | a :: r => !r.contains a && distN r
def attsOk (l : List HdV) : Bool := l.all (fun a => nameX a.name && X a.value) && distN (l.map (·.name))
def noAdj : List Bool → Bool
  | a :: b :: r => !(a && b) && noAdj (b :: r)
  | _ => true
def mayTop (l : Lab) (bare kidsOk : Bool) : Bool :=
  if l.1.isEmpty then !l.2.2.isEmpty && l.2.1.isEmpty && bare && X l.2.2 else nameX l.1 && l.2.2.isEmpty && attsOk l.2.1 && kidsOk
def mayT : (d : Nat) → Tr d → Bool
  | 0, t => mayTop t true true
  | d + 1, t => mayTop t.1 t.2.isEmpty (t.2.all (mayT d) && noAdj (t.2.map fun k => (nmT d k).isEmpty))
def maxL (l : List Nat) : Nat := l.foldr Nat.max 0
def deepT : (d : Nat) → Tr d → Nat
  | 0, t => if t.1.isEmpty then 0 else 1
  | d + 1, t => if t.1.1.isEmpty then 0 else maxL (t.2.map (deepT d)) + 1
/-! ### Put together -/
/-! ### Read -/
/-- Up to a text, and what is behind it; none: it does not come. -/
def untX (p : List UInt8) : List UInt8 → Option (List UInt8 × List UInt8)
  | [] => none
  | c :: r => if preX p (c :: r) then some ([], (c :: r).drop p.length) else (untX p r).map fun q => (c :: q.1, q.2)
def hdW : List UInt8 → Bool
  | c :: _ => whX c
  | [] => false
/-- White, comments and notes (only the last two, if not all). -/
def asX (all : Bool) : Nat → List UInt8 → Except Nat (List UInt8)
  | 0, l => .ok l
  | f + 1, l =>
    if preX [60, 33, 45, 45] l then (match untX [45, 45, 62] (l.drop 4) with
      | none => .error 5
      | some q => asX all f q.2)
    else if preX [60, 63] l then (match untX [63, 62] (l.drop 2) with
      | none => .error 5
      | some q => asX all f q.2)
    else if all && hdW l then asX all f (l.dropWhile whX) else .ok l
def valX (raw : List UInt8) : Option (List UInt8) := unA (blankE (linE raw))
/-- An attribute. -/
def attX (as : List HdV) (l : List UInt8) (m : Nat) : Except Nat (HdV × List UInt8 × Nat) :=
  if !nameX (l.takeWhile latX) then .error 5 else
  match (l.dropWhile latX).dropWhile whX with
  | 61 :: r => (match r.dropWhile whX with
    | q :: r2 => if q = 34 ∨ q = 39 then (match untX [q] r2 with
      | none => .error 5
      | some p => if p.1.contains 60 then .error 5 else (match valX p.1 with
        | none => .error 5
        | some v => if (as.map (·.name)).contains (l.takeWhile latX) then .error 5 else if m + 1 ≤ 4096 then .ok (⟨l.takeWhile latX, v⟩, p.2, m + 1) else .error 3)) else .error 5
    | [] => .error 5)
  | _ => .error 5
/-- Attributes, up to the end of a tag; true: nothing is within. -/
def atsX : Nat → List HdV → List UInt8 → Nat → Except Nat (List HdV × Bool × List UInt8 × Nat)
  | 0, _, _, _ => .error 99
  | f + 1, as, l, m =>
    if preX [47, 62] (l.dropWhile whX) then .ok (as, true, (l.dropWhile whX).drop 2, m)
    else if preX [62] (l.dropWhile whX) then .ok (as, false, (l.dropWhile whX).drop 1, m)
    else if (l.dropWhile whX).length = l.length then .error 5
    else (match attX as (l.dropWhile whX) m with
      | .error e => .error e
      | .ok (a, l2, m2) => atsX f (as ++ [a]) l2 m2)
/-- A tag. -/
def opX (lev : Nat) (l : List UInt8) (m : Nat) : Except Nat (List UInt8 × List HdV × Bool × List UInt8 × Nat) :=
  match l with
  | 60 :: r => if !nameX (r.takeWhile latX) then .error 5 else if lev = 0 then .error 9 else if 4096 < m + 1 then .error 3 else
    (match atsX ((r.dropWhile latX).length + 1) [] (r.dropWhile latX) (m + 1) with
    | .error e => .error e
    | .ok (as, b, l2, m2) => .ok (r.takeWhile latX, as, b, l2, m2))
  | _ => .error 5
/-- A text follows kids. -/
def sayX (d : Nat) (ks : List (Tr d)) (s : List UInt8) (m : Nat) : Except Nat (List (Tr d) × Nat) :=
  if s.isEmpty then .ok (ks, m) else
  match ks.getLast? with
  | some k => if (nmT d k).isEmpty then .ok (ks.dropLast ++ [leaf d ([], [], txT d k ++ s)], m) else if m + 1 ≤ 4096 then .ok (ks ++ [leaf d ([], [], s)], m + 1) else .error 3
  | none => if m + 1 ≤ 4096 then .ok ([leaf d ([], [], s)], m + 1) else .error 3
/-- What is within an element. -/
def kidX (d : Nat) (el : List UInt8 → Nat → Except Nat (Tr d × List UInt8 × Nat)) : Nat → List (Tr d) → List UInt8 → Nat → Except Nat (List (Tr d) × List UInt8 × Nat)
  | 0, _, _, _ => .error 99
  | f + 1, ks, l, m =>
    if preX [60, 47] l then .ok (ks, l, m)
    else if preX [60, 33, 45, 45] l || preX [60, 63] l then (match asX false l.length l with
      | .error e => .error e
      | .ok l2 => kidX d el f ks l2 m)
    else if preX [60, 33, 91, 67, 68, 65, 84, 65, 91] l then (match untX [93, 93, 62] (l.drop 9) with
      | none => .error 5
      | some q => (match sayX d ks q.1 m with
        | .error e => .error e
        | .ok (ks2, m2) => kidX d el f ks2 q.2 m2))
    else if preX [60] l then (match el l m with
      | .error e => .error e
      | .ok (t, l2, m2) => kidX d el f (ks ++ [t]) l2 m2)
    else if (untX [93, 93, 62] (l.takeWhile (· != 60))).isSome || (l.dropWhile (· != 60)).isEmpty then .error 5
    else (match unA (l.takeWhile (· != 60)) with
      | none => .error 5
      | some s => (match sayX d ks s m with
        | .error e => .error e
        | .ok (ks2, m2) => kidX d el f ks2 (l.dropWhile (· != 60)) m2))
/-- The end of an element. -/
def clX (n l : List UInt8) : Option (List UInt8) :=
  if (l.drop 2).takeWhile latX = n then (match ((l.drop 2).dropWhile latX).dropWhile whX with
    | 62 :: r => some r
    | _ => none) else none
/-- An element, so many levels being left. -/
def elX : (d : Nat) → Nat → List UInt8 → Nat → Except Nat (Tr d × List UInt8 × Nat)
  | 0, lev, l, m => (match opX lev l m with
    | .error e => .error e
    | .ok (n, as, true, l2, m2) => .ok ((n, as, []), l2, m2)
    | .ok (_, _, false, _, _) => .error 98)
  | d + 1, lev, l, m => (match opX lev l m with
    | .error e => .error e
    | .ok (n, as, true, l2, m2) => .ok (((n, as, []), []), l2, m2)
    | .ok (n, as, false, l2, m2) => (match kidX d (elX d (lev - 1)) (l2.length + 1) [] l2 m2 with
      | .error e => .error e
      | .ok (ks, l3, m3) => (match clX n l3 with
        | none => .error 5
        | some r => .ok (((n, as, []), ks), r, m3))))
/-- A file. -/
def parX (s : List UInt8) : Except Nat (Tr 40) :=
  if 65536 < s.length then .error 3 else if !X s then .error 5 else
  match asX true ((linE s).length) (linE s) with
  | .error e => .error e
  | .ok l1 => if preX [60, 33, 68, 79, 67, 84, 89, 80, 69] l1 then .error 8 else (match elX 40 16 l1 0 with
    | .error e => .error e
    | .ok (t, l2, _) => (match asX true l2.length l2 with
      | .error e => .error e
      | .ok l3 => if l3.isEmpty then .ok t else .error 5))
end Go.Proofs.YthjibliaofmlhaaGreatDoor
namespace Go.Proofs.YthjibliaofmlhaaGreatDoor
set_option linter.unusedVariables false
set_option linter.unusedSimpArgs false

theorem name_head {n : List UInt8} (h : nameX n = true) : ∃ c r, n = c :: r ∧ letX c = true := by
  unfold nameX at h
  simp only [Bool.and_eq_true, decide_eq_true_eq] at h
  cases n with
  | nil => simp at h
  | cons c r => exact ⟨c, r, rfl, by simpa using h.1.2⟩
theorem name_ne {n : List UInt8} (h : nameX n = true) : n ≠ [] := by
  obtain ⟨c, r, rfl, _⟩ := name_head h
  simp
/-! ### Values of attributes -/
/-! ### Trees -/
def lastB (d : Nat) (ks : List (Tr d)) : Bool := match ks.getLast? with
  | some k => (nmT d k).isEmpty
  | none => false
theorem say_push (d : Nat) (ks : List (Tr d)) (s : List UInt8) (m : Nat) (hs : s ≠ []) (hl : lastB d ks = false) (hm : m + 1 ≤ 4096) : sayX d ks s m = .ok (ks ++ [leaf d ([], [], s)], m + 1) := by
  unfold sayX
  rw [show s.isEmpty = false from by cases s <;> simp at hs ⊢]
  simp only [Bool.false_eq_true, if_false]
  unfold lastB at hl
  cases hk : ks.getLast? with
  | none =>
    simp only
    rw [if_pos hm, List.getLast?_eq_none_iff.1 hk]; rfl
  | some k =>
    rw [hk] at hl
    simp only at hl ⊢
    rw [hl]
    simp only [Bool.false_eq_true, if_false]
    rw [if_pos hm]
theorem last_snoc (d : Nat) (ks : List (Tr d)) (k : Tr d) : lastB d (ks ++ [k]) = (nmT d k).isEmpty := by
  unfold lastB
  rw [List.getLast?_concat]
theorem pre_not {p : List UInt8} {c : UInt8} {r : List UInt8} (hp : ∃ q, p = 60 :: q) (hc : c ≠ 60) : preX p (c :: r) = false := by
  obtain ⟨q, rfl⟩ := hp
  simp only [preX, List.isPrefixOf, Bool.and_eq_false_iff, beq_eq_false_iff_ne]
  exact .inl (fun e => hc e.symm)
theorem sum_mem {α : Type} (f : α → Nat) {l : List α} {x : α} (h : x ∈ l) : f x ≤ (l.map f).sum := by
  induction l with
  | nil => simp at h
  | cons a l ih =>
    rw [List.map_cons, List.sum_cons]
    rcases List.mem_cons.1 h with rfl | h
    · omega
    · have := ih h; omega
end Go.Proofs.YthjibliaofmlhaaGreatDoor
namespace Go.Proofs.YthjibliaofmlhaaGreatDoor
set_option linter.unusedVariables false
set_option linter.unusedSimpArgs false

end Go.Proofs.YthjibliaofmlhaaGreatDoor
namespace Go.Proofs.YthjibliaofmlhaaGreatDoor
set_option linter.unusedVariables false
set_option linter.unusedSimpArgs false

theorem unt_some (p : List UInt8) (hp : p ≠ []) : ∀ (l a b : List UInt8), untX p l = some (a, b) → l = a ++ (p ++ b)
  | [], a, b, h => by simp [untX] at h
  | c :: r, a, b, h => by
    simp only [untX] at h
    split at h
    · rename_i hq
      have h2 := Option.some.inj h
      have ha : a = [] := (congrArg Prod.fst h2).symm
      have hb : b = (c :: r).drop p.length := (congrArg Prod.snd h2).symm
      subst ha
      rw [hb, List.nil_append]
      unfold preX at hq
      obtain ⟨z, hz⟩ := List.isPrefixOf_iff_prefix.1 hq
      rw [← hz]
      simp
    · cases hu : untX p r with
      | none => rw [hu] at h; cases h
      | some q =>
        rw [hu] at h
        have h2 := Option.some.inj h
        have ha : a = c :: q.1 := (congrArg Prod.fst h2).symm
        have hb : b = q.2 := (congrArg Prod.snd h2).symm
        have ih := unt_some p hp r q.1 q.2 (by rw [hu])
        rw [ha, hb, List.cons_append, ← ih]
/-- Kids that may be. -/
structure KidsOk (d lev : Nat) (ks : List (Tr d)) : Prop where
  all : ks.all (mayT d) = true
  adj : noAdj (ks.map fun k => (nmT d k).isEmpty) = true
  deep : ∀ k ∈ ks, deepT d k ≤ lev
end Go.Proofs.YthjibliaofmlhaaGreatDoor
namespace Go.Proofs.YthjibliaofmlhaaGreatDoor
set_option linter.unusedVariables false
set_option linter.unusedSimpArgs false

theorem el_err {d lev : Nat} {l : List UInt8} {m e : Nat} (h : opX lev l m = .error e) : elX d lev l m = .error e := by
  cases d with
  | zero => simp only [elX]; rw [h]
  | succ d => simp only [elX]; rw [h]
end Go.Proofs.YthjibliaofmlhaaGreatDoor
namespace Go.Proofs.YthjibliaofmlhaaGreatDoor
set_option linter.unusedVariables false
set_option linter.unusedSimpArgs false

/-- A part at the end, and shorter. -/
def Sh (a l : List UInt8) : Prop := a <:+ l ∧ a.length < l.length
theorem Sh.le {a l : List UInt8} (h : Sh a l) {b : List UInt8} (k : l <:+ b) : Sh a b := ⟨h.1.trans k, Nat.lt_of_lt_of_le h.2 k.length_le⟩
theorem Sh.of {a l b : List UInt8} (h : a <:+ l) (k : Sh l b) : Sh a b := ⟨h.trans k.1, Nat.lt_of_le_of_lt h.length_le k.2⟩
theorem sh_cons (c : UInt8) (r : List UInt8) : Sh r (c :: r) := ⟨List.suffix_cons c r, by simp⟩
theorem unt_sh {p l a b : List UInt8} (hp : p ≠ []) (h : untX p l = some (a, b)) : Sh b l := by
  have e := unt_some p hp l a b h
  have : 0 < p.length := List.length_pos_iff.2 hp
  exact ⟨⟨a ++ p, by rw [e, List.append_assoc]⟩, by rw [e]; simp; omega⟩
theorem dw_suf (p : UInt8 → Bool) (l : List UInt8) : l.dropWhile p <:+ l := List.dropWhile_suffix p
theorem pre_cons {a : UInt8} {p l : List UInt8} (h : preX (a :: p) l = true) : ∃ r, l = a :: r ∧ preX p r = true := by
  cases l with
  | nil => simp [preX] at h
  | cons c r =>
    unfold preX at h ⊢
    rw [List.isPrefixOf, Bool.and_eq_true, beq_iff_eq] at h
    exact ⟨r, by rw [h.1], h.2⟩
theorem pre_drop {p l : List UInt8} (h : preX p l = true) (hp : p ≠ []) : Sh (l.drop p.length) l := by
  have h1 : p <+: l := List.isPrefixOf_iff_prefix.1 h
  have h2 := h1.length_le
  have : 0 < p.length := List.length_pos_iff.2 hp
  exact ⟨List.drop_suffix _ _, by rw [List.length_drop]; omega⟩
/-! Comments and notes. -/
theorem as_sh (all : Bool) : ∀ (f : Nat) (l l2 : List UInt8), asX all f l = .ok l2 → l2 <:+ l
  | 0, l, l2, h => by
    unfold asX at h
    injection h with h
    rw [h]; exact List.suffix_refl _
  | f + 1, l, l2, h => by
    rw [asX] at h
    split at h
    · split at h
      · cases h
      · rename_i q hq
        exact (as_sh all f q.2 l2 h).trans ((unt_sh (by simp) hq).1.trans (List.drop_suffix _ _))
    · split at h
      · split at h
        · cases h
        · rename_i q hq
          exact (as_sh all f q.2 l2 h).trans ((unt_sh (by simp) hq).1.trans (List.drop_suffix _ _))
      · split at h
        · exact (as_sh all f _ l2 h).trans (dw_suf _ _)
        · injection h with h
          rw [h]; exact List.suffix_refl _
theorem hd_dw {l : List UInt8} (h : hdW l = true) : Sh (l.dropWhile whX) l := by
  cases l with
  | nil => simp [hdW] at h
  | cons c r =>
    have hc : whX c = true := h
    rw [List.dropWhile_cons, hc]
    exact Sh.of (dw_suf _ _) (sh_cons c r)
theorem as_fuel (all : Bool) : ∀ (n f g : Nat) (l : List UInt8), l.length ≤ n → l.length ≤ f → l.length ≤ g → asX all f l = asX all g l := by
  intro n
  induction n with
  | zero =>
    intro f g l h0 _ _
    have : l = [] := List.length_eq_zero_iff.1 (by omega)
    subst this
    have : ∀ k, asX all k [] = .ok [] := fun k => by cases k <;> simp [asX, preX, hdW]
    rw [this, this]
  | succ n ih =>
    intro f g l h0 hf hg
    by_cases hn : l.length = 0
    · have : l = [] := List.length_eq_zero_iff.1 hn
      subst this
      have : ∀ k, asX all k [] = .ok [] := fun k => by cases k <;> simp [asX, preX, hdW]
      rw [this, this]
    obtain ⟨f, rfl⟩ : ∃ f', f = f' + 1 := ⟨f - 1, by omega⟩
    obtain ⟨g, rfl⟩ : ∃ g', g = g' + 1 := ⟨g - 1, by omega⟩
    rw [asX, asX]
    have key : ∀ b, Sh b l → asX all f b = asX all g b := fun b hb => ih f g b (by have := hb.2; omega) (by have := hb.2; omega) (by have := hb.2; omega)
    split
    · rename_i h1
      split
      · rfl
      · rename_i q hq
        exact key _ ((unt_sh (by simp) hq).le (List.drop_suffix _ _))
    · split
      · split
        · rfl
        · rename_i q hq
          exact key _ ((unt_sh (by simp) hq).le (List.drop_suffix _ _))
      · split
        · rename_i h3
          rw [Bool.and_eq_true] at h3
          exact key _ (hd_dw h3.2)
        · rfl
/-- White, comments and notes. -/
def asW (all : Bool) (l : List UInt8) : Except Nat (List UInt8) := asX all l.length l
theorem asW_of (all : Bool) (f : Nat) (l : List UInt8) (h : l.length ≤ f) : asX all f l = asW all l := as_fuel all l.length f l.length l (Nat.le_refl _) h (Nat.le_refl _)
theorem asW_c (all : Bool) {l : List UInt8} (h : preX [60, 33, 45, 45] l = true) : asW all l = (match untX [45, 45, 62] (l.drop 4) with
    | none => .error 5
    | some q => asW all q.2) := by
  have hs := pre_drop h (by simp)
  rw [← asW_of all (l.length + 1) l (by omega), asX, if_pos h]
  cases hu : untX [45, 45, 62] (l.drop 4) with
  | none => rfl
  | some q => exact asW_of all _ _ (by have := ((unt_sh (by simp) hu).le (List.drop_suffix 4 l)).2; omega)
theorem asW_n (all : Bool) {l : List UInt8} (h0 : preX [60, 33, 45, 45] l = false) (h : preX [60, 63] l = true) : asW all l = (match untX [63, 62] (l.drop 2) with
    | none => .error 5
    | some q => asW all q.2) := by
  rw [← asW_of all (l.length + 1) l (by omega), asX, if_neg (by rw [h0]; simp), if_pos h]
  cases hu : untX [63, 62] (l.drop 2) with
  | none => rfl
  | some q => exact asW_of all _ _ (by have := ((unt_sh (by simp) hu).le (List.drop_suffix 2 l)).2; omega)
theorem asW_w {l : List UInt8} (h0 : preX [60, 33, 45, 45] l = false) (h1 : preX [60, 63] l = false) (h : hdW l = true) : asW true l = asW true (l.dropWhile whX) := by
  have hs := hd_dw h
  rw [← asW_of true (l.length + 1) l (by omega), asX, if_neg (by rw [h0]; simp), if_neg (by rw [h1]; simp), if_pos (by rw [h]; rfl)]
  exact asW_of true _ _ (by have := hs.2; omega)
theorem asW_ok (all : Bool) {l : List UInt8} (h0 : preX [60, 33, 45, 45] l = false) (h1 : preX [60, 63] l = false) (h : (all && hdW l) = false) : asW all l = .ok l := by
  rw [← asW_of all (l.length + 1) l (by omega), asX, if_neg (by rw [h0]; simp), if_neg (by rw [h1]; simp), if_neg (by rw [h]; simp)]
/-! Attributes, a tag. -/
theorem att_sh {as : List HdV} {l : List UInt8} {m : Nat} {a : HdV} {l2 : List UInt8} {m2 : Nat} (h : attX as l m = .ok (a, l2, m2)) : Sh l2 l ∧ m2 = m + 1 ∧ m + 1 ≤ 4096 := by
  unfold attX at h
  split at h
  · cases h
  · split at h
    · rename_i r hr
      split at h
      · rename_i q r2 hr2
        split at h
        · split at h
          · cases h
          · rename_i p hp
            split at h
            · cases h
            · split at h
              · cases h
              · split at h
                · cases h
                · split at h
                  · rename_i hm
                    injection h with h
                    injection h with h1 h2
                    injection h2 with h2 h3
                    refine ⟨?_, h3.symm, hm⟩
                    rw [← h2]
                    have s1 := unt_sh (by simp) hp
                    have s2 : r2 <:+ r := (List.suffix_cons q r2).trans (by rw [← hr2]; exact dw_suf _ _)
                    have s3 : r <:+ l := (List.suffix_cons 61 r).trans (by rw [← hr]; exact (dw_suf _ _).trans (dw_suf _ _))
                    exact s1.le (s2.trans s3)
                  · cases h
        · cases h
      · cases h
    · cases h
theorem ats_sh : ∀ (f : Nat) (as : List HdV) (l : List UInt8) (m : Nat) (as2 : List HdV) (b : Bool) (l2 : List UInt8) (m2 : Nat), atsX f as l m = .ok (as2, b, l2, m2) → Sh l2 l ∧ m ≤ m2 ∧ (m ≤ 4096 → m2 ≤ 4096)
  | 0, as, l, m, as2, b, l2, m2, h => by simp [atsX] at h
  | f + 1, as, l, m, as2, b, l2, m2, h => by
    rw [atsX] at h
    split at h
    · rename_i hp
      injection h with h
      injection h with h1 h2
      injection h2 with h2 h3
      injection h3 with h3 h4
      subst h3 h4
      exact ⟨(pre_drop hp (by simp)).le (dw_suf _ _), Nat.le_refl _, id⟩
    · split at h
      · rename_i hp
        injection h with h
        injection h with h1 h2
        injection h2 with h2 h3
        injection h3 with h3 h4
        subst h3 h4
        exact ⟨(pre_drop hp (by simp)).le (dw_suf _ _), Nat.le_refl _, id⟩
      · split at h
        · cases h
        · split at h
          · cases h
          · rename_i a la ma ha
            obtain ⟨h1, rfl, h3⟩ := att_sh ha
            obtain ⟨k1, k2, k3⟩ := ats_sh f _ _ _ _ _ _ _ h
            exact ⟨k1.le (h1.1.trans (dw_suf _ _)), by omega, fun _ => k3 h3⟩
theorem op_sh {lev : Nat} {l : List UInt8} {m : Nat} {n : List UInt8} {as : List HdV} {b : Bool} {l2 : List UInt8} {m2 : Nat} (h : opX lev l m = .ok (n, as, b, l2, m2)) : Sh l2 l ∧ m < m2 ∧ m2 ≤ 4096 ∧ nameX n = true ∧ lev ≠ 0 := by
  unfold opX at h
  split at h
  · rename_i r
    split at h
    · cases h
    · rename_i hn
      split at h
      · cases h
      · rename_i hlev
        split at h
        · cases h
        · rename_i hm
          split at h
          · cases h
          · rename_i as' b' l' m' ha
            injection h with h
            injection h with h1 h2
            injection h2 with h2 h3
            injection h3 with h3 h4
            injection h4 with h4 h5
            subst h1 h2 h3 h4 h5
            obtain ⟨k1, k2, k3⟩ := ats_sh _ _ _ _ _ _ _ _ ha
            exact ⟨k1.le ((dw_suf _ _).trans (List.suffix_cons 60 r)), by omega, k3 (by omega), by simpa using hn, hlev⟩
  · cases h
/-! What is within. -/
/-- What is read as an element gets shorter. -/
def Shrinks {α : Type} (el : List UInt8 → Nat → Except Nat (α × List UInt8 × Nat)) : Prop := ∀ l m t l2 m2, m ≤ 4096 → el l m = .ok (t, l2, m2) → Sh l2 l ∧ m2 ≤ 4096
theorem say_le {d : Nat} {ks : List (Tr d)} {s : List UInt8} {m : Nat} {ks2 : List (Tr d)} {m2 : Nat} (h : sayX d ks s m = .ok (ks2, m2)) (hm : m ≤ 4096) : m2 ≤ 4096 := by
  unfold sayX at h
  split at h
  · injection h with h; injection h with h1 h2; omega
  · split at h
    · split at h
      · injection h with h; injection h with h1 h2; omega
      · split at h
        · injection h with h; injection h with h1 h2; omega
        · cases h
    · split at h
      · injection h with h; injection h with h1 h2; omega
      · cases h
theorem kid_sh {d : Nat} {el : List UInt8 → Nat → Except Nat (Tr d × List UInt8 × Nat)} (hel : Shrinks el) : ∀ (f : Nat) (ks : List (Tr d)) (l : List UInt8) (m : Nat) (ks2 : List (Tr d)) (l2 : List UInt8) (m2 : Nat), m ≤ 4096 → kidX d el f ks l m = .ok (ks2, l2, m2) → l2 <:+ l ∧ m2 ≤ 4096 ∧ preX [60, 47] l2 = true
  | 0, ks, l, m, ks2, l2, m2, _, h => by simp [kidX] at h
  | f + 1, ks, l, m, ks2, l2, m2, hm, h => by
    rw [kidX] at h
    split at h
    · rename_i hp
      injection h with h
      injection h with h1 h2
      injection h2 with h2 h3
      subst h2 h3
      exact ⟨List.suffix_refl _, hm, hp⟩
    · split at h
      · split at h
        · cases h
        · rename_i l3 ha
          obtain ⟨k1, k2, k3⟩ := kid_sh hel f _ _ _ _ _ _ hm h
          exact ⟨k1.trans (as_sh _ _ _ _ ha), k2, k3⟩
      · split at h
        · split at h
          · cases h
          · rename_i q hq
            split at h
            · cases h
            · rename_i ks3 m3 hs
              obtain ⟨k1, k2, k3⟩ := kid_sh hel f _ _ _ _ _ _ (say_le hs hm) h
              exact ⟨k1.trans ((unt_sh (by simp) hq).1.trans (List.drop_suffix _ _)), k2, k3⟩
        · split at h
          · split at h
            · cases h
            · rename_i t l3 m3 he
              obtain ⟨e1, e2⟩ := hel _ _ _ _ _ hm he
              obtain ⟨k1, k2, k3⟩ := kid_sh hel f _ _ _ _ _ _ e2 h
              exact ⟨k1.trans e1.1, k2, k3⟩
          · split at h
            · cases h
            · split at h
              · cases h
              · split at h
                · cases h
                · rename_i ks3 m3 hs
                  obtain ⟨k1, k2, k3⟩ := kid_sh hel f _ _ _ _ _ _ (say_le hs hm) h
                  exact ⟨k1.trans (dw_suf _ _), k2, k3⟩
theorem cl_sh {n l r : List UInt8} (h : clX n l = some r) : r <:+ l := by
  unfold clX at h
  split at h
  · split at h
    · rename_i r' hr
      injection h with h
      subst h
      exact (List.suffix_cons 62 r').trans (by rw [← hr]; exact (dw_suf _ _).trans ((dw_suf _ _).trans (List.drop_suffix _ _)))
    · cases h
  · cases h
theorem el_sh : ∀ (d lev : Nat), Shrinks (elX d lev)
  | 0, lev, l, m, t, l2, m2, hm, h => by
    unfold elX at h
    split at h
    · cases h
    · rename_i ho
      injection h with h
      injection h with h1 h2
      injection h2 with h2 h3
      subst h2 h3
      have := op_sh ho
      exact ⟨this.1, this.2.2.1⟩
    · cases h
  | d + 1, lev, l, m, t, l2, m2, hm, h => by
    unfold elX at h
    split at h
    · cases h
    · rename_i ho
      injection h with h
      injection h with h1 h2
      injection h2 with h2 h3
      subst h2 h3
      have := op_sh ho
      exact ⟨this.1, this.2.2.1⟩
    · rename_i ho
      split at h
      · cases h
      · rename_i ks l3 m3 hk
        split at h
        · cases h
        · rename_i r hc
          injection h with h
          injection h with h1 h2
          injection h2 with h2 h3
          subst h2 h3
          obtain ⟨o1, o2, o3, _⟩ := op_sh ho
          obtain ⟨k1, k2, _⟩ := kid_sh (el_sh d (lev - 1)) _ _ _ _ _ _ _ o3 hk
          exact ⟨Sh.of ((cl_sh hc).trans k1) o1, k2⟩
theorem kid_fuel {d : Nat} {el : List UInt8 → Nat → Except Nat (Tr d × List UInt8 × Nat)} (hel : Shrinks el) : ∀ (n f g : Nat) (ks : List (Tr d)) (l : List UInt8) (m : Nat), m ≤ 4096 → l.length ≤ n → l.length + 1 ≤ f → l.length + 1 ≤ g → kidX d el f ks l m = kidX d el g ks l m := by
  intro n
  induction n with
  | zero =>
    intro f g ks l m hm h0 hf hg
    have : l = [] := List.length_eq_zero_iff.1 (by omega)
    subst this
    obtain ⟨f, rfl⟩ : ∃ f', f = f' + 1 := ⟨f - 1, by omega⟩
    obtain ⟨g, rfl⟩ : ∃ g', g = g' + 1 := ⟨g - 1, by omega⟩
    simp [kidX, preX]
  | succ n ih =>
    intro f g ks l m hm h0 hf hg
    obtain ⟨f, rfl⟩ : ∃ f', f = f' + 1 := ⟨f - 1, by omega⟩
    obtain ⟨g, rfl⟩ : ∃ g', g = g' + 1 := ⟨g - 1, by omega⟩
    have key : ∀ ks b m, m ≤ 4096 → Sh b l → kidX d el f ks b m = kidX d el g ks b m := fun ks b m hm hb => ih f g ks b m hm (by have := hb.2; omega) (by have := hb.2; omega) (by have := hb.2; omega)
    rw [kidX, kidX]
    split
    · rfl
    · split
      · rename_i hp
        split
        · rfl
        · rename_i l2 ha
          refine key _ _ _ hm ?_
          have ha' : asW false l = .ok l2 := ha
          cases hc : preX [60, 33, 45, 45] l with
          | true =>
            rw [asW_c false hc] at ha'
            split at ha'
            · cases ha'
            · rename_i q hq
              exact Sh.of (as_sh _ _ _ _ ha') ((unt_sh (by simp) hq).le (List.drop_suffix _ _))
          | false =>
            rw [hc, Bool.false_or] at hp
            rw [asW_n false hc hp] at ha'
            split at ha'
            · cases ha'
            · rename_i q hq
              exact Sh.of (as_sh _ _ _ _ ha') ((unt_sh (by simp) hq).le (List.drop_suffix _ _))
      · split
        · split
          · rfl
          · rename_i q hq
            split
            · rfl
            · rename_i ks3 m3 hs
              exact key _ _ _ (say_le hs hm) ((unt_sh (by simp) hq).le (List.drop_suffix _ _))
        · split
          · split
            · rfl
            · rename_i t l3 m3 he
              obtain ⟨e1, e2⟩ := hel _ _ _ _ _ hm he
              exact key _ _ _ e2 e1
          · rename_i h60
            split
            · rfl
            · rename_i hne
              split
              · rfl
              · split
                · rfl
                · rename_i ks3 m3 hs
                  refine key _ _ _ (say_le hs hm) ⟨dw_suf _ _, ?_⟩
                  cases l with
                  | nil => simp at hne
                  | cons c r =>
                    have hc : (c != 60) = true := by
                      rw [bne_iff_ne]
                      intro e
                      subst e
                      exact h60 (by simp [preX])
                    rw [List.dropWhile_cons, hc]
                    exact (Sh.of (dw_suf _ _) (sh_cons c r)).2
/-- What is within, read on. -/
def kidW (d : Nat) (el : List UInt8 → Nat → Except Nat (Tr d × List UInt8 × Nat)) (ks : List (Tr d)) (l : List UInt8) (m : Nat) := kidX d el (l.length + 1) ks l m
end Go.Proofs.YthjibliaofmlhaaGreatDoor
namespace Go.Proofs.YthjibliaofmlhaaGreatDoor
set_option linter.unusedVariables false
set_option linter.unusedSimpArgs false

def passX (p l : List UInt8) : List UInt8 := if preX p l then l.drop p.length else l
theorem pass_yes {p l : List UInt8} (h : preX p l = true) : passX p l = l.drop p.length := if_pos h
theorem pass_no {p l : List UInt8} (h : preX p l = false) : passX p l = l := if_neg (by rw [h]; simp)
theorem pass_suf (p l : List UInt8) : passX p l <:+ l := by
  unfold passX
  split
  · exact List.drop_suffix _ _
  · exact List.suffix_refl _
/-- Does a comment or a note stand here? -/
def atAs (l : List UInt8) : Bool := preX [60, 33, 45, 45] l || preX [60, 63] l
/-- What is behind it; none: it does not end. -/
def asideX (l : List UInt8) : Option (List UInt8) :=
  if preX [60, 33, 45, 45] l then (untX [45, 45, 62] (l.drop 4)).map (·.2) else (untX [63, 62] (passX [60, 63] l)).map (·.2)
theorem aside_sh {l b : List UInt8} (ha : asideX l = some b) : Sh b l := by
  unfold asideX at ha
  split at ha
  · obtain ⟨q, hq, rfl⟩ := Option.map_eq_some_iff.1 ha
    exact (unt_sh (by simp) hq).le (List.drop_suffix _ _)
  · obtain ⟨q, hq, rfl⟩ := Option.map_eq_some_iff.1 ha
    exact (unt_sh (by simp) hq).le (pass_suf _ _)
theorem asW_at (all : Bool) {l : List UInt8} (h : atAs l = true) : asW all l = (match asideX l with
    | none => .error 5
    | some b => asW all b) := by
  unfold asideX
  cases hc : preX [60, 33, 45, 45] l with
  | true =>
    rw [asW_c all hc, if_pos rfl]
    cases untX [45, 45, 62] (l.drop 4) <;> rfl
  | false =>
    have hn : preX [60, 63] l = true := by unfold atAs at h; rw [hc, Bool.false_or] at h; exact h
    have e2 : passX [60, 63] l = l.drop 2 := pass_yes hn
    rw [asW_n all hc hn, if_neg (by simp), e2]
    cases untX [63, 62] (l.drop 2) <;> rfl
theorem as_pre {l : List UInt8} (h : atAs l = false) : preX [60, 33, 45, 45] l = false ∧ preX [60, 63] l = false := by
  unfold atAs at h
  rw [Bool.or_eq_false_iff] at h
  exact h
/-- White at the front or none: the same. -/
theorem asW_white (l : List UInt8) : asW true (l.dropWhile whX) = asW true l := by
  cases h : hdW l with
  | true =>
    cases l with
    | nil => rfl
    | cons c r =>
      have hc : whX c = true := h
      have hn : c ≠ 60 := fun e => by subst e; simp [whX] at hc
      have h0 : preX [60, 33, 45, 45] (c :: r) = false := pre_not ⟨_, rfl⟩ hn
      have h1 : preX [60, 63] (c :: r) = false := pre_not ⟨_, rfl⟩ hn
      exact (asW_w h0 h1 h).symm
  | false =>
    cases l with
    | nil => rfl
    | cons c r =>
      have hc : whX c = false := h
      rw [List.dropWhile_cons, hc]
      rfl
theorem dw_hd (l : List UInt8) : hdW (l.dropWhile whX) = false := by
  induction l with
  | nil => rfl
  | cons c r ih =>
    rw [List.dropWhile_cons]
    cases hc : whX c with
    | true => exact ih
    | false => exact hc
theorem end_no {l : List UInt8} (h : atAs l = true) : preX [60, 47] l = false := by
  cases he : preX [60, 47] l with
  | false => rfl
  | true =>
    obtain ⟨r, rfl, h2⟩ := pre_cons he
    obtain ⟨r, rfl, _⟩ := pre_cons h2
    simp [atAs, preX, List.isPrefixOf] at h
section
variable {d : Nat} {el : List UInt8 → Nat → Except Nat (Tr d × List UInt8 × Nat)}
theorem kidW_of (hel : Shrinks el) (f : Nat) (ks : List (Tr d)) (l : List UInt8) (m : Nat) (hm : m ≤ 4096) (hf : l.length + 1 ≤ f) : kidX d el f ks l m = kidW d el ks l m := kid_fuel hel l.length f (l.length + 1) ks l m hm (Nat.le_refl _) hf (Nat.le_refl _)
theorem kidW_end (ks : List (Tr d)) (l : List UInt8) (m : Nat) (h : preX [60, 47] l = true) : kidW d el ks l m = .ok (ks, l, m) := by
  unfold kidW
  rw [kidX, if_pos h]
theorem kid_skip (hel : Shrinks el) (ks : List (Tr d)) (f : Nat) (b : List UInt8) (m : Nat) (hm : m ≤ 4096) (hf : b.length + 1 ≤ f) : (match asW false b with
    | .error e => .error e
    | .ok l2 => kidX d el f ks l2 m) = kidW d el ks b m := by
  cases h : atAs b with
  | false =>
    obtain ⟨h0, h1⟩ := as_pre h
    rw [asW_ok false h0 h1 rfl]
    exact kidW_of hel f ks b m hm hf
  | true =>
    have he := end_no h
    unfold kidW
    rw [kidX, if_neg (by rw [he]; simp), if_pos (by unfold atAs at h; exact h)]
    show _ = match asW false b with | .error e => _ | .ok l2 => _
    cases ha : asW false b with
    | error e => rfl
    | ok l2 =>
      have hs : Sh l2 b := by
        rw [asW_at false h] at ha
        split at ha
        · cases ha
        · rename_i c hc
          exact Sh.of (as_sh _ _ _ _ ha) (aside_sh hc)
      have := hs.2
      exact (kidW_of hel f ks l2 m hm (by omega)).trans (kidW_of hel b.length ks l2 m hm (by omega)).symm
theorem kidW_as (hel : Shrinks el) (ks : List (Tr d)) (l : List UInt8) (m : Nat) (hm : m ≤ 4096) (h : atAs l = true) : kidW d el ks l m = (match asideX l with
    | none => .error 5
    | some b => kidW d el ks b m) := by
  have he := end_no h
  rw [← kid_skip hel ks (l.length + 1) l m hm (Nat.le_refl _), asW_at false h]
  cases ha : asideX l with
  | none => rfl
  | some b => exact kid_skip hel ks (l.length + 1) b m hm (by have := (aside_sh ha).2; omega)
theorem kidW_el (hel : Shrinks el) (ks : List (Tr d)) (l : List UInt8) (m : Nat) (hm : m ≤ 4096) (h0 : preX [60, 47] l = false) (h1 : atAs l = false) (h2 : preX [60, 33, 91, 67, 68, 65, 84, 65, 91] l = false) (h3 : preX [60] l = true) : kidW d el ks l m = (match el l m with
    | .error e => .error e
    | .ok (t, l2, m2) => kidW d el (ks ++ [t]) l2 m2) := by
  unfold atAs at h1
  conv => lhs; unfold kidW
  rw [kidX, if_neg (by rw [h0]; simp), if_neg (by rw [h1]; simp), if_neg (by rw [h2]; simp), if_pos h3]
  cases he : el l m with
  | error e => rfl
  | ok q =>
    obtain ⟨t, l2, m2⟩ := q
    obtain ⟨e1, e2⟩ := hel _ _ _ _ _ hm he
    exact kidW_of hel _ _ _ _ e2 (by have := e1.2; omega)
/-- A piece of a text. -/
def pieceX (l : List UInt8) : Except Nat (List UInt8 × List UInt8) :=
  if preX [60, 33, 91, 67, 68, 65, 84, 65, 91] l then (match untX [93, 93, 62] (l.drop 9) with
    | none => .error 5
    | some q => .ok q)
  else if (untX [93, 93, 62] (l.takeWhile (· != 60))).isSome || (l.dropWhile (· != 60)).isEmpty then .error 5
  else (match unA (l.takeWhile (· != 60)) with
    | none => .error 5
    | some s => .ok (s, l.dropWhile (· != 60)))
theorem kidW_piece (hel : Shrinks el) (ks : List (Tr d)) (l : List UInt8) (m : Nat) (hm : m ≤ 4096) (h0 : preX [60, 47] l = false) (h1 : atAs l = false) (h2 : preX [60, 33, 91, 67, 68, 65, 84, 65, 91] l = true ∨ preX [60] l = false) : kidW d el ks l m = (match pieceX l with
    | .error e => .error e
    | .ok (s, l2) => (match sayX d ks s m with
      | .error e => .error e
      | .ok (ks2, m2) => kidW d el ks2 l2 m2)) := by
  unfold atAs at h1
  conv => lhs; unfold kidW
  rw [kidX, if_neg (by rw [h0]; simp), if_neg (by rw [h1]; simp)]
  unfold pieceX
  cases hr : preX [60, 33, 91, 67, 68, 65, 84, 65, 91] l with
  | true =>
    rw [if_pos rfl, if_pos rfl]
    cases hu : untX [93, 93, 62] (l.drop 9) with
    | none => rfl
    | some q =>
      obtain ⟨a, b⟩ := q
      simp only
      cases hs : sayX d ks a m with
      | error e => rfl
      | ok q2 =>
        obtain ⟨ks2, m2⟩ := q2
        exact kidW_of hel _ _ _ _ (say_le hs hm) (by have := ((unt_sh (by simp) hu).le (List.drop_suffix 9 l)).2; omega)
  | false =>
    have h3 := h2.resolve_left (by rw [hr]; simp)
    simp only [Bool.false_eq_true, if_false, h3]
    by_cases hne : ((untX [93, 93, 62] (l.takeWhile (· != 60))).isSome || (l.dropWhile (· != 60)).isEmpty) = true
    · rw [if_pos hne, if_pos hne]
    · rw [if_neg hne, if_neg hne]
      cases hu : unA (l.takeWhile (· != 60)) with
      | none => rfl
      | some s =>
        simp only
        cases hs : sayX d ks s m with
        | error e => rfl
        | ok q2 =>
          obtain ⟨ks2, m2⟩ := q2
          refine kidW_of hel _ _ _ _ (say_le hs hm) ?_
          cases l with
          | nil => simp at hne
          | cons c r =>
            have hc : (c != 60) = true := by
              rw [bne_iff_ne]
              intro e
              subst e
              simp [preX] at h3
            rw [List.dropWhile_cons, hc]
            have := (Sh.of (dw_suf (· != 60) r) (sh_cons c r)).2
            exact this
end
theorem piece_sh {l s l2 : List UInt8} (h : pieceX l = .ok (s, l2)) : l2 <:+ l := by
  unfold pieceX at h
  split at h
  · split at h
    · cases h
    · rename_i q hq
      injection h with h
      subst h
      exact (unt_sh (by simp) hq).1.trans (List.drop_suffix _ _)
  · split at h
    · cases h
    · split at h
      · cases h
      · injection h with h
        injection h with h1 h2
        rw [← h2]
        exact dw_suf _ _
/-- The text that is under way, as a kid. -/
def pend (d : Nat) (ws : List UInt8) : List (Tr d) := if ws.isEmpty then [] else [leaf d ([], [], ws)]
theorem say_pend (d : Nat) (kd : List (Tr d)) (ws s : List UInt8) (m : Nat) (hk : lastB d kd = false) : sayX d (kd ++ pend d ws) s m =
    if s.isEmpty then .ok (kd ++ pend d ws, m) else if !ws.isEmpty then .ok (kd ++ pend d (ws ++ s), m) else if m + 1 ≤ 4096 then .ok (kd ++ pend d s, m + 1) else .error 3 := by
  cases hs : s.isEmpty with
  | true => unfold sayX; rw [hs]; rfl
  | false =>
    have hs' : s ≠ [] := by intro e; subst e; simp at hs
    cases hw : ws.isEmpty with
    | true =>
      have e : pend d ws = [] := by unfold pend; rw [hw]; rfl
      rw [e, List.append_nil]
      have e2 : pend d s = [leaf d ([], [], s)] := by unfold pend; rw [hs]; rfl
      rw [e2]
      simp only [Bool.not_true, if_false, Bool.false_eq_true]
      by_cases hm : m + 1 ≤ 4096
      · rw [if_pos hm, say_push d kd s m hs' hk hm]
      · rw [if_neg hm]
        unfold sayX
        rw [hs]
        simp only [Bool.false_eq_true, if_false]
        cases hl : kd.getLast? with
        | none => simp [hm]
        | some k =>
          have : (nmT d k).isEmpty = false := by unfold lastB at hk; rw [hl] at hk; exact hk
          simp [this, hm]
    | false =>
      have e : pend d ws = [leaf d ([], [], ws)] := by unfold pend; rw [hw]; rfl
      have e2 : pend d (ws ++ s) = [leaf d ([], [], ws ++ s)] := by
        unfold pend
        have : (ws ++ s).isEmpty = false := by cases ws <;> simp_all
        rw [this]; rfl
      rw [e, e2]
      unfold sayX
      rw [hs]
      have hn : nmT d (leaf d ([], [], ws)) = [] := by unfold nmT; rw [lab_leaf]
      have ht : txT d (leaf d ([], [], ws)) = ws := by unfold txT; rw [lab_leaf]
      simp [hn, ht]
/-! Lengths. -/
theorem rune_two {b : List UInt8} {n : Nat} (h : runeR b = some n) : 2 ≤ b.length := by
  unfold runeR at h
  split at h
  · simp only [List.length_cons]; omega
  · rename_i d _
    unfold numR at h
    split at h
    · rename_i hd
      have := List.length_pos_iff.2 hd.1
      simp only [List.length_cons]; omega
    · cases h
  · unfold nameR at h
    split at h
    · rename_i e; rw [e]; decide
    · split at h
      · rename_i e; rw [e]; decide
      · split at h
        · rename_i e; rw [e]; decide
        · split at h
          · rename_i e; rw [e]; decide
          · split at h
            · rename_i e; rw [e]; decide
            · cases h
theorem unF_len : ∀ (f : Nat) (l s : List UInt8), unF f l = some s → s.length ≤ l.length
  | 0, l, s, h => by simp only [unF] at h; injection h with h; subst h; simp
  | f + 1, [], s, h => by simp only [unF] at h; injection h with h; subst h; simp
  | f + 1, c :: r, s, h => by
    simp only [unF] at h
    split at h
    · cases hc : cutE r with
      | none => rw [hc] at h; cases h
      | some p =>
        obtain ⟨b, t⟩ := p
        rw [hc] at h
        simp only at h
        have hl := congrArg List.length (cutE_some r b t hc).1
        simp only [List.length_append, List.length_cons] at hl
        cases hn : runeR b with
        | none => rw [hn] at h; cases h
        | some n =>
          rw [hn] at h
          simp only at h
          obtain ⟨u, hu, rfl⟩ := Option.map_eq_some_iff.1 h
          have h1 := unF_len f t u hu
          have h2 := rune_two hn
          have h3 := (encL_len n).2
          simp only [List.length_append, List.length_cons]
          omega
    · obtain ⟨u, hu, rfl⟩ := Option.map_eq_some_iff.1 h
      have h1 := unF_len f r u hu
      simp only [List.length_cons]
      omega
theorem unA_len {l s : List UInt8} (h : unA l = some s) : s.length ≤ l.length := by
  unfold unA at h
  split at h
  · exact unF_len _ _ _ h
  · cases h
theorem piece_len {l s l2 : List UInt8} (h : pieceX l = .ok (s, l2)) : s.length + l2.length ≤ l.length ∧ (s ≠ [] → l2.length < l.length) := by
  have key : s.length + l2.length ≤ l.length := by
    unfold pieceX at h
    split at h
    · split at h
      · cases h
      · rename_i q hq
        injection h with h
        subst h
        have e := congrArg List.length (unt_some _ (by simp) _ _ _ hq)
        simp at e
        omega
    · split at h
      · cases h
      · split at h
        · cases h
        · rename_i u hu
          injection h with h
          injection h with h1 h2
          subst h1 h2
          have h3 := unA_len hu
          have e := congrArg List.length (List.takeWhile_append_dropWhile (p := (· != 60)) (l := l))
          rw [List.length_append] at e
          omega
  refine ⟨key, fun hs => ?_⟩
  have := List.length_pos_iff.2 hs
  omega
theorem piece_sh2 {l s l2 : List UInt8} (h : pieceX l = .ok (s, l2)) (h0 : preX [60, 33, 91, 67, 68, 65, 84, 65, 91] l = true ∨ preX [60] l = false) : Sh l2 l := by
  refine ⟨piece_sh h, ?_⟩
  unfold pieceX at h
  split at h
  · split at h
    · cases h
    · rename_i q hq
      injection h with h
      subst h
      exact ((unt_sh (by simp) hq).le (List.drop_suffix 9 l)).2
  · rename_i hr
    have h3 := h0.resolve_left hr
    split at h
    · cases h
    · rename_i hne
      split at h
      · cases h
      · injection h with h
        injection h with h1 h2
        subst h2
        cases l with
        | nil => simp at hne
        | cons c r =>
          have hc : (c != 60) = true := by
            rw [bne_iff_ne]
            intro e
            subst e
            simp [preX] at h3
          rw [List.dropWhile_cons, hc]
          exact (Sh.of (dw_suf (· != 60) r) (sh_cons c r)).2
end Go.Proofs.YthjibliaofmlhaaGreatDoor
