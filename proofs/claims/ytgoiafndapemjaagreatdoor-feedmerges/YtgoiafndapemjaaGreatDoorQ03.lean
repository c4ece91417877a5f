import Derived.Lib.DecodeN
import Derived.Lib.DecodeNEq
import Derived.Lib.RuneCount
import Derived.Lib.Strings
import Derived.Lib.IndexBytes
import Derived.Below
import Derived.Lib.RuneBytes
import Derived.Lib.Replace
import Derived.Lib.IndexMore
import Derived.Lib.SlTrimSet
set_option linter.unusedVariables false
set_option linter.unusedSimpArgs false
set_option maxHeartbeats 1000000
namespace Go.Proofs.YtgoiafndapemjaaGreatDoor
open Go.RowKit
def badAt (s : ByteArray) (pos : Nat) : Bool := ((Utf8.decode s pos).1 == 65533) && !(Lib.hasPrefix (s.data.toList.drop pos) [239, 191, 189])
def vldFrom (s : ByteArray) : Nat → Nat → Bool
 | 0, _ => true
 | f + 1, pos => if pos < s.size then (if badAt s pos then false else vldFrom s f (pos + (Utf8.decode s pos).2)) else true
def vld (s : ByteArray) : Bool := vldFrom s s.size 0
def chk (s : ByteArray) : Int := if vld s then 0 else 5
theorem vldFrom_end (s : ByteArray) (f pos : Nat) (h : ¬ pos < s.size) : vldFrom s f pos = true := by
 cases f <;> simp [vldFrom, h]
theorem vldFrom_step (s : ByteArray) (f pos : Nat) (h : pos < s.size) (hb : badAt s pos = false) : vldFrom s (f + 1) pos = vldFrom s f (pos + (Utf8.decode s pos).2) := by
 simp [vldFrom, h, hb]
theorem vldFrom_bad (s : ByteArray) (f pos : Nat) (h : pos < s.size) (hb : badAt s pos = true) : vldFrom s (f + 1) pos = false := by
 simp [vldFrom, h, hb]
theorem chkT_ok {s : ByteArray} (h : vld s = true) : chk s = 0 := by simp [chk, h]
theorem chkT_no {s : ByteArray} (h : vld s = false) : chk s = 5 := by simp [chk, h]
theorem badAt_other (s : ByteArray) (pos : Nat) (h : (((Utf8.decode s pos).1 : Int) == 65533) = false) : badAt s pos = false := by
 have : ((Utf8.decode s pos).1 == 65533) = false := by
  rw [beq_eq_false_iff_ne] at h ⊢
  omega
 simp [badAt, this]
theorem badAt_err (s : ByteArray) (pos : Nat) (h : (((Utf8.decode s pos).1 : Int) == 65533) = true) : badAt s pos = !(Lib.hasPrefix (s.data.toList.drop pos) [239, 191, 189]) := by
 have : ((Utf8.decode s pos).1 == 65533) = true := by
  rw [beq_iff_eq] at h ⊢
  omega
 simp [badAt, this]
theorem decode_fits (s : ByteArray) (pos : Nat) (h : pos < s.size) : pos + (Utf8.decode s pos).2 ≤ s.size := by
 rw [Lib.decode_at]
 generalize (s.get! pos).toNat = b0
 generalize (s.get! (pos + 1)).toNat = b1
 generalize (s.get! (pos + 2)).toNat = b2
 generalize (s.get! (pos + 3)).toNat = b3
 unfold Lib.decodeN
 repeat' split
 all_goals (simp only; omega)
theorem get_eqT (s : ByteArray) (i : Nat) : s.get! i = s.data.toList.getD i 0 := by
 obtain ⟨⟨l⟩⟩ := s
 show (l.toArray)[i]! = _
 rw [List.getElem!_toArray, List.getD_eq_getElem?_getD, List.getElem!_eq_getElem?_getD]
 rfl
theorem pre3 (l : List UInt8) (a b c : UInt8) : Lib.hasPrefix l [a, b, c] = (decide (3 ≤ l.length) && (l.getD 0 0 == a && (l.getD 1 0 == b && l.getD 2 0 == c))) := by
 unfold Lib.hasPrefix
 match l with
 | [] => simp [List.isPrefixOf]
 | [x] => simp [List.isPrefixOf]
 | [x, y] => simp [List.isPrefixOf]
 | x :: y :: z :: t =>
  rw [Bool.eq_iff_iff]
  simp only [List.isPrefixOf, List.length_cons, List.getD_cons_zero, List.getD_cons_succ, Bool.and_true, Bool.and_eq_true, beq_iff_eq, decide_eq_true_eq]
  constructor
  ·rintro ⟨rfl, rfl, rfl⟩; exact ⟨by omega, rfl, rfl, rfl⟩
  ·rintro ⟨_, rfl, rfl, rfl⟩; exact ⟨rfl, rfl, rfl⟩
theorem drop_getD (l : List UInt8) (p j : Nat) : (l.drop p).getD j 0 = l.getD (p + j) 0 := by
 rw [List.getD_eq_getElem?_getD, List.getD_eq_getElem?_getD, List.getElem?_drop]
theorem byte_lt (s : ByteArray) (i : Nat) : (s.get! i).toNat < 256 := (s.get! i).toNat_lt
theorem own_bytes (s : ByteArray) (p : Nat) : Lib.hasPrefix (s.data.toList.drop p) [239, 191, 189] = true ↔ (3 ≤ s.size - p ∧ (s.get! p).toNat = 239 ∧ (s.get! (p + 1)).toNat = 191 ∧ (s.get! (p + 2)).toNat = 189) := by
 rw [pre3, drop_getD, drop_getD, drop_getD, ← get_eqT, ← get_eqT, ← get_eqT, List.length_drop, ← Lib.size_eq]
 simp only [Bool.and_eq_true, beq_iff_eq, decide_eq_true_eq, Nat.add_zero]
 constructor
 ·rintro ⟨h, h0, h1, h2⟩; rw [h0, h1, h2]; exact ⟨h, rfl, rfl, rfl⟩
 ·rintro ⟨h, h0, h1, h2⟩
  exact ⟨h, UInt8.toNat_inj.1 (h0.trans rfl), UInt8.toNat_inj.1 (h1.trans rfl), UInt8.toNat_inj.1 (h2.trans rfl)⟩
theorem dN_err3 (n b0 b1 b2 b3 : Nat) (h0 : b0 < 256) (_h1 : b1 < 256) (_h2 : b2 < 256) (h : (Lib.decodeN n b0 b1 b2 b3).1 = 65533) :
  Lib.decodeN n b0 b1 b2 b3 = (65533, 1) ∨ (3 ≤ n ∧ b0 = 239 ∧ b1 = 191 ∧ b2 = 189) := by
 revert h
 unfold Lib.decodeN
 repeat' split
 all_goals intro h
 all_goals first | (left; rfl) | (exfalso; simp only at h; omega) | (right; simp only at h; omega)
theorem dN_own (n b3 : Nat) (h : 3 ≤ n) : Lib.decodeN n 239 191 189 b3 = (65533, 3) := by
 unfold Lib.decodeN
 repeat' split
 all_goals first | (exfalso; omega) | rfl
theorem bad_iff (s : ByteArray) (p : Nat) : badAt s p = true ↔ Utf8.decode s p = (65533, 1) := by
 unfold badAt
 rw [Bool.and_eq_true, beq_iff_eq, Bool.not_eq_true', Lib.decode_at]
 constructor
 ·rintro ⟨h1, h2⟩
  rcases dN_err3 _ _ _ _ _ (byte_lt s p) (byte_lt s (p + 1)) (byte_lt s (p + 2)) h1 with h | ⟨ha, hb, hc, hd⟩
  ·exact h
  ·exfalso
   have := (own_bytes s p).2 ⟨ha, hb, hc, hd⟩
   rw [this] at h2; simp at h2
 ·intro h
  refine ⟨by rw [h], ?_⟩
  cases hq : Lib.hasPrefix (s.data.toList.drop p) [239, 191, 189] with
  | false => rfl
  | true =>
   exfalso
   obtain ⟨ha, hb, hc, hd⟩ := (own_bytes s p).1 hq
   rw [hb, hc, hd, dN_own _ _ ha] at h
   simp at h
theorem dNT_ascii (n b0 b1 b2 b3 : Nat) (h : b0 < 128) : Lib.decodeN n b0 b1 b2 b3 = (b0, 1) := by simp [Lib.decodeN, h]
def runesFrom (s : ByteArray) : Nat → Nat → List Nat
 | 0, _ => []
 | f + 1, pos => if pos < s.size then (Utf8.decode s pos).1 :: runesFrom s f (pos + (Utf8.decode s pos).2) else []
def runesOf (s : ByteArray) : List Nat := runesFrom s s.size 0
theorem runesFrom_end (s : ByteArray) (f pos : Nat) (h : ¬ pos < s.size) : runesFrom s f pos = [] := by cases f <;> simp [runesFrom, h]
theorem runesFrom_step (s : ByteArray) (f pos : Nat) (h : pos < s.size) : runesFrom s (f + 1) pos = (Utf8.decode s pos).1 :: runesFrom s f (pos + (Utf8.decode s pos).2) := by simp [runesFrom, h]
theorem runesFrom_length (s : ByteArray) : ∀ f pos, (runesFrom s f pos).length = Lib.runeCountFrom s f pos
 | 0, pos => by simp [runesFrom, Lib.runeCountFrom]
 | f + 1, pos => by
  have ih := runesFrom_length s f (pos + (Utf8.decode s pos).2)
  by_cases h : pos < s.size
  ·simp [runesFrom, Lib.runeCountFrom, h, ih]; omega
  ·simp [runesFrom, Lib.runeCountFrom, h]
theorem decode_le (s : ByteArray) (p : Nat) : (Utf8.decode s p).1 ≤ 1114111 := by
 rw [Lib.decode_at]
 unfold Lib.decodeN
 repeat' split
 all_goals (simp only; omega)
def xmlN (r : Nat) : Bool := decide (r = 9 ∨ r = 10 ∨ r = 13 ∨ (32 ≤ r ∧ r ≤ 55295) ∨ (57344 ≤ r ∧ r ≤ 65533) ∨ 65536 ≤ r)
def xmlB (s : ByteArray) : Bool := (runesOf s).all xmlN
def xmlE (b : Bool) : Int := if b then 0 else 1
theorem xmlN_yes {r : Nat} (h : r = 9 ∨ r = 10 ∨ r = 13 ∨ (32 ≤ r ∧ r ≤ 55295) ∨ (57344 ≤ r ∧ r ≤ 65533) ∨ 65536 ≤ r) : xmlN r = true := by simp [xmlN, h]
theorem xmlN_no {r : Nat} (h : ¬ (r = 9 ∨ r = 10 ∨ r = 13 ∨ (32 ≤ r ∧ r ≤ 55295) ∨ (57344 ≤ r ∧ r ≤ 65533) ∨ 65536 ≤ r)) : xmlN r = false := by simp only [xmlN, h, decide_false]
theorem all_step {s : ByteArray} {b pos : Nat} (hp : pos < s.size) : (runesFrom s (b + 1) pos).all xmlN = (xmlN (Utf8.decode s pos).1 && (runesFrom s b (pos + (Utf8.decode s pos).2)).all xmlN) := by
 rw [runesFrom_step s b pos hp, List.all_cons]
end Go.Proofs.YtgoiafndapemjaaGreatDoor
namespace Go.Proofs.YtgoiafndapemjaaGreatDoor
def validR (v : Nat) : Bool := decide (v < 55296 ∨ (57344 ≤ v ∧ v ≤ 1114111))
theorem validR_iff {v : Nat} : validR v = true ↔ (v < 55296 ∨ (57344 ≤ v ∧ v ≤ 1114111)) := by simp [validR]
def encL (v : Nat) : List UInt8 := Lib.encodeRune (v : Int)
def bt (n : Nat) : UInt8 := n.toUInt8
theorem bt_nat {n : Nat} (h : n < 256) : (bt n).toNat = n := by simp [bt]; omega
theorem enc1 {v : Nat} (h : v < 128) : encL v = [bt v] := by
 unfold encL Lib.encodeRune
 rw [Lib.encodeRuneZ_one (by omega) (by omega)]; simp [bt]
theorem enc2 {v : Nat} (h : 128 ≤ v) (h' : v ≤ 2047) : encL v = [bt (192 + v / 64), bt (128 + v % 64)] := by
 unfold encL Lib.encodeRune
 rw [Lib.encodeRuneZ_two (by omega) (by omega)]
 simp only [List.map_cons, List.map_nil, bt]
 rw [show ((192 : Int) + (v : Int) / 64).toNat = 192 + v / 64 from by omega, show ((128 : Int) + (v : Int) % 64).toNat = 128 + v % 64 from by omega]
theorem enc3 {v : Nat} (h : (2048 ≤ v ∧ v < 55296) ∨ (57344 ≤ v ∧ v ≤ 65535)) : encL v = [bt (224 + v / 4096), bt (128 + v / 64 % 64), bt (128 + v % 64)] := by
 unfold encL Lib.encodeRune
 rw [Lib.encodeRuneZ_three (by omega)]
 simp only [List.map_cons, List.map_nil, bt]
 rw [show ((224 : Int) + (v : Int) / 4096).toNat = 224 + v / 4096 from by omega, show ((128 : Int) + (v : Int) / 64 % 64).toNat = 128 + v / 64 % 64 from by omega, show ((128 : Int) + (v : Int) % 64).toNat = 128 + v % 64 from by omega]
theorem enc4 {v : Nat} (h : 65536 ≤ v) (h' : v ≤ 1114111) : encL v = [bt (240 + v / 262144), bt (128 + v / 4096 % 64), bt (128 + v / 64 % 64), bt (128 + v % 64)] := by
 unfold encL Lib.encodeRune
 rw [Lib.encodeRuneZ_four (by omega) (by omega)]
 simp only [List.map_cons, List.map_nil, bt]
 rw [show ((240 : Int) + (v : Int) / 262144).toNat = 240 + v / 262144 from by omega, show ((128 : Int) + (v : Int) / 4096 % 64).toNat = 128 + v / 4096 % 64 from by omega, show ((128 : Int) + (v : Int) / 64 % 64).toNat = 128 + v / 64 % 64 from by omega, show ((128 : Int) + (v : Int) % 64).toNat = 128 + v % 64 from by omega]
theorem encL_len (v : Nat) : 1 ≤ (encL v).length ∧ (encL v).length ≤ 4 := by
 have := Lib.encodeRuneZ_length (v : Int)
 simpa [encL, Lib.encodeRune] using this
def decL (l : List UInt8) : Nat × Nat := Lib.decodeN l.length (l.getD 0 0).toNat (l.getD 1 0).toNat (l.getD 2 0).toNat (l.getD 3 0).toNat
theorem decL_at (s : ByteArray) (p : Nat) : Utf8.decode s p = decL (s.data.toList.drop p) := by
 rw [Lib.decode_at]
 unfold decL
 rw [List.length_drop, drop_getD, drop_getD, drop_getD, drop_getD, ← get_eqT, ← get_eqT, ← get_eqT, ← get_eqT, ← Lib.size_eq]
 rfl
theorem dn_back2 (n b2 b3 v : Nat) (hn : 2 ≤ n) (h : 128 ≤ v) (h' : v ≤ 2047) : Lib.decodeN n (192 + v / 64) (128 + v % 64) b2 b3 = (v, 2) := by
 unfold Lib.decodeN
 repeat' split
 all_goals first | (exfalso; omega) | (apply Prod.ext <;> simp only <;> omega)
theorem dn_back3 (n b3 v : Nat) (hn : 3 ≤ n) (h : (2048 ≤ v ∧ v < 55296) ∨ (57344 ≤ v ∧ v ≤ 65535)) : Lib.decodeN n (224 + v / 4096) (128 + v / 64 % 64) (128 + v % 64) b3 = (v, 3) := by
 unfold Lib.decodeN
 repeat' split
 all_goals first | (exfalso; omega) | (apply Prod.ext <;> simp only <;> omega)
theorem dn_back4 (n v : Nat) (hn : 4 ≤ n) (h : 65536 ≤ v) (h' : v ≤ 1114111) : Lib.decodeN n (240 + v / 262144) (128 + v / 4096 % 64) (128 + v / 64 % 64) (128 + v % 64) = (v, 4) := by
 unfold Lib.decodeN
 repeat' split
 all_goals first | (exfalso; omega) | (apply Prod.ext <;> simp only <;> omega)
theorem encL_dec (v : Nat) (hv : validR v = true) (t : List UInt8) : decL (encL v ++ t) = (v, (encL v).length) := by
 have hv' := validR_iff.1 hv
 by_cases h1 : v < 128
 ·rw [enc1 h1]; unfold decL
  simp only [List.cons_append, List.nil_append, List.getD_cons_zero, List.length_cons, List.length_nil]
  rw [bt_nat (by omega)]; exact dNT_ascii _ _ _ _ _ h1
 ·by_cases h2 : v ≤ 2047
  ·rw [enc2 (by omega) h2]; unfold decL
   simp only [List.cons_append, List.nil_append, List.getD_cons_zero, List.getD_cons_succ, List.length_cons, List.length_nil]
   rw [bt_nat (by omega), bt_nat (by omega)]; exact dn_back2 _ _ _ _ (by omega) (by omega) h2
  ·by_cases h3 : v ≤ 65535
   ·rw [enc3 (by omega)]; unfold decL
    simp only [List.cons_append, List.nil_append, List.getD_cons_zero, List.getD_cons_succ, List.length_cons, List.length_nil]
    rw [bt_nat (by omega), bt_nat (by omega), bt_nat (by omega)]; exact dn_back3 _ _ _ (by omega) (by omega)
   ·rw [enc4 (by omega) (by omega)]; unfold decL
    simp only [List.cons_append, List.nil_append, List.getD_cons_zero, List.getD_cons_succ, List.length_cons, List.length_nil]
    rw [bt_nat (by omega), bt_nat (by omega), bt_nat (by omega), bt_nat (by omega)]; exact dn_back4 _ _ (by omega) (by omega) (by omega)
theorem dn_cases (n b0 b1 b2 b3 : Nat) (h0 : b0 < 256) (h1 : b1 < 256) (h2 : b2 < 256) (h3 : b3 < 256) (hb : Lib.decodeN n b0 b1 b2 b3 ≠ (65533, 1)) :
  b0 < 128 ∨ (∃ v, 2 ≤ n ∧ 128 ≤ v ∧ v ≤ 2047 ∧ b0 = 192 + v / 64 ∧ b1 = 128 + v % 64) ∨
  (∃ v, 3 ≤ n ∧ ((2048 ≤ v ∧ v < 55296) ∨ (57344 ≤ v ∧ v ≤ 65535)) ∧ b0 = 224 + v / 4096 ∧ b1 = 128 + v / 64 % 64 ∧ b2 = 128 + v % 64) ∨
  (∃ v, 4 ≤ n ∧ 65536 ≤ v ∧ v ≤ 1114111 ∧ b0 = 240 + v / 262144 ∧ b1 = 128 + v / 4096 % 64 ∧ b2 = 128 + v / 64 % 64 ∧ b3 = 128 + v % 64) := by
 revert hb
 unfold Lib.decodeN
 split
 ·intro _; left; assumption
 split
 ·split
  ·intro _; right; left; exact ⟨b0 % 32 * 64 + b1 % 64, by omega⟩
  ·intro h; exact absurd rfl h
 split
 ·split
  ·intro _; right; right; left; exact ⟨b0 % 16 * 4096 + b1 % 64 * 64 + b2 % 64, by omega⟩
  ·intro h; exact absurd rfl h
 split
 ·split
  ·intro _; right; right; right; exact ⟨b0 % 8 * 262144 + b1 % 64 * 4096 + b2 % 64 * 64 + b3 % 64, by omega⟩
  ·intro h; exact absurd rfl h
 ·intro h; exact absurd rfl h
theorem bt_of {c : UInt8} {n : Nat} (h : c.toNat = n) : c = bt n := by subst h; simp [bt]
theorem decL_enc (l : List UInt8) (hl : l ≠ []) (hb : decL l ≠ (65533, 1)) : ∃ v t, validR v = true ∧ l = encL v ++ t := by
 unfold decL at hb
 rcases dn_cases _ _ _ _ _ (UInt8.toNat_lt _) (UInt8.toNat_lt _) (UInt8.toNat_lt _) (UInt8.toNat_lt _) hb with h | ⟨v, h⟩ | ⟨v, h⟩ | ⟨v, h⟩
 ·match l, hl with
  | c :: t, _ =>
   simp only [List.getD_cons_zero] at h
   exact ⟨c.toNat, t, validR_iff.2 (by omega), by rw [enc1 h, ← bt_of rfl]; rfl⟩
 ·match l, h with
  | c :: d :: t, h =>
   simp only [List.getD_cons_zero, List.getD_cons_succ] at h
   obtain ⟨_, a, b, e0, e1⟩ := h
   exact ⟨v, t, validR_iff.2 (by omega), by rw [enc2 a b, ← bt_of e0, ← bt_of e1]; rfl⟩
  | [c], h => simp at h
  | [], h => simp at h
 ·match l, h with
  | c :: d :: e :: t, h =>
   simp only [List.getD_cons_zero, List.getD_cons_succ] at h
   obtain ⟨_, a, e0, e1, e2⟩ := h
   exact ⟨v, t, validR_iff.2 (by omega), by rw [enc3 a, ← bt_of e0, ← bt_of e1, ← bt_of e2]; rfl⟩
  | [c, d], h => simp at h
  | [c], h => simp at h
  | [], h => simp at h
 ·match l, h with
  | c :: d :: e :: f :: t, h =>
   simp only [List.getD_cons_zero, List.getD_cons_succ] at h
   obtain ⟨_, a, b, e0, e1, e2, e3⟩ := h
   exact ⟨v, t, validR_iff.2 (by omega), by rw [enc4 a b, ← bt_of e0, ← bt_of e1, ← bt_of e2, ← bt_of e3]; rfl⟩
  | [c, d, e], h => simp at h
  | [c, d], h => simp at h
  | [c], h => simp at h
  | [], h => simp at h
theorem encL_high (v : Nat) (hv : validR v = true) (h : 128 ≤ v) : ∀ c ∈ encL v, 128 ≤ c.toNat := by
 have hv' := validR_iff.1 hv
 intro c hc
 by_cases h2 : v ≤ 2047
 ·rw [enc2 h h2] at hc
  simp only [List.mem_cons, List.not_mem_nil, or_false] at hc
  rcases hc with rfl | rfl <;> rw [bt_nat (by omega)] <;> omega
 ·by_cases h3 : v ≤ 65535
  ·rw [enc3 (by omega)] at hc
   simp only [List.mem_cons, List.not_mem_nil, or_false] at hc
   rcases hc with rfl | rfl | rfl <;> rw [bt_nat (by omega)] <;> omega
  ·rw [enc4 (by omega) (by omega)] at hc
   simp only [List.mem_cons, List.not_mem_nil, or_false] at hc
   rcases hc with rfl | rfl | rfl | rfl <;> rw [bt_nat (by omega)] <;> omega
theorem enc_ne (v : Nat) : encL v ≠ [] := fun h => by have := (encL_len v).1; rw [h] at this; simp at this
theorem enc_byte (c : UInt8) (h : c.toNat < 128) : encL c.toNat = [c] := by rw [enc1 h, ← bt_of rfl]
theorem enc_fine (v : Nat) (hv : validR v = true) (t : List UInt8) : decL (encL v ++ t) ≠ (65533, 1) := by
 rw [encL_dec v hv t]
 intro h
 have h1 := congrArg Prod.fst h
 have h2 := congrArg Prod.snd h
 simp only at h1 h2
 subst h1
 rw [enc3 (by omega)] at h2
 simp at h2
def vldL : Nat → List UInt8 → Bool
 | 0, _ => true
 | f + 1, l => if l = [] then true else if decL l = (65533, 1) then false else vldL f (l.drop (decL l).2)
theorem vldL_nil (f : Nat) : vldL f [] = true := by cases f <;> rfl
theorem vldL_enc (f v : Nat) (hv : validR v = true) (t : List UInt8) : vldL (f + 1) (encL v ++ t) = vldL f t := by
 have h0 : encL v ++ t ≠ [] := by simp [enc_ne v]
 rw [vldL, if_neg h0, if_neg (enc_fine v hv t), encL_dec v hv t]
 simp
theorem vldL_bad (f : Nat) (l : List UInt8) (hl : l ≠ []) (hb : decL l = (65533, 1)) : vldL (f + 1) l = false := by
 rw [vldL, if_neg hl, if_pos hb]
theorem vldL_fuel : ∀ (f g : Nat) (l : List UInt8), l.length ≤ f → l.length ≤ g → vldL f l = vldL g l
 | 0, g, l, hf, _ => by
  obtain rfl : l = [] := List.length_eq_zero_iff.1 (by omega)
  rw [vldL_nil, vldL_nil]
 | f + 1, 0, l, _, hg => by
  obtain rfl : l = [] := List.length_eq_zero_iff.1 (by omega)
  rw [vldL_nil, vldL_nil]
 | f + 1, g + 1, l, hf, hg => by
  by_cases hl : l = []
  ·subst hl; rw [vldL_nil, vldL_nil]
  ·by_cases hb : decL l = (65533, 1)
   ·rw [vldL_bad f l hl hb, vldL_bad g l hl hb]
   ·obtain ⟨v, t, hv, rfl⟩ := decL_enc l hl hb
    rw [vldL_enc f v hv, vldL_enc g v hv]
    have := (encL_len v).1
    simp only [List.length_append] at hf hg
    exact vldL_fuel f g t (by omega) (by omega)
def V (l : List UInt8) : Bool := vldL l.length l
theorem V_enc (v : Nat) (hv : validR v = true) (t : List UInt8) : V (encL v ++ t) = V t := by
 have h1 := (encL_len v).1
 unfold V
 rw [vldL_fuel (encL v ++ t).length (t.length + (encL v).length - 1 + 1) _ (Nat.le_refl _) (by simp; omega), vldL_enc _ v hv]
 exact vldL_fuel _ _ t (by omega) (Nat.le_refl _)
theorem V_bad (l : List UInt8) (hl : l ≠ []) (hb : decL l = (65533, 1)) : V l = false := by
 unfold V
 rw [vldL_fuel l.length (l.length + 1) l (Nat.le_refl _) (by omega)]
 exact vldL_bad _ l hl hb
theorem V_open {l : List UInt8} (h : V l = true) (hl : l ≠ []) : ∃ v t, validR v = true ∧ l = encL v ++ t ∧ V t = true := by
 have hb : decL l ≠ (65533, 1) := fun hb => by rw [V_bad l hl hb] at h; cases h
 obtain ⟨v, t, hv, rfl⟩ := decL_enc l hl hb
 exact ⟨v, t, hv, rfl, by rwa [V_enc v hv t] at h⟩
theorem V_ind {P : List UInt8 → Prop} (h0 : P []) (h1 : ∀ v t, validR v = true → V t = true → P t → P (encL v ++ t)) : ∀ (n : Nat) (l : List UInt8), l.length ≤ n → V l = true → P l
 | 0, l, hn, _ => by
  obtain rfl : l = [] := List.length_eq_zero_iff.1 (by omega)
  exact h0
 | n + 1, l, hn, h => by
  by_cases hl : l = []
  ·subst hl; exact h0
  ·obtain ⟨v, t, hv, rfl, ht⟩ := V_open h hl
   have := (encL_len v).1
   rw [List.length_append] at hn
   exact h1 v t hv ht (V_ind h0 h1 n t (by omega) ht)
theorem V_byte (c : UInt8) (h : c.toNat < 128) (t : List UInt8) : V (c :: t) = V t := by
 have := V_enc c.toNat (validR_iff.2 (by omega)) t
 rwa [enc_byte c h] at this
theorem V_ascii : ∀ (a t : List UInt8), (∀ c ∈ a, c.toNat < 128) → V (a ++ t) = V t
 | [], t, _ => rfl
 | c :: a, t, h => by
  rw [List.cons_append, V_byte c (h c (by simp)), V_ascii a t (fun d hd => h d (by simp [hd]))]
theorem vldFrom_L (s : ByteArray) : ∀ f pos, vldFrom s f pos = vldL f (s.data.toList.drop pos)
 | 0, pos => rfl
 | f + 1, pos => by
  have hlen : s.data.toList.length = s.size := by rw [← Lib.size_eq]
  by_cases hp : pos < s.size
  ·have hne : s.data.toList.drop pos ≠ [] := fun h => by
    have := congrArg List.length h
    rw [List.length_drop, hlen] at this; simp at this; omega
   cases hb : badAt s pos with
   | true =>
    rw [vldFrom_bad s f pos hp hb]
    have := (bad_iff s pos).1 hb
    rw [decL_at] at this
    rw [vldL_bad f _ hne this]
   | false =>
    have hd : decL (s.data.toList.drop pos) ≠ (65533, 1) := fun h => by
     rw [← decL_at] at h
     have := (bad_iff s pos).2 h
     rw [hb] at this; cases this
    rw [vldFrom_step s f pos hp hb, vldFrom_L s f, vldL, if_neg hne, if_neg hd, List.drop_drop, decL_at]
  ·rw [vldFrom_end s (f + 1) pos hp, List.drop_of_length_le (by omega), vldL_nil]
theorem vld_V (s : ByteArray) : vld s = V s.data.toList := by
 unfold vld V
 rw [vldFrom_L, List.drop_zero, ← Lib.size_eq]
theorem runesFrom_enc (s : ByteArray) (f pos v : Nat) (t : List UInt8) (hv : validR v = true) (h : s.data.toList.drop pos = encL v ++ t) : runesFrom s (f + 1) pos = v :: runesFrom s f (pos + (encL v).length) := by
 have hlen : s.data.toList.length = s.size := by rw [← Lib.size_eq]
 have hp : pos < s.size := by
  have := congrArg List.length h
  rw [List.length_drop, hlen, List.length_append] at this
  have := (encL_len v).1
  omega
 rw [runesFrom_step s f pos hp, decL_at, h, encL_dec v hv]
theorem runes_one (v : Nat) (hv : validR v = true) : runesOf ⟨(encL v).toArray⟩ = [v] := by
 have h1 := (encL_len v).1
 have hd : (⟨(encL v).toArray⟩ : ByteArray).data.toList = encL v := rfl
 have hs : (⟨(encL v).toArray⟩ : ByteArray).size = (encL v).length := by rw [Lib.size_eq]
 unfold runesOf
 rw [hs]
 obtain ⟨k, hk⟩ : ∃ k, (encL v).length = k + 1 := ⟨(encL v).length - 1, by omega⟩
 rw [hk, runesFrom_enc _ k 0 v [] hv (by rw [hd]; simp), runesFrom_end]
 rw [hs]; omega
end Go.Proofs.YtgoiafndapemjaaGreatDoor
namespace Go.Proofs.YtgoiafndapemjaaGreatDoor
def escE (c : UInt8) : List UInt8 :=
 if c = 38 then [38, 97, 109, 112, 59] else if c = 60 then [38, 108, 116, 59] else if c = 62 then [38, 103, 116, 59] else if c = 34 then [38, 113, 117, 111, 116, 59] else if c = 39 then [38, 97, 112, 111, 115, 59] else if c = 13 then [38, 35, 49, 51, 59] else [c]
def escL (l : List UInt8) : List UInt8 := l.flatMap escE
theorem escL_nil : escL [] = [] := rfl
theorem escL_cons (c : UInt8) (l : List UInt8) : escL (c :: l) = escE c ++ escL l := rfl
theorem escL_app (a b : List UInt8) : escL (a ++ b) = escL a ++ escL b := by simp [escL]
theorem escE_len (c : UInt8) : (escE c).length ≤ 6 := by
 unfold escE
 repeat' split
 all_goals simp
theorem escL_len : ∀ l : List UInt8, (escL l).length ≤ 6 * l.length
 | [] => by simp [escL]
 | c :: l => by
  have := escE_len c; have := escL_len l
  rw [escL_cons, List.length_append, List.length_cons]; omega
theorem u8_neE {c d : UInt8} (h : c.toNat ≠ d.toNat) : c ≠ d := fun e => h (by rw [e])
theorem escE_high (c : UInt8) (h : 128 ≤ c.toNat) : escE c = [c] := by
 unfold escE
 rw [if_neg (u8_neE (by show c.toNat ≠ 38; omega)), if_neg (u8_neE (by show c.toNat ≠ 60; omega)), if_neg (u8_neE (by show c.toNat ≠ 62; omega)), if_neg (u8_neE (by show c.toNat ≠ 34; omega)), if_neg (u8_neE (by show c.toNat ≠ 39; omega)), if_neg (u8_neE (by show c.toNat ≠ 13; omega))]
theorem escL_high : ∀ l : List UInt8, (∀ c ∈ l, 128 ≤ c.toNat) → escL l = l
 | [], _ => rfl
 | c :: l, h => by rw [escL_cons, escE_high c (h c (by simp)), escL_high l (fun d hd => h d (by simp [hd]))]; rfl
theorem escE_ascii (c : UInt8) (h : c.toNat < 128) : ∀ d ∈ escE c, d.toNat < 128 := by
 unfold escE
 repeat' split
 all_goals (intro d hd; simp at hd)
 all_goals first
  | (rcases hd with rfl | rfl | rfl | rfl | rfl | rfl <;> decide)
  | (rcases hd with rfl | rfl | rfl | rfl | rfl <;> decide)
  | (rcases hd with rfl | rfl | rfl | rfl <;> decide)
  | (rw [hd]; exact h)
theorem V_esc (l : List UInt8) (h : V l = true) : V (escL l) = true := by
 refine V_ind (P := fun l => V (escL l) = true) rfl ?_ l.length l (Nat.le_refl _) h
 intro v t hv ht ih
 rw [escL_app]
 by_cases h1 : v < 128
 ·rw [enc1 h1, escL_cons, escL_nil, List.append_nil, V_ascii _ _ (escE_ascii _ (by rw [bt_nat (by omega)]; exact h1))]
  exact ih
 ·rw [escL_high _ (encL_high v hv (by omega)), V_enc v hv]; exact ih
def digE (c : UInt8) : Nat := if 48 ≤ c.toNat ∧ c.toNat ≤ 57 then c.toNat - 48 else if 97 ≤ c.toNat ∧ c.toNat ≤ 102 then c.toNat - 97 + 10 else if 65 ≤ c.toNat ∧ c.toNat ≤ 70 then c.toNat - 65 + 10 else 99
def numE (b : Nat) (l : List UInt8) : Nat := l.foldl (fun a c => a * b + digE c) 0
def okD (b : Nat) (l : List UInt8) : Bool := l.all fun c => decide (digE c < b)
def runeN (n : Nat) : Option Nat := if validR n && xmlN n then some n else none
def numR (b most : Nat) (l : List UInt8) : Option Nat := if l ≠ [] ∧ l.length ≤ most ∧ okD b l = true then runeN (numE b l) else none
def nameR (l : List UInt8) : Option Nat :=
 if l = [97, 109, 112] then some 38 else if l = [108, 116] then some 60 else if l = [103, 116] then some 62 else if l = [113, 117, 111, 116] then some 34 else if l = [97, 112, 111, 115] then some 39 else none
def runeR (l : List UInt8) : Option Nat := match l with
 | 35 :: 120 :: d => numR 16 6 d
 | 35 :: d => numR 10 7 d
 | l => nameR l
def cutE : List UInt8 → Option (List UInt8 × List UInt8)
 | [] => none
 | c :: r => if c = 59 then some ([], r) else (cutE r).map fun p => (c :: p.1, p.2)
theorem cutE_some : ∀ (l b t : List UInt8), cutE l = some (b, t) → l = b ++ 59 :: t ∧ ∀ c ∈ b, c ≠ 59
 | [], b, t, h => by simp [cutE] at h
 | c :: r, b, t, h => by
  simp only [cutE] at h
  by_cases hc : c = 59
  ·rw [if_pos hc] at h
   simp at h
   obtain ⟨rfl, rfl⟩ := h
   exact ⟨by rw [hc]; rfl, fun _ h => by simp at h⟩
  ·rw [if_neg hc] at h
   cases hr : cutE r with
   | none => rw [hr] at h; simp at h
   | some p =>
    rw [hr] at h
    simp at h
    obtain ⟨rfl, rfl⟩ := h
    obtain ⟨h1, h2⟩ := cutE_some r p.1 p.2 (by rw [hr])
    refine ⟨by rw [List.cons_append, ← h1], fun d hd => ?_⟩
    rcases List.mem_cons.1 hd with rfl | hd
    ·exact hc
    ·exact h2 d hd
theorem cutE_mk : ∀ (b t : List UInt8), (∀ c ∈ b, c ≠ 59) → cutE (b ++ 59 :: t) = some (b, t)
 | [], t, _ => by simp [cutE]
 | c :: b, t, h => by
  rw [List.cons_append]
  simp only [cutE]
  rw [if_neg (h c (by simp)), cutE_mk b t (fun d hd => h d (by simp [hd]))]; rfl
def unF : Nat → List UInt8 → Option (List UInt8)
 | 0, _ => some []
 | _ + 1, [] => some []
 | f + 1, c :: r => if c = 38 then (match cutE r with
   | none => none
   | some (b, t) => match runeR b with
    | none => none
    | some n => (unF f t).map (encL n ++ ·)) else (unF f r).map (c :: ·)
theorem unF_nil (f : Nat) : unF f [] = some [] := by cases f <;> rfl
theorem unF_fuel : ∀ (f g : Nat) (l : List UInt8), l.length ≤ f → l.length ≤ g → unF f l = unF g l
 | 0, g, l, hf, _ => by
  obtain rfl : l = [] := List.length_eq_zero_iff.1 (by omega)
  rw [unF_nil, unF_nil]
 | f + 1, 0, l, _, hg => by
  obtain rfl : l = [] := List.length_eq_zero_iff.1 (by omega)
  rw [unF_nil, unF_nil]
 | f + 1, g + 1, [], _, _ => by rw [unF_nil, unF_nil]
 | f + 1, g + 1, c :: r, hf, hg => by
  simp only [List.length_cons] at hf hg
  simp only [unF]
  split
  ·cases hc : cutE r with
   | none => rfl
   | some p =>
    obtain ⟨b, t⟩ := p
    have hl := congrArg List.length (cutE_some r b t hc).1
    simp only [List.length_append, List.length_cons] at hl
    show (match runeR b with | none => none | some n => (unF f t).map (encL n ++ ·)) = (match runeR b with | none => none | some n => (unF g t).map (encL n ++ ·))
    rw [unF_fuel f g t (by omega) (by omega)]
  ·rw [unF_fuel f g r (by omega) (by omega)]
def unL (l : List UInt8) : Option (List UInt8) := unF l.length l
def unA (l : List UInt8) : Option (List UInt8) := if V l then unL l else none
theorem unL_nil : unL [] = some [] := rfl
theorem unL_cons (c : UInt8) (r : List UInt8) (h : c ≠ 38) : unL (c :: r) = (unL r).map (c :: ·) := by
 unfold unL
 rw [List.length_cons, unF, if_neg h]
theorem unL_no (r : List UInt8) (h : cutE r = none) : unL (38 :: r) = none := by
 unfold unL
 rw [List.length_cons, unF, if_pos rfl, h]
theorem unL_bad (r b t : List UInt8) (h : cutE r = some (b, t)) (h2 : runeR b = none) : unL (38 :: r) = none := by
 unfold unL
 rw [List.length_cons, unF, if_pos rfl, h]
 simp only [h2]
theorem unL_ok (r b t : List UInt8) (n : Nat) (h : cutE r = some (b, t)) (h2 : runeR b = some n) : unL (38 :: r) = (unL t).map (encL n ++ ·) := by
 have hl := congrArg List.length (cutE_some r b t h).1
 simp only [List.length_append, List.length_cons] at hl
 unfold unL
 rw [List.length_cons, unF, if_pos rfl, h]
 simp only [h2]
 rw [unF_fuel r.length t.length t (by omega) (Nat.le_refl _)]
theorem unL_app : ∀ (a t : List UInt8), (∀ c ∈ a, c ≠ 38) → unL (a ++ t) = (unL t).map (a ++ ·)
 | [], t, _ => by simp
 | c :: a, t, h => by
  rw [List.cons_append, unL_cons c _ (h c (by simp)), unL_app a t (fun d hd => h d (by simp [hd]))]
  cases unL t <;> simp
theorem unL_enc (v : Nat) (hv : validR v = true) (h : v ≠ 38) (t : List UInt8) : unL (encL v ++ t) = (unL t).map (encL v ++ ·) := by
 refine unL_app _ _ fun c hc => ?_
 by_cases h1 : v < 128
 ·rw [enc1 h1] at hc
  simp at hc
  subst hc
  exact u8_neE (by rw [bt_nat (by omega)]; exact h)
 ·have := encL_high v hv (by omega) c hc
  exact u8_neE (by show c.toNat ≠ 38; omega)
theorem run13 : runeR [35, 49, 51] = some 13 := by decide +kernel
theorem unL_sign (b t : List UInt8) (n : Nat) (hb : ∀ c ∈ b, c ≠ 59) (h : runeR b = some n) : unL (38 :: (b ++ 59 :: t)) = (unL t).map (encL n ++ ·) := unL_ok _ b t n (cutE_mk b t hb) h
theorem un_esc : ∀ l : List UInt8, unL (escL l) = some l
 | [] => rfl
 | c :: l => by
  have ih := un_esc l
  rw [escL_cons]
  unfold escE
  repeat' split
  ·rw [show [38, 97, 109, 112, 59] ++ escL l = 38 :: ([97, 109, 112] ++ 59 :: escL l) from rfl, unL_sign _ _ 38 (by decide) (by decide +kernel), ih]; rename_i h; rw [h]; rfl
  ·rw [show [38, 108, 116, 59] ++ escL l = 38 :: ([108, 116] ++ 59 :: escL l) from rfl, unL_sign _ _ 60 (by decide) (by decide +kernel), ih]; rename_i h; rw [h]; rfl
  ·rw [show [38, 103, 116, 59] ++ escL l = 38 :: ([103, 116] ++ 59 :: escL l) from rfl, unL_sign _ _ 62 (by decide) (by decide +kernel), ih]; rename_i h; rw [h]; rfl
  ·rw [show [38, 113, 117, 111, 116, 59] ++ escL l = 38 :: ([113, 117, 111, 116] ++ 59 :: escL l) from rfl, unL_sign _ _ 34 (by decide) (by decide +kernel), ih]; rename_i h; rw [h]; rfl
  ·rw [show [38, 97, 112, 111, 115, 59] ++ escL l = 38 :: ([97, 112, 111, 115] ++ 59 :: escL l) from rfl, unL_sign _ _ 39 (by decide) (by decide +kernel), ih]; rename_i h; rw [h]; rfl
  ·rw [show [38, 35, 49, 51, 59] ++ escL l = 38 :: ([35, 49, 51] ++ 59 :: escL l) from rfl, unL_sign _ _ 13 (by decide) (by decide +kernel), ih]; rename_i h; rw [h]; rfl
  ·rw [show [c] ++ escL l = c :: escL l from rfl, unL_cons c _ (by assumption), ih]; rfl
theorem dig_ascii (b : Nat) (hb : b ≤ 16) (c : UInt8) (h : digE c < b) : c.toNat < 128 := by
 unfold digE at h
 repeat' split at h
 all_goals omega
theorem numR_ascii {b most : Nat} {l : List UInt8} {n : Nat} (hb : b ≤ 16) (h : numR b most l = some n) : ∀ c ∈ l, c.toNat < 128 := by
 unfold numR at h
 split at h
 ·rename_i hh
  intro c hc
  have := List.all_eq_true.1 hh.2.2 c hc
  exact dig_ascii b hb c (by simpa using this)
 ·cases h
theorem nameR_ascii {l : List UInt8} {n : Nat} (h : nameR l = some n) : ∀ c ∈ l, c.toNat < 128 := by
 unfold nameR at h
 repeat' split at h
 all_goals first | (rename_i hh; subst hh; decide) | cases h | skip
theorem runeR_ascii {l : List UInt8} {n : Nat} (h : runeR l = some n) : ∀ c ∈ l, c.toNat < 128 := by
 unfold runeR at h
 split at h
 ·intro c hc
  rcases List.mem_cons.1 hc with rfl | hc
  ·decide
  ·rcases List.mem_cons.1 hc with rfl | hc
   ·decide
   ·exact numR_ascii (by decide) h c hc
 ·intro c hc
  rcases List.mem_cons.1 hc with rfl | hc
  ·decide
  ·exact numR_ascii (by decide) h c hc
 ·exact nameR_ascii h
theorem runeN_some {n m : Nat} (h : runeN n = some m) : m = n ∧ validR n = true ∧ xmlN n = true := by
 unfold runeN at h
 split at h
 ·rename_i hh
  rw [Bool.and_eq_true] at hh
  exact ⟨(Option.some.inj h).symm, hh.1, hh.2⟩
 ·cases h
theorem runeR_valid {l : List UInt8} {n : Nat} (h : runeR l = some n) : validR n = true := by
 have aux : ∀ b m d, numR b m d = some n → validR n = true := fun b m d h => by
  unfold numR at h
  split at h
  ·obtain ⟨e, h1, _⟩ := runeN_some h
   rw [e]; exact h1
  ·cases h
 unfold runeR at h
 split at h
 ·exact aux _ _ _ h
 ·exact aux _ _ _ h
 ·unfold nameR at h
  repeat' split at h
  all_goals first | (have := Option.some.inj h; subst this; decide) | cases h
def linE : List UInt8 → List UInt8
 | [] => []
 | c :: r => if c ≠ 13 then c :: linE r else if r.head? = some 10 then linE r else 10 :: linE r
theorem linE_len : ∀ l : List UInt8, (linE l).length ≤ l.length
 | [] => Nat.le_refl _
 | c :: r => by
  have := linE_len r
  simp only [linE]
  repeat' split
  all_goals (simp only [List.length_cons]; omega)
theorem linE_plain : ∀ l : List UInt8, (∀ c ∈ l, c ≠ 13) → linE l = l
 | [], _ => rfl
 | c :: r, h => by
  simp only [linE]
  rw [if_pos (h c (by simp)), linE_plain r (fun d hd => h d (by simp [hd]))]
def repF (old new : List UInt8) : Nat → List UInt8 → List UInt8
 | 0, l => l
 | _ + 1, [] => []
 | f + 1, c :: r => if old.isPrefixOf (c :: r) then new ++ repF old new f ((c :: r).drop old.length) else c :: repF old new f r
theorem repF_nil (old new : List UInt8) (f : Nat) : repF old new f [] = [] := by cases f <;> rfl
theorem index_none_cons {c : UInt8} {r old : List UInt8} (h : Lib.index (c :: r) old = -1) : old.isPrefixOf (c :: r) = false ∧ Lib.index r old = -1 := by
 unfold Lib.index at h
 cases hp : old.isPrefixOf (c :: r) with
 | true => rw [hp, if_pos rfl] at h; cases h
 | false =>
  rw [hp, if_neg (by simp)] at h
  refine ⟨rfl, ?_⟩
  by_cases hi : (Lib.index r old == -1) = true
  ·exact beq_iff_eq.1 hi
  ·rw [if_neg hi] at h
   have := Lib.index_ge r old
   omega
theorem repF_none (old new : List UInt8) : ∀ (f : Nat) (l : List UInt8), Lib.index l old = -1 → repF old new f l = l
 | 0, l, _ => rfl
 | f + 1, [], _ => rfl
 | f + 1, c :: r, h => by
  obtain ⟨h1, h2⟩ := index_none_cons h
  simp only [repF]
  rw [if_neg (by rw [h1]; simp), repF_none old new f r h2]
theorem index_hit {l old : List UInt8} {i : Nat} (h1 : 1 ≤ old.length) (h : Lib.index l old = (i : Int)) : match i with
  | 0 => old.isPrefixOf l = true ∧ l ≠ []
  | k + 1 => ∃ c r, l = c :: r ∧ old.isPrefixOf (c :: r) = false ∧ Lib.index r old = (k : Int) := by
 cases l with
 | nil =>
  unfold Lib.index at h
  rw [if_neg (by cases old <;> simp at h1 ⊢)] at h
  omega
 | cons c r =>
  unfold Lib.index at h
  cases hp : old.isPrefixOf (c :: r) with
  | true =>
   rw [hp, if_pos rfl] at h
   obtain rfl : i = 0 := by omega
   exact ⟨rfl, by simp⟩
  | false =>
   rw [hp, if_neg (by simp)] at h
   by_cases hi : (Lib.index r old == -1) = true
   ·rw [if_pos hi] at h; omega
   ·rw [if_neg hi] at h
    have hg := Lib.index_ge r old
    have hne : Lib.index r old ≠ -1 := fun e => hi (beq_iff_eq.2 e)
    cases i with
    | zero => omega
    | succ k => exact ⟨c, r, rfl, hp, by omega⟩
theorem repF_hit (old new : List UInt8) (h1 : 1 ≤ old.length) : ∀ (i : Nat) (l : List UInt8) (f : Nat), Lib.index l old = (i : Int) → l.length ≤ f → ∃ g, (l.drop (i + old.length)).length ≤ g ∧ repF old new f l = l.take i ++ new ++ repF old new g (l.drop (i + old.length))
 | 0, l, f, h, hf => by
  obtain ⟨hp, hne⟩ := index_hit h1 h
  match l, hne with
  | c :: r, _ =>
   simp only [List.length_cons] at hf
   obtain ⟨f, rfl⟩ : ∃ f', f = f' + 1 := ⟨f - 1, by omega⟩
   refine ⟨f, ?_, ?_⟩
   ·rw [List.length_drop, List.length_cons]; omega
   ·simp only [repF]
    rw [if_pos hp, Nat.zero_add]; simp
 | i + 1, l, f, h, hf => by
  obtain ⟨c, r, rfl, hp, hr⟩ := index_hit h1 h
  simp only [List.length_cons] at hf
  obtain ⟨f, rfl⟩ : ∃ f', f = f' + 1 := ⟨f - 1, by omega⟩
  obtain ⟨g, hg, e⟩ := repF_hit old new h1 i r f hr (by omega)
  refine ⟨g, ?_, ?_⟩
  ·rw [show i + 1 + old.length = (i + old.length) + 1 from by omega, List.drop_succ_cons]; exact hg
  ·simp only [repF]
   rw [if_neg (by rw [hp]; simp), e, show i + 1 + old.length = (i + old.length) + 1 from by omega, List.drop_succ_cons, List.take_succ_cons]
   simp
theorem replaceK_rep (old new : List UInt8) (h1 : 1 ≤ old.length) : ∀ (k : Nat) (l : List UInt8) (f : Nat), l.length ≤ f → Lib.count l old ≤ k → Lib.replaceK old new k l = repF old new f l
 | k, l, f, hf, hk => by
  by_cases hi : Lib.index l old = -1
  ·rw [repF_none old new f l hi]
   cases k with
   | zero => rfl
   | succ k => rw [Lib.replaceK, if_pos (by rw [hi]; rfl)]
  ·have hg := Lib.index_ge l old
   obtain ⟨i, h⟩ : ∃ i : Nat, Lib.index l old = (i : Int) := ⟨(Lib.index l old).toNat, by omega⟩
   obtain ⟨g, hg2, e⟩ := repF_hit old new h1 i l f h hf
   have hc : Lib.count l old = 1 + Lib.count (l.drop (i + old.length)) old := Lib.count_hit (fun e0 => by rw [e0] at h1; simp at h1) h
   cases k with
   | zero => omega
   | succ k =>
    rw [Lib.replaceK_hit old new k l i h, e, replaceK_rep old new h1 k _ g hg2 (by omega)]
theorem replaceAll_rep (old new l : List UInt8) (h1 : 1 ≤ old.length) (hne : old ≠ new) : Lib.replaceAll l old new = repF old new l.length l := by
 unfold Lib.replaceAll Lib.replace
 rw [if_neg (by simpa using hne)]
 refine replaceK_rep old new h1 _ l l.length (Nat.le_refl _) ?_
 unfold Lib.replaceNum
 rw [if_pos (Or.inl (by decide))]
 exact Nat.le_refl _
theorem rep_one (x y : UInt8) : ∀ (f : Nat) (l : List UInt8), l.length ≤ f → repF [x] [y] f l = l.map fun c => if c = x then y else c
 | 0, l, h => by
  obtain rfl : l = [] := List.length_eq_zero_iff.1 (by omega)
  rfl
 | f + 1, [], _ => rfl
 | f + 1, c :: r, h => by
  simp only [List.length_cons] at h
  simp only [repF, List.map_cons]
  by_cases hc : c = x
  ·subst hc
   rw [if_pos (by simp [List.isPrefixOf]), if_pos rfl]
   simp only [List.length_cons, List.length_nil, List.drop_succ_cons, List.drop_zero]
   rw [rep_one c y f r (by omega)]; rfl
  ·rw [if_neg (by simp [List.isPrefixOf]; exact fun e => hc e.symm), if_neg hc, rep_one x y f r (by omega)]
theorem rep_lines : ∀ (n f : Nat) (l : List UInt8), l.length ≤ n → l.length ≤ f → (repF [13, 10] [10] f l).map (fun c => if c = 13 then 10 else c) = linE l
 | _, 0, l, _, h => by
  obtain rfl : l = [] := List.length_eq_zero_iff.1 (by omega)
  rfl
 | 0, f + 1, l, h, _ => by
  obtain rfl : l = [] := List.length_eq_zero_iff.1 (by omega)
  rfl
 | n + 1, f + 1, [], _, _ => rfl
 | n + 1, f + 1, c :: r, hn, hf => by
  simp only [List.length_cons] at hn hf
  simp only [repF, linE]
  by_cases hc : c = 13
  ·subst hc
   match r with
   | [] =>
    rw [if_neg (by simp [List.isPrefixOf]), repF_nil]
    simp [linE]
   | d :: t =>
    simp only [List.length_cons] at hn hf
    by_cases hd : d = 10
    ·subst hd
     rw [if_pos (by simp [List.isPrefixOf])]
     simp only [List.length_cons, List.length_nil, List.drop_succ_cons, List.drop_zero, List.cons_append, List.nil_append, List.map_cons]
     rw [rep_lines n f t (by omega) (by omega)]
     simp [linE]
    ·rw [if_neg (by simp [List.isPrefixOf]; exact fun e => hd e.symm), List.map_cons, rep_lines n f (d :: t) (by simp; omega) (by simp; omega)]
     simp [hd]
  ·rw [if_neg (by simp [List.isPrefixOf]; exact fun e _ => hc e.symm), List.map_cons, rep_lines n f r (by omega) (by omega)]
   simp [hc]
def blankE (l : List UInt8) : List UInt8 := l.map fun c => if c = 9 ∨ c = 10 then 32 else c
theorem blank_two (l : List UInt8) : (l.map fun c => if c = 10 then (32 : UInt8) else c).map (fun c => if c = 9 then 32 else c) = blankE l := by
 rw [List.map_map]
 apply List.map_congr_left
 intro c _
 simp only [Function.comp]
 by_cases h1 : c = 10
 ·subst h1; decide
 ·by_cases h2 : c = 9
  ·subst h2; decide
  ·simp [h1, h2]
end Go.Proofs.YtgoiafndapemjaaGreatDoor
namespace Go.Proofs.YtgoiafndapemjaaGreatDoor
theorem mk_data (l : List UInt8) : (⟨l.toArray⟩ : ByteArray).data.toList = l := rfl
theorem mk_size (l : List UInt8) : (⟨l.toArray⟩ : ByteArray).size = l.length := by rw [Lib.size_eq]
theorem runes_shift (a t : List UInt8) : ∀ f pos, runesFrom ⟨(a ++ t).toArray⟩ f (a.length + pos) = runesFrom ⟨t.toArray⟩ f pos
 | 0, pos => rfl
 | f + 1, pos => by
  have hd : Utf8.decode ⟨(a ++ t).toArray⟩ (a.length + pos) = Utf8.decode ⟨t.toArray⟩ pos := by
   rw [decL_at, decL_at, mk_data, mk_data]
   rw [List.drop_append, show a.length + pos - a.length = pos from by omega, List.drop_of_length_le (by omega)]; rfl
  by_cases hp : pos < t.length
  ·rw [runesFrom_step _ f _ (by rw [mk_size, List.length_append]; omega), runesFrom_step _ f _ (by rw [mk_size]; exact hp), hd, Nat.add_assoc, runes_shift a t f]
  ·rw [runesFrom_end _ _ _ (by rw [mk_size, List.length_append]; omega), runesFrom_end _ _ _ (by rw [mk_size]; exact hp)]
theorem runes_fuel (s : ByteArray) : ∀ f g pos, s.size ≤ pos + f → s.size ≤ pos + g → runesFrom s f pos = runesFrom s g pos
 | 0, g, pos, hf, _ => by rw [runesFrom_end s 0 pos (by omega), runesFrom_end s g pos (by omega)]
 | f + 1, 0, pos, _, hg => by rw [runesFrom_end s (f + 1) pos (by omega), runesFrom_end s 0 pos (by omega)]
 | f + 1, g + 1, pos, hf, hg => by
  by_cases hp : pos < s.size
  ·have := Lib.decode_width_pos s pos hp
   rw [runesFrom_step s f pos hp, runesFrom_step s g pos hp, runes_fuel s f g _ (by omega) (by omega)]
  ·rw [runesFrom_end s _ pos hp, runesFrom_end s _ pos hp]
theorem runes_enc (v : Nat) (hv : validR v = true) (t : List UInt8) : runesOf ⟨(encL v ++ t).toArray⟩ = v :: runesOf ⟨t.toArray⟩ := by
 have h1 := (encL_len v).1
 unfold runesOf
 rw [mk_size, mk_size]
 obtain ⟨k, hk⟩ : ∃ k, (encL v ++ t).length = k + 1 := ⟨(encL v ++ t).length - 1, by rw [List.length_append]; omega⟩
 rw [hk, runesFrom_enc _ k 0 v t hv (by rw [mk_data]; simp)]
 have hs := runes_shift (encL v) t k 0
 rw [Nat.add_zero] at hs
 rw [Nat.zero_add, hs]
 congr 1
 rw [List.length_append] at hk
 exact runes_fuel _ _ _ _ (by rw [mk_size]; omega) (by rw [mk_size]; omega)
def X (l : List UInt8) : Bool := V l && xmlB ⟨l.toArray⟩
theorem X_V {l : List UInt8} (h : X l = true) : V l = true := by unfold X at h; rw [Bool.and_eq_true] at h; exact h.1
theorem X_enc (v : Nat) (hv : validR v = true) (t : List UInt8) : X (encL v ++ t) = (xmlN v && X t) := by
 unfold X xmlB
 rw [V_enc v hv, runes_enc v hv, List.all_cons]
 cases V t <;> cases xmlN v <;> simp
theorem X_open {l : List UInt8} (h : X l = true) (hl : l ≠ []) : ∃ v t, validR v = true ∧ xmlN v = true ∧ l = encL v ++ t ∧ X t = true := by
 obtain ⟨v, t, hv, rfl, _⟩ := V_open (X_V h) hl
 rw [X_enc v hv, Bool.and_eq_true] at h
 exact ⟨v, t, hv, h.1, rfl, h.2⟩
theorem X_ind {P : List UInt8 → Prop} (h0 : P []) (h1 : ∀ v t, validR v = true → xmlN v = true → X t = true → P t → P (encL v ++ t)) : ∀ (n : Nat) (l : List UInt8), l.length ≤ n → X l = true → P l
 | 0, l, hn, _ => by
  obtain rfl : l = [] := List.length_eq_zero_iff.1 (by omega)
  exact h0
 | n + 1, l, hn, h => by
  by_cases hl : l = []
  ·subst hl; exact h0
  ·obtain ⟨v, t, hv, hx, rfl, ht⟩ := X_open h hl
   have := (encL_len v).1
   rw [List.length_append] at hn
   exact h1 v t hv hx ht (X_ind h0 h1 n t (by omega) ht)
theorem X_byte (c : UInt8) (h : c.toNat < 128) (t : List UInt8) : X (c :: t) = (xmlN c.toNat && X t) := by
 have := X_enc c.toNat (validR_iff.2 (by omega)) t
 rwa [enc_byte c h] at this
theorem X_ascii : ∀ (a t : List UInt8), (∀ c ∈ a, c.toNat < 128 ∧ xmlN c.toNat = true) → X (a ++ t) = X t
 | [], t, _ => rfl
 | c :: a, t, h => by
  have hc := h c (by simp)
  rw [List.cons_append, X_byte c hc.1, hc.2, X_ascii a t (fun d hd => h d (by simp [hd]))]; rfl
end Go.Proofs.YtgoiafndapemjaaGreatDoor
namespace Go.Proofs.YtgoiafndapemjaaGreatDoor
def lowB (c : UInt8) : UInt8 := if 65 ≤ c.toNat ∧ c.toNat ≤ 90 then c + 32 else c
def lowTo (l : List UInt8) (k : Nat) : List UInt8 := (l.take k).map lowB ++ l.drop k
theorem lowTo_zero (l : List UInt8) : lowTo l 0 = l := by simp [lowTo]
theorem lowTo_all (l : List UInt8) (k : Nat) (h : l.length ≤ k) : lowTo l k = l.map lowB := by simp [lowTo, List.take_of_length_le h, List.drop_of_length_le h]
theorem lowTo_len (l : List UInt8) (k : Nat) : (lowTo l k).length = l.length := by simp [lowTo]; omega
theorem lowTo_at (l : List UInt8) (k : Nat) (h : k < l.length) : (lowTo l k).getD k 0 = l.getD k 0 := by
 unfold lowTo
 rw [List.getD_eq_getElem?_getD, List.getElem?_append_right (by simp; omega)]
 simp [Nat.min_eq_left (Nat.le_of_lt h), h]
theorem lowTo_succ (l : List UInt8) (k : Nat) (h : k < l.length) : lowTo l (k + 1) = (lowTo l k).set k (lowB (l.getD k 0)) := by
 have hg : l.getD k 0 = l[k] := by rw [List.getD_eq_getElem?_getD, List.getElem?_eq_getElem h]; rfl
 rw [hg]
 unfold lowTo
 rw [List.take_succ_eq_append_getElem h, List.map_append, List.set_append_right _ _ (by simp; omega)]
 have e : k - ((l.take k).map lowB).length = 0 := by simp; omega
 rw [e, List.drop_eq_getElem_cons h, List.set_cons_zero]
 simp only [List.map_cons, List.map_nil, List.append_assoc, List.cons_append, List.nil_append]
theorem lowTo_skip (l : List UInt8) (k : Nat) (h : k < l.length) (hc : lowB (l.getD k 0) = l.getD k 0) : lowTo l (k + 1) = lowTo l k := by
 have hg : l.getD k 0 = l[k] := by rw [List.getD_eq_getElem?_getD, List.getElem?_eq_getElem h]; rfl
 rw [hg] at hc
 unfold lowTo
 rw [List.take_succ_eq_append_getElem h, List.map_append, List.drop_eq_getElem_cons h]
 simp [hc]
theorem lowB_hit (c : UInt8) (h1 : 65 ≤ (c.toNat : Int)) (h2 : (c.toNat : Int) ≤ 90) : ((lowB c).toNat : Int) = (c.toNat : Int) + 32 := by
 have : 65 ≤ c.toNat ∧ c.toNat ≤ 90 := by omega
 simp only [lowB, this, and_self, if_true, UInt8.toNat_add]
 have e : UInt8.toNat 32 = 32 := rfl
 rw [e]; omega
theorem lowB_miss (c : UInt8) (h : ¬ (65 ≤ (c.toNat : Int) ∧ (c.toNat : Int) ≤ 90)) : lowB c = c := by
 have : ¬ (65 ≤ c.toNat ∧ c.toNat ≤ 90) := by omega
 simp [lowB, this]
end Go.Proofs.YtgoiafndapemjaaGreatDoor
namespace Go.Proofs.YtgoiafndapemjaaGreatDoor
structure HdV where
 name : List UInt8
 value : List UInt8
end Go.Proofs.YtgoiafndapemjaaGreatDoor
namespace Go.Proofs.YtgoiafndapemjaaGreatDoor
def zeroH : HdV := ⟨[], []⟩
end Go.Proofs.YtgoiafndapemjaaGreatDoor
namespace Go.Proofs.YtgoiafndapemjaaGreatDoor
end Go.Proofs.YtgoiafndapemjaaGreatDoor
namespace Go.Proofs.YtgoiafndapemjaaGreatDoor
end Go.Proofs.YtgoiafndapemjaaGreatDoor
namespace Go.Proofs.YtgoiafndapemjaaGreatDoor
end Go.Proofs.YtgoiafndapemjaaGreatDoor
namespace Go.Proofs.YtgoiafndapemjaaGreatDoor
abbrev Lab := List UInt8 × List HdV × List UInt8
def Tr : Nat → Type
 | 0 => Lab
 | d + 1 => Lab × List (Tr d)
def lab : (d : Nat) → Tr d → Lab
 | 0, t => t
 | _ + 1, t => t.1
def leaf : (d : Nat) → Lab → Tr d
 | 0, l => l
 | _ + 1, l => (l, [])
theorem lab_leaf (d : Nat) (l : Lab) : lab d (leaf d l) = l := by cases d <;> rfl
def nmT (d : Nat) (t : Tr d) : List UInt8 := (lab d t).1
def txT (d : Nat) (t : Tr d) : List UInt8 := (lab d t).2.2
def letX (c : UInt8) : Bool := (97 ≤ c.toNat && c.toNat ≤ 122) || (65 ≤ c.toNat && c.toNat ≤ 90) || c.toNat == 95
def latX (c : UInt8) : Bool := letX c || (48 ≤ c.toNat && c.toNat ≤ 57) || c.toNat == 46 || c.toNat == 45 || c.toNat == 58
def nameX (l : List UInt8) : Bool := decide (1 ≤ l.length) && decide (l.length ≤ 64) && letX (l.getD 0 0) && l.all latX
def whX (c : UInt8) : Bool := c.toNat == 32 || c.toNat == 9 || c.toNat == 10 || c.toNat == 13
def preX (p l : List UInt8) : Bool := p.isPrefixOf l
def distN : List (List UInt8) → Bool
 | [] => true
 | a :: r => !r.contains a && distN r
def attsOk (l : List HdV) : Bool := l.all (fun a => nameX a.name && X a.value) && distN (l.map (·.name))
def noAdj : List Bool → Bool
 | a :: b :: r => !(a && b) && noAdj (b :: r)
 | _ => true
def mayTop (l : Lab) (bare kidsOk : Bool) : Bool :=
 if l.1.isEmpty then !l.2.2.isEmpty && l.2.1.isEmpty && bare && X l.2.2 else nameX l.1 && l.2.2.isEmpty && attsOk l.2.1 && kidsOk
def mayT : (d : Nat) → Tr d → Bool
 | 0, t => mayTop t true true
 | d + 1, t => mayTop t.1 t.2.isEmpty (t.2.all (mayT d) && noAdj (t.2.map fun k => (nmT d k).isEmpty))
def maxL (l : List Nat) : Nat := l.foldr Nat.max 0
def deepT : (d : Nat) → Tr d → Nat
 | 0, t => if t.1.isEmpty then 0 else 1
 | d + 1, t => if t.1.1.isEmpty then 0 else maxL (t.2.map (deepT d)) + 1
def manyT : (d : Nat) → Tr d → Nat
 | 0, t => 1 + (if t.1.isEmpty then 0 else t.2.1.length)
 | d + 1, t => 1 + (if t.1.1.isEmpty then 0 else t.1.2.1.length) + (t.2.map (manyT d)).sum
def checkT (d : Nat) (t : Tr d) : Nat := if (nmT d t).isEmpty || !mayT d t then 1 else if 16 < deepT d t then 9 else if 4096 < manyT d t then 3 else 0
def tabE (c : UInt8) : List UInt8 := if c = 9 then [38, 35, 57, 59] else if c = 10 then [38, 35, 49, 48, 59] else [c]
def attE (v : List UInt8) : List UInt8 := (escL v).flatMap tabE
def attP (a : HdV) : List UInt8 := 32 :: (a.name ++ 61 :: 34 :: (attE a.value ++ [34]))
def untX (p : List UInt8) : List UInt8 → Option (List UInt8 × List UInt8)
 | [] => none
 | c :: r => if preX p (c :: r) then some ([], (c :: r).drop p.length) else (untX p r).map fun q => (c :: q.1, q.2)
def hdW : List UInt8 → Bool
 | c :: _ => whX c
 | [] => false
def asX (all : Bool) : Nat → List UInt8 → Except Nat (List UInt8)
 | 0, l => .ok l
 | f + 1, l =>
  if preX [60, 33, 45, 45] l then (match untX [45, 45, 62] (l.drop 4) with
   | none => .error 5
   | some q => asX all f q.2)
  else if preX [60, 63] l then (match untX [63, 62] (l.drop 2) with
   | none => .error 5
   | some q => asX all f q.2)
  else if all && hdW l then asX all f (l.dropWhile whX) else .ok l
def valX (raw : List UInt8) : Option (List UInt8) := unA (blankE (linE raw))
def attX (as : List HdV) (l : List UInt8) (m : Nat) : Except Nat (HdV × List UInt8 × Nat) :=
 if !nameX (l.takeWhile latX) then .error 5 else
 match (l.dropWhile latX).dropWhile whX with
 | 61 :: r => (match r.dropWhile whX with
  | q :: r2 => if q = 34 ∨ q = 39 then (match untX [q] r2 with
   | none => .error 5
   | some p => if p.1.contains 60 then .error 5 else (match valX p.1 with
    | none => .error 5
    | some v => if (as.map (·.name)).contains (l.takeWhile latX) then .error 5 else if m + 1 ≤ 4096 then .ok (⟨l.takeWhile latX, v⟩, p.2, m + 1) else .error 3)) else .error 5
  | [] => .error 5)
 | _ => .error 5
def atsX : Nat → List HdV → List UInt8 → Nat → Except Nat (List HdV × Bool × List UInt8 × Nat)
 | 0, _, _, _ => .error 99
 | f + 1, as, l, m =>
  if preX [47, 62] (l.dropWhile whX) then .ok (as, true, (l.dropWhile whX).drop 2, m)
  else if preX [62] (l.dropWhile whX) then .ok (as, false, (l.dropWhile whX).drop 1, m)
  else if (l.dropWhile whX).length = l.length then .error 5
  else (match attX as (l.dropWhile whX) m with
   | .error e => .error e
   | .ok (a, l2, m2) => atsX f (as ++ [a]) l2 m2)
def opX (lev : Nat) (l : List UInt8) (m : Nat) : Except Nat (List UInt8 × List HdV × Bool × List UInt8 × Nat) :=
 match l with
 | 60 :: r => if !nameX (r.takeWhile latX) then .error 5 else if lev = 0 then .error 9 else if 4096 < m + 1 then .error 3 else
  (match atsX ((r.dropWhile latX).length + 1) [] (r.dropWhile latX) (m + 1) with
  | .error e => .error e
  | .ok (as, b, l2, m2) => .ok (r.takeWhile latX, as, b, l2, m2))
 | _ => .error 5
def sayX (d : Nat) (ks : List (Tr d)) (s : List UInt8) (m : Nat) : Except Nat (List (Tr d) × Nat) :=
 if s.isEmpty then .ok (ks, m) else
 match ks.getLast? with
 | some k => if (nmT d k).isEmpty then .ok (ks.dropLast ++ [leaf d ([], [], txT d k ++ s)], m) else if m + 1 ≤ 4096 then .ok (ks ++ [leaf d ([], [], s)], m + 1) else .error 3
 | none => if m + 1 ≤ 4096 then .ok ([leaf d ([], [], s)], m + 1) else .error 3
def kidX (d : Nat) (el : List UInt8 → Nat → Except Nat (Tr d × List UInt8 × Nat)) : Nat → List (Tr d) → List UInt8 → Nat → Except Nat (List (Tr d) × List UInt8 × Nat)
 | 0, _, _, _ => .error 99
 | f + 1, ks, l, m =>
  if preX [60, 47] l then .ok (ks, l, m)
  else if preX [60, 33, 45, 45] l || preX [60, 63] l then (match asX false l.length l with
   | .error e => .error e
   | .ok l2 => kidX d el f ks l2 m)
  else if preX [60, 33, 91, 67, 68, 65, 84, 65, 91] l then (match untX [93, 93, 62] (l.drop 9) with
   | none => .error 5
   | some q => (match sayX d ks q.1 m with
    | .error e => .error e
    | .ok (ks2, m2) => kidX d el f ks2 q.2 m2))
  else if preX [60] l then (match el l m with
   | .error e => .error e
   | .ok (t, l2, m2) => kidX d el f (ks ++ [t]) l2 m2)
  else if (untX [93, 93, 62] (l.takeWhile (· != 60))).isSome || (l.dropWhile (· != 60)).isEmpty then .error 5
  else (match unA (l.takeWhile (· != 60)) with
   | none => .error 5
   | some s => (match sayX d ks s m with
    | .error e => .error e
    | .ok (ks2, m2) => kidX d el f ks2 (l.dropWhile (· != 60)) m2))
def clX (n l : List UInt8) : Option (List UInt8) :=
 if (l.drop 2).takeWhile latX = n then (match ((l.drop 2).dropWhile latX).dropWhile whX with
  | 62 :: r => some r
  | _ => none) else none
def elX : (d : Nat) → Nat → List UInt8 → Nat → Except Nat (Tr d × List UInt8 × Nat)
 | 0, lev, l, m => (match opX lev l m with
  | .error e => .error e
  | .ok (n, as, true, l2, m2) => .ok ((n, as, []), l2, m2)
  | .ok (_, _, false, _, _) => .error 98)
 | d + 1, lev, l, m => (match opX lev l m with
  | .error e => .error e
  | .ok (n, as, true, l2, m2) => .ok (((n, as, []), []), l2, m2)
  | .ok (n, as, false, l2, m2) => (match kidX d (elX d (lev - 1)) (l2.length + 1) [] l2 m2 with
   | .error e => .error e
   | .ok (ks, l3, m3) => (match clX n l3 with
    | none => .error 5
    | some r => .ok (((n, as, []), ks), r, m3))))
def parX (s : List UInt8) : Except Nat (Tr 40) :=
 if 65536 < s.length then .error 3 else if !X s then .error 5 else
 match asX true ((linE s).length) (linE s) with
 | .error e => .error e
 | .ok l1 => if preX [60, 33, 68, 79, 67, 84, 89, 80, 69] l1 then .error 8 else (match elX 40 16 l1 0 with
  | .error e => .error e
  | .ok (t, l2, _) => (match asX true l2.length l2 with
   | .error e => .error e
   | .ok l3 => if l3.isEmpty then .ok t else .error 5))
end Go.Proofs.YtgoiafndapemjaaGreatDoor
namespace Go.Proofs.YtgoiafndapemjaaGreatDoor
theorem lat_fin : ∀ n : Fin 256, latX (UInt8.ofNat n.val) = true → n.val < 128 ∧ xmlN n.val = true ∧ whX (UInt8.ofNat n.val) = false ∧ n.val ≠ 60 ∧ n.val ≠ 62 ∧ n.val ≠ 47 ∧ n.val ≠ 61 ∧ n.val ≠ 13 ∧ n.val ≠ 33 ∧ n.val ≠ 63 := by decide +kernel
theorem lat_of {c : UInt8} (h : latX c = true) : c.toNat < 128 ∧ xmlN c.toNat = true ∧ whX c = false ∧ c.toNat ≠ 60 ∧ c.toNat ≠ 62 ∧ c.toNat ≠ 47 ∧ c.toNat ≠ 61 ∧ c.toNat ≠ 13 ∧ c.toNat ≠ 33 ∧ c.toNat ≠ 63 := by
 have := lat_fin ⟨c.toNat, c.toNat_lt⟩
 simp only [UInt8.ofNat_toNat] at this
 exact this h
theorem tw_app {p : UInt8 → Bool} : ∀ (a : List UInt8) (c : UInt8) (r : List UInt8), a.all p = true → p c = false → (a ++ c :: r).takeWhile p = a ∧ (a ++ c :: r).dropWhile p = c :: r
 | [], c, r, _, hc => by simp [List.takeWhile, List.dropWhile, hc]
 | x :: a, c, r, ha, hc => by
  rw [List.all_cons, Bool.and_eq_true] at ha
  obtain ⟨h1, h2⟩ := tw_app a c r ha.2 hc
  simp [List.takeWhile, List.dropWhile, ha.1, h1, h2]
theorem dw_no {p : UInt8 → Bool} (c : UInt8) (r : List UInt8) (h : p c = false) : (c :: r).dropWhile p = c :: r := by simp [List.dropWhile, h]
theorem name_all {n : List UInt8} (h : nameX n = true) : n.all latX = true := by
 unfold nameX at h
 rw [Bool.and_eq_true] at h
 exact h.2
theorem name_head {n : List UInt8} (h : nameX n = true) : ∃ c r, n = c :: r ∧ letX c = true := by
 unfold nameX at h
 simp only [Bool.and_eq_true, decide_eq_true_eq] at h
 cases n with
 | nil => simp at h
 | cons c r => exact ⟨c, r, rfl, by simpa using h.1.2⟩
theorem let_fin : ∀ n : Fin 256, letX (UInt8.ofNat n.val) = true → latX (UInt8.ofNat n.val) = true := by decide +kernel
theorem name_ne {n : List UInt8} (h : nameX n = true) : n ≠ [] := by
 obtain ⟨c, r, rfl, _⟩ := name_head h
 simp
theorem unt_one (q : UInt8) : ∀ (raw r : List UInt8), (∀ c ∈ raw, c ≠ q) → untX [q] (raw ++ q :: r) = some (raw, r)
 | [], r, _ => by simp [untX, preX, List.isPrefixOf]
 | c :: raw, r, h => by
  have hc : c ≠ q := h c (by simp)
  rw [List.cons_append]
  simp only [untX]
  rw [if_neg (by simp [preX, List.isPrefixOf]; exact fun e => hc e.symm), unt_one q raw r (fun d hd => h d (by simp [hd]))]
  rfl
def attB (c : UInt8) : List UInt8 := (escE c).flatMap tabE
theorem attE_cons (c : UInt8) (l : List UInt8) : attE (c :: l) = attB c ++ attE l := by
 unfold attE attB
 rw [escL_cons, List.flatMap_append]
theorem attE_nil : attE [] = [] := rfl
theorem attB_cases (c : UInt8) : (c = 9 ∧ attB c = [38, 35, 57, 59]) ∨ (c = 10 ∧ attB c = [38, 35, 49, 48, 59]) ∨ (c ≠ 9 ∧ c ≠ 10 ∧ attB c = escE c) := by
 by_cases h9 : c = 9
 ·subst h9; exact .inl ⟨rfl, by decide⟩
 ·by_cases h10 : c = 10
  ·subst h10; exact .inr (.inl ⟨rfl, by decide⟩)
  ·refine .inr (.inr ⟨h9, h10, ?_⟩)
   unfold attB escE
   repeat' split
   all_goals first | decide | (simp [List.flatMap, tabE, h9, h10])
theorem attB_fin : ∀ n : Fin 256, ∀ d ∈ attB (UInt8.ofNat n.val), d ≠ 34 ∧ d ≠ 60 ∧ d ≠ 9 ∧ d ≠ 10 ∧ d ≠ 13 := by decide +kernel
theorem attE_no (v : List UInt8) : ∀ d ∈ attE v, d ≠ 34 ∧ d ≠ 60 ∧ d ≠ 9 ∧ d ≠ 10 ∧ d ≠ 13 := by
 induction v with
 | nil => intro d hd; simp [attE_nil] at hd
 | cons c v ih =>
  intro d hd
  rw [attE_cons] at hd
  rcases List.mem_append.1 hd with h | h
  ·have := attB_fin ⟨c.toNat, c.toNat_lt⟩
   simp only [UInt8.ofNat_toNat] at this
   exact this d h
  ·exact ih d h
theorem un_att : ∀ v : List UInt8, unL (attE v) = some v
 | [] => rfl
 | c :: v => by
  have ih := un_att v
  rw [attE_cons]
  rcases attB_cases c with ⟨rfl, h⟩ | ⟨rfl, h⟩ | ⟨_, _, h⟩
  ·rw [h, show [38, 35, 57, 59] ++ attE v = 38 :: ([35, 57] ++ 59 :: attE v) from rfl, unL_sign _ _ 9 (by decide) (by decide +kernel), ih]; rfl
  ·rw [h, show [38, 35, 49, 48, 59] ++ attE v = 38 :: ([35, 49, 48] ++ 59 :: attE v) from rfl, unL_sign _ _ 10 (by decide) (by decide +kernel), ih]; rfl
  ·rw [h]
   unfold escE
   repeat' split
   ·rw [show [38, 97, 109, 112, 59] ++ attE v = 38 :: ([97, 109, 112] ++ 59 :: attE v) from rfl, unL_sign _ _ 38 (by decide) (by decide +kernel), ih]; rename_i h; rw [h]; rfl
   ·rw [show [38, 108, 116, 59] ++ attE v = 38 :: ([108, 116] ++ 59 :: attE v) from rfl, unL_sign _ _ 60 (by decide) (by decide +kernel), ih]; rename_i h; rw [h]; rfl
   ·rw [show [38, 103, 116, 59] ++ attE v = 38 :: ([103, 116] ++ 59 :: attE v) from rfl, unL_sign _ _ 62 (by decide) (by decide +kernel), ih]; rename_i h; rw [h]; rfl
   ·rw [show [38, 113, 117, 111, 116, 59] ++ attE v = 38 :: ([113, 117, 111, 116] ++ 59 :: attE v) from rfl, unL_sign _ _ 34 (by decide) (by decide +kernel), ih]; rename_i h; rw [h]; rfl
   ·rw [show [38, 97, 112, 111, 115, 59] ++ attE v = 38 :: ([97, 112, 111, 115] ++ 59 :: attE v) from rfl, unL_sign _ _ 39 (by decide) (by decide +kernel), ih]; rename_i h; rw [h]; rfl
   ·rw [show [38, 35, 49, 51, 59] ++ attE v = 38 :: ([35, 49, 51] ++ 59 :: attE v) from rfl, unL_sign _ _ 13 (by decide) (by decide +kernel), ih]; rename_i h; rw [h]; rfl
   ·rw [show [c] ++ attE v = c :: attE v from rfl, unL_cons c _ (by assumption), ih]; rfl
theorem attB_ascii : ∀ n : Fin 128, xmlN n.val = true → ∀ d ∈ attB (UInt8.ofNat n.val), d.toNat < 128 ∧ xmlN d.toNat = true := by decide +kernel
theorem attE_app (a b : List UInt8) : attE (a ++ b) = attE a ++ attE b := by
 unfold attE
 rw [escL_app, List.flatMap_append]
theorem attE_high : ∀ l : List UInt8, (∀ c ∈ l, 128 ≤ c.toNat) → attE l = l
 | [], _ => rfl
 | c :: l, h => by
  have hc := h c (by simp)
  rw [attE_cons, attE_high l (fun d hd => h d (by simp [hd]))]
  rcases attB_cases c with ⟨rfl, _⟩ | ⟨rfl, _⟩ | ⟨_, _, e⟩
  ·exact absurd hc (by decide)
  ·exact absurd hc (by decide)
  ·rw [e, escE_high c hc]; rfl
theorem X_att (l : List UInt8) (h : X l = true) : X (attE l) = true := by
 refine X_ind (P := fun l => X (attE l) = true) (by decide +kernel) ?_ l.length l (Nat.le_refl _) h
 intro v t hv hx ht ih
 rw [attE_app]
 by_cases h1 : v < 128
 ·have e1 : attE (encL v) = attB (bt v) := by rw [enc1 h1, attE_cons, attE_nil, List.append_nil]
  have := attB_ascii ⟨v, h1⟩ hx
  rw [e1, X_ascii _ _ (by simpa [bt] using this)]; exact ih
 ·rw [attE_high _ (encL_high v hv (by omega)), X_enc v hv, hx, ih]; rfl
theorem blank_plain : ∀ l : List UInt8, (∀ c ∈ l, c ≠ 9 ∧ c ≠ 10) → blankE l = l
 | [], _ => rfl
 | c :: l, h => by
  have hc := h c (by simp)
  have ih := blank_plain l (fun d hd => h d (by simp [hd]))
  unfold blankE at ih ⊢
  rw [List.map_cons, ih, if_neg (fun e => e.elim hc.1 hc.2)]
theorem val_att (v : List UInt8) (h : X v = true) : valX (attE v) = some v := by
 unfold valX
 rw [linE_plain _ (fun c hc => (attE_no v c hc).2.2.2.2), blank_plain _ (fun c hc => ⟨(attE_no v c hc).2.2.1, (attE_no v c hc).2.2.2.1⟩)]
 unfold unA
 rw [X_V (X_att v h), if_pos rfl, un_att]
theorem att_back (as : List HdV) (a : HdV) (rest : List UInt8) (m : Nat) (hn : nameX a.name = true) (hv : X a.value = true) (hd : (as.map (·.name)).contains a.name = false) (hm : m + 1 ≤ 4096) :
  attX as (a.name ++ 61 :: 34 :: (attE a.value ++ 34 :: rest)) m = .ok (a, rest, m + 1) := by
 obtain ⟨h1, h2⟩ := tw_app a.name 61 (34 :: (attE a.value ++ 34 :: rest)) (name_all hn) (by decide)
 unfold attX
 rw [h1, h2, hn]
 simp only [Bool.not_true, Bool.false_eq_true, if_false]
 rw [dw_no 61 _ (by decide)]
 simp only
 rw [dw_no 34 _ (by decide)]
 simp only [true_or, if_true]
 rw [unt_one 34 _ _ (fun c hc => (attE_no _ c hc).1)]
 simp only
 rw [show (attE a.value).contains 60 = false from by
  rw [List.contains_eq_mem, decide_eq_false_iff_not]
  exact fun h => (attE_no _ 60 h).2.1 rfl]
 simp only [Bool.false_eq_true, if_false]
 rw [val_att _ hv]
 simp only
 rw [hd, if_pos hm]
 simp only [Bool.false_eq_true, if_false]
theorem dist_mid : ∀ (l : List (List UInt8)) (a : List UInt8) (r : List (List UInt8)), distN (l ++ a :: r) = true → l.contains a = false
 | [], a, r, _ => rfl
 | x :: l, a, r, h => by
  rw [List.cons_append] at h
  simp only [distN, Bool.and_eq_true, Bool.not_eq_true'] at h
  have ih := dist_mid l a r h.2
  have hx : x ≠ a := fun e => by
   have h1 := h.1
   rw [List.contains_eq_mem, decide_eq_false_iff_not] at h1
   exact h1 (by rw [e]; simp)
  rw [List.contains_cons, ih, Bool.or_false, beq_eq_false_iff_ne]
  exact fun e => hx e.symm
def endP (b : Bool) (r : List UInt8) : List UInt8 := if b then 47 :: 62 :: r else 62 :: r
theorem ats_back (b : Bool) (rest : List UInt8) : ∀ (ts as : List HdV) (f m : Nat), ts.length + 1 ≤ f → ts.all (fun a => nameX a.name && X a.value) = true → distN ((as ++ ts).map (·.name)) = true → m + ts.length ≤ 4096 →
  atsX f as (ts.flatMap attP ++ endP b rest) m = .ok (as ++ ts, b, rest, m + ts.length)
 | [], as, f, m, hf, _, _, _ => by
  obtain ⟨f, rfl⟩ : ∃ f', f = f' + 1 := ⟨f - 1, by simp at hf; omega⟩
  cases b with
  | true =>
   simp only [endP, if_true, List.flatMap_nil, List.nil_append, atsX]
   rw [dw_no 47 _ (by decide), if_pos (by simp [preX, List.isPrefixOf])]
   simp
  | false =>
   simp only [endP, Bool.false_eq_true, if_false, List.flatMap_nil, List.nil_append, atsX]
   rw [dw_no 62 _ (by decide), if_neg (by simp [preX, List.isPrefixOf]), if_pos (by simp [preX, List.isPrefixOf])]
   simp
 | a :: ts, as, f, m, hf, ha, hd, hm => by
  obtain ⟨f, rfl⟩ : ∃ f', f = f' + 1 := ⟨f - 1, by simp at hf; omega⟩
  rw [List.all_cons, Bool.and_eq_true, Bool.and_eq_true] at ha
  obtain ⟨⟨hn, hv⟩, hr⟩ := ha
  simp only [List.length_cons] at hf hm
  obtain ⟨c, nr, hnm, hc⟩ := name_head hn
  have hcl : latX c = true := by
   have := let_fin ⟨c.toNat, c.toNat_lt⟩
   simp only [UInt8.ofNat_toNat] at this
   exact this hc
  have hlo := lat_of hcl
  have e0 : (a :: ts).flatMap attP ++ endP b rest = 32 :: (a.name ++ 61 :: 34 :: (attE a.value ++ 34 :: (ts.flatMap attP ++ endP b rest))) := by
   rw [List.flatMap_cons]
   simp [attP]
  have e1 : (32 :: (a.name ++ 61 :: 34 :: (attE a.value ++ 34 :: (ts.flatMap attP ++ endP b rest)))).dropWhile whX = a.name ++ 61 :: 34 :: (attE a.value ++ 34 :: (ts.flatMap attP ++ endP b rest)) := by
   rw [List.dropWhile_cons_of_pos (by decide), hnm, List.cons_append, dw_no c _ hlo.2.2.1]
  have hp : ∀ d r, d.toNat ≠ c.toNat → preX (d :: r) (a.name ++ 61 :: 34 :: (attE a.value ++ 34 :: (ts.flatMap attP ++ endP b rest))) = false := fun d r h => by
   rw [hnm, List.cons_append]
   simp only [preX, List.isPrefixOf, Bool.and_eq_false_iff, beq_eq_false_iff_ne]
   exact .inl (fun e => h (by rw [e]))
  have hdist : ((as.map (·.name)).contains a.name) = false := by
   rw [List.map_append, List.map_cons] at hd
   exact dist_mid _ _ _ hd
  rw [e0]
  simp only [atsX]
  rw [e1, hp 47 _ (by show 47 ≠ c.toNat; omega), hp 62 _ (by show 62 ≠ c.toNat; omega)]
  simp only [Bool.false_eq_true, if_false]
  rw [if_neg (by simp), att_back as a _ m hn hv hdist (by omega)]
  simp only
  rw [ats_back b rest ts (as ++ [a]) f (m + 1) (by omega) hr (by rw [List.append_assoc]; exact hd) (by omega)]
  simp only [List.append_assoc, List.cons_append, List.nil_append, List.length_cons]
  rw [show m + 1 + ts.length = m + (ts.length + 1) from by omega]
def lastB (d : Nat) (ks : List (Tr d)) : Bool := match ks.getLast? with
 | some k => (nmT d k).isEmpty
 | none => false
theorem say_push (d : Nat) (ks : List (Tr d)) (s : List UInt8) (m : Nat) (hs : s ≠ []) (hl : lastB d ks = false) (hm : m + 1 ≤ 4096) : sayX d ks s m = .ok (ks ++ [leaf d ([], [], s)], m + 1) := by
 unfold sayX
 rw [show s.isEmpty = false from by cases s <;> simp at hs ⊢]
 simp only [Bool.false_eq_true, if_false]
 unfold lastB at hl
 cases hk : ks.getLast? with
 | none =>
  simp only
  rw [if_pos hm, List.getLast?_eq_none_iff.1 hk]; rfl
 | some k =>
  rw [hk] at hl
  simp only at hl ⊢
  rw [hl]
  simp only [Bool.false_eq_true, if_false]
  rw [if_pos hm]
theorem last_snoc (d : Nat) (ks : List (Tr d)) (k : Tr d) : lastB d (ks ++ [k]) = (nmT d k).isEmpty := by
 unfold lastB
 rw [List.getLast?_concat]
theorem pre_not {p : List UInt8} {c : UInt8} {r : List UInt8} (hp : ∃ q, p = 60 :: q) (hc : c ≠ 60) : preX p (c :: r) = false := by
 obtain ⟨q, rfl⟩ := hp
 simp only [preX, List.isPrefixOf, Bool.and_eq_false_iff, beq_eq_false_iff_ne]
 exact .inl (fun e => hc e.symm)
theorem sum_mem {α : Type} (f : α → Nat) {l : List α} {x : α} (h : x ∈ l) : f x ≤ (l.map f).sum := by
 induction l with
 | nil => simp at h
 | cons a l ih =>
  rw [List.map_cons, List.sum_cons]
  rcases List.mem_cons.1 h with rfl | h
  ·omega
  ·have := ih h; omega
end Go.Proofs.YtgoiafndapemjaaGreatDoor
namespace Go.Proofs.YtgoiafndapemjaaGreatDoor
end Go.Proofs.YtgoiafndapemjaaGreatDoor
namespace Go.Proofs.YtgoiafndapemjaaGreatDoor
theorem unt_some (p : List UInt8) (hp : p ≠ []) : ∀ (l a b : List UInt8), untX p l = some (a, b) → l = a ++ (p ++ b)
 | [], a, b, h => by simp [untX] at h
 | c :: r, a, b, h => by
  simp only [untX] at h
  split at h
  ·rename_i hq
   have h2 := Option.some.inj h
   have ha : a = [] := (congrArg Prod.fst h2).symm
   have hb : b = (c :: r).drop p.length := (congrArg Prod.snd h2).symm
   subst ha
   rw [hb, List.nil_append]
   unfold preX at hq
   obtain ⟨z, hz⟩ := List.isPrefixOf_iff_prefix.1 hq
   rw [← hz]
   simp
  ·cases hu : untX p r with
   | none => rw [hu] at h; cases h
   | some q =>
    rw [hu] at h
    have h2 := Option.some.inj h
    have ha : a = c :: q.1 := (congrArg Prod.fst h2).symm
    have hb : b = q.2 := (congrArg Prod.snd h2).symm
    have ih := unt_some p hp r q.1 q.2 (by rw [hu])
    rw [ha, hb, List.cons_append, ← ih]
end Go.Proofs.YtgoiafndapemjaaGreatDoor
namespace Go.Proofs.YtgoiafndapemjaaGreatDoor
theorem el_err {d lev : Nat} {l : List UInt8} {m e : Nat} (h : opX lev l m = .error e) : elX d lev l m = .error e := by
 cases d with
 | zero => simp only [elX]; rw [h]
 | succ d => simp only [elX]; rw [h]
end Go.Proofs.YtgoiafndapemjaaGreatDoor
namespace Go.Proofs.YtgoiafndapemjaaGreatDoor
def Sh (a l : List UInt8) : Prop := a <:+ l ∧ a.length < l.length
theorem Sh.le {a l : List UInt8} (h : Sh a l) {b : List UInt8} (k : l <:+ b) : Sh a b := ⟨h.1.trans k, Nat.lt_of_lt_of_le h.2 k.length_le⟩
theorem Sh.of {a l b : List UInt8} (h : a <:+ l) (k : Sh l b) : Sh a b := ⟨h.trans k.1, Nat.lt_of_le_of_lt h.length_le k.2⟩
theorem sh_cons (c : UInt8) (r : List UInt8) : Sh r (c :: r) := ⟨List.suffix_cons c r, by simp⟩
theorem unt_sh {p l a b : List UInt8} (hp : p ≠ []) (h : untX p l = some (a, b)) : Sh b l := by
 have e := unt_some p hp l a b h
 have : 0 < p.length := List.length_pos_iff.2 hp
 exact ⟨⟨a ++ p, by rw [e, List.append_assoc]⟩, by rw [e]; simp; omega⟩
theorem dw_suf (p : UInt8 → Bool) (l : List UInt8) : l.dropWhile p <:+ l := List.dropWhile_suffix p
theorem pre_cons {a : UInt8} {p l : List UInt8} (h : preX (a :: p) l = true) : ∃ r, l = a :: r ∧ preX p r = true := by
 cases l with
 | nil => simp [preX] at h
 | cons c r =>
  unfold preX at h ⊢
  rw [List.isPrefixOf, Bool.and_eq_true, beq_iff_eq] at h
  exact ⟨r, by rw [h.1], h.2⟩
theorem pre_drop {p l : List UInt8} (h : preX p l = true) (hp : p ≠ []) : Sh (l.drop p.length) l := by
 have h1 : p <+: l := List.isPrefixOf_iff_prefix.1 h
 have h2 := h1.length_le
 have : 0 < p.length := List.length_pos_iff.2 hp
 exact ⟨List.drop_suffix _ _, by rw [List.length_drop]; omega⟩
theorem as_sh (all : Bool) : ∀ (f : Nat) (l l2 : List UInt8), asX all f l = .ok l2 → l2 <:+ l
 | 0, l, l2, h => by
  unfold asX at h
  injection h with h
  rw [h]; exact List.suffix_refl _
 | f + 1, l, l2, h => by
  rw [asX] at h
  split at h
  ·split at h
   ·cases h
   ·rename_i q hq
    exact (as_sh all f q.2 l2 h).trans ((unt_sh (by simp) hq).1.trans (List.drop_suffix _ _))
  ·split at h
   ·split at h
    ·cases h
    ·rename_i q hq
     exact (as_sh all f q.2 l2 h).trans ((unt_sh (by simp) hq).1.trans (List.drop_suffix _ _))
   ·split at h
    ·exact (as_sh all f _ l2 h).trans (dw_suf _ _)
    ·injection h with h
     rw [h]; exact List.suffix_refl _
theorem hd_dw {l : List UInt8} (h : hdW l = true) : Sh (l.dropWhile whX) l := by
 cases l with
 | nil => simp [hdW] at h
 | cons c r =>
  have hc : whX c = true := h
  rw [List.dropWhile_cons, hc]
  exact Sh.of (dw_suf _ _) (sh_cons c r)
theorem as_fuel (all : Bool) : ∀ (n f g : Nat) (l : List UInt8), l.length ≤ n → l.length ≤ f → l.length ≤ g → asX all f l = asX all g l := by
 intro n
 induction n with
 | zero =>
  intro f g l h0 _ _
  have : l = [] := List.length_eq_zero_iff.1 (by omega)
  subst this
  have : ∀ k, asX all k [] = .ok [] := fun k => by cases k <;> simp [asX, preX, hdW]
  rw [this, this]
 | succ n ih =>
  intro f g l h0 hf hg
  by_cases hn : l.length = 0
  ·have : l = [] := List.length_eq_zero_iff.1 hn
   subst this
   have : ∀ k, asX all k [] = .ok [] := fun k => by cases k <;> simp [asX, preX, hdW]
   rw [this, this]
  obtain ⟨f, rfl⟩ : ∃ f', f = f' + 1 := ⟨f - 1, by omega⟩
  obtain ⟨g, rfl⟩ : ∃ g', g = g' + 1 := ⟨g - 1, by omega⟩
  rw [asX, asX]
  have key : ∀ b, Sh b l → asX all f b = asX all g b := fun b hb => ih f g b (by have := hb.2; omega) (by have := hb.2; omega) (by have := hb.2; omega)
  split
  ·rename_i h1
   split
   ·rfl
   ·rename_i q hq
    exact key _ ((unt_sh (by simp) hq).le (List.drop_suffix _ _))
  ·split
   ·split
    ·rfl
    ·rename_i q hq
     exact key _ ((unt_sh (by simp) hq).le (List.drop_suffix _ _))
   ·split
    ·rename_i h3
     rw [Bool.and_eq_true] at h3
     exact key _ (hd_dw h3.2)
    ·rfl
def asW (all : Bool) (l : List UInt8) : Except Nat (List UInt8) := asX all l.length l
theorem asW_of (all : Bool) (f : Nat) (l : List UInt8) (h : l.length ≤ f) : asX all f l = asW all l := as_fuel all l.length f l.length l (Nat.le_refl _) h (Nat.le_refl _)
theorem asW_c (all : Bool) {l : List UInt8} (h : preX [60, 33, 45, 45] l = true) : asW all l = (match untX [45, 45, 62] (l.drop 4) with
  | none => .error 5
  | some q => asW all q.2) := by
 have hs := pre_drop h (by simp)
 rw [← asW_of all (l.length + 1) l (by omega), asX, if_pos h]
 cases hu : untX [45, 45, 62] (l.drop 4) with
 | none => rfl
 | some q => exact asW_of all _ _ (by have := ((unt_sh (by simp) hu).le (List.drop_suffix 4 l)).2; omega)
theorem asW_n (all : Bool) {l : List UInt8} (h0 : preX [60, 33, 45, 45] l = false) (h : preX [60, 63] l = true) : asW all l = (match untX [63, 62] (l.drop 2) with
  | none => .error 5
  | some q => asW all q.2) := by
 rw [← asW_of all (l.length + 1) l (by omega), asX, if_neg (by rw [h0]; simp), if_pos h]
 cases hu : untX [63, 62] (l.drop 2) with
 | none => rfl
 | some q => exact asW_of all _ _ (by have := ((unt_sh (by simp) hu).le (List.drop_suffix 2 l)).2; omega)
theorem asW_w {l : List UInt8} (h0 : preX [60, 33, 45, 45] l = false) (h1 : preX [60, 63] l = false) (h : hdW l = true) : asW true l = asW true (l.dropWhile whX) := by
 have hs := hd_dw h
 rw [← asW_of true (l.length + 1) l (by omega), asX, if_neg (by rw [h0]; simp), if_neg (by rw [h1]; simp), if_pos (by rw [h]; rfl)]
 exact asW_of true _ _ (by have := hs.2; omega)
theorem asW_ok (all : Bool) {l : List UInt8} (h0 : preX [60, 33, 45, 45] l = false) (h1 : preX [60, 63] l = false) (h : (all && hdW l) = false) : asW all l = .ok l := by
 rw [← asW_of all (l.length + 1) l (by omega), asX, if_neg (by rw [h0]; simp), if_neg (by rw [h1]; simp), if_neg (by rw [h]; simp)]
theorem att_sh {as : List HdV} {l : List UInt8} {m : Nat} {a : HdV} {l2 : List UInt8} {m2 : Nat} (h : attX as l m = .ok (a, l2, m2)) : Sh l2 l ∧ m2 = m + 1 ∧ m + 1 ≤ 4096 := by
 unfold attX at h
 split at h
 ·cases h
 ·split at h
  ·rename_i r hr
   split at h
   ·rename_i q r2 hr2
    split at h
    ·split at h
     ·cases h
     ·rename_i p hp
      split at h
      ·cases h
      ·split at h
       ·cases h
       ·split at h
        ·cases h
        ·split at h
         ·rename_i hm
          injection h with h
          injection h with h1 h2
          injection h2 with h2 h3
          refine ⟨?_, h3.symm, hm⟩
          rw [← h2]
          have s1 := unt_sh (by simp) hp
          have s2 : r2 <:+ r := (List.suffix_cons q r2).trans (by rw [← hr2]; exact dw_suf _ _)
          have s3 : r <:+ l := (List.suffix_cons 61 r).trans (by rw [← hr]; exact (dw_suf _ _).trans (dw_suf _ _))
          exact s1.le (s2.trans s3)
         ·cases h
    ·cases h
   ·cases h
  ·cases h
theorem ats_sh : ∀ (f : Nat) (as : List HdV) (l : List UInt8) (m : Nat) (as2 : List HdV) (b : Bool) (l2 : List UInt8) (m2 : Nat), atsX f as l m = .ok (as2, b, l2, m2) → Sh l2 l ∧ m ≤ m2 ∧ (m ≤ 4096 → m2 ≤ 4096)
 | 0, as, l, m, as2, b, l2, m2, h => by simp [atsX] at h
 | f + 1, as, l, m, as2, b, l2, m2, h => by
  rw [atsX] at h
  split at h
  ·rename_i hp
   injection h with h
   injection h with h1 h2
   injection h2 with h2 h3
   injection h3 with h3 h4
   subst h3 h4
   exact ⟨(pre_drop hp (by simp)).le (dw_suf _ _), Nat.le_refl _, id⟩
  ·split at h
   ·rename_i hp
    injection h with h
    injection h with h1 h2
    injection h2 with h2 h3
    injection h3 with h3 h4
    subst h3 h4
    exact ⟨(pre_drop hp (by simp)).le (dw_suf _ _), Nat.le_refl _, id⟩
   ·split at h
    ·cases h
    ·split at h
     ·cases h
     ·rename_i a la ma ha
      obtain ⟨h1, rfl, h3⟩ := att_sh ha
      obtain ⟨k1, k2, k3⟩ := ats_sh f _ _ _ _ _ _ _ h
      exact ⟨k1.le (h1.1.trans (dw_suf _ _)), by omega, fun _ => k3 h3⟩
theorem op_sh {lev : Nat} {l : List UInt8} {m : Nat} {n : List UInt8} {as : List HdV} {b : Bool} {l2 : List UInt8} {m2 : Nat} (h : opX lev l m = .ok (n, as, b, l2, m2)) : Sh l2 l ∧ m < m2 ∧ m2 ≤ 4096 ∧ nameX n = true ∧ lev ≠ 0 := by
 unfold opX at h
 split at h
 ·rename_i r
  split at h
  ·cases h
  ·rename_i hn
   split at h
   ·cases h
   ·rename_i hlev
    split at h
    ·cases h
    ·rename_i hm
     split at h
     ·cases h
     ·rename_i as' b' l' m' ha
      injection h with h
      injection h with h1 h2
      injection h2 with h2 h3
      injection h3 with h3 h4
      injection h4 with h4 h5
      subst h1 h2 h3 h4 h5
      obtain ⟨k1, k2, k3⟩ := ats_sh _ _ _ _ _ _ _ _ ha
      exact ⟨k1.le ((dw_suf _ _).trans (List.suffix_cons 60 r)), by omega, k3 (by omega), by simpa using hn, hlev⟩
 ·cases h
def Shrinks {α : Type} (el : List UInt8 → Nat → Except Nat (α × List UInt8 × Nat)) : Prop := ∀ l m t l2 m2, m ≤ 4096 → el l m = .ok (t, l2, m2) → Sh l2 l ∧ m2 ≤ 4096
theorem say_le {d : Nat} {ks : List (Tr d)} {s : List UInt8} {m : Nat} {ks2 : List (Tr d)} {m2 : Nat} (h : sayX d ks s m = .ok (ks2, m2)) (hm : m ≤ 4096) : m2 ≤ 4096 := by
 unfold sayX at h
 split at h
 ·injection h with h; injection h with h1 h2; omega
 ·split at h
  ·split at h
   ·injection h with h; injection h with h1 h2; omega
   ·split at h
    ·injection h with h; injection h with h1 h2; omega
    ·cases h
  ·split at h
   ·injection h with h; injection h with h1 h2; omega
   ·cases h
theorem kid_sh {d : Nat} {el : List UInt8 → Nat → Except Nat (Tr d × List UInt8 × Nat)} (hel : Shrinks el) : ∀ (f : Nat) (ks : List (Tr d)) (l : List UInt8) (m : Nat) (ks2 : List (Tr d)) (l2 : List UInt8) (m2 : Nat), m ≤ 4096 → kidX d el f ks l m = .ok (ks2, l2, m2) → l2 <:+ l ∧ m2 ≤ 4096 ∧ preX [60, 47] l2 = true
 | 0, ks, l, m, ks2, l2, m2, _, h => by simp [kidX] at h
 | f + 1, ks, l, m, ks2, l2, m2, hm, h => by
  rw [kidX] at h
  split at h
  ·rename_i hp
   injection h with h
   injection h with h1 h2
   injection h2 with h2 h3
   subst h2 h3
   exact ⟨List.suffix_refl _, hm, hp⟩
  ·split at h
   ·split at h
    ·cases h
    ·rename_i l3 ha
     obtain ⟨k1, k2, k3⟩ := kid_sh hel f _ _ _ _ _ _ hm h
     exact ⟨k1.trans (as_sh _ _ _ _ ha), k2, k3⟩
   ·split at h
    ·split at h
     ·cases h
     ·rename_i q hq
      split at h
      ·cases h
      ·rename_i ks3 m3 hs
       obtain ⟨k1, k2, k3⟩ := kid_sh hel f _ _ _ _ _ _ (say_le hs hm) h
       exact ⟨k1.trans ((unt_sh (by simp) hq).1.trans (List.drop_suffix _ _)), k2, k3⟩
    ·split at h
     ·split at h
      ·cases h
      ·rename_i t l3 m3 he
       obtain ⟨e1, e2⟩ := hel _ _ _ _ _ hm he
       obtain ⟨k1, k2, k3⟩ := kid_sh hel f _ _ _ _ _ _ e2 h
       exact ⟨k1.trans e1.1, k2, k3⟩
     ·split at h
      ·cases h
      ·split at h
       ·cases h
       ·split at h
        ·cases h
        ·rename_i ks3 m3 hs
         obtain ⟨k1, k2, k3⟩ := kid_sh hel f _ _ _ _ _ _ (say_le hs hm) h
         exact ⟨k1.trans (dw_suf _ _), k2, k3⟩
theorem cl_sh {n l r : List UInt8} (h : clX n l = some r) : r <:+ l := by
 unfold clX at h
 split at h
 ·split at h
  ·rename_i r' hr
   injection h with h
   subst h
   exact (List.suffix_cons 62 r').trans (by rw [← hr]; exact (dw_suf _ _).trans ((dw_suf _ _).trans (List.drop_suffix _ _)))
  ·cases h
 ·cases h
theorem el_sh : ∀ (d lev : Nat), Shrinks (elX d lev)
 | 0, lev, l, m, t, l2, m2, hm, h => by
  unfold elX at h
  split at h
  ·cases h
  ·rename_i ho
   injection h with h
   injection h with h1 h2
   injection h2 with h2 h3
   subst h2 h3
   have := op_sh ho
   exact ⟨this.1, this.2.2.1⟩
  ·cases h
 | d + 1, lev, l, m, t, l2, m2, hm, h => by
  unfold elX at h
  split at h
  ·cases h
  ·rename_i ho
   injection h with h
   injection h with h1 h2
   injection h2 with h2 h3
   subst h2 h3
   have := op_sh ho
   exact ⟨this.1, this.2.2.1⟩
  ·rename_i ho
   split at h
   ·cases h
   ·rename_i ks l3 m3 hk
    split at h
    ·cases h
    ·rename_i r hc
     injection h with h
     injection h with h1 h2
     injection h2 with h2 h3
     subst h2 h3
     obtain ⟨o1, o2, o3, _⟩ := op_sh ho
     obtain ⟨k1, k2, _⟩ := kid_sh (el_sh d (lev - 1)) _ _ _ _ _ _ _ o3 hk
     exact ⟨Sh.of ((cl_sh hc).trans k1) o1, k2⟩
theorem kid_fuel {d : Nat} {el : List UInt8 → Nat → Except Nat (Tr d × List UInt8 × Nat)} (hel : Shrinks el) : ∀ (n f g : Nat) (ks : List (Tr d)) (l : List UInt8) (m : Nat), m ≤ 4096 → l.length ≤ n → l.length + 1 ≤ f → l.length + 1 ≤ g → kidX d el f ks l m = kidX d el g ks l m := by
 intro n
 induction n with
 | zero =>
  intro f g ks l m hm h0 hf hg
  have : l = [] := List.length_eq_zero_iff.1 (by omega)
  subst this
  obtain ⟨f, rfl⟩ : ∃ f', f = f' + 1 := ⟨f - 1, by omega⟩
  obtain ⟨g, rfl⟩ : ∃ g', g = g' + 1 := ⟨g - 1, by omega⟩
  simp [kidX, preX]
 | succ n ih =>
  intro f g ks l m hm h0 hf hg
  obtain ⟨f, rfl⟩ : ∃ f', f = f' + 1 := ⟨f - 1, by omega⟩
  obtain ⟨g, rfl⟩ : ∃ g', g = g' + 1 := ⟨g - 1, by omega⟩
  have key : ∀ ks b m, m ≤ 4096 → Sh b l → kidX d el f ks b m = kidX d el g ks b m := fun ks b m hm hb => ih f g ks b m hm (by have := hb.2; omega) (by have := hb.2; omega) (by have := hb.2; omega)
  rw [kidX, kidX]
  split
  ·rfl
  ·split
   ·rename_i hp
    split
    ·rfl
    ·rename_i l2 ha
     refine key _ _ _ hm ?_
     have ha' : asW false l = .ok l2 := ha
     cases hc : preX [60, 33, 45, 45] l with
     | true =>
      rw [asW_c false hc] at ha'
      split at ha'
      ·cases ha'
      ·rename_i q hq
       exact Sh.of (as_sh _ _ _ _ ha') ((unt_sh (by simp) hq).le (List.drop_suffix _ _))
     | false =>
      rw [hc, Bool.false_or] at hp
      rw [asW_n false hc hp] at ha'
      split at ha'
      ·cases ha'
      ·rename_i q hq
       exact Sh.of (as_sh _ _ _ _ ha') ((unt_sh (by simp) hq).le (List.drop_suffix _ _))
   ·split
    ·split
     ·rfl
     ·rename_i q hq
      split
      ·rfl
      ·rename_i ks3 m3 hs
       exact key _ _ _ (say_le hs hm) ((unt_sh (by simp) hq).le (List.drop_suffix _ _))
    ·split
     ·split
      ·rfl
      ·rename_i t l3 m3 he
       obtain ⟨e1, e2⟩ := hel _ _ _ _ _ hm he
       exact key _ _ _ e2 e1
     ·rename_i h60
      split
      ·rfl
      ·rename_i hne
       split
       ·rfl
       ·split
        ·rfl
        ·rename_i ks3 m3 hs
         refine key _ _ _ (say_le hs hm) ⟨dw_suf _ _, ?_⟩
         cases l with
         | nil => simp at hne
         | cons c r =>
          have hc : (c != 60) = true := by
           rw [bne_iff_ne]
           intro e
           subst e
           exact h60 (by simp [preX])
          rw [List.dropWhile_cons, hc]
          exact (Sh.of (dw_suf _ _) (sh_cons c r)).2
def kidW (d : Nat) (el : List UInt8 → Nat → Except Nat (Tr d × List UInt8 × Nat)) (ks : List (Tr d)) (l : List UInt8) (m : Nat) := kidX d el (l.length + 1) ks l m
end Go.Proofs.YtgoiafndapemjaaGreatDoor
namespace Go.Proofs.YtgoiafndapemjaaGreatDoor
def passX (p l : List UInt8) : List UInt8 := if preX p l then l.drop p.length else l
theorem pass_yes {p l : List UInt8} (h : preX p l = true) : passX p l = l.drop p.length := if_pos h
theorem pass_no {p l : List UInt8} (h : preX p l = false) : passX p l = l := if_neg (by rw [h]; simp)
theorem pass_suf (p l : List UInt8) : passX p l <:+ l := by
 unfold passX
 split
 ·exact List.drop_suffix _ _
 ·exact List.suffix_refl _
def atAs (l : List UInt8) : Bool := preX [60, 33, 45, 45] l || preX [60, 63] l
def asideX (l : List UInt8) : Option (List UInt8) :=
 if preX [60, 33, 45, 45] l then (untX [45, 45, 62] (l.drop 4)).map (·.2) else (untX [63, 62] (passX [60, 63] l)).map (·.2)
theorem aside_sh {l b : List UInt8} (ha : asideX l = some b) : Sh b l := by
 unfold asideX at ha
 split at ha
 ·obtain ⟨q, hq, rfl⟩ := Option.map_eq_some_iff.1 ha
  exact (unt_sh (by simp) hq).le (List.drop_suffix _ _)
 ·obtain ⟨q, hq, rfl⟩ := Option.map_eq_some_iff.1 ha
  exact (unt_sh (by simp) hq).le (pass_suf _ _)
theorem asW_at (all : Bool) {l : List UInt8} (h : atAs l = true) : asW all l = (match asideX l with
  | none => .error 5
  | some b => asW all b) := by
 unfold asideX
 cases hc : preX [60, 33, 45, 45] l with
 | true =>
  rw [asW_c all hc, if_pos rfl]
  cases untX [45, 45, 62] (l.drop 4) <;> rfl
 | false =>
  have hn : preX [60, 63] l = true := by unfold atAs at h; rw [hc, Bool.false_or] at h; exact h
  have e2 : passX [60, 63] l = l.drop 2 := pass_yes hn
  rw [asW_n all hc hn, if_neg (by simp), e2]
  cases untX [63, 62] (l.drop 2) <;> rfl
theorem as_pre {l : List UInt8} (h : atAs l = false) : preX [60, 33, 45, 45] l = false ∧ preX [60, 63] l = false := by
 unfold atAs at h
 rw [Bool.or_eq_false_iff] at h
 exact h
theorem asW_white (l : List UInt8) : asW true (l.dropWhile whX) = asW true l := by
 cases h : hdW l with
 | true =>
  cases l with
  | nil => rfl
  | cons c r =>
   have hc : whX c = true := h
   have hn : c ≠ 60 := fun e => by subst e; simp [whX] at hc
   have h0 : preX [60, 33, 45, 45] (c :: r) = false := pre_not ⟨_, rfl⟩ hn
   have h1 : preX [60, 63] (c :: r) = false := pre_not ⟨_, rfl⟩ hn
   exact (asW_w h0 h1 h).symm
 | false =>
  cases l with
  | nil => rfl
  | cons c r =>
   have hc : whX c = false := h
   rw [List.dropWhile_cons, hc]
   rfl
theorem dw_hd (l : List UInt8) : hdW (l.dropWhile whX) = false := by
 induction l with
 | nil => rfl
 | cons c r ih =>
  rw [List.dropWhile_cons]
  cases hc : whX c with
  | true => exact ih
  | false => exact hc
theorem end_no {l : List UInt8} (h : atAs l = true) : preX [60, 47] l = false := by
 cases he : preX [60, 47] l with
 | false => rfl
 | true =>
  obtain ⟨r, rfl, h2⟩ := pre_cons he
  obtain ⟨r, rfl, _⟩ := pre_cons h2
  simp [atAs, preX, List.isPrefixOf] at h
section
variable {d : Nat} {el : List UInt8 → Nat → Except Nat (Tr d × List UInt8 × Nat)}
theorem kidW_of (hel : Shrinks el) (f : Nat) (ks : List (Tr d)) (l : List UInt8) (m : Nat) (hm : m ≤ 4096) (hf : l.length + 1 ≤ f) : kidX d el f ks l m = kidW d el ks l m := kid_fuel hel l.length f (l.length + 1) ks l m hm (Nat.le_refl _) hf (Nat.le_refl _)
theorem kidW_end (ks : List (Tr d)) (l : List UInt8) (m : Nat) (h : preX [60, 47] l = true) : kidW d el ks l m = .ok (ks, l, m) := by
 unfold kidW
 rw [kidX, if_pos h]
theorem kid_skip (hel : Shrinks el) (ks : List (Tr d)) (f : Nat) (b : List UInt8) (m : Nat) (hm : m ≤ 4096) (hf : b.length + 1 ≤ f) : (match asW false b with
  | .error e => .error e
  | .ok l2 => kidX d el f ks l2 m) = kidW d el ks b m := by
 cases h : atAs b with
 | false =>
  obtain ⟨h0, h1⟩ := as_pre h
  rw [asW_ok false h0 h1 rfl]
  exact kidW_of hel f ks b m hm hf
 | true =>
  have he := end_no h
  unfold kidW
  rw [kidX, if_neg (by rw [he]; simp), if_pos (by unfold atAs at h; exact h)]
  show _ = match asW false b with | .error e => _ | .ok l2 => _
  cases ha : asW false b with
  | error e => rfl
  | ok l2 =>
   have hs : Sh l2 b := by
    rw [asW_at false h] at ha
    split at ha
    ·cases ha
    ·rename_i c hc
     exact Sh.of (as_sh _ _ _ _ ha) (aside_sh hc)
   have := hs.2
   exact (kidW_of hel f ks l2 m hm (by omega)).trans (kidW_of hel b.length ks l2 m hm (by omega)).symm
theorem kidW_as (hel : Shrinks el) (ks : List (Tr d)) (l : List UInt8) (m : Nat) (hm : m ≤ 4096) (h : atAs l = true) : kidW d el ks l m = (match asideX l with
  | none => .error 5
  | some b => kidW d el ks b m) := by
 have he := end_no h
 rw [← kid_skip hel ks (l.length + 1) l m hm (Nat.le_refl _), asW_at false h]
 cases ha : asideX l with
 | none => rfl
 | some b => exact kid_skip hel ks (l.length + 1) b m hm (by have := (aside_sh ha).2; omega)
theorem kidW_el (hel : Shrinks el) (ks : List (Tr d)) (l : List UInt8) (m : Nat) (hm : m ≤ 4096) (h0 : preX [60, 47] l = false) (h1 : atAs l = false) (h2 : preX [60, 33, 91, 67, 68, 65, 84, 65, 91] l = false) (h3 : preX [60] l = true) : kidW d el ks l m = (match el l m with
  | .error e => .error e
  | .ok (t, l2, m2) => kidW d el (ks ++ [t]) l2 m2) := by
 unfold atAs at h1
 conv => lhs; unfold kidW
 rw [kidX, if_neg (by rw [h0]; simp), if_neg (by rw [h1]; simp), if_neg (by rw [h2]; simp), if_pos h3]
 cases he : el l m with
 | error e => rfl
 | ok q =>
  obtain ⟨t, l2, m2⟩ := q
  obtain ⟨e1, e2⟩ := hel _ _ _ _ _ hm he
  exact kidW_of hel _ _ _ _ e2 (by have := e1.2; omega)
def pieceX (l : List UInt8) : Except Nat (List UInt8 × List UInt8) :=
 if preX [60, 33, 91, 67, 68, 65, 84, 65, 91] l then (match untX [93, 93, 62] (l.drop 9) with
  | none => .error 5
  | some q => .ok q)
 else if (untX [93, 93, 62] (l.takeWhile (· != 60))).isSome || (l.dropWhile (· != 60)).isEmpty then .error 5
 else (match unA (l.takeWhile (· != 60)) with
  | none => .error 5
  | some s => .ok (s, l.dropWhile (· != 60)))
theorem kidW_piece (hel : Shrinks el) (ks : List (Tr d)) (l : List UInt8) (m : Nat) (hm : m ≤ 4096) (h0 : preX [60, 47] l = false) (h1 : atAs l = false) (h2 : preX [60, 33, 91, 67, 68, 65, 84, 65, 91] l = true ∨ preX [60] l = false) : kidW d el ks l m = (match pieceX l with
  | .error e => .error e
  | .ok (s, l2) => (match sayX d ks s m with
   | .error e => .error e
   | .ok (ks2, m2) => kidW d el ks2 l2 m2)) := by
 unfold atAs at h1
 conv => lhs; unfold kidW
 rw [kidX, if_neg (by rw [h0]; simp), if_neg (by rw [h1]; simp)]
 unfold pieceX
 cases hr : preX [60, 33, 91, 67, 68, 65, 84, 65, 91] l with
 | true =>
  rw [if_pos rfl, if_pos rfl]
  cases hu : untX [93, 93, 62] (l.drop 9) with
  | none => rfl
  | some q =>
   obtain ⟨a, b⟩ := q
   simp only
   cases hs : sayX d ks a m with
   | error e => rfl
   | ok q2 =>
    obtain ⟨ks2, m2⟩ := q2
    exact kidW_of hel _ _ _ _ (say_le hs hm) (by have := ((unt_sh (by simp) hu).le (List.drop_suffix 9 l)).2; omega)
 | false =>
  have h3 := h2.resolve_left (by rw [hr]; simp)
  simp only [Bool.false_eq_true, if_false, h3]
  by_cases hne : ((untX [93, 93, 62] (l.takeWhile (· != 60))).isSome || (l.dropWhile (· != 60)).isEmpty) = true
  ·rw [if_pos hne, if_pos hne]
  ·rw [if_neg hne, if_neg hne]
   cases hu : unA (l.takeWhile (· != 60)) with
   | none => rfl
   | some s =>
    simp only
    cases hs : sayX d ks s m with
    | error e => rfl
    | ok q2 =>
     obtain ⟨ks2, m2⟩ := q2
     refine kidW_of hel _ _ _ _ (say_le hs hm) ?_
     cases l with
     | nil => simp at hne
     | cons c r =>
      have hc : (c != 60) = true := by
       rw [bne_iff_ne]
       intro e
       subst e
       simp [preX] at h3
      rw [List.dropWhile_cons, hc]
      have := (Sh.of (dw_suf (· != 60) r) (sh_cons c r)).2
      exact this
end
theorem piece_sh {l s l2 : List UInt8} (h : pieceX l = .ok (s, l2)) : l2 <:+ l := by
 unfold pieceX at h
 split at h
 ·split at h
  ·cases h
  ·rename_i q hq
   injection h with h
   subst h
   exact (unt_sh (by simp) hq).1.trans (List.drop_suffix _ _)
 ·split at h
  ·cases h
  ·split at h
   ·cases h
   ·injection h with h
    injection h with h1 h2
    rw [← h2]
    exact dw_suf _ _
def pend (d : Nat) (ws : List UInt8) : List (Tr d) := if ws.isEmpty then [] else [leaf d ([], [], ws)]
theorem say_pend (d : Nat) (kd : List (Tr d)) (ws s : List UInt8) (m : Nat) (hk : lastB d kd = false) : sayX d (kd ++ pend d ws) s m =
  if s.isEmpty then .ok (kd ++ pend d ws, m) else if !ws.isEmpty then .ok (kd ++ pend d (ws ++ s), m) else if m + 1 ≤ 4096 then .ok (kd ++ pend d s, m + 1) else .error 3 := by
 cases hs : s.isEmpty with
 | true => unfold sayX; rw [hs]; rfl
 | false =>
  have hs' : s ≠ [] := by intro e; subst e; simp at hs
  cases hw : ws.isEmpty with
  | true =>
   have e : pend d ws = [] := by unfold pend; rw [hw]; rfl
   rw [e, List.append_nil]
   have e2 : pend d s = [leaf d ([], [], s)] := by unfold pend; rw [hs]; rfl
   rw [e2]
   simp only [Bool.not_true, if_false, Bool.false_eq_true]
   by_cases hm : m + 1 ≤ 4096
   ·rw [if_pos hm, say_push d kd s m hs' hk hm]
   ·rw [if_neg hm]
    unfold sayX
    rw [hs]
    simp only [Bool.false_eq_true, if_false]
    cases hl : kd.getLast? with
    | none => simp [hm]
    | some k =>
     have : (nmT d k).isEmpty = false := by unfold lastB at hk; rw [hl] at hk; exact hk
     simp [this, hm]
  | false =>
   have e : pend d ws = [leaf d ([], [], ws)] := by unfold pend; rw [hw]; rfl
   have e2 : pend d (ws ++ s) = [leaf d ([], [], ws ++ s)] := by
    unfold pend
    have : (ws ++ s).isEmpty = false := by cases ws <;> simp_all
    rw [this]; rfl
   rw [e, e2]
   unfold sayX
   rw [hs]
   have hn : nmT d (leaf d ([], [], ws)) = [] := by unfold nmT; rw [lab_leaf]
   have ht : txT d (leaf d ([], [], ws)) = ws := by unfold txT; rw [lab_leaf]
   simp [hn, ht]
theorem rune_two {b : List UInt8} {n : Nat} (h : runeR b = some n) : 2 ≤ b.length := by
 unfold runeR at h
 split at h
 ·simp only [List.length_cons]; omega
 ·rename_i d _
  unfold numR at h
  split at h
  ·rename_i hd
   have := List.length_pos_iff.2 hd.1
   simp only [List.length_cons]; omega
  ·cases h
 ·unfold nameR at h
  split at h
  ·rename_i e; rw [e]; decide
  ·split at h
   ·rename_i e; rw [e]; decide
   ·split at h
    ·rename_i e; rw [e]; decide
    ·split at h
     ·rename_i e; rw [e]; decide
     ·split at h
      ·rename_i e; rw [e]; decide
      ·cases h
theorem unF_len : ∀ (f : Nat) (l s : List UInt8), unF f l = some s → s.length ≤ l.length
 | 0, l, s, h => by simp only [unF] at h; injection h with h; subst h; simp
 | f + 1, [], s, h => by simp only [unF] at h; injection h with h; subst h; simp
 | f + 1, c :: r, s, h => by
  simp only [unF] at h
  split at h
  ·cases hc : cutE r with
   | none => rw [hc] at h; cases h
   | some p =>
    obtain ⟨b, t⟩ := p
    rw [hc] at h
    simp only at h
    have hl := congrArg List.length (cutE_some r b t hc).1
    simp only [List.length_append, List.length_cons] at hl
    cases hn : runeR b with
    | none => rw [hn] at h; cases h
    | some n =>
     rw [hn] at h
     simp only at h
     obtain ⟨u, hu, rfl⟩ := Option.map_eq_some_iff.1 h
     have h1 := unF_len f t u hu
     have h2 := rune_two hn
     have h3 := (encL_len n).2
     simp only [List.length_append, List.length_cons]
     omega
  ·obtain ⟨u, hu, rfl⟩ := Option.map_eq_some_iff.1 h
   have h1 := unF_len f r u hu
   simp only [List.length_cons]
   omega
theorem unA_len {l s : List UInt8} (h : unA l = some s) : s.length ≤ l.length := by
 unfold unA at h
 split at h
 ·exact unF_len _ _ _ h
 ·cases h
theorem piece_len {l s l2 : List UInt8} (h : pieceX l = .ok (s, l2)) : s.length + l2.length ≤ l.length ∧ (s ≠ [] → l2.length < l.length) := by
 have key : s.length + l2.length ≤ l.length := by
  unfold pieceX at h
  split at h
  ·split at h
   ·cases h
   ·rename_i q hq
    injection h with h
    subst h
    have e := congrArg List.length (unt_some _ (by simp) _ _ _ hq)
    simp at e
    omega
  ·split at h
   ·cases h
   ·split at h
    ·cases h
    ·rename_i u hu
     injection h with h
     injection h with h1 h2
     subst h1 h2
     have h3 := unA_len hu
     have e := congrArg List.length (List.takeWhile_append_dropWhile (p := (· != 60)) (l := l))
     rw [List.length_append] at e
     omega
 refine ⟨key, fun hs => ?_⟩
 have := List.length_pos_iff.2 hs
 omega
theorem piece_sh2 {l s l2 : List UInt8} (h : pieceX l = .ok (s, l2)) (h0 : preX [60, 33, 91, 67, 68, 65, 84, 65, 91] l = true ∨ preX [60] l = false) : Sh l2 l := by
 refine ⟨piece_sh h, ?_⟩
 unfold pieceX at h
 split at h
 ·split at h
  ·cases h
  ·rename_i q hq
   injection h with h
   subst h
   exact ((unt_sh (by simp) hq).le (List.drop_suffix 9 l)).2
 ·rename_i hr
  have h3 := h0.resolve_left hr
  split at h
  ·cases h
  ·rename_i hne
   split at h
   ·cases h
   ·injection h with h
    injection h with h1 h2
    subst h2
    cases l with
    | nil => simp at hne
    | cons c r =>
     have hc : (c != 60) = true := by
      rw [bne_iff_ne]
      intro e
      subst e
      simp [preX] at h3
     rw [List.dropWhile_cons, hc]
     exact (Sh.of (dw_suf (· != 60) r) (sh_cons c r)).2
end Go.Proofs.YtgoiafndapemjaaGreatDoor
