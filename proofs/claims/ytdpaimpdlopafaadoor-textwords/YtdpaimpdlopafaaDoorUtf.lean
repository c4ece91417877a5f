/- Plain facts about UTF-8: what the reference reads at a place is what decoding reads there, and it reads none just where decoding meets a fault. -/
import Derived.Test.YtdpaimpdlopafaaDoorMath
import Derived.Lib.DecodeNEq
namespace Go.Proofs.YtdpaimpdlopafaaDoor

theorem get_eq (s : ByteArray) (i : Nat) : s.get! i = s.data.toList.getD i 0 := by
  obtain ⟨⟨l⟩⟩ := s
  show (l.toArray)[i]! = _
  rw [List.getElem!_toArray, List.getD_eq_getElem?_getD, List.getElem!_eq_getElem?_getD]
  rfl
theorem get_at (s : ByteArray) (p : Nat) (h : p < s.size) : s.get! p = s[p] := by
  rw [get_eq, List.getD_eq_getElem?_getD, Lib.data_getElem? s p h]; rfl

theorem pre3 (l : List UInt8) (a b c : UInt8) : Lib.hasPrefix l [a, b, c] = (decide (3 ≤ l.length) && (l.getD 0 0 == a && (l.getD 1 0 == b && l.getD 2 0 == c))) := by
  unfold Lib.hasPrefix
  match l with
  | [] => simp [List.isPrefixOf]
  | [x] => simp [List.isPrefixOf]
  | [x, y] => simp [List.isPrefixOf]
  | x :: y :: z :: t =>
    rw [Bool.eq_iff_iff]
    simp only [List.isPrefixOf, List.length_cons, List.getD_cons_zero, List.getD_cons_succ, Bool.and_true, Bool.and_eq_true, beq_iff_eq, decide_eq_true_eq]
    constructor
    · rintro ⟨rfl, rfl, rfl⟩; exact ⟨by omega, rfl, rfl, rfl⟩
    · rintro ⟨_, rfl, rfl, rfl⟩; exact ⟨rfl, rfl, rfl⟩

theorem drop_getD (l : List UInt8) (p j : Nat) : (l.drop p).getD j 0 = l.getD (p + j) 0 := by
  rw [List.getD_eq_getElem?_getD, List.getD_eq_getElem?_getD, List.getElem?_drop]

theorem byte_lt (s : ByteArray) (i : Nat) : (s.get! i).toNat < 256 := (s.get! i).toNat_lt

/-- The rune of faults by its own bytes: three, and just these. -/
theorem own_bytes (s : ByteArray) (p : Nat) : Lib.hasPrefix (s.data.toList.drop p) [239, 191, 189] = true ↔ (3 ≤ s.size - p ∧ (s.get! p).toNat = 239 ∧ (s.get! (p + 1)).toNat = 191 ∧ (s.get! (p + 2)).toNat = 189) := by
  rw [pre3, drop_getD, drop_getD, drop_getD, ← get_eq, ← get_eq, ← get_eq, List.length_drop, ← Lib.size_eq]
  simp only [Bool.and_eq_true, beq_iff_eq, decide_eq_true_eq, Nat.add_zero]
  constructor
  · rintro ⟨h, h0, h1, h2⟩; rw [h0, h1, h2]; exact ⟨h, rfl, rfl, rfl⟩
  · rintro ⟨h, h0, h1, h2⟩
    exact ⟨h, UInt8.toNat_inj.1 (h0.trans rfl), UInt8.toNat_inj.1 (h1.trans rfl), UInt8.toNat_inj.1 (h2.trans rfl)⟩

theorem dN_err3 (n b0 b1 b2 b3 : Nat) (h0 : b0 < 256) (_h1 : b1 < 256) (_h2 : b2 < 256) (h : (Lib.decodeN n b0 b1 b2 b3).1 = 65533) :
    Lib.decodeN n b0 b1 b2 b3 = (65533, 1) ∨ (3 ≤ n ∧ b0 = 239 ∧ b1 = 191 ∧ b2 = 189) := by
  revert h
  unfold Lib.decodeN
  repeat' split
  all_goals intro h
  all_goals first | (left; rfl) | (exfalso; simp only at h; omega) | (right; simp only at h; omega)
theorem dN_own (n b3 : Nat) (h : 3 ≤ n) : Lib.decodeN n 239 191 189 b3 = (65533, 3) := by
  unfold Lib.decodeN
  repeat' split
  all_goals first | (exfalso; omega) | rfl

/-- A place is bad just where decoding reads a fault. -/
theorem bad_iff (s : ByteArray) (p : Nat) : badAt s p = true ↔ Utf8.decode s p = (65533, 1) := by
  unfold badAt
  rw [Bool.and_eq_true, beq_iff_eq, Bool.not_eq_true', Lib.decode_at]
  constructor
  · rintro ⟨h1, h2⟩
    rcases dN_err3 _ _ _ _ _ (byte_lt s p) (byte_lt s (p + 1)) (byte_lt s (p + 2)) h1 with h | ⟨ha, hb, hc, hd⟩
    · exact h
    · exfalso
      have := (own_bytes s p).2 ⟨ha, hb, hc, hd⟩
      rw [this] at h2; simp at h2
  · intro h
    refine ⟨by rw [h], ?_⟩
    cases hq : Lib.hasPrefix (s.data.toList.drop p) [239, 191, 189] with
    | false => rfl
    | true =>
      exfalso
      obtain ⟨ha, hb, hc, hd⟩ := (own_bytes s p).1 hq
      rw [hb, hc, hd, dN_own _ _ ha] at h
      simp at h

/-- What the reference's Rune answers: the rune and its bytes; 0 and 0 at a fault. -/
def refR (s : ByteArray) (p : Nat) : Nat × Nat := if badAt s p then (0, 0) else Utf8.decode s p
theorem refR_bad {s : ByteArray} {p : Nat} (h : Utf8.decode s p = (65533, 1)) : refR s p = (0, 0) := by
  have := (bad_iff s p).2 h
  simp [refR, this]
theorem refR_ok {s : ByteArray} {p v k : Nat} (h : Utf8.decode s p = (v, k)) (hk : v ≠ 65533 ∨ k ≠ 1) : refR s p = (v, k) := by
  have : badAt s p = false := by
    cases hb : badAt s p with
    | false => rfl
    | true => have := (bad_iff s p).1 hb; rw [h] at this; simp at this; omega
  simp [refR, this, h]

theorem dN_ascii (n b0 b1 b2 b3 : Nat) (h : b0 < 128) : Lib.decodeN n b0 b1 b2 b3 = (b0, 1) := by simp [Lib.decodeN, h]
theorem dN_lead (n b0 b1 b2 b3 : Nat) (h : b0 < 256) (h1 : ¬ b0 < 128) (h2 : b0 < 194 ∨ 245 ≤ b0) : Lib.decodeN n b0 b1 b2 b3 = (65533, 1) := by
  unfold Lib.decodeN
  repeat' split
  all_goals first | (exfalso; omega) | rfl
theorem dN_2no (n b0 b1 b2 b3 : Nat) (h : 194 ≤ b0) (h' : b0 < 224) (hb : n < 2 ∨ ¬ (128 ≤ b1 ∧ b1 < 192)) : Lib.decodeN n b0 b1 b2 b3 = (65533, 1) := by
  unfold Lib.decodeN
  repeat' split
  all_goals first | (exfalso; omega) | rfl
theorem dN_2ok (n b0 b1 b2 b3 : Nat) (h : 194 ≤ b0) (h' : b0 < 224) (hn : 2 ≤ n) (h1 : 128 ≤ b1 ∧ b1 < 192) : Lib.decodeN n b0 b1 b2 b3 = (b0 % 32 * 64 + b1 % 64, 2) := by
  unfold Lib.decodeN
  repeat' split
  all_goals first | (exfalso; omega) | rfl
theorem dN_3no (n b0 b1 b2 b3 : Nat) (h : 224 ≤ b0) (h' : b0 < 240) (hb : n < 3 ∨ ¬ (128 ≤ b1 ∧ b1 < 192) ∨ ¬ (128 ≤ b2 ∧ b2 < 192)) : Lib.decodeN n b0 b1 b2 b3 = (65533, 1) := by
  unfold Lib.decodeN
  repeat' split
  all_goals first | (exfalso; omega) | rfl
theorem dN_3bad (n b0 b1 b2 b3 : Nat) (h : 224 ≤ b0) (h' : b0 < 240) (hv : (b0 % 16 * 64 + b1 % 64) * 64 + b2 % 64 < 2048 ∨ (55296 ≤ (b0 % 16 * 64 + b1 % 64) * 64 + b2 % 64 ∧ (b0 % 16 * 64 + b1 % 64) * 64 + b2 % 64 < 57344)) : Lib.decodeN n b0 b1 b2 b3 = (65533, 1) := by
  unfold Lib.decodeN
  repeat' split
  all_goals first | (exfalso; omega) | rfl
theorem dN_3ok (n b0 b1 b2 b3 : Nat) (h : 224 ≤ b0) (h' : b0 < 240) (hn : 3 ≤ n) (h1 : 128 ≤ b1 ∧ b1 < 192) (h2 : 128 ≤ b2 ∧ b2 < 192)
    (hv : ¬ (b0 % 16 * 64 + b1 % 64) * 64 + b2 % 64 < 2048) (hw : ¬ (55296 ≤ (b0 % 16 * 64 + b1 % 64) * 64 + b2 % 64 ∧ (b0 % 16 * 64 + b1 % 64) * 64 + b2 % 64 < 57344)) : Lib.decodeN n b0 b1 b2 b3 = ((b0 % 16 * 64 + b1 % 64) * 64 + b2 % 64, 3) := by
  unfold Lib.decodeN
  repeat' split
  all_goals first | (exfalso; omega) | (apply Prod.ext <;> simp only <;> omega)
theorem dN_4no (n b0 b1 b2 b3 : Nat) (h : 240 ≤ b0) (h' : b0 < 245) (hb : n < 4 ∨ ¬ (128 ≤ b1 ∧ b1 < 192) ∨ ¬ (128 ≤ b2 ∧ b2 < 192) ∨ ¬ (128 ≤ b3 ∧ b3 < 192)) : Lib.decodeN n b0 b1 b2 b3 = (65533, 1) := by
  unfold Lib.decodeN
  repeat' split
  all_goals first | (exfalso; omega) | rfl
theorem dN_4bad (n b0 b1 b2 b3 : Nat) (h : 240 ≤ b0) (h' : b0 < 245) (hv : ((b0 % 8 * 64 + b1 % 64) * 64 + b2 % 64) * 64 + b3 % 64 < 65536 ∨ 1114111 < ((b0 % 8 * 64 + b1 % 64) * 64 + b2 % 64) * 64 + b3 % 64) : Lib.decodeN n b0 b1 b2 b3 = (65533, 1) := by
  unfold Lib.decodeN
  repeat' split
  all_goals first | (exfalso; omega) | rfl
theorem dN_4ok (n b0 b1 b2 b3 : Nat) (h : 240 ≤ b0) (h' : b0 < 245) (hn : 4 ≤ n) (h1 : 128 ≤ b1 ∧ b1 < 192) (h2 : 128 ≤ b2 ∧ b2 < 192) (h3 : 128 ≤ b3 ∧ b3 < 192)
    (hv : ¬ ((b0 % 8 * 64 + b1 % 64) * 64 + b2 % 64) * 64 + b3 % 64 < 65536) (hw : ¬ 1114111 < ((b0 % 8 * 64 + b1 % 64) * 64 + b2 % 64) * 64 + b3 % 64) : Lib.decodeN n b0 b1 b2 b3 = (((b0 % 8 * 64 + b1 % 64) * 64 + b2 % 64) * 64 + b3 % 64, 4) := by
  unfold Lib.decodeN
  repeat' split
  all_goals first | (exfalso; omega) | (apply Prod.ext <;> simp only <;> omega)

end Go.Proofs.YtdpaimpdlopafaaDoor
