
/- The bits of addresses, from the front: plain mathematics for layer 6. -/
import Derived.Below
namespace Go.Proofs.Ytocdjgehjiolhaa
set_option linter.unusedVariables false

/-- The bit i of bytes, from the front. -/
def bitB (B : List UInt8) (i : Nat) : Nat := (B.getD (i / 8) 0).toNat / 2 ^ (7 - i % 8) % 2
/-- Are the first k bits alike? -/
def sameTo (B C : List UInt8) (k : Nat) : Prop := ∀ i, i < k → bitB B i = bitB C i
/-- Is every bit from k on, up to the n bytes' end, nought? -/
def zeroFrom (B : List UInt8) (k n : Nat) : Prop := ∀ i, k ≤ i → i < 8 * n → bitB B i = 0
theorem bit_test (x k : Nat) : x / 2 ^ k % 2 = if x.testBit k then 1 else 0 := by
  rw [Nat.testBit_eq_decide_div_mod_eq]
  have : x / 2 ^ k % 2 < 2 := Nat.mod_lt _ (by omega)
  by_cases h : x / 2 ^ k % 2 = 1
  · simp [h]
  · have h0 : x / 2 ^ k % 2 = 0 := by omega
    simp [h0]
/-- The first r bits of two bytes are alike, if what is left of the others is. -/
theorem byte_same (x y r : Nat) (hx : x < 256) (hy : y < 256) (hr : r ≤ 8) : (∀ j, j < r → x / 2 ^ (7 - j) % 2 = y / 2 ^ (7 - j) % 2) ↔ x / 2 ^ (8 - r) = y / 2 ^ (8 - r) := by
  constructor
  · intro h
    apply Nat.eq_of_testBit_eq
    intro i
    rw [Nat.testBit_div_two_pow, Nat.testBit_div_two_pow]
    rcases Nat.lt_or_ge (i + (8 - r)) 8 with h1 | h1
    · have := h (7 - (i + (8 - r))) (by omega)
      rw [bit_test, bit_test, show 7 - (7 - (i + (8 - r))) = i + (8 - r) from by omega] at this
      cases h2 : x.testBit (i + (8 - r)) <;> cases h3 : y.testBit (i + (8 - r)) <;> simp [h2, h3] at this ⊢
    · have e : 2 ^ 8 ≤ 2 ^ (i + (8 - r)) := Nat.pow_le_pow_right (by omega) h1
      rw [Nat.testBit_lt_two_pow (by omega), Nat.testBit_lt_two_pow (by omega)]
  · intro h j hj
    have e : ∀ z : Nat, z / 2 ^ (7 - j) = z / 2 ^ (8 - r) / 2 ^ (r - 1 - j) := fun z => by
      rw [Nat.div_div_eq_div_mul, ← Nat.pow_add, show 8 - r + (r - 1 - j) = 7 - j from by omega]
    rw [e x, e y, h]
/-- The last bits of a byte, from r on, are nought if it is a multiple. -/
theorem byte_zero (x r : Nat) (hx : x < 256) (hr : r ≤ 8) : (∀ j, r ≤ j → j < 8 → x / 2 ^ (7 - j) % 2 = 0) ↔ x % 2 ^ (8 - r) = 0 := by
  constructor
  · intro h
    apply Nat.eq_of_testBit_eq
    intro i
    rw [Nat.testBit_mod_two_pow, Nat.zero_testBit]
    by_cases hi : i < 8 - r
    · have := h (7 - i) (by omega) (by omega)
      rw [bit_test, show 7 - (7 - i) = i from by omega] at this
      cases h2 : x.testBit i <;> simp [h2] at this ⊢
    · simp [hi]
  · intro h j h1 h2
    have ht : (x % 2 ^ (8 - r)).testBit (7 - j) = false := by rw [h]; exact Nat.zero_testBit _
    rw [Nat.testBit_mod_two_pow, decide_eq_true (by omega : 7 - j < 8 - r), Bool.true_and] at ht
    rw [bit_test, ht]
    rfl
theorem bit_at (B : List UInt8) (q j : Nat) (h : j < 8) : bitB B (8 * q + j) = (B.getD q 0).toNat / 2 ^ (7 - j) % 2 := by
  unfold bitB
  rw [show (8 * q + j) / 8 = q from by omega, show (8 * q + j) % 8 = j from by omega]
/-- Alike in whole bytes. -/
theorem same_bytes (B C : List UInt8) (q : Nat) : sameTo B C (8 * q) ↔ ∀ m, m < q → B.getD m 0 = C.getD m 0 := by
  constructor
  · intro h m hm
    have := (byte_same (B.getD m 0).toNat (C.getD m 0).toNat 8 (UInt8.toNat_lt _) (UInt8.toNat_lt _) (by omega)).1 (fun j hj => by
      rw [← bit_at B m j hj, ← bit_at C m j hj]; exact h _ (by omega))
    apply UInt8.toNat_inj.1
    simpa using this
  · intro h i hi
    unfold bitB
    rw [h (i / 8) (by omega)]
/-- Alike in k bits: whole bytes, and what is left of the next. -/
theorem same_iff (B C : List UInt8) (k : Nat) : sameTo B C k ↔ (∀ m, m < k / 8 → B.getD m 0 = C.getD m 0) ∧ (B.getD (k / 8) 0).toNat / 2 ^ (8 - k % 8) = (C.getD (k / 8) 0).toNat / 2 ^ (8 - k % 8) := by
  rw [← same_bytes, ← byte_same _ _ (k % 8) (UInt8.toNat_lt _) (UInt8.toNat_lt _) (by omega)]
  constructor
  · intro h
    exact ⟨fun i hi => h i (by omega), fun j hj => by rw [← bit_at B _ j (by omega), ← bit_at C _ j (by omega)]; exact h _ (by omega)⟩
  · rintro ⟨h1, h2⟩ i hi
    rcases Nat.lt_or_ge i (8 * (k / 8)) with h | h
    · exact h1 i h
    · have := h2 (i - 8 * (k / 8)) (by omega)
      rw [← bit_at B _ _ (by omega), ← bit_at C _ _ (by omega), show 8 * (k / 8) + (i - 8 * (k / 8)) = i from by omega] at this
      exact this
/-- Nought from k on: what is left of the byte, and every byte behind it. -/
theorem zero_iff (B : List UInt8) (k n : Nat) (hk : k < 8 * n) : zeroFrom B k n ↔ (B.getD (k / 8) 0).toNat % 2 ^ (8 - k % 8) = 0 ∧ ∀ m, k / 8 < m → m < n → B.getD m 0 = 0 := by
  rw [← byte_zero _ (k % 8) (UInt8.toNat_lt _) (by omega)]
  constructor
  · intro h
    refine ⟨fun j h1 h2 => by rw [← bit_at B _ j h2]; exact h _ (by omega) (by omega), fun m h1 h2 => ?_⟩
    have := (byte_zero (B.getD m 0).toNat 0 (UInt8.toNat_lt _) (by omega)).1 (fun j _ hj => by rw [← bit_at B m j hj]; exact h _ (by omega) (by omega))
    apply UInt8.toNat_inj.1
    have h3 : (B.getD m 0).toNat < 256 := UInt8.toNat_lt _
    simp only [Nat.sub_zero] at this
    have h4 : (B.getD m 0).toNat = 0 := by omega
    rw [h4]; rfl
  · rintro ⟨h1, h2⟩ i hi hn
    rcases Nat.lt_or_ge (k / 8) (i / 8) with h | h
    · unfold bitB
      rw [h2 (i / 8) h (by omega)]
      simp
    · have e : i / 8 = k / 8 := by omega
      have := h1 (i % 8) (by omega) (by omega)
      unfold bitB
      rw [e]
      exact this
end Go.Proofs.Ytocdjgehjiolhaa
