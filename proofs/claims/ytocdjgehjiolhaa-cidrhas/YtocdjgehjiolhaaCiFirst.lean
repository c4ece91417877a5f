
/- The first bits of an address, and which addresses a net has: plain mathematics for layer 6. -/
import Derived.Test.YtocdjgehjiolhaaCiRead
namespace Go.Proofs.Ytocdjgehjiolhaa
set_option linter.unusedVariables false
set_option linter.unusedSimpArgs false

/-- A byte's first m bits, the others nought. -/
def keepN (x m : Nat) : Nat := x / 2 ^ (8 - m) * 2 ^ (8 - m)
def keepB (b : UInt8) (m : Nat) : UInt8 := UInt8.ofNat (keepN b.toNat m)
theorem keepN_le (x m : Nat) : keepN x m ≤ x := Nat.div_mul_le_self x _
theorem keepB_toNat (b : UInt8) (m : Nat) : (keepB b m).toNat = keepN b.toNat m := by
  unfold keepB
  have := keepN_le b.toNat m
  have := b.toNat_lt
  rw [UInt8.toNat_ofNat']
  exact Nat.mod_eq_of_lt (by omega)
theorem keep_bit (x m j : Nat) (hm : m ≤ 8) (hj : j < 8) : keepN x m / 2 ^ (7 - j) % 2 = if j < m then x / 2 ^ (7 - j) % 2 else 0 := by
  unfold keepN
  rw [bit_test, bit_test, Nat.mul_comm, Nat.testBit_two_pow_mul]
  by_cases h : j < m
  · rw [if_pos h, decide_eq_true (by omega : 8 - m ≤ 7 - j), Bool.true_and, Nat.testBit_div_two_pow, show 7 - j - (8 - m) + (8 - m) = 7 - j from by omega]
  · rw [if_neg h, decide_eq_false (by omega : ¬ 8 - m ≤ 7 - j), Bool.false_and]; rfl
/-- All bits behind the first L nought. -/
def firstB (B : List UInt8) (L : Nat) : List UInt8 := (List.range 16).map fun i => keepB (B.getD i 0) (min (L - 8 * i) 8)
theorem firstB_len (B : List UInt8) (L : Nat) : (firstB B L).length = 16 := by simp [firstB]
theorem firstB_at (B : List UInt8) (L i : Nat) (h : i < 16) : (firstB B L).getD i 0 = keepB (B.getD i 0) (min (L - 8 * i) 8) := by
  unfold firstB
  rw [List.getD_eq_getElem?_getD, List.getElem?_map, List.getElem?_range h]
  rfl
theorem first_bit (B : List UInt8) (L i : Nat) (h : i < 128) : bitB (firstB B L) i = if i < L then bitB B i else 0 := by
  unfold bitB
  rw [firstB_at B L (i / 8) (by omega), keepB_toNat, keep_bit _ _ (i % 8) (by omega) (by omega)]
  by_cases hL : i < L
  · rw [if_pos hL, if_pos (by omega)]
  · rw [if_neg hL, if_neg (by omega)]
/-- Sixteen bytes are alike if their bits are. -/
theorem bits_ext (B C : List UInt8) (hB : B.length = 16) (hC : C.length = 16) : B = C ↔ ∀ i, i < 128 → bitB B i = bitB C i := by
  constructor
  · rintro rfl i _; rfl
  · intro h
    have := (same_bytes B C 16).1 (fun i hi => h i (by omega))
    apply List.ext_getElem (by omega)
    intro j h1 h2
    have := this j (by omega)
    rw [List.getD_eq_getElem?_getD, List.getD_eq_getElem?_getD, List.getElem?_eq_getElem h1, List.getElem?_eq_getElem h2] at this
    simpa using this
theorem first_self (B : List UInt8) (hB : B.length = 16) (L : Nat) : B = firstB B L ↔ ∀ i, L ≤ i → i < 128 → bitB B i = 0 := by
  rw [bits_ext B (firstB B L) hB (firstB_len B L)]
  constructor
  · intro h i h1 h2
    rw [h i h2, first_bit B L i h2, if_neg (by omega)]
  · intro h i hi
    rw [first_bit B L i hi]
    by_cases hL : i < L
    · rw [if_pos hL]
    · rw [if_neg hL]; exact h i (by omega) hi
theorem zero_bit (B : List UInt8) (h : B.take 12 = List.replicate 12 0) (i : Nat) (hi : i < 96) : bitB B i = 0 := by
  have : (B.take 12)[i / 8]? = some 0 := by rw [h, List.getElem?_replicate, if_pos (by omega)]
  rw [List.getElem?_take, if_pos (by omega)] at this
  unfold bitB
  rw [List.getD_eq_getElem?_getD, this]
  simp
theorem may_zero (B : List UInt8) (h : mayB false B = true) (i : Nat) (hi : i < 96) : bitB B i = 0 :=
  zero_bit B (by unfold mayB at h; simpa using h) i hi
/-- May a net be: by its first bits. -/
theorem mayN_first (v : Bool) (B : List UInt8) (hB : B.length = 16) (k : Int) : mayN v B k = (mayB v B && decide (0 ≤ k) && decide (k ≤ totB v) && decide (B = firstB B (offB v + k.toNat))) := by
  unfold mayN
  cases hm : mayB v B
  · rfl
  by_cases h0 : 0 ≤ k
  · by_cases h1 : k ≤ totB v
    · rw [decide_eq_true h0, decide_eq_true h1]
      simp only [Bool.true_and, Bool.and_true]
      rw [Bool.eq_iff_iff, List.all_eq_true, decide_eq_true_iff, first_self B hB]
      have hto : offB v + totB v = 128 := by cases v <;> rfl
      constructor
      · intro h i h2 h3
        have := of_decide_eq_true (h (i - (offB v + k.toNat)) (List.mem_range.2 (by omega)))
        rwa [show offB v + k.toNat + (i - (offB v + k.toNat)) = i from by omega] at this
      · intro h m hm
        rw [List.mem_range] at hm
        exact decide_eq_true (h _ (by omega) (by omega))
    · rw [decide_eq_false h1]; simp
  · rw [decide_eq_false h0]; simp
theorem tot_le (v : Bool) : totB v ≤ 128 := by cases v <;> decide
/-- Has a net an address? -/
def hasN (v : Bool) (B : List UInt8) (k : Nat) (u : Bool) (C : List UInt8) : Bool := decide (v = u) && (List.range k).all fun i => decide (bitB B (offB v + i) = bitB C (offB v + i))
theorem mayN_parts {v : Bool} {B : List UInt8} {k : Int} (h : mayN v B k = true) : mayB v B = true ∧ 0 ≤ k ∧ k ≤ totB v := by
  unfold mayN at h
  simp only [Bool.and_eq_true, decide_eq_true_eq] at h
  exact ⟨h.1.1.1, h.1.1.2, h.1.2⟩
theorem holds_has (v : Bool) (B : List UInt8) (hB : B.length = 16) (k : Nat) (u : Bool) (C : List UInt8) (hC : C.length = 16) (hN : mayN v B k = true) (hm : mayB u C = true) : decide (u = v ∧ firstB C (offB u + k) = B) = hasN v B k u C := by
  obtain ⟨hv, _, hk⟩ := mayN_parts hN
  rw [mayN_first v B hB] at hN
  simp only [Bool.and_eq_true, decide_eq_true_eq] at hN
  have hF := (first_self B hB _).1 hN.2
  unfold hasN
  have hto : offB v + totB v = 128 := by cases v <;> rfl
  rw [Bool.eq_iff_iff, decide_eq_true_iff, Bool.and_eq_true, decide_eq_true_iff, List.all_eq_true]
  rw [Int.toNat_natCast] at hF
  constructor
  · rintro ⟨rfl, h⟩
    refine ⟨rfl, fun i hi => ?_⟩
    rw [List.mem_range] at hi
    rw [← h]
    rw [first_bit C _ _ (by omega), if_pos (by omega)]
    exact decide_eq_true rfl
  · rintro ⟨rfl, h⟩
    refine ⟨rfl, ?_⟩
    rw [bits_ext _ _ (firstB_len _ _) hB]
    intro i hi
    rw [first_bit C _ i hi]
    by_cases hL : i < offB v + k
    · rw [if_pos hL]
      by_cases h96 : i < offB v
      · cases v
        · rw [may_zero C hm i (by exact h96), may_zero B hv i (by exact h96)]
        · exact absurd h96 (by show ¬ i < 0; omega)
      · have := of_decide_eq_true (h (i - offB v) (List.mem_range.2 (by omega)))
        rw [show offB v + (i - offB v) = i from by omega] at this
        exact this.symm
    · rw [if_neg hL]
      exact (hF i (by omega) hi).symm
end Go.Proofs.Ytocdjgehjiolhaa
