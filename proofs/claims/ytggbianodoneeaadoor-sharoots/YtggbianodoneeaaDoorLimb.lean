
/- Numbers in limbs of 16 bits: plain mathematics. -/
import Derived.Test.YtggbianodoneeaaDoorParts
namespace Go.Proofs.YtggbianodoneeaaDoor
set_option linter.unusedSimpArgs false
set_option linter.unusedVariables false

def val : List Nat → Nat
  | [] => 0
  | x :: r => x + 65536 * val r
def small (L : List Nat) : Prop := ∀ j, j < L.length → L.getD j 0 < 65536
theorem mul_pow (y j : Nat) : y * 65536 ^ (j + 1) = 65536 * (y * 65536 ^ j) := by
  rw [Nat.pow_succ, Nat.mul_comm (65536 ^ j) 65536, Nat.mul_left_comm]
theorem val_set : ∀ (L : List Nat) (j v : Nat), j < L.length → val (L.set j v) + L.getD j 0 * 65536 ^ j = val L + v * 65536 ^ j
  | [], j, v, h => absurd h (by simp)
  | x :: r, 0, v, _ => by simp [val]; omega
  | x :: r, j + 1, v, h => by
    have ih := val_set r j v (by simpa using h)
    simp only [List.set_cons_succ, val, List.getD_cons_succ]
    rw [mul_pow, mul_pow]
    omega
theorem limb_le (L : List Nat) (j : Nat) (h : j < L.length) : L.getD j 0 * 65536 ^ j ≤ val L := by
  have := val_set L j 0 h
  omega
theorem val_add (L : List Nat) (j y : Nat) (h : j < L.length) : val (L.set j (L.getD j 0 + y)) = val L + y * 65536 ^ j := by
  have := val_set L j (L.getD j 0 + y) h
  rw [Nat.add_mul] at this
  omega
theorem getD_set (L : List Nat) (j k v : Nat) (h : j < L.length) : (L.set j v).getD k 0 = if j = k then v else L.getD k 0 := by
  rw [List.getD_eq_getElem?_getD, List.getElem?_set]
  by_cases hjk : j = k
  · subst hjk; simp [h]
  · simp [hjk, List.getD_eq_getElem?_getD]
/-- A carry keeps the value. -/
theorem val_carry (L : List Nat) (n : Nat) (h : n + 1 < L.length) : val ((L.set (n + 1) (L.getD (n + 1) 0 + L.getD n 0 / 65536)).set n (L.getD n 0 % 65536)) = val L := by
  have h1 := val_add L (n + 1) (L.getD n 0 / 65536) h
  have h2 := val_set (L.set (n + 1) (L.getD (n + 1) 0 + L.getD n 0 / 65536)) n (L.getD n 0 % 65536) (by simp; omega)
  rw [getD_set L (n + 1) n _ h, if_neg (by omega)] at h2
  rw [mul_pow] at h1
  have h3 : L.getD n 0 * 65536 ^ n = 65536 * (L.getD n 0 / 65536 * 65536 ^ n) + L.getD n 0 % 65536 * 65536 ^ n := by
    have : L.getD n 0 = 65536 * (L.getD n 0 / 65536) + L.getD n 0 % 65536 := (Nat.div_add_mod _ _).symm
    rw [← Nat.mul_assoc, ← Nat.add_mul, ← this]
  omega
theorem val_take (A : List Nat) : ∀ k, k < A.length → val (A.take (k + 1)) = val (A.take k) + A.getD k 0 * 65536 ^ k := by
  induction A with
  | nil => intro k h; simp at h
  | cons x r ih =>
    intro k h
    cases k with
    | zero => simp [val]
    | succ k =>
      have := ih k (by simpa using h)
      simp only [List.take_succ_cons, val, List.getD_cons_succ]
      rw [this, mul_pow]
      omega
theorem val_lt : ∀ (L : List Nat), small L → val L < 65536 ^ L.length
  | [], _ => by simp [val]
  | x :: r, h => by
    have h0 : x < 65536 := h 0 (by simp)
    have ih := val_lt r (fun j hj => by have := h (j + 1) (by simpa using hj); simpa using this)
    simp only [val, List.length_cons]
    rw [Nat.pow_succ]
    omega
theorem val_take_le (A : List Nat) : ∀ k, val (A.take k) ≤ val A := by
  induction A with
  | nil => intro k; simp
  | cons x r ih =>
    intro k
    cases k with
    | zero => simp [val]
    | succ k => have := ih k; simp only [List.take_succ_cons, val]; omega
/-- What the product has behind the i-th row's first k steps. -/
def part2 (A B : List Nat) (i k : Nat) : Nat := val (A.take i) * val B + A.getD i 0 * 65536 ^ i * val (B.take k)
theorem part2_step (A B : List Nat) (i k : Nat) (hk : k < B.length) : part2 A B i (k + 1) = part2 A B i k + A.getD i 0 * B.getD k 0 * 65536 ^ (i + k) := by
  unfold part2
  rw [val_take B k hk, Nat.mul_add, Nat.pow_add, Nat.add_assoc]
  congr 2
  rw [Nat.mul_mul_mul_comm]
theorem part2_row (A B : List Nat) (i : Nat) (hi : i < A.length) : part2 A B i B.length = part2 A B (i + 1) 0 := by
  unfold part2
  rw [List.take_of_length_le (Nat.le_refl _), val_take A i hi, Nat.add_mul]
  simp [val]
theorem part2_le (A B : List Nat) (i k : Nat) (hi : i < A.length) : part2 A B i k ≤ val A * val B := by
  have h1 : part2 A B i k ≤ part2 A B i B.length := by
    unfold part2
    rw [List.take_of_length_le (Nat.le_refl B.length)]
    exact Nat.add_le_add_left (Nat.mul_le_mul_left _ (val_take_le B k)) _
  rw [part2_row A B i hi] at h1
  refine Nat.le_trans h1 ?_
  unfold part2
  simp [val]
  exact Nat.mul_le_mul_right _ (val_take_le A (i + 1))
theorem limbs_val (x : Nat) (h : x < 18446744073709551616) : val (limbs x) = x := by
  have e : limbs x = [x % 65536, x / 65536 % 65536, x / 4294967296 % 65536, x / 281474976710656 % 65536, 0, 0, 0, 0, 0, 0, 0, 0] := by
    simp [limbs, limbsTo, List.range, List.range.loop]
  rw [e]
  simp only [val]
  omega
theorem limbs_small (x : Nat) : small (limbs x) := fun j hj => by
  have hj' : j < 12 := by simpa [limbs, limbsTo] using hj
  simp only [limbs, limbsTo, List.getD_eq_getElem?_getD, List.getElem?_map, List.getElem?_range hj', Option.map_some, Option.getD_some]
  split
  · exact Nat.mod_lt _ (by decide)
  · decide

end Go.Proofs.YtggbianodoneeaaDoor
