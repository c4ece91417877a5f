
/- Nets as they are written and read: plain mathematics for layer 6. -/
import Derived.Test.YtocdjgehjiolhaaIpRound
import Derived.Test.YtocdjgehjiolhaaCiMath
namespace Go.Proofs.Ytocdjgehjiolhaa
set_option linter.unusedVariables false
set_option linter.unusedSimpArgs false

theorem dch_fin47 : ∀ d : Fin 16, dch d.val ≠ 47 := by decide
theorem digsF_47 (base : Nat) (hb2 : 2 ≤ base) (hb : base ≤ 16) : ∀ f n, (47 : UInt8) ∉ digsF base f n
  | 0, n => by simp [digsF]
  | f + 1, n => by
    unfold digsF
    split
    · rename_i hn
      have := dch_fin47 ⟨n, by omega⟩
      simp only [List.mem_cons, List.not_mem_nil, or_false]
      exact fun e => this e.symm
    · rename_i hn
      have hm : n % base < 16 := Nat.lt_of_lt_of_le (Nat.mod_lt _ (by omega)) hb
      have := dch_fin47 ⟨n % base, hm⟩
      rw [List.mem_append]
      rintro (h | h)
      · exact digsF_47 base hb2 hb f (n / base) h
      · simp only [List.mem_cons, List.not_mem_nil, or_false] at h
        exact this h.symm
theorem digs_47 (base n : Nat) (hb2 : 2 ≤ base) (hb : base ≤ 16) : (47 : UInt8) ∉ digs base n := digsF_47 base hb2 hb 20 n
theorem join_47 (b : UInt8) (hb : b ≠ 47) : ∀ L : List (List UInt8), (∀ x ∈ L, (47 : UInt8) ∉ x) → (47 : UInt8) ∉ joinL b L
  | [], _ => by simp [joinL]
  | [x], h => h x (by simp)
  | x :: y :: r, h => by
    have ih := join_47 b hb (y :: r) (fun z hz => h z (by simp only [List.mem_cons] at hz ⊢; exact Or.inr hz))
    rw [joinL, List.mem_append, List.mem_cons]
    rintro (h1 | h1 | h1)
    · exact h x (by simp) h1
    · exact hb h1.symm
    · exact ih h1
theorem J_47 (g : List Nat) : (47 : UInt8) ∉ J g := join_47 58 (by decide) _ (fun x hx => by
  obtain ⟨j, _, rfl⟩ := List.mem_map.1 hx
  exact digs_47 16 j (by omega) (by omega))
theorem last_47 (B : List UInt8) : (47 : UInt8) ∉ lastB B :=
  join_47 46 (by decide) [digs 10 (B.getD 12 0).toNat, digs 10 (B.getD 13 0).toNat, digs 10 (B.getD 14 0).toNat, digs 10 (B.getD 15 0).toNat] (fun x hx => by
    simp only [List.mem_cons, List.not_mem_nil, or_false] at hx
    rcases hx with rfl | rfl | rfl | rfl <;> exact digs_47 10 _ (by omega) (by omega))
/-- No slash in an address. -/
theorem print_47 (v : Bool) (B : List UInt8) : (47 : UInt8) ∉ printA v B := by
  unfold printA
  split
  · exact last_47 B
  · split
    · rw [List.mem_append]
      rintro (h | h)
      · revert h; decide
      · exact last_47 B h
    · unfold shortB
      split
      · rw [List.mem_append, List.mem_append]
        rintro ((h | h) | h)
        · exact J_47 _ h
        · revert h; decide
        · exact J_47 _ h
      · exact J_47 _
/-- How many bits an address has; where they begin. -/
def totB (v : Bool) : Nat := if v then 128 else 32
def offB (v : Bool) : Nat := if v then 0 else 96
/-- May a net be? -/
def mayN (v : Bool) (B : List UInt8) (k : Int) : Bool := mayB v B && decide (0 ≤ k) && decide (k ≤ totB v) && (List.range (totB v - k.toNat)).all fun m => decide (bitB B (offB v + k.toNat + m) = 0)
def printN (v : Bool) (B : List UInt8) (k : Nat) : List UInt8 := printA v B ++ 47 :: digs 10 k
/-- The number from 0 to 128 that is written so. -/
def bitsOf (x : List UInt8) : Option Nat := (List.range 129).find? fun k => decide (x = digs 10 k)
theorem digs_inj_fin : ∀ k : Fin 129, bitsOf (digs 10 k.val) = some k.val := by decide +kernel
theorem bits_of (k : Nat) (h : k ≤ 128) : bitsOf (digs 10 k) = some k := digs_inj_fin ⟨k, by omega⟩
theorem bits_none (x : List UInt8) (h : bitsOf x = none) (k : Nat) (hk : k ≤ 128) : x ≠ digs 10 k := fun e => by
  rw [e, bits_of k hk] at h; cases h
/-- One net, read. -/
def parseN (l : List UInt8) : Option (Bool × List UInt8 × Nat) := match cutL 47 l with
  | [a, b] => match parseA a, bitsOf b with
    | some (v, B), some k => if mayN v B k then some (v, B, k) else none
    | _, _ => none
  | _ => none
theorem cut_two (a b : List UInt8) (ha : (47 : UInt8) ∉ a) (hb : (47 : UInt8) ∉ b) : cutL 47 (a ++ 47 :: b) = [a, b] := by rw [cut_app 47 b a ha, cut_none 47 b hb]
/-- What is printed is read back. -/
theorem net_back (v : Bool) (B : List UInt8) (k : Nat) (hB : B.length = 16) (h : mayN v B k = true) : parseN (printN v B k) = some (v, B, k) := by
  have hm := h
  unfold mayN at h
  simp only [Bool.and_eq_true] at h
  have hk : k ≤ 128 := by
    have h1 := of_decide_eq_true h.1.2
    have h2 : totB v ≤ 128 := by cases v <;> decide
    omega
  unfold parseN printN
  rw [cut_two _ _ (print_47 v B) (digs_47 10 k (by omega) (by omega))]
  simp only [print_back v B hB h.1.1.1, bits_of k hk, hm, if_true]
end Go.Proofs.Ytocdjgehjiolhaa
