
/- The forbidden nets, and what may be reached: plain mathematics for layer 6. -/
import Derived.Test.YtocdjgehjiolhaaCiFirst
namespace Go.Proofs.Ytocdjgehjiolhaa
set_option linter.unusedVariables false
set_option linter.unusedSimpArgs false

/-- A net: its kind, its bytes, its bits. -/
structure NetV where
  v : Bool
  B : List UInt8
  k : Int
  deriving DecidableEq, Inhabited
def f4 (a b c d : UInt8) (k : Int) : NetV := ⟨false, List.replicate 12 0 ++ [a, b, c, d], k⟩
def f6 (a b c d e f l : UInt8) (k : Int) : NetV := ⟨true, [a, b, c, d, e, f, 0, 0, 0, 0, 0, 0, 0, 0, 0, l], k⟩
def forbL : List NetV := [f4 0 0 0 0 8, f4 10 0 0 0 8, f4 100 64 0 0 10, f4 127 0 0 0 8, f4 169 254 0 0 16, f4 172 16 0 0 12, f4 192 0 0 0 24, f4 192 0 2 0 24, f4 192 88 99 0 24, f4 192 168 0 0 16, f4 198 18 0 0 15, f4 198 51 100 0 24, f4 203 0 113 0 24, f4 224 0 0 0 4, f4 240 0 0 0 4,
  f6 0 0 0 0 0 0 0 128, f6 0 0 0 0 0 0 1 128, f6 0 100 255 155 0 1 0 48, f6 1 0 0 0 0 0 0 64, f6 32 1 0 0 0 0 0 23, f6 32 1 13 184 0 0 0 32, f6 63 255 0 0 0 0 0 20, f6 95 0 0 0 0 0 0 16, f6 252 0 0 0 0 0 0 7, f6 254 128 0 0 0 0 0 10, f6 255 0 0 0 0 0 0 8]
def okN (n : NetV) : Prop := n.B.length = 16 ∧ -9223372036854775808 ≤ n.k ∧ n.k ≤ 9223372036854775807
theorem forb_ok : ∀ n ∈ forbL, n.B.length = 16 ∧ mayN n.v n.B n.k = true := by decide +kernel
def mayV (n : NetV) : Bool := mayN n.v n.B n.k
def hasV (n : NetV) (u : Bool) (C : List UInt8) : Bool := hasN n.v n.B n.k.toNat u C
/-- Is an address in one of some nets? -/
def inV (l : List NetV) (u : Bool) (C : List UInt8) : Bool := l.any fun n => hasV n u C
/-- What holds tells. -/
def holdV (n : NetV) (u : Bool) (C : List UInt8) : Bool := decide (u = n.v ∧ firstB C (offB u + n.k.toNat) = n.B)
theorem holdV_has (n : NetV) (hB : n.B.length = 16) (u : Bool) (C : List UInt8) (hC : C.length = 16) (hN : mayV n = true) (hm : mayB u C = true) : holdV n u C = hasV n u C := by
  unfold holdV hasV
  have h0 := (mayN_parts hN).2.1
  refine holds_has n.v n.B hB n.k.toNat u C hC ?_ hm
  rw [Int.toNat_of_nonneg h0]; exact hN
theorem any_congr {α : Type} (l : List α) (p q : α → Bool) (h : ∀ x ∈ l, p x = q x) : l.any p = l.any q := by
  induction l with
  | nil => rfl
  | cons x r ih => rw [List.any_cons, List.any_cons, h x (by simp), ih (fun y hy => h y (by simp [hy]))]
theorem among_in (l : List NetV) (hl : ∀ n ∈ l, n.B.length = 16 ∧ mayV n = true) (u : Bool) (C : List UInt8) (hC : C.length = 16) (hm : mayB u C = true) : (l.any fun n => holdV n u C) = inV l u C :=
  any_congr l _ _ fun n hn => holdV_has n (hl n hn).1 u C hC (hl n hn).2 hm
theorem all_may {l : List NetV} (h : (l.any fun n => !mayV n) = false) : ∀ n ∈ l, mayV n = true := fun n hn => by
  have := List.any_eq_false.1 h n hn
  simpa using this
/-- Two nets meet. -/
def meetV (a b : NetV) : Bool := mayV a && mayV b && ((decide (a.k ≤ b.k) && hasV a b.v b.B) || (decide (b.k ≤ a.k) && hasV b a.v a.B))
theorem hasN_sym (v : Bool) (B : List UInt8) (k : Nat) (u : Bool) (C : List UInt8) : hasN v B k u C = hasN u C k v B := by
  unfold hasN
  by_cases h : v = u
  · subst h
    rw [decide_eq_true rfl]
    refine congrArg (fun x => true && x) ?_
    rw [Bool.eq_iff_iff, List.all_eq_true, List.all_eq_true]
    exact ⟨fun g i hi => decide_eq_true (of_decide_eq_true (g i hi)).symm, fun g i hi => decide_eq_true (of_decide_eq_true (g i hi)).symm⟩
  · rw [decide_eq_false h, decide_eq_false (fun e => h e.symm)]; rfl
theorem meet_le (a b : NetV) (h : a.k ≤ b.k) : meetV a b = (mayV b && (mayV a && mayB b.v b.B && hasV a b.v b.B)) := by
  unfold meetV
  cases ha : mayV a <;> cases hb : mayV b <;> simp only [Bool.and_true, Bool.true_and, Bool.false_and, Bool.and_false]
  rw [decide_eq_true h, Bool.true_and, (mayN_parts hb).1, Bool.true_and]
  by_cases h2 : b.k ≤ a.k
  · have e : a.k = b.k := by omega
    rw [decide_eq_true h2, Bool.true_and]
    unfold hasV
    rw [e, hasN_sym b.v b.B, Bool.or_self]
  · rw [decide_eq_false h2, Bool.false_and, Bool.or_false]
theorem meet_sym (a b : NetV) : meetV a b = meetV b a := by
  unfold meetV
  rw [Bool.and_comm (mayV a), Bool.or_comm]
theorem has_meet_le (a b : NetV) (h : a.k ≤ b.k) (u : Bool) (C : List UInt8) (h1 : hasV a u C = true) (h2 : hasV b u C = true) : hasV a b.v b.B = true := by
  unfold hasV hasN at h1 h2 ⊢
  simp only [Bool.and_eq_true, decide_eq_true_eq, List.all_eq_true, List.mem_range] at h1 h2 ⊢
  obtain ⟨e1, g1⟩ := h1
  obtain ⟨e2, g2⟩ := h2
  refine ⟨e1.trans e2.symm, fun i hi => ?_⟩
  have := g2 i (by omega)
  rw [g1 i hi, e1, ← e2]
  exact this.symm
theorem has_meet (a b : NetV) (u : Bool) (C : List UInt8) (ha : mayV a = true) (hb : mayV b = true) (h1 : hasV a u C = true) (h2 : hasV b u C = true) : meetV a b = true := by
  rcases Int.le_total a.k b.k with h | h
  · rw [meet_le a b h, ha, hb, (mayN_parts hb).1, has_meet_le a b h u C h1 h2]; rfl
  · rw [meet_sym, meet_le b a h, ha, hb, (mayN_parts ha).1, has_meet_le b a h u C h2 h1]; rfl
end Go.Proofs.Ytocdjgehjiolhaa
