
/- The reference's way of writing groups in short is the short one: plain mathematics. -/
import Derived.Test.YtocdjgehjiolhaaGreatDoorIpRDig
import Derived.Test.YtocdjgehjiolhaaGreatDoorIpSho
namespace Go.Proofs.YtocdjgehjiolhaaGreatDoor
set_option linter.unusedVariables false

/-- The text behind the first k groups, at_ and n being the run. -/
def sTo (g : List Nat) (a n : Nat) : Nat → List UInt8
  | 0 => []
  | k + 1 =>
    if 2 ≤ n ∧ a ≤ k ∧ k < a + n then (if k = a then sTo g a n k ++ [58, 58] else sTo g a n k)
    else (if 0 < k ∧ ¬ (2 ≤ n ∧ k = a + n) then sTo g a n k ++ [58] else sTo g a n k) ++ digs 16 (g.getD k 0)
theorem J_snoc (g : List Nat) (k : Nat) (h : k < g.length) : J (g.take (k + 1)) = if k = 0 then digs 16 (g.getD k 0) else J (g.take k) ++ 58 :: digs 16 (g.getD k 0) := by
  unfold J
  rw [hexs_snoc g k h, joinL_snoc]
  by_cases h0 : k = 0
  · subst h0; rfl
  · rw [if_neg h0, if_neg (by intro e; have := hexs_len (g.take k); rw [e, List.length_take] at this; simp at this; omega)]
theorem sTo_plain (g : List Nat) (a n : Nat) (hg : g.length = 8) (hn : ¬ 2 ≤ n) : ∀ k, k ≤ 8 → sTo g a n k = J (g.take k)
  | 0, _ => rfl
  | k + 1, h => by
    have ih := sTo_plain g a n hg hn k (by omega)
    rw [sTo, if_neg (by omega), ih, J_snoc g k (by omega)]
    by_cases h0 : k = 0
    · subst h0; rw [if_neg (by omega), if_pos rfl]; rfl
    · rw [if_pos ⟨by omega, by omega⟩, if_neg h0]; simp
theorem sTo_left (g : List Nat) (a n : Nat) (hg : g.length = 8) (hn : 2 ≤ n) (ha : a + n ≤ 8) : ∀ k, k ≤ a → sTo g a n k = J (g.take k)
  | 0, _ => rfl
  | k + 1, h => by
    have ih := sTo_left g a n hg hn ha k (by omega)
    rw [sTo, if_neg (by omega), ih, J_snoc g k (by omega)]
    by_cases h0 : k = 0
    · subst h0; rw [if_neg (by omega), if_pos rfl]; rfl
    · rw [if_pos ⟨by omega, by omega⟩, if_neg h0]; simp
theorem sTo_mid (g : List Nat) (a n : Nat) (hg : g.length = 8) (hn : 2 ≤ n) (ha : a + n ≤ 8) : ∀ m, m < n → sTo g a n (a + m + 1) = J (g.take a) ++ [58, 58]
  | 0, _ => by rw [sTo, if_pos ⟨hn, by omega, by omega⟩, if_pos rfl, sTo_left g a n hg hn ha a (Nat.le_refl _)]
  | m + 1, h => by
    have ih := sTo_mid g a n hg hn ha m (by omega)
    rw [show a + (m + 1) + 1 = (a + m + 1) + 1 from by omega, sTo, if_pos ⟨hn, by omega, by omega⟩, if_neg (by omega), ih]
theorem sTo_right (g : List Nat) (a n : Nat) (hg : g.length = 8) (hn : 2 ≤ n) (ha : a + n ≤ 8) : ∀ m, a + n + m ≤ 8 → sTo g a n (a + n + m) = J (g.take a) ++ [58, 58] ++ J ((g.drop (a + n)).take m)
  | 0, _ => by
    have := sTo_mid g a n hg hn ha (n - 1) (by omega)
    rw [show a + (n - 1) + 1 = a + n from by omega] at this
    rw [Nat.add_zero, this]
    simp [J, hexs, joinL]
  | m + 1, h => by
    have ih := sTo_right g a n hg hn ha m (by omega)
    rw [show a + n + (m + 1) = (a + n + m) + 1 from by omega, sTo, if_neg (by omega), ih, J_snoc (g.drop (a + n)) m (by rw [List.length_drop]; omega), get_drop]
    by_cases h0 : m = 0
    · subst h0; rw [if_neg (by omega), if_pos rfl]; simp [J, hexs, joinL]
    · rw [if_pos ⟨by omega, by omega⟩, if_neg h0]; simp
theorem sTo_short (g : List Nat) (a n : Nat) (hg : g.length = 8) (ha : a + n ≤ 8) : sTo g a n 8 = shortB g a n := by
  unfold shortB
  by_cases hn : 2 ≤ n
  · have := sTo_right g a n hg hn ha (8 - (a + n)) (by omega)
    rw [show a + n + (8 - (a + n)) = 8 from by omega] at this
    rw [if_pos hn, this, List.take_of_length_le (l := g.drop (a + n)) (by rw [List.length_drop]; omega)]
  · rw [if_neg hn, sTo_plain g a n hg hn 8 (Nat.le_refl _), List.take_of_length_le (by omega)]
theorem sTo_len (g : List Nat) (a n : Nat) : ∀ k, (sTo g a n k).length ≤ 23 * k
  | 0 => by simp [sTo]
  | k + 1 => by
    have ih := sTo_len g a n k
    have hd := digs_short 16 (g.getD k 0)
    rw [sTo]
    generalize digs 16 (g.getD k 0) = D at hd
    split
    · split
      · simp only [List.length_append, List.length_cons, List.length_nil]; omega
      · omega
    · split
      · simp only [List.length_append, List.length_cons, List.length_nil]; omega
      · simp only [List.length_append]; omega
theorem allz_snoc (g : List Nat) (i m : Nat) (h : i ≤ m) : allz g i (m + 1) = (allz g i m && decide (g.getD m 0 = 0)) := by
  unfold allz
  rw [show m + 1 - i = (m - i) + 1 from by omega, List.range_succ, List.all_append]
  simp [show i + (m - i) = m from by omega]
theorem allz_self (g : List Nat) (i : Nat) : allz g i i = true := by simp [allz]
end Go.Proofs.YtocdjgehjiolhaaGreatDoor
