
/- Values of JSON: how much they weigh; lists (no program in it). -/
import Derived.Test.YtlgkbdebpnbndaaGreatDoorJsMath
namespace Go.Proofs.YtlgkbdebpnbndaaGreatDoor
set_option linter.unusedVariables false
set_option linter.unusedSimpArgs false

theorem choose_at {α : Type} (z : α) (n : Nat) (p : Nat → α → Prop) (h : ∀ i, i < n → ∃ v, p i v) : ∃ l : List α, l.length = n ∧ ∀ i, i < n → p i (l.getD i z) := by
  have each : ∀ i, ∃ v : α, i < n → p i v := fun i => by
    by_cases hi : i < n
    · obtain ⟨v, hv⟩ := h i hi; exact ⟨v, fun _ => hv⟩
    · exact ⟨z, fun h => absurd h hi⟩
  refine ⟨(List.range n).map fun i => Classical.choose (each i), by simp, fun i hi => ?_⟩
  have e : ((List.range n).map fun i => Classical.choose (each i)).getD i z = Classical.choose (each i) := by simp [List.getD_eq_getElem?_getD, hi]
  rw [e]
  exact Classical.choose_spec (each i) hi
theorem mem_getD {α : Type} (z : α) {l : List α} {x : α} (h : x ∈ l) : ∃ i, i < l.length ∧ x = l.getD i z := by
  obtain ⟨i, hi, rfl⟩ := List.getElem_of_mem h
  exact ⟨i, hi, by rw [List.getD_eq_getElem?_getD, List.getElem?_eq_getElem hi]; rfl⟩
theorem take_getD {α : Type} (l : List α) (z : α) (k : Nat) (h : k < l.length) : l.take (k + 1) = l.take k ++ [l.getD k z] := by
  rw [List.take_succ_eq_append_getElem h, List.getD_eq_getElem?_getD, List.getElem?_eq_getElem h]; rfl
theorem getD_mem9 {α : Type} {l : List α} {z : α} {j : Nat} (h : j < l.length) : l.getD j z ∈ l := by
  rw [List.getD_eq_getElem?_getD, List.getElem?_eq_getElem h]
  exact List.getElem_mem h
theorem least_of {α β : Type} (R : Nat → α → β → Prop) : ∃ f : α → β → Nat, ∀ m a b, R m a b → R (f a b) a b ∧ f a b ≤ m := by
  have h : ∀ a b, ∃ k, ∀ m, R m a b → R k a b ∧ k ≤ m := fun a b => by
    by_cases h : ∃ m, R m a b
    · obtain ⟨m, hm⟩ := h
      have key : ∀ n, ∀ m, m ≤ n → R m a b → ∃ k, R k a b ∧ ∀ j, R j a b → k ≤ j := by
        intro n
        induction n with
        | zero =>
          intro m hmn hR
          obtain rfl : m = 0 := by omega
          exact ⟨0, hR, fun j _ => Nat.zero_le j⟩
        | succ n ih =>
          intro m hmn hR
          by_cases h2 : ∃ j, j < m ∧ R j a b
          · obtain ⟨j, h3, h4⟩ := h2
            exact ih j (by omega) h4
          · exact ⟨m, hR, fun j hj => by
              rcases Nat.lt_or_ge j m with h3 | h3
              · exact absurd ⟨j, h3, hj⟩ h2
              · exact h3⟩
      obtain ⟨k, h1, h2⟩ := key m m (Nat.le_refl _) hm
      exact ⟨k, fun j hj => ⟨h1, h2 j hj⟩⟩
    · exact ⟨0, fun m hm => absurd ⟨m, hm⟩ h⟩
  exact ⟨fun a b => (h a b).choose, fun m a b hm => (h a b).choose_spec m hm⟩
/-- How much a value weighs: itself, its text, its names, those within. -/
def nmsW (l : List (List UInt8)) : Nat := (l.map fun s => 1 + s.length).sum
def wtJ : (d : Nat) → VJ d → Nat
  | 0, t => 1 + t.2.2.1.length + nmsW t.2.2.2
  | d + 1, t => 1 + t.1.2.2.1.length + nmsW t.1.2.2.2 + (t.2.map (wtJ d)).sum
theorem wtJ_eq : ∀ (d : Nat) (t : VJ d), wtJ d t = 1 + (labJ d t).2.2.1.length + nmsW (labJ d t).2.2.2 + ((kidsJ d t).map (wtJ (d - 1))).sum
  | 0, _ => rfl
  | _ + 1, _ => rfl
theorem sum_inJ {α : Type} (f : α → Nat) : ∀ {l : List α} {x : α}, x ∈ l → f x ≤ (l.map f).sum
  | b :: r, x, h => by
    rw [List.map_cons, List.sum_cons]
    rcases List.mem_cons.1 h with rfl | h
    · omega
    · have := sum_inJ f h
      omega
theorem sum_lens {α : Type} (f : α → Nat) (hf : ∀ x, 1 ≤ f x) : ∀ l : List α, l.length ≤ (l.map f).sum
  | [] => Nat.zero_le _
  | b :: r => by
    have := sum_lens f hf r
    have := hf b
    rw [List.map_cons, List.sum_cons, List.length_cons]
    omega
theorem wtJ_pos (d : Nat) (t : VJ d) : 1 ≤ wtJ d t := by rw [wtJ_eq]; omega
theorem wtJ_parts {d : Nat} {t : VJ d} {N : Nat} (h : wtJ d t ≤ N) : (labJ d t).2.2.1.length ≤ N ∧ (labJ d t).2.2.2.length ≤ N ∧ (∀ s ∈ (labJ d t).2.2.2, s.length ≤ N) ∧ (kidsJ d t).length ≤ N ∧ ∀ k ∈ kidsJ d t, wtJ (d - 1) k ≤ N := by
  rw [wtJ_eq] at h
  have h1 : (labJ d t).2.2.2.length ≤ nmsW (labJ d t).2.2.2 := sum_lens _ (fun x => by omega) _
  have h2 := sum_lens (wtJ (d - 1)) (wtJ_pos (d - 1)) (kidsJ d t)
  refine ⟨by omega, by omega, fun s hs => ?_, by omega, fun k hk => ?_⟩
  · have : 1 + s.length ≤ nmsW (labJ d t).2.2.2 := sum_inJ (fun s : List UInt8 => 1 + s.length) hs
    omega
  · have := sum_inJ (wtJ (d - 1)) hk
    omega
end Go.Proofs.YtlgkbdebpnbndaaGreatDoor
