
/- Texts in order, and one sought among them: plain mathematics, and what slices.Sort and slices.BinarySearch do at texts. -/
import Derived.Test.YtakompbdbmlocaaDoorHdAll
import Derived.Sort.OwnSorted
namespace Go.Proofs.YtakompbdbmlocaaDoor
set_option linter.unusedVariables false
set_option linter.unusedSimpArgs false
open Go.RowKit Go.BigFrame

def sortT (ss : List (List UInt8)) : List (List UInt8) := ss.mergeSort fun x y => decide (x ≤ y)
theorem sort_len (ss : List (List UInt8)) : (sortT ss).length = ss.length := List.length_mergeSort ss
theorem sort_mem (ss : List (List UInt8)) (x : List UInt8) : x ∈ sortT ss ↔ x ∈ ss := List.mem_mergeSort
theorem lt_le_trans (a b c : List UInt8) (h1 : a < b) (h2 : ¬ c < b) : a < c := by
  by_cases h : a < c
  · exact h
  · exact absurd (List.lt_of_le_of_lt (show c ≤ a from h) h1) h2
theorem le_anti (a b : List UInt8) (h1 : ¬ a < b) (h2 : ¬ b < a) : a = b := List.le_antisymm (show a ≤ b from h2) (show b ≤ a from h1)
theorem sort_ord (ss : List (List UInt8)) : (sortT ss).Pairwise fun a b => ¬ b < a := by
  have h := List.pairwise_mergeSort (le := fun x y : List UInt8 => decide (x ≤ y)) (fun a b c h1 h2 => by
    simp only [decide_eq_true_eq] at *
    exact List.le_trans h1 h2) (fun a b => by
    simp only [Bool.or_eq_true, decide_eq_true_eq]
    exact List.le_total a b) ss
  exact h.imp fun {a b} hab => by simpa using hab
def sxT (ys : List (List UInt8)) (x : List UInt8) (t : Nat) : ByteArray := if t < ys.length then asS (ys.getD t []) else asS x
theorem ba_list (x : List UInt8) : (asS x).toList = x := by rw [ByteArray.toList_eq]; rfl
theorem seek_spec (ys : List (List UInt8)) (hs : ys.Pairwise fun a b => ¬ b < a) (x : List UInt8) : ∃ K, Lib.bsGo (fun t => Op.bytesLess (sxT ys x t).toList (asS x).toList) ys.length 0 ys.length = K ∧ decide (K < ys.length ∧ sxT ys x K = asS x) = decide (x ∈ ys) := by
  have hat : ∀ t, t < ys.length → ys.getD t [] ∈ ys := fun t ht => by
    rw [List.getD_eq_getElem?_getD, List.getElem?_eq_getElem ht]; exact List.getElem_mem ht
  have hord : ∀ i j, i < j → j < ys.length → ¬ ys.getD j [] < ys.getD i [] := fun i j hij hj => by
    have := List.pairwise_iff_getElem.1 hs i j (by omega) hj hij
    rw [List.getD_eq_getElem?_getD, List.getElem?_eq_getElem hj, List.getD_eq_getElem?_getD, List.getElem?_eq_getElem (by omega)]
    exact this
  have hless : ∀ t, Op.bytesLess (sxT ys x t).toList (asS x).toList = if t < ys.length then decide (ys.getD t [] < x) else false := fun t => by
    unfold sxT
    split
    · rw [ba_list, ba_list, bytesLess_eq]
    · rw [ba_list, bytesLess_eq]
      exact decide_eq_false (List.lt_irrefl x)
  have hKn : ys.findIdx (fun y => !decide (y < x)) ≤ ys.length := List.findIdx_le_length
  have hbefore : ∀ t, t < ys.findIdx (fun y => !decide (y < x)) → ys.getD t [] < x := fun t ht => by
    have := List.not_of_lt_findIdx ht
    rw [List.getD_eq_getElem?_getD, List.getElem?_eq_getElem (by omega)]
    simpa using this
  have hatK : ys.findIdx (fun y => !decide (y < x)) < ys.length → ¬ ys.getD (ys.findIdx (fun y => !decide (y < x))) [] < x := fun hK => by
    have := List.findIdx_getElem (w := hK)
    rw [List.getD_eq_getElem?_getD, List.getElem?_eq_getElem hK]
    simpa using this
  generalize ys.findIdx (fun y => !decide (y < x)) = K at hKn hbefore hatK
  refine ⟨K, ?_, ?_⟩
  · refine Lib.bsGo_spec _ K (fun t ht => ?_) (fun t ht => ?_) ys.length 0 ys.length (by omega) (by omega) hKn
    · show Op.bytesLess _ _ = true
      rw [hless, if_pos (by omega)]
      exact decide_eq_true (hbefore t ht)
    · show Op.bytesLess _ _ = false
      rw [hless]
      by_cases htn : t < ys.length
      · rw [if_pos htn]
        refine decide_eq_false fun hlt => ?_
        have hK := hatK (by omega)
        rcases Nat.eq_or_lt_of_le ht with rfl | hlt2
        · exact hK hlt
        · exact hord K t hlt2 htn (lt_le_trans _ _ _ hlt hK)
      · rw [if_neg htn]
  · refine decide_eq_decide.2 ⟨fun ⟨h1, h2⟩ => ?_, fun h => ?_⟩
    · unfold sxT at h2
      rw [if_pos h1] at h2
      have h3 := (asS_inj _ _).1 h2
      rw [← h3]; exact hat K h1
    · obtain ⟨t, ht, e⟩ := List.getElem_of_mem h
      have hte : ys.getD t [] = x := by rw [List.getD_eq_getElem?_getD, List.getElem?_eq_getElem ht]; exact e
      have hKt : K ≤ t := by
        rcases Nat.lt_or_ge t K with h1 | h1
        · have := hbefore t h1
          rw [hte] at this
          exact absurd this (List.lt_irrefl x)
        · exact h1
      have hK : K < ys.length := by omega
      refine ⟨hK, ?_⟩
      unfold sxT
      rw [if_pos hK]
      congr 1
      have h1 := hatK hK
      rcases Nat.eq_or_lt_of_le hKt with rfl | hlt2
      · exact hte
      · have h2 := hord K t hlt2 ht
        rw [hte] at h2
        exact le_anti _ _ h1 h2
theorem arr_str (ss : List (List UInt8)) (j : Nat) (h : j < ss.length) : ss.toArray[j]! = ss.getD j [] := by
  rw [getElem!_pos ss.toArray j (by simpa using h), List.getD_eq_getElem?_getD, List.getElem?_eq_getElem h]
  rfl
/-- slices.Sort at a row of texts of one's own. -/
theorem sortS_any (ss : List (List UInt8)) (b g cap : Nat) (hl : ss.length ≤ 1000000) (hbg : b ≤ g) (w : World) (hrow : w.heap[g]? = some (.cells (stvs ss).toArray 9 (0, 0))) : Calls Tryd.prog 38 #[.slice (some ⟨g, 0, none⟩) ss.length cap] w fun e w' => e = .returned (.tuple #[]) ∧ StrsAt w' (some ⟨g, 0, none⟩) (sortT ss) ∧ Below b w w' := by
  have hg : g < w.heap.size := (Array.getElem?_eq_some_iff.1 hrow).1
  have hH : Sort.Holds encStr w g 0 ss.toArray := fun j hj => by
    have hj' : j < ss.length := by simpa using hj
    refine ⟨?_, frozen_of_row _ _ _ _ _ hrow⟩
    rw [Nat.zero_add, cell_of_row _ _ _ _ _ _ hrow, List.getElem?_toArray, stvs_at ss j hj']
    rw [arr_str ss j hj']
    rfl
  refine (Tryd.slices_Sort_string g 0 cap ss w hH hg (by omega)).mono ?_
  rintro e w' ⟨rfl, n, os, rfl⟩
  have hH2 := Sort.holds_putRow encStr (Sort.ahead w n) g 0 ss.toArray (sortT ss).toArray hH (by simp [sort_len])
  refine ⟨rfl, fun _ => ⟨g, 0, rfl, ?_, fun j hj => ?_⟩, (Below.refl b w).grown (Go.grownBy_sorted (sortT ss).toArray) (Nat.le_trans hbg (Nat.le_of_lt hg)) (fun k hk => by cases hk; exact hbg)⟩
  · have := (Go.grownBy_sorted (w := w) (g := g) (n := n) (os := os) (sortT ss).toArray).size
    exact Nat.lt_of_lt_of_le hg this
  · have h1 := (hH2 j (by simpa using hj)).1
    have h2 : (Sort.grow (Sort.putRow encStr (Sort.ahead w n) g 0 (sortT ss).toArray) os).cell? ⟨g, 0 + j, none⟩ = (Sort.putRow encStr (Sort.ahead w n) g 0 (sortT ss).toArray).cell? ⟨g, 0 + j, none⟩ := by
      unfold World.cell?
      rw [show (Sort.grow (Sort.putRow encStr (Sort.ahead w n) g 0 (sortT ss).toArray) os).heap[g]? = (Sort.putRow encStr (Sort.ahead w n) g 0 (sortT ss).toArray).heap[g]? from Sort.heap_grow_old _ _ (by simpa using hg)]
    refine h2.trans (h1.trans ?_)
    rw [arr_str (sortT ss) j hj]
    rfl
theorem seekS_any (ys : List (List UInt8)) (hs : ys.Pairwise fun a b => ¬ b < a) (x : List UInt8) (g c : Nat) (hl : ys.length ≤ 1000000) (w : World) (hA : StrsAt w (some ⟨g, 0, none⟩) ys) : Calls Tryd.prog 39 #[.slice (some ⟨g, 0, none⟩) ys.length c, .string (asS x)] w fun e w' => (∃ K : Int, e = .returned (.tuple #[.int .i64 K, .bool (decide (x ∈ ys))])) ∧ Below w.heap.size w w' := by
  obtain ⟨K, h1, h2⟩ := seek_spec ys hs x
  refine (Tryd.slices_BinarySearch_string g 0 ys.length c (sxT ys x) (asS x) w (by omega) (fun j hj => ?_)).mono ?_
  · obtain ⟨q, o, e, _, hc⟩ := hA (by omega)
    cases e
    rw [hc j hj]
    unfold sxT
    rw [if_pos hj]
  · rintro e w' ⟨rfl, q, rfl⟩
    refine ⟨⟨K, ?_⟩, below_drewN _ _ _⟩
    rw [h1, h2]
end Go.Proofs.YtakompbdbmlocaaDoor
