
/- A slice of nets that came in, laid open. -/
import Derived.Test.YtocdjgehjiolhaaCiOpen
import Derived.Test.YtocdjgehjiolhaaCiFunc
import Derived.Deep.Slices
import Derived.ProofKit
import Derived.OpenShut
namespace Go.Proofs.Ytocdjgehjiolhaa
open Go.ChangeShapes Go.WideShapes Go.ChangeAt Go.RowKit
set_option linter.unusedSimpArgs false
set_option linter.unusedVariables false
set_option maxRecDepth 100000

theorem open_nets {H : Type} {enc : TypeId × Value → H} {W : World} {b0 : Nat} {v : Value} {d : DataW H} {ps : List MemPlace} (hval : Value.okWide Try.prog W .any b0 33 v) (hd : DataW.Trod enc Try.prog W 0 (fun _ => true) true 33 v d ps) :
    ∃ l : List NetV, (∀ n ∈ l, n.B.length = 16) ∧ NetsAt W v l := by
  obtain ⟨a, len, cap, rfl⟩ := okWide_slice Try.underlying33 hval
  obtain ⟨fuel, hf⟩ := hd
  have hc : Try.prog.cellsOf 26 = 18 := by kernel_rfl
  rcases Go.Deep.open_slice Try.underlying33 hf with ⟨hcs, _⟩ | ⟨x, l, c, m, n, D, Pl, hcs, _, hlc, _, hm, _, hx⟩
  · simp [Value.cells] at hcs
    obtain ⟨rfl, rfl, rfl⟩ := hcs
    exact ⟨[], (fun n hn => by cases hn), .inl ⟨rfl, none, 0, rfl⟩⟩
  · simp [Value.cells] at hcs
    obtain ⟨rfl, rfl, rfl⟩ := hcs
    simp only [if_true] at hm
    by_cases h0 : len = 0
    · subst h0
      exact ⟨[], (fun n hn => by cases hn), .inl ⟨rfl, some x, cap, rfl⟩⟩
    · have each : ∀ i, ∃ n : NetV, i < len → n.B.length = 16 ∧ ∀ j u, (nvs n)[j]? = some u → W.cell? ((x.add (i * 18)).add j) = some u := fun i => by
        by_cases hi : i < len
        · obtain ⟨cs', h1, h2⟩ := hx i (by omega)
          rw [hc] at h1
          obtain ⟨_, hlen, hcell⟩ := World.cells?_some h1
          obtain ⟨nn, h3, h4⟩ := open_cellsN hlen h2
          refine ⟨nn, fun _ => ⟨h3, fun j u hu => ?_⟩⟩
          rw [← h4] at hu
          rw [hcell j (by rw [← hlen]; exact (List.getElem?_eq_some_iff.1 hu).1)]
          exact hu
        · exact ⟨⟨false, [], 0⟩, fun h => absurd h hi⟩
      have hsp : x.spot = none ∧ x.block < W.heap.size := by
        obtain ⟨n0, hn0⟩ := each 0
        obtain ⟨h1, h2⟩ := hn0 (by omega)
        have h3 := h2 0 (.bool n0.v) (by simp [nvs])
        have e : (x.add (0 * 18)).add 0 = x := by simp [Addr.add]
        rw [e] at h3
        refine ⟨?_, block_lt_of_cell h3⟩
        unfold World.cell? at h3
        split at h3
        · split at h3
          · cases h3
          · rename_i hs
            simpa using hs
        · cases h3
      obtain ⟨b, off, sp⟩ := x
      obtain ⟨rfl, hb⟩ := hsp
      refine ⟨(List.range len).map fun i => Classical.choose (each i), fun n hn => ?_, .inr ⟨b, off, cap, by simp, hb, fun j n hn i u hu => ?_⟩⟩
      · obtain ⟨i, hi, rfl⟩ := List.mem_map.1 hn
        exact (Classical.choose_spec (each i) (List.mem_range.1 hi)).1
      · rw [List.getElem?_map] at hn
        have hj : j < len := by
          rcases Nat.lt_or_ge j len with h | h
          · exact h
          · rw [List.getElem?_eq_none (by simpa using h)] at hn; cases hn
        rw [List.getElem?_range hj] at hn
        have hn2 : Classical.choose (each j) = n := by simpa using hn
        have := (Classical.choose_spec (each j) hj).2 i u (by rw [hn2]; exact hu)
        rw [Addr.add_mid, Addr.add_mid] at this
        exact this
end Go.Proofs.Ytocdjgehjiolhaa
