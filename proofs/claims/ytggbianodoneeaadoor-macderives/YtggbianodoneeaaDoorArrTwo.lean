
/- An array of two ints by value that came in, laid open. -/
import Derived.Test.YtggbianodoneeaaDoorStore
import Derived.OpenShut
namespace Go.Proofs.YtggbianodoneeaaDoor
open Go.RowKit
set_option linter.unusedSimpArgs false
set_option linter.unusedVariables false

theorem open_arr2 {H : Type} {enc : TypeId × Value → H} {W : World} {b0 : Nat} {v : Value} {d : DataW H} {ps : List MemPlace} (hval : Value.okWide Tryd.prog W .any b0 32 v) (hd : DataW.Trod enc Tryd.prog W 0 (fun _ => true) true 32 v d ps) :
    ∃ x y : Int, v = .agg #[.int .i64 x, .int .i64 y] := by
  have hc : Tryd.prog.cellsOf 32 = 2 := by kernel_rfl
  have hc3 : Tryd.prog.cellsOf 3 = 1 := by kernel_rfl
  obtain ⟨cs, rfl, hsz⟩ : ∃ cs : Array Value, v = .agg cs ∧ cs.size = 2 := by
    simp only [Value.okWide, Tryd.underlying32] at hval
    obtain ⟨cs, h1, h2, _⟩ := hval
    exact ⟨cs, h1, by rw [h2, hc]⟩
  obtain ⟨fuel, hf⟩ := hd
  obtain ⟨xs, m, _, _, _, hn, hx⟩ := DataW.trod_array Tryd.underlying32 hf
  have each : ∀ i (hi : i < 2), ∃ c : Int, cs[i]'(by omega) = .int .i64 c := fun i hi => by
    have h := hx i hi
    rw [hc3, Nat.mul_one, List.getElem?_eq_getElem (by omega)] at h
    obtain ⟨a, ea, _, wa⟩ := DataW.trod_int Tryd.underlying3 h
    have h1 : i < cs.size := by omega
    have e1 : ((Value.agg cs).cells.toList.drop i).take 1 = [cs[i]] := by
      simp only [Value.cells]
      rw [List.drop_eq_getElem_cons (by simpa using h1)]
      simp
    rw [e1] at ea
    exact ⟨a, by simpa using ea⟩
  obtain ⟨x, hx0⟩ := each 0 (by omega)
  obtain ⟨y, hx1⟩ := each 1 (by omega)
  refine ⟨x, y, ?_⟩
  congr 1
  apply Array.ext
  · rw [hsz]; rfl
  · intro i h1 h2
    have : i = 0 ∨ i = 1 := by omega
    rcases this with rfl | rfl
    · exact hx0
    · exact hx1

end Go.Proofs.YtggbianodoneeaaDoor
