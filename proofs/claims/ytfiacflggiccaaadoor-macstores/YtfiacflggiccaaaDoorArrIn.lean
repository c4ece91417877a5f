/- An array of bytes by value that came in, laid open. -/
import Derived.Test.YtfiacflggiccaaaDoorStore
import Derived.OpenShut
namespace Go.Proofs.YtfiacflggiccaaaDoor
open Go.RowKit
set_option linter.unusedSimpArgs false
set_option linter.unusedVariables false

theorem open_arr16 {H : Type} {enc : TypeId × Value → H} {W : World} {b0 : Nat} {v : Value} {d : DataW H} {ps : List MemPlace} (hval : Value.okWide Tryd.prog W .any b0 44 v) (hd : DataW.Trod enc Tryd.prog W 0 (fun _ => true) true 44 v d ps) :
    ∃ l : List UInt8, l.length = 16 ∧ v = .agg (bcs l) := by
  have hc : Tryd.prog.cellsOf 44 = 16 := by kernel_rfl
  obtain ⟨cs, rfl, hsz⟩ : ∃ cs : Array Value, v = .agg cs ∧ cs.size = 16 := by
    simp only [Value.okWide, Tryd.underlying44] at hval
    obtain ⟨cs, h1, h2, _⟩ := hval
    exact ⟨cs, h1, by rw [h2, hc]⟩
  obtain ⟨fuel, hf⟩ := hd
  obtain ⟨xs, m, _, _, _, hn, hx⟩ := DataW.trod_array Tryd.underlying44 hf
  have each : ∀ i, ∃ c : UInt8, i < 16 → cs[i]? = some (.int .u8 c.toNat) := fun i => by
    by_cases hi : i < 16
    · have h := hx i hi
      rw [cellsOf5, Nat.mul_one, List.getElem?_eq_getElem (by omega)] at h
      obtain ⟨a, ea, _, wa⟩ := DataW.trod_int Tryd.underlying5 h
      have hb := bounds_u8 wa
      refine ⟨UInt8.ofNat a.toNat, fun _ => ?_⟩
      have h1 : i < cs.size := by omega
      have e1 : ((Value.agg cs).cells.toList.drop i).take 1 = [cs[i]] := by
        simp only [Value.cells]
        rw [List.drop_eq_getElem_cons (by simpa using h1)]
        simp
      rw [e1] at ea
      have e2 : cs[i] = .int .u8 a := by simpa using ea
      rw [Array.getElem?_eq_getElem h1, e2, UInt8.toNat_ofNat']
      congr 2
      omega
    · exact ⟨0, fun h => absurd h hi⟩
  refine ⟨(List.range 16).map fun i => Classical.choose (each i), by simp, ?_⟩
  congr 1
  apply Array.ext_getElem?
  intro i
  by_cases hi : i < 16
  · rw [Classical.choose_spec (each i) hi, bcs_at _ _ (by simpa using hi)]
    simp [List.getD_eq_getElem?_getD, hi]
  · rw [Array.getElem?_eq_none (by omega), Array.getElem?_eq_none (by rw [bcs_size]; simp; omega)]

end Go.Proofs.YtfiacflggiccaaaDoor
