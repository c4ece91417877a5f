
/- Arrays of four bytes and addresses by value that came in, laid open. -/
import Derived.Test.YtocdjgehjiolhaaGreatDoorAddr
import Derived.OpenShut
namespace Go.Proofs.YtocdjgehjiolhaaGreatDoor
open Go.RowKit
set_option linter.unusedSimpArgs false
set_option linter.unusedVariables false
set_option maxRecDepth 100000

theorem open_addr {H : Type} {enc : TypeId × Value → H} {W : World} {b0 : Nat} {v : Value} {d : DataW H} {ps : List MemPlace} (hval : Value.okWide Tryz.prog W .any b0 24 v) (hd : DataW.Trod enc Tryz.prog W 0 (fun _ => true) true 24 v d ps) :
    ∃ (u : Bool) (l : List UInt8), l.length = 16 ∧ v = .agg (acs u l) := by
  have hc : Tryz.prog.cellsOf 24 = 17 := by kernel_rfl
  have hc38 : Tryz.prog.cellsOf 22 = 16 := by kernel_rfl
  have hc4 : Tryz.prog.cellsOf 4 = 1 := by kernel_rfl
  obtain ⟨cs, rfl, hsz⟩ : ∃ cs : Array Value, v = .agg cs ∧ cs.size = 17 := by
    simp only [Value.okWide, Tryz.underlying24] at hval
    obtain ⟨cs, h1, h2, _⟩ := hval
    exact ⟨cs, h1, by rw [h2, hc]⟩
  obtain ⟨fuel, hf⟩ := hd
  obtain ⟨xs, m, _, _, _, hn, hx⟩ := DataW.trod_struct Tryz.underlying24 hf
  have hn2 : xs.length = 2 := hn
  have h0 : DataW.trod enc Tryz.prog W 0 (fun _ => true) true m 4 (((Value.agg cs).cells.toList.drop 0).take (Tryz.prog.cellsOf 4)) = xs[0]? := hx 0 _ rfl
  have h1 : DataW.trod enc Tryz.prog W 0 (fun _ => true) true m 22 (((Value.agg cs).cells.toList.drop 1).take (Tryz.prog.cellsOf 22)) = xs[1]? := hx 1 _ rfl
  clear hx hn hf
  rw [hc4] at h0
  rw [hc38] at h1
  rw [List.getElem?_eq_getElem (by omega)] at h0 h1
  obtain ⟨u, e0, _⟩ := DataW.trod_bool Tryz.underlying4 h0
  obtain ⟨ys, m2, _, _, _, hn3, hy⟩ := DataW.trod_array Tryz.underlying22 h1
  have hcl : (Value.agg cs).cells.toList = cs.toList := rfl
  rw [hcl] at e0 hy
  have each : ∀ i, ∃ c : UInt8, i < 16 → cs[i + 1]? = some (.int .u8 c.toNat) := fun i => by
    by_cases hi : i < 16
    · have h := hy i hi
      rw [cellsOf5, Nat.mul_one, List.getElem?_eq_getElem (by omega)] at h
      obtain ⟨a, ea, _, wa⟩ := DataW.trod_int Tryz.underlying5 h
      have hb := bounds_u8 wa
      refine ⟨UInt8.ofNat a.toNat, fun _ => ?_⟩
      have h1 : i + 1 < cs.size := by omega
      have e3 : ((((cs.toList.drop 1).take 16).drop i).take 1) = [cs[i + 1]] := by
        rw [List.drop_take, List.take_take, Nat.min_eq_left (by omega), List.drop_drop, show 1 + i = i + 1 from by omega, List.drop_eq_getElem_cons (by simpa using h1)]
        simp
      rw [e3] at ea
      have e4 : cs[i + 1] = .int .u8 a := by simpa using ea
      rw [Array.getElem?_eq_getElem h1, e4, UInt8.toNat_ofNat']
      exact congrArg (fun z => some (Value.int .u8 z)) (by omega)
    · exact ⟨0, fun h => absurd h hi⟩
  have f0 : cs[0]? = some (.bool u) := by
    have h1 : 0 < cs.size := by omega
    rw [List.drop_eq_getElem_cons (by simpa using h1)] at e0
    rw [Array.getElem?_eq_getElem h1]
    have : cs[0] = .bool u := by simpa using e0
    rw [this]
  refine ⟨u, (List.range 16).map fun i => Classical.choose (each i), by simp, congrArg Value.agg ?_⟩
  apply Array.ext_getElem?
  intro i
  cases i with
  | zero => rw [f0, acs_zero]
  | succ i =>
    by_cases hi : i < 16
    · rw [Classical.choose_spec (each i) hi, acs_at _ _ _ (by simpa using hi)]
      simp [List.getD_eq_getElem?_getD, hi]
    · rw [Array.getElem?_eq_none (by omega), Array.getElem?_eq_none (by rw [acs_size _ _ (by simp)]; omega)]
end Go.Proofs.YtocdjgehjiolhaaGreatDoor
