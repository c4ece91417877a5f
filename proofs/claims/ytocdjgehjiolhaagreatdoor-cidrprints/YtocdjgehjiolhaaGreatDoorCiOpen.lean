
/- Nets by value that came in, laid open. -/
import Derived.Test.YtocdjgehjiolhaaGreatDoorIpArr
import Derived.Test.YtocdjgehjiolhaaGreatDoorCiNet
namespace Go.Proofs.YtocdjgehjiolhaaGreatDoor
open Go.RowKit
set_option linter.unusedSimpArgs false
set_option linter.unusedVariables false
set_option maxRecDepth 100000

/-- The cells of an address, as they are read. -/
theorem open_cellsA {H : Type} {enc : TypeId × Value → H} {W : World} {m : Nat} {cs : List Value} {d : DataW H × List MemPlace} (hsz : cs.length = 17) (hf : DataW.trod enc Tryz.prog W 0 (fun _ => true) true m 24 cs = some d) :
    ∃ (u : Bool) (l : List UInt8), l.length = 16 ∧ cs = .bool u :: bvs l := by
  have hc38 : Tryz.prog.cellsOf 22 = 16 := by kernel_rfl
  have hc4 : Tryz.prog.cellsOf 4 = 1 := by kernel_rfl
  obtain ⟨xs, m, _, _, _, hn, hx⟩ := DataW.trod_struct Tryz.underlying24 hf
  have hn2 : xs.length = 2 := hn
  have h0 : DataW.trod enc Tryz.prog W 0 (fun _ => true) true m 4 ((cs.drop 0).take (Tryz.prog.cellsOf 4)) = xs[0]? := hx 0 _ rfl
  have h1 : DataW.trod enc Tryz.prog W 0 (fun _ => true) true m 22 ((cs.drop 1).take (Tryz.prog.cellsOf 22)) = xs[1]? := hx 1 _ rfl
  clear hx hn hf
  rw [hc4] at h0
  rw [hc38] at h1
  rw [List.getElem?_eq_getElem (by omega)] at h0 h1
  obtain ⟨u, e0, _⟩ := DataW.trod_bool Tryz.underlying4 h0
  obtain ⟨ys, m2, _, _, _, hn3, hy⟩ := DataW.trod_array Tryz.underlying22 h1
  have each : ∀ i, ∃ c : UInt8, i < 16 → cs[i + 1]? = some (.int .u8 c.toNat) := fun i => by
    by_cases hi : i < 16
    · have h := hy i hi
      rw [cellsOf5, Nat.mul_one, List.getElem?_eq_getElem (by omega)] at h
      obtain ⟨a, ea, _, wa⟩ := DataW.trod_int Tryz.underlying5 h
      have hb := bounds_u8 wa
      refine ⟨UInt8.ofNat a.toNat, fun _ => ?_⟩
      have h1 : i + 1 < cs.length := by omega
      have e3 : ((((cs.drop 1).take 16).drop i).take 1) = [cs[i + 1]] := by
        rw [List.drop_take, List.take_take, Nat.min_eq_left (by omega), List.drop_drop, show 1 + i = i + 1 from by omega, List.drop_eq_getElem_cons h1, List.take_succ_cons, List.take_zero]
      rw [e3] at ea
      have e4 : cs[i + 1] = .int .u8 a := by simpa using ea
      rw [List.getElem?_eq_getElem h1, e4, UInt8.toNat_ofNat']
      exact congrArg (fun z => some (Value.int .u8 z)) (by omega)
    · exact ⟨0, fun h => absurd h hi⟩
  have f0 : cs[0]? = some (.bool u) := by
    have h1 : 0 < cs.length := by omega
    rw [List.drop_eq_getElem_cons h1] at e0
    rw [List.getElem?_eq_getElem h1]
    have : cs[0] = .bool u := by simpa using e0
    rw [this]
  refine ⟨u, (List.range 16).map fun i => Classical.choose (each i), by simp, ?_⟩
  apply List.ext_getElem?
  intro i
  cases i with
  | zero => rw [f0]; rfl
  | succ i =>
    rw [List.getElem?_cons_succ]
    by_cases hi : i < 16
    · have := bcs_at ((List.range 16).map fun i => Classical.choose (each i)) i (by simpa using hi)
      rw [Classical.choose_spec (each i) hi]
      simp [bcs, bvs, hi] at this ⊢
    · rw [List.getElem?_eq_none (by omega), List.getElem?_eq_none (by simp [bvs]; omega)]
/-- The cells of a net, as they are read. -/
theorem open_cellsN {H : Type} {enc : TypeId × Value → H} {W : World} {m : Nat} {cs : List Value} {d : DataW H × List MemPlace} (hsz : cs.length = 18) (hf : DataW.trod enc Tryz.prog W 0 (fun _ => true) true m 26 cs = some d) :
    ∃ n : NetV, n.B.length = 16 ∧ cs = nvs n := by
  have hcA : Tryz.prog.cellsOf 24 = 17 := by kernel_rfl
  have hcI : Tryz.prog.cellsOf 3 = 1 := by kernel_rfl
  obtain ⟨xs, m, _, _, _, hn, hx⟩ := DataW.trod_struct Tryz.underlying26 hf
  have hn2 : xs.length = 2 := hn
  have h0 : DataW.trod enc Tryz.prog W 0 (fun _ => true) true m 24 ((cs.drop 0).take (Tryz.prog.cellsOf 24)) = xs[0]? := hx 0 _ rfl
  have h1 : DataW.trod enc Tryz.prog W 0 (fun _ => true) true m 3 ((cs.drop 17).take (Tryz.prog.cellsOf 3)) = xs[1]? := hx 1 _ rfl
  clear hx hn hf
  rw [hcA] at h0
  rw [hcI] at h1
  rw [List.getElem?_eq_getElem (by omega)] at h0 h1
  obtain ⟨u, l, hl, e0⟩ := open_cellsA (by simp [hsz]) h0
  obtain ⟨k, ek, _, wk⟩ := DataW.trod_int Tryz.underlying3 h1
  refine ⟨⟨u, l, k⟩, hl, ?_⟩
  · rw [List.drop_zero] at e0
    have h17 : cs.drop 17 = [.int .i64 k] := by
      rw [List.take_of_length_le (by simp [hsz])] at ek
      exact ek
    rw [← List.take_append_drop 17 cs, e0, h17]
    rfl
theorem open_net {H : Type} {enc : TypeId × Value → H} {W : World} {b0 : Nat} {v : Value} {d : DataW H} {ps : List MemPlace} (hval : Value.okWide Tryz.prog W .any b0 26 v) (hd : DataW.Trod enc Tryz.prog W 0 (fun _ => true) true 26 v d ps) :
    ∃ n : NetV, n.B.length = 16 ∧ v = .agg (ncs n) := by
  have hc : Tryz.prog.cellsOf 26 = 18 := by kernel_rfl
  obtain ⟨cs, rfl, hsz⟩ : ∃ cs : Array Value, v = .agg cs ∧ cs.size = 18 := by
    simp only [Value.okWide, Tryz.underlying26] at hval
    obtain ⟨cs, h1, h2, _⟩ := hval
    exact ⟨cs, h1, by rw [h2, hc]⟩
  obtain ⟨fuel, hf⟩ := hd
  obtain ⟨n, h1, h3⟩ := open_cellsN (cs := (Value.agg cs).cells.toList) (show cs.toList.length = 18 by simpa using hsz) hf
  refine ⟨n, h1, congrArg Value.agg ?_⟩
  have : cs.toList = nvs n := h3
  unfold ncs
  rw [← this]
end Go.Proofs.YtocdjgehjiolhaaGreatDoor
