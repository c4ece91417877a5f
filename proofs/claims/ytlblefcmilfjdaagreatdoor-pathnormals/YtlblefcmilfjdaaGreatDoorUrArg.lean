
/- A URL, by value, laid open. -/
import Derived.Test.YtlblefcmilfjdaaGreatDoorUrUrl
import Derived.OpenShut
namespace Go.Proofs.YtlblefcmilfjdaaGreatDoor
open Go.RowKit
set_option linter.unusedSimpArgs false
set_option linter.unusedVariables false
set_option maxRecDepth 100000

theorem asS_of (s : ByteArray) : asS s.data.toList = s := by simp [asS]
theorem open_url {H : Type} {enc : TypeId × Value → H} {W : World} {b0 : Nat} {v : Value} {d : DataW H} {ps : List MemPlace} (hval : Value.okWide Tryz.prog W .any b0 26 v) (hd : DataW.Trod enc Tryz.prog W 0 (fun _ => true) true 26 v d ps) :
    ∃ u : UrlV, v = .agg (ucs u) := by
  have hc : Tryz.prog.cellsOf 26 = 12 := by kernel_rfl
  have hc9 : Tryz.prog.cellsOf 9 = 1 := by kernel_rfl
  have hc4 : Tryz.prog.cellsOf 4 = 1 := by kernel_rfl
  obtain ⟨cs, rfl, hsz⟩ : ∃ cs : Array Value, v = .agg cs ∧ cs.size = 12 := by
    simp only [Value.okWide, Tryz.underlying26] at hval
    obtain ⟨cs, h1, h2, _⟩ := hval
    exact ⟨cs, h1, by rw [h2, hc]⟩
  obtain ⟨fuel, hf⟩ := hd
  obtain ⟨xs, m, _, _, _, hn, hx⟩ := DataW.trod_struct Tryz.underlying26 hf
  have hn3 : xs.length = 12 := hn
  have h0 : DataW.trod enc Tryz.prog W 0 (fun _ => true) true m 9 (((Value.agg cs).cells.toList.drop 0).take (Tryz.prog.cellsOf 9)) = xs[0]? := hx 0 _ rfl
  have h1 : DataW.trod enc Tryz.prog W 0 (fun _ => true) true m 9 (((Value.agg cs).cells.toList.drop 1).take (Tryz.prog.cellsOf 9)) = xs[1]? := hx 1 _ rfl
  have h2 : DataW.trod enc Tryz.prog W 0 (fun _ => true) true m 4 (((Value.agg cs).cells.toList.drop 2).take (Tryz.prog.cellsOf 4)) = xs[2]? := hx 2 _ rfl
  have h3 : DataW.trod enc Tryz.prog W 0 (fun _ => true) true m 9 (((Value.agg cs).cells.toList.drop 3).take (Tryz.prog.cellsOf 9)) = xs[3]? := hx 3 _ rfl
  have h4 : DataW.trod enc Tryz.prog W 0 (fun _ => true) true m 9 (((Value.agg cs).cells.toList.drop 4).take (Tryz.prog.cellsOf 9)) = xs[4]? := hx 4 _ rfl
  have h5 : DataW.trod enc Tryz.prog W 0 (fun _ => true) true m 4 (((Value.agg cs).cells.toList.drop 5).take (Tryz.prog.cellsOf 4)) = xs[5]? := hx 5 _ rfl
  have h6 : DataW.trod enc Tryz.prog W 0 (fun _ => true) true m 4 (((Value.agg cs).cells.toList.drop 6).take (Tryz.prog.cellsOf 4)) = xs[6]? := hx 6 _ rfl
  have h7 : DataW.trod enc Tryz.prog W 0 (fun _ => true) true m 9 (((Value.agg cs).cells.toList.drop 7).take (Tryz.prog.cellsOf 9)) = xs[7]? := hx 7 _ rfl
  have h8 : DataW.trod enc Tryz.prog W 0 (fun _ => true) true m 9 (((Value.agg cs).cells.toList.drop 8).take (Tryz.prog.cellsOf 9)) = xs[8]? := hx 8 _ rfl
  have h9 : DataW.trod enc Tryz.prog W 0 (fun _ => true) true m 4 (((Value.agg cs).cells.toList.drop 9).take (Tryz.prog.cellsOf 4)) = xs[9]? := hx 9 _ rfl
  have h10 : DataW.trod enc Tryz.prog W 0 (fun _ => true) true m 9 (((Value.agg cs).cells.toList.drop 10).take (Tryz.prog.cellsOf 9)) = xs[10]? := hx 10 _ rfl
  have h11 : DataW.trod enc Tryz.prog W 0 (fun _ => true) true m 4 (((Value.agg cs).cells.toList.drop 11).take (Tryz.prog.cellsOf 4)) = xs[11]? := hx 11 _ rfl
  clear hx hn hf
  rw [hc9, List.getElem?_eq_getElem (by omega)] at h0
  rw [hc9, List.getElem?_eq_getElem (by omega)] at h1
  rw [hc4, List.getElem?_eq_getElem (by omega)] at h2
  rw [hc9, List.getElem?_eq_getElem (by omega)] at h3
  rw [hc9, List.getElem?_eq_getElem (by omega)] at h4
  rw [hc4, List.getElem?_eq_getElem (by omega)] at h5
  rw [hc4, List.getElem?_eq_getElem (by omega)] at h6
  rw [hc9, List.getElem?_eq_getElem (by omega)] at h7
  rw [hc9, List.getElem?_eq_getElem (by omega)] at h8
  rw [hc4, List.getElem?_eq_getElem (by omega)] at h9
  rw [hc9, List.getElem?_eq_getElem (by omega)] at h10
  rw [hc4, List.getElem?_eq_getElem (by omega)] at h11
  have hcl : (Value.agg cs).cells.toList = cs.toList := rfl
  have one : ∀ (k : Nat) (hk : k < cs.size) (u : Value), ((cs.toList.drop k).take 1) = [u] → cs[k] = u := fun k hk u h => by
    rw [List.drop_eq_getElem_cons (by simpa using hk)] at h
    simpa using h
  obtain ⟨s0, e0, _⟩ := DataW.trod_string Tryz.underlying9 h0
  rw [hcl] at e0
  have f0 := one 0 (by omega) _ e0
  obtain ⟨s1, e1, _⟩ := DataW.trod_string Tryz.underlying9 h1
  rw [hcl] at e1
  have f1 := one 1 (by omega) _ e1
  obtain ⟨s2, e2, _⟩ := DataW.trod_bool Tryz.underlying4 h2
  rw [hcl] at e2
  have f2 := one 2 (by omega) _ e2
  obtain ⟨s3, e3, _⟩ := DataW.trod_string Tryz.underlying9 h3
  rw [hcl] at e3
  have f3 := one 3 (by omega) _ e3
  obtain ⟨s4, e4, _⟩ := DataW.trod_string Tryz.underlying9 h4
  rw [hcl] at e4
  have f4 := one 4 (by omega) _ e4
  obtain ⟨s5, e5, _⟩ := DataW.trod_bool Tryz.underlying4 h5
  rw [hcl] at e5
  have f5 := one 5 (by omega) _ e5
  obtain ⟨s6, e6, _⟩ := DataW.trod_bool Tryz.underlying4 h6
  rw [hcl] at e6
  have f6 := one 6 (by omega) _ e6
  obtain ⟨s7, e7, _⟩ := DataW.trod_string Tryz.underlying9 h7
  rw [hcl] at e7
  have f7 := one 7 (by omega) _ e7
  obtain ⟨s8, e8, _⟩ := DataW.trod_string Tryz.underlying9 h8
  rw [hcl] at e8
  have f8 := one 8 (by omega) _ e8
  obtain ⟨s9, e9, _⟩ := DataW.trod_bool Tryz.underlying4 h9
  rw [hcl] at e9
  have f9 := one 9 (by omega) _ e9
  obtain ⟨s10, e10, _⟩ := DataW.trod_string Tryz.underlying9 h10
  rw [hcl] at e10
  have f10 := one 10 (by omega) _ e10
  obtain ⟨s11, e11, _⟩ := DataW.trod_bool Tryz.underlying4 h11
  rw [hcl] at e11
  have f11 := one 11 (by omega) _ e11
  refine ⟨⟨s0.data.toList, s1.data.toList, s2, s3.data.toList, s4.data.toList, s5, s6, s7.data.toList, s8.data.toList, s9, s10.data.toList, s11⟩, congrArg Value.agg ?_⟩
  apply Array.ext_getElem?
  intro i
  unfold ucs uvs
  refine Eq.trans ?_ List.getElem?_toArray.symm
  simp only [asS_of]
  have hb : ∀ k, k < 12 → k < cs.size := fun k hk => by rw [hsz]; exact hk
  match i with
  | 0 => exact (Array.getElem?_eq_getElem (hb 0 (by decide))).trans (congrArg some f0)
  | 1 => exact (Array.getElem?_eq_getElem (hb 1 (by decide))).trans (congrArg some f1)
  | 2 => exact (Array.getElem?_eq_getElem (hb 2 (by decide))).trans (congrArg some f2)
  | 3 => exact (Array.getElem?_eq_getElem (hb 3 (by decide))).trans (congrArg some f3)
  | 4 => exact (Array.getElem?_eq_getElem (hb 4 (by decide))).trans (congrArg some f4)
  | 5 => exact (Array.getElem?_eq_getElem (hb 5 (by decide))).trans (congrArg some f5)
  | 6 => exact (Array.getElem?_eq_getElem (hb 6 (by decide))).trans (congrArg some f6)
  | 7 => exact (Array.getElem?_eq_getElem (hb 7 (by decide))).trans (congrArg some f7)
  | 8 => exact (Array.getElem?_eq_getElem (hb 8 (by decide))).trans (congrArg some f8)
  | 9 => exact (Array.getElem?_eq_getElem (hb 9 (by decide))).trans (congrArg some f9)
  | 10 => exact (Array.getElem?_eq_getElem (hb 10 (by decide))).trans (congrArg some f10)
  | 11 => exact (Array.getElem?_eq_getElem (hb 11 (by decide))).trans (congrArg some f11)
  | n + 12 => rw [Array.getElem?_eq_none (by rw [hsz]; omega), List.getElem?_eq_none (by simp)]
end Go.Proofs.YtlblefcmilfjdaaGreatDoor
