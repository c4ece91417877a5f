
/- What is sealed (a nonce, a label, bytes), by value, laid open. -/
import Derived.Test.YtggbianodoneeaaDoorStrs
import Derived.OpenShut
namespace Go.Proofs.YtggbianodoneeaaDoor
open Go.RowKit
set_option linter.unusedSimpArgs false
set_option linter.unusedVariables false

/-- The cells of a nonce, a label and bytes. -/
def inC (nonce : List UInt8) (s : ByteArray) (v : Value) : Array Value := (bvs nonce ++ [.string s, v]).toArray
theorem inC_size (nonce : List UInt8) (hn : nonce.length = 16) (s : ByteArray) (v : Value) : (inC nonce s v).size = 18 := by
  simp [inC, bvs_len, hn]
theorem open_in4 {H : Type} {enc : TypeId × Value → H} {W : World} {b0 : Nat} {v : Value} {d : DataW H} {ps : List MemPlace} (hval : Value.okWide Tryd.prog W .any b0 40 v) (hd : DataW.Trod enc Tryd.prog W 0 (fun _ => true) true 40 v d ps) :
    ∃ (l : List UInt8) (s : ByteArray) (a : Option Addr) (len cap : Nat) (zs : List Int), l.length = 16 ∧ s.size ≤ maxLen ∧ IsRow .u8 W a len cap zs ∧ v = .agg (inC l s (.slice a len cap)) := by
  have hc : Tryd.prog.cellsOf 40 = 18 := by kernel_rfl
  have hc38 : Tryd.prog.cellsOf 38 = 16 := by kernel_rfl
  have hc9 : Tryd.prog.cellsOf 9 = 1 := by kernel_rfl
  have hc31 : Tryd.prog.cellsOf 31 = 1 := by kernel_rfl
  obtain ⟨cs, rfl, hsz⟩ : ∃ cs : Array Value, v = .agg cs ∧ cs.size = 18 := by
    simp only [Value.okWide, Tryd.underlying40] at hval
    obtain ⟨cs, h1, h2, _⟩ := hval
    exact ⟨cs, h1, by rw [h2, hc]⟩
  obtain ⟨fuel, hf⟩ := hd
  obtain ⟨xs, m, _, _, _, hn, hx⟩ := DataW.trod_struct Tryd.underlying40 hf
  have hn3 : xs.length = 3 := hn
  have h0 : DataW.trod enc Tryd.prog W 0 (fun _ => true) true m 38 (((Value.agg cs).cells.toList.drop 0).take (Tryd.prog.cellsOf 38)) = xs[0]? := hx 0 _ rfl
  have h1 : DataW.trod enc Tryd.prog W 0 (fun _ => true) true m 9 (((Value.agg cs).cells.toList.drop 16).take (Tryd.prog.cellsOf 9)) = xs[1]? := hx 1 _ rfl
  have h2 : DataW.trod enc Tryd.prog W 0 (fun _ => true) true m 31 (((Value.agg cs).cells.toList.drop 17).take (Tryd.prog.cellsOf 31)) = xs[2]? := hx 2 _ rfl
  clear hx hn hf
  rw [hc38] at h0
  rw [hc9] at h1
  rw [hc31] at h2
  rw [List.getElem?_eq_getElem (by omega)] at h0 h1 h2
  -- the bytes
  obtain ⟨a, len, cap, zs, e2, w2⟩ : ∃ a len cap zs, ((Value.agg cs).cells.toList.drop 17).take 1 = [.slice a len cap] ∧ IsRow .u8 W a len cap zs := by
    rcases Go.ChangeShapes.open_ints Tryd.underlying31 Tryd.underlying5 (by kernel_rfl) h2 with ⟨hcs, _⟩ | ⟨x, l, c, zs, hcs, _, hl, hm, hz, _, hcell, hwz⟩
    · exact ⟨none, 0, 0, [], hcs, .inl ⟨rfl, rfl, rfl, rfl⟩⟩
    · exact ⟨some x, l, c, zs, hcs, .inr ⟨_, rfl, hl, hm, by simpa using hz, hcell, hwz⟩⟩
  -- the label
  obtain ⟨s, e1, _, hs⟩ := DataW.trod_string Tryd.underlying9 h1
  -- the nonce
  obtain ⟨ys, m2, _, _, _, hn2, hy⟩ := DataW.trod_array Tryd.underlying38 h0
  have hcl : (Value.agg cs).cells.toList = cs.toList := rfl
  rw [hcl] at e1 e2 hy
  have each : ∀ i, ∃ c : UInt8, i < 16 → cs[i]? = some (.int .u8 c.toNat) := fun i => by
    by_cases hi : i < 16
    · have h := hy i hi
      rw [cellsOf5, Nat.mul_one, List.getElem?_eq_getElem (by omega)] at h
      obtain ⟨a, ea, _, wa⟩ := DataW.trod_int Tryd.underlying5 h
      have hb := bounds_u8 wa
      refine ⟨UInt8.ofNat a.toNat, fun _ => ?_⟩
      have h1 : i < cs.size := by omega
      have e3 : ((((cs.toList.drop 0).take 16).drop i).take 1) = [cs[i]] := by
        rw [List.drop_zero, List.drop_take, List.take_take, Nat.min_eq_left (by omega), List.drop_eq_getElem_cons (by simpa using h1)]
        simp
      rw [e3] at ea
      have e4 : cs[i] = .int .u8 a := by simpa using ea
      rw [Array.getElem?_eq_getElem h1, e4, UInt8.toNat_ofNat']
      congr 2
      omega
    · exact ⟨0, fun h => absurd h hi⟩
  have one : ∀ (k : Nat) (hk : k < cs.size) (u : Value), ((cs.toList.drop k).take 1) = [u] → cs[k] = u := fun k hk u h => by
    rw [List.drop_eq_getElem_cons (by simpa using hk)] at h
    simpa using h
  have f16 := one 16 (by omega) _ e1
  have f17 := one 17 (by omega) _ e2
  refine ⟨(List.range 16).map fun i => Classical.choose (each i), s, a, len, cap, zs, by simp, hs, w2, ?_⟩
  congr 1
  apply Array.ext_getElem?
  intro i
  have hR : ∀ L : List Value, L.toArray[i]? = L[i]? := fun L => List.getElem?_toArray
  unfold inC
  refine Eq.trans ?_ (hR _).symm
  by_cases hi : i < 16
  · rw [Classical.choose_spec (each i) hi, List.getElem?_append_left (by simp [bvs]; omega)]
    simp [bvs, hi]
  · rw [List.getElem?_append_right (by simp [bvs]; omega)]
    by_cases h6 : i = 16
    · subst h6
      rw [Array.getElem?_eq_getElem (by omega), f16]
      simp [bvs]
    · by_cases h7 : i = 17
      · subst h7
        rw [Array.getElem?_eq_getElem (by omega), f17]
        simp [bvs]
      · rw [Array.getElem?_eq_none (by omega), List.getElem?_eq_none (by simp [bvs]; omega)]

end Go.Proofs.YtggbianodoneeaaDoor
