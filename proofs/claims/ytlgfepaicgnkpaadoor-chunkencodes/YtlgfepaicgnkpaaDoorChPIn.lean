
/- Pieces that came in, laid open. -/
import Derived.Test.YtlgfepaicgnkpaaDoorChEnc
import Derived.Deep.Matrix
import Derived.ProofKit
import Derived.OpenShut
import Derived.SizedLaws
namespace Go.Proofs.YtlgfepaicgnkpaaDoor
open Go.ChangeShapes Go.WideShapes Go.ChangeAt Go.RowKit
set_option linter.unusedVariables false
set_option linter.unusedSimpArgs false
set_option maxRecDepth 100000

theorem rows_pieces {w : World} {a : Addr} {base len : Nat} {A : Nat → Option Addr} {L C : Nat → Nat} {Z : Nat → List Int} (h0 : 0 < w.heap.size) (hC : ∀ r, r < len → C r ≤ 281474976710656)
    (hrow : ∀ r, r < len → w.cell? (a.add r) = some (.slice (A r) (L r) (C r)) ∧ L r ≤ C r ∧ C r ≤ maxLen ∧ (Z r).length = C r ∧ (∀ n ∈ Z r, (Lit.int .u8 n).wf = true) ∧ (A r = none → C r = 0) ∧
        ∀ a', A r = some a' → base ≤ a'.block ∧ ∀ c, c < C r → w.cell? (a'.add c) = some (.int .u8 ((Z r).getD c 0))) : ∃ l : List (List UInt8), l.length = len ∧ PcsAt w (some a) l := by
  have each : ∀ r, ∃ l : List UInt8, r < len → l.length = L r ∧ L r ≤ C r ∧ BytesAt w (A r) l := fun r => by
    by_cases hr : r < len
    · obtain ⟨_, h2, h3, h4, h5, h6, h7⟩ := hrow r hr
      have hrw : IsRow .u8 w (A r) (L r) (C r) (Z r) := by
        cases hA : A r with
        | none =>
          have hc := h6 hA
          exact .inl ⟨rfl, by omega, hc, List.length_eq_zero_iff.1 (by omega)⟩
        | some x => exact .inr ⟨x, rfl, h2, h3, h4, fun i hi => (h7 x hA).2 i (by omega), h5⟩
      obtain ⟨l, e1, e2, e3⟩ := row_at hrw h0
      exact ⟨l, fun _ => ⟨e1, e2, e3⟩⟩
    · exact ⟨[], fun h => absurd h hr⟩
  refine ⟨(List.range len).map fun r => Classical.choose (each r), by simp, fun hp => ?_⟩
  rw [List.length_map, List.length_range] at hp
  have hc0 := (hrow 0 (by omega)).1
  have hx0 : a.add 0 = a := by unfold Addr.add; simp
  rw [hx0] at hc0
  obtain ⟨q, o, sp⟩ := a
  obtain rfl := cell_spot hc0
  refine ⟨q, o, rfl, block_lt_of_cell hc0, fun i hi => ?_⟩
  rw [List.length_map, List.length_range] at hi
  have e : ((List.range len).map fun r => Classical.choose (each r)).getD i [] = Classical.choose (each i) := by simp [List.getD_eq_getElem?_getD, hi]
  rw [e]
  obtain ⟨h1, h2, h3, _⟩ := hrow i (by omega)
  obtain ⟨e1, e2, e3⟩ := Classical.choose_spec (each i) (by omega)
  rw [Addr.add_mid] at h1
  have h5 := hC i hi
  exact ⟨A i, C i, by rw [e1]; exact h1, e3, by rw [e1]; exact e2, by rw [e1]; omega⟩
theorem weights_in {H : Type} {P : Program} {e : TypeId} : ∀ {l : List (DataW H)} {d : DataW H}, d ∈ l → ∀ n ∈ d.weights P e, n ∈ DataW.weightsAll P e l
  | a :: r, d, hd, n, hn => by
    simp only [DataW.weightsAll, List.mem_append]
    rcases List.mem_cons.1 hd with rfl | hd
    · exact .inl hn
    · exact .inr (weights_in hd n hn)
theorem bytes5 : Tryd.prog.bytesOf 5 = 1 := by kernel_rfl
theorem bytes23 : Tryd.prog.bytesOf 23 = 24 := by kernel_rfl
theorem row_weight {H : Type} (a : Addr) (L : Nat) (zs : List Int) : zs.length ∈ (Deep.intRow .u8 (some a) L zs : DataW H).weights Tryd.prog 23 := by
  have hu := Tryd.underlying23
  simp only [Deep.intRow, DataW.weights, hu, List.mem_cons, bytes5, Nat.mul_one]
  refine .inl ?_
  simp only [lits, List.length_map, List.length_take, List.length_drop]
  omega
/-- A slice of slices of bytes. -/
theorem open_pcs {H : Type} {enc : TypeId × Value → H} {W : World} {b0 : Nat} {v : Value} {d : DataW H} {ps : List MemPlace} (h0 : 0 < W.heap.size) (hval : Value.okWide Tryd.prog W .any b0 22 v) (hd : DataW.Trod enc Tryd.prog W 0 (fun _ => true) true 22 v d ps) (hw : ∀ n ∈ d.weights Tryd.prog 22, n ≤ reachBytes) :
    ∃ (l : List (List UInt8)) (A : Option Addr) (c : Nat), v = .slice A l.length c ∧ l.length ≤ 281474976710656 ∧ PcsAt W A l := by
  obtain ⟨a, len, cap, rfl⟩ := okWide_slice Tryd.underlying22 hval
  obtain ⟨fuel, hf⟩ := hd
  have hrb := reachBytes_lt
  rcases Deep.open_int_rows Tryd.underlying22 Tryd.underlying23 Tryd.underlying5 (by kernel_rfl) (by kernel_rfl) hf with ⟨hcs, _⟩ | ⟨x, l, c, A, L, C, Z, hcs, _, hl, hm, hd2, hrow⟩
  · simp [Value.cells] at hcs
    obtain ⟨rfl, rfl, rfl⟩ := hcs
    exact ⟨[], none, 0, rfl, Nat.zero_le _, fun h => absurd h (by simp)⟩
  · simp [Value.cells] at hcs
    obtain ⟨rfl, rfl, rfl⟩ := hcs
    have hdd := (Prod.mk.inj hd2).1
    have hu := Tryd.underlying22
    have hlen : len ≤ 281474976710656 := by
      have : (len + (cap - len)) * 24 ∈ d.weights Tryd.prog 22 := by
        rw [hdd]
        simp only [DataW.weights, hu, List.mem_cons, bytes23]
        exact .inl (by simp)
      have := hw _ this
      omega
    have hC : ∀ r, r < len → C r ≤ 281474976710656 := fun r hr => by
      obtain ⟨_, _, _, h4, _, h6, _⟩ := hrow r (by omega)
      cases hA : A r with
      | none => have := h6 hA; omega
      | some y =>
        have h7 : (Z r).length ∈ d.weights Tryd.prog 22 := by
          rw [hdd]
          simp only [DataW.weights, hu, List.mem_cons, List.mem_append]
          refine .inr (.inl (weights_in (d := Deep.intRow .u8 (A r) (L r) (Z r)) (List.mem_map.2 ⟨r, List.mem_range.2 hr, rfl⟩) _ ?_))
          rw [hA]
          exact row_weight y (L r) (Z r)
        have := hw _ h7
        omega
    obtain ⟨l, hl2, hP⟩ := rows_pieces h0 hC (fun r hr => hrow r (by omega))
    exact ⟨l, some x, cap, by rw [hl2], by omega, hP⟩
end Go.Proofs.YtlgfepaicgnkpaaDoor
