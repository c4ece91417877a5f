
/- Slices of headers and of texts that came in, laid open. -/
import Derived.Test.YtclonnpglikddaaGreatDoorHdLine
import Derived.Deep.Slices
import Derived.ProofKit
import Derived.OpenShut
import Derived.SizedLaws
namespace Go.Proofs.YtclonnpglikddaaGreatDoor
open Go.ChangeShapes Go.WideShapes Go.ChangeAt Go.RowKit
set_option linter.unusedSimpArgs false
set_option linter.unusedVariables false
set_option maxRecDepth 100000

theorem open_cellsH {H : Type} {enc : TypeId × Value → H} {W : World} {m : Nat} {cs : List Value} {x : DataW H × List MemPlace} (hsz : cs.length = 2) (hf : DataW.trod enc Tryz.prog W 0 (fun _ => true) true m 69 cs = some x) :
    ∃ h : HdV, cs = [.string (asS h.name), .string (asS h.value)] ∧ x.1 = .agg [.lit (.string h.name), .lit (.string h.value)] := by
  have hc9 : Tryz.prog.cellsOf 9 = 1 := by kernel_rfl
  obtain ⟨xs, n, _, hx0, _, hn, hx⟩ := DataW.trod_struct Tryz.underlying69 hf
  have hn2 : xs.length = 2 := hn
  have h0 : DataW.trod enc Tryz.prog W 0 (fun _ => true) true n 9 ((cs.drop 0).take (Tryz.prog.cellsOf 9)) = xs[0]? := hx 0 _ rfl
  have h1 : DataW.trod enc Tryz.prog W 0 (fun _ => true) true n 9 ((cs.drop 1).take (Tryz.prog.cellsOf 9)) = xs[1]? := hx 1 _ rfl
  clear hx hn hf
  match xs, hn2 with
  | [y0, y1], _ =>
    match cs, hsz with
    | [c0, c1], _ =>
      rw [hc9] at h0 h1
      obtain ⟨s0, e0, d0, _⟩ := DataW.trod_string Tryz.underlying9 h0
      obtain ⟨s1, e1, d1, _⟩ := DataW.trod_string Tryz.underlying9 h1
      have q0 : c0 = .string s0 := by simpa using e0
      have q1 : c1 = .string s1 := by simpa using e1
      refine ⟨⟨s0.data.toList, s1.data.toList⟩, ?_, ?_⟩
      · simp only [asS_of]
        rw [q0, q1]
      · rw [hx0, d0, d1]; rfl
theorem choose_hd (n : Nat) (p : Nat → HdV → Prop) (h : ∀ i, i < n → ∃ v, p i v) : ∃ l : List HdV, l.length = n ∧ ∀ i, i < n → p i (l.getD i zeroH) := by
  have each : ∀ i, ∃ v : HdV, i < n → p i v := fun i => by
    by_cases hi : i < n
    · obtain ⟨v, hv⟩ := h i hi; exact ⟨v, fun _ => hv⟩
    · exact ⟨zeroH, fun h => absurd h hi⟩
  refine ⟨(List.range n).map fun i => Classical.choose (each i), by simp, fun i hi => ?_⟩
  have e : ((List.range n).map fun i => Classical.choose (each i)).getD i zeroH = Classical.choose (each i) := by simp [List.getD_eq_getElem?_getD, hi]
  rw [e]
  exact Classical.choose_spec (each i) hi
theorem spot_of {W : World} {x : Addr} {v : Value} (h3 : W.cell? x = some v) : x.spot = none ∧ x.block < W.heap.size := by
  refine ⟨?_, block_lt_of_cell h3⟩
  unfold World.cell? at h3
  split at h3
  · split at h3
    · cases h3
    · rename_i hs
      simpa using hs
  · cases h3
theorem weights_all {H : Type} {P : Program} {e : TypeId} : ∀ {l : List (DataW H)} {d : DataW H}, d ∈ l → ∀ n ∈ d.weights P e, n ∈ DataW.weightsAll P e l
  | a :: r, d, hd, n, hn => by
    simp only [DataW.weightsAll, List.mem_append]
    rcases List.mem_cons.1 hd with rfl | hd
    · exact .inl hn
    · exact .inr (weights_all hd n hn)
theorem weights_hd {H : Type} (a b : List UInt8) : a.length ∈ (DataW.agg [.lit (.string a), .lit (.string b)] : DataW H).weights Tryz.prog 69 ∧ b.length ∈ (DataW.agg [.lit (.string a), .lit (.string b)] : DataW H).weights Tryz.prog 69 := by
  obtain ⟨fs, hu, hf⟩ : ∃ fs : Array Field, Tryz.prog.underlying 69 = some (.struct fs) ∧ fs.toList.map (·.type) = [9, 9] := ⟨_, Tryz.underlying69, rfl⟩
  constructor
  · simp only [DataW.weights, hu, hf, DataW.weightsEach, List.mem_append, List.mem_cons, List.not_mem_nil, or_false, or_true, true_or]
  · simp only [DataW.weights, hu, hf, DataW.weightsEach, List.mem_append, List.mem_cons, List.not_mem_nil, or_false, or_true, true_or]
/-- A slice of headers. -/
theorem open_hds {H : Type} {enc : TypeId × Value → H} {W : World} {b0 : Nat} {v : Value} {d : DataW H} {ps : List MemPlace} (hval : Value.okWide Tryz.prog W .any b0 22 v) (hd : DataW.Trod enc Tryz.prog W 0 (fun _ => true) true 22 v d ps) :
    ∃ (l : List HdV) (A : Option Addr) (c : Nat), v = .slice A l.length c ∧ HdsAt W A l ∧ ((∀ n ∈ d.weights Tryz.prog 22, n ≤ reachBytes) → FitH l) := by
  obtain ⟨a, len, cap, rfl⟩ := okWide_slice Tryz.underlying22 hval
  obtain ⟨fuel, hf⟩ := hd
  have hc : Tryz.prog.cellsOf 69 = 2 := by kernel_rfl
  rcases Go.Deep.open_slice Tryz.underlying22 hf with ⟨hcs, _⟩ | ⟨x, l, c, m, n, D, Pl, hcs, _, hlc, _, hm, hd2, hx⟩
  · simp [Value.cells] at hcs
    obtain ⟨rfl, rfl, rfl⟩ := hcs
    exact ⟨[], none, 0, rfl, fun h => absurd h (by simp), fun _ k hk => absurd hk (by simp)⟩
  · simp [Value.cells] at hcs
    obtain ⟨rfl, rfl, rfl⟩ := hcs
    simp only [if_true] at hm
    rw [hc] at hx
    obtain ⟨L, hL, hp⟩ := choose_hd len (fun i h => W.cell? (x.add (i * 2)) = some (.string (asS h.name)) ∧ W.cell? ((x.add (i * 2)).add 1) = some (.string (asS h.value)) ∧ D i = .agg [.lit (.string h.name), .lit (.string h.value)]) (fun i hi => by
      obtain ⟨cs', h1, h2⟩ := hx i (by omega)
      obtain ⟨_, hlen, hcell⟩ := World.cells?_some h1
      obtain ⟨h, h3, h4⟩ := open_cellsH hlen h2
      refine ⟨h, ?_, ?_, h4⟩
      · have := hcell 0 (by omega)
        rw [h3] at this
        rw [show (x.add (i * 2)).add 0 = x.add (i * 2) from by simp [Addr.add]] at this
        exact this
      · have := hcell 1 (by omega)
        rw [h3] at this
        exact this)
    refine ⟨L, some x, cap, by rw [hL], fun h0 => ?_, fun hw k hk => ?_⟩
    · have hsp := spot_of (hp 0 (by omega)).1
      obtain ⟨q, o, sp⟩ := x
      have hs2 : sp = none := by simpa [Addr.add] using hsp.1
      subst hs2
      refine ⟨q, o, rfl, by simpa [Addr.add] using hsp.2, fun j hj => ?_⟩
      have := hp j (by omega)
      rw [Addr.add_mid, Addr.add_mid] at this
      exact ⟨this.1, this.2.1⟩
    · have hk2 : k < len := by omega
      have hde : D k ∈ (List.range len).map D := List.mem_map.2 ⟨k, List.mem_range.2 hk2, rfl⟩
      have hin : ∀ z ∈ (D k).weights Tryz.prog 69, z ≤ 140737488355328 := fun z hz => by
        have hdd : d = .slice ((List.range len).map D) ((List.range (m - len)).map fun j => D (len + j)) := (Prod.mk.inj hd2).1
        have : z ∈ d.weights Tryz.prog 22 := by
          rw [hdd]
          have hu := Tryz.underlying22
          simp only [DataW.weights, hu, List.mem_cons, List.mem_append]
          exact .inr (.inl (weights_all hde z hz))
        have h2 := hw z this
        have := reachBytes_lt
        omega
      have hDk := (hp k hk2).2.2
      rw [hDk] at hin
      exact ⟨hin _ (weights_hd _ _).1, hin _ (weights_hd _ _).2⟩
/-- The texts l lie behind A. -/
def StrsAt (w : World) (A : Option Addr) (l : List (List UInt8)) : Prop :=
  0 < l.length → ∃ q o, A = some ⟨q, o, none⟩ ∧ q < w.heap.size ∧ ∀ j, j < l.length → w.cell? ⟨q, o + j, none⟩ = some (.string (asS (l.getD j [])))
theorem StrsAt.below {w w' : World} {A : Option Addr} {l : List (List UInt8)} (h : StrsAt w A l) {B : Nat} (hb : Below B w w') (hB : w.heap.size ≤ B) : StrsAt w' A l := fun h0 => by
  obtain ⟨q, o, h1, h2, h3⟩ := h h0
  exact ⟨q, o, h1, Nat.lt_of_lt_of_le h2 hb.size, fun j hj => (hb.cell (p := ⟨q, o + j, none⟩) (Nat.lt_of_lt_of_le h2 hB)).trans (h3 j hj)⟩
/-- A slice of texts. -/
theorem open_strs {H : Type} {enc : TypeId × Value → H} {W : World} {b0 : Nat} {v : Value} {d : DataW H} {ps : List MemPlace} (hval : Value.okWide Tryz.prog W .any b0 75 v) (hd : DataW.Trod enc Tryz.prog W 0 (fun _ => true) true 75 v d ps) :
    ∃ (l : List (List UInt8)) (A : Option Addr) (c : Nat), v = .slice A l.length c ∧ StrsAt W A l := by
  obtain ⟨a, len, cap, rfl⟩ := okWide_slice Tryz.underlying75 hval
  obtain ⟨fuel, hf⟩ := hd
  rcases Go.Deep.open_slice1 Tryz.underlying75 (by kernel_rfl) hf with ⟨hcs, _⟩ | ⟨x, l, c, m, n, V, D, Pl, hcs, _, hlc, _, hm, hd2, hx⟩
  · simp [Value.cells] at hcs
    obtain ⟨rfl, rfl, rfl⟩ := hcs
    exact ⟨[], none, 0, rfl, fun h => absurd h (by simp)⟩
  · simp [Value.cells] at hcs
    obtain ⟨rfl, rfl, rfl⟩ := hcs
    simp only [if_true] at hm
    have each : ∀ i, ∃ s : List UInt8, i < len → W.cell? (x.add i) = some (.string (asS s)) := fun i => by
      by_cases hi : i < len
      · obtain ⟨h1, h2⟩ := hx i (by omega)
        obtain ⟨s, e, _⟩ := DataW.trod_string Tryz.underlying9 h2
        refine ⟨s.data.toList, fun _ => ?_⟩
        rw [h1, asS_of]
        have : V i = .string s := by simpa using e
        rw [this]
      · exact ⟨[], fun h => absurd h hi⟩
    refine ⟨(List.range len).map fun i => Classical.choose (each i), some x, cap, by simp, fun h0 => ?_⟩
    have h0' : 0 < len := by simpa using h0
    have hsp := spot_of (Classical.choose_spec (each 0) h0')
    obtain ⟨q, o, sp⟩ := x
    have hs2 : sp = none := by simpa [Addr.add] using hsp.1
    subst hs2
    refine ⟨q, o, rfl, by simpa [Addr.add] using hsp.2, fun j hj => ?_⟩
    have hj' : j < len := by simpa using hj
    have hcs := Classical.choose_spec (each j) hj'
    refine (show W.cell? ⟨q, o + j, none⟩ = W.cell? ((⟨q, o, none⟩ : Addr).add j) from by rw [Addr.add_mid]).trans ?_
    rw [hcs]
    simp [List.getD_eq_getElem?_getD, hj']
end Go.Proofs.YtclonnpglikddaaGreatDoor
