
/- A node that came in, laid open. -/
import Derived.Test.YthjibliaofmlhaaGreatDoorXmWt
import Derived.Deep.Slices
import Derived.ProofKit
import Derived.OpenShut
import Derived.SizedLaws
namespace Go.Proofs.YthjibliaofmlhaaGreatDoor
open Go.ChangeShapes Go.WideShapes Go.ChangeAt Go.RowKit
set_option linter.unusedSimpArgs false
set_option linter.unusedVariables false
set_option maxRecDepth 100000

theorem open_cellsH {H : Type} {enc : TypeId × Value → H} {W : World} {m : Nat} {cs : List Value} {x : DataW H × List MemPlace} (hsz : cs.length = 2) (hf : DataW.trod enc Tryz.prog W 0 (fun _ => true) true m 59 cs = some x) :
    ∃ h : HdV, cs = [.string (asS h.name), .string (asS h.value)] ∧ x.1 = .agg [.lit (.string h.name), .lit (.string h.value)] := by
  have hc9 : Tryz.prog.cellsOf 9 = 1 := by kernel_rfl
  obtain ⟨xs, n, _, hx0, _, hn, hx⟩ := DataW.trod_struct Tryz.underlying59 hf
  have hn2 : xs.length = 2 := hn
  have h0 : DataW.trod enc Tryz.prog W 0 (fun _ => true) true n 9 ((cs.drop 0).take (Tryz.prog.cellsOf 9)) = xs[0]? := hx 0 _ rfl
  have h1 : DataW.trod enc Tryz.prog W 0 (fun _ => true) true n 9 ((cs.drop 1).take (Tryz.prog.cellsOf 9)) = xs[1]? := hx 1 _ rfl
  clear hx hn hf
  match xs, hn2 with
  | [y0, y1], _ =>
    match cs, hsz with
    | [c0, c1], _ =>
      rw [hc9] at h0 h1
      obtain ⟨s0, e0, d0, _⟩ := DataW.trod_string Tryz.underlying9 h0
      obtain ⟨s1, e1, d1, _⟩ := DataW.trod_string Tryz.underlying9 h1
      have q0 : c0 = .string s0 := by simpa using e0
      have q1 : c1 = .string s1 := by simpa using e1
      refine ⟨⟨s0.data.toList, s1.data.toList⟩, ?_, ?_⟩
      · simp only [asS_back]
        rw [q0, q1]
      · rw [hx0, d0, d1]; rfl
theorem spot_of {W : World} {x : Addr} {v : Value} (h3 : W.cell? x = some v) : x.spot = none ∧ x.block < W.heap.size := by
  refine ⟨?_, block_lt_of_cell h3⟩
  unfold World.cell? at h3
  split at h3
  · split at h3
    · cases h3
    · rename_i hs
      simpa using hs
  · cases h3
theorem weights_all {H : Type} {P : Program} {e : TypeId} : ∀ {l : List (DataW H)} {d : DataW H}, d ∈ l → ∀ n ∈ d.weights P e, n ∈ DataW.weightsAll P e l
  | a :: r, d, hd, n, hn => by
    simp only [DataW.weightsAll, List.mem_append]
    rcases List.mem_cons.1 hd with rfl | hd
    · exact .inl hn
    · exact .inr (weights_all hd n hn)
theorem weights_hd {H : Type} (a b : List UInt8) : a.length ∈ (DataW.agg [.lit (.string a), .lit (.string b)] : DataW H).weights Tryz.prog 59 ∧ b.length ∈ (DataW.agg [.lit (.string a), .lit (.string b)] : DataW H).weights Tryz.prog 59 := by
  obtain ⟨fs, hu, hf⟩ : ∃ fs : Array Field, Tryz.prog.underlying 59 = some (.struct fs) ∧ fs.toList.map (·.type) = [9, 9] := ⟨_, Tryz.underlying59, rfl⟩
  constructor
  · simp only [DataW.weights, hu, hf, DataW.weightsEach, List.mem_append, List.mem_cons, List.not_mem_nil, or_false, or_true, true_or]
  · simp only [DataW.weights, hu, hf, DataW.weightsEach, List.mem_append, List.mem_cons, List.not_mem_nil, or_false, or_true, true_or]
theorem choose_at {α : Type} (z : α) (n : Nat) (p : Nat → α → Prop) (h : ∀ i, i < n → ∃ v, p i v) : ∃ l : List α, l.length = n ∧ ∀ i, i < n → p i (l.getD i z) := by
  have each : ∀ i, ∃ v : α, i < n → p i v := fun i => by
    by_cases hi : i < n
    · obtain ⟨v, hv⟩ := h i hi; exact ⟨v, fun _ => hv⟩
    · exact ⟨z, fun h => absurd h hi⟩
  refine ⟨(List.range n).map fun i => Classical.choose (each i), by simp, fun i hi => ?_⟩
  have e : ((List.range n).map fun i => Classical.choose (each i)).getD i z = Classical.choose (each i) := by simp [List.getD_eq_getElem?_getD, hi]
  rw [e]
  exact Classical.choose_spec (each i) hi
/-- No text of a tree is longer than so many bytes. -/
def TopS (N : Nat) (l : Lab) : Prop := l.1.length ≤ N ∧ l.2.2.length ≤ N ∧ ∀ h ∈ l.2.1, h.name.length ≤ N ∧ h.value.length ≤ N
def StrB (N : Nat) : (d : Nat) → Tr d → Prop
  | 0, t => TopS N t
  | d + 1, t => TopS N t.1 ∧ ∀ k ∈ t.2, StrB N d k
theorem mem_getD {α : Type} (z : α) {l : List α} {x : α} (h : x ∈ l) : ∃ i, i < l.length ∧ x = l.getD i z := by
  obtain ⟨i, hi, rfl⟩ := List.getElem_of_mem h
  exact ⟨i, hi, by rw [List.getD_eq_getElem?_getD, List.getElem?_eq_getElem hi]; rfl⟩
theorem slice_weights {H : Type} {t e : TypeId} (hu : Tryz.prog.underlying t = some (.slice e)) {xs ys : List (DataW H)} {d : DataW H} (hd : d ∈ xs) {n : Nat} (hn : n ∈ d.weights Tryz.prog e) : n ∈ (DataW.slice xs ys : DataW H).weights Tryz.prog t := by
  simp only [DataW.weights, hu, List.mem_cons, List.mem_append]
  exact .inr (.inl (weights_all hd n hn))
theorem open_atts {H : Type} {enc : TypeId × Value → H} {W : World} {m : Nat} {c : Value} {x : DataW H × List MemPlace} (hf : DataW.trod enc Tryz.prog W 0 (fun _ => true) true m 22 [c] = some x) :
    ∃ (l : List HdV) (A : Option Addr) (k : Nat), c = .slice A l.length k ∧ HdsP (fun q => q < W.heap.size) W A l ∧ ((∀ n ∈ x.1.weights Tryz.prog 22, n ≤ 140737488355328) → ∀ h ∈ l, h.name.length ≤ 140737488355328 ∧ h.value.length ≤ 140737488355328) := by
  have hc : Tryz.prog.cellsOf 59 = 2 := by kernel_rfl
  rcases DataW.trod_slice Tryz.underlying22 hf with ⟨hcs, _⟩ | ⟨a, len, cap, elems, rest, n, _, hcs, hx, _, hlc, _, hel, hat, _, _⟩
  · simp at hcs
    subst hcs
    exact ⟨[], none, 0, rfl, ⟨fun h => absurd h (by simp), fun h => absurd h (by simp)⟩, fun _ h hh => by cases hh⟩
  · simp at hcs
    subst hcs
    rw [hc] at hat
    obtain ⟨L, hL, hp⟩ := choose_at zeroH len (fun i h => W.cell? (a.add (i * 2)) = some (.string (asS h.name)) ∧ W.cell? ((a.add (i * 2)).add 1) = some (.string (asS h.value)) ∧ DataW.agg [.lit (.string h.name), .lit (.string h.value)] ∈ elems.map (·.1)) (fun i hi => by
      have h1 := hat i hi
      have hie : i < elems.length := by omega
      rw [List.getElem?_eq_getElem hie] at h1
      obtain ⟨cs', h1, h2⟩ := Option.bind_eq_some_iff.1 h1
      obtain ⟨_, hlen, hcell⟩ := World.cells?_some h1
      obtain ⟨h, h3, h4⟩ := open_cellsH hlen h2
      refine ⟨h, ?_, ?_, ?_⟩
      · have := hcell 0 (by omega)
        rw [h3] at this
        rw [show (a.add (i * 2)).add 0 = a.add (i * 2) from by simp [Addr.add]] at this
        exact this
      · have := hcell 1 (by omega)
        rw [h3] at this
        exact this
      · rw [← h4]
        exact List.mem_map.2 ⟨_, List.getElem_mem hie, rfl⟩)
    refine ⟨L, some a, cap, by rw [hL], ⟨fun h0 => ?_, fun h0 y hy => ?_⟩, fun hw h hh => ?_⟩
    · have hsp := spot_of (hp 0 (by omega)).1
      obtain ⟨q, o, sp⟩ := a
      have hs2 : sp = none := by simpa [Addr.add] using hsp.1
      subst hs2
      refine ⟨q, o, rfl, by simpa [Addr.add] using hsp.2, fun j hj => ?_⟩
      have := hp j (by omega)
      rw [Addr.add_mid, Addr.add_mid] at this
      exact ⟨this.1, this.2.1⟩
    · have hsp := spot_of (hp 0 (by omega)).1
      cases hy
      simpa [Addr.add] using hsp.2
    · obtain ⟨i, hi, rfl⟩ := mem_getD zeroH hh
      have hDk := (hp i (by omega)).2.2
      have h2 := weights_hd (H := H) (L.getD i zeroH).name (L.getD i zeroH).value
      rw [hx] at hw
      exact ⟨hw _ (slice_weights Tryz.underlying22 hDk h2.1), hw _ (slice_weights Tryz.underlying22 hDk h2.2)⟩
theorem weights_nd {H : Type} (d0 d1 d2 d3 : DataW H) (n : Nat) (h : n ∈ d0.weights Tryz.prog 9 ∨ n ∈ d1.weights Tryz.prog 22 ∨ n ∈ d2.weights Tryz.prog 9 ∨ n ∈ d3.weights Tryz.prog 23) : n ∈ (DataW.agg [d0, d1, d2, d3] : DataW H).weights Tryz.prog 25 := by
  obtain ⟨fs, hu, hf⟩ : ∃ fs : Array Field, Tryz.prog.underlying 25 = some (.struct fs) ∧ fs.toList.map (·.type) = [9, 22, 9, 23] := ⟨_, Tryz.underlying25, rfl⟩
  simp only [DataW.weights, hu, hf, DataW.weightsEach, List.mem_append]
  rcases h with h | h | h | h
  · exact .inl h
  · exact .inr (.inl h)
  · exact .inr (.inr (.inl h))
  · exact .inr (.inr (.inr (.inl h)))
theorem open_nd {H : Type} {enc : TypeId × Value → H} {W : World} : ∀ (D fuel : Nat) (cs : List Value) (x : DataW H × List MemPlace), fuel ≤ D + 1 → cs.length = 4 → DataW.trod enc Tryz.prog W 0 (fun _ => true) true fuel 25 cs = some x →
    ∃ t : Tr D, NdAt (fun q => q < W.heap.size) D W cs.toArray t ∧ ((∀ n ∈ x.1.weights Tryz.prog 25, n ≤ 140737488355328) → StrB 140737488355328 D t) := by
  intro D
  induction D with
  | zero =>
    intro fuel cs x hfu hlen hf
    obtain ⟨xs, n, he, _, _, hn, hx⟩ := DataW.trod_struct Tryz.underlying25 hf
    have h0 : DataW.trod enc Tryz.prog W 0 (fun _ => true) true n 9 ((cs.drop 0).take (Tryz.prog.cellsOf 9)) = xs[0]? := hx 0 _ rfl
    obtain rfl : n = 0 := by omega
    have hn4 : xs.length = 4 := hn
    rw [List.getElem?_eq_getElem (by omega)] at h0
    simp [DataW.trod] at h0
  | succ D ih =>
    intro fuel cs x hfu hlen hf
    have hc9 : Tryz.prog.cellsOf 9 = 1 := by kernel_rfl
    have hca : Tryz.prog.cellsOf 22 = 1 := by kernel_rfl
    have hck : Tryz.prog.cellsOf 23 = 1 := by kernel_rfl
    have hc : Tryz.prog.cellsOf 25 = 4 := by kernel_rfl
    obtain ⟨xs, n, he, hx0, _, hn, hx⟩ := DataW.trod_struct Tryz.underlying25 hf
    have hn4 : xs.length = 4 := hn
    have h0 : DataW.trod enc Tryz.prog W 0 (fun _ => true) true n 9 ((cs.drop 0).take (Tryz.prog.cellsOf 9)) = xs[0]? := hx 0 _ rfl
    have h1 : DataW.trod enc Tryz.prog W 0 (fun _ => true) true n 22 ((cs.drop 1).take (Tryz.prog.cellsOf 22)) = xs[1]? := hx 1 _ rfl
    have h2 : DataW.trod enc Tryz.prog W 0 (fun _ => true) true n 9 ((cs.drop 2).take (Tryz.prog.cellsOf 9)) = xs[2]? := hx 2 _ rfl
    have h3 : DataW.trod enc Tryz.prog W 0 (fun _ => true) true n 23 ((cs.drop 3).take (Tryz.prog.cellsOf 23)) = xs[3]? := hx 3 _ rfl
    clear hx hf
    match xs, hn4 with
    | [y0, y1, y2, y3], _ =>
      match cs, hlen with
      | [c0, c1, c2, c3], _ =>
        rw [hc9] at h0 h2
        rw [hca] at h1
        rw [hck] at h3
        obtain ⟨s0, e0, d0, _⟩ := DataW.trod_string Tryz.underlying9 h0
        obtain ⟨s2, e2, d2, _⟩ := DataW.trod_string Tryz.underlying9 h2
        have q0 : c0 = .string s0 := by simpa using e0
        have q2 : c2 = .string s2 := by simpa using e2
        subst q0 q2
        have h1' : DataW.trod enc Tryz.prog W 0 (fun _ => true) true n 22 [c1] = some y1 := h1
        have h3' : DataW.trod enc Tryz.prog W 0 (fun _ => true) true n 23 [c3] = some y3 := h3
        obtain ⟨al, aA, ac, rfl, hat, haw⟩ := open_atts h1'
        have hWT : (∀ n ∈ x.1.weights Tryz.prog 25, n ≤ 140737488355328) → TopS 140737488355328 (s0.data.toList, al, s2.data.toList) ∧ ∀ n ∈ y3.1.weights Tryz.prog 23, n ≤ 140737488355328 := fun hw => by
          rw [hx0] at hw
          have hw2 : ∀ n, _ → n ≤ 140737488355328 := fun n h => hw n (weights_nd y0.1 y1.1 y2.1 y3.1 n h)
          refine ⟨⟨?_, ?_, haw (fun n h => hw2 n (.inr (.inl h)))⟩, fun n h => hw2 n (.inr (.inr (.inr h)))⟩
          · exact hw2 _ (.inl (by rw [d0]; simp [DataW.weights]))
          · exact hw2 _ (.inr (.inr (.inl (by rw [d2]; simp [DataW.weights]))))
        have es0 : asS s0.data.toList = s0 := asS_back s0
        have es2 : asS s2.data.toList = s2 := asS_back s2
        rcases DataW.trod_slice Tryz.underlying23 h3' with ⟨hcs, _⟩ | ⟨a, len, cap, elems, rest, m, hm, hcs, hxs, _, hlc, _, hel, hke, _, _⟩
        · simp at hcs
          subst hcs
          refine ⟨((s0.data.toList, al, s2.data.toList), []), ⟨aA, ac, none, 0, ?_, hat, NdsAt.nil _ _ _ _, Nat.zero_le _⟩, fun hw => ⟨(hWT hw).1, fun k hk => by cases hk⟩⟩
          unfold ndcs
          rw [es0, es2]
          rfl
        · simp at hcs
          subst hcs
          rw [hc] at hke
          obtain ⟨L, hL, hp⟩ := choose_at (zeroT D) len (fun i t => ∃ b0 b1 b2 b3, W.cell? (a.add (i * 4)) = some b0 ∧ W.cell? ((a.add (i * 4)).add 1) = some b1 ∧ W.cell? ((a.add (i * 4)).add 2) = some b2 ∧ W.cell? ((a.add (i * 4)).add 3) = some b3 ∧ NdAt (fun q => q < W.heap.size) D W #[b0, b1, b2, b3] t ∧ ((∀ n ∈ y3.1.weights Tryz.prog 23, n ≤ 140737488355328) → StrB 140737488355328 D t)) (fun i hi => by
            have h1 := hke i hi
            have hie : i < elems.length := by omega
            rw [List.getElem?_eq_getElem hie] at h1
            obtain ⟨cs', h1, h2⟩ := Option.bind_eq_some_iff.1 h1
            obtain ⟨_, hlen, hcell⟩ := World.cells?_some h1
            obtain ⟨t, ht, hts⟩ := ih m cs' _ (by omega) hlen h2
            match cs', hlen with
            | [b0, b1, b2, b3], _ =>
              have g0 := hcell 0 (by omega)
              rw [show (a.add (i * 4)).add 0 = a.add (i * 4) from by simp [Addr.add]] at g0
              refine ⟨t, b0, b1, b2, b3, g0, hcell 1 (by omega), hcell 2 (by omega), hcell 3 (by omega), ht, fun hw => hts fun n hn => hw n ?_⟩
              rw [hxs]
              exact slice_weights Tryz.underlying23 (List.mem_map.2 ⟨_, List.getElem_mem hie, rfl⟩) hn)
          refine ⟨((s0.data.toList, al, s2.data.toList), L), ⟨aA, ac, some a, cap, ?_, hat, fun h0 => ?_, by rw [hL]; exact hlc⟩, fun hw => ⟨(hWT hw).1, fun k hk => ?_⟩⟩
          · unfold ndcs
            rw [es0, es2, hL]
          · have h0' : 0 < L.length := h0
            obtain ⟨b0, b1, b2, b3, g0, _⟩ := hp 0 (by omega)
            have hsp := spot_of g0
            obtain ⟨q, o, sp⟩ := a
            have hs2 : sp = none := by simpa [Addr.add] using hsp.1
            subst hs2
            have hql : q < W.heap.size := by simpa [Addr.add] using hsp.2
            refine ⟨q, o, rfl, hql, hql, fun j hj => ?_⟩
            have hj' : j < L.length := hj
            obtain ⟨b0, b1, b2, b3, g0, g1, g2, g3, g4, _⟩ := hp j (by omega)
            simp only [Addr.add_mid] at g0 g1 g2 g3
            exact ⟨b0, b1, b2, b3, g0, g1, g2, g3, g4⟩
          · obtain ⟨i, hi, rfl⟩ := mem_getD (zeroT D) hk
            have hi' : i < L.length := hi
            obtain ⟨_, _, _, _, _, _, _, _, _, g⟩ := hp i (by omega)
            exact g (hWT hw).2
theorem open_node {H : Type} {enc : TypeId × Value → H} {W : World} {b0 : Nat} {v : Value} {d : DataW H} {ps : List MemPlace} (hval : Value.okWide Tryz.prog W .any b0 25 v) (hd : DataW.Trod enc Tryz.prog W 0 (fun _ => true) true 25 v d ps) :
    ∃ (D : Nat) (t : Tr D) (cs : Array Value), v = .agg cs ∧ NdAt (fun q => q < W.heap.size) D W cs t ∧ ((∀ n ∈ d.weights Tryz.prog 25, n ≤ reachBytes) → StrB 140737488355328 D t) := by
  have hc : Tryz.prog.cellsOf 25 = 4 := by kernel_rfl
  obtain ⟨cs, rfl, hsz⟩ : ∃ cs : Array Value, v = .agg cs ∧ cs.size = 4 := by
    simp only [Value.okWide, Tryz.underlying25] at hval
    obtain ⟨cs, h1, h2, _⟩ := hval
    exact ⟨cs, h1, by rw [h2, hc]⟩
  obtain ⟨fuel, hf⟩ := hd
  obtain ⟨t, ht, hw⟩ := open_nd fuel fuel cs.toList _ (by omega) (by simpa using hsz) hf
  refine ⟨fuel, t, cs, rfl, by simpa using ht, fun h => hw fun n hn => ?_⟩
  have := h n hn
  have := reachBytes_lt
  omega
end Go.Proofs.YthjibliaofmlhaaGreatDoor
