
/- A value that came in, laid open. -/
import Derived.Test.YtlgkbdebpnbndaaGreatDoorJsSize
import Derived.Deep.Slices
import Derived.ProofKit
import Derived.OpenShut
import Derived.SizedLaws
namespace Go.Proofs.YtlgkbdebpnbndaaGreatDoor
open Go.ChangeShapes Go.WideShapes Go.ChangeAt Go.RowKit
set_option linter.unusedSimpArgs false
set_option linter.unusedVariables false
set_option maxRecDepth 100000

theorem asS_back (a : ByteArray) : asS a.data.toList = a := by
  cases a
  simp [asS]
theorem spot_of {W : World} {x : Addr} {v : Value} (h3 : W.cell? x = some v) : x.spot = none ∧ x.block < W.heap.size := by
  refine ⟨?_, block_lt_of_cell h3⟩
  unfold World.cell? at h3
  split at h3
  · split at h3
    · cases h3
    · rename_i hs
      simpa using hs
  · cases h3
theorem weights_all {H : Type} {P : Program} {e : TypeId} : ∀ {l : List (DataW H)} {d : DataW H}, d ∈ l → ∀ n ∈ d.weights P e, n ∈ DataW.weightsAll P e l
  | a :: r, d, hd, n, hn => by
    simp only [DataW.weightsAll, List.mem_append]
    rcases List.mem_cons.1 hd with rfl | hd
    · exact .inl hn
    · exact .inr (weights_all hd n hn)
theorem slice_weights {H : Type} {t e : TypeId} (hu : Tryz.prog.underlying t = some (.slice e)) {xs ys : List (DataW H)} {d : DataW H} (hd : d ∈ xs) {n : Nat} (hn : n ∈ d.weights Tryz.prog e) : n ∈ (DataW.slice xs ys : DataW H).weights Tryz.prog t := by
  simp only [DataW.weights, hu, List.mem_cons, List.mem_append]
  exact .inr (.inl (weights_all hd n hn))
theorem open_nms {H : Type} {enc : TypeId × Value → H} {W : World} {m : Nat} {c : Value} {x : DataW H × List MemPlace} (hf : DataW.trod enc Tryz.prog W 0 (fun _ => true) true m 23 [c] = some x) :
    ∃ (l : List (List UInt8)) (A : Option Addr) (k : Nat), c = .slice A l.length k ∧ NmsP (fun q => q < W.heap.size) W A l ∧ ((∀ n ∈ x.1.weights Tryz.prog 23, n ≤ 140737488355328) → ∀ h ∈ l, h.length ≤ 140737488355328) := by
  have hc : Tryz.prog.cellsOf 9 = 1 := by kernel_rfl
  rcases DataW.trod_slice Tryz.underlying23 hf with ⟨hcs, _⟩ | ⟨a, len, cap, elems, rest, n, _, hcs, hx, _, hlc, _, hel, hat, _, _⟩
  · simp at hcs
    subst hcs
    exact ⟨[], none, 0, rfl, fun h => absurd h (by simp), fun _ h hh => by cases hh⟩
  · simp at hcs
    subst hcs
    rw [hc] at hat
    obtain ⟨L, hL, hp⟩ := choose_at ([] : List UInt8) len (fun i h => W.cell? (a.add (i * 1)) = some (.string (asS h)) ∧ (DataW.lit (.string h) : DataW H) ∈ elems.map (·.1)) (fun i hi => by
      have h1 := hat i hi
      have hie : i < elems.length := by omega
      rw [List.getElem?_eq_getElem hie] at h1
      obtain ⟨cs', h1, h2⟩ := Option.bind_eq_some_iff.1 h1
      obtain ⟨_, hlen, hcell⟩ := World.cells?_some h1
      obtain ⟨s0, e0, d0, _⟩ := DataW.trod_string Tryz.underlying9 h2
      refine ⟨s0.data.toList, ?_, ?_⟩
      · have := hcell 0 (by omega)
        rw [show (a.add (i * 1)).add 0 = a.add (i * 1) from by simp [Addr.add]] at this
        rw [this, e0, asS_back]
        rfl
      · refine List.mem_map.2 ⟨_, List.getElem_mem hie, ?_⟩
        rw [d0])
    refine ⟨L, some a, cap, by rw [hL], fun h0 => ?_, fun hw h hh => ?_⟩
    · have hsp := spot_of (hp 0 (by omega)).1
      obtain ⟨q, o, sp⟩ := a
      have hs2 : sp = none := by simpa [Addr.add] using hsp.1
      subst hs2
      have hql : q < W.heap.size := by simpa [Addr.add] using hsp.2
      refine ⟨q, o, rfl, hql, hql, fun j hj => ?_⟩
      have := (hp j (by omega)).1
      rw [Addr.add_mid, Nat.mul_one] at this
      exact this
    · obtain ⟨i, hi, rfl⟩ := mem_getD ([] : List UInt8) hh
      have hDk := (hp i (by omega)).2
      rw [hx] at hw
      exact hw _ (slice_weights Tryz.underlying23 hDk (by simp [DataW.weights]))
theorem weights_vj {H : Type} (d0 d1 d2 d3 d4 : DataW H) (n : Nat) (h : n ∈ d2.weights Tryz.prog 9 ∨ n ∈ d3.weights Tryz.prog 22 ∨ n ∈ d4.weights Tryz.prog 23) : n ∈ (DataW.agg [d0, d1, d2, d3, d4] : DataW H).weights Tryz.prog 25 := by
  obtain ⟨fs, hu, hf⟩ : ∃ fs : Array Field, Tryz.prog.underlying 25 = some (.struct fs) ∧ fs.toList.map (·.type) = [3, 2, 9, 22, 23] := ⟨_, Tryz.underlying25, rfl⟩
  simp only [DataW.weights, hu, hf, DataW.weightsEach, List.mem_append]
  rcases h with h | h | h
  · exact .inr (.inr (.inl h))
  · exact .inr (.inr (.inr (.inl h)))
  · exact .inr (.inr (.inr (.inr (.inl h))))
theorem open_vj {H : Type} {enc : TypeId × Value → H} {W : World} : ∀ (D fuel : Nat) (cs : List Value) (x : DataW H × List MemPlace), fuel ≤ D + 1 → cs.length = 5 → DataW.trod enc Tryz.prog W 0 (fun _ => true) true fuel 25 cs = some x →
    ∃ t : VJ D, VAt (fun q => q < W.heap.size) D W cs.toArray t ∧ ((∀ n ∈ x.1.weights Tryz.prog 25, n ≤ 140737488355328) → StrJ 140737488355328 D t) := by
  intro D
  induction D with
  | zero =>
    intro fuel cs x hfu hlen hf
    obtain ⟨xs, n, he, _, _, hn, hx⟩ := DataW.trod_struct Tryz.underlying25 hf
    have h0 : DataW.trod enc Tryz.prog W 0 (fun _ => true) true n 3 ((cs.drop 0).take (Tryz.prog.cellsOf 3)) = xs[0]? := hx 0 _ rfl
    obtain rfl : n = 0 := by omega
    have hn4 : xs.length = 5 := hn
    rw [List.getElem?_eq_getElem (by omega)] at h0
    simp [DataW.trod] at h0
  | succ D ih =>
    intro fuel cs x hfu hlen hf
    have hc9 : Tryz.prog.cellsOf 9 = 1 := by kernel_rfl
    have hci : Tryz.prog.cellsOf 3 = 1 := by kernel_rfl
    have hcl : Tryz.prog.cellsOf 2 = 1 := by kernel_rfl
    have hca : Tryz.prog.cellsOf 23 = 1 := by kernel_rfl
    have hck : Tryz.prog.cellsOf 22 = 1 := by kernel_rfl
    have hc : Tryz.prog.cellsOf 25 = 5 := by kernel_rfl
    obtain ⟨xs, n, he, hx0, _, hn, hx⟩ := DataW.trod_struct Tryz.underlying25 hf
    have hn4 : xs.length = 5 := hn
    have h0 : DataW.trod enc Tryz.prog W 0 (fun _ => true) true n 3 ((cs.drop 0).take (Tryz.prog.cellsOf 3)) = xs[0]? := hx 0 _ rfl
    have h1 : DataW.trod enc Tryz.prog W 0 (fun _ => true) true n 2 ((cs.drop 1).take (Tryz.prog.cellsOf 2)) = xs[1]? := hx 1 _ rfl
    have h2 : DataW.trod enc Tryz.prog W 0 (fun _ => true) true n 9 ((cs.drop 2).take (Tryz.prog.cellsOf 9)) = xs[2]? := hx 2 _ rfl
    have h3 : DataW.trod enc Tryz.prog W 0 (fun _ => true) true n 22 ((cs.drop 3).take (Tryz.prog.cellsOf 22)) = xs[3]? := hx 3 _ rfl
    have h4 : DataW.trod enc Tryz.prog W 0 (fun _ => true) true n 23 ((cs.drop 4).take (Tryz.prog.cellsOf 23)) = xs[4]? := hx 4 _ rfl
    clear hx hf
    match xs, hn4 with
    | [y0, y1, y2, y3, y4], _ =>
      match cs, hlen with
      | [c0, c1, c2, c3, c4], _ =>
        rw [hci] at h0
        rw [hcl] at h1
        rw [hc9] at h2
        rw [hck] at h3
        rw [hca] at h4
        have h0' : DataW.trod enc Tryz.prog W 0 (fun _ => true) true n 3 [c0] = some y0 := h0
        have h1' : DataW.trod enc Tryz.prog W 0 (fun _ => true) true n 2 [c1] = some y1 := h1
        obtain ⟨i0, rfl⟩ : ∃ i0, c0 = .int .i64 i0 := by
          obtain ⟨a, ea, _⟩ := DataW.trod_int Tryz.underlying3 h0'
          exact ⟨a, by simpa using ea⟩
        obtain ⟨i1, rfl⟩ : ∃ i1, c1 = .int .i64 i1 := by
          obtain ⟨a, ea, _⟩ := DataW.trod_int Tryz.underlying2 h1'
          exact ⟨a, by simpa using ea⟩
        obtain ⟨s2, e2, d2, _⟩ := DataW.trod_string Tryz.underlying9 h2
        have q2 : c2 = .string s2 := by simpa using e2
        subst q2
        have h3' : DataW.trod enc Tryz.prog W 0 (fun _ => true) true n 22 [c3] = some y3 := h3
        have h4' : DataW.trod enc Tryz.prog W 0 (fun _ => true) true n 23 [c4] = some y4 := h4
        obtain ⟨al, aA, ac, rfl, hat, haw⟩ := open_nms h4'
        have hWT : (∀ n ∈ x.1.weights Tryz.prog 25, n ≤ 140737488355328) → TopJ 140737488355328 (i0, i1, s2.data.toList, al) ∧ ∀ n ∈ y3.1.weights Tryz.prog 22, n ≤ 140737488355328 := fun hw => by
          rw [hx0] at hw
          have hw2 : ∀ n, _ → n ≤ 140737488355328 := fun n h => hw n (weights_vj y0.1 y1.1 y2.1 y3.1 y4.1 n h)
          refine ⟨⟨?_, haw (fun n h => hw2 n (.inr (.inr h)))⟩, fun n h => hw2 n (.inr (.inl h))⟩
          exact hw2 _ (.inl (by rw [d2]; simp [DataW.weights]))
        have es2 : asS s2.data.toList = s2 := asS_back s2
        rcases DataW.trod_slice Tryz.underlying22 h3' with ⟨hcs, _⟩ | ⟨a, len, cap, elems, rest, m, hm, hcs, hxs, _, hlc, _, hel, hke, _, _⟩
        · simp at hcs
          subst hcs
          refine ⟨((i0, i1, s2.data.toList, al), []), ⟨none, 0, aA, ac, ?_, hat, VsAt.nil _ _ _ _, Nat.zero_le _⟩, fun hw => ⟨(hWT hw).1, fun k hk => by cases hk⟩⟩
          unfold vcs
          rw [es2]
          rfl
        · simp at hcs
          subst hcs
          rw [hc] at hke
          obtain ⟨L, hL, hp⟩ := choose_at (zeroJ D) len (fun i t => ∃ b0 b1 b2 b3 b4, W.cell? (a.add (i * 5)) = some b0 ∧ W.cell? ((a.add (i * 5)).add 1) = some b1 ∧ W.cell? ((a.add (i * 5)).add 2) = some b2 ∧ W.cell? ((a.add (i * 5)).add 3) = some b3 ∧ W.cell? ((a.add (i * 5)).add 4) = some b4 ∧ VAt (fun q => q < W.heap.size) D W #[b0, b1, b2, b3, b4] t ∧ ((∀ n ∈ y3.1.weights Tryz.prog 22, n ≤ 140737488355328) → StrJ 140737488355328 D t)) (fun i hi => by
            have h1 := hke i hi
            have hie : i < elems.length := by omega
            rw [List.getElem?_eq_getElem hie] at h1
            obtain ⟨cs', h1, h2⟩ := Option.bind_eq_some_iff.1 h1
            obtain ⟨_, hlen, hcell⟩ := World.cells?_some h1
            obtain ⟨t, ht, hts⟩ := ih m cs' _ (by omega) hlen h2
            match cs', hlen with
            | [b0, b1, b2, b3, b4], _ =>
              have g0 := hcell 0 (by omega)
              rw [show (a.add (i * 5)).add 0 = a.add (i * 5) from by simp [Addr.add]] at g0
              refine ⟨t, b0, b1, b2, b3, b4, g0, hcell 1 (by omega), hcell 2 (by omega), hcell 3 (by omega), hcell 4 (by omega), ht, fun hw => hts fun n hn => hw n ?_⟩
              rw [hxs]
              exact slice_weights Tryz.underlying22 (List.mem_map.2 ⟨_, List.getElem_mem hie, rfl⟩) hn)
          refine ⟨((i0, i1, s2.data.toList, al), L), ⟨some a, cap, aA, ac, ?_, hat, fun h0 => ?_, by rw [hL]; exact hlc⟩, fun hw => ⟨(hWT hw).1, fun k hk => ?_⟩⟩
          · unfold vcs
            rw [es2, hL]
          · have h0' : 0 < L.length := h0
            obtain ⟨b0, b1, b2, b3, b4, g0, _⟩ := hp 0 (by omega)
            have hsp := spot_of g0
            obtain ⟨q, o, sp⟩ := a
            have hs2 : sp = none := by simpa [Addr.add] using hsp.1
            subst hs2
            have hql : q < W.heap.size := by simpa [Addr.add] using hsp.2
            refine ⟨q, o, rfl, hql, hql, fun j hj => ?_⟩
            have hj' : j < L.length := hj
            obtain ⟨b0, b1, b2, b3, b4, g0, g1, g2, g3, g4, g5, _⟩ := hp j (by omega)
            simp only [Addr.add_mid] at g0 g1 g2 g3 g4
            exact ⟨b0, b1, b2, b3, b4, g0, g1, g2, g3, g4, g5⟩
          · obtain ⟨i, hi, rfl⟩ := mem_getD (zeroJ D) hk
            have hi' : i < L.length := hi
            obtain ⟨_, _, _, _, _, _, _, _, _, _, _, g⟩ := hp i (by omega)
            exact g (hWT hw).2
theorem open_value {H : Type} {enc : TypeId × Value → H} {W : World} {b0 : Nat} {v : Value} {d : DataW H} {ps : List MemPlace} (hval : Value.okWide Tryz.prog W .any b0 25 v) (hd : DataW.Trod enc Tryz.prog W 0 (fun _ => true) true 25 v d ps) :
    ∃ (D : Nat) (t : VJ D) (cs : Array Value), v = .agg cs ∧ VAt (fun q => q < W.heap.size) D W cs t ∧ ((∀ n ∈ d.weights Tryz.prog 25, n ≤ reachBytes) → StrJ 140737488355328 D t) := by
  have hc : Tryz.prog.cellsOf 25 = 5 := by kernel_rfl
  obtain ⟨cs, rfl, hsz⟩ : ∃ cs : Array Value, v = .agg cs ∧ cs.size = 5 := by
    simp only [Value.okWide, Tryz.underlying25] at hval
    obtain ⟨cs, h1, h2, _⟩ := hval
    exact ⟨cs, h1, by rw [h2, hc]⟩
  obtain ⟨fuel, hf⟩ := hd
  obtain ⟨t, ht, hw⟩ := open_vj fuel fuel cs.toList _ (by omega) (by simpa using hsz) hf
  refine ⟨fuel, t, cs, rfl, by simpa using ht, fun h => hw fun n hn => ?_⟩
  have := h n hn
  have := reachBytes_lt
  omega
end Go.Proofs.YtlgkbdebpnbndaaGreatDoor
