
/- Messages that came in, laid open. -/
import Derived.Test.YtclonnpglikddaaGreatDoorHdArg
import Derived.Test.YtclonnpglikddaaGreatDoorHtQLaw
namespace Go.Proofs.YtclonnpglikddaaGreatDoor
open Go.ChangeShapes Go.WideShapes Go.ChangeAt Go.RowKit
set_option linter.unusedSimpArgs false
set_option linter.unusedVariables false
set_option maxRecDepth 100000

/-- A slice of headers, by its cells. -/
theorem open_hdsC {H : Type} {enc : TypeId × Value → H} {W : World} {fuel : Nat} {cs0 : List Value} {x0 : DataW H × List MemPlace} (hf : DataW.trod enc Tryz.prog W 0 (fun _ => true) true fuel 22 cs0 = some x0) :
    ∃ (l : List HdV) (A : Option Addr) (c : Nat), cs0 = [.slice A l.length c] ∧ HdsAt W A l ∧ ((∀ n ∈ x0.1.weights Tryz.prog 22, n ≤ reachBytes) → FitH l) := by
  have hc : Tryz.prog.cellsOf 69 = 2 := by kernel_rfl
  rcases Go.Deep.open_slice Tryz.underlying22 hf with ⟨hcs, _⟩ | ⟨x, len, cap, m, n, D, Pl, hcs, _, hlc, _, hm, hd2, hx⟩
  · exact ⟨[], none, 0, hcs, fun h => absurd h (by simp), fun _ k hk => absurd hk (by simp)⟩
  · simp only [if_true] at hm
    rw [hc] at hx
    obtain ⟨L, hL, hp⟩ := choose_hd len (fun i h => W.cell? (x.add (i * 2)) = some (.string (asS h.name)) ∧ W.cell? ((x.add (i * 2)).add 1) = some (.string (asS h.value)) ∧ D i = .agg [.lit (.string h.name), .lit (.string h.value)]) (fun i hi => by
      obtain ⟨cs', h1, h2⟩ := hx i (by omega)
      obtain ⟨_, hlen, hcell⟩ := World.cells?_some h1
      obtain ⟨h, h3, h4⟩ := open_cellsH hlen h2
      refine ⟨h, ?_, ?_, h4⟩
      · have := hcell 0 (by omega)
        rw [h3] at this
        rw [show (x.add (i * 2)).add 0 = x.add (i * 2) from by simp [Addr.add]] at this
        exact this
      · have := hcell 1 (by omega)
        rw [h3] at this
        exact this)
    refine ⟨L, some x, cap, by rw [hL]; exact hcs, fun h0 => ?_, fun hw k hk => ?_⟩
    · have hsp := spot_of (hp 0 (by omega)).1
      obtain ⟨q, o, sp⟩ := x
      have hs2 : sp = none := by simpa [Addr.add] using hsp.1
      subst hs2
      refine ⟨q, o, rfl, by simpa [Addr.add] using hsp.2, fun j hj => ?_⟩
      have := hp j (by omega)
      rw [Addr.add_mid, Addr.add_mid] at this
      exact ⟨this.1, this.2.1⟩
    · have hk2 : k < len := by omega
      have hde : D k ∈ (List.range len).map D := List.mem_map.2 ⟨k, List.mem_range.2 hk2, rfl⟩
      have hin : ∀ z ∈ (D k).weights Tryz.prog 69, z ≤ 140737488355328 := fun z hz => by
        have hdd : x0.1 = .slice ((List.range len).map D) ((List.range (m - len)).map fun j => D (len + j)) := by rw [hd2]
        have : z ∈ x0.1.weights Tryz.prog 22 := by
          rw [hdd]
          have hu := Tryz.underlying22
          simp only [DataW.weights, hu, List.mem_cons, List.mem_append]
          exact .inr (.inl (weights_all hde z hz))
        have h2 := hw z this
        have := reachBytes_lt
        omega
      have hDk := (hp k hk2).2.2
      rw [hDk] at hin
      exact ⟨hin _ (weights_hd _ _).1, hin _ (weights_hd _ _).2⟩
/-- A slice of bytes, by its cells. -/
theorem open_btsC {H : Type} {enc : TypeId × Value → H} {W : World} {fuel : Nat} {cs0 : List Value} {x0 : DataW H × List MemPlace} (h0 : 0 < W.heap.size) (hf : DataW.trod enc Tryz.prog W 0 (fun _ => true) true fuel 23 cs0 = some x0) :
    ∃ (l : List UInt8) (A : Option Addr) (c : Nat), cs0 = [.slice A l.length c] ∧ BytesAt W A l ∧ (l.length = 0 → A = none ∧ c = 0 ∨ ∃ x, A = some x) := by
  have : ∃ (a : Option Addr) (len cap : Nat) (zs : List Int), cs0 = [.slice a len cap] ∧ IsRow .u8 W a len cap zs := by
    rcases open_ints Tryz.underlying23 Tryz.underlying5 (by kernel_rfl) hf with ⟨hcs, _⟩ | ⟨x, l, c, zs, hcs, _, hl, hm, hz, _, hcell, hwz⟩
    · exact ⟨none, 0, 0, [], hcs, .inl ⟨rfl, rfl, rfl, rfl⟩⟩
    · exact ⟨some x, l, c, zs, hcs, .inr ⟨_, rfl, hl, hm, by simpa using hz, hcell, hwz⟩⟩
  obtain ⟨a, len, cap, zs, hcs, hr⟩ := this
  obtain ⟨l, rfl, _, hA⟩ := row_at hr h0
  exact ⟨l, a, cap, hcs, hA, row_nil hr⟩
/-- A request, by value. -/
theorem open_req {H : Type} {enc : TypeId × Value → H} {W : World} {b0 : Nat} {v : Value} {d : DataW H} {ps : List MemPlace} (hp : 0 < W.heap.size) (hval : Value.okWide Tryz.prog W .any b0 25 v) (hd : DataW.Trod enc Tryz.prog W 0 (fun _ => true) true 25 v d ps) (hw : ∀ n ∈ d.weights Tryz.prog 25, n ≤ reachBytes) :
    ∃ (m t : List UInt8) (l : List HdV) (A : Option Addr) (c : Nat) (bd : List UInt8) (B : Option Addr) (cb : Nat), v = .agg #[.string (asS m), .string (asS t), .slice A l.length c, .slice B bd.length cb] ∧ m.length ≤ 140737488355328 ∧ t.length ≤ 140737488355328 ∧ FitH l ∧ HdsAt W A l ∧ BytesAt W B bd ∧ (bd.length = 0 → B = none ∧ cb = 0 ∨ ∃ x, B = some x) := by
  have hc : Tryz.prog.cellsOf 25 = 4 := by kernel_rfl
  have hc0 : Tryz.prog.cellsOf 9 = 1 := by kernel_rfl
  have hc1 : Tryz.prog.cellsOf 9 = 1 := by kernel_rfl
  have hc2 : Tryz.prog.cellsOf 22 = 1 := by kernel_rfl
  have hc3 : Tryz.prog.cellsOf 23 = 1 := by kernel_rfl
  obtain ⟨cs, rfl, hsz⟩ : ∃ cs : Array Value, v = .agg cs ∧ cs.size = 4 := by
    simp only [Value.okWide, Tryz.underlying25] at hval
    obtain ⟨cs, h1, h2, _⟩ := hval
    exact ⟨cs, h1, by rw [h2, hc]⟩
  obtain ⟨fuel, hf⟩ := hd
  obtain ⟨xs, m, _, hxd, _, hn, hx⟩ := DataW.trod_struct Tryz.underlying25 hf
  have hn3 : xs.length = 4 := hn
  have h0 : DataW.trod enc Tryz.prog W 0 (fun _ => true) true m 9 (((Value.agg cs).cells.toList.drop 0).take (Tryz.prog.cellsOf 9)) = xs[0]? := hx 0 _ rfl
  have h1 : DataW.trod enc Tryz.prog W 0 (fun _ => true) true m 9 (((Value.agg cs).cells.toList.drop 1).take (Tryz.prog.cellsOf 9)) = xs[1]? := hx 1 _ rfl
  have h2 : DataW.trod enc Tryz.prog W 0 (fun _ => true) true m 22 (((Value.agg cs).cells.toList.drop 2).take (Tryz.prog.cellsOf 22)) = xs[2]? := hx 2 _ rfl
  have h3 : DataW.trod enc Tryz.prog W 0 (fun _ => true) true m 23 (((Value.agg cs).cells.toList.drop 3).take (Tryz.prog.cellsOf 23)) = xs[3]? := hx 3 _ rfl
  clear hx hn hf
  match xs, hn3 with
  | [y0, y1, y2, y3], _ =>
  have hcl : (Value.agg cs).cells.toList = cs.toList := rfl
  rw [hc0, hcl] at h0
  rw [hc1, hcl] at h1
  rw [hc2, hcl] at h2
  rw [hc3, hcl] at h3
  obtain ⟨cl, rfl⟩ : ∃ cl : List Value, cs = cl.toArray := ⟨cs.toList, by simp⟩
  have hcz : cl.length = 4 := by simpa using hsz
  match cl, hcz with
  | [c0, c1, c2, c3], _ =>
  obtain ⟨s0, e0, d0, _⟩ := DataW.trod_string Tryz.underlying9 h0
  obtain ⟨s1, e1, d1, _⟩ := DataW.trod_string Tryz.underlying9 h1
  obtain ⟨l, A, c, e2, hA, hF⟩ := open_hdsC (show _ = some y2 from h2)
  obtain ⟨bd, B, cb, e3, hB, hBz⟩ := open_btsC hp (show _ = some y3 from h3)
  have q0 : c0 = .string s0 := by simpa using e0
  have q1 : c1 = .string s1 := by simpa using e1
  have q2 : c2 = .slice A l.length c := by simpa using e2
  have q3 : c3 = .slice B bd.length cb := by simpa using e3
  have hdd : d = .agg [y0.1, y1.1, y2.1, y3.1] := (Prod.mk.inj hxd).1
  obtain ⟨fs, hu, hfs⟩ : ∃ fs : Array Field, Tryz.prog.underlying 25 = some (.struct fs) ∧ fs.toList.map (·.type) = [9, 9, 22, 23] := ⟨_, Tryz.underlying25, rfl⟩
  have hin : ∀ n, (n ∈ y0.1.weights Tryz.prog 9 ∨ n ∈ y1.1.weights Tryz.prog 9 ∨ n ∈ y2.1.weights Tryz.prog 22) → n ≤ reachBytes := fun n h => hw n (by
    rw [hdd]
    simp only [DataW.weights, hu, hfs, DataW.weightsEach, List.mem_append]
    rcases h with h | h | h
    · exact .inl h
    · exact .inr (.inl h)
    · exact .inr (.inr (.inl h)))
  have hrb := reachBytes_lt
  refine ⟨s0.data.toList, s1.data.toList, l, A, c, bd, B, cb, ?_, ?_, ?_, hF (fun n h => hin n (.inr (.inr h))), hA, hB, hBz⟩
  · simp only [asS_of]
    rw [q0, q1, q2, q3]
  · have := hin s0.data.toList.length (.inl (by rw [d0]; simp only [DataW.weights, List.mem_cons, true_or]))
    omega
  · have := hin s1.data.toList.length (.inr (.inl (by rw [d1]; simp only [DataW.weights, List.mem_cons, true_or])))
    omega
/-- A response, by value. -/
theorem open_resp {H : Type} {enc : TypeId × Value → H} {W : World} {b0 : Nat} {v : Value} {d : DataW H} {ps : List MemPlace} (hp : 0 < W.heap.size) (hval : Value.okWide Tryz.prog W .any b0 40 v) (hd : DataW.Trod enc Tryz.prog W 0 (fun _ => true) true 40 v d ps) (hw : ∀ n ∈ d.weights Tryz.prog 40, n ≤ reachBytes) :
    ∃ (m : Int) (t : List UInt8) (l : List HdV) (A : Option Addr) (c : Nat) (bd : List UInt8) (B : Option Addr) (cb : Nat), v = .agg #[.int .i64 m, .string (asS t), .slice A l.length c, .slice B bd.length cb] ∧ (Lit.int .i64 m).wf = true ∧ t.length ≤ 140737488355328 ∧ FitH l ∧ HdsAt W A l ∧ BytesAt W B bd ∧ (bd.length = 0 → B = none ∧ cb = 0 ∨ ∃ x, B = some x) := by
  have hc : Tryz.prog.cellsOf 40 = 4 := by kernel_rfl
  have hc0 : Tryz.prog.cellsOf 3 = 1 := by kernel_rfl
  have hc1 : Tryz.prog.cellsOf 9 = 1 := by kernel_rfl
  have hc2 : Tryz.prog.cellsOf 22 = 1 := by kernel_rfl
  have hc3 : Tryz.prog.cellsOf 23 = 1 := by kernel_rfl
  obtain ⟨cs, rfl, hsz⟩ : ∃ cs : Array Value, v = .agg cs ∧ cs.size = 4 := by
    simp only [Value.okWide, Tryz.underlying40] at hval
    obtain ⟨cs, h1, h2, _⟩ := hval
    exact ⟨cs, h1, by rw [h2, hc]⟩
  obtain ⟨fuel, hf⟩ := hd
  obtain ⟨xs, m, _, hxd, _, hn, hx⟩ := DataW.trod_struct Tryz.underlying40 hf
  have hn3 : xs.length = 4 := hn
  have h0 : DataW.trod enc Tryz.prog W 0 (fun _ => true) true m 3 (((Value.agg cs).cells.toList.drop 0).take (Tryz.prog.cellsOf 3)) = xs[0]? := hx 0 _ rfl
  have h1 : DataW.trod enc Tryz.prog W 0 (fun _ => true) true m 9 (((Value.agg cs).cells.toList.drop 1).take (Tryz.prog.cellsOf 9)) = xs[1]? := hx 1 _ rfl
  have h2 : DataW.trod enc Tryz.prog W 0 (fun _ => true) true m 22 (((Value.agg cs).cells.toList.drop 2).take (Tryz.prog.cellsOf 22)) = xs[2]? := hx 2 _ rfl
  have h3 : DataW.trod enc Tryz.prog W 0 (fun _ => true) true m 23 (((Value.agg cs).cells.toList.drop 3).take (Tryz.prog.cellsOf 23)) = xs[3]? := hx 3 _ rfl
  clear hx hn hf
  match xs, hn3 with
  | [y0, y1, y2, y3], _ =>
  have hcl : (Value.agg cs).cells.toList = cs.toList := rfl
  rw [hc0, hcl] at h0
  rw [hc1, hcl] at h1
  rw [hc2, hcl] at h2
  rw [hc3, hcl] at h3
  obtain ⟨cl, rfl⟩ : ∃ cl : List Value, cs = cl.toArray := ⟨cs.toList, by simp⟩
  have hcz : cl.length = 4 := by simpa using hsz
  match cl, hcz with
  | [c0, c1, c2, c3], _ =>
  obtain ⟨s0, e0, d0, z0⟩ := DataW.trod_int Tryz.underlying3 h0
  obtain ⟨s1, e1, d1, _⟩ := DataW.trod_string Tryz.underlying9 h1
  obtain ⟨l, A, c, e2, hA, hF⟩ := open_hdsC (show _ = some y2 from h2)
  obtain ⟨bd, B, cb, e3, hB, hBz⟩ := open_btsC hp (show _ = some y3 from h3)
  have q0 : c0 = .int .i64 s0 := by simpa using e0
  have q1 : c1 = .string s1 := by simpa using e1
  have q2 : c2 = .slice A l.length c := by simpa using e2
  have q3 : c3 = .slice B bd.length cb := by simpa using e3
  have hdd : d = .agg [y0.1, y1.1, y2.1, y3.1] := (Prod.mk.inj hxd).1
  obtain ⟨fs, hu, hfs⟩ : ∃ fs : Array Field, Tryz.prog.underlying 40 = some (.struct fs) ∧ fs.toList.map (·.type) = [3, 9, 22, 23] := ⟨_, Tryz.underlying40, rfl⟩
  have hin : ∀ n, (n ∈ y0.1.weights Tryz.prog 3 ∨ n ∈ y1.1.weights Tryz.prog 9 ∨ n ∈ y2.1.weights Tryz.prog 22) → n ≤ reachBytes := fun n h => hw n (by
    rw [hdd]
    simp only [DataW.weights, hu, hfs, DataW.weightsEach, List.mem_append]
    rcases h with h | h | h
    · exact .inl h
    · exact .inr (.inl h)
    · exact .inr (.inr (.inl h)))
  have hrb := reachBytes_lt
  refine ⟨s0, s1.data.toList, l, A, c, bd, B, cb, ?_, ?_, ?_, hF (fun n h => hin n (.inr (.inr h))), hA, hB, hBz⟩
  · simp only [asS_of]
    rw [q0, q1, q2, q3]
  · exact z0
  · have := hin s1.data.toList.length (.inr (.inl (by rw [d1]; simp only [DataW.weights, List.mem_cons, true_or])))
    omega
theorem requests11_row (m t : List UInt8) (l : List HdV) (A : Option Addr) (c : Nat) (bd : List UInt8) (B : Option Addr) (cb : Nat) (D : Option Addr) (ld cd : Nat) (zs : List Int) (w : World) (hm : m.length ≤ 140737488355328) (ht : t.length ≤ 140737488355328) (hf : FitH l) (hA : HdsAt w A l) (hB : BytesAt w B bd) (hBz : bd.length = 0 → B = none ∧ cb = 0 ∨ ∃ x, B = some x) (hD : IsRow .u8 w D ld cd zs) (hT : TabC w) : Calls Tryz.prog 3 #[.agg #[.string (asS m), .string (asS t), .slice A l.length c, .slice B bd.length cb], .slice D ld cd] w fun e w' => e = .returned (.bool true) ∧ Below w.heap.size w w' := by
  obtain ⟨mo, rfl, _, hD2⟩ := row_at hD (Nat.lt_of_le_of_lt (Nat.zero_le _) hT.big)
  exact requests11_law m t l A c bd B cb mo D cd hm ht hf w hA hB hBz hD2 hT
end Go.Proofs.YtclonnpglikddaaGreatDoor
