
/- How a file of blocks lies in memory: its cells, what is read, what lasts, the writes in their row; what keeps it. -/
import Derived.Test.YtkjpdfcemdhnpaaBlPick
namespace Go.Proofs.Ytkjpdfcemdhnpaa
set_option linter.unusedVariables false
set_option linter.unusedSimpArgs false
open Go.RowKit Go.BigFrame

/-- A write as the program has it: which block, how many bytes come through, its bytes. -/
abbrev TB := Nat × Nat × List UInt8
def wcs (q : TB) : Array Value := (Value.int .i64 (q.1 : Int) :: Value.int .i64 (q.2.1 : Int) :: bvs q.2.2).toArray
theorem wcs_size {q : TB} (h : q.2.2.length = 64) : (wcs q).size = 66 := by simp [wcs, bvs, h]
theorem wcs_list (q : TB) : (wcs q).toList = .int .i64 (q.1 : Int) :: .int .i64 (q.2.1 : Int) :: bvs q.2.2 := rfl
theorem wcs_one (q : TB) : ∀ u ∈ (wcs q).toList, u.oneCell' = true := by
  rw [wcs_list]
  intro u hu
  rcases List.mem_cons.1 hu with rfl | hu
  · rfl
  · rcases List.mem_cons.1 hu with rfl | hu
    · rfl
    · exact bvs_one' _ u hu
theorem wcs_all (q : TB) : (wcs q).all (·.oneCell') = true := by
  rw [← Array.all_toList, List.all_eq_true]
  exact wcs_one q
def tb0 : TB := (0, 0, [])
/-- The cells of writes in a row. -/
def wvs (l : List TB) : List Value := l.flatMap fun q => (wcs q).toList
def Wide (l : List TB) : Prop := ∀ q ∈ l, q.2.2.length = 64
theorem wvs_len : ∀ l : List TB, Wide l → (wvs l).length = l.length * 66
  | [], _ => rfl
  | q :: r, h => by
    have h1 := wcs_size (h q List.mem_cons_self)
    have h2 := wvs_len r (fun x hx => h x (List.mem_cons_of_mem _ hx))
    show ((wcs q).toList ++ wvs r).length = _
    rw [List.length_append, h2, Array.length_toList, h1, List.length_cons]
    omega
theorem wvs_at : ∀ (l : List TB) (j i : Nat), Wide l → j < l.length → i < 66 → (wvs l)[j * 66 + i]? = (wcs (l.getD j tb0))[i]?
  | [], j, i, _, h, _ => by simp at h
  | q :: r, 0, i, hc, _, hi => by
    have h1 := wcs_size (hc q List.mem_cons_self)
    show ((wcs q).toList ++ wvs r)[0 * 66 + i]? = _
    rw [Nat.zero_mul, Nat.zero_add, List.getElem?_append_left (by rw [Array.length_toList, h1]; exact hi)]
    simp
  | q :: r, j + 1, i, hc, hj, hi => by
    have h1 := wcs_size (hc q List.mem_cons_self)
    have ih := wvs_at r j i (fun x hx => hc x (List.mem_cons_of_mem _ hx)) (by simpa using hj) hi
    show ((wcs q).toList ++ wvs r)[(j + 1) * 66 + i]? = _
    rw [List.getElem?_append_right (by rw [Array.length_toList, h1]; omega), Array.length_toList, h1, show (j + 1) * 66 + i - 66 = j * 66 + i from by omega, ih]
    simp
theorem wvs_app (a b : List TB) : wvs (a ++ b) = wvs a ++ wvs b := by simp [wvs]
theorem wrK : KCells Try.prog 66 57 71 := ⟨Try.underlying57, by
  obtain ⟨i, h1, h2, h3, h4⟩ := info_parts (show (Try.prog.info? 71).map (fun i => (i.zero, i.size, i.bytes)) = some (some (.agg (wcs (0, 0, zer 64))), 66, 80) from by kernel_rfl)
  exact ⟨i, _, h1, h2, h3, by omega, rfl⟩⟩
/-- Writes that are read: they lie in a row from an address on, in a block for which P. -/
def WsAt (P : Nat → Prop) (w : World) (A : Option Addr) (l : List TB) : Prop :=
  0 < l.length → ∃ q o, A = some ⟨q, o, none⟩ ∧ P q ∧ q < w.heap.size ∧ ∀ j, j < l.length → ∀ i v, (wcs (l.getD j tb0))[i]? = some v → w.cell? ⟨q, o + j * 66 + i, none⟩ = some v
theorem WsAt.frame {P P' : Nat → Prop} {w W : World} {A : Option Addr} {l : List TB} (h : WsAt P w A l) (hs : w.heap.size ≤ W.heap.size) (hP : ∀ q, P q → q < w.heap.size → W.heap[q]? = w.heap[q]? ∧ P' q) : WsAt P' W A l := fun h0 => by
  obtain ⟨q, o, e, hp, hq, hc⟩ := h h0
  have h2 := hP q hp hq
  exact ⟨q, o, e, h2.2, Nat.lt_of_lt_of_le hq hs, fun j hj i v hv => by rw [cell_same h2.1]; exact hc j hj i v hv⟩
theorem WsAt.take {P : Nat → Prop} {w : World} {A : Option Addr} {l : List TB} (h : WsAt P w A l) (k : Nat) : WsAt P w A (l.take k) := fun h0 => by
  have hk : (l.take k).length ≤ l.length := by rw [List.length_take]; omega
  obtain ⟨q, o, e, hp, hq, hc⟩ := h (by omega)
  refine ⟨q, o, e, hp, hq, fun j hj i v hv => ?_⟩
  have hjk : j < k ∧ j < l.length := by rw [List.length_take] at hj; omega
  refine hc j hjk.2 i v ?_
  rw [← hv, List.getD_eq_getElem?_getD, List.getD_eq_getElem?_getD, List.getElem?_take_of_lt hjk.1]
/-- A row of writes of one's own, or none yet, in a block for which P. -/
def OwnW (P : Nat → Prop) (w : World) (v : Value) (l : List TB) : Prop := (v = .slice none 0 0 ∧ l = []) ∨
  ∃ g cap, v = .slice (some ⟨g, 0, none⟩) l.length cap ∧ P g ∧ Wide l ∧ OwnK w 66 71 0 g l.length cap (wvs l)
theorem OwnW.nil (P : Nat → Prop) (w : World) : OwnW P w (.slice none 0 0) [] := .inl ⟨rfl, rfl⟩
theorem OwnW.frame {P P' : Nat → Prop} {w W : World} {v : Value} {l : List TB} (h : OwnW P w v l) (hP : ∀ q, blk v = some q → P q → q < w.heap.size → W.heap[q]? = w.heap[q]? ∧ P' q) : OwnW P' W v l := by
  rcases h with h | ⟨g, cap, rfl, h2, hw, h3⟩
  · exact .inl h
  · have hg := hP g rfl h2 h3.lt
    exact .inr ⟨g, cap, rfl, hg.2, hw, h3.kept hg.1⟩
theorem OwnW.blk_P {P : Nat → Prop} {w : World} {v : Value} {l : List TB} (h : OwnW P w v l) (q : Nat) (hq : blk v = some q) : P q ∧ q < w.heap.size := by
  rcases h with ⟨rfl, _⟩ | ⟨g, cap, rfl, h2, hw, h3⟩
  · cases hq
  · have e : g = q := by injection hq
    subst e
    exact ⟨h2, h3.lt⟩
theorem OwnW.shape {P : Nat → Prop} {w : World} {v : Value} {l : List TB} (h : OwnW P w v l) : ∃ A c, v = .slice A l.length c ∧ l.length ≤ c ∧ (∀ a, A = some a → blk v = some a.block ∧ a = ⟨a.block, 0, none⟩) ∧ WsAt (fun q => P q ∧ blk v = some q) w A l := by
  rcases h with ⟨rfl, rfl⟩ | ⟨g, cap, rfl, h2, hw, h3⟩
  · exact ⟨none, 0, rfl, Nat.le_refl _, (fun a e => by cases e), fun h => absurd h (by simp)⟩
  · refine ⟨_, cap, rfl, h3.le, (fun a e => by cases e; exact ⟨rfl, rfl⟩), fun _ => ⟨g, 0, rfl, ⟨h2, rfl⟩, h3.lt, fun j hj i v hv => ?_⟩⟩
    have hi : i < 66 := by
      have := (Array.getElem?_eq_some_iff.1 hv).1
      have hm : (l.getD j tb0).2.2.length = 64 := by
        rw [List.getD_eq_getElem?_getD, List.getElem?_eq_getElem hj]
        exact hw _ (List.getElem_mem _)
      rw [wcs_size hm] at this
      exact this
    rw [Nat.zero_add]
    exact h3.at _ _ (by rw [wvs_at l j i hw hj hi]; exact hv)
theorem OwnW.one {P : Nat → Prop} {w : World} {v : Value} {l : List TB} (h : OwnW P w v l) : v.oneCell' = true := by
  obtain ⟨A, c, rfl, _⟩ := h.shape
  rfl
theorem OwnW.cel {P : Nat → Prop} {w : World} {v : Value} {l : List TB} (h : OwnW P w v l) : v.cells = #[v] := by
  obtain ⟨A, c, rfl, _⟩ := h.shape
  rfl
theorem wide_snoc {l : List TB} {q : TB} (h : Wide l) (hq : q.2.2.length = 64) : Wide (l ++ [q]) := fun x hx => by
  rcases List.mem_append.1 hx with hx | hx
  · exact h x hx
  · rw [List.mem_singleton.1 hx]; exact hq
theorem src_w (w : World) (g c : Nat) (q : TB) (hq : q.2.2.length = 64) (hg : w.heap[g]? = some (.cells (wcs q) 71 (0, 0))) : Src Try.prog 66 57 (.slice (some ⟨g, 0, none⟩) 1 c) 1 (wvs [q]) w := by
  have e : wvs [q] = (wcs q).toList := by simp [wvs]
  rw [e]
  exact src_litK wrK w g 1 c _ (by rw [Array.length_toList, wcs_size hq]) hg (wcs_one q)
/-- append(writes of one's own or none, another). -/
theorem run_w (ty : TypeId) {P : Nat → Prop} {w : World} {v x : Value} {l : List TB} {q : TB} (h : OwnW P w v l) (hw : Wide l) (hq : q.2.2.length = 64) (hs : Src Try.prog 66 57 x 1 (wvs [q]) w) (hn : l.length ≤ 1000000) (hP : P w.heap.size) :
    ∃ v' w', (Builtin.append_ #[57, 57] ty #[v, x]).run Try.prog w = .ok v' w' ∧ OwnW P w' v' (l ++ [q]) ∧ w.grownBy w' (blk v) ∧ (blk v' = blk v ∨ blk v' = some w.heap.size) := by
  rcases h with ⟨rfl, rfl⟩ | ⟨g, cap, rfl, h2, _, h3⟩
  · obtain ⟨cap, w', k1, k2, k3⟩ := run_nilK wrK (b := 0) ty x hs (by decide) (by decide) (Nat.zero_le _)
    exact ⟨_, w', k1, .inr ⟨_, cap, rfl, hP, wide_snoc hw hq, k2⟩, ⟨k3.os, k3.tape, k3.output, k3.size, fun k hk _ => k3.block k hk⟩, .inr rfl⟩
  · obtain ⟨g', cap', w', k1, k2, k3, k4⟩ := h3.run_app wrK ty x hs (by omega) (Nat.zero_le _)
    refine ⟨_, w', k1, .inr ⟨g', cap', by rw [List.length_append, List.length_singleton], ?_, wide_snoc hw hq, by rw [List.length_append, List.length_singleton, wvs_app]; exact k2⟩, k3, ?_⟩
    · rcases k4 with rfl | rfl
      · exact h2
      · exact hP
    · rcases k4 with rfl | rfl
      · exact .inl rfl
      · exact .inr rfl
/-- Pending writes as the program has them. -/
def full (l : List WrB) : List TB := l.map fun q => (q.1, 64, q.2)
/-- What such a write does. -/
def toW (q : TB) : WrB := (q.1, q.2.2.take q.2.1)
theorem full_len (l : List WrB) : (full l).length = l.length := by simp [full]
theorem full_wide {n : Nat} {l : List WrB} (h : FullB n l) : Wide (full l) := fun q hq => by
  obtain ⟨p, hp, rfl⟩ := List.mem_map.1 hq
  exact (h p hp).2
theorem full_toW {n : Nat} {l : List WrB} (h : FullB n l) : (full l).map toW = l := by
  unfold full
  rw [List.map_map]
  rw [List.map_congr_left (g := id) (fun q hq => by show (q.1, q.2.take 64) = q; rw [List.take_of_length_le (Nat.le_of_eq (h q hq).2)])]
  exact List.map_id l
/-- The cells of a file. -/
def fcs (F N L n : Nat) (wv : Value) (S : Bool) (k t : Int) (O : Bool) : Array Value := #[.pointer (some ⟨F, 0, none⟩), .slice (some ⟨N, 0, none⟩) n n, .slice (some ⟨L, 0, none⟩) n n, wv, .bool S, .int .i64 k, .int .i64 t, .bool O]
/-- A file: what is read, what lasts, the writes, the fuse, whether the power is off. -/
structure FileP (F N L n : Nat) (wv : Value) (S : Bool) (k t : Int) (O : Bool) (now last : List UInt8) (W : List WrB) (w : World) : Prop where
  f : w.heap[F]? = some (.cells (fcs F N L n wv S k t O) 61 (0, 0))
  nw : w.heap[N]? = some (.cells (bcs now) 64 (0, 0))
  ls : w.heap[L]? = some (.cells (bcs last) 64 (0, 0))
  ws : OwnW (fun q => q ≠ F ∧ q ≠ N ∧ q ≠ L) w wv (full W)
  d1 : F ≠ N
  d2 : F ≠ L
  d3 : N ≠ L
  zn : now.length = 64 * n
  zl : last.length = 64 * n
  n1 : 1 ≤ n
  n2 : n ≤ 4096
  ok : FullB n W
/-- What a file does not lie in is as it was. -/
structure Kept (F N L : Nat) (wv : Value) (w w' : World) : Prop where
  os : w'.os = w.os
  tape : w'.tape = w.tape
  output : w'.output = w.output
  size : w.heap.size ≤ w'.heap.size
  block : ∀ q, q < w.heap.size → q ≠ F → q ≠ N → q ≠ L → blk wv ≠ some q → w'.heap[q]? = w.heap[q]?
theorem Kept.of_below {F N L : Nat} {wv : Value} {w w' : World} (h : Below w.heap.size w w') : Kept F N L wv w w' := ⟨h.os, h.tape, h.output, h.size, fun q hq _ _ _ _ => h.block q hq⟩
theorem Kept.refl (F N L : Nat) (wv : Value) (w : World) : Kept F N L wv w w := ⟨rfl, rfl, rfl, Nat.le_refl _, fun _ _ _ _ _ _ => rfl⟩
theorem Kept.trans {F N L : Nat} {wv wv' : Value} {w w1 w2 : World} (h : Kept F N L wv w w1) (h2 : Kept F N L wv' w1 w2) (hv : ∀ q, blk wv' = some q → blk wv = some q ∨ w.heap.size ≤ q) : Kept F N L wv w w2 :=
  ⟨h2.os.trans h.os, h2.tape.trans h.tape, h2.output.trans h.output, Nat.le_trans h.size h2.size, fun q hq a b c d => (h2.block q (Nat.lt_of_lt_of_le hq h.size) a b c (fun e => by
    rcases hv q e with e | e
    · exact d e
    · omega)).trans (h.block q hq a b c d)⟩
theorem Kept.below {F N L B : Nat} {wv : Value} {w0 w w' : World} (h : Kept F N L wv w w') (h0 : Below B w0 w) (hB : B ≤ w.heap.size) (hF : B ≤ F) (hN : B ≤ N) (hL : B ≤ L) (hv : ∀ q, blk wv = some q → B ≤ q) : Below B w0 w' :=
  ⟨h.os.trans h0.os, h.tape.trans h0.tape, h.output.trans h0.output, Nat.le_trans h0.size h.size, fun q hq => (h.block q (by omega) (by omega) (by omega) (by omega) (fun e => by have := hv q e; omega)).trans (h0.block q hq)⟩
theorem FileP.lt {F N L n : Nat} {wv : Value} {S : Bool} {k t : Int} {O : Bool} {now last : List UInt8} {W : List WrB} {w : World} (h : FileP F N L n wv S k t O now last W w) : F < w.heap.size ∧ N < w.heap.size ∧ L < w.heap.size :=
  ⟨(Array.getElem?_eq_some_iff.1 h.f).1, (Array.getElem?_eq_some_iff.1 h.nw).1, (Array.getElem?_eq_some_iff.1 h.ls).1⟩
theorem FileP.below {F N L n : Nat} {wv : Value} {S : Bool} {k t : Int} {O : Bool} {now last : List UInt8} {W : List WrB} {w w' : World} (h : FileP F N L n wv S k t O now last W w) (hb : Below w.heap.size w w') : FileP F N L n wv S k t O now last W w' :=
  ⟨(hb.block F h.lt.1).trans h.f, (hb.block N h.lt.2.1).trans h.nw, (hb.block L h.lt.2.2).trans h.ls, h.ws.frame fun q _ hp hq => ⟨hb.block q hq, hp⟩, h.d1, h.d2, h.d3, h.zn, h.zl, h.n1, h.n2, h.ok⟩
theorem FileP.cells {F N L n : Nat} {wv : Value} {S : Bool} {k t : Int} {O : Bool} {now last : List UInt8} {W : List WrB} {w : World} (h : FileP F N L n wv S k t O now last W w) :
    w.cell? ⟨F, 0, none⟩ = some (.pointer (some ⟨F, 0, none⟩)) ∧ w.cell? ⟨F, 1, none⟩ = some (.slice (some ⟨N, 0, none⟩) n n) ∧ w.cell? ⟨F, 2, none⟩ = some (.slice (some ⟨L, 0, none⟩) n n) ∧ w.cell? ⟨F, 3, none⟩ = some wv ∧ w.cell? ⟨F, 4, none⟩ = some (.bool S) ∧ w.cell? ⟨F, 5, none⟩ = some (.int .i64 k) ∧ w.cell? ⟨F, 6, none⟩ = some (.int .i64 t) ∧ w.cell? ⟨F, 7, none⟩ = some (.bool O) :=
  ⟨cell_of_row _ _ _ _ _ _ h.f, cell_of_row _ _ _ _ _ _ h.f, cell_of_row _ _ _ _ _ _ h.f, cell_of_row _ _ _ _ _ _ h.f, cell_of_row _ _ _ _ _ _ h.f, cell_of_row _ _ _ _ _ _ h.f, cell_of_row _ _ _ _ _ _ h.f, cell_of_row _ _ _ _ _ _ h.f⟩
/-- Bytes over bytes in a row. -/
theorem over_put (b d : List UInt8) (o : Nat) (h : o + d.length ≤ b.length) : over (bcs b) o (bvs d) = bcs (putB b o d) := by
  have e : bcs b = (bvs (b.take o) ++ (bvs ((b.drop o).take d.length) ++ bvs (b.drop (o + d.length)))).toArray := by
    unfold bcs
    rw [← bvs_app, ← bvs_app]
    refine congrArg (fun l => (bvs l).toArray) ?_
    rw [← List.drop_drop, List.take_append_drop, List.take_append_drop]
  have ho : (bvs (b.take o)).length = o := by rw [bvs_len, List.length_take]; omega
  rw [e]
  have := over_mid (bvs ((b.drop o).take d.length)) (bvs d) (bvs (b.take o)) (bvs (b.drop (o + d.length))) (by rw [bvs_len, bvs_len, List.length_take, List.length_drop]; omega)
  rw [ho] at this
  rw [this]
  unfold putB bcs
  rw [← bvs_app, ← bvs_app]
  rfl
end Go.Proofs.Ytkjpdfcemdhnpaa
