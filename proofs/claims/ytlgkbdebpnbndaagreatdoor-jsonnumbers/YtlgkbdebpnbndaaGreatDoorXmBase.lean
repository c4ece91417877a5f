
/- Rows of bytes and of cells, of one's own and others. -/
import Derived.Deep.MidRow
import Derived.Laws.Rows
import Derived.Laws.Slices
import Derived.Deep.Draws
import Derived.Below
import Derived.Test.YtlgkbdebpnbndaaGreatDoorProg
import Derived.ChangeKeysEq
import Derived.Deep.AppendLies
import Derived.Deep.AppendSrc
import Derived.Deep.Cut
import Derived.Deep.RegionHeld3
import Derived.Deep.RegionLaw
import Derived.Deep.WholeRow
import Derived.KernelRfl
import Derived.Laws.BytesString
import Derived.Laws.CopyOwn
import Derived.Laws.IdiomCopy
import Derived.Laws.OwnMore
import Derived.Lib.ConvBytes
import Derived.Lib.LaidU8
import Derived.OpenShut
import Derived.OwnWalk
import Derived.Shelf.Spec.SlicesInsert
import Derived.WalkKit
namespace Go.Proofs.YtlgkbdebpnbndaaGreatDoor
open Go.RowKit

theorem hid {p : Prop} (h : p) : Hid p := h

def over (cs : Array Value) (o : Nat) : List Value → Array Value
  | [] => cs
  | v :: r => over (cs.setIfInBounds o v) (o + 1) r

theorem setCells_heap (g : Nat) (t : TypeId) : ∀ (vs : List Value) (o : Nat) (w : World) (cs : Array Value), w.heap[g]? = some (.cells cs t (0, 0)) → (w.setCells g o vs).heap[g]? = some (.cells (over cs o vs) t (0, 0))
  | [], _, _, _, h => h
  | v :: r, o, w, cs, h => setCells_heap g t r (o + 1) (w.setCell ⟨g, o, none⟩ v) (cs.setIfInBounds o v) (heap_setCell_same w g o cs t v h)
theorem setCells_other (g k : Nat) (hk : k ≠ g) : ∀ (vs : List Value) (o : Nat) (w : World), (w.setCells g o vs).heap[k]? = w.heap[k]?
  | [], _, _ => rfl
  | v :: r, o, w => (setCells_other g k hk r (o + 1) (w.setCell ⟨g, o, none⟩ v)).trans (heap_setCell_other w ⟨g, o, none⟩ k v hk)
theorem setCells_below (B g : Nat) (hB : B ≤ g) : ∀ (vs : List Value) (o : Nat) (a w : World), Below B a w → Below B a (w.setCells g o vs)
  | [], _, _, _, h => h
  | v :: r, o, a, w, h => setCells_below B g hB r (o + 1) a (w.setCell ⟨g, o, none⟩ v) (h.setCell (p := ⟨g, o, none⟩) hB v)
theorem setCells_size (g : Nat) : ∀ (vs : List Value) (o : Nat) (w : World), (w.setCells g o vs).heap.size = w.heap.size
  | [], _, _ => rfl
  | v :: r, o, w => (setCells_size g r (o + 1) (w.setCell ⟨g, o, none⟩ v)).trans (by simp [World.setCell])
theorem over_mid : ∀ (b b' a c : List Value), b'.length = b.length → over (a ++ (b ++ c)).toArray a.length b' = (a ++ (b' ++ c)).toArray
  | [], [], _, _, _ => rfl
  | x :: b, y :: b', a, c, h => by
    have ih := over_mid b b' (a ++ [y]) c (by simpa using h)
    simp only [over]
    have e : ((a ++ (x :: b ++ c)).toArray.setIfInBounds a.length y) = ((a ++ [y]) ++ (b ++ c)).toArray := by
      rw [List.setIfInBounds_toArray, List.set_append_right _ _ (Nat.le_refl _)]
      simp
    rw [e]
    simp only [List.length_append, List.length_cons, List.length_nil] at ih
    rw [ih]
    simp
theorem over_all (b b' : List Value) (h : b'.length = b.length) : over b.toArray 0 b' = b'.toArray := by
  have := over_mid b b' [] [] h
  simpa using this
theorem over_whole (cs cs' : Array Value) (h : cs'.size = cs.size) : over cs 0 cs'.toList = cs' := by
  have := over_all cs.toList cs'.toList (by simpa using h)
  simpa using this
theorem there_row {w : World} {g : Nat} {cs : Array Value} {t : TypeId} (h : w.heap[g]? = some (.cells cs t (0, 0))) (o n : Nat) (hn : o + n ≤ cs.size) : w.there g o n := fun j hj => by
  refine ⟨?_, frozen_of_row w g (o + j) cs t h⟩
  rw [cell_of_row w g (o + j) cs t (0, 0) h]
  have : o + j < cs.size := by omega
  simp [this]
theorem range_row {w : World} {g : Nat} {a b c : List Value} {t : TypeId} {fr : Nat × Nat} (h : w.heap[g]? = some (.cells (a ++ (b ++ c)).toArray t fr)) (o : Nat) (ho : o = a.length) : w.rangeAt g o b := fun j v hv => by
  have hj : j < b.length := (List.getElem?_eq_some_iff.1 hv).1
  rw [cell_of_row w g (o + j) _ t fr h, ho]
  rw [List.getElem?_toArray, List.getElem?_append_right (by omega), List.getElem?_append_left (by omega)]
  rw [← hv]; congr 1; omega
theorem below_drewN (B : Nat) (w : World) (n : Nat) : Below B w (w.drewN n) := ⟨rfl, rfl, rfl, Nat.le_refl _, fun _ _ => rfl⟩
theorem heap3_0 (w : World) (A B C : Obj) : (((w.alloc A).alloc B).alloc C).heap[w.heap.size]? = some A := by
  show (((w.heap.push A).push B).push C)[w.heap.size]? = _
  rw [Array.getElem?_push, if_neg (by simp; omega), Array.getElem?_push, if_neg (by simp), Array.getElem?_push, if_pos rfl]
theorem heap3_1 (w : World) (A B C : Obj) : (((w.alloc A).alloc B).alloc C).heap[w.heap.size + 1]? = some B := by
  show (((w.heap.push A).push B).push C)[w.heap.size + 1]? = _
  rw [Array.getElem?_push, if_neg (by simp), Array.getElem?_push, if_pos (by simp)]
theorem heap3_2 (w : World) (A B C : Obj) : (((w.alloc A).alloc B).alloc C).heap[w.heap.size + 1 + 1]? = some C := by
  show (((w.heap.push A).push B).push C)[w.heap.size + 1 + 1]? = _
  rw [Array.getElem?_push, if_pos (by simp)]
theorem alloc_below {B : Nat} {a w : World} (h : Below B a w) (hB : B ≤ w.heap.size) (o : Obj) : Below B a (w.alloc o) := h.alloc hB o

/-- 'x[l:]' of an array in block g. -/
theorem slice_from {P : Program} (t : TypeId) (n : Nat) (e : TypeId) (hu : P.underlying t = some (.array n e)) (hs : ∀ w, (sizeOf e).run P w = .ok 1 w) (g o l : Nat) (i : Int) (hi : i = (l : Int)) (hl : l < n) (w : World) :
    (Instr.sliceAt t (.pointer (some ⟨g, o, none⟩)) (some (.int .i64 i)) none none).run P w = .ok (.slice (some ⟨g, o + l, none⟩) (n - l) (n - l)) w := by
  subst hi
  have h1 : P.arrayLen t = n := by simp [Program.arrayLen, hu]
  have h2 : P.elem t = e := by simp [Program.elem, hu]
  rw [run_sliceAt_array_l w t ⟨g, o, none⟩ (by rw [h1, h2]; exact hu) .i64 (l : Int) (by omega) (by rw [h1]; omega)]
  rw [h1, h2, hs w]
  have h3 : ¬ n = l := by omega
  simp only [Result.andThen_ok, slicedAt, Int.toNat_natCast, if_neg h3, Nat.mul_one]
  by_cases h0 : l = 0
  · subst h0; rfl
  · simp [Addr.add, h0]
/-- Block b alone may have turned. -/
structure Only (b : Nat) (w w' : World) : Prop where
  os : w'.os = w.os
  tape : w'.tape = w.tape
  output : w'.output = w.output
  size : w'.heap.size = w.heap.size
  block : ∀ k, k ≠ b → w'.heap[k]? = w.heap[k]?
theorem Only.below {b B : Nat} {w w' : World} (h : Only b w w') (hB : B ≤ b) : Below B w w' := ⟨h.os, h.tape, h.output, by rw [h.size]; exact Nat.le_refl _, fun k hk => h.block k (by omega)⟩
theorem only_setCells (g : Nat) : ∀ (vs : List Value) (o : Nat) (w : World), Only g w (w.setCells g o vs)
  | [], _, _ => ⟨rfl, rfl, rfl, rfl, fun _ _ => rfl⟩
  | v :: r, o, w => by
    have ih := only_setCells g r (o + 1) (w.setCell ⟨g, o, none⟩ v)
    exact ⟨ih.os, ih.tape, ih.output, ih.size.trans (by simp [World.setCell]), fun k hk => (ih.block k hk).trans (heap_setCell_other w ⟨g, o, none⟩ k v hk)⟩

/-- A whole array goes into a block: the world behind it is a letter. -/
theorem wpList_store_abs {P : Program} {ops : Array Oper} {rest : List Oper} {op : Oper} {a : Act} {w : World} {Q : Exit → Act → World → Prop} (hgd : op.guard = none) (ty : TypeId) (x y : Operand) (ho : op.op = .store ty x y)
    (b o : Nat) (cells : Array Value) (hx : a.eval x = .pointer (some ⟨b, o, none⟩)) (hy : a.eval y = .agg cells)
    (t : TypeId) (cs : Array Value) (hrow : w.heap[b]? = some (.cells cs t (0, 0))) (hn : o + cells.size ≤ cs.size) (hi : (P.info? ty).map (·.size) = some cells.size) (h1 : cells.all (·.oneCell') = true)
    (h : ∀ W, Only b w W → W.heap[b]? = some (.cells (over cs o cells.toList) t (0, 0)) → wpList P ops Q rest (a.put op.dst undef) W) : wpList P ops Q (op :: rest) a w :=
  wpList_store_mid hgd ty x y ho b o cells hx hy (there_row hrow o cells.size hn) hi h1 (h _ (only_setCells b cells.toList o w) (setCells_heap b t cells.toList o w cs hrow))
end Go.Proofs.YtlgkbdebpnbndaaGreatDoor
namespace Go.Proofs.YtlgkbdebpnbndaaGreatDoor
open Go.RowKit
set_option linter.unusedSimpArgs false
set_option linter.unusedVariables false

def bcs (b : List UInt8) : Array Value := (b.map fun c => Value.int .u8 c.toNat).toArray
theorem bcs_at (b : List UInt8) (j : Nat) (h : j < b.length) : (bcs b)[j]? = some (.int .u8 (b.getD j 0).toNat) := by
  simp [bcs, List.getD_eq_getElem?_getD, h]
theorem bcs_size (b : List UInt8) : (bcs b).size = b.length := by simp [bcs]
def bvs (b : List UInt8) : List Value := b.map fun c => Value.int .u8 c.toNat
theorem bcs_eq (b : List UInt8) : bcs b = (bvs b).toArray := rfl
theorem bvs_len (b : List UInt8) : (bvs b).length = b.length := by simp [bvs]
def zer (n : Nat) : List UInt8 := List.replicate n 0
theorem bvs_one (b : List UInt8) : (bcs b).all (·.oneCell') = true := by
  refine all_oneCell_toArray fun v hv => ?_
  simp only [List.mem_map] at hv
  obtain ⟨x, _, rfl⟩ := hv
  rfl
theorem over_bytes (X : Array Value) (b : List UInt8) (h : X.size = b.length) : over X 0 (bcs b).toList = bcs b := over_whole X (bcs b) (by rw [h, bcs_size])
theorem wpList_built {P : Program} {ops : Array Oper} {rest : List Oper} {o : Oper} {a : Act} {w : World} {Q : Exit → Act → World → Prop} (hg : o.guard = none) (t : TypeId) (parts : Array (Nat × Operand)) (ho : o.op = .build t parts)
    (cells : Array Value) (hc : P.built t (parts.toList.map fun p => (p.1, a.eval p.2)) = some cells)
    (h : wpList P ops Q rest (a.put o.dst (.agg cells)) w) : wpList P ops Q (o :: rest) a w := by
  have e : (parts.map fun (i, x) => (i, a.eval x)).toList = parts.toList.map fun p => (p.1, a.eval p.2) := by simp
  refine wpList_build hg t parts ho (by rw [e, hc]; rfl) ?_
  rw [e, hc]
  exact h
theorem zer_len (n : Nat) : (zer n).length = n := by simp [zer]
theorem only_set (g i : Nat) (v : Value) (w : World) : Only g w (w.setCell ⟨g, i, none⟩ v) := only_setCells g [v] i w
theorem size5 : (Tryz.prog.info? 5).map (·.size) = some 1 := by kernel_rfl
def loadI (t : TypeId) (x : Value) : Sem Value := Instr.loadAt t x
def storeI (t : TypeId) (x v : Value) : Sem Unit := Instr.storeAt t x v
theorem bvs_one' (b : List UInt8) : ∀ v ∈ bvs b, v.oneCell' = true := fun v hv => by
  simp only [bvs, List.mem_map] at hv
  obtain ⟨x, _, rfl⟩ := hv
  rfl
theorem info_parts {P : Program} {t : TypeId} {z : Value} {n b : Nat} (h : (P.info? t).map (fun i => (i.zero, i.size, i.bytes)) = some (some z, n, b)) : ∃ i, P.info? t = some i ∧ i.zero = some z ∧ i.size = n ∧ i.bytes = b := by
  cases hi : P.info? t with
  | none => rw [hi] at h; cases h
  | some i => rw [hi] at h; simp at h; exact ⟨i, rfl, h.1, h.2.1, h.2.2⟩
theorem info5 : (Tryz.prog.info? 5).map (fun i => (i.zero, i.size, i.bytes)) = some (some (.int .u8 0), 1, 1) := by kernel_rfl
theorem push_all (l : List UInt8) : ∀ acc : ByteArray, ((l.map fun c => ((c.toNat : Nat) : Int)).foldl (fun r n => r.push (UInt8.ofNat n.toNat)) acc) = ⟨(acc.data.toList ++ l).toArray⟩ := by
  induction l with
  | nil => intro acc; simp
  | cons c t ih =>
    intro acc
    rw [List.map_cons, List.foldl_cons, ih]
    simp [ByteArray.push]
/-- string(b). -/
theorem str_of {w : World} {a : Addr} {l : List UInt8} (cap : Nat) (h : ∀ j v, (bvs l)[j]? = some v → w.cell? (a.add j) = some v) (n : Nat) (hn : n = l.length) : (convert 47 9 (.slice (some a) n cap)).run Tryz.prog w = .ok (.string ⟨l.toArray⟩) w := by
  subst hn
  rw [run_convert_bytes_string w 47 9 5 _ _ _ Tryz.underlying47 Tryz.underlying5 Tryz.underlying9]
  rw [run_bytesToString w a l.length cap (l.map fun c => ((c.toNat : Nat) : Int)) ?_]
  · rw [push_all]; rfl
  · have := run_loadCells_list (P := Tryz.prog) (w := w) a (bvs l) h
    rw [bvs_len] at this
    rw [this]
    simp [bvs, Function.comp_def]
theorem own_cells {w : World} {b g n cap : Nat} {l : List UInt8} (h : w.ownsRow b 5 1 (.slice (some ⟨g, 0, none⟩) n cap) n (bvs l)) : ∀ j v, (bvs l)[j]? = some v → w.cell? ((⟨g, 0, none⟩ : Addr).add j) = some v := fun j v hv => by
  rcases h.2 with ⟨h0, _⟩ | ⟨g', cap', cur, h1, h2, h3, h4, h5, h6, h7⟩
  · cases h0
  · cases h1
    rw [Addr.add_mid, Nat.zero_add, cell_of_row _ _ _ _ _ _ h3]
    have hj := (List.getElem?_eq_some_iff.1 hv).1
    rw [← h7, List.length_take] at hj
    rw [← h7, List.getElem?_take, if_pos (by omega)] at hv
    simpa using hv
theorem cellsOf5 : Tryz.prog.cellsOf 5 = 1 := by kernel_rfl
/-- A slice of integers that came in: it is nil, or it leads to a row of 'cap' cells. -/
def IsRow (k : IntKind) (w : World) (a : Option Addr) (len cap : Nat) (zs : List Int) : Prop :=
  (a = none ∧ len = 0 ∧ cap = 0 ∧ zs = []) ∨
  ∃ x, a = some x ∧ len ≤ cap ∧ cap ≤ maxLen ∧ zs.length = cap ∧ (∀ i, i < zs.length → w.cell? (x.add i) = some (.int k (zs.getD i 0))) ∧ ∀ n ∈ zs, (Lit.int k n).wf = true
theorem IsRow.len {k : IntKind} {w : World} {a : Option Addr} {len cap : Nat} {zs : List Int} (h : IsRow k w a len cap zs) : len ≤ maxLen := by
  rcases h with ⟨_, rfl, _⟩ | ⟨_, _, h1, h2, _⟩
  · exact Nat.zero_le _
  · exact Nat.le_trans h1 h2
theorem row_cells {w : World} {g : Nat} {l : List UInt8} {t : TypeId} {fr : Nat × Nat} (h : w.heap[g]? = some (.cells (bcs l) t fr)) : ∀ j v, (bvs l)[j]? = some v → w.cell? ((⟨g, 0, none⟩ : Addr).add j) = some v := fun j v hv => by
  rw [Addr.add_mid, Nat.zero_add, cell_of_row _ _ _ _ _ _ h, bcs_eq, List.getElem?_toArray]; exact hv
theorem own_new0 (w : World) : (w.alloc (.cells #[] 5)).ownsRow w.heap.size 5 1 (.slice (some ⟨w.heap.size, 0, none⟩) 0 0) 0 [] :=
  ⟨rfl, .inr ⟨w.heap.size, 0, #[], rfl, Nat.le_refl _, heap_alloc_new w _, Nat.le_refl _, by unfold maxLen; omega, rfl, rfl⟩⟩
/-- Bytes that came in, laid open. -/
theorem row_open {w : World} {a : Option Addr} {len cap : Nat} {zs : List Int} (h : IsRow .u8 w a len cap zs) (h0 : 0 < w.heap.size) :
    ∃ (l : List UInt8) (q o : Nat), l.length = len ∧ len ≤ cap ∧ (0 < l.length → a = some ⟨q, o, none⟩) ∧ q < w.heap.size ∧ (∀ j, j < l.length → w.cell? ⟨q, o + j, none⟩ = some (.int .u8 (l.getD j 0).toNat)) := by
  rcases h with ⟨rfl, rfl, rfl, rfl⟩ | ⟨x, rfl, h1, h2, h3, h4, h5⟩
  · exact ⟨[], 0, 0, rfl, Nat.le_refl _, fun h => absurd h (by simp), h0, fun j hj => absurd hj (by simp)⟩
  · by_cases hz : len = 0
    · subst hz
      exact ⟨[], 0, 0, rfl, h1, fun h => absurd h (by simp), h0, fun j hj => absurd hj (by simp)⟩
    · have hc0 := h4 0 (by omega)
      have hx0 : x.add 0 = x := by unfold Addr.add; simp
      rw [hx0] at hc0
      obtain ⟨q, o, sp⟩ := x
      obtain rfl := cell_spot hc0
      refine ⟨(zs.take len).map fun z => UInt8.ofNat z.toNat, q, o, by simp; omega, h1, fun _ => rfl, block_lt_of_cell hc0, fun j hj => ?_⟩
      have hj' : j < len := by simp at hj; omega
      have := h4 j (by omega)
      rw [Addr.add_mid] at this
      rw [this]
      have hjz : j < zs.length := by omega
      have hb := range_u8 h5 j
      rw [List.getElem?_eq_getElem hjz] at hb
      simp only [Option.getD_some] at hb
      have hg : zs.getD j 0 = zs[j] := by simp [List.getD_eq_getElem?_getD, hjz]
      have e : ((zs.take len).map fun z => UInt8.ofNat z.toNat).getD j 0 = UInt8.ofNat (zs[j]).toNat := by
        simp [List.getD_eq_getElem?_getD, hj', hjz]
      rw [e, hg, UInt8.toNat_ofNat']
      congr 2
      omega
theorem str_nil (w : World) : (convert 47 9 (.slice none 0 0)).run Tryz.prog w = .ok (.string ⟨#[]⟩) w := by
  rw [run_convert_bytes_string w 47 9 5 _ _ _ Tryz.underlying47 Tryz.underlying5 Tryz.underlying9]
  simp [Conv.bytesToString]
  rfl
/-- string(b) of what came in, in a later world. -/
theorem str_in {w w' : World} {a : Option Addr} {cap q o : Nat} {l : List UInt8} (hz : l.length = 0 → a = none ∧ cap = 0 ∨ ∃ x, a = some x) (hA : 0 < l.length → a = some ⟨q, o, none⟩) (hq : q < w.heap.size) (hsrc : ∀ j, j < l.length → w.cell? ⟨q, o + j, none⟩ = some (.int .u8 (l.getD j 0).toNat)) (hb : Below w.heap.size w w') :
    (convert 47 9 (.slice a l.length cap)).run Tryz.prog w' = .ok (.string ⟨l.toArray⟩) w' := by
  by_cases h0 : l.length = 0
  · obtain rfl := List.length_eq_zero_iff.1 h0
    rcases hz h0 with ⟨rfl, rfl⟩ | ⟨x, rfl⟩
    · exact str_nil w'
    · exact str_of cap (fun j v hv => by simp [bvs] at hv) 0 rfl
  · obtain rfl := hA (by omega)
    refine str_of cap (fun j v hv => ?_) l.length rfl
    have hj : j < l.length := by have := (List.getElem?_eq_some_iff.1 hv).1; rw [bvs_len] at this; exact this
    rw [Addr.add_mid, hb.cell (p := ⟨q, o + j, none⟩) hq, hsrc j hj, ← hv]
    simp [bvs, List.getD_eq_getElem?_getD, hj]
/-- The bytes l lie behind A. -/
def BytesAt (w : World) (A : Option Addr) (l : List UInt8) : Prop :=
  0 < l.length → ∃ q o, A = some ⟨q, o, none⟩ ∧ q < w.heap.size ∧ ∀ j, j < l.length → w.cell? ⟨q, o + j, none⟩ = some (.int .u8 (l.getD j 0).toNat)
theorem BytesAt.below {w w' : World} {A : Option Addr} {l : List UInt8} (h : BytesAt w A l) {B : Nat} (hb : Below B w w') (hB : w.heap.size ≤ B) : BytesAt w' A l := fun h0 => by
  obtain ⟨q, o, h1, h2, h3⟩ := h h0
  exact ⟨q, o, h1, Nat.lt_of_lt_of_le h2 hb.size, fun j hj => (hb.cell (p := ⟨q, o + j, none⟩) (Nat.lt_of_lt_of_le h2 hB)).trans (h3 j hj)⟩
theorem BytesAt.of_row {w : World} {g : Nat} {l : List UInt8} {t : TypeId} {fr : Nat × Nat} (h : w.heap[g]? = some (.cells (bcs l) t fr)) : BytesAt w (some ⟨g, 0, none⟩) l := fun _ =>
  ⟨g, 0, rfl, (Array.getElem?_eq_some_iff.1 h).1, fun j hj => by rw [cell_of_row _ _ _ _ _ _ h, Nat.zero_add, bcs_at _ _ hj]⟩
theorem BytesAt.one (w : World) (x : UInt8) (v : Int) (hv : v = (x.toNat : Int)) : BytesAt (w.alloc (.cells #[.int .u8 v] 5)) (some ⟨w.heap.size, 0, none⟩) [x] := by
  subst hv
  exact BytesAt.of_row (l := [x]) (heap_alloc_new w _)
theorem BytesAt.mid {w : World} {g o : Nat} {l : List UInt8} {t : TypeId} {fr : Nat × Nat} (h : w.heap[g]? = some (.cells (bcs l) t fr)) (n : Nat) (ho : o + n ≤ l.length) : BytesAt w (some ⟨g, o, none⟩) ((l.drop o).take n) := fun _ =>
  ⟨g, o, rfl, (Array.getElem?_eq_some_iff.1 h).1, fun j hj => by
    have hj2 : j < n := by simp at hj; omega
    rw [cell_of_row _ _ _ _ _ _ h, bcs_at _ _ (by omega)]
    congr 3
    simp [List.getD_eq_getElem?_getD, hj2]⟩
/-- A row of the call's own, read as bytes. -/
theorem BytesAt.own {w : World} {b g n cap : Nat} {l : List UInt8} (h : w.ownsRow b 5 1 (.slice (some ⟨g, 0, none⟩) n cap) n (bvs l)) : BytesAt w (some ⟨g, 0, none⟩) l := fun h0 => by
  have hc := own_cells h
  have hat : ∀ j, j < l.length → w.cell? ⟨g, 0 + j, none⟩ = some (.int .u8 (l.getD j 0).toNat) := fun j hj => by
    have := hc j (.int .u8 (l.getD j 0).toNat) (by simp [bvs, List.getD_eq_getElem?_getD, hj])
    rw [Addr.add_mid] at this
    exact this
  exact ⟨g, 0, rfl, block_lt_of_cell (hat 0 h0), hat⟩
theorem run_append_no (t ty : TypeId) (base e : Nat) (i : TypeInfo) (ht : Tryz.prog.underlying t = some (.slice e)) (hi : Tryz.prog.info? e = some i) {w : World} {g n cap c size : Nat} {xs : List Value} (hown : w.ownsRow base e size (.slice (some ⟨g, 0, none⟩) n cap) n xs) :
    (Builtin.append_ #[t, t] ty #[.slice (some ⟨g, 0, none⟩) n cap, .slice none 0 c]).run Tryz.prog w = .ok (.slice (some ⟨g, 0, none⟩) n cap) w := by
  rcases hown.2 with ⟨h, _⟩ | ⟨g', cap', cur, h, _, _, hnc, _⟩
  · cases h
  · cases h
    simp [Builtin.append_, run_underlying ht, sizeOf, typeInfo, hi, Builtin.lenOf, Builtin.firstCells, hnc, storeCells]
theorem run_append_in (ty : TypeId) {w : World} {base g n cap c : Nat} {xs : List Value} {A : Option Addr} {l : List UInt8} (hown : w.ownsRow base 5 1 (.slice (some ⟨g, 0, none⟩) n cap) n xs) (hA : BytesAt w A l) (hn : n + l.length ≤ 1000000000) (hbase : base ≤ w.heap.size) :
    ∃ g' cap' w', (Builtin.append_ #[47, 47] ty #[.slice (some ⟨g, 0, none⟩) n cap, .slice A l.length c]).run Tryz.prog w = .ok (.slice (some ⟨g', 0, none⟩) (n + l.length) cap') w' ∧
      w'.ownsRow base 5 1 (.slice (some ⟨g', 0, none⟩) (n + l.length) cap') (n + l.length) (xs ++ bvs l) ∧ w.grownBy w' (some g) ∧ (g' = g ∨ g' = w.heap.size) := by
  obtain ⟨i0, hi, hz0, hz1, hz2⟩ := info_parts info5
  by_cases h0 : l.length = 0
  · obtain rfl := List.length_eq_zero_iff.1 h0
    cases A with
    | none => exact ⟨g, cap, w, run_append_no 47 ty base 5 i0 Tryz.underlying47 hi hown, by simpa [bvs] using hown, ⟨rfl, rfl, rfl, Nat.le_refl _, fun _ _ _ => rfl⟩, .inl rfl⟩
    | some a =>
      have hroom : n + 0 ≤ cap := by
        rcases hown.2 with ⟨h, _⟩ | ⟨g', cap', cur, h, _, _, hnc, _⟩
        · cases h
        · cases h; exact hnc
      obtain ⟨w', h1, h2, h3⟩ := run_append_fits w base 47 ty 5 i0 1 Tryz.underlying47 hi hz1 g n cap xs hown a 0 c [] rfl (fun j u h => by simp at h) (fun u h => by cases h) hroom
      exact ⟨g, cap, w', h1, h2, h3, .inl rfl⟩
  · obtain ⟨q, o, rfl, hq, hc⟩ := hA (by omega)
    obtain ⟨g', cap', w', h1, h2, h3, h4, _⟩ := run_append_lies w 47 ty base 5 i0 (.int .u8 0) 1 1 Tryz.underlying47 hi hz0 hz1 hz2 rfl (by decide) _ n xs hown ⟨q, o, none⟩ l.length c (bvs l) (by rw [bvs_len, Nat.mul_one]) (fun j u hu => by
      have hj : j < l.length := by have := (List.getElem?_eq_some_iff.1 hu).1; rw [bvs_len] at this; exact this
      rw [Addr.add_mid, hc j hj, ← hu]; simp [bvs, List.getD_eq_getElem?_getD, hj]) (fun u hu => by
        simp only [bvs, List.mem_map] at hu
        obtain ⟨y, _, rfl⟩ := hu
        rfl) (by omega) (by unfold maxLen; omega) (by omega) hbase _ rfl
    refine ⟨g', cap', w', h1, h2, h3, ?_⟩
    rcases h4 with h4 | h4
    · left; simpa [Value.ownBlock] using h4.symm
    · exact .inr h4
/-- The walk's law: append(own, bytes...), in a plain region. -/
theorem wpList_app {ops : Array Oper} {rest : List Oper} {o : Oper} {a : Act} {w : World} {Q : Exit → Act → World → Prop} (hgd : o.guard = none) (s x : Operand)
    (ho : o.op = .call { callee := .builtin .append, args := #[s, x], argTypes := #[47, 47] })
    (base g n cap c m : Nat) (xs : List Value) (A : Option Addr) (l : List UInt8) (hs : a.eval s = .slice (some ⟨g, 0, none⟩) n cap) (hx : a.eval x = .slice A m c) (hm : m = l.length) (hown : w.ownsRow base 5 1 (.slice (some ⟨g, 0, none⟩) n cap) n xs)
    (hA : BytesAt w A l) (hn : n + m ≤ 1000000000) (hbase : base ≤ w.heap.size)
    (h : ∀ g' cap' w', w'.ownsRow base 5 1 (.slice (some ⟨g', 0, none⟩) (n + m) cap') (n + m) (xs ++ bvs l) → w.grownBy w' (some g) → (g' = g ∨ g' = w.heap.size) → wpList Tryz.prog ops Q rest (a.put o.dst (.slice (some ⟨g', 0, none⟩) (n + m) cap')) w') : wpList Tryz.prog ops Q (o :: rest) a w := by
  subst hm
  refine wpList_plain hgd fun _ hK => ?_
  obtain ⟨g', cap', w', hr, h2, h3, h4⟩ := run_append_in o.type (c := c) hown hA hn hbase
  unfold Oper.wp execOp
  simp only [ho, resolve, invoke, builtin, Sem.run_bind, Sem.run_pure, Result.andThen_ok, List.map_toArray, List.map_cons, List.map_nil, hs, hx, hr]
  exact hK _ _ (h g' cap' w' h2 h3 h4)
theorem own_ge {w : World} {b g n cap : Nat} {xs : List Value} (h : w.ownsRow b 5 1 (.slice (some ⟨g, 0, none⟩) n cap) n xs) : b ≤ g := by
  rcases h.2 with ⟨h0, _⟩ | ⟨g', c', cur, h1, h2, _⟩
  · cases h0
  · cases h1; exact h2
theorem own_below {B : Nat} {a w w' : World} {g n cap : Nat} {xs : List Value} (h : w.ownsRow B 5 1 (.slice (some ⟨g, 0, none⟩) n cap) n xs) (hb : Below B a w) (hB : B ≤ w.heap.size) (hg : w.grownBy w' (some g)) : Below B a w' :=
  hb.grown hg hB (fun k hk => by cases hk; exact own_ge h)
theorem own_zero (w : World) (b : Nat) (hb : b ≤ w.heap.size) : (w.alloc (.cells #[] 5)).ownsRow b 5 1 (.slice (some ⟨w.heap.size, 0, none⟩) 0 0) 0 (bvs []) :=
  ⟨rfl, .inr ⟨w.heap.size, 0, #[], rfl, hb, heap_alloc_new w _, Nat.le_refl _, by unfold maxLen; omega, rfl, rfl⟩⟩
theorem zer_take (a b : Nat) (h : b ≤ a) : (zer a).take b = zer b := by
  unfold zer; rw [List.take_replicate]; congr 1; omega
theorem zer_cut (a b : Nat) (h : b ≤ a) : zer a = zer b ++ zer (a - b) := by
  unfold zer; rw [List.replicate_append_replicate]; congr 1; omega
theorem bvs_app (a b : List UInt8) : bvs (a ++ b) = bvs a ++ bvs b := by simp [bvs]
theorem own_cap {w : World} {b g n cap : Nat} {xs : List Value} (h : w.ownsRow b 5 1 (.slice (some ⟨g, 0, none⟩) n cap) n xs) : n ≤ cap := by
  rcases h.2 with ⟨h0, _⟩ | ⟨g', c', cur, h1, _, _, h2, _⟩
  · cases h0
  · cases h1; exact h2
theorem row_at {w : World} {a : Option Addr} {len cap : Nat} {zs : List Int} (h : IsRow .u8 w a len cap zs) (h0 : 0 < w.heap.size) : ∃ l : List UInt8, l.length = len ∧ len ≤ cap ∧ BytesAt w a l := by
  obtain ⟨l, q, o, h1, h2, h3, h4, h5⟩ := row_open h h0
  exact ⟨l, h1, h2, fun hp => ⟨q, o, h3 hp, h4, h5⟩⟩
theorem u8_xor (a b : UInt8) : bits .xor .u8 (a.toNat : Int) (b.toNat : Int) = ((a ^^^ b).toNat : Int) := by
  have ha : BitVec.ofInt 8 (a.toNat : Int) = a.toBitVec := by
    rw [BitVec.ofInt_natCast]; exact BitVec.eq_of_toNat_eq (by simp)
  have hb : BitVec.ofInt 8 (b.toNat : Int) = b.toBitVec := by
    rw [BitVec.ofInt_natCast]; exact BitVec.eq_of_toNat_eq (by simp)
  unfold bits
  simp only [IntKind.bits, ha, hb]
  have hw : ∀ v : BitVec 8, IntKind.u8.wrap (v.toNat : Int) = (v.toNat : Int) := fun v => by
    rw [IntKind.wrap_u8]; have := v.isLt; omega
  exact hw _
/-- copy(row[o:..], bytes), for the walk: a plain region. -/
theorem run_copy_in (ty : TypeId) {w : World} {A : Option Addr} {l : List UInt8} {g o dLen dCap c : Nat} {t : TypeId} {cur : Array Value} (hA : BytesAt w A l) (hle : l.length ≤ dLen) (hrow : w.heap[g]? = some (.cells cur t (0, 0))) (hfit : o + l.length ≤ cur.size) :
    ∃ W, (Builtin.copy_ #[47, 47] ty #[.slice (some ⟨g, o, none⟩) dLen dCap, .slice A l.length c]).run Tryz.prog w = .ok (.int .i64 (l.length : Int)) W ∧ Only g w W ∧ W.heap[g]? = some (.cells (over cur o (bvs l)) t (0, 0)) := by
  by_cases h0 : l.length = 0
  · obtain rfl := List.length_eq_zero_iff.1 h0
    exact ⟨w, run_copy_none w 47 47 ty 5 _ _ _ _ _ _ Tryz.underlying47 size5 (by simp), ⟨rfl, rfl, rfl, rfl, fun _ _ => rfl⟩, hrow⟩
  · obtain ⟨q, oo, rfl, hq, hc⟩ := hA (by omega)
    have hth := there_row hrow o (bvs l).length (by rw [bvs_len]; exact hfit)
    have := run_copy_cells w 47 47 ty 5 g o dLen dCap ⟨q, oo, none⟩ l.length c (bvs l) Tryz.underlying47 size5 (by rw [bvs_len]; exact (Nat.min_eq_left hle).symm) (fun j v hv => by
      have hj : j < l.length := by have := (List.getElem?_eq_some_iff.1 hv).1; rw [bvs_len] at this; exact this
      rw [Addr.add_mid, hc j hj, ← hv]; simp [bvs, List.getD_eq_getElem?_getD, hj]) (fun j hj => (hth j hj).1) (fun j hj => (hth j hj).2) (bvs_one' l)
    rw [bvs_len] at this
    exact ⟨_, this, only_setCells g _ o w, setCells_heap g t _ o w cur hrow⟩
theorem wpList_copy_in {ops : Array Oper} {rest : List Oper} {o : Oper} {a : Act} {w : World} {Q : Exit → Act → World → Prop} (hgd : o.guard = none) (d s : Operand)
    (ho : o.op = .call { callee := .builtin .copy, args := #[d, s], argTypes := #[47, 47] }) (g off dLen dCap c m : Nat) (A : Option Addr) (l : List UInt8) (hd : a.eval d = .slice (some ⟨g, off, none⟩) dLen dCap) (hs : a.eval s = .slice A m c) (hm : m = l.length)
    (t : TypeId) (cur : Array Value) (hA : BytesAt w A l) (hle : l.length ≤ dLen) (hrow : w.heap[g]? = some (.cells cur t (0, 0))) (hfit : off + l.length ≤ cur.size)
    (h : ∀ W, Only g w W → W.heap[g]? = some (.cells (over cur off (bvs l)) t (0, 0)) → wpList Tryz.prog ops Q rest (a.put o.dst (.int .i64 (m : Int))) W) : wpList Tryz.prog ops Q (o :: rest) a w := by
  subst hm
  obtain ⟨W, h1, h2, h3⟩ := run_copy_in o.type (c := c) (dCap := dCap) hA hle hrow hfit
  exact Go.Proofs.wpList_copy_runI w hgd d s 47 47 ho _ _ hd hs h1 (h W h2 h3)
theorem step_copy_in {ops : Array Oper} {o : Oper} {a : Act} {w : World} {K : Act → World → Prop} {Q : Exit → Act → World → Prop} {E : Prop} (hgd : o.guard = none) (d s : Operand)
    (ho : o.op = .call { callee := .builtin .copy, args := #[d, s], argTypes := #[47, 47] }) (g off dLen dCap c m : Nat) (A : Option Addr) (l : List UInt8) (hd : a.eval d = .slice (some ⟨g, off, none⟩) dLen dCap) (hs : a.eval s = .slice A m c) (hm : m = l.length)
    (t : TypeId) (cur : Array Value) (hA : BytesAt w A l) (hle : l.length ≤ dLen) (hrow : w.heap[g]? = some (.cells cur t (0, 0))) (hfit : off + l.length ≤ cur.size)
    (h : ∀ W, Only g w W → W.heap[g]? = some (.cells (over cur off (bvs l)) t (0, 0)) → K (a.put o.dst (.int .i64 (m : Int))) W) :
    if Region.wanted o (yielded ops a.tmps) = true then Oper.wp Tryz.prog o a w K Q else E := by
  subst hm
  obtain ⟨W, h1, h2, h3⟩ := run_copy_in o.type (c := c) (dCap := dCap) hA hle hrow hfit
  exact Go.Proofs.step_copy_runI hgd d s 47 47 ho _ _ hd hs h1 (h W h2 h3)
theorem over_front (l : List UInt8) (n : Nat) (h : l.length ≤ n) : over (bcs (zer n)) 0 (bvs l) = bcs (l ++ zer (n - l.length)) := by
  have := over_mid (bvs (zer l.length)) (bvs l) [] (bvs (zer (n - l.length))) (by rw [bvs_len, bvs_len, zer_len])
  have e : bcs (zer n) = ([] ++ (bvs (zer l.length) ++ bvs (zer (n - l.length)))).toArray := by
    rw [List.nil_append, ← bvs_app, ← zer_cut n l.length h]; rfl
  rw [e]
  exact this.trans (by rw [List.nil_append, ← bvs_app]; rfl)
theorem str_at {w : World} {A : Option Addr} {l : List UInt8} {c : Nat} (hA : BytesAt w A l) (hz : l.length = 0 → A = none ∧ c = 0 ∨ ∃ x, A = some x) : (convert 47 9 (.slice A l.length c)).run Tryz.prog w = .ok (.string ⟨l.toArray⟩) w := by
  by_cases h0 : 0 < l.length
  · obtain ⟨q, o, h1, h2, h3⟩ := hA h0
    exact str_in hz (fun _ => h1) h2 h3 (Below.refl _ _)
  · obtain rfl := List.length_eq_zero_iff.1 (by omega : l.length = 0)
    rcases hz rfl with ⟨rfl, rfl⟩ | ⟨x, rfl⟩
    · exact str_nil w
    · exact str_of c (fun j v hv => by simp [bvs] at hv) 0 rfl
theorem str_same (a b : List UInt8) : ((⟨a.toArray⟩ : ByteArray).toList == (⟨b.toArray⟩ : ByteArray).toList) = decide (a = b) := by
  rw [ByteArray.toList_eq, ByteArray.toList_eq]
  by_cases h : a = b <;> simp [h]
theorem row_nil {w : World} {a : Option Addr} {len cap : Nat} {zs : List Int} (h : IsRow .u8 w a len cap zs) : len = 0 → a = none ∧ cap = 0 ∨ ∃ x, a = some x := fun _ => by
  rcases h with ⟨h1, _, h2, _⟩ | ⟨x, h1, _⟩
  · exact .inl ⟨h1, h2⟩
  · exact .inr ⟨x, h1⟩
theorem own_lt {w : World} {b g n cap : Nat} {xs : List Value} (h : w.ownsRow b 5 1 (.slice (some ⟨g, 0, none⟩) n cap) n xs) : g < w.heap.size := by
  rcases h.2 with ⟨h0, _⟩ | ⟨g', c', cur, h1, _, h2, _⟩
  · cases h0
  · cases h1; exact (Array.getElem?_eq_some_iff.1 h2).1
theorem own_mono {w : World} {b b' g n cap : Nat} {xs : List Value} (h : w.ownsRow b 5 1 (.slice (some ⟨g, 0, none⟩) n cap) n xs) (hb : b' ≤ b) : w.ownsRow b' 5 1 (.slice (some ⟨g, 0, none⟩) n cap) n xs := by
  refine ⟨h.1, ?_⟩
  rcases h.2 with ⟨h0, _⟩ | ⟨g', c', cur, h1, h2, h3⟩
  · cases h0
  · exact .inr ⟨g', c', cur, h1, Nat.le_trans hb h2, h3⟩
theorem grown_of_below {w w' : World} (h : Below w.heap.size w w') : w.grownBy w' none := ⟨h.os, h.tape, h.output, h.size, fun k hk _ => h.block k hk⟩
theorem grown_of_only {w w' : World} {g : Nat} (h : Only g w w') : w.grownBy w' (some g) := ⟨h.os, h.tape, h.output, by rw [h.size]; exact Nat.le_refl _, fun k _ hg => h.block k (fun e => hg (by rw [e]))⟩
theorem put_byteN (D : List UInt8) (n k : Nat) (y : UInt8) (hk : k < D.length) (hn : k < n) (hy : y = D.getD k 0) : (bcs (D.take k ++ zer (n - k))).setIfInBounds k (.int .u8 y.toNat) = bcs (D.take (k + 1) ++ zer (n - (k + 1))) := by
  have e : (D.take k ++ zer (n - k)).set k y = D.take (k + 1) ++ zer (n - (k + 1)) := by
    rw [List.set_append_right _ _ (by simp; omega)]
    have e0 : k - (D.take k).length = 0 := by simp; omega
    obtain ⟨m, hm⟩ : ∃ m, n - k = m + 1 := ⟨n - k - 1, by omega⟩
    rw [e0, hm, show n - (k + 1) = m from by omega, List.take_succ_eq_append_getElem hk, hy, List.getD_eq_getElem?_getD, List.getElem?_eq_getElem hk, List.append_assoc]
    rfl
  rw [← e]
  simp [bcs, List.map_set]
theorem conv_in (w : World) (s : ByteArray) : ∃ cap W1, (convert 9 47 (.string s)).run Tryz.prog w = .ok (.slice (some ⟨w.heap.size, 0, none⟩) s.size cap) W1 ∧ BytesAt W1 (some ⟨w.heap.size, 0, none⟩) s.data.toList ∧ Below w.heap.size w W1 ∧ s.size ≤ cap := by
  refine ⟨_, _, Lib.run_convert_string_bytes w 9 47 5 s Tryz.underlying9 Tryz.underlying47 Tryz.underlying5, fun _ => ⟨w.heap.size, 0, rfl, by rw [Lib.bytesWorld_size]; omega, fun j hj => ?_⟩, ⟨rfl, rfl, rfl, by rw [Lib.bytesWorld_size]; omega, fun k hk => Lib.bytesWorld_at_old w 5 s k hk⟩, grownCap_ge _ _ _ _⟩
  rw [Nat.zero_add]
  exact Lib.bytesWorld_cell w 5 s j (by simpa using hj)
theorem results_row_tmp {P : Program} {fn : Func} {p q : Tmp} {ty : TypeId} (h : fn.results = #[.cell p ty, .tmp q]) (tmps : Array Value) (w : World) (g : Nat) (t : TypeId) (cs : Array Value) (fr : Nat × Nat) (d : TypeDesc) (v : Value)
    (hp : tmps[p]? = some (.pointer (some ⟨g, 0, none⟩))) (hq : tmps[q]? = some v) (hg : w.heap[g]? = some (.cells cs t fr)) (hu : P.underlying ty = some d) (hd : (match d with | .struct _ | .array _ _ => true | _ => false) = true) (hi : (P.info? ty).map (·.size) = some cs.size) :
    (results fn tmps).run P w = .ok (.tuple #[.agg cs, v]) w := by
  simp [results, h, hp, hq, asAddr, run_loadVar_row w g t ty cs fr d hg hu hd hi]
theorem ba_len (s : ByteArray) : s.data.toList.length = s.size := by simp
theorem items_any (d : Nat) (F G : List UInt8) (w : World) : ∀ is : List Nat, (∀ i ∈ is, i < F.length ∧ i < G.length) → (Op.eqItems (d + 1) 5 (Tryz.prog.cellsOf 5) (bcs F) (bcs G) is).run Tryz.prog w = .ok (decide (∀ i ∈ is, F.getD i 0 = G.getD i 0)) w
  | [], _ => by simp [Op.eqItems]
  | i :: is, h => by
    have hp : (part 5 (bcs F) i).run Tryz.prog w = .ok (.int .u8 (F.getD i 0).toNat) w := by
      simp [part, Tryz.isAgg5, bcs_at F i (h i (by simp)).1]
    have hq : (part 5 (bcs G) i).run Tryz.prog w = .ok (.int .u8 (G.getD i 0).toNat) w := by
      simp [part, Tryz.isAgg5, bcs_at G i (h i (by simp)).2]
    have he := run_equalIn_int (P := Tryz.prog) w d 5 .u8 .u8 (F.getD i 0).toNat (G.getD i 0).toNat Tryz.underlying5
    have ih := items_any d F G w is (fun j hj => h j (by simp [hj]))
    simp only [Op.eqItems, Sem.run_bind]
    rw [cellsOf5, Nat.mul_one, hp]
    simp only [Result.andThen_ok]
    rw [hq]
    simp only [Result.andThen_ok]
    rw [he]
    rw [cellsOf5] at ih
    by_cases hx : F.getD i 0 = G.getD i 0
    · have e1 : (((F.getD i 0).toNat : Int) == ((G.getD i 0).toNat : Int)) = true := by rw [hx]; simp
      rw [e1]
      simp only [Result.andThen_ok, Bool.not_true, Bool.false_eq_true, if_false]
      rw [ih]
      refine congrArg (fun b => Result.ok b w) (decide_eq_decide.2 ?_)
      constructor
      · intro h2 j hj
        rcases List.mem_cons.1 hj with rfl | hj
        · exact hx
        · exact h2 j hj
      · exact fun h2 j hj => h2 j (List.mem_cons_of_mem _ hj)
    · have e1 : (((F.getD i 0).toNat : Int) == ((G.getD i 0).toNat : Int)) = false := by
        apply beq_false_of_ne
        intro h2
        exact hx (UInt8.toNat_inj.1 (by omega))
      rw [e1]
      have e2 : decide (∀ j ∈ i :: is, F.getD j 0 = G.getD j 0) = false := by
        simp only [decide_eq_false_iff_not]
        exact fun h2 => hx (h2 i (by simp))
      rw [e2]
      simp
/-- The row g of the call's own (b: what was there before) holds the bytes l, n of them, and room for cap. -/
structure Own (w : World) (b g n cap : Nat) (l : List UInt8) : Prop where
  ge : b ≤ g
  len : l.length = n
  row : ∃ (rest : List Value) (fz : Nat × Nat), w.heap[g]? = some (.cells (bvs l ++ rest).toArray 5 fz) ∧ n + rest.length = cap ∧ (fz.2 = 0 ∨ cap ≤ fz.1)
theorem Own.le {w : World} {b g n cap : Nat} {l : List UInt8} (h : Own w b g n cap l) : n ≤ cap := by
  obtain ⟨r, fz, h1, h2, h3⟩ := h.row; omega
theorem Own.lt {w : World} {b g n cap : Nat} {l : List UInt8} (h : Own w b g n cap l) : g < w.heap.size := by
  obtain ⟨r, fz, h1, h2, h3⟩ := h.row; exact (Array.getElem?_eq_some_iff.1 h1).1
theorem Own.mono {w : World} {b b' g n cap : Nat} {l : List UInt8} (h : Own w b g n cap l) (hb : b' ≤ b) : Own w b' g n cap l := ⟨Nat.le_trans hb h.ge, h.len, h.row⟩
theorem Own.kept {w w' : World} {b g n cap : Nat} {l : List UInt8} (h : Own w b g n cap l) (hk : w'.heap[g]? = w.heap[g]?) : Own w' b g n cap l := by
  obtain ⟨r, fz, h1, h2⟩ := h.row
  exact ⟨h.ge, h.len, r, fz, hk.trans h1, h2⟩
theorem Own.below {w w' : World} {b g n cap B : Nat} {l : List UInt8} (h : Own w b g n cap l) (hb : Below B w w') (hB : w.heap.size ≤ B) : Own w' b g n cap l := h.kept (hb.block g (Nat.lt_of_lt_of_le h.lt hB))
theorem Own.alloc {w : World} {b g n cap : Nat} {l : List UInt8} (h : Own w b g n cap l) (o : Obj) : Own (w.alloc o) b g n cap l := h.kept (Below.heap_alloc w o g h.lt)
theorem Own.drew {w : World} {b g n cap : Nat} {l : List UInt8} (h : Own w b g n cap l) : Own w.drew b g n cap l := h.kept rfl
theorem Own.bytes {w : World} {b g n cap : Nat} {l : List UInt8} (h : Own w b g n cap l) : BytesAt w (some ⟨g, 0, none⟩) l := fun _ => by
  obtain ⟨r, fz, h1, h2, h3⟩ := h.row
  refine ⟨g, 0, rfl, h.lt, fun j hj => ?_⟩
  rw [cell_of_row _ _ _ _ _ _ h1, List.getElem?_toArray, List.getElem?_append_left (by rw [bvs_len]; omega)]
  simp [bvs, List.getD_eq_getElem?_getD, hj]
theorem setCells_heapF (g : Nat) (t : TypeId) (fz : Nat × Nat) : ∀ (vs : List Value) (o : Nat) (w : World) (cs : Array Value), w.heap[g]? = some (.cells cs t fz) → (w.setCells g o vs).heap[g]? = some (.cells (over cs o vs) t fz)
  | [], _, _, _, h => h
  | v :: r, o, w, cs, h => setCells_heapF g t fz r (o + 1) (w.setCell ⟨g, o, none⟩ v) (cs.setIfInBounds o v) (by simp [World.setCell, Array.getElem?_modify, h])
theorem Own.cell {w : World} {b g n cap : Nat} {l : List UInt8} (h : Own w b g n cap l) (j : Nat) (hj : j < cap) : (w.cell? ⟨g, j, none⟩).isSome = true ∧ w.frozen? ⟨g, j, none⟩ = false := by
  obtain ⟨r, fz, h1, h2, h3⟩ := h.row
  constructor
  · rw [cell_of_row _ _ _ _ _ _ h1, List.getElem?_toArray, List.getElem?_eq_getElem (by rw [List.length_append, bvs_len, h.len]; omega)]; rfl
  · simp only [World.frozen?, h1]
    rcases h3 with h3 | h3
    · simp [h3]
    · simp; omega
/-- A byte of it is set. -/
theorem Own.set {w : World} {b g n cap : Nat} {l : List UInt8} (h : Own w b g n cap l) (j : Nat) (hj : j < n) (x : UInt8) : Own (w.setCell ⟨g, j, none⟩ (.int .u8 x.toNat)) b g n cap (l.set j x) := by
  obtain ⟨r, fz, h1, h2, h3⟩ := h.row
  refine ⟨h.ge, by rw [List.length_set]; exact h.len, r, fz, ?_, h2, h3⟩
  simp only [World.setCell, Array.getElem?_modify, h1, if_true, Option.map_some]
  congr 2
  rw [List.setIfInBounds_toArray, List.set_append_left _ _ (by rw [bvs_len, h.len]; exact hj)]
  simp [bvs, List.map_set]
theorem src_bytes {w : World} {A : Option Addr} {l : List UInt8} (hA : BytesAt w A l) (c : Nat) (hz : l.length = 0 → A = none ∨ ∃ a, A = some a) : Src Tryz.prog 1 47 (.slice A l.length c) l.length (bvs l) w := by
  by_cases h0 : l.length = 0
  · obtain rfl := List.length_eq_zero_iff.1 h0
    cases A with
    | none => exact Src.ofNil w Tryz.underlying47 c
    | some a => exact Src.ofSlice w Tryz.underlying47 a 0 c [] rfl (fun j u h => by simp at h) (fun u h => by cases h)
  · obtain ⟨q, o, rfl, hq, hc⟩ := hA (by omega)
    exact Src.ofSlice w Tryz.underlying47 ⟨q, o, none⟩ l.length c (bvs l) (by rw [bvs_len, Nat.mul_one]) (fun j u hu => by
      have hj : j < l.length := by have := (List.getElem?_eq_some_iff.1 hu).1; rw [bvs_len] at this; exact this
      rw [Addr.add_mid, hc j hj, ← hu]; simp [bvs, List.getD_eq_getElem?_getD, hj]) (fun u hu => by
        simp only [bvs, List.mem_map] at hu
        obtain ⟨y, _, rfl⟩ := hu
        rfl)
theorem opt_any {α : Type} (A : Option α) : A = none ∨ ∃ a, A = some a := by cases A <;> simp
theorem src_text (w : World) (s : ByteArray) : Src Tryz.prog 1 9 (.string s) s.size (bvs s.data.toList) w := Src.ofString w Tryz.underlying9 s
theorem Own.run_app {w : World} {b g n cap m : Nat} {l l2 : List UInt8} (h : Own w b g n cap l) (tx ty : TypeId) (x : Value) (hs : Src Tryz.prog 1 tx x m (bvs l2) w) (hn : n + m ≤ 1000000000) (hb : b ≤ w.heap.size) :
    ∃ g' cap' w', (Builtin.append_ #[47, tx] ty #[.slice (some ⟨g, 0, none⟩) n cap, x]).run Tryz.prog w = .ok (.slice (some ⟨g', 0, none⟩) (n + m) cap') w' ∧ Own w' b g' (n + m) cap' (l ++ l2) ∧ w.grownBy w' (some g) ∧ (g' = g ∨ g' = w.heap.size) := by
  obtain ⟨i0, hi, hz0, hz1, hz2⟩ := info_parts info5
  have hm : l2.length = m := by have := hs.newsLen; rw [bvs_len, Nat.mul_one] at this; exact this
  have hs' : Src Tryz.prog i0.size tx x m (bvs l2) w := by rw [hz1]; exact hs
  by_cases hroom : n + m ≤ cap
  · obtain ⟨r, fz, h1, h2, h3⟩ := h.row
    have hr := run_append_room_src w 47 tx ty 5 i0 Tryz.underlying47 hi g 0 n cap x m (bvs l2) hs' hroom (fun j hj => by rw [bvs_len, hm] at hj; rw [hz1, Nat.zero_add, Nat.mul_one]; exact (h.cell (n + j) (by omega)).1) (fun j hj => by rw [bvs_len, hm] at hj; rw [hz1, Nat.zero_add, Nat.mul_one]; exact (h.cell (n + j) (by omega)).2)
    rw [hz1, Nat.zero_add, Nat.mul_one] at hr
    refine ⟨g, cap, _, hr, ⟨h.ge, by rw [List.length_append, h.len, hm], r.drop m, fz, ?_, by rw [List.length_drop]; omega, h3⟩, ?_, .inl rfl⟩
    · rw [setCells_heapF g 5 fz (bvs l2) n w _ h1]
      have := over_mid (r.take m) (bvs l2) (bvs l) (r.drop m) (by rw [bvs_len, hm, List.length_take]; omega)
      rw [List.take_append_drop, bvs_len, h.len] at this
      rw [this, bvs_app, List.append_assoc]
    · exact grown_of_only (only_setCells g (bvs l2) n w)
  · have hold : (Builtin.firstCells i0.size n (.slice (some ⟨g, 0, none⟩) n cap)).run Tryz.prog w.drew = .ok (bvs l).toArray w.drew := by
      have hbt := h.bytes
      refine run_firstCells_some w.drew i0.size n ⟨g, 0, none⟩ n cap (bvs l) (by rw [hz1, bvs_len, Nat.mul_one, h.len]) (fun j u hu => ?_)
      have hj : j < l.length := by have := (List.getElem?_eq_some_iff.1 hu).1; rw [bvs_len] at this; exact this
      obtain ⟨q, o, e, hq, hc⟩ := hbt (by omega)
      cases e
      have := hc j hj
      rw [Addr.add_mid]
      show w.cell? _ = _
      rw [this, ← hu]; simp [bvs, List.getD_eq_getElem?_getD, hj]
    have hr := run_append_grow_src w 47 tx ty 5 i0 (.int .u8 0) Tryz.underlying47 hi hz0 (some ⟨g, 0, none⟩) n cap (bvs l) hold x m (bvs l2) hs' (by omega) (by omega) (growslice_fits (by omega) (by rw [hz2]; omega))
    have hge := grownCap_ge w (n + m) cap 5
    refine ⟨w.heap.size, _, _, hr, ⟨hb, by rw [List.length_append, h.len, hm], (Builtin.zeroCells (Value.int .u8 0).cells (grownCap w (n + m) cap 5 - (n + m))).toList, (0, 0), ?_, ?_, .inl rfl⟩, ⟨rfl, rfl, rfl, by simp, fun k hk _ => Below.heap_alloc w.drew _ k hk⟩, .inr rfl⟩
    · rw [show w.heap.size = w.drew.heap.size from rfl, heap_alloc_new w.drew _, bvs_app]
      refine congrArg (fun a => some (Obj.cells a 5 (0, 0))) (Array.ext' ?_)
      simp
    · rw [Array.length_toList, size_zeroCells]
      have : (Value.int .u8 0).cells.size = 1 := rfl
      rw [this]; omega
/-- The walk's law: append(own, bytes or a text...), in a plain region. -/
theorem wpList_own {ops : Array Oper} {rest : List Oper} {o : Oper} {a : Act} {w : World} {Q : Exit → Act → World → Prop} (hgd : o.guard = none) (s x : Operand) (tx : TypeId)
    (ho : o.op = .call { callee := .builtin .append, args := #[s, x], argTypes := #[47, tx] })
    (base g n cap m : Nat) (l l2 : List UInt8) (xv : Value) (hs : a.eval s = .slice (some ⟨g, 0, none⟩) n cap) (hx : a.eval x = xv) (hown : Own w base g n cap l)
    (hA : Src Tryz.prog 1 tx xv m (bvs l2) w) (hn : n + m ≤ 1000000000) (hbase : base ≤ w.heap.size)
    (h : ∀ g' cap' w', Own w' base g' (n + m) cap' (l ++ l2) → w.grownBy w' (some g) → (g' = g ∨ g' = w.heap.size) → wpList Tryz.prog ops Q rest (a.put o.dst (.slice (some ⟨g', 0, none⟩) (n + m) cap')) w') : wpList Tryz.prog ops Q (o :: rest) a w := by
  refine wpList_plain hgd fun _ hK => ?_
  obtain ⟨g', cap', w', hr, h2, h3, h4⟩ := hown.run_app tx o.type xv hA hn hbase
  unfold Oper.wp execOp
  simp only [ho, resolve, invoke, builtin, Sem.run_bind, Sem.run_pure, Result.andThen_ok, List.map_toArray, List.map_cons, List.map_nil, hs, hx, hr]
  exact hK _ _ (h g' cap' w' h2 h3 h4)
theorem Own.grown {B : Nat} {a w w' : World} {g n cap : Nat} {l : List UInt8} (h : Own w B g n cap l) (hb : Below B a w) (hB : B ≤ w.heap.size) (hg : w.grownBy w' (some g)) : Below B a w' :=
  hb.grown hg hB (fun k hk => by cases hk; exact h.ge)
theorem Own.of_own {w : World} {b g n cap : Nat} {l : List UInt8} (h : w.ownsRow b 5 1 (.slice (some ⟨g, 0, none⟩) n cap) n (bvs l)) : Own w b g n cap l := by
  have h1 := h.1
  rcases h.2 with ⟨h0, _⟩ | ⟨g', c', cur, e, h2, h3, h4, h5, h6, h7⟩
  · cases h0
  · cases e
    rw [bvs_len, Nat.mul_one] at h1
    rw [Nat.mul_one] at h6 h7
    refine ⟨h2, h1, cur.toList.drop n, (0, 0), ?_, by rw [List.length_drop, Array.length_toList]; omega, .inl rfl⟩
    rw [← h7, List.take_append_drop]; exact h3
theorem Own.new (w : World) (b n cap : Nat) (hb : b ≤ w.heap.size) (hn : n ≤ cap) : Own (w.alloc (.cells (bcs (zer cap)) 5)) b w.heap.size n cap (zer n) :=
  ⟨hb, zer_len n, bvs (zer (cap - n)), (0, 0), by rw [heap_alloc_new, ← bvs_app, ← zer_cut cap n hn]; rfl, by rw [bvs_len, zer_len]; omega, .inl rfl⟩
/-- []byte(s), a row of the call's own. -/
theorem conv_own (w : World) (s : ByteArray) : ∃ cap W1, (convert 9 47 (.string s)).run Tryz.prog w = .ok (.slice (some ⟨w.heap.size, 0, none⟩) s.size cap) W1 ∧ Own W1 w.heap.size w.heap.size s.size cap s.data.toList ∧ Below w.heap.size w W1 := by
  have hge := grownCap_ge w s.size 0 5
  refine ⟨_, _, Lib.run_convert_string_bytes w 9 47 5 s Tryz.underlying9 Tryz.underlying47 Tryz.underlying5, ⟨Nat.le_refl _, by simp, List.replicate (grownCap w s.size 0 5 - s.size) (.int .u8 0), ((Lib.bytesCells w 5 s).size, (Lib.bytesCells w 5 s).size + 1), ?_, by rw [List.length_replicate]; omega, .inr ?_⟩, ⟨rfl, rfl, rfl, by rw [Lib.bytesWorld_size]; omega, fun k hk => Lib.bytesWorld_at_old w 5 s k hk⟩⟩
  · rw [Lib.bytesWorld_at_new]
    congr 2
    apply Array.ext'
    simp [Lib.bytesCells, bvs]
  · simp [Lib.bytesCells]; omega
/-- copy(row[o:..], bytes): as many as have room. -/
theorem run_copy_cut (ty : TypeId) {w : World} {A : Option Addr} {l : List UInt8} {g o dLen dCap c : Nat} {t : TypeId} {cur : Array Value} (hA : BytesAt w A l) (hrow : w.heap[g]? = some (.cells cur t (0, 0))) (hfit : o + dLen ≤ cur.size) :
    ∃ W v, (Builtin.copy_ #[47, 47] ty #[.slice (some ⟨g, o, none⟩) dLen dCap, .slice A l.length c]).run Tryz.prog w = .ok v W ∧ Only g w W ∧ W.heap[g]? = some (.cells (over cur o (bvs (l.take dLen))) t (0, 0)) := by
  by_cases h0 : l.length = 0
  · obtain rfl := List.length_eq_zero_iff.1 h0
    exact ⟨w, _, run_copy_none w 47 47 ty 5 _ _ _ _ _ _ Tryz.underlying47 size5 (by simp), ⟨rfl, rfl, rfl, rfl, fun _ _ => rfl⟩, by rw [List.take_nil]; exact hrow⟩
  · obtain ⟨q, oo, rfl, hq, hc⟩ := hA (by omega)
    have hth := there_row hrow o (bvs (l.take dLen)).length (by rw [bvs_len, List.length_take]; omega)
    have := run_copy_cells w 47 47 ty 5 g o dLen dCap ⟨q, oo, none⟩ l.length c (bvs (l.take dLen)) Tryz.underlying47 size5 (by rw [bvs_len, List.length_take]; first | rfl | exact Nat.min_comm _ _) (fun j v hv => by
      have hj : j < (l.take dLen).length := by have := (List.getElem?_eq_some_iff.1 hv).1; rw [bvs_len] at this; exact this
      have hj2 : j < l.length ∧ j < dLen := by rw [List.length_take] at hj; omega
      rw [Addr.add_mid, hc j hj2.1, ← hv]
      simp [bvs, List.getD_eq_getElem?_getD, hj2.1, hj2.2]) (fun j hj => (hth j hj).1) (fun j hj => (hth j hj).2) (bvs_one' (l.take dLen))
    exact ⟨_, _, this, only_setCells g _ o w, setCells_heap g t _ o w cur hrow⟩
theorem made_bytes (n : Nat) : madeCells #[Value.int .u8 0] n = bcs (zer n) := by
  apply Array.ext
  · rw [size_madeCells, bcs_size, zer_len]
  · intro i h1 h2
    simp [madeCells, bcs, zer, Nat.mod_one]
theorem make_bytes (n c : Nat) (hn : n ≤ c) (hc : c ≤ 100000) (w : World) : (Instr.makeSlice 47 (.int .i64 (n : Int)) (.int .i64 (c : Int))).run Tryz.prog w = .ok (.slice (some ⟨w.heap.size, 0, none⟩) n c) (w.alloc (.cells (bcs (zer c)) 5)) := by
  obtain ⟨i, hi, hz0, hz1, hz2⟩ := info_parts info5
  rw [run_makeSlice w 47 5 i (.int .u8 0) Tryz.underlying47 hi hz0 .i64 .i64 (n : Int) (c : Int) (by omega) (by omega) (by rw [hz1]; omega) (by rw [hz2]; omega) (by omega), hz1, Int.toNat_natCast, Int.toNat_natCast, Nat.mul_one, ← made_bytes]
  rfl
theorem step_copy_cut {ops : Array Oper} {o : Oper} {a : Act} {w : World} {K : Act → World → Prop} {Q : Exit → Act → World → Prop} {E : Prop} (hgd : o.guard = none) (d s : Operand)
    (ho : o.op = .call { callee := .builtin .copy, args := #[d, s], argTypes := #[47, 47] }) (g off dLen dCap c m : Nat) (A : Option Addr) (l : List UInt8) (hd : a.eval d = .slice (some ⟨g, off, none⟩) dLen dCap) (hs : a.eval s = .slice A m c) (hm : m = l.length)
    (t : TypeId) (cur : Array Value) (hA : BytesAt w A l) (hrow : w.heap[g]? = some (.cells cur t (0, 0))) (hfit : off + dLen ≤ cur.size)
    (h : ∀ W v, Only g w W → W.heap[g]? = some (.cells (over cur off (bvs (l.take dLen))) t (0, 0)) → K (a.put o.dst v) W) :
    if Region.wanted o (yielded ops a.tmps) = true then Oper.wp Tryz.prog o a w K Q else E := by
  subst hm
  obtain ⟨W, v, h1, h2, h3⟩ := run_copy_cut o.type (c := c) (dCap := dCap) hA hrow hfit
  exact Go.Proofs.step_copy_runI hgd d s 47 47 ho _ _ hd hs h1 (h W v h2 h3)
theorem Own.zero (w : World) (b : Nat) (hb : b ≤ w.heap.size) : Own (w.alloc (.cells #[] 5)) b w.heap.size 0 0 [] := Own.of_own (own_zero w b hb)
theorem Own.other {w w' : World} {b g g2 n cap : Nat} {l : List UInt8} (h : Own w b g n cap l) (hg : w.grownBy w' (some g2)) (hne : g ≠ g2) : Own w' b g n cap l := h.kept (hg.block g h.lt (fun e => hne (by cases e; rfl)))
theorem take_snoc (l : List UInt8) (j : Nat) (h : j < l.length) : l.take (j + 1) = l.take j ++ [l.getD j 0] := by
  rw [List.take_succ_eq_append_getElem h, List.getD_eq_getElem?_getD, List.getElem?_eq_getElem h]; rfl
theorem str_row {w : World} {g n c : Nat} {l : List UInt8} (h : BytesAt w (some ⟨g, 0, none⟩) l) (hl : l.length = n) : (convert 47 9 (.slice (some ⟨g, 0, none⟩) n c)).run Tryz.prog w = .ok (.string ⟨l.toArray⟩) w := by
  subst hl
  exact str_at h (fun _ => .inr ⟨_, rfl⟩)
theorem BytesAt.take {w : World} {A : Option Addr} {l : List UInt8} (h : BytesAt w A l) (n : Nat) : BytesAt w A (l.take n) := fun h0 => by
  have h1 : 0 < l.length := by rw [List.length_take] at h0; omega
  obtain ⟨q, o, e, hq, hc⟩ := h h1
  refine ⟨q, o, e, hq, fun j hj => ?_⟩
  rw [List.length_take] at hj
  rw [hc j (by omega)]
  congr 3
  simp [List.getD_eq_getElem?_getD, show j < n from by omega]
theorem own_second (w : World) (o1 : Obj) (c : Nat) : Own ((w.alloc o1).alloc (.cells (bcs (zer c)) 5)) (w.heap.size + 1) (w.heap.size + 1) 0 c [] := by
  have := Own.new (w.alloc o1) (w.heap.size + 1) 0 c (by simp) (by omega)
  rw [show (w.alloc o1).heap.size = w.heap.size + 1 from by simp] at this
  exact this
theorem BytesAt.part {w : World} {q o : Nat} {l : List UInt8} (h : BytesAt w (some ⟨q, o, none⟩) l) (a n : Nat) (h1 : a + n ≤ l.length) : BytesAt w (some ⟨q, o + a, none⟩) ((l.drop a).take n) := fun h0 => by
  have h2 : 0 < l.length := by rw [List.length_take, List.length_drop] at h0; omega
  obtain ⟨q', o', e, hq, hc⟩ := h h2
  cases e
  refine ⟨q, o + a, rfl, hq, fun j hj => ?_⟩
  rw [List.length_take, List.length_drop] at hj
  rw [Nat.add_assoc, hc (a + j) (by omega)]
  congr 3
  simp [List.getD_eq_getElem?_getD, show j < n from by omega]
/-- append(own, bytes or a text...), in a region that draws its order. -/
theorem step_own {ops : Array Oper} {o : Oper} {a : Act} {w : World} {K : Act → World → Prop} {Q : Exit → Act → World → Prop} {E : Prop} (hgd : o.guard = none) (s x : Operand) (tx : TypeId)
    (ho : o.op = .call { callee := .builtin .append, args := #[s, x], argTypes := #[47, tx] })
    (base g n cap m : Nat) (l l2 : List UInt8) (xv : Value) (hs : a.eval s = .slice (some ⟨g, 0, none⟩) n cap) (hx : a.eval x = xv) (hown : Own w base g n cap l)
    (hA : Src Tryz.prog 1 tx xv m (bvs l2) w) (hn : n + m ≤ 1000000000) (hbase : base ≤ w.heap.size)
    (h : ∀ g' cap' w', Own w' base g' (n + m) cap' (l ++ l2) → w.grownBy w' (some g) → (g' = g ∨ g' = w.heap.size) → K (a.put o.dst (.slice (some ⟨g', 0, none⟩) (n + m) cap')) w') :
    if Region.wanted o (yielded ops a.tmps) = true then Oper.wp Tryz.prog o a w K Q else E := by
  have hw : Region.wanted o (yielded ops a.tmps) = true := by simp [Region.wanted, hgd]
  rw [if_pos hw]
  obtain ⟨g', cap', w', hr, h2, h3, h4⟩ := hown.run_app tx o.type xv hA hn hbase
  unfold Oper.wp
  simp [execOp, ho, resolve, invoke, builtin, hs, hx, hr, Result.andThen]
  exact h g' cap' w' h2 h3 h4
theorem Own.of_row {w : World} {b g : Nat} {l : List UInt8} (hb : b ≤ g) (h : w.heap[g]? = some (.cells (bcs l) 5 (0, 0))) : Own w b g l.length l.length l :=
  ⟨hb, rfl, [], (0, 0), by rw [List.append_nil]; exact h, by simp, .inl rfl⟩
theorem Own.put {w : World} {b g n cap k : Nat} {l : List UInt8} {v : Value} (h : Own w b g n cap l) (hk : g ≠ k) (j : Nat) : Own (w.setCell ⟨k, j, none⟩ v) b g n cap l := h.kept (heap_setCell_other _ _ _ _ hk)
theorem Own.src {w : World} {b g n c : Nat} {l : List UInt8} (h : Own w b g n c l) : Src Tryz.prog 1 47 (.slice (some ⟨g, 0, none⟩) n c) n (bvs l) w := by
  have := src_bytes h.bytes c (fun _ => opt_any _)
  rw [h.len] at this
  exact this
theorem str_part {w : World} {A : Addr} {n c : Nat} {l : List UInt8} (h : BytesAt w (some A) l) (hl : l.length = n) : (convert 47 9 (.slice (some A) n c)).run Tryz.prog w = .ok (.string ⟨l.toArray⟩) w := by
  subst hl
  exact str_at h (fun _ => .inr ⟨_, rfl⟩)
/-- append([]byte{}, bytes or a text...): whoever else holds that empty row. -/
theorem run_fresh (tx ty : TypeId) {w : World} {g m : Nat} {x : Value} {l : List UInt8} (hs : Src Tryz.prog 1 tx x m (bvs l) w) (hm : m ≤ 1000000000) :
    ∃ A c w', (Builtin.append_ #[47, tx] ty #[.slice (some ⟨g, 0, none⟩) 0 0, x]).run Tryz.prog w = .ok (.slice (some A) m c) w' ∧ BytesAt w' (some A) l ∧ m ≤ c ∧ Below w.heap.size w w' := by
  obtain ⟨i0, hi, hz0, hz1, hz2⟩ := info_parts info5
  have hl : l.length = m := by have := hs.newsLen; rw [bvs_len, Nat.mul_one] at this; exact this
  have hs' : Src Tryz.prog i0.size tx x m (bvs l) w := by rw [hz1]; exact hs
  by_cases h0 : m = 0
  · subst h0
    obtain rfl := List.length_eq_zero_iff.1 hl
    have hr := run_append_room_src w 47 tx ty 5 i0 Tryz.underlying47 hi g 0 0 0 x 0 (bvs []) hs' (Nat.le_refl _) (fun j hj => absurd hj (by simp [bvs])) (fun j hj => absurd hj (by simp [bvs]))
    exact ⟨_, _, _, hr, fun h => absurd h (by simp), Nat.le_refl _, Below.refl _ _⟩
  · have hold : (Builtin.firstCells i0.size 0 (.slice (some ⟨g, 0, none⟩) 0 0)).run Tryz.prog w.drew = .ok (([] : List Value)).toArray w.drew :=
      run_firstCells_some w.drew i0.size 0 ⟨g, 0, none⟩ 0 0 [] (by simp) (fun j u hu => by simp at hu)
    have hr := run_append_grow_src w 47 tx ty 5 i0 (.int .u8 0) Tryz.underlying47 hi hz0 (some ⟨g, 0, none⟩) 0 0 [] hold x m (bvs l) hs' (by omega) (by omega) (growslice_fits (by omega) (by rw [hz2]; omega))
    rw [Nat.zero_add] at hr
    refine ⟨_, _, _, hr, fun _ => ⟨w.heap.size, 0, rfl, by simp, fun j hj => ?_⟩, grownCap_ge _ _ _ _, ((Below.refl _ _).drew).alloc (Nat.le_refl _) _⟩
    rw [Nat.zero_add, cell_of_row _ w.heap.size _ _ _ _ (show (w.drew.alloc _).heap[w.drew.heap.size]? = _ from heap_alloc_new w.drew _)]
    simp [bvs, List.getD_eq_getElem?_getD, hj, Array.getElem?_append]
theorem step_fresh {ops : Array Oper} {o : Oper} {a : Act} {w : World} {K : Act → World → Prop} {Q : Exit → Act → World → Prop} {E : Prop} (hgd : o.guard = none) (s x : Operand) (tx : TypeId)
    (ho : o.op = .call { callee := .builtin .append, args := #[s, x], argTypes := #[47, tx] })
    (g m : Nat) (l : List UInt8) (xv : Value) (hs : a.eval s = .slice (some ⟨g, 0, none⟩) 0 0) (hx : a.eval x = xv) (hA : Src Tryz.prog 1 tx xv m (bvs l) w) (hn : m ≤ 1000000000)
    (h : ∀ A c w', BytesAt w' (some A) l → m ≤ c → Below w.heap.size w w' → K (a.put o.dst (.slice (some A) m c)) w') :
    if Region.wanted o (yielded ops a.tmps) = true then Oper.wp Tryz.prog o a w K Q else E := by
  have hw : Region.wanted o (yielded ops a.tmps) = true := by simp [Region.wanted, hgd]
  rw [if_pos hw]
  obtain ⟨A, c, w', hr, h2, h3, h4⟩ := run_fresh tx o.type (g := g) hA hn
  unfold Oper.wp
  simp [execOp, ho, resolve, invoke, builtin, hs, hx, hr, Result.andThen]
  exact h A c w' h2 h3 h4
theorem wpList_fresh {ops : Array Oper} {rest : List Oper} {o : Oper} {a : Act} {w : World} {Q : Exit → Act → World → Prop} (hgd : o.guard = none) (s x : Operand) (tx : TypeId)
    (ho : o.op = .call { callee := .builtin .append, args := #[s, x], argTypes := #[47, tx] })
    (g m : Nat) (l : List UInt8) (xv : Value) (hs : a.eval s = .slice (some ⟨g, 0, none⟩) 0 0) (hx : a.eval x = xv) (hA : Src Tryz.prog 1 tx xv m (bvs l) w) (hn : m ≤ 1000000000)
    (h : ∀ A c w', BytesAt w' (some A) l → m ≤ c → Below w.heap.size w w' → wpList Tryz.prog ops Q rest (a.put o.dst (.slice (some A) m c)) w') : wpList Tryz.prog ops Q (o :: rest) a w := by
  refine wpList_plain hgd fun _ hK => ?_
  obtain ⟨A, c, w', hr, h2, h3, h4⟩ := run_fresh tx o.type (g := g) hA hn
  unfold Oper.wp execOp
  simp only [ho, resolve, invoke, builtin, Sem.run_bind, Sem.run_pure, Result.andThen_ok, List.map_toArray, List.map_cons, List.map_nil, hs, hx, hr]
  exact hK _ _ (h A c w' h2 h3 h4)
/-- What is answered reads so, and will. -/
def Answers (w : World) (v : Value) (X : ByteArray) : Prop := ∀ w', Below w.heap.size w w' → (convert 47 9 v).run Tryz.prog w' = .ok (.string X) w'
theorem Answers.nil (w : World) : Answers w (.slice none 0 0) ⟨#[]⟩ := fun w' _ => str_nil w'
theorem Answers.of_bytes {w : World} {A : Addr} {n c : Nat} {l : List UInt8} (h : BytesAt w (some A) l) (hl : l.length = n) : Answers w (.slice (some A) n c) ⟨l.toArray⟩ := fun w' hb => str_part (h.below hb (Nat.le_refl _)) hl
theorem Answers.below {w w' : World} {v : Value} {X : ByteArray} (h : Answers w v X) (hb : Below w.heap.size w w') : Answers w' v X := fun w'' h2 => h w'' (hb.trans (h2.mono hb.size))

end Go.Proofs.YtlgkbdebpnbndaaGreatDoor
namespace Go.Proofs.YtlgkbdebpnbndaaGreatDoor
open Go.RowKit
set_option linter.unusedSimpArgs false
set_option linter.unusedVariables false

/-- The row g of the call's own (b: what was there before) holds the elements xs, n of them, and room for cap. -/
structure OwnV (w : World) (e : TypeId) (b g n cap : Nat) (xs : List Value) : Prop where
  ge : b ≤ g
  len : xs.length = n
  row : ∃ rest : List Value, w.heap[g]? = some (.cells (xs ++ rest).toArray e (0, 0)) ∧ n + rest.length = cap
/-- What is asked of the element's type. -/
structure OneCell (P : Program) (t e : TypeId) : Prop where
  sl : P.underlying t = some (.slice e)
  info : ∃ i z, P.info? e = some i ∧ i.zero = some z ∧ i.size = 1 ∧ i.bytes ≤ 100 ∧ z.cells.size = 1
theorem OwnV.le {w : World} {e b g n cap : Nat} {xs : List Value} (h : OwnV w e b g n cap xs) : n ≤ cap := by
  obtain ⟨r, h1, h2⟩ := h.row; omega
theorem OwnV.lt {w : World} {e b g n cap : Nat} {xs : List Value} (h : OwnV w e b g n cap xs) : g < w.heap.size := by
  obtain ⟨r, h1, h2⟩ := h.row; exact (Array.getElem?_eq_some_iff.1 h1).1
theorem OwnV.mono {w : World} {e b b' g n cap : Nat} {xs : List Value} (h : OwnV w e b g n cap xs) (hb : b' ≤ b) : OwnV w e b' g n cap xs := ⟨Nat.le_trans hb h.ge, h.len, h.row⟩
theorem OwnV.kept {w w' : World} {e b g n cap : Nat} {xs : List Value} (h : OwnV w e b g n cap xs) (hk : w'.heap[g]? = w.heap[g]?) : OwnV w' e b g n cap xs := by
  obtain ⟨r, h1, h2⟩ := h.row
  exact ⟨h.ge, h.len, r, hk.trans h1, h2⟩
theorem OwnV.below {w w' : World} {e b g n cap B : Nat} {xs : List Value} (h : OwnV w e b g n cap xs) (hb : Below B w w') (hB : w.heap.size ≤ B) : OwnV w' e b g n cap xs := h.kept (hb.block g (Nat.lt_of_lt_of_le h.lt hB))
theorem OwnV.alloc {w : World} {e b g n cap : Nat} {xs : List Value} (h : OwnV w e b g n cap xs) (o : Obj) : OwnV (w.alloc o) e b g n cap xs := h.kept (Below.heap_alloc w o g h.lt)
theorem OwnV.drew {w : World} {e b g n cap : Nat} {xs : List Value} (h : OwnV w e b g n cap xs) : OwnV w.drew e b g n cap xs := h.kept rfl
theorem OwnV.other {w w' : World} {e b g g2 n cap : Nat} {xs : List Value} (h : OwnV w e b g n cap xs) (hg : w.grownBy w' (some g2)) (hne : g ≠ g2) : OwnV w' e b g n cap xs := h.kept (hg.block g h.lt (fun e => hne (by cases e; rfl)))
theorem OwnV.at {w : World} {e b g n cap : Nat} {xs : List Value} (h : OwnV w e b g n cap xs) (j : Nat) (v : Value) (hj : xs[j]? = some v) : w.cell? ⟨g, j, none⟩ = some v := by
  obtain ⟨r, h1, h2⟩ := h.row
  have hl : j < xs.length := (List.getElem?_eq_some_iff.1 hj).1
  rw [cell_of_row _ _ _ _ _ _ h1, List.getElem?_toArray, List.getElem?_append_left hl]
  exact hj
theorem OwnV.room {w : World} {e b g n cap : Nat} {xs : List Value} (h : OwnV w e b g n cap xs) (j : Nat) (hj : j < cap) : (w.cell? ⟨g, j, none⟩).isSome = true ∧ w.frozen? ⟨g, j, none⟩ = false := by
  obtain ⟨r, h1, h2⟩ := h.row
  constructor
  · rw [cell_of_row _ _ _ _ _ _ h1, List.getElem?_toArray, List.getElem?_eq_getElem (by rw [List.length_append, h.len]; omega)]; rfl
  · exact frozen_of_row _ _ _ _ _ h1
theorem OwnV.zero (w : World) (e b : Nat) (hb : b ≤ w.heap.size) : OwnV (w.alloc (.cells #[] e)) e b w.heap.size 0 0 [] :=
  ⟨hb, rfl, [], heap_alloc_new w _, rfl⟩
theorem OwnV.of_row {w : World} {e b g : Nat} {xs : List Value} (hb : b ≤ g) (h : w.heap[g]? = some (.cells xs.toArray e (0, 0))) : OwnV w e b g xs.length xs.length xs :=
  ⟨hb, rfl, [], by rw [List.append_nil]; exact h, by simp⟩
theorem OwnV.grown {B e : Nat} {a w w' : World} {g n cap : Nat} {xs : List Value} (h : OwnV w e B g n cap xs) (hb : Below B a w) (hB : B ≤ w.heap.size) (hg : w.grownBy w' (some g)) : Below B a w' :=
  hb.grown hg hB (fun k hk => by cases hk; exact h.ge)
/-- The elements of a literal, to be appended. -/
theorem src_lit {P : Program} {t e : TypeId} (ht : OneCell P t e) (w : World) (g c : Nat) (ys : List Value) (h : w.heap[g]? = some (.cells ys.toArray e (0, 0))) (h1 : ∀ u ∈ ys, u.oneCell' = true) : Src P 1 t (.slice (some ⟨g, 0, none⟩) ys.length c) ys.length ys w :=
  Src.ofSlice w ht.sl ⟨g, 0, none⟩ ys.length c ys (by rw [Nat.mul_one]) (fun j u hu => by
    rw [Addr.add_mid, Nat.zero_add, cell_of_row _ _ _ _ _ _ h, List.getElem?_toArray]; exact hu) h1
theorem OwnV.run_app {P : Program} {t e : TypeId} (ht : OneCell P t e) {w : World} {b g n cap m : Nat} {xs ys : List Value} (h : OwnV w e b g n cap xs) (ty : TypeId) (x : Value) (hs : Src P 1 t x m ys w) (hn : n + m ≤ 1000000000) (hb : b ≤ w.heap.size) :
    ∃ g' cap' w', (Builtin.append_ #[t, t] ty #[.slice (some ⟨g, 0, none⟩) n cap, x]).run P w = .ok (.slice (some ⟨g', 0, none⟩) (n + m) cap') w' ∧ OwnV w' e b g' (n + m) cap' (xs ++ ys) ∧ w.grownBy w' (some g) ∧ (g' = g ∨ g' = w.heap.size) := by
  obtain ⟨i0, z, hi, hz0, hz1, hz2, hzc⟩ := ht.info
  have hm : ys.length = m := by have := hs.newsLen; rw [Nat.mul_one] at this; exact this
  have hs' : Src P i0.size t x m ys w := by rw [hz1]; exact hs
  by_cases hroom : n + m ≤ cap
  · obtain ⟨r, h1, h2⟩ := h.row
    have hr := run_append_room_src w t t ty e i0 ht.sl hi g 0 n cap x m ys hs' hroom (fun j hj => by rw [hm] at hj; rw [hz1, Nat.zero_add, Nat.mul_one]; exact (h.room (n + j) (by omega)).1) (fun j hj => by rw [hm] at hj; rw [hz1, Nat.zero_add, Nat.mul_one]; exact (h.room (n + j) (by omega)).2)
    rw [hz1, Nat.zero_add, Nat.mul_one] at hr
    refine ⟨g, cap, _, hr, ⟨h.ge, by rw [List.length_append, h.len, hm], r.drop m, ?_, by rw [List.length_drop]; omega⟩, grown_of_only (only_setCells g ys n w), .inl rfl⟩
    rw [setCells_heapF g e (0, 0) ys n w _ h1]
    have := over_mid (r.take m) ys xs (r.drop m) (by rw [hm, List.length_take]; omega)
    rw [List.take_append_drop, h.len] at this
    rw [this, List.append_assoc]
  · have hold : (Builtin.firstCells i0.size n (.slice (some ⟨g, 0, none⟩) n cap)).run P w.drew = .ok xs.toArray w.drew :=
      run_firstCells_some w.drew i0.size n ⟨g, 0, none⟩ n cap xs (by rw [hz1, Nat.mul_one, h.len]) (fun j u hu => by
        rw [Addr.add_mid, Nat.zero_add]
        exact h.at j u hu)
    have hr := run_append_grow_src w t t ty e i0 z ht.sl hi hz0 (some ⟨g, 0, none⟩) n cap xs hold x m ys hs' (by omega) (by omega) (growslice_fits (by omega) (by
      have : (n + m) * i0.bytes ≤ 1000000000 * 100 := Nat.mul_le_mul hn hz2
      omega))
    have hge := grownCap_ge w (n + m) cap e
    refine ⟨w.heap.size, _, _, hr, ⟨hb, by rw [List.length_append, h.len, hm], (Builtin.zeroCells z.cells (grownCap w (n + m) cap e - (n + m))).toList, ?_, ?_⟩, ⟨rfl, rfl, rfl, by simp, fun k hk _ => Below.heap_alloc w.drew _ k hk⟩, .inr rfl⟩
    · rw [show w.heap.size = w.drew.heap.size from rfl, heap_alloc_new w.drew _]
      congr 2
      apply Array.ext'
      simp
    · rw [Array.length_toList, size_zeroCells, hzc]; omega
theorem wpList_ownV {P : Program} {t e : TypeId} (ht : OneCell P t e) {ops : Array Oper} {rest : List Oper} {o : Oper} {a : Act} {w : World} {Q : Exit → Act → World → Prop} (hgd : o.guard = none) (s x : Operand)
    (ho : o.op = .call { callee := .builtin .append, args := #[s, x], argTypes := #[t, t] })
    (base g n cap m : Nat) (xs ys : List Value) (xv : Value) (hs : a.eval s = .slice (some ⟨g, 0, none⟩) n cap) (hx : a.eval x = xv) (hown : OwnV w e base g n cap xs)
    (hA : Src P 1 t xv m ys w) (hn : n + m ≤ 1000000000) (hbase : base ≤ w.heap.size)
    (h : ∀ g' cap' w', OwnV w' e base g' (n + m) cap' (xs ++ ys) → w.grownBy w' (some g) → (g' = g ∨ g' = w.heap.size) → wpList P ops Q rest (a.put o.dst (.slice (some ⟨g', 0, none⟩) (n + m) cap')) w') : wpList P ops Q (o :: rest) a w := by
  refine wpList_plain hgd fun _ hK => ?_
  obtain ⟨g', cap', w', hr, h2, h3, h4⟩ := hown.run_app ht o.type xv hA hn hbase
  unfold Oper.wp execOp
  simp only [ho, resolve, invoke, builtin, Sem.run_bind, Sem.run_pure, Result.andThen_ok, List.map_toArray, List.map_cons, List.map_nil, hs, hx, hr]
  exact hK _ _ (h g' cap' w' h2 h3 h4)
theorem step_ownV {P : Program} {t e : TypeId} (ht : OneCell P t e) {ops : Array Oper} {o : Oper} {a : Act} {w : World} {K : Act → World → Prop} {Q : Exit → Act → World → Prop} {E : Prop} (hgd : o.guard = none) (s x : Operand)
    (ho : o.op = .call { callee := .builtin .append, args := #[s, x], argTypes := #[t, t] })
    (base g n cap m : Nat) (xs ys : List Value) (xv : Value) (hs : a.eval s = .slice (some ⟨g, 0, none⟩) n cap) (hx : a.eval x = xv) (hown : OwnV w e base g n cap xs)
    (hA : Src P 1 t xv m ys w) (hn : n + m ≤ 1000000000) (hbase : base ≤ w.heap.size)
    (h : ∀ g' cap' w', OwnV w' e base g' (n + m) cap' (xs ++ ys) → w.grownBy w' (some g) → (g' = g ∨ g' = w.heap.size) → K (a.put o.dst (.slice (some ⟨g', 0, none⟩) (n + m) cap')) w') :
    if Region.wanted o (yielded ops a.tmps) = true then Oper.wp P o a w K Q else E := by
  have hw : Region.wanted o (yielded ops a.tmps) = true := by simp [Region.wanted, hgd]
  rw [if_pos hw]
  obtain ⟨g', cap', w', hr, h2, h3, h4⟩ := hown.run_app ht o.type xv hA hn hbase
  unfold Oper.wp
  simp [execOp, ho, resolve, invoke, builtin, hs, hx, hr, Result.andThen]
  exact h g' cap' w' h2 h3 h4

end Go.Proofs.YtlgkbdebpnbndaaGreatDoor
namespace Go.Proofs.YtlgkbdebpnbndaaGreatDoor
open Go.RowKit
set_option linter.unusedSimpArgs false
set_option linter.unusedVariables false

/-- The row g of the call's own (b: what was there before) holds n elements of k cells, xs, and room for cap. -/
structure OwnK (w : World) (k : Nat) (e : TypeId) (b g n cap : Nat) (xs : List Value) : Prop where
  ge : b ≤ g
  len : xs.length = n * k
  row : ∃ rest : List Value, w.heap[g]? = some (.cells (xs ++ rest).toArray e (0, 0)) ∧ rest.length = (cap - n) * k ∧ n ≤ cap
/-- What is asked of the element's type. -/
structure KCells (P : Program) (k : Nat) (t e : TypeId) : Prop where
  sl : P.underlying t = some (.slice e)
  info : ∃ i z, P.info? e = some i ∧ i.zero = some z ∧ i.size = k ∧ i.bytes ≤ 100 ∧ z.cells.size = k
theorem OwnK.le {w : World} {k e b g n cap : Nat} {xs : List Value} (h : OwnK w k e b g n cap xs) : n ≤ cap := by
  obtain ⟨r, h1, h2, h3⟩ := h.row; exact h3
theorem OwnK.lt {w : World} {k e b g n cap : Nat} {xs : List Value} (h : OwnK w k e b g n cap xs) : g < w.heap.size := by
  obtain ⟨r, h1, h2⟩ := h.row; exact (Array.getElem?_eq_some_iff.1 h1).1
theorem OwnK.kept {w w' : World} {k e b g n cap : Nat} {xs : List Value} (h : OwnK w k e b g n cap xs) (hk : w'.heap[g]? = w.heap[g]?) : OwnK w' k e b g n cap xs := by
  obtain ⟨r, h1, h2⟩ := h.row
  exact ⟨h.ge, h.len, r, hk.trans h1, h2⟩
theorem OwnK.below {w w' : World} {k e b g n cap B : Nat} {xs : List Value} (h : OwnK w k e b g n cap xs) (hb : Below B w w') (hB : w.heap.size ≤ B) : OwnK w' k e b g n cap xs := h.kept (hb.block g (Nat.lt_of_lt_of_le h.lt hB))
theorem OwnK.alloc {w : World} {k e b g n cap : Nat} {xs : List Value} (h : OwnK w k e b g n cap xs) (o : Obj) : OwnK (w.alloc o) k e b g n cap xs := h.kept (Below.heap_alloc w o g h.lt)
theorem OwnK.at {w : World} {k e b g n cap : Nat} {xs : List Value} (h : OwnK w k e b g n cap xs) (j : Nat) (v : Value) (hj : xs[j]? = some v) : w.cell? ⟨g, j, none⟩ = some v := by
  obtain ⟨r, h1, h2⟩ := h.row
  have hl : j < xs.length := (List.getElem?_eq_some_iff.1 hj).1
  rw [cell_of_row _ _ _ _ _ _ h1, List.getElem?_toArray, List.getElem?_append_left hl]
  exact hj
theorem OwnK.room {w : World} {k e b g n cap : Nat} {xs : List Value} (h : OwnK w k e b g n cap xs) (j : Nat) (hj : j < cap * k) : (w.cell? ⟨g, j, none⟩).isSome = true ∧ w.frozen? ⟨g, j, none⟩ = false := by
  obtain ⟨r, h1, h2, h3⟩ := h.row
  constructor
  · have e : n * k + (cap - n) * k = cap * k := by rw [← Nat.add_mul]; congr 1; omega
    rw [cell_of_row _ _ _ _ _ _ h1, List.getElem?_toArray, List.getElem?_eq_getElem (by rw [List.length_append, h.len, h2]; omega)]; rfl
  · exact frozen_of_row _ _ _ _ _ h1
theorem OwnK.zero (w : World) (k e b : Nat) (hb : b ≤ w.heap.size) : OwnK (w.alloc (.cells #[] e)) k e b w.heap.size 0 0 [] :=
  ⟨hb, by simp, [], heap_alloc_new w _, by simp, Nat.le_refl _⟩
theorem OwnK.of_row {w : World} {k e b g n : Nat} {xs : List Value} (hb : b ≤ g) (hl : xs.length = n * k) (h : w.heap[g]? = some (.cells xs.toArray e (0, 0))) : OwnK w k e b g n n xs :=
  ⟨hb, hl, [], by rw [List.append_nil]; exact h, by simp, Nat.le_refl _⟩
theorem OwnK.grown {B k e : Nat} {a w w' : World} {g n cap : Nat} {xs : List Value} (h : OwnK w k e B g n cap xs) (hb : Below B a w) (hB : B ≤ w.heap.size) (hg : w.grownBy w' (some g)) : Below B a w' :=
  hb.grown hg hB (fun k hk => by cases hk; exact h.ge)
/-- The elements of a literal, to be appended. -/
theorem src_litK {P : Program} {k : Nat} {t e : TypeId} (ht : KCells P k t e) (w : World) (g n c : Nat) (ys : List Value) (hl : ys.length = n * k) (h : w.heap[g]? = some (.cells ys.toArray e (0, 0))) (h1 : ∀ u ∈ ys, u.oneCell' = true) : Src P k t (.slice (some ⟨g, 0, none⟩) n c) n ys w :=
  Src.ofSlice w ht.sl ⟨g, 0, none⟩ n c ys hl (fun j u hu => by
    rw [Addr.add_mid, Nat.zero_add, cell_of_row _ _ _ _ _ _ h, List.getElem?_toArray]; exact hu) h1
theorem OwnK.run_app {P : Program} {k : Nat} {t e : TypeId} (ht : KCells P k t e) {w : World} {b g n cap m : Nat} {xs ys : List Value} (h : OwnK w k e b g n cap xs) (ty : TypeId) (x : Value) (hs : Src P k t x m ys w) (hn : n + m ≤ 1000000000) (hb : b ≤ w.heap.size) :
    ∃ g' cap' w', (Builtin.append_ #[t, t] ty #[.slice (some ⟨g, 0, none⟩) n cap, x]).run P w = .ok (.slice (some ⟨g', 0, none⟩) (n + m) cap') w' ∧ OwnK w' k e b g' (n + m) cap' (xs ++ ys) ∧ w.grownBy w' (some g) ∧ (g' = g ∨ g' = w.heap.size) := by
  obtain ⟨i0, z, hi, hz0, hz1, hz2, hzc⟩ := ht.info
  have hm : ys.length = m * k := hs.newsLen
  have hs' : Src P i0.size t x m ys w := by rw [hz1]; exact hs
  have e1 : n * k + m * k = (n + m) * k := by rw [Nat.add_mul]
  by_cases hroom : n + m ≤ cap
  · obtain ⟨r, h1, h2, h3⟩ := h.row
    have e2 : (n + m) * k ≤ cap * k := Nat.mul_le_mul_right k hroom
    have hr := run_append_room_src w t t ty e i0 ht.sl hi g 0 n cap x m ys hs' hroom (fun j hj => by rw [hm] at hj; rw [hz1, Nat.zero_add]; exact (h.room (n * k + j) (by omega)).1) (fun j hj => by rw [hm] at hj; rw [hz1, Nat.zero_add]; exact (h.room (n * k + j) (by omega)).2)
    rw [hz1, Nat.zero_add] at hr
    have e3 : (cap - n) * k = m * k + (cap - (n + m)) * k := by rw [← Nat.add_mul]; congr 1; omega
    refine ⟨g, cap, _, hr, ⟨h.ge, by rw [List.length_append, h.len, hm, e1], r.drop (m * k), ?_, by rw [List.length_drop, h2, e3]; omega, hroom⟩, grown_of_only (only_setCells g ys (n * k) w), .inl rfl⟩
    rw [setCells_heapF g e (0, 0) ys (n * k) w _ h1]
    have := over_mid (r.take (m * k)) ys xs (r.drop (m * k)) (by rw [hm, List.length_take, h2, e3]; omega)
    rw [List.take_append_drop, h.len] at this
    rw [this, List.append_assoc]
  · have hold : (Builtin.firstCells i0.size n (.slice (some ⟨g, 0, none⟩) n cap)).run P w.drew = .ok xs.toArray w.drew :=
      run_firstCells_some w.drew i0.size n ⟨g, 0, none⟩ n cap xs (by rw [hz1, h.len]) (fun j u hu => by
        rw [Addr.add_mid, Nat.zero_add]
        exact h.at j u hu)
    have hr := run_append_grow_src w t t ty e i0 z ht.sl hi hz0 (some ⟨g, 0, none⟩) n cap xs hold x m ys hs' (by omega) (by omega) (growslice_fits (by omega) (by
      have : (n + m) * i0.bytes ≤ 1000000000 * 100 := Nat.mul_le_mul hn hz2
      omega))
    have hge := grownCap_ge w (n + m) cap e
    refine ⟨w.heap.size, _, _, hr, ⟨hb, by rw [List.length_append, h.len, hm, e1], (Builtin.zeroCells z.cells (grownCap w (n + m) cap e - (n + m))).toList, ?_, ?_, hge⟩, ⟨rfl, rfl, rfl, by simp, fun k hk _ => Below.heap_alloc w.drew _ k hk⟩, .inr rfl⟩
    · rw [show w.heap.size = w.drew.heap.size from rfl, heap_alloc_new w.drew _]
      congr 2
      apply Array.ext'
      simp
    · rw [Array.length_toList, size_zeroCells, hzc]
theorem wpList_ownK {P : Program} {k : Nat} {t e : TypeId} (ht : KCells P k t e) {ops : Array Oper} {rest : List Oper} {o : Oper} {a : Act} {w : World} {Q : Exit → Act → World → Prop} (hgd : o.guard = none) (s x : Operand)
    (ho : o.op = .call { callee := .builtin .append, args := #[s, x], argTypes := #[t, t] })
    (base g n cap m : Nat) (xs ys : List Value) (xv : Value) (hs : a.eval s = .slice (some ⟨g, 0, none⟩) n cap) (hx : a.eval x = xv) (hown : OwnK w k e base g n cap xs)
    (hA : Src P k t xv m ys w) (hn : n + m ≤ 1000000000) (hbase : base ≤ w.heap.size)
    (h : ∀ g' cap' w', OwnK w' k e base g' (n + m) cap' (xs ++ ys) → w.grownBy w' (some g) → (g' = g ∨ g' = w.heap.size) → wpList P ops Q rest (a.put o.dst (.slice (some ⟨g', 0, none⟩) (n + m) cap')) w') : wpList P ops Q (o :: rest) a w := by
  refine wpList_plain hgd fun _ hK => ?_
  obtain ⟨g', cap', w', hr, h2, h3, h4⟩ := hown.run_app ht o.type xv hA hn hbase
  unfold Oper.wp execOp
  simp only [ho, resolve, invoke, builtin, Sem.run_bind, Sem.run_pure, Result.andThen_ok, List.map_toArray, List.map_cons, List.map_nil, hs, hx, hr]
  exact hK _ _ (h g' cap' w' h2 h3 h4)
theorem step_ownK {P : Program} {k : Nat} {t e : TypeId} (ht : KCells P k t e) {ops : Array Oper} {o : Oper} {a : Act} {w : World} {K : Act → World → Prop} {Q : Exit → Act → World → Prop} {E : Prop} (hgd : o.guard = none) (s x : Operand)
    (ho : o.op = .call { callee := .builtin .append, args := #[s, x], argTypes := #[t, t] })
    (base g n cap m : Nat) (xs ys : List Value) (xv : Value) (hs : a.eval s = .slice (some ⟨g, 0, none⟩) n cap) (hx : a.eval x = xv) (hown : OwnK w k e base g n cap xs)
    (hA : Src P k t xv m ys w) (hn : n + m ≤ 1000000000) (hbase : base ≤ w.heap.size)
    (h : ∀ g' cap' w', OwnK w' k e base g' (n + m) cap' (xs ++ ys) → w.grownBy w' (some g) → (g' = g ∨ g' = w.heap.size) → K (a.put o.dst (.slice (some ⟨g', 0, none⟩) (n + m) cap')) w') :
    if Region.wanted o (yielded ops a.tmps) = true then Oper.wp P o a w K Q else E := by
  have hw : Region.wanted o (yielded ops a.tmps) = true := by simp [Region.wanted, hgd]
  rw [if_pos hw]
  obtain ⟨g', cap', w', hr, h2, h3, h4⟩ := hown.run_app ht o.type xv hA hn hbase
  unfold Oper.wp
  simp [execOp, ho, resolve, invoke, builtin, hs, hx, hr, Result.andThen]
  exact h g' cap' w' h2 h3 h4
end Go.Proofs.YtlgkbdebpnbndaaGreatDoor
