import Derived.Deep.MidRow
import Derived.Laws.Rows
import Derived.Laws.Slices
import Derived.Deep.Draws
import Derived.Below
import Derived.Test.YtgoiafndapemjaaGreatDoorProg
import Derived.ChangeKeysEq
import Derived.Deep.AppendLies
import Derived.Deep.AppendSrc
import Derived.Deep.Cut
import Derived.Deep.RegionHeld3
import Derived.Deep.RegionLaw
import Derived.Deep.WholeRow
import Derived.KernelRfl
import Derived.Laws.BytesString
import Derived.Laws.CopyOwn
import Derived.Laws.IdiomCopy
import Derived.Laws.OwnMore
import Derived.Lib.ConvBytes
import Derived.Lib.LaidU8
import Derived.OpenShut
import Derived.OwnWalk
import Derived.Shelf.Spec.SlicesInsert
import Derived.WalkKit
set_option linter.unusedVariables false
set_option linter.unusedSimpArgs false
set_option maxHeartbeats 1000000
namespace Go.Proofs.YtgoiafndapemjaaGreatDoor
open Go.RowKit
theorem hid {p : Prop} (h : p) : Hid p := h
def over (cs : Array Value) (o : Nat) : List Value → Array Value
 | [] => cs
 | v :: r => over (cs.setIfInBounds o v) (o + 1) r
theorem setCells_heap (g : Nat) (t : TypeId) : ∀ (vs : List Value) (o : Nat) (w : World) (cs : Array Value), w.heap[g]? = some (.cells cs t (0, 0)) → (w.setCells g o vs).heap[g]? = some (.cells (over cs o vs) t (0, 0))
 | [], _, _, _, h => h
 | v :: r, o, w, cs, h => setCells_heap g t r (o + 1) (w.setCell ⟨g, o, none⟩ v) (cs.setIfInBounds o v) (heap_setCell_same w g o cs t v h)
theorem setCells_other (g k : Nat) (hk : k ≠ g) : ∀ (vs : List Value) (o : Nat) (w : World), (w.setCells g o vs).heap[k]? = w.heap[k]?
 | [], _, _ => rfl
 | v :: r, o, w => (setCells_other g k hk r (o + 1) (w.setCell ⟨g, o, none⟩ v)).trans (heap_setCell_other w ⟨g, o, none⟩ k v hk)
theorem setCells_below (B g : Nat) (hB : B ≤ g) : ∀ (vs : List Value) (o : Nat) (a w : World), Below B a w → Below B a (w.setCells g o vs)
 | [], _, _, _, h => h
 | v :: r, o, a, w, h => setCells_below B g hB r (o + 1) a (w.setCell ⟨g, o, none⟩ v) (h.setCell (p := ⟨g, o, none⟩) hB v)
theorem over_mid : ∀ (b b' a c : List Value), b'.length = b.length → over (a ++ (b ++ c)).toArray a.length b' = (a ++ (b' ++ c)).toArray
 | [], [], _, _, _ => rfl
 | x :: b, y :: b', a, c, h => by
  have ih := over_mid b b' (a ++ [y]) c (by simpa using h)
  simp only [over]
  have e : ((a ++ (x :: b ++ c)).toArray.setIfInBounds a.length y) = ((a ++ [y]) ++ (b ++ c)).toArray := by
   rw [List.setIfInBounds_toArray, List.set_append_right _ _ (Nat.le_refl _)]
   simp
  rw [e]
  simp only [List.length_append, List.length_cons, List.length_nil] at ih
  rw [ih]
  simp
theorem over_all (b b' : List Value) (h : b'.length = b.length) : over b.toArray 0 b' = b'.toArray := by
 have := over_mid b b' [] [] h
 simpa using this
theorem over_whole (cs cs' : Array Value) (h : cs'.size = cs.size) : over cs 0 cs'.toList = cs' := by
 have := over_all cs.toList cs'.toList (by simpa using h)
 simpa using this
theorem there_row {w : World} {g : Nat} {cs : Array Value} {t : TypeId} (h : w.heap[g]? = some (.cells cs t (0, 0))) (o n : Nat) (hn : o + n ≤ cs.size) : w.there g o n := fun j hj => by
 refine ⟨?_, frozen_of_row w g (o + j) cs t h⟩
 rw [cell_of_row w g (o + j) cs t (0, 0) h]
 have : o + j < cs.size := by omega
 simp [this]
theorem range_row {w : World} {g : Nat} {a b c : List Value} {t : TypeId} {fr : Nat × Nat} (h : w.heap[g]? = some (.cells (a ++ (b ++ c)).toArray t fr)) (o : Nat) (ho : o = a.length) : w.rangeAt g o b := fun j v hv => by
 have hj : j < b.length := (List.getElem?_eq_some_iff.1 hv).1
 rw [cell_of_row w g (o + j) _ t fr h, ho]
 rw [List.getElem?_toArray, List.getElem?_append_right (by omega), List.getElem?_append_left (by omega)]
 rw [← hv]; congr 1; omega
theorem below_drewN (B : Nat) (w : World) (n : Nat) : Below B w (w.drewN n) := ⟨rfl, rfl, rfl, Nat.le_refl _, fun _ _ => rfl⟩
theorem heap3_0 (w : World) (A B C : Obj) : (((w.alloc A).alloc B).alloc C).heap[w.heap.size]? = some A := by
 show (((w.heap.push A).push B).push C)[w.heap.size]? = _
 rw [Array.getElem?_push, if_neg (by simp; omega), Array.getElem?_push, if_neg (by simp), Array.getElem?_push, if_pos rfl]
theorem heap3_1 (w : World) (A B C : Obj) : (((w.alloc A).alloc B).alloc C).heap[w.heap.size + 1]? = some B := by
 show (((w.heap.push A).push B).push C)[w.heap.size + 1]? = _
 rw [Array.getElem?_push, if_neg (by simp), Array.getElem?_push, if_pos (by simp)]
theorem heap3_2 (w : World) (A B C : Obj) : (((w.alloc A).alloc B).alloc C).heap[w.heap.size + 1 + 1]? = some C := by
 show (((w.heap.push A).push B).push C)[w.heap.size + 1 + 1]? = _
 rw [Array.getElem?_push, if_pos (by simp)]
theorem alloc_below {B : Nat} {a w : World} (h : Below B a w) (hB : B ≤ w.heap.size) (o : Obj) : Below B a (w.alloc o) := h.alloc hB o
theorem slice_from {P : Program} (t : TypeId) (n : Nat) (e : TypeId) (hu : P.underlying t = some (.array n e)) (hs : ∀ w, (sizeOf e).run P w = .ok 1 w) (g o l : Nat) (i : Int) (hi : i = (l : Int)) (hl : l < n) (w : World) :
  (Instr.sliceAt t (.pointer (some ⟨g, o, none⟩)) (some (.int .i64 i)) none none).run P w = .ok (.slice (some ⟨g, o + l, none⟩) (n - l) (n - l)) w := by
 subst hi
 have h1 : P.arrayLen t = n := by simp [Program.arrayLen, hu]
 have h2 : P.elem t = e := by simp [Program.elem, hu]
 rw [run_sliceAt_array_l w t ⟨g, o, none⟩ (by rw [h1, h2]; exact hu) .i64 (l : Int) (by omega) (by rw [h1]; omega)]
 rw [h1, h2, hs w]
 have h3 : ¬ n = l := by omega
 simp only [Result.andThen_ok, slicedAt, Int.toNat_natCast, if_neg h3, Nat.mul_one]
 by_cases h0 : l = 0
 ·subst h0; rfl
 ·simp [Addr.add, h0]
structure Only (b : Nat) (w w' : World) : Prop where
 os : w'.os = w.os
 tape : w'.tape = w.tape
 output : w'.output = w.output
 size : w'.heap.size = w.heap.size
 block : ∀ k, k ≠ b → w'.heap[k]? = w.heap[k]?
theorem Only.below {b B : Nat} {w w' : World} (h : Only b w w') (hB : B ≤ b) : Below B w w' := ⟨h.os, h.tape, h.output, by rw [h.size]; exact Nat.le_refl _, fun k hk => h.block k (by omega)⟩
theorem only_setCells (g : Nat) : ∀ (vs : List Value) (o : Nat) (w : World), Only g w (w.setCells g o vs)
 | [], _, _ => ⟨rfl, rfl, rfl, rfl, fun _ _ => rfl⟩
 | v :: r, o, w => by
  have ih := only_setCells g r (o + 1) (w.setCell ⟨g, o, none⟩ v)
  exact ⟨ih.os, ih.tape, ih.output, ih.size.trans (by simp [World.setCell]), fun k hk => (ih.block k hk).trans (heap_setCell_other w ⟨g, o, none⟩ k v hk)⟩
theorem wpList_store_abs {P : Program} {ops : Array Oper} {rest : List Oper} {op : Oper} {a : Act} {w : World} {Q : Exit → Act → World → Prop} (hgd : op.guard = none) (ty : TypeId) (x y : Operand) (ho : op.op = .store ty x y)
  (b o : Nat) (cells : Array Value) (hx : a.eval x = .pointer (some ⟨b, o, none⟩)) (hy : a.eval y = .agg cells)
  (t : TypeId) (cs : Array Value) (hrow : w.heap[b]? = some (.cells cs t (0, 0))) (hn : o + cells.size ≤ cs.size) (hi : (P.info? ty).map (·.size) = some cells.size) (h1 : cells.all (·.oneCell') = true)
  (h : ∀ W, Only b w W → W.heap[b]? = some (.cells (over cs o cells.toList) t (0, 0)) → wpList P ops Q rest (a.put op.dst undef) W) : wpList P ops Q (op :: rest) a w :=
 wpList_store_mid hgd ty x y ho b o cells hx hy (there_row hrow o cells.size hn) hi h1 (h _ (only_setCells b cells.toList o w) (setCells_heap b t cells.toList o w cs hrow))
end Go.Proofs.YtgoiafndapemjaaGreatDoor
namespace Go.Proofs.YtgoiafndapemjaaGreatDoor
open Go.RowKit
def bcs (b : List UInt8) : Array Value := (b.map fun c => Value.int .u8 c.toNat).toArray
theorem bcs_at (b : List UInt8) (j : Nat) (h : j < b.length) : (bcs b)[j]? = some (.int .u8 (b.getD j 0).toNat) := by
 simp [bcs, List.getD_eq_getElem?_getD, h]
theorem bcs_size (b : List UInt8) : (bcs b).size = b.length := by simp [bcs]
def bvs (b : List UInt8) : List Value := b.map fun c => Value.int .u8 c.toNat
theorem bcs_eq (b : List UInt8) : bcs b = (bvs b).toArray := rfl
theorem bvs_len (b : List UInt8) : (bvs b).length = b.length := by simp [bvs]
def zer (n : Nat) : List UInt8 := List.replicate n 0
theorem bvs_one (b : List UInt8) : (bcs b).all (·.oneCell') = true := by
 refine all_oneCell_toArray fun v hv => ?_
 simp only [List.mem_map] at hv
 obtain ⟨x, _, rfl⟩ := hv
 rfl
theorem over_bytes (X : Array Value) (b : List UInt8) (h : X.size = b.length) : over X 0 (bcs b).toList = bcs b := over_whole X (bcs b) (by rw [h, bcs_size])
theorem wpList_built {P : Program} {ops : Array Oper} {rest : List Oper} {o : Oper} {a : Act} {w : World} {Q : Exit → Act → World → Prop} (hg : o.guard = none) (t : TypeId) (parts : Array (Nat × Operand)) (ho : o.op = .build t parts)
  (cells : Array Value) (hc : P.built t (parts.toList.map fun p => (p.1, a.eval p.2)) = some cells)
  (h : wpList P ops Q rest (a.put o.dst (.agg cells)) w) : wpList P ops Q (o :: rest) a w := by
 have e : (parts.map fun (i, x) => (i, a.eval x)).toList = parts.toList.map fun p => (p.1, a.eval p.2) := by simp
 refine wpList_build hg t parts ho (by rw [e, hc]; rfl) ?_
 rw [e, hc]
 exact h
theorem zer_len (n : Nat) : (zer n).length = n := by simp [zer]
theorem only_set (g i : Nat) (v : Value) (w : World) : Only g w (w.setCell ⟨g, i, none⟩ v) := only_setCells g [v] i w
theorem size5 : (Tryz.prog.info? 5).map (·.size) = some 1 := by kernel_rfl
def loadI (t : TypeId) (x : Value) : Sem Value := Instr.loadAt t x
def storeI (t : TypeId) (x v : Value) : Sem Unit := Instr.storeAt t x v
theorem bvs_one' (b : List UInt8) : ∀ v ∈ bvs b, v.oneCell' = true := fun v hv => by
 simp only [bvs, List.mem_map] at hv
 obtain ⟨x, _, rfl⟩ := hv
 rfl
theorem info_parts {P : Program} {t : TypeId} {z : Value} {n b : Nat} (h : (P.info? t).map (fun i => (i.zero, i.size, i.bytes)) = some (some z, n, b)) : ∃ i, P.info? t = some i ∧ i.zero = some z ∧ i.size = n ∧ i.bytes = b := by
 cases hi : P.info? t with
 | none => rw [hi] at h; cases h
 | some i => rw [hi] at h; simp at h; exact ⟨i, rfl, h.1, h.2.1, h.2.2⟩
theorem info5 : (Tryz.prog.info? 5).map (fun i => (i.zero, i.size, i.bytes)) = some (some (.int .u8 0), 1, 1) := by kernel_rfl
theorem push_all (l : List UInt8) : ∀ acc : ByteArray, ((l.map fun c => ((c.toNat : Nat) : Int)).foldl (fun r n => r.push (UInt8.ofNat n.toNat)) acc) = ⟨(acc.data.toList ++ l).toArray⟩ := by
 induction l with
 | nil => intro acc; simp
 | cons c t ih =>
  intro acc
  rw [List.map_cons, List.foldl_cons, ih]
  simp [ByteArray.push]
theorem str_of {w : World} {a : Addr} {l : List UInt8} (cap : Nat) (h : ∀ j v, (bvs l)[j]? = some v → w.cell? (a.add j) = some v) (n : Nat) (hn : n = l.length) : (convert 42 9 (.slice (some a) n cap)).run Tryz.prog w = .ok (.string ⟨l.toArray⟩) w := by
 subst hn
 rw [run_convert_bytes_string w 42 9 5 _ _ _ Tryz.underlying42 Tryz.underlying5 Tryz.underlying9]
 rw [run_bytesToString w a l.length cap (l.map fun c => ((c.toNat : Nat) : Int)) ?_]
 ·rw [push_all]; rfl
 ·have := run_loadCells_list (P := Tryz.prog) (w := w) a (bvs l) h
  rw [bvs_len] at this
  rw [this]
  simp [bvs, Function.comp_def]
theorem own_cells {w : World} {b g n cap : Nat} {l : List UInt8} (h : w.ownsRow b 5 1 (.slice (some ⟨g, 0, none⟩) n cap) n (bvs l)) : ∀ j v, (bvs l)[j]? = some v → w.cell? ((⟨g, 0, none⟩ : Addr).add j) = some v := fun j v hv => by
 rcases h.2 with ⟨h0, _⟩ | ⟨g', cap', cur, h1, h2, h3, h4, h5, h6, h7⟩
 ·cases h0
 ·cases h1
  rw [Addr.add_mid, Nat.zero_add, cell_of_row _ _ _ _ _ _ h3]
  have hj := (List.getElem?_eq_some_iff.1 hv).1
  rw [← h7, List.length_take] at hj
  rw [← h7, List.getElem?_take, if_pos (by omega)] at hv
  simpa using hv
theorem own_new0 (w : World) : (w.alloc (.cells #[] 5)).ownsRow w.heap.size 5 1 (.slice (some ⟨w.heap.size, 0, none⟩) 0 0) 0 [] :=
 ⟨rfl, .inr ⟨w.heap.size, 0, #[], rfl, Nat.le_refl _, heap_alloc_new w _, Nat.le_refl _, by unfold maxLen; omega, rfl, rfl⟩⟩
theorem str_nil (w : World) : (convert 42 9 (.slice none 0 0)).run Tryz.prog w = .ok (.string ⟨#[]⟩) w := by
 rw [run_convert_bytes_string w 42 9 5 _ _ _ Tryz.underlying42 Tryz.underlying5 Tryz.underlying9]
 simp [Conv.bytesToString]
 rfl
theorem str_in {w w' : World} {a : Option Addr} {cap q o : Nat} {l : List UInt8} (hz : l.length = 0 → a = none ∧ cap = 0 ∨ ∃ x, a = some x) (hA : 0 < l.length → a = some ⟨q, o, none⟩) (hq : q < w.heap.size) (hsrc : ∀ j, j < l.length → w.cell? ⟨q, o + j, none⟩ = some (.int .u8 (l.getD j 0).toNat)) (hb : Below w.heap.size w w') :
  (convert 42 9 (.slice a l.length cap)).run Tryz.prog w' = .ok (.string ⟨l.toArray⟩) w' := by
 by_cases h0 : l.length = 0
 ·obtain rfl := List.length_eq_zero_iff.1 h0
  rcases hz h0 with ⟨rfl, rfl⟩ | ⟨x, rfl⟩
  ·exact str_nil w'
  ·exact str_of cap (fun j v hv => by simp [bvs] at hv) 0 rfl
 ·obtain rfl := hA (by omega)
  refine str_of cap (fun j v hv => ?_) l.length rfl
  have hj : j < l.length := by have := (List.getElem?_eq_some_iff.1 hv).1; rw [bvs_len] at this; exact this
  rw [Addr.add_mid, hb.cell (p := ⟨q, o + j, none⟩) hq, hsrc j hj, ← hv]
  simp [bvs, List.getD_eq_getElem?_getD, hj]
def BytesAt (w : World) (A : Option Addr) (l : List UInt8) : Prop :=
 0 < l.length → ∃ q o, A = some ⟨q, o, none⟩ ∧ q < w.heap.size ∧ ∀ j, j < l.length → w.cell? ⟨q, o + j, none⟩ = some (.int .u8 (l.getD j 0).toNat)
theorem BytesAt.below {w w' : World} {A : Option Addr} {l : List UInt8} (h : BytesAt w A l) {B : Nat} (hb : Below B w w') (hB : w.heap.size ≤ B) : BytesAt w' A l := fun h0 => by
 obtain ⟨q, o, h1, h2, h3⟩ := h h0
 exact ⟨q, o, h1, Nat.lt_of_lt_of_le h2 hb.size, fun j hj => (hb.cell (p := ⟨q, o + j, none⟩) (Nat.lt_of_lt_of_le h2 hB)).trans (h3 j hj)⟩
theorem BytesAt.of_row {w : World} {g : Nat} {l : List UInt8} {t : TypeId} {fr : Nat × Nat} (h : w.heap[g]? = some (.cells (bcs l) t fr)) : BytesAt w (some ⟨g, 0, none⟩) l := fun _ =>
 ⟨g, 0, rfl, (Array.getElem?_eq_some_iff.1 h).1, fun j hj => by rw [cell_of_row _ _ _ _ _ _ h, Nat.zero_add, bcs_at _ _ hj]⟩
theorem BytesAt.one (w : World) (x : UInt8) (v : Int) (hv : v = (x.toNat : Int)) : BytesAt (w.alloc (.cells #[.int .u8 v] 5)) (some ⟨w.heap.size, 0, none⟩) [x] := by
 subst hv
 exact BytesAt.of_row (l := [x]) (heap_alloc_new w _)
theorem BytesAt.own {w : World} {b g n cap : Nat} {l : List UInt8} (h : w.ownsRow b 5 1 (.slice (some ⟨g, 0, none⟩) n cap) n (bvs l)) : BytesAt w (some ⟨g, 0, none⟩) l := fun h0 => by
 have hc := own_cells h
 have hat : ∀ j, j < l.length → w.cell? ⟨g, 0 + j, none⟩ = some (.int .u8 (l.getD j 0).toNat) := fun j hj => by
  have := hc j (.int .u8 (l.getD j 0).toNat) (by simp [bvs, List.getD_eq_getElem?_getD, hj])
  rw [Addr.add_mid] at this
  exact this
 exact ⟨g, 0, rfl, block_lt_of_cell (hat 0 h0), hat⟩
theorem run_append_no (t ty : TypeId) (base e : Nat) (i : TypeInfo) (ht : Tryz.prog.underlying t = some (.slice e)) (hi : Tryz.prog.info? e = some i) {w : World} {g n cap c size : Nat} {xs : List Value} (hown : w.ownsRow base e size (.slice (some ⟨g, 0, none⟩) n cap) n xs) :
  (Builtin.append_ #[t, t] ty #[.slice (some ⟨g, 0, none⟩) n cap, .slice none 0 c]).run Tryz.prog w = .ok (.slice (some ⟨g, 0, none⟩) n cap) w := by
 rcases hown.2 with ⟨h, _⟩ | ⟨g', cap', cur, h, _, _, hnc, _⟩
 ·cases h
 ·cases h
  simp [Builtin.append_, run_underlying ht, sizeOf, typeInfo, hi, Builtin.lenOf, Builtin.firstCells, hnc, storeCells]
theorem run_append_in (ty : TypeId) {w : World} {base g n cap c : Nat} {xs : List Value} {A : Option Addr} {l : List UInt8} (hown : w.ownsRow base 5 1 (.slice (some ⟨g, 0, none⟩) n cap) n xs) (hA : BytesAt w A l) (hn : n + l.length ≤ 1000000000) (hbase : base ≤ w.heap.size) :
  ∃ g' cap' w', (Builtin.append_ #[42, 42] ty #[.slice (some ⟨g, 0, none⟩) n cap, .slice A l.length c]).run Tryz.prog w = .ok (.slice (some ⟨g', 0, none⟩) (n + l.length) cap') w' ∧
   w'.ownsRow base 5 1 (.slice (some ⟨g', 0, none⟩) (n + l.length) cap') (n + l.length) (xs ++ bvs l) ∧ w.grownBy w' (some g) ∧ (g' = g ∨ g' = w.heap.size) := by
 obtain ⟨i0, hi, hz0, hz1, hz2⟩ := info_parts info5
 by_cases h0 : l.length = 0
 ·obtain rfl := List.length_eq_zero_iff.1 h0
  cases A with
  | none => exact ⟨g, cap, w, run_append_no 42 ty base 5 i0 Tryz.underlying42 hi hown, by simpa [bvs] using hown, ⟨rfl, rfl, rfl, Nat.le_refl _, fun _ _ _ => rfl⟩, .inl rfl⟩
  | some a =>
   have hroom : n + 0 ≤ cap := by
    rcases hown.2 with ⟨h, _⟩ | ⟨g', cap', cur, h, _, _, hnc, _⟩
    ·cases h
    ·cases h; exact hnc
   obtain ⟨w', h1, h2, h3⟩ := run_append_fits w base 42 ty 5 i0 1 Tryz.underlying42 hi hz1 g n cap xs hown a 0 c [] rfl (fun j u h => by simp at h) (fun u h => by cases h) hroom
   exact ⟨g, cap, w', h1, h2, h3, .inl rfl⟩
 ·obtain ⟨q, o, rfl, hq, hc⟩ := hA (by omega)
  obtain ⟨g', cap', w', h1, h2, h3, h4, _⟩ := run_append_lies w 42 ty base 5 i0 (.int .u8 0) 1 1 Tryz.underlying42 hi hz0 hz1 hz2 rfl (by decide) _ n xs hown ⟨q, o, none⟩ l.length c (bvs l) (by rw [bvs_len, Nat.mul_one]) (fun j u hu => by
   have hj : j < l.length := by have := (List.getElem?_eq_some_iff.1 hu).1; rw [bvs_len] at this; exact this
   rw [Addr.add_mid, hc j hj, ← hu]; simp [bvs, List.getD_eq_getElem?_getD, hj]) (fun u hu => by
    simp only [bvs, List.mem_map] at hu
    obtain ⟨y, _, rfl⟩ := hu
    rfl) (by omega) (by unfold maxLen; omega) (by omega) hbase _ rfl
  refine ⟨g', cap', w', h1, h2, h3, ?_⟩
  rcases h4 with h4 | h4
  ·left; simpa [Value.ownBlock] using h4.symm
  ·exact .inr h4
theorem wpList_app {ops : Array Oper} {rest : List Oper} {o : Oper} {a : Act} {w : World} {Q : Exit → Act → World → Prop} (hgd : o.guard = none) (s x : Operand)
  (ho : o.op = .call { callee := .builtin .append, args := #[s, x], argTypes := #[42, 42] })
  (base g n cap c m : Nat) (xs : List Value) (A : Option Addr) (l : List UInt8) (hs : a.eval s = .slice (some ⟨g, 0, none⟩) n cap) (hx : a.eval x = .slice A m c) (hm : m = l.length) (hown : w.ownsRow base 5 1 (.slice (some ⟨g, 0, none⟩) n cap) n xs)
  (hA : BytesAt w A l) (hn : n + m ≤ 1000000000) (hbase : base ≤ w.heap.size)
  (h : ∀ g' cap' w', w'.ownsRow base 5 1 (.slice (some ⟨g', 0, none⟩) (n + m) cap') (n + m) (xs ++ bvs l) → w.grownBy w' (some g) → (g' = g ∨ g' = w.heap.size) → wpList Tryz.prog ops Q rest (a.put o.dst (.slice (some ⟨g', 0, none⟩) (n + m) cap')) w') : wpList Tryz.prog ops Q (o :: rest) a w := by
 subst hm
 refine wpList_plain hgd fun _ hK => ?_
 obtain ⟨g', cap', w', hr, h2, h3, h4⟩ := run_append_in o.type (c := c) hown hA hn hbase
 unfold Oper.wp execOp
 simp only [ho, resolve, invoke, builtin, Sem.run_bind, Sem.run_pure, Result.andThen_ok, List.map_toArray, List.map_cons, List.map_nil, hs, hx, hr]
 exact hK _ _ (h g' cap' w' h2 h3 h4)
theorem own_ge {w : World} {b g n cap : Nat} {xs : List Value} (h : w.ownsRow b 5 1 (.slice (some ⟨g, 0, none⟩) n cap) n xs) : b ≤ g := by
 rcases h.2 with ⟨h0, _⟩ | ⟨g', c', cur, h1, h2, _⟩
 ·cases h0
 ·cases h1; exact h2
theorem own_below {B : Nat} {a w w' : World} {g n cap : Nat} {xs : List Value} (h : w.ownsRow B 5 1 (.slice (some ⟨g, 0, none⟩) n cap) n xs) (hb : Below B a w) (hB : B ≤ w.heap.size) (hg : w.grownBy w' (some g)) : Below B a w' :=
 hb.grown hg hB (fun k hk => by cases hk; exact own_ge h)
theorem own_zero (w : World) (b : Nat) (hb : b ≤ w.heap.size) : (w.alloc (.cells #[] 5)).ownsRow b 5 1 (.slice (some ⟨w.heap.size, 0, none⟩) 0 0) 0 (bvs []) :=
 ⟨rfl, .inr ⟨w.heap.size, 0, #[], rfl, hb, heap_alloc_new w _, Nat.le_refl _, by unfold maxLen; omega, rfl, rfl⟩⟩
theorem zer_take (a b : Nat) (h : b ≤ a) : (zer a).take b = zer b := by
 unfold zer; rw [List.take_replicate]; congr 1; omega
theorem zer_cut (a b : Nat) (h : b ≤ a) : zer a = zer b ++ zer (a - b) := by
 unfold zer; rw [List.replicate_append_replicate]; congr 1; omega
theorem bvs_app (a b : List UInt8) : bvs (a ++ b) = bvs a ++ bvs b := by simp [bvs]
theorem own_cap {w : World} {b g n cap : Nat} {xs : List Value} (h : w.ownsRow b 5 1 (.slice (some ⟨g, 0, none⟩) n cap) n xs) : n ≤ cap := by
 rcases h.2 with ⟨h0, _⟩ | ⟨g', c', cur, h1, _, _, h2, _⟩
 ·cases h0
 ·cases h1; exact h2
theorem str_at {w : World} {A : Option Addr} {l : List UInt8} {c : Nat} (hA : BytesAt w A l) (hz : l.length = 0 → A = none ∧ c = 0 ∨ ∃ x, A = some x) : (convert 42 9 (.slice A l.length c)).run Tryz.prog w = .ok (.string ⟨l.toArray⟩) w := by
 by_cases h0 : 0 < l.length
 ·obtain ⟨q, o, h1, h2, h3⟩ := hA h0
  exact str_in hz (fun _ => h1) h2 h3 (Below.refl _ _)
 ·obtain rfl := List.length_eq_zero_iff.1 (by omega : l.length = 0)
  rcases hz rfl with ⟨rfl, rfl⟩ | ⟨x, rfl⟩
  ·exact str_nil w
  ·exact str_of c (fun j v hv => by simp [bvs] at hv) 0 rfl
theorem str_same (a b : List UInt8) : ((⟨a.toArray⟩ : ByteArray).toList == (⟨b.toArray⟩ : ByteArray).toList) = decide (a = b) := by
 rw [ByteArray.toList_eq, ByteArray.toList_eq]
 by_cases h : a = b <;> simp [h]
theorem grown_of_below {w w' : World} (h : Below w.heap.size w w') : w.grownBy w' none := ⟨h.os, h.tape, h.output, h.size, fun k hk _ => h.block k hk⟩
theorem grown_of_only {w w' : World} {g : Nat} (h : Only g w w') : w.grownBy w' (some g) := ⟨h.os, h.tape, h.output, by rw [h.size]; exact Nat.le_refl _, fun k _ hg => h.block k (fun e => hg (by rw [e]))⟩
theorem conv_in (w : World) (s : ByteArray) : ∃ cap W1, (convert 9 42 (.string s)).run Tryz.prog w = .ok (.slice (some ⟨w.heap.size, 0, none⟩) s.size cap) W1 ∧ BytesAt W1 (some ⟨w.heap.size, 0, none⟩) s.data.toList ∧ Below w.heap.size w W1 ∧ s.size ≤ cap := by
 refine ⟨_, _, Lib.run_convert_string_bytes w 9 42 5 s Tryz.underlying9 Tryz.underlying42 Tryz.underlying5, fun _ => ⟨w.heap.size, 0, rfl, by rw [Lib.bytesWorld_size]; omega, fun j hj => ?_⟩, ⟨rfl, rfl, rfl, by rw [Lib.bytesWorld_size]; omega, fun k hk => Lib.bytesWorld_at_old w 5 s k hk⟩, grownCap_ge _ _ _ _⟩
 rw [Nat.zero_add]
 exact Lib.bytesWorld_cell w 5 s j (by simpa using hj)
theorem results_row_tmp {P : Program} {fn : Func} {p q : Tmp} {ty : TypeId} (h : fn.results = #[.cell p ty, .tmp q]) (tmps : Array Value) (w : World) (g : Nat) (t : TypeId) (cs : Array Value) (fr : Nat × Nat) (d : TypeDesc) (v : Value)
  (hp : tmps[p]? = some (.pointer (some ⟨g, 0, none⟩))) (hq : tmps[q]? = some v) (hg : w.heap[g]? = some (.cells cs t fr)) (hu : P.underlying ty = some d) (hd : (match d with | .struct _ | .array _ _ => true | _ => false) = true) (hi : (P.info? ty).map (·.size) = some cs.size) :
  (results fn tmps).run P w = .ok (.tuple #[.agg cs, v]) w := by
 simp [results, h, hp, hq, asAddr, run_loadVar_row w g t ty cs fr d hg hu hd hi]
theorem ba_len (s : ByteArray) : s.data.toList.length = s.size := by simp
structure Own (w : World) (b g n cap : Nat) (l : List UInt8) : Prop where
 ge : b ≤ g
 len : l.length = n
 row : ∃ (rest : List Value) (fz : Nat × Nat), w.heap[g]? = some (.cells (bvs l ++ rest).toArray 5 fz) ∧ n + rest.length = cap ∧ (fz.2 = 0 ∨ cap ≤ fz.1)
theorem Own.le {w : World} {b g n cap : Nat} {l : List UInt8} (h : Own w b g n cap l) : n ≤ cap := by
 obtain ⟨r, fz, h1, h2, h3⟩ := h.row; omega
theorem Own.lt {w : World} {b g n cap : Nat} {l : List UInt8} (h : Own w b g n cap l) : g < w.heap.size := by
 obtain ⟨r, fz, h1, h2, h3⟩ := h.row; exact (Array.getElem?_eq_some_iff.1 h1).1
theorem Own.kept {w w' : World} {b g n cap : Nat} {l : List UInt8} (h : Own w b g n cap l) (hk : w'.heap[g]? = w.heap[g]?) : Own w' b g n cap l := by
 obtain ⟨r, fz, h1, h2⟩ := h.row
 exact ⟨h.ge, h.len, r, fz, hk.trans h1, h2⟩
theorem Own.bytes {w : World} {b g n cap : Nat} {l : List UInt8} (h : Own w b g n cap l) : BytesAt w (some ⟨g, 0, none⟩) l := fun _ => by
 obtain ⟨r, fz, h1, h2, h3⟩ := h.row
 refine ⟨g, 0, rfl, h.lt, fun j hj => ?_⟩
 rw [cell_of_row _ _ _ _ _ _ h1, List.getElem?_toArray, List.getElem?_append_left (by rw [bvs_len]; omega)]
 simp [bvs, List.getD_eq_getElem?_getD, hj]
theorem setCells_heapF (g : Nat) (t : TypeId) (fz : Nat × Nat) : ∀ (vs : List Value) (o : Nat) (w : World) (cs : Array Value), w.heap[g]? = some (.cells cs t fz) → (w.setCells g o vs).heap[g]? = some (.cells (over cs o vs) t fz)
 | [], _, _, _, h => h
 | v :: r, o, w, cs, h => setCells_heapF g t fz r (o + 1) (w.setCell ⟨g, o, none⟩ v) (cs.setIfInBounds o v) (by simp [World.setCell, Array.getElem?_modify, h])
theorem Own.cell {w : World} {b g n cap : Nat} {l : List UInt8} (h : Own w b g n cap l) (j : Nat) (hj : j < cap) : (w.cell? ⟨g, j, none⟩).isSome = true ∧ w.frozen? ⟨g, j, none⟩ = false := by
 obtain ⟨r, fz, h1, h2, h3⟩ := h.row
 constructor
 ·rw [cell_of_row _ _ _ _ _ _ h1, List.getElem?_toArray, List.getElem?_eq_getElem (by rw [List.length_append, bvs_len, h.len]; omega)]; rfl
 ·simp only [World.frozen?, h1]
  rcases h3 with h3 | h3
  ·simp [h3]
  ·simp; omega
theorem src_text (w : World) (s : ByteArray) : Src Tryz.prog 1 9 (.string s) s.size (bvs s.data.toList) w := Src.ofString w Tryz.underlying9 s
theorem Own.run_app {w : World} {b g n cap m : Nat} {l l2 : List UInt8} (h : Own w b g n cap l) (tx ty : TypeId) (x : Value) (hs : Src Tryz.prog 1 tx x m (bvs l2) w) (hn : n + m ≤ 1000000000) (hb : b ≤ w.heap.size) :
  ∃ g' cap' w', (Builtin.append_ #[42, tx] ty #[.slice (some ⟨g, 0, none⟩) n cap, x]).run Tryz.prog w = .ok (.slice (some ⟨g', 0, none⟩) (n + m) cap') w' ∧ Own w' b g' (n + m) cap' (l ++ l2) ∧ w.grownBy w' (some g) ∧ (g' = g ∨ g' = w.heap.size) := by
 obtain ⟨i0, hi, hz0, hz1, hz2⟩ := info_parts info5
 have hm : l2.length = m := by have := hs.newsLen; rw [bvs_len, Nat.mul_one] at this; exact this
 have hs' : Src Tryz.prog i0.size tx x m (bvs l2) w := by rw [hz1]; exact hs
 by_cases hroom : n + m ≤ cap
 ·obtain ⟨r, fz, h1, h2, h3⟩ := h.row
  have hr := run_append_room_src w 42 tx ty 5 i0 Tryz.underlying42 hi g 0 n cap x m (bvs l2) hs' hroom (fun j hj => by rw [bvs_len, hm] at hj; rw [hz1, Nat.zero_add, Nat.mul_one]; exact (h.cell (n + j) (by omega)).1) (fun j hj => by rw [bvs_len, hm] at hj; rw [hz1, Nat.zero_add, Nat.mul_one]; exact (h.cell (n + j) (by omega)).2)
  rw [hz1, Nat.zero_add, Nat.mul_one] at hr
  refine ⟨g, cap, _, hr, ⟨h.ge, by rw [List.length_append, h.len, hm], r.drop m, fz, ?_, by rw [List.length_drop]; omega, h3⟩, ?_, .inl rfl⟩
  ·rw [setCells_heapF g 5 fz (bvs l2) n w _ h1]
   have := over_mid (r.take m) (bvs l2) (bvs l) (r.drop m) (by rw [bvs_len, hm, List.length_take]; omega)
   rw [List.take_append_drop, bvs_len, h.len] at this
   rw [this, bvs_app, List.append_assoc]
  ·exact grown_of_only (only_setCells g (bvs l2) n w)
 ·have hold : (Builtin.firstCells i0.size n (.slice (some ⟨g, 0, none⟩) n cap)).run Tryz.prog w.drew = .ok (bvs l).toArray w.drew := by
   have hbt := h.bytes
   refine run_firstCells_some w.drew i0.size n ⟨g, 0, none⟩ n cap (bvs l) (by rw [hz1, bvs_len, Nat.mul_one, h.len]) (fun j u hu => ?_)
   have hj : j < l.length := by have := (List.getElem?_eq_some_iff.1 hu).1; rw [bvs_len] at this; exact this
   obtain ⟨q, o, e, hq, hc⟩ := hbt (by omega)
   cases e
   have := hc j hj
   rw [Addr.add_mid]
   show w.cell? _ = _
   rw [this, ← hu]; simp [bvs, List.getD_eq_getElem?_getD, hj]
  have hr := run_append_grow_src w 42 tx ty 5 i0 (.int .u8 0) Tryz.underlying42 hi hz0 (some ⟨g, 0, none⟩) n cap (bvs l) hold x m (bvs l2) hs' (by omega) (by omega) (growslice_fits (by omega) (by rw [hz2]; omega))
  have hge := grownCap_ge w (n + m) cap 5
  refine ⟨w.heap.size, _, _, hr, ⟨hb, by rw [List.length_append, h.len, hm], (Builtin.zeroCells (Value.int .u8 0).cells (grownCap w (n + m) cap 5 - (n + m))).toList, (0, 0), ?_, ?_, .inl rfl⟩, ⟨rfl, rfl, rfl, by simp, fun k hk _ => Below.heap_alloc w.drew _ k hk⟩, .inr rfl⟩
  ·rw [show w.heap.size = w.drew.heap.size from rfl, heap_alloc_new w.drew _, bvs_app]
   refine congrArg (fun a => some (Obj.cells a 5 (0, 0))) (Array.ext' ?_)
   simp
  ·rw [Array.length_toList, size_zeroCells]
   have : (Value.int .u8 0).cells.size = 1 := rfl
   rw [this]; omega
theorem conv_own (w : World) (s : ByteArray) : ∃ cap W1, (convert 9 42 (.string s)).run Tryz.prog w = .ok (.slice (some ⟨w.heap.size, 0, none⟩) s.size cap) W1 ∧ Own W1 w.heap.size w.heap.size s.size cap s.data.toList ∧ Below w.heap.size w W1 := by
 have hge := grownCap_ge w s.size 0 5
 refine ⟨_, _, Lib.run_convert_string_bytes w 9 42 5 s Tryz.underlying9 Tryz.underlying42 Tryz.underlying5, ⟨Nat.le_refl _, by simp, List.replicate (grownCap w s.size 0 5 - s.size) (.int .u8 0), ((Lib.bytesCells w 5 s).size, (Lib.bytesCells w 5 s).size + 1), ?_, by rw [List.length_replicate]; omega, .inr ?_⟩, ⟨rfl, rfl, rfl, by rw [Lib.bytesWorld_size]; omega, fun k hk => Lib.bytesWorld_at_old w 5 s k hk⟩⟩
 ·rw [Lib.bytesWorld_at_new]
  congr 2
  apply Array.ext'
  simp [Lib.bytesCells, bvs]
 ·simp [Lib.bytesCells]; omega
theorem take_snoc (l : List UInt8) (j : Nat) (h : j < l.length) : l.take (j + 1) = l.take j ++ [l.getD j 0] := by
 rw [List.take_succ_eq_append_getElem h, List.getD_eq_getElem?_getD, List.getElem?_eq_getElem h]; rfl
theorem str_row {w : World} {g n c : Nat} {l : List UInt8} (h : BytesAt w (some ⟨g, 0, none⟩) l) (hl : l.length = n) : (convert 42 9 (.slice (some ⟨g, 0, none⟩) n c)).run Tryz.prog w = .ok (.string ⟨l.toArray⟩) w := by
 subst hl
 exact str_at h (fun _ => .inr ⟨_, rfl⟩)
end Go.Proofs.YtgoiafndapemjaaGreatDoor
namespace Go.Proofs.YtgoiafndapemjaaGreatDoor
open Go.RowKit
structure OwnV (w : World) (e : TypeId) (b g n cap : Nat) (xs : List Value) : Prop where
 ge : b ≤ g
 len : xs.length = n
 row : ∃ rest : List Value, w.heap[g]? = some (.cells (xs ++ rest).toArray e (0, 0)) ∧ n + rest.length = cap
structure OneCell (P : Program) (t e : TypeId) : Prop where
 sl : P.underlying t = some (.slice e)
 info : ∃ i z, P.info? e = some i ∧ i.zero = some z ∧ i.size = 1 ∧ i.bytes ≤ 100 ∧ z.cells.size = 1
theorem OwnV.le {w : World} {e b g n cap : Nat} {xs : List Value} (h : OwnV w e b g n cap xs) : n ≤ cap := by
 obtain ⟨r, h1, h2⟩ := h.row; omega
theorem OwnV.lt {w : World} {e b g n cap : Nat} {xs : List Value} (h : OwnV w e b g n cap xs) : g < w.heap.size := by
 obtain ⟨r, h1, h2⟩ := h.row; exact (Array.getElem?_eq_some_iff.1 h1).1
theorem OwnV.kept {w w' : World} {e b g n cap : Nat} {xs : List Value} (h : OwnV w e b g n cap xs) (hk : w'.heap[g]? = w.heap[g]?) : OwnV w' e b g n cap xs := by
 obtain ⟨r, h1, h2⟩ := h.row
 exact ⟨h.ge, h.len, r, hk.trans h1, h2⟩
theorem OwnV.below {w w' : World} {e b g n cap B : Nat} {xs : List Value} (h : OwnV w e b g n cap xs) (hb : Below B w w') (hB : w.heap.size ≤ B) : OwnV w' e b g n cap xs := h.kept (hb.block g (Nat.lt_of_lt_of_le h.lt hB))
theorem OwnV.alloc {w : World} {e b g n cap : Nat} {xs : List Value} (h : OwnV w e b g n cap xs) (o : Obj) : OwnV (w.alloc o) e b g n cap xs := h.kept (Below.heap_alloc w o g h.lt)
theorem OwnV.at {w : World} {e b g n cap : Nat} {xs : List Value} (h : OwnV w e b g n cap xs) (j : Nat) (v : Value) (hj : xs[j]? = some v) : w.cell? ⟨g, j, none⟩ = some v := by
 obtain ⟨r, h1, h2⟩ := h.row
 have hl : j < xs.length := (List.getElem?_eq_some_iff.1 hj).1
 rw [cell_of_row _ _ _ _ _ _ h1, List.getElem?_toArray, List.getElem?_append_left hl]
 exact hj
theorem OwnV.room {w : World} {e b g n cap : Nat} {xs : List Value} (h : OwnV w e b g n cap xs) (j : Nat) (hj : j < cap) : (w.cell? ⟨g, j, none⟩).isSome = true ∧ w.frozen? ⟨g, j, none⟩ = false := by
 obtain ⟨r, h1, h2⟩ := h.row
 constructor
 ·rw [cell_of_row _ _ _ _ _ _ h1, List.getElem?_toArray, List.getElem?_eq_getElem (by rw [List.length_append, h.len]; omega)]; rfl
 ·exact frozen_of_row _ _ _ _ _ h1
theorem OwnV.of_row {w : World} {e b g : Nat} {xs : List Value} (hb : b ≤ g) (h : w.heap[g]? = some (.cells xs.toArray e (0, 0))) : OwnV w e b g xs.length xs.length xs :=
 ⟨hb, rfl, [], by rw [List.append_nil]; exact h, by simp⟩
theorem OwnV.grown {B e : Nat} {a w w' : World} {g n cap : Nat} {xs : List Value} (h : OwnV w e B g n cap xs) (hb : Below B a w) (hB : B ≤ w.heap.size) (hg : w.grownBy w' (some g)) : Below B a w' :=
 hb.grown hg hB (fun k hk => by cases hk; exact h.ge)
theorem src_lit {P : Program} {t e : TypeId} (ht : OneCell P t e) (w : World) (g c : Nat) (ys : List Value) (h : w.heap[g]? = some (.cells ys.toArray e (0, 0))) (h1 : ∀ u ∈ ys, u.oneCell' = true) : Src P 1 t (.slice (some ⟨g, 0, none⟩) ys.length c) ys.length ys w :=
 Src.ofSlice w ht.sl ⟨g, 0, none⟩ ys.length c ys (by rw [Nat.mul_one]) (fun j u hu => by
  rw [Addr.add_mid, Nat.zero_add, cell_of_row _ _ _ _ _ _ h, List.getElem?_toArray]; exact hu) h1
theorem OwnV.run_app {P : Program} {t e : TypeId} (ht : OneCell P t e) {w : World} {b g n cap m : Nat} {xs ys : List Value} (h : OwnV w e b g n cap xs) (ty : TypeId) (x : Value) (hs : Src P 1 t x m ys w) (hn : n + m ≤ 1000000000) (hb : b ≤ w.heap.size) :
  ∃ g' cap' w', (Builtin.append_ #[t, t] ty #[.slice (some ⟨g, 0, none⟩) n cap, x]).run P w = .ok (.slice (some ⟨g', 0, none⟩) (n + m) cap') w' ∧ OwnV w' e b g' (n + m) cap' (xs ++ ys) ∧ w.grownBy w' (some g) ∧ (g' = g ∨ g' = w.heap.size) := by
 obtain ⟨i0, z, hi, hz0, hz1, hz2, hzc⟩ := ht.info
 have hm : ys.length = m := by have := hs.newsLen; rw [Nat.mul_one] at this; exact this
 have hs' : Src P i0.size t x m ys w := by rw [hz1]; exact hs
 by_cases hroom : n + m ≤ cap
 ·obtain ⟨r, h1, h2⟩ := h.row
  have hr := run_append_room_src w t t ty e i0 ht.sl hi g 0 n cap x m ys hs' hroom (fun j hj => by rw [hm] at hj; rw [hz1, Nat.zero_add, Nat.mul_one]; exact (h.room (n + j) (by omega)).1) (fun j hj => by rw [hm] at hj; rw [hz1, Nat.zero_add, Nat.mul_one]; exact (h.room (n + j) (by omega)).2)
  rw [hz1, Nat.zero_add, Nat.mul_one] at hr
  refine ⟨g, cap, _, hr, ⟨h.ge, by rw [List.length_append, h.len, hm], r.drop m, ?_, by rw [List.length_drop]; omega⟩, grown_of_only (only_setCells g ys n w), .inl rfl⟩
  rw [setCells_heapF g e (0, 0) ys n w _ h1]
  have := over_mid (r.take m) ys xs (r.drop m) (by rw [hm, List.length_take]; omega)
  rw [List.take_append_drop, h.len] at this
  rw [this, List.append_assoc]
 ·have hold : (Builtin.firstCells i0.size n (.slice (some ⟨g, 0, none⟩) n cap)).run P w.drew = .ok xs.toArray w.drew :=
   run_firstCells_some w.drew i0.size n ⟨g, 0, none⟩ n cap xs (by rw [hz1, Nat.mul_one, h.len]) (fun j u hu => by
    rw [Addr.add_mid, Nat.zero_add]
    exact h.at j u hu)
  have hr := run_append_grow_src w t t ty e i0 z ht.sl hi hz0 (some ⟨g, 0, none⟩) n cap xs hold x m ys hs' (by omega) (by omega) (growslice_fits (by omega) (by
   have : (n + m) * i0.bytes ≤ 1000000000 * 100 := Nat.mul_le_mul hn hz2
   omega))
  have hge := grownCap_ge w (n + m) cap e
  refine ⟨w.heap.size, _, _, hr, ⟨hb, by rw [List.length_append, h.len, hm], (Builtin.zeroCells z.cells (grownCap w (n + m) cap e - (n + m))).toList, ?_, ?_⟩, ⟨rfl, rfl, rfl, by simp, fun k hk _ => Below.heap_alloc w.drew _ k hk⟩, .inr rfl⟩
  ·rw [show w.heap.size = w.drew.heap.size from rfl, heap_alloc_new w.drew _]
   congr 2
   apply Array.ext'
   simp
  ·rw [Array.length_toList, size_zeroCells, hzc]; omega
theorem wpList_ownV {P : Program} {t e : TypeId} (ht : OneCell P t e) {ops : Array Oper} {rest : List Oper} {o : Oper} {a : Act} {w : World} {Q : Exit → Act → World → Prop} (hgd : o.guard = none) (s x : Operand)
  (ho : o.op = .call { callee := .builtin .append, args := #[s, x], argTypes := #[t, t] })
  (base g n cap m : Nat) (xs ys : List Value) (xv : Value) (hs : a.eval s = .slice (some ⟨g, 0, none⟩) n cap) (hx : a.eval x = xv) (hown : OwnV w e base g n cap xs)
  (hA : Src P 1 t xv m ys w) (hn : n + m ≤ 1000000000) (hbase : base ≤ w.heap.size)
  (h : ∀ g' cap' w', OwnV w' e base g' (n + m) cap' (xs ++ ys) → w.grownBy w' (some g) → (g' = g ∨ g' = w.heap.size) → wpList P ops Q rest (a.put o.dst (.slice (some ⟨g', 0, none⟩) (n + m) cap')) w') : wpList P ops Q (o :: rest) a w := by
 refine wpList_plain hgd fun _ hK => ?_
 obtain ⟨g', cap', w', hr, h2, h3, h4⟩ := hown.run_app ht o.type xv hA hn hbase
 unfold Oper.wp execOp
 simp only [ho, resolve, invoke, builtin, Sem.run_bind, Sem.run_pure, Result.andThen_ok, List.map_toArray, List.map_cons, List.map_nil, hs, hx, hr]
 exact hK _ _ (h g' cap' w' h2 h3 h4)
end Go.Proofs.YtgoiafndapemjaaGreatDoor
namespace Go.Proofs.YtgoiafndapemjaaGreatDoor
open Go.RowKit
structure OwnK (w : World) (k : Nat) (e : TypeId) (b g n cap : Nat) (xs : List Value) : Prop where
 ge : b ≤ g
 len : xs.length = n * k
 row : ∃ rest : List Value, w.heap[g]? = some (.cells (xs ++ rest).toArray e (0, 0)) ∧ rest.length = (cap - n) * k ∧ n ≤ cap
structure KCells (P : Program) (k : Nat) (t e : TypeId) : Prop where
 sl : P.underlying t = some (.slice e)
 info : ∃ i z, P.info? e = some i ∧ i.zero = some z ∧ i.size = k ∧ i.bytes ≤ 100 ∧ z.cells.size = k
theorem OwnK.le {w : World} {k e b g n cap : Nat} {xs : List Value} (h : OwnK w k e b g n cap xs) : n ≤ cap := by
 obtain ⟨r, h1, h2, h3⟩ := h.row; exact h3
theorem OwnK.lt {w : World} {k e b g n cap : Nat} {xs : List Value} (h : OwnK w k e b g n cap xs) : g < w.heap.size := by
 obtain ⟨r, h1, h2⟩ := h.row; exact (Array.getElem?_eq_some_iff.1 h1).1
theorem OwnK.kept {w w' : World} {k e b g n cap : Nat} {xs : List Value} (h : OwnK w k e b g n cap xs) (hk : w'.heap[g]? = w.heap[g]?) : OwnK w' k e b g n cap xs := by
 obtain ⟨r, h1, h2⟩ := h.row
 exact ⟨h.ge, h.len, r, hk.trans h1, h2⟩
theorem OwnK.below {w w' : World} {k e b g n cap B : Nat} {xs : List Value} (h : OwnK w k e b g n cap xs) (hb : Below B w w') (hB : w.heap.size ≤ B) : OwnK w' k e b g n cap xs := h.kept (hb.block g (Nat.lt_of_lt_of_le h.lt hB))
theorem OwnK.at {w : World} {k e b g n cap : Nat} {xs : List Value} (h : OwnK w k e b g n cap xs) (j : Nat) (v : Value) (hj : xs[j]? = some v) : w.cell? ⟨g, j, none⟩ = some v := by
 obtain ⟨r, h1, h2⟩ := h.row
 have hl : j < xs.length := (List.getElem?_eq_some_iff.1 hj).1
 rw [cell_of_row _ _ _ _ _ _ h1, List.getElem?_toArray, List.getElem?_append_left hl]
 exact hj
theorem OwnK.room {w : World} {k e b g n cap : Nat} {xs : List Value} (h : OwnK w k e b g n cap xs) (j : Nat) (hj : j < cap * k) : (w.cell? ⟨g, j, none⟩).isSome = true ∧ w.frozen? ⟨g, j, none⟩ = false := by
 obtain ⟨r, h1, h2, h3⟩ := h.row
 constructor
 ·have e : n * k + (cap - n) * k = cap * k := by rw [← Nat.add_mul]; congr 1; omega
  rw [cell_of_row _ _ _ _ _ _ h1, List.getElem?_toArray, List.getElem?_eq_getElem (by rw [List.length_append, h.len, h2]; omega)]; rfl
 ·exact frozen_of_row _ _ _ _ _ h1
theorem OwnK.zero (w : World) (k e b : Nat) (hb : b ≤ w.heap.size) : OwnK (w.alloc (.cells #[] e)) k e b w.heap.size 0 0 [] :=
 ⟨hb, by simp, [], heap_alloc_new w _, by simp, Nat.le_refl _⟩
theorem OwnK.grown {B k e : Nat} {a w w' : World} {g n cap : Nat} {xs : List Value} (h : OwnK w k e B g n cap xs) (hb : Below B a w) (hB : B ≤ w.heap.size) (hg : w.grownBy w' (some g)) : Below B a w' :=
 hb.grown hg hB (fun k hk => by cases hk; exact h.ge)
theorem src_litK {P : Program} {k : Nat} {t e : TypeId} (ht : KCells P k t e) (w : World) (g n c : Nat) (ys : List Value) (hl : ys.length = n * k) (h : w.heap[g]? = some (.cells ys.toArray e (0, 0))) (h1 : ∀ u ∈ ys, u.oneCell' = true) : Src P k t (.slice (some ⟨g, 0, none⟩) n c) n ys w :=
 Src.ofSlice w ht.sl ⟨g, 0, none⟩ n c ys hl (fun j u hu => by
  rw [Addr.add_mid, Nat.zero_add, cell_of_row _ _ _ _ _ _ h, List.getElem?_toArray]; exact hu) h1
theorem OwnK.run_app {P : Program} {k : Nat} {t e : TypeId} (ht : KCells P k t e) {w : World} {b g n cap m : Nat} {xs ys : List Value} (h : OwnK w k e b g n cap xs) (ty : TypeId) (x : Value) (hs : Src P k t x m ys w) (hn : n + m ≤ 1000000000) (hb : b ≤ w.heap.size) :
  ∃ g' cap' w', (Builtin.append_ #[t, t] ty #[.slice (some ⟨g, 0, none⟩) n cap, x]).run P w = .ok (.slice (some ⟨g', 0, none⟩) (n + m) cap') w' ∧ OwnK w' k e b g' (n + m) cap' (xs ++ ys) ∧ w.grownBy w' (some g) ∧ (g' = g ∨ g' = w.heap.size) := by
 obtain ⟨i0, z, hi, hz0, hz1, hz2, hzc⟩ := ht.info
 have hm : ys.length = m * k := hs.newsLen
 have hs' : Src P i0.size t x m ys w := by rw [hz1]; exact hs
 have e1 : n * k + m * k = (n + m) * k := by rw [Nat.add_mul]
 by_cases hroom : n + m ≤ cap
 ·obtain ⟨r, h1, h2, h3⟩ := h.row
  have e2 : (n + m) * k ≤ cap * k := Nat.mul_le_mul_right k hroom
  have hr := run_append_room_src w t t ty e i0 ht.sl hi g 0 n cap x m ys hs' hroom (fun j hj => by rw [hm] at hj; rw [hz1, Nat.zero_add]; exact (h.room (n * k + j) (by omega)).1) (fun j hj => by rw [hm] at hj; rw [hz1, Nat.zero_add]; exact (h.room (n * k + j) (by omega)).2)
  rw [hz1, Nat.zero_add] at hr
  have e3 : (cap - n) * k = m * k + (cap - (n + m)) * k := by rw [← Nat.add_mul]; congr 1; omega
  refine ⟨g, cap, _, hr, ⟨h.ge, by rw [List.length_append, h.len, hm, e1], r.drop (m * k), ?_, by rw [List.length_drop, h2, e3]; omega, hroom⟩, grown_of_only (only_setCells g ys (n * k) w), .inl rfl⟩
  rw [setCells_heapF g e (0, 0) ys (n * k) w _ h1]
  have := over_mid (r.take (m * k)) ys xs (r.drop (m * k)) (by rw [hm, List.length_take, h2, e3]; omega)
  rw [List.take_append_drop, h.len] at this
  rw [this, List.append_assoc]
 ·have hold : (Builtin.firstCells i0.size n (.slice (some ⟨g, 0, none⟩) n cap)).run P w.drew = .ok xs.toArray w.drew :=
   run_firstCells_some w.drew i0.size n ⟨g, 0, none⟩ n cap xs (by rw [hz1, h.len]) (fun j u hu => by
    rw [Addr.add_mid, Nat.zero_add]
    exact h.at j u hu)
  have hr := run_append_grow_src w t t ty e i0 z ht.sl hi hz0 (some ⟨g, 0, none⟩) n cap xs hold x m ys hs' (by omega) (by omega) (growslice_fits (by omega) (by
   have : (n + m) * i0.bytes ≤ 1000000000 * 100 := Nat.mul_le_mul hn hz2
   omega))
  have hge := grownCap_ge w (n + m) cap e
  refine ⟨w.heap.size, _, _, hr, ⟨hb, by rw [List.length_append, h.len, hm, e1], (Builtin.zeroCells z.cells (grownCap w (n + m) cap e - (n + m))).toList, ?_, ?_, hge⟩, ⟨rfl, rfl, rfl, by simp, fun k hk _ => Below.heap_alloc w.drew _ k hk⟩, .inr rfl⟩
  ·rw [show w.heap.size = w.drew.heap.size from rfl, heap_alloc_new w.drew _]
   congr 2
   apply Array.ext'
   simp
  ·rw [Array.length_toList, size_zeroCells, hzc]
end Go.Proofs.YtgoiafndapemjaaGreatDoor
