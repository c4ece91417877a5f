
/- Memory laws of earlier layers, picked. -/
import Derived.Test.YtkjpdfcemdhnpaaXmBase
import Derived.Test.YtkjpdfcemdhnpaaBlMath
namespace Go.Proofs.Ytkjpdfcemdhnpaa
set_option linter.unusedVariables false
set_option linter.unusedSimpArgs false
open Go.RowKit Go.BigFrame

theorem cell_same {w W : World} {q : Nat} (h : W.heap[q]? = w.heap[q]?) (i : Nat) : W.cell? ⟨q, i, none⟩ = w.cell? ⟨q, i, none⟩ := by unfold World.cell?; simp only [h]
/-- append(nil, headers...). -/
theorem run_nilK {P : Program} {k : Nat} {t e : TypeId} (ht : KCells P k t e) {w : World} {b m : Nat} {ys : List Value} (ty : TypeId) (x : Value) (hs : Src P k t x m ys w) (h0 : 0 < m) (hn : m ≤ 1000000000) (hb : b ≤ w.heap.size) :
    ∃ cap w', (Builtin.append_ #[t, t] ty #[.slice none 0 0, x]).run P w = .ok (.slice (some ⟨w.heap.size, 0, none⟩) m cap) w' ∧ OwnK w' k e b w.heap.size m cap ys ∧ Below w.heap.size w w' := by
  obtain ⟨i0, z, hi, hz0, hz1, hz2, hzc⟩ := ht.info
  have hm : ys.length = m * k := hs.newsLen
  have hs' : Src P i0.size t x m ys w := by rw [hz1]; exact hs
  have hold : (Builtin.firstCells i0.size 0 (.slice none 0 0)).run P w.drew = .ok (([] : List Value)).toArray w.drew := by simp [Builtin.firstCells]
  have hr := run_append_grow_src w t t ty e i0 z ht.sl hi hz0 none 0 0 [] hold x m ys hs' (by omega) (by omega) (growslice_fits (by omega) (by
    have : (0 + m) * i0.bytes ≤ 1000000000 * 100 := Nat.mul_le_mul (by omega) hz2
    omega))
  rw [Nat.zero_add] at hr
  have hge := grownCap_ge w m 0 e
  refine ⟨_, _, hr, ⟨hb, hm, (Builtin.zeroCells z.cells (grownCap w m 0 e - m)).toList, ?_, ?_, hge⟩, ((Below.refl _ _).drew).alloc (Nat.le_refl _) _⟩
  · rw [show w.heap.size = w.drew.heap.size from rfl, heap_alloc_new w.drew _]
    refine congrArg (fun a => some (Obj.cells a e (0, 0))) (Array.ext' ?_)
    simp
  · rw [Array.length_toList, size_zeroCells, hzc]
theorem run_store_one (w : World) (t b o : Nat) (v : Value) (hv : v.oneCell' = true) (hc : v.cells = #[v]) (hi : (Try.prog.info? t).map (·.size) = some 1) (ht : w.there b o 1) : (storeVar t ⟨b, o, none⟩ v).run Try.prog w = .ok () (w.setCells b o [v]) := by
  have := run_storeCells_cells (P := Try.prog) b o [v] 0 w (fun j hj => by simpa using (ht j (by simpa using hj)).1) (fun j hj => by simpa using (ht j (by simpa using hj)).2) (fun v' hv' => by simp at hv'; subst hv'; exact hv)
  obtain ⟨i, hi1, hi2⟩ := Option.map_eq_some_iff.1 hi
  simp only [Nat.add_zero] at this
  simp [storeVar, sizeOf, typeInfo, hi1, hc, hi2, this]
/-- A part goes into a message. -/
theorem store_part {ops : Array Oper} {rest : List Oper} {op : Oper} {a : Act} {w : World} {Q : Exit → Act → World → Prop} (hgd : op.guard = none) (t : TypeId) (x y : Operand) (ho : op.op = .store t x y)
    (b j : Nat) (v : Value) (tr : TypeId) (cs cs' : Array Value) (hv : v.oneCell' = true) (hc : v.cells = #[v]) (hi : (Try.prog.info? t).map (·.size) = some 1) (hj : j < cs.size) (hx : a.eval x = .pointer (some ⟨b, j, none⟩)) (hy : a.eval y = v)
    (hrow : w.heap[b]? = some (.cells cs tr (0, 0))) (hset : cs.setIfInBounds j v = cs')
    (h : ∀ W, Only b w W → W.heap[b]? = some (.cells cs' tr (0, 0)) → wpList Try.prog ops Q rest (a.put op.dst undef) W) : wpList Try.prog ops Q (op :: rest) a w :=
  wpList_plain hgd fun _ hK => by
    have ht := there_row hrow j 1 (by omega)
    unfold Oper.wp execOp
    simp only [ho, hx, hy, Instr.storeAt, Instr.sureAddr, Sem.run_bind, Sem.run_pure, Result.andThen_ok, run_store_one w t b j v hv hc hi ht]
    refine hK _ _ (h _ (only_setCells b _ j w) ?_)
    rw [setCells_heap b tr _ j w _ hrow]
    simp only [over]
    rw [hset]
def putM (w : World) (g : Nat) (cs : Array Value) : World := w.setCells g 0 cs.toList
theorem putM_only (w : World) (g : Nat) (cs : Array Value) : Only g w (putM w g cs) := only_setCells g cs.toList 0 w
theorem putM_row {w : World} {g : Nat} {t : TypeId} {cs cs' : Array Value} (hrow : w.heap[g]? = some (.cells cs t (0, 0))) (h : cs'.size = cs.size) : (putM w g cs').heap[g]? = some (.cells cs' t (0, 0)) := by
  unfold putM
  rw [setCells_heap g t cs'.toList 0 w cs hrow, over_whole cs cs' h]
theorem heap_first (w : World) (o1 o2 : Obj) : ((w.alloc o1).alloc o2).heap[w.heap.size]? = some o1 := (Below.heap_alloc _ _ _ (by simp)).trans (heap_alloc_new w o1)
theorem heap_second (w : World) (o1 o2 : Obj) : ((w.alloc o1).alloc o2).heap[w.heap.size + 1]? = some o2 := by
  have := heap_alloc_new (w.alloc o1) o2
  rwa [show (w.alloc o1).heap.size = w.heap.size + 1 from by simp] at this
/-- What a method on R does to the world: R turns, new blocks come. -/
theorem to_below {R : Nat} {w w' : World} (h : Below w.heap.size w w') : w.grownBy w' (some R) := ⟨h.os, h.tape, h.output, h.size, fun k hk _ => h.block k hk⟩
theorem to_only {R : Nat} {w w' : World} (h : Only R w w') : w.grownBy w' (some R) := grown_of_only h
/-- A row that is not R's stands. -/
theorem to_row {R g : Nat} {w w' : World} {o : Obj} (h : w.grownBy w' (some R)) (hg : w.heap[g]? = some o) (hne : g ≠ R) : w'.heap[g]? = some o :=
  (h.block g (Array.getElem?_eq_some_iff.1 hg).1 (fun e => hne (by injection e))).trans hg
theorem row_keep {V W : World} {g : Nat} {o : Obj} (h : Below V.heap.size V W) (hr : V.heap[g]? = some o) : W.heap[g]? = some o := (h.block g (Array.getElem?_eq_some_iff.1 hr).1).trans hr
def blk : Value → Option Nat
  | .slice (some a) _ _ => some a.block
  | _ => none
theorem grow_own {w W W' : World} {R : Nat} {b : Option Nat} (h : w.grownBy W (some R)) (h2 : W.grownBy W' b) (hb : ∀ q, b = some q → w.heap.size ≤ q) : w.grownBy W' (some R) :=
  ⟨h2.os.trans h.os, h2.tape.trans h.tape, h2.output.trans h.output, Nat.le_trans h.size h2.size, fun k hk hne => (h2.block k (Nat.lt_of_lt_of_le hk h.size) (fun e => by have := hb k e.symm; omega)).trans (h.block k hk hne)⟩
theorem below_drewQ (w : World) : Below w.heap.size w w.drew := (Below.refl _ _).drew
end Go.Proofs.Ytkjpdfcemdhnpaa
