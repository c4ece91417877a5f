
/- A header's texts copied, a line read: what copied, readLine and unended of package header do. -/
import Derived.Test.YtclonnpglikddaaGreatDoorHdSame
namespace Go.Proofs.YtclonnpglikddaaGreatDoor
set_option linter.unusedVariables false
set_option linter.unusedSimpArgs false
open Go.RowKit Go.BigFrame

theorem hcs_size (h : HdV) : (hcs h).size = 2 := rfl
theorem hcs_info (h : HdV) : (Tryz.prog.info? 69).map (·.size) = some (hcs h).size := by rw [hcs_size]; kernel_rfl
theorem hcs_one (h : HdV) : (hcs h).all (·.oneCell') = true := by
  unfold hcs
  refine all_oneCell_toArray fun v hv => ?_
  simp only [List.mem_cons, List.not_mem_nil, or_false] at hv
  rcases hv with rfl | rfl <;> rfl
theorem store_hd {ops : Array Oper} {rest : List Oper} {op : Oper} {a : Act} {w : World} {Q : Exit → Act → World → Prop} (hgd : op.guard = none) (x y : Operand) (ho : op.op = .store 69 x y)
    (b : Nat) (u : HdV) (hx : a.eval x = .pointer (some ⟨b, 0, none⟩)) (hy : a.eval y = .agg (hcs u))
    (cs : Array Value) (hrow : w.heap[b]? = some (.cells cs 69 (0, 0))) (hcs' : cs.size = 2)
    (h : ∀ W, Only b w W → W.heap[b]? = some (.cells (hcs u) 69 (0, 0)) → wpList Tryz.prog ops Q rest (a.put op.dst undef) W) : wpList Tryz.prog ops Q (op :: rest) a w :=
  wpList_store_abs hgd 69 x y ho b 0 (hcs u) hx hy 69 cs hrow (by rw [hcs_size, hcs']; exact Nat.le_refl _) (hcs_info u) (hcs_one u)
    (fun W h1 h2 => h W h1 (by rw [h2, over_whole cs (hcs u) (by rw [hcs_size, hcs'])]))
theorem ret_hd {fn : Func} {p : Tmp} (h : fn.results = #[.cell p 69]) (tmps : Array Value) (w : World) (b : Nat) (u : HdV) (fr : Nat × Nat) (hp : tmps.getD p undef = .pointer (some ⟨b, 0, none⟩)) (hrow : w.heap[b]? = some (.cells (hcs u) 69 fr)) :
    (results fn tmps).run Tryz.prog w = .ok (.agg (hcs u)) w :=
  results_cell_row h tmps w b 69 (hcs u) fr _ hp hrow Tryz.underlying69 rfl (hcs_info u)
theorem ret_hd2 {fn : Func} {p q : Tmp} (h : fn.results = #[.cell p 69, .tmp q]) (tmps : Array Value) (w : World) (b : Nat) (u : HdV) (fr : Nat × Nat) (v : Value) (hp : tmps[p]? = some (.pointer (some ⟨b, 0, none⟩))) (hq : tmps[q]? = some v) (hrow : w.heap[b]? = some (.cells (hcs u) 69 fr)) :
    (results fn tmps).run Tryz.prog w = .ok (.tuple #[.agg (hcs u), v]) w :=
  results_row_tmp h tmps w b 69 (hcs u) fr _ v hp hq hrow Tryz.underlying69 rfl (hcs_info u)
theorem hd_cells {w : World} {b : Nat} {u : HdV} {t : TypeId} {fr : Nat × Nat} (h : w.heap[b]? = some (.cells (hcs u) t fr)) : w.cell? ⟨b, 0, none⟩ = some (.string (asS u.name)) ∧ w.cell? ⟨b, 1, none⟩ = some (.string (asS u.value)) := ⟨cell_of_row _ _ _ _ _ _ h, cell_of_row _ _ _ _ _ _ h⟩
set_option maxHeartbeats 1000000 in
set_option maxRecDepth 100000 in
theorem copied_any (x y : List UInt8) (hx : x.length ≤ 1000000000) (hy : y.length ≤ 1000000000) (w : World) : Calls Tryz.prog 93 #[.string (asS x), .string (asS y)] w fun e w' => e = .returned (.agg (hcs ⟨x, y⟩)) ∧ Below w.heap.size w w' := by
  have HX := hid (fun W => clone8 (asS x) (by rw [asS_size]; omega) W)
  have HY := hid (fun W => clone8 (asS y) (by rw [asS_size]; omega) W)
  have HH : Hid (hcs ⟨x, y⟩ = #[.string (asS x), .string (asS y)]) := rfl
  generalize asS x = X at HX HH ⊢
  generalize asS y = Y at HY HH ⊢
  clear hx hy
  go_enter Tryz.func93, Tryz.ntmps93
  go_wp2_with fail
  refine (HX.out _).mono ?_
  rintro e W1 ⟨rfl, hb1⟩
  have HR1 := hid ((hb1.block w.heap.size (by simp)).trans (heap_alloc_new w _))
  have HB1 := hid ((alloc_below (Below.refl w.heap.size w) (Nat.le_refl _) _).trans (hb1.mono (alloc_below (Below.refl w.heap.size w) (Nat.le_refl _) _).size))
  have hz1 : w.heap.size + 1 ≤ W1.heap.size := by have := hb1.size; simpa using this
  clear hb1
  go_wp2_with fail
  refine (HY.out _).mono ?_
  rintro e W2 ⟨rfl, hb2⟩
  have HR2 := hid ((hb2.block w.heap.size (by omega)).trans HR1.out)
  have HB2 := hid (HB1.out.trans (hb2.mono (by omega)))
  clear hb2 hz1 HR1 HB1
  go_wp2_with (first
    | (refine store_hd rfl _ _ rfl w.heap.size ⟨x, y⟩ rfl (by rw [HH.out]; rfl) _ HR2.out rfl ?_)
    | fail)
  intro W3 ho3 hr3
  have HO3 := hid ho3
  have HR3 := hid hr3
  clear ho3 hr3
  go_wp2_with fail
  exact bodyPost_ret (ret_hd (p := 4) Tryz.results93 _ _ w.heap.size ⟨x, y⟩ (0, 0) rfl HR3.out) rfl ⟨rfl, HB2.out.trans (HO3.out.below (Nat.le_refl _))⟩
theorem unended_any (b : List UInt8) (A : Option Addr) (c : Nat) (w : World) : Calls Tryz.prog 68 #[.slice A b.length c] w fun e w' => e = .returned (.int .i64 (if 8192 < b.length then 3 else 10)) ∧ w' = w := by
  generalize b.length = n
  by_cases h : 8192 < n
  · have h1 : (8192 : Int) < (n : Int) := by omega
    rw [if_pos h]
    clear h
    go_enter Tryz.func68, Tryz.ntmps68
    go_wp2_with fail
    go_ret
    exact ⟨rfl, rfl⟩
  · have h1 : ¬ (8192 : Int) < (n : Int) := by omega
    rw [if_neg h]
    clear h
    go_enter Tryz.func68, Tryz.ntmps68
    go_wp2_with fail
    go_ret
    exact ⟨rfl, rfl⟩
end Go.Proofs.YtclonnpglikddaaGreatDoor
