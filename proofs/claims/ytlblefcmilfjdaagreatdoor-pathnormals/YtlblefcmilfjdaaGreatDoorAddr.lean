
/- Addresses as values of seventeen cells: their parts, and when two are equal. -/
import Derived.Test.YtlblefcmilfjdaaGreatDoorProg
import Derived.Test.YtlblefcmilfjdaaGreatDoorBase
import Derived.Laws.StructEq
import Derived.Lib.QuietBelow
namespace Go.Proofs.YtlblefcmilfjdaaGreatDoor
open Go.RowKit

/-- The cells of an address. -/
def acs (v : Bool) (B : List UInt8) : Array Value := (Value.bool v :: bvs B).toArray
theorem acs_size (v : Bool) (B : List UInt8) (h : B.length = 16) : (acs v B).size = 17 := by simp [acs, bvs, h]
theorem acs_info (v : Bool) (B : List UInt8) (h : B.length = 16) : (Tryz.prog.info? 93).map (·.size) = some (acs v B).size := by rw [acs_size v B h]; kernel_rfl
theorem acs_one (v : Bool) (B : List UInt8) : (acs v B).all (·.oneCell') = true := by
  have h := bvs_one' B
  simp only [acs, List.all_toArray, List.all_cons, Bool.and_eq_true, List.all_eq_true]
  exact ⟨rfl, h⟩
theorem acs_zero (v : Bool) (B : List UInt8) : (acs v B)[0]? = some (.bool v) := by simp [acs]
theorem acs_at (v : Bool) (B : List UInt8) (j : Nat) (h : j < B.length) : (acs v B)[j + 1]? = some (.int .u8 (B.getD j 0).toNat) := by
  have := bcs_at B j h
  simpa [acs, bcs, bvs] using this
theorem acs_list (v : Bool) (B : List UInt8) : (acs v B).toList = .bool v :: bvs B := rfl
theorem built_zero : Tryz.prog.built 93 [] = some (acs false (zer 16)) := by kernel_rfl
theorem letters (B : List UInt8) (h : B.length = 16) : ∃ b0 b1 b2 b3 b4 b5 b6 b7 b8 b9 b10 b11 b12 b13 b14 b15, B = [b0, b1, b2, b3, b4, b5, b6, b7, b8, b9, b10, b11, b12, b13, b14, b15] := by
  match B, h with
  | [b0, b1, b2, b3, b4, b5, b6, b7, b8, b9, b10, b11, b12, b13, b14, b15], _ => exact ⟨_, _, _, _, _, _, _, _, _, _, _, _, _, _, _, _, rfl⟩
theorem built_arr (a b c d : UInt8) : Tryz.prog.built 91 [(12, .int .u8 a.toNat), (13, .int .u8 b.toNat), (14, .int .u8 c.toNat), (15, .int .u8 d.toNat)] = some (bcs (zer 12 ++ [a, b, c, d])) := by kernel_rfl
theorem built_four (B : List UInt8) (h : B.length = 16) : Tryz.prog.built 93 [(1, .agg (bcs B))] = some (acs false B) := by
  obtain ⟨_, _, _, _, _, _, _, _, _, _, _, _, _, _, _, _, rfl⟩ := letters B h
  kernel_rfl
theorem built_six (B : List UInt8) (h : B.length = 16) : Tryz.prog.built 93 [(0, .bool true), (1, .agg (bcs B))] = some (acs true B) := by
  obtain ⟨_, _, _, _, _, _, _, _, _, _, _, _, _, _, _, _, rfl⟩ := letters B h
  kernel_rfl
theorem built_v6 : Tryz.prog.built 93 [(0, .bool true)] = some (acs true (zer 16)) := by kernel_rfl

theorem eqB (F G : List UInt8) (hF : F.length = 16) (hG : G.length = 16) (d : Nat) (w : World) : (Op.equalIn (d + 1 + 1) 91 (.agg (bcs F)) (.agg (bcs G))).run Tryz.prog w = .ok (decide (F = G)) w := by
  obtain ⟨i, hi, _⟩ := info_parts info5
  rw [run_equalIn_array w (d + 1) _ _ Tryz.underlying91 hi]
  have := items_any d F G w (List.range 16) (fun i hi => by rw [List.mem_range] at hi; omega)
  refine this.trans (congrArg (fun b => Result.ok b w) (decide_eq_decide.2 ?_))
  constructor
  · intro h
    apply List.ext_getElem (by omega)
    intro j h1 h2
    have := h j (List.mem_range.2 (by omega))
    rw [List.getD_eq_getElem?_getD, List.getD_eq_getElem?_getD, List.getElem?_eq_getElem h1, List.getElem?_eq_getElem h2] at this
    simpa using this
  · rintro rfl i _; rfl
theorem part_V6 (v : Bool) (B : List UInt8) (w : World) : (part 4 (acs v B) 0).run Tryz.prog w = .ok (.bool v) w := by simp [part, Tryz.isAgg4, acs_zero]
theorem part_B (v : Bool) (B : List UInt8) (h : B.length = 16) (w : World) : (part 91 (acs v B) 1).run Tryz.prog w = .ok (.agg (bcs B)) w := by
  have e : (acs v B).extract 1 (1 + 16) = bcs B := by
    unfold acs bcs
    rw [List.extract_toArray]
    simp only [bvs]
    exact congrArg List.toArray (List.take_of_length_le (by simp [h]))
  simp [part, Tryz.isAgg91, Tryz.sizeOf91, e]
theorem eqFs (v u : Bool) (B C : List UInt8) (hB : B.length = 16) (hC : C.length = 16) (d : Nat) (f g : Field) (hf : f.name ≠ "_" ∧ f.type = 4 ∧ f.offset = 0) (hg : g.name ≠ "_" ∧ g.type = 91 ∧ g.offset = 1) (w : World) : (Op.eqFields (d + 1 + 1) (acs v B) (acs u C) [f, g]).run Tryz.prog w = .ok (decide (v = u ∧ B = C)) w := by
  have hb := fun w => run_equalIn_bool' (P := Tryz.prog) w (d + 1) 4 v u Tryz.underlying4
  have h1 := part_V6 v B
  have h2 := part_V6 u C
  have h3 := part_B v B hB
  have h4 := part_B u C hC
  have h5 := eqB B C hB hC d
  simp only [Op.eqFields, Sem.run_bind, Sem.run_ite, if_pos hf.1, if_pos hg.1, hf.2.1, hf.2.2, hg.2.1, hg.2.2, h1, h2, h3, h4, h5, hb, Result.andThen_ok, Sem.run_pure]
  by_cases hv : v = u
  · have e1 : (v == u) = true := beq_iff_eq.2 hv
    by_cases hbc : B = C
    · simp only [e1, decide_eq_true hbc, decide_eq_true (show v = u ∧ B = C from ⟨hv, hbc⟩), Bool.not_true, Bool.false_eq_true, if_false]
    · simp only [e1, decide_eq_false hbc, decide_eq_false (show ¬ (v = u ∧ B = C) from fun h => hbc h.2), Bool.not_true, Bool.false_eq_true, if_false, Bool.not_false, if_true]
  · have e1 : (v == u) = false := beq_eq_false_iff_ne.2 hv
    simp only [e1, decide_eq_false (show ¬ (v = u ∧ B = C) from fun h => hv h.1), Bool.not_false, if_true]
theorem eqA' (v u : Bool) (B C : List UInt8) (hB : B.length = 16) (hC : C.length = 16) (d : Nat) (w : World) : (Op.equalIn (d + 1 + 1 + 1) 93 (.agg (acs v B)) (.agg (acs u C))).run Tryz.prog w = .ok (decide (v = u ∧ B = C)) w := by
  obtain ⟨f, g, hf, h1, h2⟩ : ∃ f g : Field, Tryz.prog.fieldsOf 93 = #[f, g] ∧ (f.name ≠ "_" ∧ f.type = 4 ∧ f.offset = 0) ∧ (g.name ≠ "_" ∧ g.type = 91 ∧ g.offset = 1) :=
    ⟨{ name := "V6", type := 4, offset := 0, embedded := false, tag := "", pkgPath := "", byteOffset := 0 }, { name := "B", type := 91, offset := 1, embedded := false, tag := "", pkgPath := "", byteOffset := 1 }, by kernel_rfl, ⟨by decide, rfl, rfl⟩, ⟨by decide, rfl, rfl⟩⟩
  have hs : Tryz.prog.underlying 93 = some (.struct (Tryz.prog.fieldsOf 93)) := by kernel_rfl
  rw [run_equalIn_struct w (d + 1 + 1) 93 _ _ hs (by kernel_rfl), hf]
  exact eqFs v u B C hB hC d f g h1 h2 w
theorem eqA (v u : Bool) (B C : List UInt8) (hB : B.length = 16) (hC : C.length = 16) (w : World) : (Op.equalIn 10000 93 (.agg (acs v B)) (.agg (acs u C))).run Tryz.prog w = .ok (decide (v = u ∧ B = C)) w := by
  rw [show (10000 : Nat) = 9997 + 1 + 1 + 1 from rfl]
  exact eqA' v u B C hB hC 9997 w

/-- An address goes into a block of its own kind: the world behind it is a letter. -/
theorem store_addr {ops : Array Oper} {rest : List Oper} {op : Oper} {a : Act} {w : World} {Q : Exit → Act → World → Prop} (hgd : op.guard = none) (x y : Operand) (ho : op.op = .store 93 x y)
    (b : Nat) (v : Bool) (B : List UInt8) (hB : B.length = 16) (hx : a.eval x = .pointer (some ⟨b, 0, none⟩)) (hy : a.eval y = .agg (acs v B))
    (cs : Array Value) (hrow : w.heap[b]? = some (.cells cs 93 (0, 0))) (hcs : cs.size = 17)
    (h : ∀ W, Only b w W → W.heap[b]? = some (.cells (acs v B) 93 (0, 0)) → wpList Tryz.prog ops Q rest (a.put op.dst undef) W) : wpList Tryz.prog ops Q (op :: rest) a w :=
  wpList_store_abs hgd 93 x y ho b 0 (acs v B) hx hy 93 cs hrow (by rw [acs_size v B hB, hcs]; exact Nat.le_refl _) (acs_info v B hB) (acs_one v B)
    (fun W h1 h2 => h W h1 (by rw [h2, over_whole cs (acs v B) (by rw [acs_size v B hB, hcs])]))
theorem load_addr {ops : Array Oper} {rest : List Oper} {op : Oper} {a : Act} {w : World} {Q : Exit → Act → World → Prop} (hgd : op.guard = none) (x : Operand) (ho : op.op = .load 93 x)
    (b : Nat) (v : Bool) (B : List UInt8) (hB : B.length = 16) (hx : a.eval x = .pointer (some ⟨b, 0, none⟩)) (fr : Nat × Nat) (hrow : w.heap[b]? = some (.cells (acs v B) 93 fr))
    (h : wpList Tryz.prog ops Q rest (a.put op.dst (.agg (acs v B))) w) : wpList Tryz.prog ops Q (op :: rest) a w :=
  wpList_load_row hgd 93 x ho b hx 93 (acs v B) fr _ hrow Tryz.underlying93 rfl (acs_info v B hB) h
theorem ret_addr {fn : Func} {p : Tmp} (h : fn.results = #[.cell p 93]) (tmps : Array Value) (w : World) (b : Nat) (v : Bool) (B : List UInt8) (hB : B.length = 16) (fr : Nat × Nat) (hp : tmps.getD p undef = .pointer (some ⟨b, 0, none⟩)) (hrow : w.heap[b]? = some (.cells (acs v B) 93 fr)) :
    (results fn tmps).run Tryz.prog w = .ok (.agg (acs v B)) w :=
  results_cell_row h tmps w b 93 (acs v B) fr _ hp hrow Tryz.underlying93 rfl (acs_info v B hB)
theorem ret_addr2 {fn : Func} {p q : Tmp} (h : fn.results = #[.cell p 93, .tmp q]) (tmps : Array Value) (w : World) (b : Nat) (v : Bool) (B : List UInt8) (hB : B.length = 16) (fr : Nat × Nat) (u : Value) (hp : tmps[p]? = some (.pointer (some ⟨b, 0, none⟩))) (hq : tmps[q]? = some u) (hrow : w.heap[b]? = some (.cells (acs v B) 93 fr)) :
    (results fn tmps).run Tryz.prog w = .ok (.tuple #[.agg (acs v B), u]) w :=
  results_row_tmp h tmps w b 93 (acs v B) fr _ u hp hq hrow Tryz.underlying93 rfl (acs_info v B hB)

theorem acs_toList (v : Bool) (B : List UInt8) : (acs v B).toList.toArray = acs v B := Array.toArray_toList
theorem row_range {w : World} {g : Nat} {cs : Array Value} {t : TypeId} {fr : Nat × Nat} (h : w.heap[g]? = some (.cells cs t fr)) : w.rangeAt g 0 cs.toList :=
  range_row (a := []) (b := cs.toList) (c := []) (t := t) (fr := fr) (by simpa using h) 0 rfl
theorem loadA_eq (x : Value) : Instr.loadAt 93 x = loadI 93 x := rfl
theorem loadA_row {w : World} {g : Nat} {v : Bool} {B : List UInt8} {fr : Nat × Nat} (hB : B.length = 16) (h : w.heap[g]? = some (.cells (acs v B) 93 fr)) : (loadI 93 (.pointer (some ⟨g, 0, none⟩))).run Tryz.prog w = .ok (.agg (acs v B)) w :=
  run_loadAt_mid w g 0 93 (acs v B).toList _ (row_range h) Tryz.underlying93 rfl (by rw [acs_info v B hB]; simp)
/-- .. in every world that keeps the block. -/
theorem loadA_re {w : World} {g : Nat} {v : Bool} {B : List UInt8} {fr : Nat × Nat} (hB : B.length = 16) (h : w.heap[g]? = some (.cells (acs v B) 93 fr)) (d : Nat) (os : Array Obj) : (loadI 93 (.pointer (some ⟨g, 0, none⟩))).run Tryz.prog (Sort.grow (redrawn w d) os) = .ok (.agg (acs v B)) (Sort.grow (redrawn w d) os) :=
  loadA_row hB (((below_regrown w d os).block g (Array.getElem?_eq_some_iff.1 h).1).trans h)

/-- A byte goes into a row. -/
theorem run_store_byte (w : World) (b o : Nat) (z : Int) (ht : w.there b o 1) : (storeVar 5 ⟨b, o, none⟩ (.int .u8 z)).run Tryz.prog w = .ok () (w.setCells b o [.int .u8 z]) := by
  have := run_storeCells_cells (P := Tryz.prog) b o [Value.int .u8 z] 0 w (fun j hj => by simpa using (ht j (by simpa using hj)).1) (fun j hj => by simpa using (ht j (by simpa using hj)).2) (fun v hv => by simp at hv; subst hv; rfl)
  obtain ⟨i, hi, _, hs, _⟩ := info_parts info5
  simp only [Nat.add_zero] at this
  simp [storeVar, sizeOf, typeInfo, hi, Value.cells, hs, this]
theorem acs_set (v : Bool) (B : List UInt8) (j : Nat) (x : UInt8) : (acs v B).setIfInBounds (j + 1) (.int .u8 x.toNat) = acs v (B.set j x) := by
  unfold acs bvs
  rw [List.setIfInBounds_toArray, List.set_cons_succ]
  congr 2
  rw [List.map_set]
/-- A byte goes into an address. -/
theorem store_byteA {ops : Array Oper} {rest : List Oper} {op : Oper} {a : Act} {w : World} {Q : Exit → Act → World → Prop} (hgd : op.guard = none) (x y : Operand) (ho : op.op = .store 5 x y)
    (b o j : Nat) (v : Bool) (B : List UInt8) (hj : j < B.length) (y8 : UInt8) (z : Int) (hx : a.eval x = .pointer (some ⟨b, o, none⟩)) (hoj : o = j + 1) (hy : a.eval y = .int .u8 z) (hz : z = (y8.toNat : Int))
    (hrow : w.heap[b]? = some (.cells (acs v B) 93 (0, 0)))
    (h : ∀ W, Only b w W → W.heap[b]? = some (.cells (acs v (B.set j y8)) 93 (0, 0)) → wpList Tryz.prog ops Q rest (a.put op.dst undef) W) : wpList Tryz.prog ops Q (op :: rest) a w :=
  wpList_plain hgd fun _ hK => by
    have hs : (acs v B).size = B.length + 1 := by simp [acs, bvs]
    have ht := there_row hrow o 1 (by rw [hs]; omega)
    unfold Oper.wp execOp
    simp only [ho, hx, hy, Instr.storeAt, Instr.sureAddr, Sem.run_bind, Sem.run_pure, Result.andThen_ok, run_store_byte w b o z ht]
    refine hK _ _ (h _ (only_setCells b _ o w) ?_)
    rw [setCells_heap b 93 _ o w _ hrow]
    simp only [over]
    rw [hz, hoj, acs_set]
end Go.Proofs.YtlblefcmilfjdaaGreatDoor
