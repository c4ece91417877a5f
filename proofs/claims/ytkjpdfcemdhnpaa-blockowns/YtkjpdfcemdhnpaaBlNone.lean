
/- Nobody's file: what each function answers. -/
import Derived.Test.YtkjpdfcemdhnpaaBlAwk2
namespace Go.Proofs.Ytkjpdfcemdhnpaa
set_option linter.unusedVariables false
set_option linter.unusedSimpArgs false
open Go.RowKit Go.BigFrame

theorem sync_no (v : Value) (w : World) (h : NoP v w) : Calls Try.prog 21 #[v] w fun x w' => x = .returned (.tuple #[]) ∧ Below w.heap.size w w' := by
  have HG := hid (given_no v w h)
  clear h
  go_enter Try.func21, Try.ntmps21
  go_wp2_with fail
  refine HG.out.mono ?_
  rintro e W ⟨rfl, hb⟩
  have HB := hid hb
  clear hb
  go_wp2_with fail
  exact ⟨(by first | rfl | simp), _, results_none rfl _ _ _, rfl, HB.out⟩
theorem crash_no (v : Value) (K T : Int) (w : World) (h : NoP v w) : Calls Try.prog 18 #[v, .int .i64 K, .int .i64 T] w fun x w' => x = .returned (.tuple #[]) ∧ Below w.heap.size w w' := by
  have HG := hid (given_no v w h)
  clear h
  go_enter Try.func18, Try.ntmps18
  go_wp2_with fail
  refine HG.out.mono ?_
  rintro e W ⟨rfl, hb⟩
  have HB := hid hb
  clear hb
  go_wp2_with fail
  exact ⟨(by first | rfl | simp), _, results_none rfl _ _ _, rfl, HB.out⟩
theorem fuse_no (v : Value) (K T : Int) (w : World) (h : NoP v w) : Calls Try.prog 19 #[v, .int .i64 K, .int .i64 T] w fun x w' => x = .returned (.tuple #[]) ∧ Below w.heap.size w w' := by
  have HG := hid (given_no v w h)
  clear h
  go_enter Try.func19, Try.ntmps19
  go_wp2_with fail
  refine HG.out.mono ?_
  rintro e W ⟨rfl, hb⟩
  have HB := hid hb
  clear hb
  go_wp2_with fail
  exact ⟨(by first | rfl | simp), _, results_none rfl _ _ _, rfl, HB.out⟩
theorem read_no (v : Value) (i : Int) (w : World) (h : NoP v w) : Calls Try.prog 13 #[v, .int .i64 i] w fun x w' => x = .returned (.tuple #[.slice none 0 0, .int .i64 4]) ∧ Below w.heap.size w w' := by
  have HG := hid (has_no v i w h)
  clear h
  go_enter Try.func13, Try.ntmps13
  go_wp2_with fail
  refine HG.out.mono ?_
  rintro e W ⟨rfl, hb⟩
  have HB := hid hb
  clear hb
  go_wp2_with fail
  go_ret2
  exact ⟨rfl, HB.out⟩
theorem write_no (v : Value) (i : Int) (b : Value) (w : World) (h : NoP v w) : Calls Try.prog 22 #[v, .int .i64 i, b] w fun x w' => x = .returned (.int .i64 4) ∧ Below w.heap.size w w' := by
  have HG := hid (has_no v i w h)
  clear h
  go_enter Try.func22, Try.ntmps22
  go_wp2_with fail
  refine HG.out.mono ?_
  rintro e W ⟨rfl, hb⟩
  have HB := hid hb
  clear hb
  go_wp2_with fail
  go_ret
  exact ⟨rfl, HB.out⟩
theorem dump_no (v : Value) (w : World) (h : NoP v w) : Calls Try.prog 15 #[v] w fun x w' => x = .returned (.slice none 0 0) ∧ Below w.heap.size w w' := by
  have HG := hid (given_no v w h)
  clear h
  go_enter Try.func15, Try.ntmps15
  go_wp2_with fail
  refine HG.out.mono ?_
  rintro e W ⟨rfl, hb⟩
  have HB := hid hb
  clear hb
  go_wp2_with fail
  go_ret
  exact ⟨rfl, HB.out⟩
theorem NoP.below {v : Value} {w W : World} (h : NoP v w) (hb : Below w.heap.size w W) : NoP v W := by
  rcases h with h | ⟨F, h1, h2⟩
  · exact .inl h
  · exact .inr ⟨F, h1, keep_cell hb h2⟩
theorem step_gG {ops : Array Oper} {o : Oper} {a : Act} {w : World} {K : Act → World → Prop} {Q : Exit → Act → World → Prop} {E : Prop} (hw : Region.wanted o (yielded ops a.tmps) = true) (f : FuncId) (xs : Array Operand) (ts : Array TypeId)
    (ho : o.op = .call { callee := .value (.func f), args := xs, argTypes := ts }) (eg : ∀ args w, (callFunc f args).run Try.prog w = .ok (.enter f args) w) (vals : Array Value) (hv : xs.map a.eval = vals)
    {R : Value → World → Prop} (hc : Calls Try.prog f vals w fun e w' => ∃ v, e = .returned v ∧ R v w') (h : ∀ v w', R v w' → K (a.put o.dst v) w') :
    if Region.wanted o (yielded ops a.tmps) = true then Oper.wp Try.prog o a w K Q else E := by
  rw [if_pos hw]
  unfold Oper.wp
  have hrun : (execOp a.eval o).run Try.prog w = .ok (.enter f vals) w := by
    simp [execOp, ho, resolve, invoke, hv, eg, Result.andThen, go_sem, Deferred.ofValue]
  rw [hrun, Oper.upon_enter]
  refine hc.mono fun e w'' hh => ?_
  obtain ⟨v, rfl, hr⟩ := hh
  exact h v w'' hr
theorem step_gG1 {ops : Array Oper} {o : Oper} {a : Act} {w : World} {K : Act → World → Prop} {Q : Exit → Act → World → Prop} {E : Prop} (hw : Region.wanted o (yielded ops a.tmps) = true) (f : FuncId) (x : Operand) (ts : Array TypeId)
    (ho : o.op = .call { callee := .value (.func f), args := #[x], argTypes := ts }) (eg : ∀ args w, (callFunc f args).run Try.prog w = .ok (.enter f args) w) (xv : Value) (hx : a.eval x = xv)
    {R : Value → World → Prop} (hc : Calls Try.prog f #[xv] w fun e w' => ∃ v, e = .returned v ∧ R v w') (h : ∀ v w', R v w' → K (a.put o.dst v) w') :
    if Region.wanted o (yielded ops a.tmps) = true then Oper.wp Try.prog o a w K Q else E :=
  step_gG hw f #[x] ts ho eg #[xv] (by simp [hx]) hc h
theorem step_gG3 {ops : Array Oper} {o : Oper} {a : Act} {w : World} {K : Act → World → Prop} {Q : Exit → Act → World → Prop} {E : Prop} (hw : Region.wanted o (yielded ops a.tmps) = true) (f : FuncId) (x y z : Operand) (ts : Array TypeId)
    (ho : o.op = .call { callee := .value (.func f), args := #[x, y, z], argTypes := ts }) (eg : ∀ args w, (callFunc f args).run Try.prog w = .ok (.enter f args) w) (xv yv zv : Value) (hx : a.eval x = xv) (hy : a.eval y = yv) (hz : a.eval z = zv)
    {R : Value → World → Prop} (hc : Calls Try.prog f #[xv, yv, zv] w fun e w' => ∃ v, e = .returned v ∧ R v w') (h : ∀ v w', R v w' → K (a.put o.dst v) w') :
    if Region.wanted o (yielded ops a.tmps) = true then Oper.wp Try.prog o a w K Q else E :=
  step_gG hw f #[x, y, z] ts ho eg #[xv, yv, zv] (by simp [hx, hy, hz]) hc h
end Go.Proofs.Ytkjpdfcemdhnpaa
