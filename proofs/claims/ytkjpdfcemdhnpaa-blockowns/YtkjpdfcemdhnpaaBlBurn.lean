
/- burn: a fuse that waits is brought nearer to its end; at its end the power goes. -/
import Derived.Test.YtkjpdfcemdhnpaaBlThr
namespace Go.Proofs.Ytkjpdfcemdhnpaa
set_option linter.unusedVariables false
set_option linter.unusedSimpArgs false
open Go.RowKit Go.BigFrame

theorem step_gives {ops : Array Oper} {o : Oper} {a : Act} {w : World} {K : Act → World → Prop} {Q : Exit → Act → World → Prop} {E : Prop} (hgd : o.guard = none) (f : FuncId) (xs : Array Operand) (ts : Array TypeId)
    (ho : o.op = .call { callee := .value (.func f), args := xs, argTypes := ts }) (eg : ∀ args w, (callFunc f args).run Try.prog w = .ok (.enter f args) w) (vals : Array Value) (hv : xs.map a.eval = vals)
    {R : Value → World → Prop} (hc : Calls Try.prog f vals w fun e w' => ∃ v, e = .returned v ∧ R v w') (h : ∀ v w', R v w' → K (a.put o.dst v) w') :
    if Region.wanted o (yielded ops a.tmps) = true then Oper.wp Try.prog o a w K Q else E := by
  have hw : Region.wanted o (yielded ops a.tmps) = true := by simp [Region.wanted, hgd]
  rw [if_pos hw]
  unfold Oper.wp
  have hrun : (execOp a.eval o).run Try.prog w = .ok (.enter f vals) w := by
    simp [execOp, ho, resolve, invoke, hv, eg, Result.andThen, go_sem, Deferred.ofValue]
  rw [hrun, Oper.upon_enter]
  refine hc.mono fun e w'' hh => ?_
  obtain ⟨v, rfl, hr⟩ := hh
  exact h v w'' hr
theorem step_giv2 {ops : Array Oper} {o : Oper} {a : Act} {w : World} {K : Act → World → Prop} {Q : Exit → Act → World → Prop} {E : Prop} (hgd : o.guard = none) (f : FuncId) (x y : Operand) (ts : Array TypeId)
    (ho : o.op = .call { callee := .value (.func f), args := #[x, y], argTypes := ts }) (eg : ∀ args w, (callFunc f args).run Try.prog w = .ok (.enter f args) w) (xv yv : Value) (hx : a.eval x = xv) (hy : a.eval y = yv)
    {R : Value → World → Prop} (hc : Calls Try.prog f #[xv, yv] w fun e w' => ∃ v, e = .returned v ∧ R v w') (h : ∀ v w', R v w' → K (a.put o.dst v) w') :
    if Region.wanted o (yielded ops a.tmps) = true then Oper.wp Try.prog o a w K Q else E :=
  step_gives hgd f #[x, y] ts ho eg #[xv, yv] (by simp [hx, hy]) hc h
theorem step_giv3 {ops : Array Oper} {o : Oper} {a : Act} {w : World} {K : Act → World → Prop} {Q : Exit → Act → World → Prop} {E : Prop} (hgd : o.guard = none) (f : FuncId) (x y z : Operand) (ts : Array TypeId)
    (ho : o.op = .call { callee := .value (.func f), args := #[x, y, z], argTypes := ts }) (eg : ∀ args w, (callFunc f args).run Try.prog w = .ok (.enter f args) w) (xv yv zv : Value) (hx : a.eval x = xv) (hy : a.eval y = yv) (hz : a.eval z = zv)
    {R : Value → World → Prop} (hc : Calls Try.prog f #[xv, yv, zv] w fun e w' => ∃ v, e = .returned v ∧ R v w') (h : ∀ v w', R v w' → K (a.put o.dst v) w') :
    if Region.wanted o (yielded ops a.tmps) = true then Oper.wp Try.prog o a w K Q else E :=
  step_gives hgd f #[x, y, z] ts ho eg #[xv, yv, zv] (by simp [hx, hy, hz]) hc h
/-- A file whose blocks are what lasts and the writes behind it. -/
def Fil (F N L n : Nat) (wv : Value) (S : Bool) (k t : Int) (O : Bool) (B : List UInt8) (W : List WrB) (w : World) : Prop := FileP F N L n wv S k t O (foldB B W) B W w
theorem Fil.below {F N L n : Nat} {wv : Value} {S : Bool} {k t : Int} {O : Bool} {B : List UInt8} {W : List WrB} {w w' : World} (h : Fil F N L n wv S k t O B W w) (hb : Below w.heap.size w w') : Fil F N L n wv S k t O B W w' := FileP.below h hb
theorem FileP.setF {F N L n : Nat} {wv : Value} {S S' : Bool} {k t k' t' : Int} {O O' : Bool} {now last : List UInt8} {W : List WrB} {w w' : World} (h : FileP F N L n wv S k t O now last W w) (ho : Only F w w') (hr : w'.heap[F]? = some (.cells (fcs F N L n wv S' k' t' O') 61 (0, 0))) : FileP F N L n wv S' k' t' O' now last W w' :=
  ⟨hr, (ho.block N (fun e => h.d1 e.symm)).trans h.nw, (ho.block L (fun e => h.d2 e.symm)).trans h.ls, h.ws.frame fun q _ hp hq => ⟨ho.block q hp.1, hp⟩, h.d1, h.d2, h.d3, h.zn, h.zl, h.n1, h.n2, h.ok⟩
theorem info4b : (Try.prog.info? 4).map (·.size) = some 1 := by kernel_rfl
theorem size59 : (Try.prog.info? 59).map (·.size) = some 3 := by kernel_rfl
def fuse0 : Array Value := #[.bool false, .int .i64 0, .int .i64 0]
theorem built_f : Try.prog.built 59 [] = some fuse0 := by kernel_rfl
theorem buildF_eq (ps : Array (Nat × Value)) : Instr.build 59 ps = buildI 59 ps := rfl
/-- Three cells of a file are stored at once: the fuse. -/
theorem store_fuse {ops : Array Oper} {rest : List Oper} {op : Oper} {a : Act} {w : World} {Q : Exit → Act → World → Prop} (hgd : op.guard = none) (x y : Operand) (ho : op.op = .store 59 x y)
    (F N L n : Nat) (wv : Value) (S S' : Bool) (k t k' t' : Int) (O : Bool) (hx : a.eval x = .pointer (some ⟨F, 4, none⟩)) (hy : a.eval y = .agg #[.bool S', .int .i64 k', .int .i64 t'])
    (hrow : w.heap[F]? = some (.cells (fcs F N L n wv S k t O) 61 (0, 0)))
    (h : ∀ W, Only F w W → W.heap[F]? = some (.cells (fcs F N L n wv S' k' t' O) 61 (0, 0)) → wpList Try.prog ops Q rest (a.put op.dst undef) W) : wpList Try.prog ops Q (op :: rest) a w := by
  have hth := there_row hrow 4 3 (by simp [fcs])
  refine wpList_store_mid hgd 59 x y ho F 4 #[.bool S', .int .i64 k', .int .i64 t'] hx hy hth size59 (all_oneCell_toArray (cs := [.bool S', .int .i64 k', .int .i64 t']) fun v hv => by simp only [List.mem_cons, List.not_mem_nil, or_false] at hv; rcases hv with rfl | rfl | rfl <;> rfl) ?_
  refine h _ (only_setCells F _ 4 w) ?_
  rw [setCells_heap F 61 _ 4 w _ hrow]
  rfl
/-- What burning does to a file. -/
def BurnS (S : Bool) (k t : Int) (O : Bool) (B : List UInt8) (W : List WrB) (S' : Bool) (k' t' : Int) (O' : Bool) (B' : List UInt8) (W' : List WrB) : Prop :=
  (S = false ∧ S' = S ∧ k' = k ∧ t' = t ∧ O' = O ∧ B' = B ∧ W' = W) ∨ (S = true ∧ 0 < k ∧ S' = true ∧ k' = k - 1 ∧ t' = t ∧ O' = O ∧ B' = B ∧ W' = W) ∨ (S = true ∧ k ≤ 0 ∧ S' = false ∧ k' = 0 ∧ t' = 0 ∧ O' = true ∧ B' = foldB B (thrB W (W.length - 1) t) ∧ W' = [])
/-- What burn does. -/
def BurnP (F N L n : Nat) (wv : Value) (S : Bool) (k t : Int) (O : Bool) (B : List UInt8) (W : List WrB) (w w' : World) : Prop := ∃ wv' S' k' t' O' B' W', Fil F N L n wv' S' k' t' O' B' W' w' ∧ BurnS S k t O B W S' k' t' O' B' W' ∧ Kept F N L wv w w' ∧ (wv' = wv ∨ wv' = .slice none 0 0)
/-- settle with what comes through a crash, of the file's own writes. -/
theorem settle_thr (F N L n : Nat) (wv : Value) (S : Bool) (k t : Int) (O : Bool) (B : List UInt8) (W : List WrB) (w : World) (h : Fil F N L n wv S k t O B W w) (hW : W.length ≤ 1000) (K : Nat) (tt : Int) (A : Option Addr) (c : Nat) (hA : WsAt (fun q => q ≠ F ∧ q ≠ N ∧ q ≠ L) w A (thrT (full W) K tt)) :
    Calls Try.prog 30 #[.pointer (some ⟨F, 0, none⟩), .slice A (thrT (full W) K tt).length c] w fun x w' => x = .returned (.tuple #[]) ∧ Fil F N L n (.slice none 0 0) S k t O (foldB B (thrB W K tt)) [] w' ∧ Kept F N L wv w w' := by
  have hok := h.ok
  obtain ⟨e1, e2, e3, e4⟩ := thrT_ok (k := K) (t := tt) hok
  refine (settle_any F N L n wv S k t O (foldB B W) B W w h A c _ hA e2 e3 (by omega) hW).mono fun x w' hh => ?_
  obtain ⟨h1, h2, h3⟩ := hh
  rw [e1] at h2
  have hr := settle_now h.zl hok.ok (thrB_ok hok.ok K tt) (fun q hq => by
    obtain ⟨p, h1, h2, _⟩ := thrB_mem hq
    exact ⟨p, h1, h2⟩)
  rw [hr] at h2
  exact ⟨h1, h2, h3⟩
attribute [local go_sem ↓] buildF_eq
set_option maxHeartbeats 8000000 in
set_option maxRecDepth 100000 in
theorem burn_any (F N L n : Nat) (wv : Value) (S : Bool) (k t : Int) (O : Bool) (B : List UInt8) (W : List WrB) (w : World) (h : Fil F N L n wv S k t O B W w) (hW : W.length ≤ 1000) (hkb : k ≤ 9223372036854775807) :
    Calls Try.prog 32 #[.pointer (some ⟨F, 0, none⟩)] w fun x w' => x = .returned (.tuple #[]) ∧ BurnP F N L n wv S k t O B W w w' := by
  have HF := hid h
  have hcells := h.cells
  cases S with
  | false =>
    obtain ⟨_, _, _, _, c4, _, _, _⟩ := hcells
    clear h
    go_enter Try.func32, Try.ntmps32
    go_wp2_with fail
    exact ⟨(by first | rfl | simp), _, results_none rfl _ _ _, rfl, wv, false, k, t, O, B, W, HF.out, .inl ⟨rfl, rfl, rfl, rfl, rfl, rfl, rfl⟩, Kept.refl _ _ _ _ _, .inl rfl⟩
  | true =>
    obtain ⟨_, _, _, c3, c4, c5, c6, _⟩ := hcells
    by_cases hk : 0 < k
    · have HRF := hid h.f
      have hw : wrap64 (k - 1) = k - 1 := by unfold wrap64; omega
      clear h
      go_enter Try.func32, Try.ntmps32
      go_wp2_with (first
        | (refine store_part rfl 3 _ _ rfl F 5 (.int .i64 (k - 1)) _ (fcs F N L n wv true k t O) (fcs F N L n wv true (k - 1) t O) rfl rfl info3b (by simp [fcs]) rfl rfl HRF.out rfl ?_; intro W1 ho hr; have HO := hid ho; have HR := hid hr; clear ho hr)
        | fail)
      exact ⟨(by first | rfl | simp), _, results_none rfl _ _ _, rfl, wv, true, k - 1, t, O, B, W, HF.out.setF HO.out HR.out, .inr (.inl ⟨rfl, hk, rfl, rfl, rfl, rfl, rfl, rfl⟩), Kept.only HO.out (.inl rfl), .inl rfl⟩
    · have HTH := hid (through_any (fun q => q ≠ F ∧ q ≠ N ∧ q ≠ L) wv (full W) ((W.length : Int) - 1) t w.drew (FileP.below h (show Below w.heap.size w w.drew from (Below.refl _ _).drew)).ws (by rw [full_len]; exact hW))
      have HEt := hid (enters_of Try.func31 (by kernel_rfl) rfl)
      have HEs := hid (enters_of Try.func30 (by kernel_rfl) rfl)
      obtain ⟨A2, c2, hv, -, -, -⟩ := h.ws.shape
      rw [full_len] at hv
      have HV := hid hv
      have d3 : w.drew.cell? ⟨F, 3, none⟩ = some (.slice A2 W.length c2) := by rw [← hv]; exact c3
      have d6 : w.drew.cell? ⟨F, 6, none⟩ = some (.int .i64 t) := c6
      have hlt := h.lt
      have hw1 : wrap64 ((W.length : Int) - 1) = (W.length : Int) - 1 := by unfold wrap64; omega
      have hw2 : IntKind.i64.wrap ((W.length : Int) - 1) = (W.length : Int) - 1 := by rw [IntKind.wrap_i64]; omega
      have hbf : ∀ W, (buildI 59 #[]).run Try.prog W = .ok (.agg fuse0) W := fun W => run_build W 59 _ _ built_f
      have HTH2 : Hid (Calls Try.prog 31 #[.slice A2 W.length c2, .int .i64 ((W.length : Int) - 1), .int .i64 t] w.drew fun x w' => ∃ v, x = .returned v ∧ ∃ A c, v = .slice A (thrT (full W) (W.length - 1) t).length c ∧ WsAt (fun q => q ≠ F ∧ q ≠ N ∧ q ≠ L) w' A (thrT (full W) (W.length - 1) t) ∧ Below w.heap.size w w') := by
        have := HTH.out
        rw [hv, show ((W.length : Int) - 1).toNat = W.length - 1 from by omega] at this
        refine this.mono fun x w' hh => ?_
        obtain ⟨⟨A, c, h1, h2⟩, hb⟩ := hh
        exact ⟨_, h1, A, c, rfl, h2.frame (Nat.le_refl _) (fun q hq _ => ⟨rfl, by
          rcases hq with hq | hq
          · exact hq.1
          · have : w.drew.heap.size = w.heap.size := rfl
            omega⟩), ((Below.refl w.heap.size w).drew).trans hb⟩
      clear h hv c3 c6 HTH
      go_enter Try.func32, Try.ntmps32
      go_wp2_with fail
      go_region_law ((first
        | (refine step_giv3 (by rfl) 31 _ _ _ _ (by rfl) HEt.out (.slice A2 W.length c2) (.int .i64 ((W.length : Int) - 1)) (.int .i64 t) (by rfl) (by rfl) (by rfl) HTH2.out ?_; intro v1 w1 ha; obtain ⟨A, c, rfl, hws, hb⟩ := ha; have HB1 := hid hb; have HS1 : Hid (Calls Try.prog 30 #[.pointer (some ⟨F, 0, none⟩), .slice A (thrT (full W) (W.length - 1) t).length c] w1 fun x w' => ∃ v, x = .returned v ∧ (Fil F N L n (.slice none 0 0) true k t O (foldB B (thrB W (W.length - 1) t)) [] w' ∧ Kept F N L wv w1 w')) := (settle_thr F N L n wv true k t O B W w1 (HF.out.below hb) hW (W.length - 1) t A c hws).mono (fun x w' hh => ⟨_, hh.1, hh.2⟩); clear hws hb)
        | (refine step_giv2 (by rfl) 30 _ _ _ (by rfl) HEs.out (.pointer (some ⟨F, 0, none⟩)) (.slice A (thrT (full W) (W.length - 1) t).length c) (by rfl) (by rfl) HS1.out ?_; intro v2 w2 hb; have HF2 := hid hb.1; have HK2 := hid hb.2; clear hb)
        | fail))
      all_goals
        have HRF := hid HF2.out.f
        clear HS1 HTH2
        go_wp2_with (first
          | (refine store_part rfl 4 _ _ rfl F 7 (.bool true) _ (fcs F N L n (.slice none 0 0) true k t O) (fcs F N L n (.slice none 0 0) true k t true) rfl rfl info4b (by simp [fcs]) rfl rfl HRF.out rfl ?_; intro W3 ho hr; have HO3 := hid ho; have HR3 := hid hr; clear ho hr)
          | (refine store_fuse rfl _ _ rfl F N L n (.slice none 0 0) true false k t 0 0 true rfl rfl HR3.out ?_; intro W4 ho hr; have HO4 := hid ho; have HR4 := hid hr; clear ho hr)
          | fail)
        exact ⟨(by first | rfl | simp), _, results_none rfl _ _ _, rfl, .slice none 0 0, false, 0, 0, true, _, [], (FileP.setF HF2.out HO3.out HR3.out).setF HO4.out HR4.out, .inr (.inr ⟨rfl, by omega, rfl, rfl, rfl, rfl, rfl, rfl⟩), ((Kept.of_below HB1.out).trans (HK2.out.trans ((Kept.only (N := N) (L := L) (wv := .slice none 0 0) HO3.out (.inl rfl)).trans (Kept.only (N := N) (L := L) (wv := .slice none 0 0) HO4.out (.inl rfl)) (fun q e => by cases e)) (fun q e => by cases e)) (fun q e => .inl e)), .inr rfl⟩
end Go.Proofs.Ytkjpdfcemdhnpaa
