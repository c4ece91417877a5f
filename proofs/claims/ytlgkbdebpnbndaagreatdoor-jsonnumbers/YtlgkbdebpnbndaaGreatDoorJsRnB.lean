
/- A value made anew, those within as they lie. -/
import Derived.Test.YtlgkbdebpnbndaaGreatDoorJsRnM
import Derived.Test.YtlgkbdebpnbndaaGreatDoorJsWt
import Derived.Test.YtlgkbdebpnbndaaGreatDoorTxBase
namespace Go.Proofs.YtlgkbdebpnbndaaGreatDoor
set_option linter.unusedVariables false
set_option linter.unusedSimpArgs false
open Go.RowKit Go.BigFrame

theorem run_nil0 (ty : TypeId) (A : Option Addr) (c : Nat) (w : World) : (Builtin.append_ #[22, 22] ty #[.slice none 0 0, .slice A 0 c]).run Tryz.prog w = .ok (.slice none 0 0) w := by
  obtain ⟨i0, z, hi, hz0, hz1, hz2, hzc⟩ := vjK.info
  cases A <;> simp [Builtin.append_, run_underlying vjK.sl, sizeOf, typeInfo, hi, Builtin.firstCells, Builtin.lenOf, loadCells, loadCellsFrom]
/-- The cells of a row of values, as they lie. -/
theorem kids_src {P : Nat → Prop} {w : World} {d : Nat} {A : Option Addr} {l : List (VJ d)} (h : VsAt P d w A l) (h0 : 0 < l.length) (c : Nat) : ∃ css : List (Array Value), css.length = l.length ∧ (∀ x ∈ css, x.size = 5) ∧ (∀ j, j < l.length → VAt P d w (css.getD j #[]) (l.getD j (zeroJ d))) ∧ Src Tryz.prog 5 22 (.slice A l.length c) l.length (vjvs css) w := by
  obtain ⟨q, o, rfl, hp, hq, hc⟩ := h h0
  obtain ⟨css, hl, hcs⟩ := choose_at (#[] : Array Value) l.length (fun j x => ∃ a b c e f, x = #[a, b, c, e, f] ∧ w.cell? ⟨q, o + j * 5, none⟩ = some a ∧ w.cell? ⟨q, o + j * 5 + 1, none⟩ = some b ∧ w.cell? ⟨q, o + j * 5 + 2, none⟩ = some c ∧ w.cell? ⟨q, o + j * 5 + 3, none⟩ = some e ∧ w.cell? ⟨q, o + j * 5 + 4, none⟩ = some f ∧ VAt P d w x (l.getD j (zeroJ d))) (fun j hj => by
    obtain ⟨a, b, c, e, f, k1, k2, k3, k4, k5, k6⟩ := hc j hj
    exact ⟨#[a, b, c, e, f], a, b, c, e, f, rfl, k1, k2, k3, k4, k5, k6⟩)
  have hz : ∀ x ∈ css, x.size = 5 := fun x hx => by
    obtain ⟨i, hi, rfl⟩ := mem_getD #[] hx
    obtain ⟨a, b, c, e, f, he, _⟩ := hcs i (by omega)
    rw [he]
    rfl
  have hnl := vjvs_len css hz
  refine ⟨css, hl, hz, fun j hj => ?_, ?_⟩
  · obtain ⟨_, _, _, _, _, _, _, _, _, _, _, hn⟩ := hcs j hj
    exact hn
  · refine Src.ofSlice w vjK.sl ⟨q, o, none⟩ l.length c (vjvs css) (by rw [hnl, hl]) (fun i u hu => ?_) (fun u hu => ?_)
    · have hi : i < css.length * 5 := by
        rw [← hnl]
        rcases Nat.lt_or_ge i (vjvs css).length with h | h
        · exact h
        · rw [List.getElem?_eq_none h] at hu; cases hu
      have hj : i / 5 < css.length := by omega
      have hat := vjvs_at css (i / 5) (i % 5) hz hj (by omega)
      rw [show i / 5 * 5 + i % 5 = i from by omega, hu] at hat
      obtain ⟨a, b, c, e, f, he, k1, k2, k3, k4, k5, _⟩ := hcs (i / 5) (by omega)
      rw [he] at hat
      rw [Addr.add_mid]
      have h4 : i % 5 = 0 ∨ i % 5 = 1 ∨ i % 5 = 2 ∨ i % 5 = 3 ∨ i % 5 = 4 := by omega
      rcases h4 with h4 | h4 | h4 | h4 | h4 <;> rw [h4] at hat <;> have hu2 := Option.some.inj hat <;> subst hu2
      · rw [show o + i = o + i / 5 * 5 from by omega]; exact k1
      · rw [show o + i = o + i / 5 * 5 + 1 from by omega]; exact k2
      · rw [show o + i = o + i / 5 * 5 + 2 from by omega]; exact k3
      · rw [show o + i = o + i / 5 * 5 + 3 from by omega]; exact k4
      · rw [show o + i = o + i / 5 * 5 + 4 from by omega]; exact k5
    · obtain ⟨x, hx, hux⟩ := List.mem_flatMap.1 hu
      obtain ⟨i, hi, rfl⟩ := mem_getD #[] hx
      obtain ⟨_, _, _, _, _, he, _, _, _, _, _, hn⟩ := hcs i (by omega)
      exact vj_one hn u hux
/-- append(nil, a row of values). -/
theorem step_nilN {ops : Array Oper} {o : Oper} {a : Act} {w : World} {K : Act → World → Prop} {Q : Exit → Act → World → Prop} {E : Prop} (hgd : o.guard = none) (s x : Operand)
    (ho : o.op = .call { callee := .builtin .append, args := #[s, x], argTypes := #[22, 22] })
    (xv : Value) (n : Nat) (ys : List Value) (hs : a.eval s = .slice none 0 0) (hx : a.eval x = xv)
    (hA : Src Tryz.prog 5 22 xv n ys w) (h0 : 0 < n) (hn : n ≤ 1000000) (b : Nat) (hb : b ≤ w.heap.size)
    (h : ∀ cap w', OwnK w' 5 25 b w.heap.size n cap ys → Below w.heap.size w w' → K (a.put o.dst (.slice (some ⟨w.heap.size, 0, none⟩) n cap)) w') :
    if Region.wanted o (yielded ops a.tmps) = true then Oper.wp Tryz.prog o a w K Q else E := by
  have hw : Region.wanted o (yielded ops a.tmps) = true := by simp [Region.wanted, hgd]
  rw [if_pos hw]
  obtain ⟨cap, w', hr, h2, h3⟩ := run_nilK vjK (b := b) o.type xv hA h0 (by omega) hb
  unfold Oper.wp
  simp [execOp, ho, resolve, invoke, builtin, hs, hx, hr, Result.andThen]
  exact h cap w' h2 h3
theorem step_nil0 {ops : Array Oper} {o : Oper} {a : Act} {w : World} {K : Act → World → Prop} {Q : Exit → Act → World → Prop} {E : Prop} (hgd : o.guard = none) (s x : Operand)
    (ho : o.op = .call { callee := .builtin .append, args := #[s, x], argTypes := #[22, 22] })
    (A : Option Addr) (c : Nat) (hs : a.eval s = .slice none 0 0) (hx : a.eval x = .slice A 0 c)
    (h : K (a.put o.dst (.slice none 0 0)) w) :
    if Region.wanted o (yielded ops a.tmps) = true then Oper.wp Tryz.prog o a w K Q else E := by
  have hw : Region.wanted o (yielded ops a.tmps) = true := by simp [Region.wanted, hgd]
  rw [if_pos hw]
  unfold Oper.wp
  simp [execOp, ho, resolve, invoke, builtin, hs, hx, run_nil0, Result.andThen]
  exact h
theorem step_kids {ops : Array Oper} {o : Oper} {a : Act} {w : World} {K : Act → World → Prop} {Q : Exit → Act → World → Prop} {E : Prop} (hgd : o.guard = none) (s x : Operand)
    (ho : o.op = .call { callee := .builtin .append, args := #[s, x], argTypes := #[22, 22] })
    (n0 d : Nat) (A : Option Addr) (c : Nat) (l : List (VJ d)) (n : Nat) (hl : l.length = n) (hs : a.eval s = .slice none 0 0) (hx : a.eval x = .slice A n c)
    (hk : VsAt (fun q => q < n0) d w A l) (h0 : 0 < n) (hn : n ≤ 1000000) (hb : n0 ≤ w.heap.size) (w0 : World) (hw0 : Below w0.heap.size w0 w)
    (h : ∀ cap g w', w0.heap.size ≤ g → RowO n0 w' d g cap l → Below w0.heap.size w0 w' → K (a.put o.dst (.slice (some ⟨g, 0, none⟩) n cap)) w') :
    if Region.wanted o (yielded ops a.tmps) = true then Oper.wp Tryz.prog o a w K Q else E := by
  subst hl
  obtain ⟨css, q1, q2, q3, q4⟩ := kids_src hk h0 c
  refine step_nilN hgd s x ho _ l.length (vjvs css) hs hx q4 h0 hn n0 hb fun cap w' j1 j2 => ?_
  exact h cap _ w' hw0.size ⟨css, q1, j1, q2, fun j hj => (q3 j hj).frame j2.size fun q hq hl => ⟨j2.block q hl, hq⟩⟩ (hw0.trans (j2.mono hw0.size))
theorem RowO.below {n0 d g cap : Nat} {w W : World} {l : List (VJ d)} (h : RowO n0 w d g cap l) (hb : Below w.heap.size w W) : RowO n0 W d g cap l := h.keep hb.size (hb.block g h.lt.1) (fun q _ hl => hb.block q hl)
theorem five_one (A B C D E : Value) (h1 : A.oneCell' = true) (h2 : B.oneCell' = true) (h3 : C.oneCell' = true) (h4 : D.oneCell' = true) (h5 : E.oneCell' = true) : (#[A, B, C, D, E] : Array Value).all (·.oneCell') = true := by
  refine all_oneCell_toArray (cs := [A, B, C, D, E]) fun v hv => ?_
  simp only [List.mem_cons, List.not_mem_nil, or_false] at hv
  rcases hv with rfl | rfl | rfl | rfl | rfl
  · exact h1
  · exact h2
  · exact h3
  · exact h4
  · exact h5
theorem loadV_eq (x : Value) : Instr.loadAt 25 x = loadI 25 x := rfl
theorem storeV_eq (x v : Value) : Instr.storeAt 25 x v = storeI 25 x v := rfl
theorem storeV_row {w : World} {g : Nat} {cs : Array Value} (A B C D E : Value) (h1 : A.oneCell' = true) (h2 : B.oneCell' = true) (h3 : C.oneCell' = true) (h4 : D.oneCell' = true) (h5 : E.oneCell' = true) (hrow : w.heap[g]? = some (.cells cs 25 (0, 0))) (hz : cs.size = 5) : (storeI 25 (.pointer (some ⟨g, 0, none⟩)) (.agg #[A, B, C, D, E])).run Tryz.prog w = .ok () (putM w g #[A, B, C, D, E]) :=
  run_storeAt_mid w g 0 25 #[A, B, C, D, E] (there_row hrow 0 5 (by rw [hz]; exact Nat.le_refl _)) infoVj (five_one A B C D E h1 h2 h3 h4 h5)
theorem loadV_run {w : World} {g : Nat} {cs : Array Value} {fr : Nat × Nat} (hg : w.heap[g]? = some (.cells cs 25 fr)) (hz : cs.size = 5) : (loadI 25 (.pointer (some ⟨g, 0, none⟩))).run Tryz.prog w = .ok (.agg cs) w := by
  have := load_v5 hg hz
  unfold loadI
  simp only [Instr.loadAt, Instr.sureAddr, Sem.run_bind, Sem.run_pure, Result.andThen_ok, this]
theorem loadV_mid {w : World} {q o : Nat} {a b c e f : Value} (h1 : w.cell? ⟨q, o, none⟩ = some a) (h2 : w.cell? ⟨q, o + 1, none⟩ = some b) (h3 : w.cell? ⟨q, o + 2, none⟩ = some c) (h4 : w.cell? ⟨q, o + 3, none⟩ = some e) (h5 : w.cell? ⟨q, o + 4, none⟩ = some f) : (loadI 25 (.pointer (some ⟨q, o, none⟩))).run Tryz.prog w = .ok (.agg #[a, b, c, e, f]) w :=
  run_loadAt_mid w q o 25 [a, b, c, e, f] _ (fun j v hv => by
    match j, hv with
    | 0, hv => simp at hv; subst hv; exact h1
    | 1, hv => simp at hv; subst hv; exact h2
    | 2, hv => simp at hv; subst hv; exact h3
    | 3, hv => simp at hv; subst hv; exact h4
    | 4, hv => simp at hv; subst hv; exact h5
    | n + 5, hv => simp at hv) Tryz.underlying25 rfl infoVj
/-- What lies below, where only a block of one's own has grown. -/
theorem grown_cut {B : Nat} {b : Option Nat} {w W : World} (h : w.grownBy W b) (hB : B ≤ w.heap.size) (hb : ∀ q, b = some q → B ≤ q) : Below B w W := ⟨h.os, h.tape, h.output, h.size, fun k hk => h.block k (by omega) (fun e => by have := hb k e.symm; omega)⟩
theorem OwnNm.below {b : Nat} {w W : World} {v : Value} {l : List (List UInt8)} (h : OwnNm (fun q => b ≤ q) w v l) (hb : Below w.heap.size w W) : OwnNm (fun q => b ≤ q) W v l := h.frame fun q _ hq hl => ⟨hb.block q hl, hq⟩
theorem OwnNm.base {b b' : Nat} {w : World} {v : Value} {l : List (List UInt8)} (h : OwnNm (fun q => b ≤ q) w v l) (hb : b' ≤ b) : OwnNm (fun q => b' ≤ q) w v l := h.frame fun q _ hq hl => ⟨rfl, by omega⟩
theorem OwnNm.only {b g : Nat} {w W : World} {v : Value} {l : List (List UInt8)} (h : OwnNm (fun q => b ≤ q) w v l) (ho : Only g w W) (hg : g < b) : OwnNm (fun q => b ≤ q) W v l := h.frame fun q _ hq hl => ⟨ho.block q (by omega), hq⟩
end Go.Proofs.YtlgkbdebpnbndaaGreatDoor
