
/- The reference's reader. -/
import Derived.Test.YthjibliaofmlhaaGreatDoorXmMem
import Derived.Test.YthjibliaofmlhaaGreatDoorXmBook
import Derived.Test.YthjibliaofmlhaaGreatDoorEnNum
import Derived.Test.YthjibliaofmlhaaGreatDoorTxCheck
import Derived.Test.YthjibliaofmlhaaGreatDoorEnSigns
import Derived.BigQuiet
import Derived.Lib.QuietBelow
import Derived.Test.YthjibliaofmlhaaGreatDoorXmReader
import Derived.Test.YthjibliaofmlhaaGreatDoorXmStep
namespace Go.Proofs.YthjibliaofmlhaaGreatDoor
set_option linter.unusedVariables false
set_option linter.unusedSimpArgs false
open Go.RowKit Go.BigFrame

/-- The reference's reader: the file, where one is, how many nodes there were, and what was wrong. -/
def Rr (w : World) (R : Nat) (s : List UInt8) (p m e : Nat) : Prop := w.heap[R]? = some (.cells #[.string (asS s), .int .i64 p, .int .i64 m, .int .i64 e] 67 (0, 0))
theorem Rr.cells {w : World} {R : Nat} {s : List UInt8} {p m e : Nat} (h : Rr w R s p m e) : w.cell? ⟨R, 0, none⟩ = some (.string (asS s)) ∧ w.cell? ⟨R, 1, none⟩ = some (.int .i64 p) ∧ w.cell? ⟨R, 2, none⟩ = some (.int .i64 m) ∧ w.cell? ⟨R, 3, none⟩ = some (.int .i64 e) := ⟨cell_of_row _ _ _ _ _ _ h, cell_of_row _ _ _ _ _ _ h, cell_of_row _ _ _ _ _ _ h, cell_of_row _ _ _ _ _ _ h⟩
theorem Rr.below {w w' : World} {R : Nat} {s : List UInt8} {p m e : Nat} (h : Rr w R s p m e) (hb : Below w.heap.size w w') : Rr w' R s p m e := row_keep hb h
theorem Rr.lt {w : World} {R : Nat} {s : List UInt8} {p m e : Nat} (h : Rr w R s p m e) : R < w.heap.size := (Array.getElem?_eq_some_iff.1 h).1
end Go.Proofs.YthjibliaofmlhaaGreatDoor
namespace Go.Proofs.YthjibliaofmlhaaGreatDoor
set_option linter.unusedVariables false
set_option linter.unusedSimpArgs false
open Go.RowKit Go.BigFrame

end Go.Proofs.YthjibliaofmlhaaGreatDoor
namespace Go.Proofs.YthjibliaofmlhaaGreatDoor
set_option linter.unusedVariables false
set_option linter.unusedSimpArgs false
open Go.RowKit Go.BigFrame

end Go.Proofs.YthjibliaofmlhaaGreatDoor
namespace Go.Proofs.YthjibliaofmlhaaGreatDoor
set_option linter.unusedVariables false
set_option linter.unusedSimpArgs false
open Go.RowKit Go.BigFrame

end Go.Proofs.YthjibliaofmlhaaGreatDoor
namespace Go.Proofs.YthjibliaofmlhaaGreatDoor
set_option linter.unusedVariables false
set_option linter.unusedSimpArgs false
open Go.RowKit Go.BigFrame

end Go.Proofs.YthjibliaofmlhaaGreatDoor
namespace Go.Proofs.YthjibliaofmlhaaGreatDoor
set_option linter.unusedVariables false
set_option linter.unusedSimpArgs false
open Go.RowKit Go.BigFrame

theorem Rr.e {w : World} {R : Nat} {s : List UInt8} {p m e : Nat} (h : Rr w R s p m e) : w.cell? ⟨R, 3, none⟩ = some (.int .i64 e) := h.cells.2.2.2
end Go.Proofs.YthjibliaofmlhaaGreatDoor
namespace Go.Proofs.YthjibliaofmlhaaGreatDoor
set_option linter.unusedVariables false
set_option linter.unusedSimpArgs false
open Go.RowKit Go.BigFrame

theorem step_call1 {ops : Array Oper} {o : Oper} {a : Act} {w : World} {K : Act → World → Prop} {Q : Exit → Act → World → Prop} {E : Prop} (hgd : o.guard = none) (f : FuncId) (x : Operand) (ts : Array TypeId)
    (ho : o.op = .call { callee := .value (.func f), args := #[x], argTypes := ts }) (eg : ∀ args w, (callFunc f args).run Tryz.prog w = .ok (.enter f args) w) (xv : Value) (hx : a.eval x = xv)
    {R : Value → World → Prop} (hc : Calls Tryz.prog f #[xv] w fun e w' => ∃ v, e = .returned v ∧ R v w') (h : ∀ v w', R v w' → K (a.put o.dst v) w') :
    if Region.wanted o (yielded ops a.tmps) = true then Oper.wp Tryz.prog o a w K Q else E :=
  step_call hgd f #[x] ts ho eg #[xv] (by simp [hx]) hc h
end Go.Proofs.YthjibliaofmlhaaGreatDoor
namespace Go.Proofs.YthjibliaofmlhaaGreatDoor
set_option linter.unusedVariables false
set_option linter.unusedSimpArgs false
open Go.RowKit Go.BigFrame

theorem set_mid4 (A rest : List Value) (a b c e v : Value) : (A ++ [a, b, c, e] ++ rest).set (A.length + 2) v = A ++ [a, b, v, e] ++ rest := by
  rw [List.append_assoc, List.append_assoc, List.set_append_right _ _ (by omega), show A.length + 2 - A.length = 2 from by omega]
  rfl
theorem leaf_parts (d : Nat) (l : Lab) : lab d (leaf d l) = l ∧ kidsT d (leaf d l) = [] := by cases d <;> exact ⟨rfl, rfl⟩
theorem OwnN.last {P : Nat → Prop} {w : World} {d : Nat} {v : Value} {ks : List (Tr d)} {x : List UInt8} (h : OwnN P w d v (ks ++ [leaf d ([], [], x)])) :
    ∃ g cap cs, v = .slice (some ⟨g, 0, none⟩) (ks.length + 1) cap ∧ w.heap[g]? = some (.cells cs 25 (0, 0)) ∧ P g ∧ ks.length * 4 + 2 < cs.size ∧
      w.cell? ⟨g, ks.length * 4, none⟩ = some (.string (asS [])) ∧ w.cell? ⟨g, ks.length * 4 + 2, none⟩ = some (.string (asS x)) ∧
      ∀ W y, Only g w W → W.heap[g]? = some (.cells (cs.setIfInBounds (ks.length * 4 + 2) (.string (asS y))) 25 (0, 0)) → OwnN P W d v (ks ++ [leaf d ([], [], y)]) := by
  rcases h with ⟨_, h⟩ | ⟨g, cap, css, rfl, h2, h3, h4, h5, h6⟩
  · simp at h
  · have hl : (ks ++ [leaf d ([], [], x)]).length = ks.length + 1 := by simp
    rw [hl] at h3 h4 h6 ⊢
    obtain ⟨css0, c, rfl⟩ : ∃ css0 c, css = css0 ++ [c] := by
      have hne : css ≠ [] := fun e => by rw [e] at h3; simp at h3
      exact ⟨css.dropLast, css.getLast hne, (List.dropLast_concat_getLast hne).symm⟩
    have hl0 : css0.length = ks.length := by simp at h3; exact h3
    have hn := h6 ks.length (by omega)
    have e1 : (css0 ++ [c]).getD ks.length #[] = c := by rw [List.getD_eq_getElem?_getD, ← hl0]; simp
    have e2 : (ks ++ [leaf d ([], [], x)]).getD ks.length (zeroT d) = leaf d ([], [], x) := by rw [List.getD_eq_getElem?_getD]; simp
    rw [e1, e2] at hn
    obtain ⟨aA, ac, kA, kc, hc, hh, _, _⟩ := hn.parts
    rw [(leaf_parts d _).1] at hc hh
    rw [(leaf_parts d _).2] at hc
    have hv0 := ndvs_len css0 (fun q hq => h5 q (List.mem_append_left _ hq))
    rw [hl0] at hv0
    have hx : ndvs (css0 ++ [c]) = ndvs css0 ++ [.string (asS []), .slice aA 0 ac, .string (asS x), .slice kA 0 kc] := by
      rw [hc]; simp [ndvs, ndcs]
    obtain ⟨rest, r1, r2, r3⟩ := h4.row
    rw [hx] at r1
    refine ⟨g, cap, _, rfl, r1, h2, ?_, ?_, ?_, ?_⟩
    · simp; omega
    · exact h4.at _ _ (by rw [hx, List.getElem?_append_right (by omega), hv0]; simp)
    · exact h4.at _ _ (by rw [hx, List.getElem?_append_right (by omega), hv0, show ks.length * 4 + 2 - ks.length * 4 = 2 from by omega]; rfl)
    · intro W y ho hr
      have hrow : W.heap[g]? = some (.cells (ndvs (css0 ++ [ndcs ([], [], y) aA ac kA 0 kc]) ++ rest).toArray 25 (0, 0)) := by
        rw [hr]
        congr 2
        rw [List.setIfInBounds_toArray, ← hv0, set_mid4]
        simp [ndvs, ndcs]
      have hoth : ∀ q, q ≠ g → W.heap[q]? = w.heap[q]? := fun q hq => ho.block q hq
      have hsz : w.heap.size ≤ W.heap.size := Nat.le_of_eq ho.size.symm
      have hl2 : (ks ++ [leaf d ([], [], y)]).length = ks.length + 1 := by simp
      refine .inr ⟨g, cap, css0 ++ [ndcs ([], [], y) aA ac kA 0 kc], by rw [hl2], h2, by rw [hl2]; simp [hl0], ?_, ?_, ?_⟩
      · rw [hl2]
        refine ⟨h4.ge, ?_, rest, hrow, r2, r3⟩
        have := ndvs_len (css0 ++ [ndcs ([], [], y) aA ac kA 0 kc]) (fun q hq => by
          rcases List.mem_append.1 hq with h | h
          · exact h5 q (List.mem_append_left _ h)
          · rw [List.mem_singleton] at h; rw [h]; rfl)
        rw [this]
        simp [hl0]
      · intro q hq
        rcases List.mem_append.1 hq with h | h
        · exact h5 q (List.mem_append_left _ h)
        · rw [List.mem_singleton] at h; rw [h]; rfl
      · intro j hj
        rw [hl2] at hj
        by_cases hjk : j < ks.length
        · have := h6 j (by omega)
          have f1 : (css0 ++ [c]).getD j #[] = css0.getD j #[] := by rw [List.getD_eq_getElem?_getD, List.getD_eq_getElem?_getD, List.getElem?_append_left (by omega)]
          have f2 : (css0 ++ [ndcs ([], [], y) aA ac kA 0 kc]).getD j #[] = css0.getD j #[] := by rw [List.getD_eq_getElem?_getD, List.getD_eq_getElem?_getD, List.getElem?_append_left (by omega)]
          have f3 : (ks ++ [leaf d ([], [], x)]).getD j (zeroT d) = ks.getD j (zeroT d) := by rw [List.getD_eq_getElem?_getD, List.getD_eq_getElem?_getD, List.getElem?_append_left (by omega)]
          have f4 : (ks ++ [leaf d ([], [], y)]).getD j (zeroT d) = ks.getD j (zeroT d) := by rw [List.getD_eq_getElem?_getD, List.getD_eq_getElem?_getD, List.getElem?_append_left (by omega)]
          rw [f1, f3] at this
          rw [f2, f4]
          exact this.frame hsz fun q hq hl => ⟨hoth q hq.2, hq⟩
        · obtain rfl : j = ks.length := by omega
          have f2 : (css0 ++ [ndcs ([], [], y) aA ac kA 0 kc]).getD ks.length #[] = ndcs ([], [], y) aA ac kA 0 kc := by rw [List.getD_eq_getElem?_getD, ← hl0]; simp
          have f4 : (ks ++ [leaf d ([], [], y)]).getD ks.length (zeroT d) = leaf d ([], [], y) := by rw [List.getD_eq_getElem?_getD]; simp
          rw [f2, f4]
          exact NdAt.mk0 (hh.frame hsz fun q hq hl => ⟨hoth q hq.2, hq⟩)
end Go.Proofs.YthjibliaofmlhaaGreatDoor
