
/- The reference's reader: an attribute. -/
import Derived.Test.YthjibliaofmlhaaGreatDoorXmRReader
import Derived.Test.YthjibliaofmlhaaGreatDoorXmReader
namespace Go.Proofs.YthjibliaofmlhaaGreatDoor
set_option linter.unusedVariables false
set_option linter.unusedSimpArgs false
open Go.RowKit Go.BigFrame

/-! A header's two cells, loaded and stored whole in a region whose order is drawn. -/
theorem infoHd : (Tryz.prog.info? 59).map (·.size) = some 2 := by kernel_rfl
theorem loadH_eq (x : Value) : Instr.loadAt 59 x = loadI 59 x := rfl
theorem storeH_eq (x v : Value) : Instr.storeAt 59 x v = storeI 59 x v := rfl
theorem loadH_run {w : World} {g : Nat} {cs : Array Value} {fr : Nat × Nat} (hg : w.heap[g]? = some (.cells cs 59 fr)) (hz : cs.size = 2) : (loadI 59 (.pointer (some ⟨g, 0, none⟩))).run Tryz.prog w = .ok (.agg cs) w := by
  have := run_loadVar_row w g 59 59 cs fr _ hg Tryz.underlying59 rfl (by rw [hz]; exact infoHd)
  unfold loadI
  simp only [Instr.loadAt, Instr.sureAddr, Sem.run_bind, Sem.run_pure, Result.andThen_ok, this]
theorem storeH_row {w : World} {g : Nat} {cs : Array Value} (u : HdV) (cs2 : Array Value) (h2 : hcs u = cs2) (hrow : w.heap[g]? = some (.cells cs 59 (0, 0))) (hz : cs.size = 2) : (storeI 59 (.pointer (some ⟨g, 0, none⟩)) (.agg cs2)).run Tryz.prog w = .ok () (putM w g cs2) := by
  subst h2
  exact run_storeAt_mid w g 0 59 (hcs u) (there_row hrow 0 2 (by rw [hz]; exact Nat.le_refl _)) (by rw [infoHd]; rfl) (hcs_one u)
theorem step_storeH {ops : Array Oper} {o : Oper} {a : Act} {w : World} {K : Act → World → Prop} {Q : Exit → Act → World → Prop} {E : Prop} (hgd : o.guard = none) (x y : Operand) (ho : o.op = .store 59 x y)
    (g : Nat) (u : HdV) (cs cs2 : Array Value) (h2 : hcs u = cs2) (hx : a.eval x = .pointer (some ⟨g, 0, none⟩)) (hy : a.eval y = .agg cs2) (hrow : w.heap[g]? = some (.cells cs 59 (0, 0))) (hz : cs.size = 2)
    (h : ∀ W, Only g w W → W.heap[g]? = some (.cells cs2 59 (0, 0)) → K (a.put o.dst undef) W) :
    if Region.wanted o (yielded ops a.tmps) = true then Oper.wp Tryz.prog o a w K Q else E := by
  have hw : Region.wanted o (yielded ops a.tmps) = true := by simp [Region.wanted, hgd]
  rw [if_pos hw]
  have hst : (Instr.storeAt 59 (.pointer (some ⟨g, 0, none⟩)) (.agg cs2)).run Tryz.prog w = .ok () (putM w g cs2) := storeH_row u cs2 h2 hrow hz
  unfold Oper.wp
  have hrun : (execOp a.eval o).run Tryz.prog w = .ok .skip (putM w g cs2) := by
    simp only [execOp, ho, hx, hy, Sem.run_bind, hst, Result.andThen_ok, Sem.run_pure]
  rw [hrun]
  exact h _ (putM_only w g cs2) (putM_row hrow (by rw [← h2, hcs_size, hz]))
/-! What an attribute is, place by place. -/
theorem va_none_at {s : List UInt8} {q1 q2 : Nat} (h2 : q1 + ((s.drop q1).takeWhile whX).length = q2) (h : preX [61] (s.drop q2) = false) : vaX (s.drop q1) = none := by
  apply va_none
  rw [dw_at, h2]
  exact h
theorem drop_pre {s : List UInt8} {c : UInt8} {q : Nat} (h : preX [c] (s.drop q) = true) : s.drop q = c :: s.drop (q + 1) := by
  obtain ⟨r, hr⟩ := pre_one h
  have := congrArg (List.drop 1) hr
  rw [List.drop_drop] at this
  rw [hr, this]
  rfl
theorem va_eq_at {s : List UInt8} {q1 q2 q4 : Nat} (h2 : q1 + ((s.drop q1).takeWhile whX).length = q2) (h : preX [61] (s.drop q2) = true) (h4 : q2 + 1 + ((s.drop (q2 + 1)).takeWhile whX).length = q4) : vaX (s.drop q1) = (match s.drop q4 with
    | q :: r2 => if q = 34 ∨ q = 39 then (match untX [q] r2 with
      | none => none
      | some p => if p.1.contains 60 then none else (valX p.1).map fun v => (v, p.2)) else none
    | [] => none) := by
  have := va_eq (l := s.drop q1) (r := s.drop (q2 + 1)) (by rw [dw_at, h2]; exact drop_pre h)
  rw [this, dw_at, h4]
  all_goals rfl
theorem va_quote {s : List UInt8} {q1 q2 q4 : Nat} (h2 : q1 + ((s.drop q1).takeWhile whX).length = q2) (h : preX [61] (s.drop q2) = true) (h4 : q2 + 1 + ((s.drop (q2 + 1)).takeWhile whX).length = q4) (c : UInt8) (hc : c = 34 ∨ c = 39) (hq : preX [c] (s.drop q4) = true) :
    vaX (s.drop q1) = (match untX [c] (s.drop (q4 + 1)) with
      | none => none
      | some p => if p.1.contains 60 then none else (valX p.1).map fun v => (v, p.2)) := by
  rw [va_eq_at h2 h h4, drop_pre hq]
  simp only
  rw [if_pos hc]
theorem va_noquote {s : List UInt8} {q1 q2 q4 : Nat} (h2 : q1 + ((s.drop q1).takeWhile whX).length = q2) (h : preX [61] (s.drop q2) = true) (h4 : q2 + 1 + ((s.drop (q2 + 1)).takeWhile whX).length = q4) (h34 : preX [34] (s.drop q4) = false) (h39 : preX [39] (s.drop q4) = false) : vaX (s.drop q1) = none := by
  rw [va_eq_at h2 h h4]
  cases hd : s.drop q4 with
  | nil => rfl
  | cons q r2 =>
    simp only
    rw [if_neg]
    rintro (rfl | rfl)
    · exact not_pre h34 _ hd
    · exact not_pre h39 _ hd
/-- What is told of an attribute. -/
def ArPost (V : Except Nat (HdV × List UInt8 × Nat)) (s : List UInt8) (R : Nat) (w : World) (x : Ending) (w' : World) : Prop := w.grownBy w' (some R) ∧
  ((∃ a q m2, V = .ok (a, s.drop q, m2) ∧ q ≤ s.length ∧ x = .returned (.tuple #[.agg (hcs a), .bool true]) ∧ Rr w' R s q m2 0) ∨
   (∃ (er : Nat) (a : HdV) (q m2 : Nat), V = .error er ∧ (er = 3 ∨ er = 5) ∧ x = .returned (.tuple #[.agg (hcs a), .bool false]) ∧ Rr w' R s q m2 er))
/-- How things stand while an attribute is read. -/
structure AtS (R g4 g6 : Nat) (w : World) (u : HdV) (s : List UInt8) (q m e : Nat) (X : World) : Prop where
  rr : Rr X R s q m e
  to : w.grownBy X (some R)
  r4 : X.heap[g4]? = some (.cells #[.string ⟨#[]⟩, .string ⟨#[]⟩] 59 (0, 0))
  r6 : X.heap[g6]? = some (.cells (hcs u) 59 (0, 0))
  n4 : R ≠ g4
  n6 : R ≠ g6
  n46 : g4 ≠ g6
  b4 : w.heap.size ≤ g4
  b6 : w.heap.size ≤ g6
theorem AtS.call {R g4 g6 : Nat} {w : World} {u : HdV} {s : List UInt8} {q m e q' m' e' : Nat} {X Y : World} (h : AtS R g4 g6 w u s q m e X) (hg : X.grownBy Y (some R)) (hr : Rr Y R s q' m' e') : AtS R g4 g6 w u s q' m' e' Y :=
  ⟨hr, h.to.trans hg, to_row hg h.r4 (Ne.symm h.n4), to_row hg h.r6 (Ne.symm h.n6), h.n4, h.n6, h.n46, h.b4, h.b6⟩
theorem AtS.below {R g4 g6 : Nat} {w : World} {u : HdV} {s : List UInt8} {q m e : Nat} {X Y : World} (h : AtS R g4 g6 w u s q m e X) (hb : Below X.heap.size X Y) : AtS R g4 g6 w u s q m e Y := h.call (to_below hb) (h.rr.below hb)
theorem AtS.put6 {R g4 g6 : Nat} {w : World} {u u' : HdV} {s : List UInt8} {q m e : Nat} {X Y : World} (h : AtS R g4 g6 w u s q m e X) (ho : Only g6 X Y) (hr : Y.heap[g6]? = some (.cells (hcs u') 59 (0, 0))) : AtS R g4 g6 w u' s q m e Y :=
  ⟨(ho.block R h.n6).trans h.rr, grown_own h.to (to_only ho) (fun q hq => by injection hq with hq; have := h.b6; omega), (ho.block g4 h.n46).trans h.r4, hr, h.n4, h.n6, h.n46, h.b4, h.b6⟩
theorem AtS.ld {R g4 g6 : Nat} {w : World} {u : HdV} {s : List UInt8} {q m e : Nat} {X : World} (h : AtS R g4 g6 w u s q m e X) : (loadI 59 (.pointer (some ⟨g6, 0, none⟩))).run Tryz.prog X = .ok (.agg (hcs u)) X := loadH_run h.r6 rfl
theorem AtS.st {R g4 g6 : Nat} {w : World} {u : HdV} {s : List UInt8} {q m e : Nat} {X : World} (h : AtS R g4 g6 w u s q m e X) : (storeI 59 (.pointer (some ⟨g4, 0, none⟩)) (.agg (hcs u))).run Tryz.prog X = .ok () (putM X g4 (hcs u)) := storeH_row u _ rfl h.r4 rfl
theorem AtS.out {R g4 g6 : Nat} {w : World} {u : HdV} {s : List UInt8} {q m e : Nat} {X : World} (h : AtS R g4 g6 w u s q m e X) : w.grownBy (putM X g4 (hcs u)) (some R) ∧ Rr (putM X g4 (hcs u)) R s q m e ∧ (putM X g4 (hcs u)).heap[g4]? = some (.cells (hcs u) 59 (0, 0)) := by
  have ho := putM_only X g4 (hcs u)
  exact ⟨grown_own h.to (to_only ho) (fun q hq => by injection hq with hq; have := h.b4; omega), (ho.block R h.n4).trans h.rr, putM_row h.r4 (by rw [hcs_size]; rfl)⟩
/-- Is a name among the first k headers? -/
def freeH (al : List HdV) (nm : List UInt8) : Nat → Bool
  | 0 => true
  | k + 1 => freeH al nm k && decide ((al.getD k zeroH).name ≠ nm)
theorem free_no {al : List HdV} {nm : List UInt8} : ∀ k, k ≤ al.length → freeH al nm k = !((al.take k).map (·.name)).contains nm
  | 0, _ => by simp [freeH]
  | k + 1, h => by
    rw [freeH, free_no k (by omega), take_hd al k (by omega)]
    simp only [List.map_append, List.map_cons, List.map_nil]
    generalize (al.getD k zeroH).name = y
    generalize (al.take k).map (·.name) = L
    by_cases he : y = nm
    · subst he
      simp
    · have he' : ¬ nm = y := fun e => he e.symm
      simp [he, he']
theorem free_all (al : List HdV) (nm : List UInt8) : freeH al nm al.length = !(al.map (·.name)).contains nm := by rw [free_no _ (Nat.le_refl _), List.take_length]
end Go.Proofs.YthjibliaofmlhaaGreatDoor
