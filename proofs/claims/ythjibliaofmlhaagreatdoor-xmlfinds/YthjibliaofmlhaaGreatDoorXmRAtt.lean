
/- The reference's reader: an attribute. -/
import Derived.Test.YthjibliaofmlhaaGreatDoorXmRReader
import Derived.Test.YthjibliaofmlhaaGreatDoorXmReader
namespace Go.Proofs.YthjibliaofmlhaaGreatDoor
set_option linter.unusedVariables false
set_option linter.unusedSimpArgs false
open Go.RowKit Go.BigFrame

/-! A header's two cells, loaded and stored whole in a region whose order is drawn. -/
theorem infoHd : (Tryz.prog.info? 59).map (·.size) = some 2 := by kernel_rfl
theorem storeH_row {w : World} {g : Nat} {cs : Array Value} (u : HdV) (cs2 : Array Value) (h2 : hcs u = cs2) (hrow : w.heap[g]? = some (.cells cs 59 (0, 0))) (hz : cs.size = 2) : (storeI 59 (.pointer (some ⟨g, 0, none⟩)) (.agg cs2)).run Tryz.prog w = .ok () (putM w g cs2) := by
  subst h2
  exact run_storeAt_mid w g 0 59 (hcs u) (there_row hrow 0 2 (by rw [hz]; exact Nat.le_refl _)) (by rw [infoHd]; rfl) (hcs_one u)
/-! What an attribute is, place by place. -/
/-- How things stand while an attribute is read. -/
structure AtS (R g4 g6 : Nat) (w : World) (u : HdV) (s : List UInt8) (q m e : Nat) (X : World) : Prop where
  rr : Rr X R s q m e
  to : w.grownBy X (some R)
  r4 : X.heap[g4]? = some (.cells #[.string ⟨#[]⟩, .string ⟨#[]⟩] 59 (0, 0))
  r6 : X.heap[g6]? = some (.cells (hcs u) 59 (0, 0))
  n4 : R ≠ g4
  n6 : R ≠ g6
  n46 : g4 ≠ g6
  b4 : w.heap.size ≤ g4
  b6 : w.heap.size ≤ g6
theorem AtS.call {R g4 g6 : Nat} {w : World} {u : HdV} {s : List UInt8} {q m e q' m' e' : Nat} {X Y : World} (h : AtS R g4 g6 w u s q m e X) (hg : X.grownBy Y (some R)) (hr : Rr Y R s q' m' e') : AtS R g4 g6 w u s q' m' e' Y :=
  ⟨hr, h.to.trans hg, to_row hg h.r4 (Ne.symm h.n4), to_row hg h.r6 (Ne.symm h.n6), h.n4, h.n6, h.n46, h.b4, h.b6⟩
theorem AtS.below {R g4 g6 : Nat} {w : World} {u : HdV} {s : List UInt8} {q m e : Nat} {X Y : World} (h : AtS R g4 g6 w u s q m e X) (hb : Below X.heap.size X Y) : AtS R g4 g6 w u s q m e Y := h.call (to_below hb) (h.rr.below hb)
theorem AtS.put6 {R g4 g6 : Nat} {w : World} {u u' : HdV} {s : List UInt8} {q m e : Nat} {X Y : World} (h : AtS R g4 g6 w u s q m e X) (ho : Only g6 X Y) (hr : Y.heap[g6]? = some (.cells (hcs u') 59 (0, 0))) : AtS R g4 g6 w u' s q m e Y :=
  ⟨(ho.block R h.n6).trans h.rr, grown_own h.to (to_only ho) (fun q hq => by injection hq with hq; have := h.b6; omega), (ho.block g4 h.n46).trans h.r4, hr, h.n4, h.n6, h.n46, h.b4, h.b6⟩
theorem AtS.st {R g4 g6 : Nat} {w : World} {u : HdV} {s : List UInt8} {q m e : Nat} {X : World} (h : AtS R g4 g6 w u s q m e X) : (storeI 59 (.pointer (some ⟨g4, 0, none⟩)) (.agg (hcs u))).run Tryz.prog X = .ok () (putM X g4 (hcs u)) := storeH_row u _ rfl h.r4 rfl
theorem AtS.out {R g4 g6 : Nat} {w : World} {u : HdV} {s : List UInt8} {q m e : Nat} {X : World} (h : AtS R g4 g6 w u s q m e X) : w.grownBy (putM X g4 (hcs u)) (some R) ∧ Rr (putM X g4 (hcs u)) R s q m e ∧ (putM X g4 (hcs u)).heap[g4]? = some (.cells (hcs u) 59 (0, 0)) := by
  have ho := putM_only X g4 (hcs u)
  exact ⟨grown_own h.to (to_only ho) (fun q hq => by injection hq with hq; have := h.b4; omega), (ho.block R h.n4).trans h.rr, putM_row h.r4 (by rw [hcs_size]; rfl)⟩
end Go.Proofs.YthjibliaofmlhaaGreatDoor
