
/- How deep a node is, how many nodes there are, all its texts: what the reference's Deep, Many and Text do. -/
import Derived.Test.YthjibliaofmlhaaGreatDoorXmMem
import Derived.Test.YthjibliaofmlhaaGreatDoorXmInner
import Derived.Test.YthjibliaofmlhaaGreatDoorXmBook
namespace Go.Proofs.YthjibliaofmlhaaGreatDoor
set_option linter.unusedVariables false
set_option linter.unusedSimpArgs false
open Go.RowKit Go.BigFrame
attribute [local go_sem ↓] loadN_eq

theorem take_getD {α : Type} (l : List α) (z : α) (k : Nat) (h : k < l.length) : l.take (k + 1) = l.take k ++ [l.getD k z] := by
  rw [List.take_succ_eq_append_getElem h, List.getD_eq_getElem?_getD, List.getElem?_eq_getElem h]; rfl
theorem text_eq : ∀ (d : Nat) (t : Tr d), textT d t = if (nmT d t).isEmpty then txT d t else (kidsT d t).flatMap (textT (d - 1))
  | 0, t => rfl
  | _ + 1, t => rfl
theorem getD_mem9 {α : Type} {l : List α} {z : α} {j : Nat} (h : j < l.length) : l.getD j z ∈ l := by
  rw [List.getD_eq_getElem?_getD, List.getElem?_eq_getElem h]
  exact List.getElem_mem h
end Go.Proofs.YthjibliaofmlhaaGreatDoor
