
/- Rows of headers: how they lie, how long they are put together; what the reference's Size does. -/
import Derived.Test.YtlgfepaicgnkpaaDoorHdMay
namespace Go.Proofs.YtlgfepaicgnkpaaDoor
set_option linter.unusedVariables false
set_option linter.unusedSimpArgs false
open Go.RowKit Go.BigFrame

/-- The headers l lie behind A. -/
def HdsAt (w : World) (A : Option Addr) (l : List HdV) : Prop :=
  0 < l.length → ∃ q o, A = some ⟨q, o, none⟩ ∧ q < w.heap.size ∧ ∀ j, j < l.length → w.cell? ⟨q, o + j * 2, none⟩ = some (.string (asS (l.getD j zeroH).name)) ∧ w.cell? ⟨q, o + j * 2 + 1, none⟩ = some (.string (asS (l.getD j zeroH).value))
theorem HdsAt.below {w w' : World} {A : Option Addr} {l : List HdV} (h : HdsAt w A l) {B : Nat} (hb : Below B w w') (hB : w.heap.size ≤ B) : HdsAt w' A l := fun h0 => by
  obtain ⟨q, o, h1, h2, h3⟩ := h h0
  exact ⟨q, o, h1, Nat.lt_of_lt_of_le h2 hb.size, fun j hj => ⟨(hb.cell (p := ⟨q, o + j * 2, none⟩) (Nat.lt_of_lt_of_le h2 hB)).trans (h3 j hj).1, (hb.cell (p := ⟨q, o + j * 2 + 1, none⟩) (Nat.lt_of_lt_of_le h2 hB)).trans (h3 j hj).2⟩⟩
def hdl (h : HdV) : Nat := h.name.length + 2 + h.value.length + 2
theorem size_app : ∀ (a b : List HdV), sizeH (a ++ b) + 2 = sizeH a + sizeH b
  | [], b => by simp [sizeH]; omega
  | h :: r, b => by
    have := size_app r b
    simp only [List.cons_append, sizeH]
    omega
theorem size_snoc (a : List HdV) (h : HdV) : sizeH (a ++ [h]) = sizeH a + hdl h := by
  have := size_app a [h]
  simp only [sizeH, hdl] at this ⊢
  omega
theorem take_hd (l : List HdV) (k : Nat) (h : k < l.length) : l.take (k + 1) = l.take k ++ [l.getD k zeroH] := by
  rw [List.take_succ_eq_append_getElem h, List.getD_eq_getElem?_getD, List.getElem?_eq_getElem h]; rfl
theorem size_take (l : List HdV) (k : Nat) (h : k < l.length) : sizeH (l.take (k + 1)) = sizeH (l.take k) + hdl (l.getD k zeroH) := by
  rw [take_hd l k h, size_snoc]
theorem size_part (l : List HdV) (k : Nat) : sizeH (l.take k) ≤ sizeH l := by
  have := size_app (l.take k) (l.drop k)
  rw [List.take_append_drop] at this
  have h2 : 2 ≤ sizeH (l.drop k) := by rw [← print_size]; cases l.drop k <;> simp [printH]; omega
  omega
/-- What is asked of headers that came in: none is too long for the machine. -/
def FitH (l : List HdV) : Prop := ∀ k, k < l.length → (l.getD k zeroH).name.length ≤ 140737488355328 ∧ (l.getD k zeroH).value.length ≤ 140737488355328
theorem fit_size (l : List HdV) (h : FitH l) : ∀ k, k ≤ l.length → sizeH (l.take k) ≤ 2 + k * 281474976710660
  | 0, _ => by simp [sizeH]
  | k + 1, hk => by
    have ih := fit_size l h k (by omega)
    have := h k (by omega)
    rw [size_take l k (by omega)]
    unfold hdl
    omega
end Go.Proofs.YtlgfepaicgnkpaaDoor
