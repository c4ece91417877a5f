
/- Whether headers may be: what together and Check of package header do, and the reference's Check. -/
import Derived.Test.YtlgfepaicgnkpaaDoorHdRow
namespace Go.Proofs.YtlgfepaicgnkpaaDoor
set_option linter.unusedVariables false
set_option linter.unusedSimpArgs false
open Go.RowKit Go.BigFrame

theorem tog_text (h : HdV) : asS h.name ++ ⟨#[58]⟩ ++ ⟨#[32]⟩ ++ asS h.value ++ ⟨#[13, 10]⟩ = asS (lineH h ++ [13, 10]) := by
  have e1 : asS h.name ++ ⟨#[58]⟩ = asS (h.name ++ [58]) := asS_app h.name [58]
  have e2 : asS (h.name ++ [58]) ++ ⟨#[32]⟩ = asS (h.name ++ [58] ++ [32]) := asS_app _ [32]
  have e3 := asS_app (h.name ++ [58] ++ [32]) h.value
  have e4 : asS (h.name ++ [58] ++ [32] ++ h.value) ++ ⟨#[13, 10]⟩ = asS (h.name ++ [58] ++ [32] ++ h.value ++ [13, 10]) := asS_app _ [13, 10]
  rw [e1, e2, e3, e4]
  congr 1
  unfold lineH
  simp
theorem all_hd (p : HdV → Bool) (l : List HdV) (k : Nat) (hk : l.length ≤ k) (h : ∀ j, j < k → p (l.getD j zeroH) = true) : l.all p = true := by
  rw [List.all_eq_true]
  intro x hx
  obtain ⟨j, hj, e⟩ := List.getElem_of_mem hx
  have := h j (by omega)
  rwa [List.getD_eq_getElem?_getD, List.getElem?_eq_getElem hj, Option.getD_some, e] at this
theorem not_hd (p : HdV → Bool) (l : List HdV) (k : Nat) (hk : k < l.length) (h : p (l.getD k zeroH) = false) : l.all p = false := by
  cases ha : l.all p with
  | false => rfl
  | true =>
    rw [List.all_eq_true] at ha
    have := ha (l.getD k zeroH) (by rw [List.getD_eq_getElem?_getD, List.getElem?_eq_getElem hk]; exact List.getElem_mem hk)
    rw [h] at this; cases this
theorem step_hd (p : HdV → Bool) (l : List HdV) (k : Nat) (h : ∀ j, j < k → p (l.getD j zeroH) = true) (hk : p (l.getD k zeroH) = true) : ∀ j, j < k + 1 → p (l.getD j zeroH) = true := fun j hj => by
  rcases Nat.lt_succ_iff_lt_or_eq.1 hj with h1 | rfl
  · exact h j h1
  · exact hk
theorem chk_bad (l : List HdV) (k : Nat) (hk : k < l.length) (h : mayH (l.getD k zeroH) = false) : checkH l = 1 := by
  unfold checkH; rw [not_hd mayH l k hk h]; rfl
theorem chk_all (l : List HdV) (k : Nat) (hk : l.length ≤ k) (h : ∀ j, j < k → mayH (l.getD j zeroH) = true) : checkH l = if 64 < l.length ∨ 8192 < sizeH l then 3 else 0 := by
  unfold checkH; rw [all_hd mayH l k hk h]; rfl
theorem hdl_le (l : List HdV) (k : Nat) (h : k < l.length) : hdl (l.getD k zeroH) ≤ sizeH l := by
  have h1 := size_take l k h
  have h2 := size_part l (k + 1)
  omega
/-- Headers that are not too great. -/
def lightH (l : List HdV) : Bool := decide (l.length ≤ 100) && decide (sizeH l ≤ 20000)
theorem light_fit (l : List HdV) (h : lightH l = true) : l.length ≤ 100 ∧ sizeH l ≤ 20000 := by
  unfold lightH at h
  rw [Bool.and_eq_true, decide_eq_true_iff, decide_eq_true_iff] at h
  exact h
end Go.Proofs.YtlgfepaicgnkpaaDoor
