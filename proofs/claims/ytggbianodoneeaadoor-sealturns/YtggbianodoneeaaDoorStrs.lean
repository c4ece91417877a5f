
/- string(b) of a row; the beginning of bytes. -/
import Derived.Test.YtggbianodoneeaaDoorSameLaw
namespace Go.Proofs.YtggbianodoneeaaDoor
open Go.RowKit
set_option linter.unusedSimpArgs false
set_option linter.unusedVariables false

theorem str_row {w : World} {g n c : Nat} {l : List UInt8} (h : BytesAt w (some ⟨g, 0, none⟩) l) (hl : l.length = n) : (convert 31 9 (.slice (some ⟨g, 0, none⟩) n c)).run Tryd.prog w = .ok (.string ⟨l.toArray⟩) w := by
  subst hl
  exact str_at h (fun _ => .inr ⟨_, rfl⟩)
theorem BytesAt.take {w : World} {A : Option Addr} {l : List UInt8} (h : BytesAt w A l) (n : Nat) : BytesAt w A (l.take n) := fun h0 => by
  have h1 : 0 < l.length := by rw [List.length_take] at h0; omega
  obtain ⟨q, o, e, hq, hc⟩ := h h1
  refine ⟨q, o, e, hq, fun j hj => ?_⟩
  rw [List.length_take] at hj
  rw [hc j (by omega)]
  congr 3
  simp [List.getD_eq_getElem?_getD, show j < n from by omega]

end Go.Proofs.YtggbianodoneeaaDoor
