
/- The reference's look at a text, walked. -/
import Derived.Test.YthjibliaofmlhaaGreatDoorXmRReader
namespace Go.Proofs.YthjibliaofmlhaaGreatDoor
set_option linter.unusedVariables false
set_option linter.unusedSimpArgs false
open Go.RowKit Go.BigFrame

theorem refErr13 (l : List UInt8) (hl : l.length ≤ 1000000) (w : World) : Calls Tryz.prog 37 #[.string (asS l)] w fun e w' => e = .returned (.int .i64 (errX l)) ∧ Below w.heap.size w w' := by
  have hV : vld (asS l) = V l := by rw [vld_V, asS_data]
  have hs : (asS l).size ≤ 1000000 := by rw [asS_size]; exact hl
  cases h : V l with
  | true =>
    have c := refCheck_ok (asS l) w hs (by show _ = _; rw [hV]; exact h)
    rw [show errX l = xmlE (xmlB (asS l)) from by unfold errX; rw [h]; rfl]
    exact c
  | false =>
    rw [errX_no h]
    exact refCheck_no (asS l) w hs (by show _ = _; rw [hV]; exact h)
end Go.Proofs.YthjibliaofmlhaaGreatDoor
