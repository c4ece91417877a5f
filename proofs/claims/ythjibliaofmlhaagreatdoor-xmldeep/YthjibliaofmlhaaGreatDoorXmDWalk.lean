
/- The law XmlDeep, whole. -/
import Derived.Test.YthjibliaofmlhaaGreatDoorXmDLaw
import Derived.Test.YthjibliaofmlhaaGreatDoorXmAtt
import Derived.Test.YthjibliaofmlhaaGreatDoorXmOpen
namespace Go.Proofs.YthjibliaofmlhaaGreatDoor
set_option linter.unusedVariables false
open Go.RowKit

theorem deep_walk (a b : Int) (w : World) (wa : (Lit.int .u8 a).wf = true) (wb : (Lit.int .u16 b).wf = true) (hT : TabX w) : Calls Tryz.prog 6 #[.int .u8 a, .int .u16 b] w fun e w' => e = .returned (.bool true) ∧ Below w.heap.size w w' := by
  have h1 : 0 ≤ a ∧ a < 256 := by have := wa; simp only [Lit.wf, Bool.and_eq_true, decide_eq_true_eq] at this; have e1 : IntKind.u8.min = 0 := rfl; have e2 : IntKind.u8.max = 255 := rfl; omega
  have h2 : 0 ≤ b ∧ b < 65536 := by have := wb; simp only [Lit.wf, Bool.and_eq_true, decide_eq_true_eq] at this; have e1 : IntKind.u16.min = 0 := rfl; have e2 : IntKind.u16.max = 65535 := rfl; omega
  obtain ⟨n, rfl⟩ := Int.eq_ofNat_of_zero_le h1.1
  obtain ⟨k, rfl⟩ := Int.eq_ofNat_of_zero_le h2.1
  exact deep_law attributes_ok n k (by omega) (by omega) w hT.2 hT.1
end Go.Proofs.YthjibliaofmlhaaGreatDoor
