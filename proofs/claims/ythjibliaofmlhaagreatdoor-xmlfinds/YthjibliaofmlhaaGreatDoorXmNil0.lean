
/- append(nil, none). -/
import Derived.Test.YthjibliaofmlhaaGreatDoorXmMem
namespace Go.Proofs.YthjibliaofmlhaaGreatDoor
set_option linter.unusedVariables false
set_option linter.unusedSimpArgs false
open Go.RowKit Go.BigFrame

theorem run_nil0 (ty : TypeId) (A : Option Addr) (c : Nat) (w : World) : (Builtin.append_ #[23, 23] ty #[.slice none 0 0, .slice A 0 c]).run Tryz.prog w = .ok (.slice none 0 0) w := by
  obtain ⟨i0, z, hi, hz0, hz1, hz2, hzc⟩ := ndK.info
  cases A <;> simp [Builtin.append_, run_underlying ndK.sl, sizeOf, typeInfo, hi, Builtin.firstCells, Builtin.lenOf, loadCells, loadCellsFrom]
end Go.Proofs.YthjibliaofmlhaaGreatDoor
