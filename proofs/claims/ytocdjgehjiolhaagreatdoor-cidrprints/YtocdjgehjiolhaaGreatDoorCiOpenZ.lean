
/- From a row's list to all of the library's tables that are read. -/
import Derived.Test.YtocdjgehjiolhaaGreatDoorCiOpenE
import Derived.Test.YtocdjgehjiolhaaGreatDoorCiPri
namespace Go.Proofs.YtocdjgehjiolhaaGreatDoor
open Go.RowKit Go.Lib
set_option maxRecDepth 100000

theorem tablesZ {W : World} (h' : laidMet Tryz.prog Rows.cidrPrintsRow.laid W) (hS : W.ShapedOpen Tryz.prog) : TabZ W := by
  have h4 := Lib.laidMet.reads h' (.tail _ (.head _))
  rw [bru_eq] at h4
  refine ⟨tables h' hS, tablesS h' hS, ?_⟩
  obtain ⟨g, t, cs, fuel, p, hg, hty, hvar, hd⟩ := h4
  obtain rfl := Option.some.inj ((show Tryz.prog.globalNamed bruName = some 5 by kernel_rfl).symm.trans hg)
  obtain rfl := Option.some.inj ((show (Tryz.prog.globals[5]?).map (·.type) = some 150 by kernel_rfl).symm.trans hty)
  have hcs := cells_of_tab Tryz.underlying150 Tryz.underlying5 (by kernel_rfl) (by kernel_rfl) hd
  rw [World.var?_cell hg hvar 15, ← Array.getElem?_toList, hcs]
  rfl
end Go.Proofs.YtocdjgehjiolhaaGreatDoor
