
/- From a row's list to the library's tables, the place of the bit of sixteen among them. -/
import Derived.Test.YtggjblnbjigjmaaDoorIpOpen
import Derived.Test.YtggjblnbjigjmaaDoorIpFU
namespace Go.Proofs.YtggjblnbjigjmaaDoor
open Go.RowKit Go.Lib
set_option maxRecDepth 100000

theorem tablesP {W : World} (h' : laidMet Tryd.prog Rows.ipParsesRow.laid W) (hS : W.ShapedOpen Tryd.prog) : TabP W := by
  have h4 := Lib.laidMet.reads h' (.tail _ (.head _))
  rw [bru_eq] at h4
  refine ⟨tables h' hS, ?_⟩
  obtain ⟨g, t, cs, fuel, p, hg, hty, hvar, hd⟩ := h4
  obtain rfl := Option.some.inj ((show Tryd.prog.globalNamed bruName = some 5 by kernel_rfl).symm.trans hg)
  obtain rfl := Option.some.inj ((show (Tryd.prog.globals[5]?).map (·.type) = some 125 by kernel_rfl).symm.trans hty)
  have hcs := cells_of_tab Tryd.underlying125 Tryd.underlying5 (by kernel_rfl) (by kernel_rfl) hd
  rw [World.var?_cell hg hvar 15, ← Array.getElem?_toList, hcs]
  rfl
end Go.Proofs.YtggjblnbjigjmaaDoor
