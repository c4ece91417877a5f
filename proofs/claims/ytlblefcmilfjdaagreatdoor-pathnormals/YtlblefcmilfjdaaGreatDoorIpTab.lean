
/- The library's variable MaxLen: what stays of it. (No table of the library's is read at this seat.) -/
import Derived.Test.YtlblefcmilfjdaaGreatDoorRows
import Derived.Test.YtlblefcmilfjdaaGreatDoorShelf
import Derived.Test.YtlblefcmilfjdaaGreatDoorIpNum
import Derived.Lib.SmallJoins
namespace Go.Proofs.YtlblefcmilfjdaaGreatDoor
open Go.RowKit

structure TabS (w : World) : Prop where
  max : ∃ m, w.cell? ⟨0, 0, none⟩ = some (.int .i64 m)
theorem TabS.lt {w : World} (h : TabS w) : 0 < w.heap.size := by
  obtain ⟨m, hm⟩ := h.max
  exact block_lt_of_cell hm
theorem TabS.below {w w' : World} (h : TabS w) (hb : Below w.heap.size w w') : TabS w' := by
  have hlt := h.lt
  obtain ⟨m, hm⟩ := h.max
  exact ⟨m, by rw [hb.cell (p := ⟨0, 0, none⟩) (by simp; omega)]; exact hm⟩
end Go.Proofs.YtlblefcmilfjdaaGreatDoor
