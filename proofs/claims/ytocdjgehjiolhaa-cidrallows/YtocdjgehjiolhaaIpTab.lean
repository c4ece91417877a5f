
/- No table is read at this seat. -/
import Derived.Test.YtocdjgehjiolhaaRows
import Derived.Test.YtocdjgehjiolhaaIpNum
import Derived.Lib.SmallJoins
import Derived.Lib.AppendIntMem
namespace Go.Proofs.Ytocdjgehjiolhaa
open Go.RowKit
set_option linter.unusedVariables false

structure TabS (w : World) : Prop where
  ok : True
theorem TabS.below {w w' : World} (h : TabS w) (hb : Below w.heap.size w w') : TabS w' := ⟨trivial⟩
end Go.Proofs.Ytocdjgehjiolhaa
