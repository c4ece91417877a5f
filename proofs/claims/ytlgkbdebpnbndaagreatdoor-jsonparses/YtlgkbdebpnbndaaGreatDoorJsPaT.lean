
/- The law JsonParses, whole. -/
import Derived.Test.YtlgkbdebpnbndaaGreatDoorJsPaL
import Derived.Test.YtlgkbdebpnbndaaGreatDoorJsRdH
namespace Go.Proofs.YtlgkbdebpnbndaaGreatDoor
open Go.RowKit Go.BigFrame
theorem parsesT_law (a : ByteArray) (w : World) (hT : TabX w) : Calls Tryz.prog 4 #[.string a] w fun e w' => e = .returned (.bool true) ∧ Below w.heap.size w w' := parses_law valQ_whole a w hT
end Go.Proofs.YtlgkbdebpnbndaaGreatDoor
