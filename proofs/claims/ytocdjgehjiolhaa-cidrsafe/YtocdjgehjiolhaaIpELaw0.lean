
/- The length of what an address carries. -/
import Derived.Test.YtocdjgehjiolhaaIpEmb
namespace Go.Proofs.Ytocdjgehjiolhaa
open Go.RowKit

theorem ansE_len (v : Bool) (B : List UInt8) : (ansB (embO v B)).length = 16 := by
  unfold embO ansB
  split
  · rfl
  · split
    · rfl
    · split <;> rfl
end Go.Proofs.Ytocdjgehjiolhaa
