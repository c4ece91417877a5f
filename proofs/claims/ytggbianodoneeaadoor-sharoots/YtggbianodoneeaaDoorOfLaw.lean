
/- What ShaOf does at every input. -/
import Derived.Test.YtggbianodoneeaaDoorRefOf
namespace Go.Proofs.YtggbianodoneeaaDoor
open Go.RowKit
set_option linter.unusedSimpArgs false
set_option linter.unusedVariables false

theorem of_at (l : List UInt8) (A : Option Addr) (cap : Nat) (w : World) (hT : TabS w) (hA : BytesAt w A l) (hcap : l.length ≤ cap) (hlen : l.length ≤ 1000000) :
    Calls Tryd.prog 25 #[.slice A l.length cap] w fun e w' => e = .returned (.agg (bcs (sha l))) ∧ Below w.heap.size w w' := by
  by_cases h0 : 0 < l.length
  · obtain ⟨q, o, h1, h2, h3⟩ := hA h0
    exact of_any l A cap q o w hT (fun _ => h1) h2 h3 hcap hlen
  · exact of_any l A cap 0 0 w hT (fun h => absurd h h0) (Nat.lt_trans Nat.zero_lt_one hT.lt) (fun j hj => absurd hj (by omega)) hcap hlen
theorem row_at {w : World} {a : Option Addr} {len cap : Nat} {zs : List Int} (h : IsRow .u8 w a len cap zs) (h0 : 0 < w.heap.size) : ∃ l : List UInt8, l.length = len ∧ len ≤ cap ∧ BytesAt w a l := by
  obtain ⟨l, q, o, h1, h2, h3, h4, h5⟩ := row_open h h0
  exact ⟨l, h1, h2, fun hp => ⟨q, o, h3 hp, h4, h5⟩⟩

end Go.Proofs.YtggbianodoneeaaDoor
