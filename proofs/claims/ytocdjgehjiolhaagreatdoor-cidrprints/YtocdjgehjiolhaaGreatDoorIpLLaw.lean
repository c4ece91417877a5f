
/- The law IpLooses, walked. -/
import Derived.Test.YtocdjgehjiolhaaGreatDoorIpRefLo
namespace Go.Proofs.YtocdjgehjiolhaaGreatDoor
open Go.RowKit

theorem loose_len (l B : List UInt8) (h : looseA l = some B) : B.length = 16 := by
  rw [loose_parts] at h
  split at h
  · cases h
  · cases hA : accL (cutK 46 4 (trimDot l)) (cutK 46 4 (trimDot l)).length with
    | none => rw [hA] at h; cases h
    | some A => rw [hA] at h; cases h; exact v4B_len A
theorem eqZ (v : Bool) (B : List UInt8) (hB : B.length = 16) (W : World) : (Op.equalIn 10000 24 (.agg (acs v B)) (.agg #[.bool false, .int .u8 0, .int .u8 0, .int .u8 0, .int .u8 0, .int .u8 0, .int .u8 0, .int .u8 0, .int .u8 0, .int .u8 0, .int .u8 0, .int .u8 0, .int .u8 0, .int .u8 0, .int .u8 0, .int .u8 0, .int .u8 0])).run Tryz.prog W = .ok (decide (v = false ∧ B = zer 16)) W :=
  eqA v false B (zer 16) hB rfl W
theorem eqSame (v : Bool) (B : List UInt8) (hB : B.length = 16) (W : World) : (Op.equalIn 10000 24 (.agg (acs v B)) (.agg (acs v B))).run Tryz.prog W = .ok true W := by
  rw [eqA v v B B hB hB W, decide_eq_true ⟨rfl, rfl⟩]
attribute [local go_sem ↓] loadA_eq

end Go.Proofs.YtocdjgehjiolhaaGreatDoor
