
/- What ip.lastFour and Check do. -/
import Derived.Test.YtlblefcmilfjdaaGreatDoorIpV4
import Derived.Deep.QuietTactic
import Derived.BigQuiet
import Derived.Deep.RegionHeld3
import Derived.Deep.DeepCutAuto
namespace Go.Proofs.YtlblefcmilfjdaaGreatDoor
open Go.RowKit

def lastL (B : List UInt8) : List UInt8 := v4L (B.getD 12 0) (B.getD 13 0) (B.getD 14 0) (B.getD 15 0)
theorem lastL_len (B : List UInt8) : (lastL B).length = 16 := rfl
theorem last_eq (B : List UInt8) (h : B.length = 16) : B = lastL B ↔ B.take 12 = zer 12 := by
  obtain ⟨b0, b1, b2, b3, b4, b5, b6, b7, b8, b9, b10, b11, b12, b13, b14, b15, rfl⟩ := letters B h
  simp [lastL, v4L, zer, List.replicate]
attribute [local go_sem ↓] loadA_eq
theorem guardA : Tryz.prog.eqGuardType Tryz.prog.depth 93 = false := by kernel_rfl
end Go.Proofs.YtlblefcmilfjdaaGreatDoor
