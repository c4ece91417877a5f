
/- What ip.Print does at IPv4, ip.Parse where no colon is; and that the statements are awake. -/
import Derived.Test.YtocdjgehjiolhaaIpFour
namespace Go.Proofs.Ytocdjgehjiolhaa
open Go.RowKit

theorem alloc_tab {w : World} (h : TabS w) (o : Obj) : TabS (w.alloc o) := h.below (alloc_below (Below.refl _ w) (Nat.le_refl _) o)
/-- The answer of reading an address. -/
def paV (o : Option (Bool × List UInt8)) : Bool := match o with
  | some (v, _) => v
  | none => false
def paB (o : Option (Bool × List UInt8)) : List UInt8 := match o with
  | some (_, B) => B
  | none => zer 16
def paE (o : Option (Bool × List UInt8)) : Int := if o.isSome then 0 else 5
theorem v4B_len (n : Nat) : (v4B n).length = 16 := rfl
theorem ansB_len (l : List UInt8) : (ansB (p4 l)).length = 16 := by
  unfold p4 ansB; split
  · exact v4B_len _
  · rfl
theorem parse_p4 (l : List UInt8) (h : (58 : UInt8) ∉ l) : paV (parseA l) = false ∧ paB (parseA l) = ansB (p4 l) ∧ paE (parseA l) = ansE (p4 l) := by
  rw [parse_noColon l h]
  unfold p4
  split <;> exact ⟨rfl, rfl, rfl⟩
theorem aw1 : looseA [48, 120, 55, 102, 46, 49] = some (v4L 127 0 0 1) := by decide +kernel
theorem aw2 : v4L 127 0 0 1 = lastL (v4L 127 0 0 1) := by decide +kernel
theorem aw3 : lastB (v4L 127 0 0 1) = [49, 50, 55, 46, 48, 46, 48, 46, 49] := by decide +kernel
theorem aw4 : parseA [48, 120, 55, 102, 46, 49] = none := by decide +kernel
end Go.Proofs.Ytocdjgehjiolhaa
