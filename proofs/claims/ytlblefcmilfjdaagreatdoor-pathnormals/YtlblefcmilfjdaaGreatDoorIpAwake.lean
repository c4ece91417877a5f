
/- What ip.Print does at IPv4, ip.Parse where no colon is; and that the statements are awake. -/
import Derived.Test.YtlblefcmilfjdaaGreatDoorIpFour
namespace Go.Proofs.YtlblefcmilfjdaaGreatDoor
open Go.RowKit

theorem alloc_tab {w : World} (h : TabS w) (o : Obj) : TabS (w.alloc o) := h.below (alloc_below (Below.refl _ w) (Nat.le_refl _) o)
/-- The answer of reading an address. -/
def paV (o : Option (Bool × List UInt8)) : Bool := match o with
  | some (v, _) => v
  | none => false
def paB (o : Option (Bool × List UInt8)) : List UInt8 := match o with
  | some (_, B) => B
  | none => zer 16
def paE (o : Option (Bool × List UInt8)) : Int := if o.isSome then 0 else 5
theorem v4B_len (n : Nat) : (v4B n).length = 16 := rfl
theorem ansB_len (l : List UInt8) : (ansB (p4 l)).length = 16 := by
  unfold p4 ansB; split
  · exact v4B_len _
  · rfl
theorem parse_p4 (l : List UInt8) (h : (58 : UInt8) ∉ l) : paV (parseA l) = false ∧ paB (parseA l) = ansB (p4 l) ∧ paE (parseA l) = ansE (p4 l) := by
  rw [parse_noColon l h]
  unfold p4
  split <;> exact ⟨rfl, rfl, rfl⟩
set_option maxHeartbeats 1000000 in
theorem parse_plain (s : ByteArray) (hs : s.size ≤ 1000000) (h : (58 : UInt8) ∉ s.data.toList) (w : World) (hT : TabS w) : Calls Tryz.prog 120 #[.string s] w fun e w' => e = .returned (.tuple #[.agg (acs (paV (parseA s.data.toList)) (paB (parseA s.data.toList))), .int .i64 (paE (parseA s.data.toList))]) ∧ Below w.heap.size w w' := by
  obtain ⟨e1, e2, e3⟩ := parse_p4 s.data.toList h
  rw [e1, e2, e3]
  have HN : Hid (∀ W, Calls Tryz.prog 92 #[.string s, .string ⟨#[58]⟩] W fun e w' => e = .returned (.bool false) ∧ w' = W) := fun W => by
    have := Tryz.strings_Contains_one s 58 W
    rw [indexByte_mem, decide_eq_false h] at this
    exact this
  have HL := hid (ansB_len s.data.toList)
  have HP := hid (fun W hT => parse4_any s hs W hT)
  have HTA : Hid (∀ o, TabS (w.alloc o)) := fun o => alloc_tab hT o
  generalize ansB (p4 s.data.toList) = R at HL HP ⊢
  generalize ansE (p4 s.data.toList) = E at HP ⊢
  clear h e1 e2 e3 hT
  go_enter Tryz.func120, Tryz.ntmps120
  go_wp2_with fail
  refine (HN.out _).mono ?_
  rintro e W1 ⟨rfl, rfl⟩
  go_wp2_with fail
  refine (HP.out _ (HTA.out _)).mono ?_
  rintro e W1 ⟨rfl, hb1⟩
  obtain ⟨hr, hb, hz⟩ := row1 hb1
  have HR := hid hr; have HB := hid hb
  clear hr hb hb1
  go_wp2_with (first
    | (refine store_addr rfl _ _ rfl w.heap.size false R HL.out rfl rfl _ HR.out rfl ?_)
    | fail)
  intro W2 hO2 hW2
  go_wp2
  exact bodyPost_ret (ret_addr2 (p := 2) (q := 3) Tryz.results120 _ _ w.heap.size false R HL.out (0, 0) _ rfl rfl hW2) rfl ⟨rfl, HB.out.trans (hO2.below (Nat.le_refl _))⟩

theorem aw1 : looseA [48, 120, 55, 102, 46, 49] = some (v4L 127 0 0 1) := by decide +kernel
theorem aw2 : v4L 127 0 0 1 = lastL (v4L 127 0 0 1) := by decide +kernel
theorem aw3 : lastB (v4L 127 0 0 1) = [49, 50, 55, 46, 48, 46, 48, 46, 49] := by decide +kernel
theorem aw4 : parseA [48, 120, 55, 102, 46, 49] = none := by decide +kernel
end Go.Proofs.YtlblefcmilfjdaaGreatDoor
