
/- That the statements of layer 6 are awake; what cidr.Has does. -/
import Derived.Test.YtocdjgehjiolhaaGreatDoorCiAll
import Derived.Test.YtocdjgehjiolhaaGreatDoorIpRefP
namespace Go.Proofs.YtocdjgehjiolhaaGreatDoor
open Go.RowKit Go.BigFrame
attribute [local go_sem ↓] loadA_eq loadN_eq

def tenT : ByteArray := ⟨#[58, 58, 102, 102, 102, 102, 58, 49, 48, 46, 48, 46, 48, 46, 49]⟩
def eightT : ByteArray := ⟨#[56, 46, 56, 46, 56, 46, 56]⟩
theorem ten_parse : parseA tenT.data.toList = some (true, behL mapH (v4L 10 0 0 1)) := by decide +kernel
theorem eight_parse : parseA eightT.data.toList = some (false, v4L 8 8 8 8) := by decide +kernel
theorem ref_ten (w : World) : Calls Tryz.prog 18 #[.string ⟨#[58, 58, 102, 102, 102, 102, 58, 49, 48, 46, 48, 46, 48, 46, 49]⟩] w fun e w' => e = .returned (.tuple #[.agg (acs true (behL mapH (v4L 10 0 0 1))), .bool true]) ∧ Below w.heap.size w w' := by
  have h := refParse_any tenT (by decide) w
  rw [ten_parse] at h
  exact h
theorem ref_eight (w : World) : Calls Tryz.prog 18 #[.string ⟨#[56, 46, 56, 46, 56, 46, 56]⟩] w fun e w' => e = .returned (.tuple #[.agg (acs false (v4L 8 8 8 8)), .bool true]) ∧ Below w.heap.size w w' := by
  have h := refParse_any eightT (by decide) w
  rw [eight_parse] at h
  exact h
theorem allow_ten (w : World) : Calls Tryz.prog 19 #[.agg (acs true (behL mapH (v4L 10 0 0 1))), .slice none 0 0] w fun e w' => e = .returned (.int .i64 8) ∧ Below w.heap.size w w' := by
  have h := allow_nil true (behL mapH (v4L 10 0 0 1)) rfl w
  rw [wake_ten] at h
  exact h
theorem allow_eight (w : World) : Calls Tryz.prog 19 #[.agg (acs false (v4L 8 8 8 8)), .slice none 0 0] w fun e w' => e = .returned (.int .i64 0) ∧ Below w.heap.size w w' := by
  have h := allow_nil false (v4L 8 8 8 8) rfl w
  rw [wake_eight] at h
  exact h
set_option maxHeartbeats 2000000 in
theorem awake6 (w : World) : Calls Tryz.prog 7 #[] w fun e w' => e = .returned (.bool true) ∧ Below w.heap.size w w' := by
  have H1 := hid ref_ten
  have H2 := hid ref_eight
  have H3 := hid allow_ten
  have H4 := hid allow_eight
  have H5 := hid forbidden_any
  have HL1 : Hid ((behL mapH (v4L 10 0 0 1)).length = 16) := rfl
  have HL2 : Hid ((v4L 8 8 8 8).length = 16) := rfl
  generalize behL mapH (v4L 10 0 0 1) = TB at H1 H3 HL1
  generalize v4L 8 8 8 8 = EB at H2 H4 HL2
  generalize forbCells.toArray = FC at H5
  go_enter Tryz.func7, Tryz.ntmps7
  go_wp2_with fail
  refine (H1.out _).mono ?_
  rintro e W1 ⟨rfl, hb1⟩
  have HB1 := hid hb1
  clear hb1
  go_wp2_with (first
    | (refine store_addr rfl _ _ rfl W1.heap.size true TB HL1.out rfl rfl _ (heap_alloc_new W1 _) rfl ?_)
    | fail)
  intro W2 hO2 hW2
  have HB2 : Hid (Below w.heap.size w W2) := (alloc_below HB1.out HB1.out.size _).trans (hO2.below HB1.out.size)
  have HW2 := hid hW2
  have z2 : W1.heap.size < W2.heap.size := by rw [hO2.size]; simp
  clear hO2 hW2
  go_wp2_with fail
  refine (H2.out _).mono ?_
  rintro e W3 ⟨rfl, hb3⟩
  have HB3 : Hid (Below w.heap.size w W3) := HB2.out.trans (hb3.mono HB2.out.size)
  have HW3 : Hid (W3.heap[W1.heap.size]? = some (.cells (acs true TB) 24 (0, 0))) := (hb3.block _ z2).trans HW2.out
  have z3 : W1.heap.size < W3.heap.size := Nat.lt_of_lt_of_le z2 hb3.size
  clear hb3
  go_wp2_with (first
    | (refine store_addr rfl _ _ rfl W3.heap.size false EB HL2.out rfl rfl _ (heap_alloc_new W3 _) rfl ?_)
    | fail)
  intro W4 hO4 hW4
  have HB4 : Hid (Below w.heap.size w W4) := (alloc_below HB3.out HB3.out.size _).trans (hO4.below HB3.out.size)
  have HR1 : Hid (W4.heap[W1.heap.size]? = some (.cells (acs true TB) 24 (0, 0))) := (hO4.block _ (by omega)).trans ((Below.heap_alloc _ _ _ z3).trans HW3.out)
  have HR2 := hid hW4
  have z4 : W3.heap.size < W4.heap.size := by rw [hO4.size]; simp
  clear hO4 hW4
  have l1 := loadA_row HL1.out HR1.out
  go_wp2_with fail
  refine (H3.out _).mono ?_
  rintro e W5 ⟨rfl, hb5⟩
  have HB5 : Hid (Below w.heap.size w W5) := HB4.out.trans (hb5.mono HB4.out.size)
  have l2 := loadA_row HL2.out ((hb5.block _ z4).trans HR2.out)
  clear hb5 l1
  go_wp2_with fail
  refine (H4.out _).mono ?_
  rintro e W6 ⟨rfl, hb6⟩
  have HB6 : Hid (Below w.heap.size w W6) := HB5.out.trans (hb6.mono HB5.out.size)
  clear hb6 l2
  go_wp2_with fail
  refine (H5.out _).mono ?_
  rintro e W7 ⟨g, rfl, _, _, hb7⟩
  have HB7 : Hid (Below w.heap.size w W7) := HB6.out.trans (hb7.mono HB6.out.size)
  clear hb7
  go_wp2_with fail
  go_ret
  exact ⟨rfl, HB7.out⟩

/-- Has, as it answers. -/
def hasR (n : NetV) (u : Bool) (C : List UInt8) : Bool := mayV n && mayB u C && hasV n u C
end Go.Proofs.YtocdjgehjiolhaaGreatDoor
