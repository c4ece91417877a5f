
/- The small question that each law of dates asks: it is answered true. -/
import Derived.Test.YthpplcadpngdiaaDoorDtPrt
namespace Go.Proofs.YthpplcadpngdiaaDoor
set_option linter.unusedVariables false
set_option linter.unusedSimpArgs false
open Go.RowKit Go.BigFrame

theorem aw_1 : p822 [84, 104, 117, 44, 32, 48, 49, 32, 74, 97, 110, 32, 49, 57, 55, 48, 32, 48, 48, 58, 48, 48, 58, 48, 49, 32, 71, 77, 84] = some 1 := by decide +kernel
theorem aw_2 : p3339 [50, 48, 48, 48, 45, 48, 50, 45, 51, 48, 84, 48, 48, 58, 48, 48, 58, 48, 48, 90] = none := by decide +kernel
theorem aw_3 : dayL 1969 12 31 (86399 / 3600) (86399 % 3600 / 60) (86399 % 60) [90] = [49, 57, 54, 57, 45, 49, 50, 45, 51, 49, 84, 50, 51, 58, 53, 57, 58, 53, 57, 90] := by decide +kernel
theorem aw_4 (y m d : Nat) (h : DateD y m d) (e : dayD y m d = 719161) : dayL y m d (86399 / 3600) (86399 % 3600 / 60) (86399 % 60) [90] = [49, 57, 54, 57, 45, 49, 50, 45, 51, 49, 84, 50, 51, 58, 53, 57, 58, 53, 57, 90] := by
  obtain ⟨rfl, rfl, rfl⟩ := day_inj h (show DateD 1969 12 31 by unfold DateD; decide) (e.trans (by decide))
  exact aw_3
set_option maxHeartbeats 2000000 in
set_option maxRecDepth 1000000 in
theorem awake14 (w : World) (hT : TabD w) : Calls Tryd.prog 10 #[] w fun e w' => e = .returned (.bool true) ∧ Below w.heap.size w w' := by
  have H1 : Hid (∀ W : World, TabD W → Calls Tryd.prog 16 #[.string ⟨#[84, 104, 117, 44, 32, 48, 49, 32, 74, 97, 110, 32, 49, 57, 55, 48, 32, 48, 48, 58, 48, 48, 58, 48, 49, 32, 71, 77, 84]⟩] W fun e w' => e = .returned (.tuple #[.int .i64 1, .int .i64 0]) ∧ Below W.heap.size W w') := fun W h => by
    have := p822_any [84, 104, 117, 44, 32, 48, 49, 32, 74, 97, 110, 32, 49, 57, 55, 48, 32, 48, 48, 58, 48, 48, 58, 48, 49, 32, 71, 77, 84] (by decide) W h
    rw [aw_1] at this
    exact this
  have H2 : Hid (∀ W : World, Calls Tryd.prog 14 #[.string ⟨#[50, 48, 48, 48, 45, 48, 50, 45, 51, 48, 84, 48, 48, 58, 48, 48, 58, 48, 48, 90]⟩] W fun e w' => e = .returned (.tuple #[.int .i64 0, .int .i64 5]) ∧ Below W.heap.size W w') := fun W => by
    have := p3339_any [50, 48, 48, 48, 45, 48, 50, 45, 51, 48, 84, 48, 48, 58, 48, 48, 58, 48, 48, 90] (by decide) W
    rw [aw_2] at this
    exact this
  have H3 : Hid (∀ W : World, TabD W → Calls Tryd.prog 21 #[.int .i64 (-1)] W fun e w' => e = .returned (.tuple #[.string ⟨#[49, 57, 54, 57, 45, 49, 50, 45, 51, 49, 84, 50, 51, 58, 53, 57, 58, 53, 57, 90]⟩, .int .i64 0]) ∧ Below W.heap.size W w') := fun W h => by
    have := print_yes 719161 86399 (by decide) (by decide) W h
    rw [show (((719161 : Nat) : Int) - 719162) * 86400 + ((86399 : Nat) : Int) = -1 from by decide] at this
    refine this.mono ?_
    rintro e w' ⟨⟨y, m, d, h1, h2, rfl⟩, hb⟩
    exact ⟨by rw [aw_4 y m d h1 h2]; rfl, hb⟩
  have HTT := hid hT
  clear hT
  go_enter Tryd.func10, Tryd.ntmps10
  go_wp2_with fail
  refine (H1.out _ HTT.out).mono ?_
  rintro e w1 ⟨rfl, hb1⟩
  go_wp2_with fail
  refine (H2.out _).mono ?_
  rintro e w2 ⟨rfl, hb2⟩
  have HT2 := hid ((HTT.out.below hb1).below hb2)
  go_wp2_with fail
  refine (H3.out _ HT2.out).mono ?_
  rintro e w3 ⟨rfl, hb3⟩
  go_wp2_with fail
  go_ret
  exact ⟨rfl, b_two (b_two hb1 hb2) hb3⟩
end Go.Proofs.YthpplcadpngdiaaDoor
