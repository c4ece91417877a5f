
/- What the law of printed times says: it returns true. -/
import Derived.Test.YthpplcadpngdiaaDoorDtAw
import Derived.Test.YthpplcadpngdiaaDoorDtRPr
import Derived.OpenShut
namespace Go.Proofs.YthpplcadpngdiaaDoor
set_option linter.unusedVariables false
set_option linter.unusedSimpArgs false
open Go.RowKit Go.BigFrame

set_option maxHeartbeats 2000000 in
theorem datePrints_law (T : Int) (w : World) (hw : (Lit.int .i64 T).wf = true) (hT : TabD w) : Calls Tryd.prog 6 #[.int .i64 T] w fun e w' => e = .returned (.bool true) ∧ Below w.heap.size w w' := by
  have hb := bounds_i64 hw
  have HA := hid (fun W h => awake14 W h)
  have HTT := hid hT
  clear hT hw
  by_cases h : T < -62135596800 ∨ 253402300799 < T
  · have H1 := hid (fun W => print_no T h W)
    have H2 := hid (fun W => refPrint_no T h hb.1 hb.2 W)
    clear h
    go_enter Tryd.func6, Tryd.ntmps6
    go_wp2_with (first
      | (go_at_call 21; refine (H1.out _).mono ?_; rintro e w1 ⟨rfl, rfl⟩)
      | (go_at_call 22; refine (H2.out _).mono ?_; rintro e w1 ⟨rfl, rfl⟩)
      | (go_at_call 10; refine (HA.out _ HTT.out).mono ?_; rintro e w1 ⟨rfl, hb1⟩)
      | fail)
    go_ret
    exact ⟨rfl, hb1⟩
  · obtain ⟨D, c, hD, hc, rfl⟩ : ∃ D c : Nat, D < 3652059 ∧ c < 86400 ∧ T = ((D : Int) - 719162) * 86400 + (c : Int) := ⟨(T / 86400 + 719162).toNat, (T % 86400).toNat, by omega, by omega, by omega⟩
    have H1 := hid (fun W h => print_yes D c hD hc W h)
    have H2 := hid (fun W => refPrint_yes D c hD hc W)
    have H3 : Hid (∀ y m d, DateD y m d → dayD y m d = D → ∀ W : World, Calls Tryd.prog 14 #[.string (asS (dayL y m d (c / 3600) (c % 3600 / 60) (c % 60) [90]))] W fun e w' => e = .returned (.tuple #[.int .i64 (((D : Int) - 719162) * 86400 + (c : Int)), .int .i64 0]) ∧ Below W.heap.size W w') := fun y m d h1 h2 W => by
      have := p3339_any (dayL y m d (c / 3600) (c % 3600 / 60) (c % 60) [90]) (by unfold dayL; simp [dig_len]) W
      rw [p3339_print h1 (by omega) (by omega) (by omega), h2, show ((c / 3600 : Nat) : Int) * 3600 + ((c % 3600 / 60 : Nat) : Int) * 60 + ((c % 60 : Nat) : Int) = (c : Int) by omega] at this
      exact this
    have HNE : Hid (∀ y m d, ((asS (dayL y m d (c / 3600) (c % 3600 / 60) (c % 60) [90])).toList == ([] : List UInt8)) = false) := fun y m d => by
      rw [tl_eq]
      refine decide_eq_false fun e => ?_
      have := congrArg List.length e
      unfold dayL at this
      simp at this
    clear h
    generalize ((D : Int) - 719162) * 86400 + (c : Int) = T at *
    go_enter Tryd.func6, Tryd.ntmps6
    go_wp2_with fail
    refine (H1.out _ HTT.out).mono ?_
    rintro e w1 ⟨⟨y, m, d, q1, q2, rfl⟩, hb1⟩
    go_wp2_with fail
    refine (H2.out _).mono ?_
    rintro e w2 ⟨⟨y', m', d', q3, q4, rfl⟩, hb2⟩
    obtain ⟨rfl, rfl, rfl⟩ := day_inj q1 q3 (q2.trans q4.symm)
    have H4 := hid (H3.out y m d q1 q2)
    have hne := HNE.out y m d
    have HT2 := hid ((HTT.out.below hb1).below hb2)
    clear q1 q2 q3 q4 H1 H2 H3 HNE
    generalize asS (dayL y m d (c / 3600) (c % 3600 / 60) (c % 60) [90]) = S at *
    go_wp2_with fail
    refine (H4.out _).mono ?_
    rintro e w3 ⟨rfl, hb3⟩
    have HT3 := hid (HT2.out.below hb3)
    go_wp2_with fail
    refine (HA.out _ HT3.out).mono ?_
    rintro e w4 ⟨rfl, hb4⟩
    go_wp2_with fail
    go_ret
    exact ⟨rfl, b_two (b_two (b_two hb1 hb2) hb3) hb4⟩
end Go.Proofs.YthpplcadpngdiaaDoor
