
/- The law PathDots, walked. -/
import Derived.Test.YtlblefcmilfjdaaGreatDoorPaRD
namespace Go.Proofs.YtlblefcmilfjdaaGreatDoor
set_option linter.unusedVariables false
set_option linter.unusedSimpArgs false
open Go.RowKit Go.BigFrame

set_option maxHeartbeats 4000000 in
set_option maxRecDepth 100000 in
theorem dots_law (s : ByteArray) (hs : s.size ≤ 281474976710656) (w : World) (hT : TabX w) : Calls Tryz.prog 3 #[.string s] w fun e w' => e = .returned (.bool true) ∧ Below w.heap.size w w' := by
  have HAW := hid awake8
  have HT := hid hT
  have hself : (s.toList == s.toList) = true := by simp
  by_cases hbig : 2048 < s.size
  · have HD := hid (fun W => Dots_long s hbig hs W)
    have hi : (2048 : Int) < (s.size : Int) := by omega
    clear hT hbig hs
    go_enter Tryz.func3, Tryz.ntmps3
    go_wp2_with fail
    refine (HD.out _).mono ?_
    rintro e W1 ⟨rfl, hb1⟩
    have HB1 := hid hb1
    clear hb1
    go_wp2_with fail
    refine (HAW.out _ (HT.out.below HB1.out)).mono ?_
    rintro e W2 ⟨rfl, hb2⟩
    have HB2 := hid (HB1.out.trans (hb2.mono HB1.out.size))
    clear hb2
    go_wp2_with fail
    go_ret
    exact ⟨rfl, HB2.out⟩
  · obtain ⟨l, rfl⟩ : ∃ l, s = asS l := ⟨s.data.toList, by cases s; rfl⟩
    have hi : ¬ (2048 : Int) < ((asS l).size : Int) := by omega
    rw [asS_size] at hbig
    have HD := hid (fun W h => Dots_any l (by omega) W h)
    have HR := hid (fun W => refDots_any l (by omega) W)
    have HD2 : Hid (∀ W, TabS W → Calls Tryz.prog 6 #[.string (asS (dotsU l))] W fun e w' => e = .returned (.string (asS (dotsU l))) ∧ Below W.heap.size W w') := fun W h => by
      have := Dots_any (dotsU l) (by have := dots_len l; omega) W h
      rw [dots_twice] at this
      exact this
    have hq : ((asS (dotsU l)).toList == (asS (dotsU l)).toList) = true := by simp
    clear hT hbig hs hself
    generalize asS (dotsU l) = D at HD HR HD2 hq
    generalize asS l = S at hi HD HR ⊢
    go_enter Tryz.func3, Tryz.ntmps3
    go_wp2_with fail
    refine (HD.out _ HT.out.tab).mono ?_
    rintro e W1 ⟨rfl, hb1⟩
    have HB1 := hid hb1
    clear hb1
    go_wp2_with fail
    refine (HR.out _).mono ?_
    rintro e W2 ⟨rfl, rfl⟩
    go_wp2_with fail
    refine (HD2.out _ (HT.out.below HB1.out).tab).mono ?_
    rintro e W3 ⟨rfl, hb3⟩
    have HB3 := hid (HB1.out.trans (hb3.mono HB1.out.size))
    clear hb3
    go_wp2_with fail
    refine (HAW.out _ (HT.out.below HB3.out)).mono ?_
    rintro e W4 ⟨rfl, hb4⟩
    have HB4 := hid (HB3.out.trans (hb4.mono HB3.out.size))
    clear hb4
    go_wp2_with fail
    go_ret
    exact ⟨rfl, HB4.out⟩
end Go.Proofs.YtlblefcmilfjdaaGreatDoor
