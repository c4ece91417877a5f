
/- The law on texts with signs. -/
import Derived.Test.YtkeghpghhmajiaaDoorEnLaw
namespace Go.Proofs.YtkeghpghhmajiaaDoor
set_option linter.unusedVariables false
set_option linter.unusedSimpArgs false
open Go.RowKit Go.BigFrame

theorem refErr_any (l : List UInt8) (hl : l.length ≤ 1000000) (w : World) : Calls Tryd.prog 9 #[.string (asS l)] w fun e w' => e = .returned (.int .i64 (errX l)) ∧ Below w.heap.size w w' := by
  have hV : vld (asS l) = V l := by rw [vld_V, asS_data]
  have hs : (asS l).size ≤ 1000000 := by rw [asS_size]; exact hl
  cases h : V l with
  | true =>
    have c := refCheck_ok (asS l) w hs (by show _ = _; rw [hV]; exact h)
    rw [show errX l = xmlE (xmlB (asS l)) from by unfold errX; rw [h]; rfl]
    exact c
  | false =>
    rw [errX_no h]
    exact refCheck_no (asS l) w hs (by show _ = _; rw [hV]; exact h)
theorem errX_V {l : List UInt8} (h : errX l = 0) : V l = true := by
  cases hv : V l with
  | true => rfl
  | false => rw [errX_no hv] at h; cases h
theorem unA_esc {l : List UInt8} (h : V l = true) : unA (escL l) = some l := by
  unfold unA
  rw [V_esc l h, if_pos rfl, un_esc]
set_option maxHeartbeats 4000000 in
set_option maxRecDepth 100000 in
theorem escapes_law (s : ByteArray) (w : World) (hT : TabE w) : Calls Tryd.prog 3 #[.string s] w fun e w' => e = .returned (.bool true) ∧ Below w.heap.size w w' := by
  have HT := hid hT
  have HA := hid (fun W hW => awake12_any W hW)
  clear hT
  by_cases h : (3000 : Int) < (s.size : Int)
  · go_enter Tryd.func3, Tryd.ntmps3
    go_wp2_with (first | (go_at_call 7; refine (HA.out _ HT.out).mono ?_; rintro e W1 ⟨rfl, hb1⟩; have HB1 := hid hb1; clear hb1) | fail)
    go_ret
    exact ⟨rfl, HB1.out⟩
  · obtain ⟨l, rfl⟩ : ∃ l, s = asS l := ⟨s.data.toList, (asS_of s).symm⟩
    have hl : l.length ≤ 3000 := by rw [asS_size] at h; omega
    have HC := hid (fun W => refErr_any l (by omega) W)
    by_cases h0 : errX l = 0
    · have hel := escL_len l
      have HP := hid (fun W => escape_ok l (by omega) h0 W)
      have hV := errX_V h0
      have HU : Hid (∀ W, TabE W → Calls Tryd.prog 10 #[.string (asS (escL l))] W fun e w' => e = .returned (.tuple #[.string (asS l), .int .i64 0]) ∧ Below W.heap.size W w') := fun W hW => by
        have c := unescape_any (escL l) (by omega) W hW
        rw [unA_esc hV] at c
        exact c
      have HL : Hid (∀ W, TabE W → Calls Tryd.prog 11 #[.string (asS (escL l))] W fun e w' => e = .returned (.string (asS (escL l))) ∧ Below W.heap.size W w') := fun W hW => by
        have c := lines_any (escL l) (by omega) W hW
        rw [lin_esc] at c
        exact c
      have HRE := hid (fun W => refEsc_any l (by omega) W)
      rw [h0] at HC
      clear h0 hel hV hl
      generalize asS (escL l) = X at HP HU HL HRE
      generalize asS l = S at h HC HP HU HRE ⊢
      go_enter Tryd.func3, Tryd.ntmps3
      go_wp2_with fail
      refine (HP.out _).mono ?_
      rintro e W1 ⟨rfl, hb1⟩
      have HB1 := hid hb1
      clear hb1
      go_wp2_with fail
      refine (HC.out _).mono ?_
      rintro e W2 ⟨rfl, hb2⟩
      have HB2 := hid (HB1.out.trans (hb2.mono HB1.out.size))
      clear hb2
      go_wp2_with fail
      refine (HU.out _ (HT.out.below HB2.out)).mono ?_
      rintro e W3 ⟨rfl, hb3⟩
      have HB3 := hid (HB2.out.trans (hb3.mono HB2.out.size))
      clear hb3
      go_wp2_with fail
      refine (HL.out _ (HT.out.below HB3.out)).mono ?_
      rintro e W4 ⟨rfl, hb4⟩
      have HB4 := hid (HB3.out.trans (hb4.mono HB3.out.size))
      clear hb4
      go_wp2_with fail
      refine (HU.out _ (HT.out.below HB4.out)).mono ?_
      rintro e W5 ⟨rfl, hb5⟩
      have HB5 := hid (HB4.out.trans (hb5.mono HB4.out.size))
      clear hb5
      go_wp2_with (first
        | (go_at_call 12; refine (HRE.out _).mono ?_; rintro e W6 ⟨rfl, rfl⟩)
        | (go_at_call 7; refine (HA.out _ (HT.out.below HB5.out)).mono ?_; rintro e W7 ⟨rfl, hb7⟩; have HB7 := hid (HB5.out.trans (hb7.mono HB5.out.size)); clear hb7)
        | fail)
      go_ret
      exact ⟨rfl, HB7.out⟩
    · obtain ⟨E, hE⟩ : ∃ E, errX l = E := ⟨_, rfl⟩
      rw [hE] at h0 HC
      have he0 : (E == 0) = false := by rw [beq_eq_false_iff_ne]; exact h0
      have HP := hid (fun W => escape_no l E hE he0 W)
      have hee : (E == E) = true := by simp
      clear hE h0 hl
      generalize asS l = S at h HC HP ⊢
      go_enter Tryd.func3, Tryd.ntmps3
      go_wp2_with fail
      refine (HP.out _).mono ?_
      rintro e W1 ⟨rfl, hb1⟩
      have HB1 := hid hb1
      clear hb1
      go_wp2_with fail
      refine (HC.out _).mono ?_
      rintro e W2 ⟨rfl, hb2⟩
      have HB2 := hid (HB1.out.trans (hb2.mono HB1.out.size))
      clear hb2
      go_wp2_with (first
        | (go_at_call 7; refine (HA.out _ (HT.out.below HB2.out)).mono ?_; rintro e W7 ⟨rfl, hb7⟩; have HB7 := hid (HB2.out.trans (hb7.mono HB2.out.size)); clear hb7)
        | fail)
      go_ret
      exact ⟨rfl, HB7.out⟩
end Go.Proofs.YtkeghpghhmajiaaDoor
