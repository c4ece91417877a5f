
/- The small question of layer 12, and the laws on texts. -/
import Derived.Test.YtkeghpghhmajiaaDoorEnRE
namespace Go.Proofs.YtkeghpghhmajiaaDoor
set_option linter.unusedVariables false
set_option linter.unusedSimpArgs false
open Go.RowKit Go.BigFrame

theorem xmlB_abc : errX [97, 60, 98] = 0 := by decide +kernel
set_option maxRecDepth 100000 in
theorem awake12_any (w : World) (hT : TabE w) : Calls Tryd.prog 7 #[] w fun e w' => e = .returned (.bool true) ∧ Below w.heap.size w w' := by
  have HU1 : Hid (∀ W, TabE W → Calls Tryd.prog 10 #[.string ⟨#[38, 35, 120, 50, 48, 65, 67, 59, 38, 108, 116, 59]⟩] W fun e w' => e = .returned (.tuple #[.string ⟨#[226, 130, 172, 60]⟩, .int .i64 0]) ∧ Below W.heap.size W w') := fun W hW => by
    have c := unescape_any [38, 35, 120, 50, 48, 65, 67, 59, 38, 108, 116, 59] (by decide) W hW
    rw [show unA [38, 35, 120, 50, 48, 65, 67, 59, 38, 108, 116, 59] = some [226, 130, 172, 60] from by decide +kernel] at c
    exact c
  have HU2 : Hid (∀ W, TabE W → Calls Tryd.prog 10 #[.string ⟨#[38, 110, 98, 115, 112, 59]⟩] W fun e w' => e = .returned (.tuple #[.string ⟨#[]⟩, .int .i64 5]) ∧ Below W.heap.size W w') := fun W hW => by
    have c := unescape_any [38, 110, 98, 115, 112, 59] (by decide) W hW
    rw [show unA [38, 110, 98, 115, 112, 59] = none from by decide +kernel] at c
    exact c
  have HE : Hid (∀ W, Calls Tryd.prog 8 #[.string ⟨#[97, 60, 98]⟩] W fun e w' => e = .returned (.tuple #[.string ⟨#[97, 38, 108, 116, 59, 98]⟩, .int .i64 0]) ∧ Below W.heap.size W w') := fun W => by
    have c := escape_ok [97, 60, 98] (by decide) xmlB_abc W
    rw [show escL [97, 60, 98] = [97, 38, 108, 116, 59, 98] from by decide +kernel] at c
    exact c
  have HT := hid hT
  clear hT
  go_enter Tryd.func7, Tryd.ntmps7
  go_wp2_with fail
  refine (HU1.out _ HT.out).mono ?_
  rintro e W1 ⟨rfl, hb1⟩
  have HB1 := hid hb1
  clear hb1
  go_wp2_with fail
  refine (HU2.out _ (HT.out.below HB1.out)).mono ?_
  rintro e W2 ⟨rfl, hb2⟩
  have HB2 := hid (HB1.out.trans (hb2.mono HB1.out.size))
  clear hb2
  go_wp2_with fail
  refine (HE.out _).mono ?_
  rintro e W3 ⟨rfl, hb3⟩
  have HB3 := hid (HB2.out.trans (hb3.mono HB2.out.size))
  clear hb3
  go_wp2_with fail
  go_ret
  exact ⟨rfl, HB3.out⟩
set_option maxRecDepth 100000 in
theorem unescapes_law (s : ByteArray) (w : World) (hT : TabE w) : Calls Tryd.prog 4 #[.string s] w fun e w' => e = .returned (.bool true) ∧ Below w.heap.size w w' := by
  have HT := hid hT
  have HA := hid (fun W hW => awake12_any W hW)
  clear hT
  by_cases h : (3000 : Int) < (s.size : Int)
  · go_enter Tryd.func4, Tryd.ntmps4
    go_wp2_with (first | (go_at_call 7; refine (HA.out _ HT.out).mono ?_; rintro e W1 ⟨rfl, hb1⟩; have HB1 := hid hb1; clear hb1) | fail)
    go_ret
    exact ⟨rfl, HB1.out⟩
  · obtain ⟨l, rfl⟩ : ∃ l, s = asS l := ⟨s.data.toList, (asS_of s).symm⟩
    have hl : l.length ≤ 100000 := by rw [asS_size] at h; omega
    have HP := hid (fun W hW => unescape_any l hl W hW)
    have HR := hid (fun W => refUn_any l hl W)
    clear hl
    generalize asS l = S at h HP HR ⊢
    cases hu : unA l with
    | none =>
      rw [hu] at HP HR
      have hem : (asS ((none : Option (List UInt8)).getD [])).toList.isEmpty = true := by rw [emp8]; rfl
      have e5 : unE none = 5 := rfl
      have e6 : (none : Option (List UInt8)).isSome = false := rfl
      rw [e5] at HP
      rw [e6] at HR
      generalize asS ((none : Option (List UInt8)).getD []) = E at HP HR hem
      clear hu e5 e6
      go_enter Tryd.func4, Tryd.ntmps4
      go_wp2_with (first
        | (go_at_call 10; refine (HP.out _ HT.out).mono ?_; rintro e W1 ⟨rfl, hb1⟩; have HB1 := hid hb1; clear hb1)
        | (go_at_call 13; refine (HR.out _).mono ?_; rintro e W2 ⟨rfl, hb2⟩; have HB2 := hid (HB1.out.trans (hb2.mono HB1.out.size)); clear hb2)
        | (go_at_call 7; refine (HA.out _ (HT.out.below HB2.out)).mono ?_; rintro e W3 ⟨rfl, hb3⟩; have HB3 := hid (HB2.out.trans (hb3.mono HB2.out.size)); clear hb3)
        | fail)
      go_ret
      exact ⟨rfl, HB3.out⟩
    | some t =>
      rw [hu] at HP HR
      have e5 : unE (some t) = 0 := rfl
      have e6 : (some t).isSome = true := rfl
      rw [e5] at HP
      rw [e6] at HR
      generalize asS ((some t).getD []) = E at HP HR
      clear hu e5 e6
      go_enter Tryd.func4, Tryd.ntmps4
      go_wp2_with (first
        | (go_at_call 10; refine (HP.out _ HT.out).mono ?_; rintro e W1 ⟨rfl, hb1⟩; have HB1 := hid hb1; clear hb1)
        | (go_at_call 13; refine (HR.out _).mono ?_; rintro e W2 ⟨rfl, hb2⟩; have HB2 := hid (HB1.out.trans (hb2.mono HB1.out.size)); clear hb2)
        | (go_at_call 7; refine (HA.out _ (HT.out.below HB2.out)).mono ?_; rintro e W3 ⟨rfl, hb3⟩; have HB3 := hid (HB2.out.trans (hb3.mono HB2.out.size)); clear hb3)
        | fail)
      go_ret
      exact ⟨rfl, HB3.out⟩
set_option maxRecDepth 100000 in
theorem values_law (s : ByteArray) (w : World) (hT : TabE w) : Calls Tryd.prog 5 #[.string s] w fun e w' => e = .returned (.bool true) ∧ Below w.heap.size w w' := by
  have HT := hid hT
  have HA := hid (fun W hW => awake12_any W hW)
  clear hT
  by_cases h : (3000 : Int) < (s.size : Int)
  · go_enter Tryd.func5, Tryd.ntmps5
    go_wp2_with (first | (go_at_call 7; refine (HA.out _ HT.out).mono ?_; rintro e W1 ⟨rfl, hb1⟩; have HB1 := hid hb1; clear hb1) | fail)
    go_ret
    exact ⟨rfl, HB1.out⟩
  · obtain ⟨l, rfl⟩ : ∃ l, s = asS l := ⟨s.data.toList, (asS_of s).symm⟩
    have hl : l.length ≤ 10000 := by rw [asS_size] at h; omega
    have HP := hid (fun W hW => value_any l (by omega) W hW)
    have HR := hid (fun W => refValue_any l hl W)
    have HL := hid (fun W hW => lines_any l (by omega) W hW)
    have HM := hid (fun W => refLines_any l hl W)
    clear hl
    generalize asS l = S at h HP HR HL HM ⊢
    generalize asS (linE l) = K at HL HM
    generalize unA (blankE (linE l)) = U at HP HR
    cases U with
    | none =>
      have hem : (asS ((none : Option (List UInt8)).getD [])).toList.isEmpty = true := by rw [emp8]; rfl
      have e5 : unE none = 5 := rfl
      have e6 : (none : Option (List UInt8)).isSome = false := rfl
      rw [e5] at HP
      rw [e6] at HR
      generalize asS ((none : Option (List UInt8)).getD []) = E at HP HR hem
      clear e5 e6
      go_enter Tryd.func5, Tryd.ntmps5
      go_wp2_with (first
        | (go_at_call 14; refine (HP.out _ HT.out).mono ?_; rintro e W1 ⟨rfl, hb1⟩; have HB1 := hid hb1; clear hb1)
        | (go_at_call 15; refine (HR.out _).mono ?_; rintro e W2 ⟨rfl, hb2⟩; have HB2 := hid (HB1.out.trans (hb2.mono HB1.out.size)); clear hb2)
        | (go_at_call 11; refine (HL.out _ (HT.out.below HB2.out)).mono ?_; rintro e W4 ⟨rfl, hb4⟩; have HB4 := hid (HB2.out.trans (hb4.mono HB2.out.size)); clear hb4)
        | (go_at_call 16; refine (HM.out _).mono ?_; rintro e W5 ⟨rfl, hb5⟩; have HB5 := hid (HB4.out.trans (hb5.mono HB4.out.size)); clear hb5)
        | (go_at_call 7; refine (HA.out _ (HT.out.below HB5.out)).mono ?_; rintro e W3 ⟨rfl, hb3⟩; have HB3 := hid (HB5.out.trans (hb3.mono HB5.out.size)); clear hb3)
        | fail)
      go_ret
      exact ⟨rfl, HB3.out⟩
    | some t =>
      have e5 : unE (some t) = 0 := rfl
      have e6 : (some t).isSome = true := rfl
      rw [e5] at HP
      rw [e6] at HR
      generalize asS ((some t).getD []) = E at HP HR
      clear e5 e6
      go_enter Tryd.func5, Tryd.ntmps5
      go_wp2_with (first
        | (go_at_call 14; refine (HP.out _ HT.out).mono ?_; rintro e W1 ⟨rfl, hb1⟩; have HB1 := hid hb1; clear hb1)
        | (go_at_call 15; refine (HR.out _).mono ?_; rintro e W2 ⟨rfl, hb2⟩; have HB2 := hid (HB1.out.trans (hb2.mono HB1.out.size)); clear hb2)
        | (go_at_call 11; refine (HL.out _ (HT.out.below HB2.out)).mono ?_; rintro e W4 ⟨rfl, hb4⟩; have HB4 := hid (HB2.out.trans (hb4.mono HB2.out.size)); clear hb4)
        | (go_at_call 16; refine (HM.out _).mono ?_; rintro e W5 ⟨rfl, hb5⟩; have HB5 := hid (HB4.out.trans (hb5.mono HB4.out.size)); clear hb5)
        | (go_at_call 7; refine (HA.out _ (HT.out.below HB5.out)).mono ?_; rintro e W3 ⟨rfl, hb3⟩; have HB3 := hid (HB5.out.trans (hb3.mono HB5.out.size)); clear hb3)
        | fail)
      go_ret
      exact ⟨rfl, HB3.out⟩
end Go.Proofs.YtkeghpghhmajiaaDoor
