/- Proved: TextChecks returns true at every text, whatever its bytes, and leaves it as it was: of a text of at most 4000 bytes Check, Xml and Count answer as the reference does; no condition. -/
import Derived.Test.YtdpaimpdlopafaaRefHead
import Derived.ProofKit
import Derived.OpenShut
import Derived.ShutString
namespace Go.Proofs.Ytdpaimpdlopafaa
open Go.ChangeShapes Go.WideShapes Go.ChangeAt Go.RowKit
open Go.ChangeMaps (open_string shut_string)

set_option maxHeartbeats 1000000 in
set_option maxRecDepth 1000000 in
theorem textChecks_long (s : ByteArray) (w : World) (h : ¬ (s.size : Int) ≤ 4000) :
    Calls Try.prog 3 #[.string s] w fun e w' => e = .returned (.bool true) ∧ Below w.heap.size w w' := by
  go_enter Try.func3, Try.ntmps3
  go_wp2_with (first
    | (go_at_call 6; refine (light_no s _ h).mono ?_; rintro e w' ⟨rfl, rfl⟩)
    | (go_at_call 7; refine (awake_any _).mono ?_; rintro e w1 ⟨rfl, hb1⟩))
  go_ret
  exact ⟨rfl, hb1⟩

set_option maxHeartbeats 1000000 in
set_option maxRecDepth 1000000 in
theorem textChecks_no (s : ByteArray) (w : World) (h : (s.size : Int) ≤ 4000) (hv : Hid (vld s = false)) :
    Calls Try.prog 3 #[.string s] w fun e w' => e = .returned (.bool true) ∧ Below w.heap.size w w' := by
  have hs : s.size ≤ 1000000 := by omega
  go_enter Try.func3, Try.ntmps3
  go_wp2_with (first
    | (go_at_call 6; refine (light_yes s _ h).mono ?_; rintro e w' ⟨rfl, rfl⟩)
    | (go_at_call 8; refine (runes_no s _ hs hv.out).mono ?_; rintro e w1 ⟨rfl, hb1⟩)
    | (go_at_call 9; refine (check_no s _ hv.out).mono ?_; rintro e w2 ⟨rfl, hb2⟩)
    | (go_at_call 10; refine (xml_no s _ hv).mono ?_; rintro e w3 ⟨rfl, hb3⟩)
    | (go_at_call 11; refine (count_no s _ hv).mono ?_; rintro e w4 ⟨rfl, hb4⟩)
    | (go_at_call 7; refine (awake_any _).mono ?_; rintro e w5 ⟨rfl, hb5⟩))
  go_ret
  have h2 := hb1.trans (hb2.mono hb1.size)
  have h3 := h2.trans (hb3.mono h2.size)
  have h4 := h3.trans (hb4.mono h3.size)
  exact ⟨rfl, h4.trans (hb5.mono h4.size)⟩

theorem runes_shape (s : ByteArray) (w : World) (hs : s.size ≤ 1000000) (h : vld s = true) :
    Calls Try.prog 8 #[.string s] w fun e w' => ∃ a cap, e = .returned (.tuple #[.slice a (Lib.runeCount s) cap, .bool true]) ∧ Below w.heap.size w w' := by
  refine (runes_ok s w hs h).mono ?_
  rintro e w' ⟨v, rfl, ho, hb⟩
  rw [← runesOf_length]
  rcases ho.2 with ⟨rfl, h0⟩ | ⟨g, cap, cur, rfl, _⟩
  · exact ⟨none, 0, by rw [h0], hb⟩
  · exact ⟨_, cap, rfl, hb⟩

set_option maxHeartbeats 1000000 in
set_option maxRecDepth 1000000 in
theorem textChecks_ok (s : ByteArray) (w : World) (h : (s.size : Int) ≤ 4000) (hv : Hid (vld s = true)) :
    Calls Try.prog 3 #[.string s] w fun e w' => e = .returned (.bool true) ∧ Below w.heap.size w w' := by
  have hs : s.size ≤ 1000000 := by omega
  have hm : s.size ≤ maxLen := by unfold maxLen; omega
  have HR := Lib.hid (fun W => runes_shape s W hs hv.out)
  have HN := Lib.hid (fun W => count_ok s W hm hv)
  have HX := Lib.hid (fun W => xml_ok s W hv)
  have HC := Lib.hid (fun W => refCheck_ok s W hs hv)
  clear hm
  have hle := Lib.runeCount_le s
  generalize Lib.runeCount s = c at HR HN hle
  generalize xmlE (xmlB s) = x at HX HC
  have exx : ((x : Int) == x) = true := by simp
  have ecc : (((c : Nat) : Int) == (c : Int)) = true := by simp
  go_enter Try.func3, Try.ntmps3
  go_wp2_with (first
    | (go_at_call 6; refine (light_yes s _ h).mono ?_; rintro e w' ⟨rfl, rfl⟩)
    | (go_at_call 8; refine (HR.out _).mono ?_; rintro e w1 ⟨a, cap, rfl, hb1⟩)
    | (go_at_call 9; refine (check_ok s _ hv.out).mono ?_; rintro e w2 ⟨rfl, hb2⟩)
    | (go_at_call 10; refine (HX.out _).mono ?_; rintro e w3 ⟨rfl, hb3⟩)
    | (go_at_call 12; refine (HC.out _).mono ?_; rintro e w4 ⟨rfl, hb4⟩)
    | (go_at_call 11; refine (HN.out _).mono ?_; rintro e w5 ⟨rfl, hb5⟩)
    | (go_at_call 7; refine (awake_any _).mono ?_; rintro e w6 ⟨rfl, hb6⟩))
  go_ret
  have h2 := hb1.trans (hb2.mono hb1.size)
  have h3 := h2.trans (hb3.mono h2.size)
  have h4 := h3.trans (hb4.mono h3.size)
  have h5 := h4.trans (hb5.mono h4.size)
  exact ⟨rfl, h5.trans (hb6.mono h5.size)⟩

theorem textChecks_any (s : ByteArray) (w : World) :
    Calls Try.prog 3 #[.string s] w fun e w' => e = .returned (.bool true) ∧ Below w.heap.size w w' := by
  by_cases h : (s.size : Int) ≤ 4000
  · cases hv : vld s with
    | true => exact textChecks_ok s w h hv
    | false => exact textChecks_no s w h hv
  · exact textChecks_long s w h

theorem ownC : ownKnob Try.prog.godebug = none := by kernel_rfl

set_option maxRecDepth 100000 in
theorem textChecks_lifted (os : Os) (started : os.Started) (H : Type) (enc : TypeId × Value → H) :
    ReturnsInHanded {} Try.checked os 3 .any (Rows.textChecksSpec.pre6 enc Try.prog Try.f3 Rows.textChecksRow.domain false) (Rows.textChecksSpec.post enc Try.prog Try.f3 false true false false) := by
  refine returnsInHanded_of_change (C := Try.checked) ownC started (by kernel_rfl) Try.func3
    (ChangeSpec.witness6 (enc := enc) (C := Try.checked) false ⟨#[], #[.string ByteArray.empty], []⟩ 8 (by kernel_rfl) (by kernel_rfl) (by kernel_rfl) (by kernel_rfl)) ?_
  intro W base args ds gs before hval0 hW hcnd _
  have hval : ∀ (j : Nat) t v, Try.f3.params[j]? = some t → args[j]? = some v → Value.okWide Try.prog W .any base t v := hval0
  have hW' := hW
  obtain ⟨p, q, hA0, hV, rfl, hfz, hnd⟩ := hW
  have hA : DataW.TrodAll enc Try.prog W 0 (fun _ => true) true Try.f3.params.toList args.toList ds p := hA0
  rw [Try.params3] at hA hval
  obtain ⟨v0, vs0, d0, ds0, p0, q0, hargs, rfl, rfl, h0, r0⟩ := trodAll_cons hA
  obtain ⟨rfl, rfl, rfl⟩ := trodAll_nil r0
  obtain rfl : args = #[v0] := by cases args; simp_all
  obtain ⟨rfl, rfl⟩ := trodVars_none hV
  obtain ⟨a0, rfl, rfl, rfl, w0⟩ := open_string Try.underlying9 (hval 0 9 v0 rfl rfl) h0
  clear hA0 hval0
  simp only [List.append_nil] at hW'
  refine (textChecks_any a0 W).mono fun e W' ⟨he, bel⟩ => ?_
  subst he
  exact ⟨_, rfl, _, _, _, [], _, [], hW', trodAll_mk1 (shut_bool Try.underlying4 _), (trodAll_cons_mk (shut_string Try.underlying9 w0) trodAll_mk0), rfl, bel.frame _, fun h => by cases h⟩

theorem textChecks_holds : Rows.TextChecksSaid :=
  OpenClaim.holds_of_wide 3 Try.f3 rfl rfl rfl rfl rfl rfl rfl ⟨rfl, rfl, rfl, rfl, rfl⟩ rfl rfl rfl rfl rfl (by kernel_rfl) Try.func3 (by kernel_rfl)
    (of_decide_eq_true (by kernel_rfl)) (by unfold Func.isWrapper; first | (rw [if_pos (by decide +kernel)]; kernel_rfl) | (rw [if_neg (by decide +kernel)]; exact ⟨rfl, rfl⟩))
    (fun os started H enc _ => textChecks_lifted os started H enc)

end Go.Proofs.Ytdpaimpdlopafaa
