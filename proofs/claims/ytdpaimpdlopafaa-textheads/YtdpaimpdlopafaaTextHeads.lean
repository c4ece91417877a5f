/- Proved: TextHeads returns true at every text and every number, and leaves them as they were: of a text of at most 4000 bytes Head is the reference's Head, and has as many runes as were asked for, where the text has so many; no condition. -/
import Derived.Test.YtdpaimpdlopafaaRefHead
import Derived.Test.YtdpaimpdlopafaaCut
import Derived.ProofKit
import Derived.OpenShut
import Derived.ShutString
namespace Go.Proofs.Ytdpaimpdlopafaa
open Go.ChangeShapes Go.WideShapes Go.ChangeAt Go.RowKit
open Go.ChangeMaps (open_string shut_string)

theorem runes_shapeH (s : ByteArray) (w : World) (hs : s.size ≤ 1000000) (h : vld s = true) :
    Calls Try.prog 8 #[.string s] w fun e w' => ∃ a cap, e = .returned (.tuple #[.slice a (Lib.runeCount s) cap, .bool true]) ∧ Below w.heap.size w w' := by
  refine (runes_ok s w hs h).mono ?_
  rintro e w' ⟨v, rfl, ho, hb⟩
  rw [← runesOf_length]
  rcases ho.2 with ⟨rfl, h0⟩ | ⟨g, cap, cur, rfl, _⟩
  · exact ⟨none, 0, by rw [h0], hb⟩
  · exact ⟨_, cap, rfl, hb⟩

/-- What Head and the reference's Head both answer. -/
def HeadIs (s : ByteArray) (n : Int) (h : ByteArray) : Prop :=
  (∀ W : World, Calls Try.prog 13 #[.string s, .int .i64 n] W fun e w' => e = .returned (.string h) ∧ Below W.heap.size W w') ∧
  (∀ W : World, Calls Try.prog 14 #[.string s, .int .i64 n] W fun e w' => e = .returned (.string h) ∧ Below W.heap.size W w')

theorem headIs_no (s : ByteArray) (n : Int) (hs : s.size ≤ 1000000) (hv : vld s = false) : HeadIs s n ⟨#[]⟩ := by
  refine ⟨fun W => ?_, fun W => refHead_no s n W hs hv⟩
  by_cases h1 : n < 1
  · exact head_less s n W h1
  · exact head_no s n W h1 hv
theorem headIs_ok (s : ByteArray) (n : Int) (hs : s.size ≤ 1000000) (hn : n ≤ 9223372036854775807) (hv : vld s = true) : HeadIs s n (s.extract 0 (placeFrom s n.toNat 0)) := by
  refine ⟨fun W => ?_, fun W => refHead_ok s n W hs hn hv⟩
  by_cases h1 : n < 1
  · have e : s.extract 0 (placeFrom s n.toNat 0) = ⟨#[]⟩ := by
      have e0 : n.toNat = 0 := by omega
      rw [e0]
      apply ByteArray.ext
      apply Array.toList_inj.1
      show (s.extract 0 0).data.toList = _
      rw [Lib.extract_data]; rfl
    rw [e]; exact head_less s n W h1
  · have := head_ok s n.toNat W (by omega) (by omega) (by omega) hv
    rw [show ((n.toNat : Nat) : Int) = n by omega] at this
    exact this

set_option maxHeartbeats 1000000 in
set_option maxRecDepth 1000000 in
theorem textHeads_long (s : ByteArray) (n : Int) (w : World) (h : ¬ (s.size : Int) ≤ 4000) :
    Calls Try.prog 4 #[.string s, .int .i64 n] w fun e w' => e = .returned (.bool true) ∧ Below w.heap.size w w' := by
  go_enter Try.func4, Try.ntmps4
  go_wp2_with (first
    | (go_at_call 6; refine (light_no s _ h).mono ?_; rintro e w' ⟨rfl, rfl⟩)
    | (go_at_call 7; refine (awake_any _).mono ?_; rintro e w1 ⟨rfl, hb1⟩))
  go_ret
  exact ⟨rfl, hb1⟩

set_option maxHeartbeats 1000000 in
set_option maxRecDepth 1000000 in
theorem textHeads_no (s t : ByteArray) (n : Int) (w : World) (h : (s.size : Int) ≤ 4000) (HH : Hid (HeadIs s n t)) (hv : Hid (vld s = false)) :
    Calls Try.prog 4 #[.string s, .int .i64 n] w fun e w' => e = .returned (.bool true) ∧ Below w.heap.size w w' := by
  have hs : s.size ≤ 1000000 := by omega
  have hsame : (t.toList == t.toList) = true := by simp
  go_enter Try.func4, Try.ntmps4
  go_wp2_with (first
    | (go_at_call 6; refine (light_yes s _ h).mono ?_; rintro e w' ⟨rfl, rfl⟩)
    | (go_at_call 13; refine (HH.out.1 _).mono ?_; rintro e w1 ⟨rfl, hb1⟩)
    | (go_at_call 14; refine (HH.out.2 _).mono ?_; rintro e w2 ⟨rfl, hb2⟩)
    | (go_at_call 8; refine (runes_no s _ hs hv.out).mono ?_; rintro e w3 ⟨rfl, hb3⟩)
    | (go_at_call 7; refine (awake_any _).mono ?_; rintro e w4 ⟨rfl, hb4⟩))
  go_ret
  have h2 := hb1.trans (hb2.mono hb1.size)
  have h3 := h2.trans (hb3.mono h2.size)
  exact ⟨rfl, h3.trans (hb4.mono h3.size)⟩

set_option maxHeartbeats 1000000 in
set_option maxRecDepth 1000000 in
theorem textHeads_off (s t : ByteArray) (n : Int) (w : World) (h : (s.size : Int) ≤ 4000) (HH : Hid (HeadIs s n t)) (hv : Hid (vld s = true)) (c : Nat) (hc : Hid (Lib.runeCount s = c)) (hn : n < 0 ∨ (c : Int) < n) :
    Calls Try.prog 4 #[.string s, .int .i64 n] w fun e w' => e = .returned (.bool true) ∧ Below w.heap.size w w' := by
  have hs : s.size ≤ 1000000 := by omega
  have hsame : (t.toList == t.toList) = true := by simp
  have HR := Lib.hid (fun W => runes_shapeH s W hs hv.out)
  rw [hc.out] at HR
  by_cases hn0 : n < 0
  · clear hn
    go_enter Try.func4, Try.ntmps4
    go_wp2_with (first
      | (go_at_call 6; refine (light_yes s _ h).mono ?_; rintro e w' ⟨rfl, rfl⟩)
      | (go_at_call 13; refine (HH.out.1 _).mono ?_; rintro e w1 ⟨rfl, hb1⟩)
      | (go_at_call 14; refine (HH.out.2 _).mono ?_; rintro e w2 ⟨rfl, hb2⟩)
      | (go_at_call 8; refine (HR.out _).mono ?_; rintro e w3 ⟨a, cap, rfl, hb3⟩)
      | (go_at_call 7; refine (awake_any _).mono ?_; rintro e w4 ⟨rfl, hb4⟩))
    go_ret
    have h2 := hb1.trans (hb2.mono hb1.size)
    have h3 := h2.trans (hb3.mono h2.size)
    exact ⟨rfl, h3.trans (hb4.mono h3.size)⟩
  · have hn1 : (c : Int) < n := by omega
    clear hn
    go_enter Try.func4, Try.ntmps4
    go_wp2_with (first
      | (go_at_call 6; refine (light_yes s _ h).mono ?_; rintro e w' ⟨rfl, rfl⟩)
      | (go_at_call 13; refine (HH.out.1 _).mono ?_; rintro e w1 ⟨rfl, hb1⟩)
      | (go_at_call 14; refine (HH.out.2 _).mono ?_; rintro e w2 ⟨rfl, hb2⟩)
      | (go_at_call 8; refine (HR.out _).mono ?_; rintro e w3 ⟨a, cap, rfl, hb3⟩)
      | (go_at_call 7; refine (awake_any _).mono ?_; rintro e w4 ⟨rfl, hb4⟩))
    go_ret
    have h2 := hb1.trans (hb2.mono hb1.size)
    have h3 := h2.trans (hb3.mono h2.size)
    exact ⟨rfl, h3.trans (hb4.mono h3.size)⟩

set_option maxHeartbeats 1000000 in
set_option maxRecDepth 1000000 in
theorem textHeads_on (s t : ByteArray) (n : Int) (w : World) (h : (s.size : Int) ≤ 4000) (HH : Hid (HeadIs s n t)) (hv : Hid (vld s = true)) (c : Nat) (hc : Hid (Lib.runeCount s = c)) (hn0 : ¬ n < 0) (hn1 : ¬ (c : Int) < n)
    (HN : Hid (∀ W : World, Calls Try.prog 11 #[.string t] W fun e w' => e = .returned (.int .i64 n) ∧ Below W.heap.size W w')) :
    Calls Try.prog 4 #[.string s, .int .i64 n] w fun e w' => e = .returned (.bool true) ∧ Below w.heap.size w w' := by
  have hs : s.size ≤ 1000000 := by omega
  have hsame : (t.toList == t.toList) = true := by simp
  have hnn : (n == n) = true := by simp
  have HR := Lib.hid (fun W => runes_shapeH s W hs hv.out)
  rw [hc.out] at HR
  go_enter Try.func4, Try.ntmps4
  go_wp2_with (first
    | (go_at_call 6; refine (light_yes s _ h).mono ?_; rintro e w' ⟨rfl, rfl⟩)
    | (go_at_call 13; refine (HH.out.1 _).mono ?_; rintro e w1 ⟨rfl, hb1⟩)
    | (go_at_call 14; refine (HH.out.2 _).mono ?_; rintro e w2 ⟨rfl, hb2⟩)
    | (go_at_call 8; refine (HR.out _).mono ?_; rintro e w3 ⟨a, cap, rfl, hb3⟩)
    | (go_at_call 11; refine (HN.out _).mono ?_; rintro e w4 ⟨rfl, hb4⟩)
    | (go_at_call 7; refine (awake_any _).mono ?_; rintro e w5 ⟨rfl, hb5⟩))
  go_ret
  have h2 := hb1.trans (hb2.mono hb1.size)
  have h3 := h2.trans (hb3.mono h2.size)
  have h4 := h3.trans (hb4.mono h3.size)
  exact ⟨rfl, h4.trans (hb5.mono h4.size)⟩

theorem textHeads_any (s : ByteArray) (n : Int) (w : World) (hn : n ≤ 9223372036854775807) :
    Calls Try.prog 4 #[.string s, .int .i64 n] w fun e w' => e = .returned (.bool true) ∧ Below w.heap.size w w' := by
  by_cases h : (s.size : Int) ≤ 4000
  · have hs : s.size ≤ 1000000 := by omega
    cases hv : vld s with
    | false => exact textHeads_no s _ n w h (headIs_no s n hs hv) hv
    | true =>
      have HH := headIs_ok s n hs hn hv
      by_cases hn0 : n < 0 ∨ (Lib.runeCount s : Int) < n
      · exact textHeads_off s _ n w h HH hv _ rfl hn0
      · refine textHeads_on s _ n w h HH hv _ rfl (by omega) (by omega) fun W => ?_
        have hle := cut_le s 0 (placeFrom s n.toNat 0)
        have := count_ok (s.extract 0 (placeFrom s n.toNat 0)) W (by unfold maxLen; omega) (head_vld s n.toNat hv)
        rw [head_count s n.toNat hv (by omega), show ((n.toNat : Nat) : Int) = n by omega] at this
        exact this
  · exact textHeads_long s n w h

theorem ownH : ownKnob Try.prog.godebug = none := by kernel_rfl

set_option maxRecDepth 100000 in
theorem textHeads_lifted (os : Os) (started : os.Started) (H : Type) (enc : TypeId × Value → H) :
    ReturnsInHanded {} Try.checked os 4 .any (Rows.textHeadsSpec.pre6 enc Try.prog Try.f4 Rows.textHeadsRow.domain false) (Rows.textHeadsSpec.post enc Try.prog Try.f4 false true false false) := by
  refine returnsInHanded_of_change (C := Try.checked) ownH started (by kernel_rfl) Try.func4
    (ChangeSpec.witness6 (enc := enc) (C := Try.checked) false ⟨#[], #[.string ByteArray.empty, .int .i64 0], []⟩ 8 (by kernel_rfl) (by kernel_rfl) (by kernel_rfl) (by kernel_rfl)) ?_
  intro W base args ds gs before hval0 hW hcnd _
  have hval : ∀ (j : Nat) t v, Try.f4.params[j]? = some t → args[j]? = some v → Value.okWide Try.prog W .any base t v := hval0
  have hW' := hW
  obtain ⟨p, q, hA0, hV, rfl, hfz, hnd⟩ := hW
  have hA : DataW.TrodAll enc Try.prog W 0 (fun _ => true) true Try.f4.params.toList args.toList ds p := hA0
  rw [Try.params4] at hA hval
  obtain ⟨v0, vs0, d0, ds0, p0, q0, hargs, rfl, rfl, h0, r0⟩ := trodAll_cons hA
  obtain ⟨v1, vs1, d1, ds1, p1, q1, rfl, rfl, rfl, h1, r1⟩ := trodAll_cons r0
  obtain ⟨rfl, rfl, rfl⟩ := trodAll_nil r1
  obtain rfl : args = #[v0, v1] := by cases args; simp_all
  obtain ⟨rfl, rfl⟩ := trodVars_none hV
  obtain ⟨a0, rfl, rfl, rfl, w0⟩ := open_string Try.underlying9 (hval 0 9 v0 rfl rfl) h0
  obtain ⟨a1, rfl, rfl, rfl, w1⟩ := open_int Try.underlying3 (hval 1 3 v1 rfl rfl) h1
  clear hA0 hval0
  simp only [List.append_nil] at hW'
  refine (textHeads_any a0 a1 W (bounds_i64 w1).2).mono fun e W' ⟨he, bel⟩ => ?_
  subst he
  exact ⟨_, rfl, _, _, _, [], _, [], hW', trodAll_mk1 (shut_bool Try.underlying4 _), (trodAll_cons_mk (shut_string Try.underlying9 w0) (trodAll_cons_mk (shut_int Try.underlying3 w1) trodAll_mk0)), rfl, bel.frame _, fun h => by cases h⟩

theorem textHeads_holds : Rows.TextHeadsSaid :=
  OpenClaim.holds_of_wide 4 Try.f4 rfl rfl rfl rfl rfl rfl rfl ⟨rfl, rfl, rfl, rfl, rfl⟩ rfl rfl rfl rfl rfl (by kernel_rfl) Try.func4 (by kernel_rfl)
    (of_decide_eq_true (by kernel_rfl)) (by unfold Func.isWrapper; first | (rw [if_pos (by decide +kernel)]; kernel_rfl) | (rw [if_neg (by decide +kernel)]; exact ⟨rfl, rfl⟩))
    (fun os started H enc _ => textHeads_lifted os started H enc)

end Go.Proofs.Ytdpaimpdlopafaa
