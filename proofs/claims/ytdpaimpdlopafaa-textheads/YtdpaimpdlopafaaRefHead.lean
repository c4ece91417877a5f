/- What the reference's Check and Head do, call by call, at every text that is not too long. -/
import Derived.Test.YtdpaimpdlopafaaRefs
namespace Go.Proofs.Ytdpaimpdlopafaa
open Go.RowKit

set_option maxHeartbeats 1000000 in
set_option maxRecDepth 1000000 in
theorem refXml_nil (w : World) : Calls Try.prog 21 #[.slice none 0 0] w fun e w' => e = .returned (.bool true) ∧ w' = w := by
  go_enter Try.func21, Try.ntmps21
  go_wp2
  refine wp_loop_rounds 1 ?_
  rw [rounds_succ]
  go_wp2
  go_ret
  exact ⟨rfl, rfl⟩

theorem refXml_any (base : Nat) (v : Value) (l : List Nat) (w : World) (hn : l.length ≤ 1000000) (hown : w.ownsRow base 3 1 v l.length (nums l)) :
    Calls Try.prog 21 #[v] w fun e w' => e = .returned (.bool (l.all xmlN)) ∧ w' = w := by
  rcases hown.2 with ⟨rfl, h0⟩ | ⟨g, cap, cur, rfl, _⟩
  · rw [List.length_eq_zero_iff.1 h0]
    exact refXml_nil w
  · refine refXml_some g cap l w hn fun j hj => ?_
    rw [hown.cellAt j (by omega)]
    unfold nums
    rw [List.getElem?_map, List.getElem?_eq_getElem hj]; rfl

theorem runesOf_le (s : ByteArray) (hs : s.size ≤ 1000000) : (runesOf s).length ≤ 1000000 := by
  rw [runesOf_length]; have := Lib.runeCount_le s; omega

theorem runes_no (s : ByteArray) (w : World) (hs : s.size ≤ 1000000) (h : vld s = false) :
    Calls Try.prog 8 #[.string s] w fun e w' => e = .returned (.tuple #[.slice none 0 0, .bool false]) ∧ Below w.heap.size w w' := by
  refine (runes_any s w hs).mono ?_
  rintro e w' (⟨_, he, hb⟩ | ⟨hv, _⟩)
  · exact ⟨he, hb⟩
  · rw [h] at hv; simp at hv
theorem runes_ok (s : ByteArray) (w : World) (hs : s.size ≤ 1000000) (h : vld s = true) :
    Calls Try.prog 8 #[.string s] w fun e w' => ∃ v, e = .returned (.tuple #[v, .bool true]) ∧ w'.ownsRow w.heap.size 3 1 v (runesOf s).length (nums (runesOf s)) ∧ Below w.heap.size w w' := by
  refine (runes_any s w hs).mono ?_
  rintro e w' (⟨hv, _⟩ | ⟨_, hx⟩)
  · rw [h] at hv; simp at hv
  · exact hx

set_option maxHeartbeats 1000000 in
set_option maxRecDepth 1000000 in
theorem refCheck_ok (s : ByteArray) (w : World) (hs : s.size ≤ 1000000) (h : Hid (vld s = true)) :
    Calls Try.prog 12 #[.string s] w fun e w' => e = .returned (.int .i64 (xmlE (xmlB s))) ∧ Below w.heap.size w w' := by
  have hle := runesOf_le s hs
  have HX := fun (v : Value) (W : World) => refXml_any w.heap.size v (runesOf s) W hle
  have HE : Hid (xmlB s = (runesOf s).all xmlN) := rfl
  have HX2 := Lib.hid HX
  have HR := Lib.hid (fun W => runes_ok s W hs h.out)
  clear HX hle
  generalize (runesOf s).all xmlN = b at HX2 HE
  cases b with
  | true =>
    go_enter Try.func12, Try.ntmps12
    go_wp2_with (first
      | (go_at_call 8; refine (HR.out _).mono ?_; rintro e w1 ⟨v, rfl, ho, hb1⟩)
      | (go_at_call 21; refine (HX2.out _ _ ho).mono ?_; rintro e w2 ⟨rfl, rfl⟩))
    go_ret
    exact ⟨by rw [HE.out]; rfl, hb1⟩
  | false =>
    go_enter Try.func12, Try.ntmps12
    go_wp2_with (first
      | (go_at_call 8; refine (HR.out _).mono ?_; rintro e w1 ⟨v, rfl, ho, hb1⟩)
      | (go_at_call 21; refine (HX2.out _ _ ho).mono ?_; rintro e w2 ⟨rfl, rfl⟩))
    go_ret
    exact ⟨by rw [HE.out]; rfl, hb1⟩

set_option maxHeartbeats 1000000 in
set_option maxRecDepth 1000000 in
theorem refHead_no (s : ByteArray) (n : Int) (w : World) (hs : s.size ≤ 1000000) (h : Hid (vld s = false)) :
    Calls Try.prog 14 #[.string s, .int .i64 n] w fun e w' => e = .returned (.string ⟨#[]⟩) ∧ Below w.heap.size w w' := by
  go_enter Try.func14, Try.ntmps14
  go_wp2_with (go_at_call 8; refine (runes_no s _ hs h.out).mono ?_; rintro e w1 ⟨rfl, hb1⟩)
  go_ret
  exact ⟨rfl, hb1⟩

theorem good_at (s : ByteArray) (b pos : Nat) (hp : pos < s.size) (hb : s.size ≤ pos + b) (h : vldFrom s b pos = true) : badAt s pos = false := by
  obtain ⟨b, rfl⟩ : ∃ b', b = b' + 1 := ⟨b - 1, by omega⟩
  cases hq : badAt s pos with
  | false => rfl
  | true => rw [vldFrom_bad s b pos hp hq] at h; simp at h
theorem good_next (s : ByteArray) (b pos : Nat) (hp : pos < s.size) (hb : s.size ≤ pos + b) (h : vldFrom s b pos = true) : vldFrom s (b - 1) (pos + (Utf8.decode s pos).2) = true := by
  have hg := good_at s b pos hp hb h
  obtain ⟨b, rfl⟩ : ∃ b', b = b' + 1 := ⟨b - 1, by omega⟩
  rw [vldFrom_step s b pos hp hg] at h
  exact h

set_option maxHeartbeats 1000000 in
set_option maxRecDepth 1000000 in
theorem refHead_ok (s : ByteArray) (n : Int) (w : World) (hs : s.size ≤ 1000000) (hn : n ≤ 9223372036854775807) (h : Hid (vld s = true)) :
    Calls Try.prog 14 #[.string s, .int .i64 n] w fun e w' => e = .returned (.string (s.extract 0 (placeFrom s n.toNat 0))) ∧ Below w.heap.size w w' := by
  go_enter Try.func14, Try.ntmps14
  go_wp2_with (go_at_call 8; refine (runes_ok s _ hs h.out).mono ?_; rintro e w1 ⟨v, rfl, ho, hb1⟩)
  clear ho
  go_loop [7, 8] (fun t i => ∃ pos k b : Nat, i = .int .i64 k ∧ t = .int .i64 pos ∧ k ≤ n.toNat ∧ k ≤ pos ∧ pos ≤ s.size ∧ s.size ≤ pos + b ∧ Hid (vldFrom s b pos = true) ∧ Hid (placeFrom s (n.toNat - k) pos = placeFrom s n.toNat 0)) (fun t _ => s.size - (intOf t).toNat)
  case atStart => exact ⟨0, 0, s.size, rfl, rfl, Nat.zero_le _, Nat.le_refl _, Nat.zero_le _, by omega, h, rfl⟩
  case round =>
    obtain ⟨pos, k, b, rfl, rfl, hk, hkp, hps, hb, hv, hc⟩ := hrel
    by_cases hkn : (k : Int) < n
    · by_cases hp : pos < s.size
      · have hwd := Lib.decode_width_pos s pos hp
        have hft := decode_fits s pos hp
        have HG := Lib.hid (good_at s b pos hp hb hv.out)
        have HN := Lib.hid (good_next s b pos hp hb hv.out)
        go_wp2_with (go_at_call 18; refine (rune_ok s pos _ hp hs HG.out).mono ?_; rintro e w2 ⟨rfl, rfl⟩)
        go_round
        case rel =>
          refine ⟨pos + (Utf8.decode s pos).2, k + 1, b - 1, by go_num, by go_num, by omega, by omega, by omega, by omega, HN, ?_⟩
          show _ = _
          rw [← hc.out]
          obtain ⟨m, hm⟩ : ∃ m, n.toNat - k = m + 1 := ⟨n.toNat - k - 1, by omega⟩
          rw [hm, show n.toNat - (k + 1) = m by omega]
          simp [placeFrom, hp]
        case measure => simp [intOf]; omega
      · go_wp2
        go_ret
        refine ⟨ret_str ?_, hb1⟩
        rw [← hc.out, placeFrom_end s _ pos hp]
    · have hz : Hid (n.toNat - k = 0) := by show _ = _; omega
      go_wp2
      go_ret
      refine ⟨ret_str ?_, hb1⟩
      rw [← hc.out, hz.out]; rfl

end Go.Proofs.Ytdpaimpdlopafaa
