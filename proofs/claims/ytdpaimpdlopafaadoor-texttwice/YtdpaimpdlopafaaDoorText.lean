/- What the functions of package text do, call by call: Check, Count, Clone, Head at every text. -/
import Derived.Test.YtdpaimpdlopafaaDoorRows
import Derived.Test.YtdpaimpdlopafaaDoorShelf
import Derived.Test.YtdpaimpdlopafaaDoorMath
import Derived.Lib.OthersKept
import Derived.Lib.Hide
import Derived.Laws.RangeAny
import Derived.Laws.RangeString
import Derived.WalkKit
import Derived.WalkSpells
import Derived.WalkLawsBesides
namespace Go.Proofs.YtdpaimpdlopafaaDoor
open Go.RowKit

theorem ret_int {k : IntKind} {a b : Int} (h : a = b) : Ending.returned (.int k a) = .returned (.int k b) := by rw [h]
theorem take_rest (s : ByteArray) (pos : Nat) : List.take (s.size - pos) (List.drop pos s.data.toList) = List.drop pos s.data.toList := by
  rw [List.take_of_length_le]; rw [List.length_drop, ← Lib.size_eq]; exact Nat.le_refl _
theorem size_extract (s : ByteArray) (pos : Nat) (h : s.size ≤ 281474976710656) : (s.extract 0 pos).size ≤ 281474976710656 := by
  rw [ByteArray.size_extract]; omega
theorem ret_str {a b : ByteArray} (h : a = b) : Ending.returned (.string a) = .returned (.string b) := by rw [h]
theorem below_iter (w : World) (s : ByteArray) (pos : Nat) : Below w.heap.size w (w.iter s pos) := (Below.refl _ _).alloc (Nat.le_refl _) _

set_option maxHeartbeats 1000000 in
set_option maxRecDepth 1000000 in
theorem check_any (s : ByteArray) (w : World) :
    Calls Tryd.prog 16 #[.string s] w fun e w' => e = .returned (.int .i64 (chk s)) ∧ Below w.heap.size w w' := by
  go_enter Tryd.func16, Tryd.ntmps16
  go_wp2
  go_loopw [] (fun w' => ∃ (pos b : Nat), w' = w.iter s pos ∧ Hid (vldFrom s b pos = vld s) ∧ s.size ≤ pos + b) (fun w' => s.size - w'.iterPos w.heap.size)
  case atStart => exact ⟨0, s.size, rfl, rfl, by omega⟩
  case round =>
    obtain ⟨pos, b, rfl, hc, hb⟩ := hrel
    by_cases hp : pos < s.size
    · have hnx : ∀ ty, (Instr.next (.pointer (some ⟨w.heap.size, 0, none⟩)) true ty).run Tryd.prog (w.iter s pos) = _ := fun ty => run_next_any w s pos ty hp
      have hwd := Lib.decode_width_pos s pos hp
      obtain ⟨b, rfl⟩ : ∃ b', b = b' + 1 := ⟨b - 1, by omega⟩
      cases hr : (((Utf8.decode s pos).1 : Int) == 65533) with
      | false =>
        have hbad := Lib.hid (badAt_other s pos hr)
        go_wp2
        go_roundw
        case rel => exact ⟨pos + (Utf8.decode s pos).2, b, rfl, (vldFrom_step s b pos hp hbad.out).symm.trans hc.out, by omega⟩
        case measure => simp; omega
      | true =>
        have hbad := Lib.hid (badAt_err s pos hr)
        have hex := Lib.hid (take_rest s pos)
        cases hq : Lib.hasPrefix (List.take (s.size - pos) (List.drop pos s.data.toList)) [239, 191, 189] with
        | true =>
          go_wp2_with (go_at_call 23; refine (Tryd.strings_HasPrefix _ _ _).mono ?_; rintro e w' ⟨rfl, rfl⟩)
          go_roundw
          case rel =>
            refine ⟨pos + (Utf8.decode s pos).2, b, rfl, (vldFrom_step s b pos hp ?_).symm.trans hc.out, by omega⟩
            rw [hbad.out, ← hex.out, hq]; rfl
          case measure => simp; omega
        | false =>
          go_wp2_with (go_at_call 23; refine (Tryd.strings_HasPrefix _ _ _).mono ?_; rintro e w' ⟨rfl, rfl⟩)
          go_ret
          refine ⟨ret_int ?_, below_iter _ _ _⟩
          rw [chk_no]
          rw [← hc.out, vldFrom_bad s b pos hp]
          rw [hbad.out, ← hex.out, hq]; rfl
    · have hnx : ∀ ty, (Instr.next (.pointer (some ⟨w.heap.size, 0, none⟩)) true ty).run Tryd.prog (w.iter s pos) = _ := fun ty => run_next_end w s pos ty hp
      go_wp2
      go_ret
      refine ⟨ret_int ?_, below_iter _ _ _⟩
      rw [chk_ok]
      rw [← hc.out, vldFrom_end s b pos hp]

theorem check_ok (s : ByteArray) (w : World) (h : vld s = true) :
    Calls Tryd.prog 16 #[.string s] w fun e w' => e = .returned (.int .i64 0) ∧ Below w.heap.size w w' := by
  have := check_any s w
  rw [chk_ok h] at this; exact this
theorem check_no (s : ByteArray) (w : World) (h : vld s = false) :
    Calls Tryd.prog 16 #[.string s] w fun e w' => e = .returned (.int .i64 5) ∧ Below w.heap.size w w' := by
  have := check_any s w
  rw [chk_no h] at this; exact this

set_option maxHeartbeats 1000000 in
set_option maxRecDepth 1000000 in
theorem count_no (s : ByteArray) (w : World) (h : Hid (vld s = false)) :
    Calls Tryd.prog 14 #[.string s] w fun e w' => e = .returned (.int .i64 0) ∧ Below w.heap.size w w' := by
  go_enter Tryd.func14, Tryd.ntmps14
  go_wp2_with (go_at_call 16; refine (check_no s _ h.out).mono ?_; rintro e w' ⟨rfl, hb⟩)
  go_ret
  exact ⟨rfl, hb⟩

set_option maxHeartbeats 1000000 in
set_option maxRecDepth 1000000 in
theorem count_ok (s : ByteArray) (w : World) (hs : s.size ≤ maxLen) (h : Hid (vld s = true)) :
    Calls Tryd.prog 14 #[.string s] w fun e w' => e = .returned (.int .i64 (Lib.runeCount s)) ∧ Below w.heap.size w w' := by
  unfold maxLen at hs
  go_enter Tryd.func14, Tryd.ntmps14
  go_wp2_with (go_at_call 16; refine (check_ok s _ h.out).mono ?_; rintro e w1 ⟨rfl, hb1⟩)
  go_loopw [3] (fun n w' => ∃ (pos b acc : Nat), w' = w1.iter s pos ∧ n = .int .i64 acc ∧ acc + Lib.runeCountFrom s b pos = Lib.runeCount s ∧ s.size ≤ pos + b ∧ acc ≤ pos) (fun _ w' => s.size - w'.iterPos w1.heap.size)
  case atStart => exact ⟨0, s.size, 0, rfl, rfl, by simp [Lib.runeCount], by omega, Nat.le_refl _⟩
  case round =>
    obtain ⟨pos, b, acc, rfl, rfl, hc, hb, ha⟩ := hrel
    by_cases hp : pos < s.size
    · have hnx : ∀ ty, (Instr.next (.pointer (some ⟨w1.heap.size, 0, none⟩)) true ty).run Tryd.prog (w1.iter s pos) = _ := fun ty => run_next_any w1 s pos ty hp
      have hwd := Lib.decode_width_pos s pos hp
      go_wp2
      go_roundw
      case rel =>
        cases b with
        | zero => omega
        | succ b =>
          refine ⟨pos + (Utf8.decode s pos).2, b, acc + 1, rfl, by go_num, ?_, by omega, by omega⟩
          rw [← hc]
          simp [Lib.runeCountFrom, hp]
          omega
      case measure =>
        simp
        omega
    · have hnx : ∀ ty, (Instr.next (.pointer (some ⟨w1.heap.size, 0, none⟩)) true ty).run Tryd.prog (w1.iter s pos) = _ := fun ty => run_next_end w1 s pos ty hp
      go_wp2
      go_ret
      rw [Lib.runeCountFrom_end s b pos hp, Nat.add_zero] at hc
      subst hc
      exact ⟨rfl, hb1.trans ((below_iter _ _ _).mono hb1.size)⟩

set_option maxHeartbeats 1000000 in
theorem clone_any (s : ByteArray) (w : World) (hs : s.size ≤ 281474976710656) :
    Calls Tryd.prog 20 #[.string s] w fun e w' => e = .returned (.string s) ∧ Below w.heap.size w w' := by
  go_enter Tryd.func20, Tryd.ntmps20
  go_wp2_with (go_at_call 24; refine (Tryd.stringslite_Clone _ _ hs).mono ?_; rintro e w' ⟨rfl, hb⟩)
  go_ret
  exact ⟨rfl, hb⟩

set_option maxHeartbeats 1000000 in
set_option maxRecDepth 1000000 in
theorem head_less (s : ByteArray) (n : Int) (w : World) (h : n < 1) :
    Calls Tryd.prog 15 #[.string s, .int .i64 n] w fun e w' => e = .returned (.string ⟨#[]⟩) ∧ Below w.heap.size w w' := by
  go_enter Tryd.func15, Tryd.ntmps15
  go_wp2
  go_ret
  exact ⟨rfl, Below.refl _ _⟩

set_option maxHeartbeats 1000000 in
set_option maxRecDepth 1000000 in
theorem head_no (s : ByteArray) (n : Int) (w : World) (h1 : ¬ n < 1) (h : Hid (vld s = false)) :
    Calls Tryd.prog 15 #[.string s, .int .i64 n] w fun e w' => e = .returned (.string ⟨#[]⟩) ∧ Below w.heap.size w w' := by
  go_enter Tryd.func15, Tryd.ntmps15
  go_wp2_with (go_at_call 16; refine (check_no s _ h.out).mono ?_; rintro e w' ⟨rfl, hb⟩)
  go_ret
  exact ⟨rfl, hb⟩

set_option maxHeartbeats 1000000 in
set_option maxRecDepth 1000000 in
theorem head_ok (s : ByteArray) (n : Nat) (w : World) (hs : s.size ≤ 281474976710656) (h1 : 1 ≤ n) (hn : n ≤ 9223372036854775807) (h : Hid (vld s = true)) :
    Calls Tryd.prog 15 #[.string s, .int .i64 n] w fun e w' => e = .returned (.string (s.extract 0 (placeFrom s n 0))) ∧ Below w.heap.size w w' := by
  have h1' : ¬ ((n : Int) < 1) := by omega
  go_enter Tryd.func15, Tryd.ntmps15
  go_wp2_with (go_at_call 16; refine (check_ok s _ h.out).mono ?_; rintro e w1 ⟨rfl, hb1⟩)
  go_loopw [1] (fun t w' => ∃ (pos k : Nat), w' = w1.iter s pos ∧ t = .int .i64 k ∧ k ≤ n ∧ Hid (placeFrom s k pos = placeFrom s n 0)) (fun _ w' => s.size - w'.iterPos w1.heap.size)
  case atStart => exact ⟨0, n, rfl, rfl, Nat.le_refl _, rfl⟩
  case round =>
    obtain ⟨pos, k, rfl, rfl, hk, hc⟩ := hrel
    by_cases hp : pos < s.size
    · have hnx : ∀ ty, (Instr.next (.pointer (some ⟨w1.heap.size, 0, none⟩)) true ty).run Tryd.prog (w1.iter s pos) = _ := fun ty => run_next_any w1 s pos ty hp
      have hwd := Lib.decode_width_pos s pos hp
      cases k with
      | zero =>
        have hz : ((0 : Int) == 0) = true := rfl
        have hx := size_extract s pos hs
        go_wp2_with (go_at_call 20; refine (clone_any _ _ (by simpa using hx)).mono ?_; rintro e w' ⟨rfl, hb⟩)
        go_ret
        refine ⟨?_, hb1.trans (((below_iter _ _ _).trans (hb.mono (by simp [World.iter]))).mono hb1.size)⟩
        have hz := hc.out
        refine ret_str ?_
        rw [← hz]; rfl
      | succ k =>
        have hz : (((k + 1 : Nat) : Int) == 0) = false := by rw [beq_eq_false_iff_ne]; omega
        go_wp2
        go_roundw
        case rel =>
          refine ⟨pos + (Utf8.decode s pos).2, k, rfl, by go_num, by omega, ?_⟩
          have := hc.out
          simp only [placeFrom, hp, if_true] at this
          exact this
        case measure => simp; omega
    · have hnx : ∀ ty, (Instr.next (.pointer (some ⟨w1.heap.size, 0, none⟩)) true ty).run Tryd.prog (w1.iter s pos) = _ := fun ty => run_next_end w1 s pos ty hp
      go_wp2_with (go_at_call 20; refine (clone_any _ _ hs).mono ?_; rintro e w' ⟨rfl, hb⟩)
      go_ret
      refine ⟨?_, hb1.trans (((below_iter _ _ _).trans (hb.mono (by simp [World.iter]))).mono hb1.size)⟩
      refine ret_str ?_
      rw [← hc.out, placeFrom_end s k pos hp, extract_all s pos hp]

end Go.Proofs.YtdpaimpdlopafaaDoor
