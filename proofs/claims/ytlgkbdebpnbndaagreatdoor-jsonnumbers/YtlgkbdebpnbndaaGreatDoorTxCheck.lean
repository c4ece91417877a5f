
/- Check and Xml of package text, at every text. -/
import Derived.Test.YtlgkbdebpnbndaaGreatDoorTxBase
import Derived.Test.YtlgkbdebpnbndaaGreatDoorXmBook
import Derived.Lib.OthersKept
import Derived.Lib.Hide
import Derived.Laws.RangeAny
import Derived.Laws.RangeString
import Derived.WalkKit
import Derived.WalkSpells
import Derived.WalkLawsBesides
namespace Go.Proofs.YtlgkbdebpnbndaaGreatDoor
set_option linter.unusedVariables false
set_option linter.unusedSimpArgs false
open Go.RowKit

theorem ret_int {k : IntKind} {a b : Int} (h : a = b) : Ending.returned (.int k a) = .returned (.int k b) := by rw [h]
theorem take_rest (s : ByteArray) (pos : Nat) : List.take (s.size - pos) (List.drop pos s.data.toList) = List.drop pos s.data.toList := by
  rw [List.take_of_length_le]; rw [List.length_drop, ← Lib.size_eq]; exact Nat.le_refl _
theorem size_extract (s : ByteArray) (pos : Nat) (h : s.size ≤ 281474976710656) : (s.extract 0 pos).size ≤ 281474976710656 := by
  rw [ByteArray.size_extract]; omega
theorem ret_str {a b : ByteArray} (h : a = b) : Ending.returned (.string a) = .returned (.string b) := by rw [h]
theorem below_iter (w : World) (s : ByteArray) (pos : Nat) : Below w.heap.size w (w.iter s pos) := (Below.refl _ _).alloc (Nat.le_refl _) _

set_option maxHeartbeats 1000000 in
set_option maxRecDepth 1000000 in
theorem check1_any (s : ByteArray) (w : World) :
    Calls Tryz.prog 34 #[.string s] w fun e w' => e = .returned (.int .i64 (chk s)) ∧ Below w.heap.size w w' := by
  go_enter Tryz.func34, Tryz.ntmps34
  go_wp2
  go_loopw [] (fun w' => ∃ (pos b : Nat), w' = w.iter s pos ∧ Hid (vldFrom s b pos = vld s) ∧ s.size ≤ pos + b) (fun w' => s.size - w'.iterPos w.heap.size)
  case atStart => exact ⟨0, s.size, rfl, rfl, by omega⟩
  case round =>
    obtain ⟨pos, b, rfl, hc, hb⟩ := hrel
    by_cases hp : pos < s.size
    · have hnx : ∀ ty, (Instr.next (.pointer (some ⟨w.heap.size, 0, none⟩)) true ty).run Tryz.prog (w.iter s pos) = _ := fun ty => run_next_any w s pos ty hp
      have hwd := Lib.decode_width_pos s pos hp
      obtain ⟨b, rfl⟩ : ∃ b', b = b' + 1 := ⟨b - 1, by omega⟩
      cases hr : (((Utf8.decode s pos).1 : Int) == 65533) with
      | false =>
        have hbad := Lib.hid (badAt_other s pos hr)
        go_wp2
        go_roundw
        case rel => exact ⟨pos + (Utf8.decode s pos).2, b, rfl, (vldFrom_step s b pos hp hbad.out).symm.trans hc.out, by omega⟩
        case measure => simp; omega
      | true =>
        have hbad := Lib.hid (badAt_err s pos hr)
        have hex := Lib.hid (take_rest s pos)
        cases hq : Lib.hasPrefix (List.take (s.size - pos) (List.drop pos s.data.toList)) [239, 191, 189] with
        | true =>
          go_wp2_with (go_at_call 62; refine (Tryz.strings_HasPrefix _ _ _).mono ?_; rintro e w' ⟨rfl, rfl⟩)
          go_roundw
          case rel =>
            refine ⟨pos + (Utf8.decode s pos).2, b, rfl, (vldFrom_step s b pos hp ?_).symm.trans hc.out, by omega⟩
            rw [hbad.out, ← hex.out, hq]; rfl
          case measure => simp; omega
        | false =>
          go_wp2_with (go_at_call 62; refine (Tryz.strings_HasPrefix _ _ _).mono ?_; rintro e w' ⟨rfl, rfl⟩)
          go_ret
          refine ⟨ret_int ?_, below_iter _ _ _⟩
          rw [chkT_no]
          rw [← hc.out, vldFrom_bad s b pos hp]
          rw [hbad.out, ← hex.out, hq]; rfl
    · have hnx : ∀ ty, (Instr.next (.pointer (some ⟨w.heap.size, 0, none⟩)) true ty).run Tryz.prog (w.iter s pos) = _ := fun ty => run_next_end w s pos ty hp
      go_wp2
      go_ret
      refine ⟨ret_int ?_, below_iter _ _ _⟩
      rw [chkT_ok]
      rw [← hc.out, vldFrom_end s b pos hp]

theorem check1_ok (s : ByteArray) (w : World) (h : vld s = true) :
    Calls Tryz.prog 34 #[.string s] w fun e w' => e = .returned (.int .i64 0) ∧ Below w.heap.size w w' := by
  have := check1_any s w
  rw [chkT_ok h] at this; exact this
theorem check1_no (s : ByteArray) (w : World) (h : vld s = false) :
    Calls Tryz.prog 34 #[.string s] w fun e w' => e = .returned (.int .i64 5) ∧ Below w.heap.size w w' := by
  have := check1_any s w
  rw [chkT_no h] at this; exact this

theorem ret_bool {a b : Bool} (h : a = b) : Ending.returned (.bool a) = .returned (.bool b) := by rw [h]

end Go.Proofs.YtlgkbdebpnbndaaGreatDoor
