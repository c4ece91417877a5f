/- What text.Xml, the reference's Xml and its Check do, call by call, at every text that is not too long. -/
import Derived.Test.YtdpaimpdlopafaaRunes
namespace Go.Proofs.Ytdpaimpdlopafaa
open Go.RowKit

def xmlN (r : Nat) : Bool := decide (r = 9 ∨ r = 10 ∨ r = 13 ∨ (32 ≤ r ∧ r ≤ 55295) ∨ (57344 ≤ r ∧ r ≤ 65533) ∨ 65536 ≤ r)
def xmlB (s : ByteArray) : Bool := (runesOf s).all xmlN
def xmlE (b : Bool) : Int := if b then 0 else 1
theorem xmlN_yes {r : Nat} (h : r = 9 ∨ r = 10 ∨ r = 13 ∨ (32 ≤ r ∧ r ≤ 55295) ∨ (57344 ≤ r ∧ r ≤ 65533) ∨ 65536 ≤ r) : xmlN r = true := by simp [xmlN, h]
theorem xmlN_no {r : Nat} (h : ¬ (r = 9 ∨ r = 10 ∨ r = 13 ∨ (32 ≤ r ∧ r ≤ 55295) ∨ (57344 ≤ r ∧ r ≤ 65533) ∨ 65536 ≤ r)) : xmlN r = false := by simp only [xmlN, h, decide_false]
theorem xmlN_out {r : Nat} (h : xmlN r = true) : r = 9 ∨ r = 10 ∨ r = 13 ∨ (32 ≤ r ∧ r ≤ 55295) ∨ (57344 ≤ r ∧ r ≤ 65533) ∨ 65536 ≤ r := by simpa only [xmlN, decide_eq_true_eq] using h
theorem xmlN_out' {r : Nat} (h : xmlN r = false) : ¬ (r = 9 ∨ r = 10 ∨ r = 13 ∨ (32 ≤ r ∧ r ≤ 55295) ∨ (57344 ≤ r ∧ r ≤ 65533) ∨ 65536 ≤ r) := by simpa only [xmlN, decide_eq_false_iff_not] using h
theorem ret_bool {a b : Bool} (h : a = b) : Ending.returned (.bool a) = .returned (.bool b) := by rw [h]

set_option maxHeartbeats 1000000 in
set_option maxRecDepth 1000000 in
theorem stands_any (r : Nat) (w : World) (hr : (r : Int) ≤ 1114111) : Calls Try.prog 20 #[.int .i32 r] w fun e w' => e = .returned (.bool (xmlN r)) ∧ w' = w := by
  go_enter Try.func20, Try.ntmps20
  go_wp2
  all_goals (go_ret; refine ⟨?_, rfl⟩)
  all_goals (simp only [beq_iff_eq, beq_eq_false_iff_ne] at *)
  all_goals first
    | (refine ret_bool (a := true) (xmlN_yes ?_).symm; omega)
    | (refine ret_bool (a := false) (xmlN_no ?_).symm; omega)

theorem all_step {s : ByteArray} {b pos : Nat} (hp : pos < s.size) : (runesFrom s (b + 1) pos).all xmlN = (xmlN (Utf8.decode s pos).1 && (runesFrom s b (pos + (Utf8.decode s pos).2)).all xmlN) := by
  rw [runesFrom_step s b pos hp, List.all_cons]

set_option maxHeartbeats 1000000 in
set_option maxRecDepth 1000000 in
theorem xml_no (s : ByteArray) (w : World) (h : Hid (vld s = false)) :
    Calls Try.prog 10 #[.string s] w fun e w' => e = .returned (.int .i64 5) ∧ Below w.heap.size w w' := by
  go_enter Try.func10, Try.ntmps10
  go_wp2_with (go_at_call 9; refine (check_no s _ h.out).mono ?_; rintro e w' ⟨rfl, hb⟩)
  go_ret
  exact ⟨rfl, hb⟩

set_option maxHeartbeats 1000000 in
set_option maxRecDepth 1000000 in
theorem xml_ok (s : ByteArray) (w : World) (h : Hid (vld s = true)) :
    Calls Try.prog 10 #[.string s] w fun e w' => e = .returned (.int .i64 (xmlE (xmlB s))) ∧ Below w.heap.size w w' := by
  go_enter Try.func10, Try.ntmps10
  go_wp2_with (go_at_call 9; refine (check_ok s _ h.out).mono ?_; rintro e w1 ⟨rfl, hb1⟩)
  go_loopw [] (fun w' => ∃ (pos b : Nat), w' = w1.iter s pos ∧ Hid ((runesFrom s b pos).all xmlN = xmlB s) ∧ s.size ≤ pos + b) (fun w' => s.size - w'.iterPos w1.heap.size)
  case atStart => exact ⟨0, s.size, rfl, rfl, by omega⟩
  case round =>
    obtain ⟨pos, b, rfl, hc, hb⟩ := hrel
    by_cases hp : pos < s.size
    · have hnx : ∀ ty, (Instr.next (.pointer (some ⟨w1.heap.size, 0, none⟩)) true ty).run Try.prog (w1.iter s pos) = _ := fun ty => run_next_any w1 s pos ty hp
      have hwd := Lib.decode_width_pos s pos hp
      have hle := decode_le s pos
      obtain ⟨b, rfl⟩ : ∃ b', b = b' + 1 := ⟨b - 1, by omega⟩
      have HS := Lib.hid (all_step (b := b) hp)
      cases hx : xmlN (Utf8.decode s pos).1 with
      | true =>
        go_wp2_with (go_at_call 20; refine (stands_any _ _ (by omega)).mono ?_; rintro e w' ⟨rfl, rfl⟩)
        go_roundw
        case rel =>
          refine ⟨pos + (Utf8.decode s pos).2, b, rfl, ?_, by omega⟩
          show _ = _
          rw [← hc.out, HS.out, hx, Bool.true_and]
        case measure => simp; omega
      | false =>
        go_wp2_with (go_at_call 20; refine (stands_any _ _ (by omega)).mono ?_; rintro e w' ⟨rfl, rfl⟩)
        go_ret
        refine ⟨ret_int ?_, hb1.trans ((below_iter _ _ _).mono hb1.size)⟩
        rw [← hc.out, HS.out, hx, Bool.false_and]; rfl
    · have hnx : ∀ ty, (Instr.next (.pointer (some ⟨w1.heap.size, 0, none⟩)) true ty).run Try.prog (w1.iter s pos) = _ := fun ty => run_next_end w1 s pos ty hp
      go_wp2
      go_ret
      refine ⟨ret_int ?_, hb1.trans ((below_iter _ _ _).mono hb1.size)⟩
      rw [← hc.out, runesFrom_end s b pos hp]; rfl

end Go.Proofs.Ytdpaimpdlopafaa
