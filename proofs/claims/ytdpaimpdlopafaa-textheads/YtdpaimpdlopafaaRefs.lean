/- What the reference's Xml, Check and Head do, call by call, at every text that is not too long. -/
import Derived.Test.YtdpaimpdlopafaaXml
namespace Go.Proofs.Ytdpaimpdlopafaa
open Go.RowKit

theorem drop_all (l : List Nat) (k : Nat) (h : k < l.length) : (l.drop k).all xmlN = (xmlN l[k] && (l.drop (k + 1)).all xmlN) := by
  rw [List.drop_eq_getElem_cons h, List.all_cons]

set_option maxHeartbeats 1000000 in
set_option maxRecDepth 1000000 in
theorem refXml_some (g cap : Nat) (l : List Nat) (w : World) (hn : l.length ≤ 1000000) (hc : ∀ (j : Nat) (hj : j < l.length), w.cell? ⟨g, j, none⟩ = some (.int .i64 (l[j] : Nat))) :
    Calls Try.prog 21 #[.slice (some ⟨g, 0, none⟩) l.length cap] w fun e w' => e = .returned (.bool (l.all xmlN)) ∧ w' = w := by
  have HC := Lib.hid hc
  clear hc
  go_enter Try.func21, Try.ntmps21
  go_wp2
  go_loop [3] (fun i => ∃ k : Nat, k ≤ l.length ∧ i = .int .i64 k ∧ Hid ((l.drop k).all xmlN = l.all xmlN)) (fun i => l.length - (intOf i).toNat)
  case atStart => exact ⟨0, Nat.zero_le _, rfl, rfl⟩
  case round =>
    obtain ⟨k, hk, rfl, ha⟩ := hrel
    by_cases hlt : k < l.length
    · have hcell := HC.out k hlt
      have HS := Lib.hid (drop_all l k hlt)
      generalize l[k] = c at hcell HS
      have hsplit : (c = 9) ∨ (c = 10) ∨ (c = 13) ∨ (32 ≤ c ∧ c ≤ 55295) ∨ (57344 ≤ c ∧ c ≤ 65533) ∨ (65536 ≤ c) ∨ (c < 32 ∧ c ≠ 9 ∧ c ≠ 10 ∧ c ≠ 13) ∨ (55295 < c ∧ c < 57344) ∨ (65533 < c ∧ c < 65536) := by omega
      rcases hsplit with hq | hq | hq | hq | hq | hq | hq | hq | hq
      · have HX := Lib.hid (xmlN_yes (r := c) (by omega))
        have e9 : ((c : Int) == 9) = true := by rw [beq_iff_eq]; omega
        clear hq
        go_wp2
        go_round
        case rel => exact ⟨k + 1, by omega, by go_num, by show _ = _; rw [← ha.out, HS.out, HX.out, Bool.true_and]⟩
        case measure => simp [intOf]; omega
      · have HX := Lib.hid (xmlN_yes (r := c) (by omega))
        have e9 : ((c : Int) == 9) = false := by rw [beq_eq_false_iff_ne]; omega
        have e10 : ((c : Int) == 10) = true := by rw [beq_iff_eq]; omega
        clear hq
        go_wp2
        go_round
        case rel => exact ⟨k + 1, by omega, by go_num, by show _ = _; rw [← ha.out, HS.out, HX.out, Bool.true_and]⟩
        case measure => simp [intOf]; omega
      · have HX := Lib.hid (xmlN_yes (r := c) (by omega))
        have e9 : ((c : Int) == 9) = false := by rw [beq_eq_false_iff_ne]; omega
        have e10 : ((c : Int) == 10) = false := by rw [beq_eq_false_iff_ne]; omega
        have e13 : ((c : Int) == 13) = true := by rw [beq_iff_eq]; omega
        clear hq
        go_wp2
        go_round
        case rel => exact ⟨k + 1, by omega, by go_num, by show _ = _; rw [← ha.out, HS.out, HX.out, Bool.true_and]⟩
        case measure => simp [intOf]; omega
      · have HX := Lib.hid (xmlN_yes (r := c) (by omega))
        have e9 : ((c : Int) == 9) = false := by rw [beq_eq_false_iff_ne]; omega
        have e10 : ((c : Int) == 10) = false := by rw [beq_eq_false_iff_ne]; omega
        have e13 : ((c : Int) == 13) = false := by rw [beq_eq_false_iff_ne]; omega
        have q1 : (32 ≤ (c : Int)) := by omega
        have q2 : ((c : Int) ≤ 55295) := by omega
        clear hq
        go_wp2
        go_round
        case rel => exact ⟨k + 1, by omega, by go_num, by show _ = _; rw [← ha.out, HS.out, HX.out, Bool.true_and]⟩
        case measure => simp [intOf]; omega
      · have HX := Lib.hid (xmlN_yes (r := c) (by omega))
        have e9 : ((c : Int) == 9) = false := by rw [beq_eq_false_iff_ne]; omega
        have e10 : ((c : Int) == 10) = false := by rw [beq_eq_false_iff_ne]; omega
        have e13 : ((c : Int) == 13) = false := by rw [beq_eq_false_iff_ne]; omega
        have q1 : (32 ≤ (c : Int)) := by omega
        have q2 : ¬ ((c : Int) ≤ 55295) := by omega
        have q3 : (57344 ≤ (c : Int)) := by omega
        have q4 : ((c : Int) ≤ 65533) := by omega
        clear hq
        go_wp2
        go_round
        case rel => exact ⟨k + 1, by omega, by go_num, by show _ = _; rw [← ha.out, HS.out, HX.out, Bool.true_and]⟩
        case measure => simp [intOf]; omega
      · have HX := Lib.hid (xmlN_yes (r := c) (by omega))
        have e9 : ((c : Int) == 9) = false := by rw [beq_eq_false_iff_ne]; omega
        have e10 : ((c : Int) == 10) = false := by rw [beq_eq_false_iff_ne]; omega
        have e13 : ((c : Int) == 13) = false := by rw [beq_eq_false_iff_ne]; omega
        have q1 : (32 ≤ (c : Int)) := by omega
        have q2 : ¬ ((c : Int) ≤ 55295) := by omega
        have q3 : (57344 ≤ (c : Int)) := by omega
        have q4 : ¬ ((c : Int) ≤ 65533) := by omega
        have q5 : (65536 ≤ (c : Int)) := by omega
        clear hq
        go_wp2
        go_round
        case rel => exact ⟨k + 1, by omega, by go_num, by show _ = _; rw [← ha.out, HS.out, HX.out, Bool.true_and]⟩
        case measure => simp [intOf]; omega
      · have HX := Lib.hid (xmlN_no (r := c) (by omega))
        have e9 : ((c : Int) == 9) = false := by rw [beq_eq_false_iff_ne]; omega
        have e10 : ((c : Int) == 10) = false := by rw [beq_eq_false_iff_ne]; omega
        have e13 : ((c : Int) == 13) = false := by rw [beq_eq_false_iff_ne]; omega
        have q1 : ¬ (32 ≤ (c : Int)) := by omega
        have q3 : ¬ (57344 ≤ (c : Int)) := by omega
        have q5 : ¬ (65536 ≤ (c : Int)) := by omega
        clear hq
        go_wp2
        go_ret
        refine ⟨ret_bool (a := false) ?_, rfl⟩
        rw [← ha.out, HS.out, HX.out, Bool.false_and]
      · have HX := Lib.hid (xmlN_no (r := c) (by omega))
        have e9 : ((c : Int) == 9) = false := by rw [beq_eq_false_iff_ne]; omega
        have e10 : ((c : Int) == 10) = false := by rw [beq_eq_false_iff_ne]; omega
        have e13 : ((c : Int) == 13) = false := by rw [beq_eq_false_iff_ne]; omega
        have q1 : (32 ≤ (c : Int)) := by omega
        have q2 : ¬ ((c : Int) ≤ 55295) := by omega
        have q3 : ¬ (57344 ≤ (c : Int)) := by omega
        have q5 : ¬ (65536 ≤ (c : Int)) := by omega
        clear hq
        go_wp2
        go_ret
        refine ⟨ret_bool (a := false) ?_, rfl⟩
        rw [← ha.out, HS.out, HX.out, Bool.false_and]
      · have HX := Lib.hid (xmlN_no (r := c) (by omega))
        have e9 : ((c : Int) == 9) = false := by rw [beq_eq_false_iff_ne]; omega
        have e10 : ((c : Int) == 10) = false := by rw [beq_eq_false_iff_ne]; omega
        have e13 : ((c : Int) == 13) = false := by rw [beq_eq_false_iff_ne]; omega
        have q1 : (32 ≤ (c : Int)) := by omega
        have q2 : ¬ ((c : Int) ≤ 55295) := by omega
        have q3 : (57344 ≤ (c : Int)) := by omega
        have q4 : ¬ ((c : Int) ≤ 65533) := by omega
        have q5 : ¬ (65536 ≤ (c : Int)) := by omega
        clear hq
        go_wp2
        go_ret
        refine ⟨ret_bool (a := false) ?_, rfl⟩
        rw [← ha.out, HS.out, HX.out, Bool.false_and]
    · go_wp2
      go_ret
      refine ⟨ret_bool (a := true) ?_, rfl⟩
      rw [← ha.out, List.drop_of_length_le (by omega)]; rfl

end Go.Proofs.Ytdpaimpdlopafaa
