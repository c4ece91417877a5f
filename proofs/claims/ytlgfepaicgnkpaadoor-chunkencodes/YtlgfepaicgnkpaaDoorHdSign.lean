
/- Which texts are tokens and values: what Token, isValue and mayBe of package header do, and the reference's sign, Token, blank and May. -/
import Derived.Test.YtlgfepaicgnkpaaDoorTxBase
import Derived.Test.YtlgfepaicgnkpaaDoorHdBook
namespace Go.Proofs.YtlgfepaicgnkpaaDoor
set_option linter.unusedVariables false
set_option linter.unusedSimpArgs false
open Go.RowKit Go.BigFrame

/-- A header's cells. -/
def hcs (h : HdV) : Array Value := #[.string (asS h.name), .string (asS h.value)]
def MK9 : List UInt8 := [33, 35, 36, 37, 38, 39, 42, 43, 45, 46, 94, 95, 124, 126]
theorem sign_def (c : UInt8) : signH c = (letterU c || digitU c || MK9.contains c || c == 96) := rfl
theorem u8_96 (c : UInt8) : (c == 96) = decide (c.toNat = 96) := by
  by_cases h : c = 96
  · subst h; rfl
  · rw [decide_eq_false (fun e : c.toNat = 96 => h (UInt8.toNat_inj.1 e)), beq_eq_false_iff_ne]; exact h
set_option maxHeartbeats 1000000 in
theorem sign_any (c : UInt8) (w : World) : Calls Tryd.prog 94 #[.int .u8 c.toNat] w fun e w' => e = .returned (.bool (signH c)) ∧ w' = w := by
  have hc := c.toNat_lt
  have HW : Hid (∀ W, Calls Tryd.prog 105 #[.int .u8 c.toNat, .string ⟨#[33, 35, 36, 37, 38, 39, 42, 43, 45, 46, 94, 95, 124, 126]⟩] W fun e w' => e = .returned (.bool (MK9.contains c)) ∧ w' = W) := fun W => within_any c ⟨#[33, 35, 36, 37, 38, 39, 42, 43, 45, 46, 94, 95, 124, 126]⟩ (by decide) W
  have HS : Hid (signH c = (decide (97 ≤ c.toNat ∧ c.toNat ≤ 122) || decide (65 ≤ c.toNat ∧ c.toNat ≤ 90) || decide (48 ≤ c.toNat ∧ c.toNat ≤ 57) || MK9.contains c || decide (c.toNat = 96))) := by
    show _ = _
    rw [sign_def, u8_96]
    rfl
  generalize signH c = R at HS ⊢
  generalize MK9.contains c = Q at HW HS
  generalize c.toNat = n at hc HW HS ⊢
  rcases (show (97 ≤ n ∧ n ≤ 122) ∨ (65 ≤ n ∧ n ≤ 90) ∨ (48 ≤ n ∧ n ≤ 57) ∨ (n = 96) ∨ (122 < n) ∨ (90 < n ∧ n < 96) ∨ (57 < n ∧ n < 65) ∨ (n < 48) by omega) with hx | hx | hx | hx | hx | hx | hx | hx
  · have HQ : Hid (R = true) := by show _ = _; rw [HS.out, (show decide (97 ≤ n ∧ n ≤ 122) = true from decide_eq_true (by omega)), (show decide (65 ≤ n ∧ n ≤ 90) = false from decide_eq_false (by omega)), (show decide (48 ≤ n ∧ n ≤ 57) = false from decide_eq_false (by omega)), (show decide (n = 96) = false from decide_eq_false (by omega))]; cases Q <;> rfl
    have h97 : (97 : Int) ≤ (n : Int) := by omega
    have h122 : (n : Int) ≤ 122 := by omega
    have h65 : (65 : Int) ≤ (n : Int) := by omega
    have h90 : ¬ (n : Int) ≤ 90 := by omega
    have h48 : (48 : Int) ≤ (n : Int) := by omega
    have h57 : ¬ (n : Int) ≤ 57 := by omega
    have h96 : ((n : Int) == 96) = false := by rw [beq_eq_false_iff_ne]; omega
    clear hx HS
    go_enter Tryd.func94, Tryd.ntmps94
    go_wp2_with fail
    go_ret
    exact ⟨by rw [HQ.out]; rfl, rfl⟩
  · have HQ : Hid (R = true) := by show _ = _; rw [HS.out, (show decide (97 ≤ n ∧ n ≤ 122) = false from decide_eq_false (by omega)), (show decide (65 ≤ n ∧ n ≤ 90) = true from decide_eq_true (by omega)), (show decide (48 ≤ n ∧ n ≤ 57) = false from decide_eq_false (by omega)), (show decide (n = 96) = false from decide_eq_false (by omega))]; cases Q <;> rfl
    have h97 : ¬ (97 : Int) ≤ (n : Int) := by omega
    have h122 : (n : Int) ≤ 122 := by omega
    have h65 : (65 : Int) ≤ (n : Int) := by omega
    have h90 : (n : Int) ≤ 90 := by omega
    have h48 : (48 : Int) ≤ (n : Int) := by omega
    have h57 : ¬ (n : Int) ≤ 57 := by omega
    have h96 : ((n : Int) == 96) = false := by rw [beq_eq_false_iff_ne]; omega
    clear hx HS
    go_enter Tryd.func94, Tryd.ntmps94
    go_wp2_with fail
    go_ret
    exact ⟨by rw [HQ.out]; rfl, rfl⟩
  · have HQ : Hid (R = true) := by show _ = _; rw [HS.out, (show decide (97 ≤ n ∧ n ≤ 122) = false from decide_eq_false (by omega)), (show decide (65 ≤ n ∧ n ≤ 90) = false from decide_eq_false (by omega)), (show decide (48 ≤ n ∧ n ≤ 57) = true from decide_eq_true (by omega)), (show decide (n = 96) = false from decide_eq_false (by omega))]; cases Q <;> rfl
    have h97 : ¬ (97 : Int) ≤ (n : Int) := by omega
    have h122 : (n : Int) ≤ 122 := by omega
    have h65 : ¬ (65 : Int) ≤ (n : Int) := by omega
    have h90 : (n : Int) ≤ 90 := by omega
    have h48 : (48 : Int) ≤ (n : Int) := by omega
    have h57 : (n : Int) ≤ 57 := by omega
    have h96 : ((n : Int) == 96) = false := by rw [beq_eq_false_iff_ne]; omega
    clear hx HS
    go_enter Tryd.func94, Tryd.ntmps94
    go_wp2_with fail
    go_ret
    exact ⟨by rw [HQ.out]; rfl, rfl⟩
  · have HQ : Hid (R = true) := by show _ = _; rw [HS.out, (show decide (97 ≤ n ∧ n ≤ 122) = false from decide_eq_false (by omega)), (show decide (65 ≤ n ∧ n ≤ 90) = false from decide_eq_false (by omega)), (show decide (48 ≤ n ∧ n ≤ 57) = false from decide_eq_false (by omega)), (show decide (n = 96) = true from decide_eq_true (by omega))]; cases Q <;> rfl
    have h97 : ¬ (97 : Int) ≤ (n : Int) := by omega
    have h122 : (n : Int) ≤ 122 := by omega
    have h65 : (65 : Int) ≤ (n : Int) := by omega
    have h90 : ¬ (n : Int) ≤ 90 := by omega
    have h48 : (48 : Int) ≤ (n : Int) := by omega
    have h57 : ¬ (n : Int) ≤ 57 := by omega
    have h96 : (n : Int) = 96 := by omega
    clear hx HS
    clear hc
    go_enter Tryd.func94, Tryd.ntmps94
    go_wp2_with fail
    go_ret
    exact ⟨by rw [HQ.out]; rfl, rfl⟩
  · have HQ : Hid (R = Q) := by show _ = _; rw [HS.out, (show decide (97 ≤ n ∧ n ≤ 122) = false from decide_eq_false (by omega)), (show decide (65 ≤ n ∧ n ≤ 90) = false from decide_eq_false (by omega)), (show decide (48 ≤ n ∧ n ≤ 57) = false from decide_eq_false (by omega)), (show decide (n = 96) = false from decide_eq_false (by omega))]; cases Q <;> rfl
    have h97 : (97 : Int) ≤ (n : Int) := by omega
    have h122 : ¬ (n : Int) ≤ 122 := by omega
    have h65 : (65 : Int) ≤ (n : Int) := by omega
    have h90 : ¬ (n : Int) ≤ 90 := by omega
    have h48 : (48 : Int) ≤ (n : Int) := by omega
    have h57 : ¬ (n : Int) ≤ 57 := by omega
    have h96 : ((n : Int) == 96) = false := by rw [beq_eq_false_iff_ne]; omega
    clear hx HS
    go_enter Tryd.func94, Tryd.ntmps94
    go_wp2_with fail
    refine (HW.out _).mono ?_
    rintro e W ⟨rfl, rfl⟩
    cases Q
    all_goals go_wp2_with fail
    all_goals (go_ret; exact ⟨by rw [HQ.out]; rfl, rfl⟩)
  · have HQ : Hid (R = Q) := by show _ = _; rw [HS.out, (show decide (97 ≤ n ∧ n ≤ 122) = false from decide_eq_false (by omega)), (show decide (65 ≤ n ∧ n ≤ 90) = false from decide_eq_false (by omega)), (show decide (48 ≤ n ∧ n ≤ 57) = false from decide_eq_false (by omega)), (show decide (n = 96) = false from decide_eq_false (by omega))]; cases Q <;> rfl
    have h97 : ¬ (97 : Int) ≤ (n : Int) := by omega
    have h122 : (n : Int) ≤ 122 := by omega
    have h65 : (65 : Int) ≤ (n : Int) := by omega
    have h90 : ¬ (n : Int) ≤ 90 := by omega
    have h48 : (48 : Int) ≤ (n : Int) := by omega
    have h57 : ¬ (n : Int) ≤ 57 := by omega
    have h96 : ((n : Int) == 96) = false := by rw [beq_eq_false_iff_ne]; omega
    clear hx HS
    go_enter Tryd.func94, Tryd.ntmps94
    go_wp2_with fail
    refine (HW.out _).mono ?_
    rintro e W ⟨rfl, rfl⟩
    cases Q
    all_goals go_wp2_with fail
    all_goals (go_ret; exact ⟨by rw [HQ.out]; rfl, rfl⟩)
  · have HQ : Hid (R = Q) := by show _ = _; rw [HS.out, (show decide (97 ≤ n ∧ n ≤ 122) = false from decide_eq_false (by omega)), (show decide (65 ≤ n ∧ n ≤ 90) = false from decide_eq_false (by omega)), (show decide (48 ≤ n ∧ n ≤ 57) = false from decide_eq_false (by omega)), (show decide (n = 96) = false from decide_eq_false (by omega))]; cases Q <;> rfl
    have h97 : ¬ (97 : Int) ≤ (n : Int) := by omega
    have h122 : (n : Int) ≤ 122 := by omega
    have h65 : ¬ (65 : Int) ≤ (n : Int) := by omega
    have h90 : (n : Int) ≤ 90 := by omega
    have h48 : (48 : Int) ≤ (n : Int) := by omega
    have h57 : ¬ (n : Int) ≤ 57 := by omega
    have h96 : ((n : Int) == 96) = false := by rw [beq_eq_false_iff_ne]; omega
    clear hx HS
    go_enter Tryd.func94, Tryd.ntmps94
    go_wp2_with fail
    refine (HW.out _).mono ?_
    rintro e W ⟨rfl, rfl⟩
    cases Q
    all_goals go_wp2_with fail
    all_goals (go_ret; exact ⟨by rw [HQ.out]; rfl, rfl⟩)
  · have HQ : Hid (R = Q) := by show _ = _; rw [HS.out, (show decide (97 ≤ n ∧ n ≤ 122) = false from decide_eq_false (by omega)), (show decide (65 ≤ n ∧ n ≤ 90) = false from decide_eq_false (by omega)), (show decide (48 ≤ n ∧ n ≤ 57) = false from decide_eq_false (by omega)), (show decide (n = 96) = false from decide_eq_false (by omega))]; cases Q <;> rfl
    have h97 : ¬ (97 : Int) ≤ (n : Int) := by omega
    have h122 : (n : Int) ≤ 122 := by omega
    have h65 : ¬ (65 : Int) ≤ (n : Int) := by omega
    have h90 : (n : Int) ≤ 90 := by omega
    have h48 : ¬ (48 : Int) ≤ (n : Int) := by omega
    have h57 : (n : Int) ≤ 57 := by omega
    have h96 : ((n : Int) == 96) = false := by rw [beq_eq_false_iff_ne]; omega
    clear hx HS
    go_enter Tryd.func94, Tryd.ntmps94
    go_wp2_with fail
    refine (HW.out _).mono ?_
    rintro e W ⟨rfl, rfl⟩
    cases Q
    all_goals go_wp2_with fail
    all_goals (go_ret; exact ⟨by rw [HQ.out]; rfl, rfl⟩)
end Go.Proofs.YtlgfepaicgnkpaaDoor
