
/- Signs, tokens, values and headers that may be: what the small functions of headers do. -/
import Derived.Test.YtclonnpglikddaaGreatDoorTxBase
import Derived.Test.YtclonnpglikddaaGreatDoorHtPlain
namespace Go.Proofs.YtclonnpglikddaaGreatDoor
set_option linter.unusedVariables false
set_option linter.unusedSimpArgs false
open Go.RowKit Go.BigFrame

/-- A header's cells. -/
def hcs (h : HdV) : Array Value := #[.string (asS h.name), .string (asS h.value)]
def MK9 : List UInt8 := [33, 35, 36, 37, 38, 39, 42, 43, 45, 46, 94, 95, 124, 126]
theorem sign_def (c : UInt8) : signH c = (letterU c || digitU c || MK9.contains c || c == 96) := rfl
theorem u8_96 (c : UInt8) : (c == 96) = decide (c.toNat = 96) := by
  by_cases h : c = 96
  · subst h; rfl
  · rw [decide_eq_false (fun e : c.toNat = 96 => h (UInt8.toNat_inj.1 e)), beq_eq_false_iff_ne]; exact h
set_option maxHeartbeats 1000000 in
theorem sign_any (c : UInt8) (w : World) : Calls Tryz.prog 55 #[.int .u8 c.toNat] w fun e w' => e = .returned (.bool (signH c)) ∧ w' = w := by
  have hc := c.toNat_lt
  have HW : Hid (∀ W, Calls Tryz.prog 84 #[.int .u8 c.toNat, .string ⟨#[33, 35, 36, 37, 38, 39, 42, 43, 45, 46, 94, 95, 124, 126]⟩] W fun e w' => e = .returned (.bool (MK9.contains c)) ∧ w' = W) := fun W => within_any c ⟨#[33, 35, 36, 37, 38, 39, 42, 43, 45, 46, 94, 95, 124, 126]⟩ (by decide) W
  have HS : Hid (signH c = (decide (97 ≤ c.toNat ∧ c.toNat ≤ 122) || decide (65 ≤ c.toNat ∧ c.toNat ≤ 90) || decide (48 ≤ c.toNat ∧ c.toNat ≤ 57) || MK9.contains c || decide (c.toNat = 96))) := by
    show _ = _
    rw [sign_def, u8_96]
    rfl
  generalize signH c = R at HS ⊢
  generalize MK9.contains c = Q at HW HS
  generalize c.toNat = n at hc HW HS ⊢
  rcases (show (97 ≤ n ∧ n ≤ 122) ∨ (65 ≤ n ∧ n ≤ 90) ∨ (48 ≤ n ∧ n ≤ 57) ∨ (n = 96) ∨ (122 < n) ∨ (90 < n ∧ n < 96) ∨ (57 < n ∧ n < 65) ∨ (n < 48) by omega) with hx | hx | hx | hx | hx | hx | hx | hx
  · have HQ : Hid (R = true) := by show _ = _; rw [HS.out, (show decide (97 ≤ n ∧ n ≤ 122) = true from decide_eq_true (by omega)), (show decide (65 ≤ n ∧ n ≤ 90) = false from decide_eq_false (by omega)), (show decide (48 ≤ n ∧ n ≤ 57) = false from decide_eq_false (by omega)), (show decide (n = 96) = false from decide_eq_false (by omega))]; cases Q <;> rfl
    have h97 : (97 : Int) ≤ (n : Int) := by omega
    have h122 : (n : Int) ≤ 122 := by omega
    have h65 : (65 : Int) ≤ (n : Int) := by omega
    have h90 : ¬ (n : Int) ≤ 90 := by omega
    have h48 : (48 : Int) ≤ (n : Int) := by omega
    have h57 : ¬ (n : Int) ≤ 57 := by omega
    have h96 : ((n : Int) == 96) = false := by rw [beq_eq_false_iff_ne]; omega
    clear hx HS
    go_enter Tryz.func55, Tryz.ntmps55
    go_wp2_with fail
    go_ret
    exact ⟨by rw [HQ.out]; rfl, rfl⟩
  · have HQ : Hid (R = true) := by show _ = _; rw [HS.out, (show decide (97 ≤ n ∧ n ≤ 122) = false from decide_eq_false (by omega)), (show decide (65 ≤ n ∧ n ≤ 90) = true from decide_eq_true (by omega)), (show decide (48 ≤ n ∧ n ≤ 57) = false from decide_eq_false (by omega)), (show decide (n = 96) = false from decide_eq_false (by omega))]; cases Q <;> rfl
    have h97 : ¬ (97 : Int) ≤ (n : Int) := by omega
    have h122 : (n : Int) ≤ 122 := by omega
    have h65 : (65 : Int) ≤ (n : Int) := by omega
    have h90 : (n : Int) ≤ 90 := by omega
    have h48 : (48 : Int) ≤ (n : Int) := by omega
    have h57 : ¬ (n : Int) ≤ 57 := by omega
    have h96 : ((n : Int) == 96) = false := by rw [beq_eq_false_iff_ne]; omega
    clear hx HS
    go_enter Tryz.func55, Tryz.ntmps55
    go_wp2_with fail
    go_ret
    exact ⟨by rw [HQ.out]; rfl, rfl⟩
  · have HQ : Hid (R = true) := by show _ = _; rw [HS.out, (show decide (97 ≤ n ∧ n ≤ 122) = false from decide_eq_false (by omega)), (show decide (65 ≤ n ∧ n ≤ 90) = false from decide_eq_false (by omega)), (show decide (48 ≤ n ∧ n ≤ 57) = true from decide_eq_true (by omega)), (show decide (n = 96) = false from decide_eq_false (by omega))]; cases Q <;> rfl
    have h97 : ¬ (97 : Int) ≤ (n : Int) := by omega
    have h122 : (n : Int) ≤ 122 := by omega
    have h65 : ¬ (65 : Int) ≤ (n : Int) := by omega
    have h90 : (n : Int) ≤ 90 := by omega
    have h48 : (48 : Int) ≤ (n : Int) := by omega
    have h57 : (n : Int) ≤ 57 := by omega
    have h96 : ((n : Int) == 96) = false := by rw [beq_eq_false_iff_ne]; omega
    clear hx HS
    go_enter Tryz.func55, Tryz.ntmps55
    go_wp2_with fail
    go_ret
    exact ⟨by rw [HQ.out]; rfl, rfl⟩
  · have HQ : Hid (R = true) := by show _ = _; rw [HS.out, (show decide (97 ≤ n ∧ n ≤ 122) = false from decide_eq_false (by omega)), (show decide (65 ≤ n ∧ n ≤ 90) = false from decide_eq_false (by omega)), (show decide (48 ≤ n ∧ n ≤ 57) = false from decide_eq_false (by omega)), (show decide (n = 96) = true from decide_eq_true (by omega))]; cases Q <;> rfl
    have h97 : ¬ (97 : Int) ≤ (n : Int) := by omega
    have h122 : (n : Int) ≤ 122 := by omega
    have h65 : (65 : Int) ≤ (n : Int) := by omega
    have h90 : ¬ (n : Int) ≤ 90 := by omega
    have h48 : (48 : Int) ≤ (n : Int) := by omega
    have h57 : ¬ (n : Int) ≤ 57 := by omega
    have h96 : (n : Int) = 96 := by omega
    clear hx HS
    clear hc
    go_enter Tryz.func55, Tryz.ntmps55
    go_wp2_with fail
    go_ret
    exact ⟨by rw [HQ.out]; rfl, rfl⟩
  · have HQ : Hid (R = Q) := by show _ = _; rw [HS.out, (show decide (97 ≤ n ∧ n ≤ 122) = false from decide_eq_false (by omega)), (show decide (65 ≤ n ∧ n ≤ 90) = false from decide_eq_false (by omega)), (show decide (48 ≤ n ∧ n ≤ 57) = false from decide_eq_false (by omega)), (show decide (n = 96) = false from decide_eq_false (by omega))]; cases Q <;> rfl
    have h97 : (97 : Int) ≤ (n : Int) := by omega
    have h122 : ¬ (n : Int) ≤ 122 := by omega
    have h65 : (65 : Int) ≤ (n : Int) := by omega
    have h90 : ¬ (n : Int) ≤ 90 := by omega
    have h48 : (48 : Int) ≤ (n : Int) := by omega
    have h57 : ¬ (n : Int) ≤ 57 := by omega
    have h96 : ((n : Int) == 96) = false := by rw [beq_eq_false_iff_ne]; omega
    clear hx HS
    go_enter Tryz.func55, Tryz.ntmps55
    go_wp2_with fail
    refine (HW.out _).mono ?_
    rintro e W ⟨rfl, rfl⟩
    cases Q
    all_goals go_wp2_with fail
    all_goals (go_ret; exact ⟨by rw [HQ.out]; rfl, rfl⟩)
  · have HQ : Hid (R = Q) := by show _ = _; rw [HS.out, (show decide (97 ≤ n ∧ n ≤ 122) = false from decide_eq_false (by omega)), (show decide (65 ≤ n ∧ n ≤ 90) = false from decide_eq_false (by omega)), (show decide (48 ≤ n ∧ n ≤ 57) = false from decide_eq_false (by omega)), (show decide (n = 96) = false from decide_eq_false (by omega))]; cases Q <;> rfl
    have h97 : ¬ (97 : Int) ≤ (n : Int) := by omega
    have h122 : (n : Int) ≤ 122 := by omega
    have h65 : (65 : Int) ≤ (n : Int) := by omega
    have h90 : ¬ (n : Int) ≤ 90 := by omega
    have h48 : (48 : Int) ≤ (n : Int) := by omega
    have h57 : ¬ (n : Int) ≤ 57 := by omega
    have h96 : ((n : Int) == 96) = false := by rw [beq_eq_false_iff_ne]; omega
    clear hx HS
    go_enter Tryz.func55, Tryz.ntmps55
    go_wp2_with fail
    refine (HW.out _).mono ?_
    rintro e W ⟨rfl, rfl⟩
    cases Q
    all_goals go_wp2_with fail
    all_goals (go_ret; exact ⟨by rw [HQ.out]; rfl, rfl⟩)
  · have HQ : Hid (R = Q) := by show _ = _; rw [HS.out, (show decide (97 ≤ n ∧ n ≤ 122) = false from decide_eq_false (by omega)), (show decide (65 ≤ n ∧ n ≤ 90) = false from decide_eq_false (by omega)), (show decide (48 ≤ n ∧ n ≤ 57) = false from decide_eq_false (by omega)), (show decide (n = 96) = false from decide_eq_false (by omega))]; cases Q <;> rfl
    have h97 : ¬ (97 : Int) ≤ (n : Int) := by omega
    have h122 : (n : Int) ≤ 122 := by omega
    have h65 : ¬ (65 : Int) ≤ (n : Int) := by omega
    have h90 : (n : Int) ≤ 90 := by omega
    have h48 : (48 : Int) ≤ (n : Int) := by omega
    have h57 : ¬ (n : Int) ≤ 57 := by omega
    have h96 : ((n : Int) == 96) = false := by rw [beq_eq_false_iff_ne]; omega
    clear hx HS
    go_enter Tryz.func55, Tryz.ntmps55
    go_wp2_with fail
    refine (HW.out _).mono ?_
    rintro e W ⟨rfl, rfl⟩
    cases Q
    all_goals go_wp2_with fail
    all_goals (go_ret; exact ⟨by rw [HQ.out]; rfl, rfl⟩)
  · have HQ : Hid (R = Q) := by show _ = _; rw [HS.out, (show decide (97 ≤ n ∧ n ≤ 122) = false from decide_eq_false (by omega)), (show decide (65 ≤ n ∧ n ≤ 90) = false from decide_eq_false (by omega)), (show decide (48 ≤ n ∧ n ≤ 57) = false from decide_eq_false (by omega)), (show decide (n = 96) = false from decide_eq_false (by omega))]; cases Q <;> rfl
    have h97 : ¬ (97 : Int) ≤ (n : Int) := by omega
    have h122 : (n : Int) ≤ 122 := by omega
    have h65 : ¬ (65 : Int) ≤ (n : Int) := by omega
    have h90 : (n : Int) ≤ 90 := by omega
    have h48 : ¬ (48 : Int) ≤ (n : Int) := by omega
    have h57 : (n : Int) ≤ 57 := by omega
    have h96 : ((n : Int) == 96) = false := by rw [beq_eq_false_iff_ne]; omega
    clear hx HS
    go_enter Tryz.func55, Tryz.ntmps55
    go_wp2_with fail
    refine (HW.out _).mono ?_
    rintro e W ⟨rfl, rfl⟩
    cases Q
    all_goals go_wp2_with fail
    all_goals (go_ret; exact ⟨by rw [HQ.out]; rfl, rfl⟩)
end Go.Proofs.YtclonnpglikddaaGreatDoor
namespace Go.Proofs.YtclonnpglikddaaGreatDoor
set_option linter.unusedVariables false
set_option linter.unusedSimpArgs false
open Go.RowKit Go.BigFrame

def TOK9 : List UInt8 := [65, 66, 67, 68, 69, 70, 71, 72, 73, 74, 75, 76, 77, 78, 79, 80, 81, 82, 83, 84, 85, 86, 87, 88, 89, 90, 97, 98, 99, 100, 101, 102, 103, 104, 105, 106, 107, 108, 109, 110, 111, 112, 113, 114, 115, 116, 117, 118, 119, 120, 121, 122, 48, 49, 50, 51, 52, 53, 54, 55, 56, 57, 33, 35, 36, 37, 38, 39, 42, 43, 45, 46, 94, 95, 96, 124, 126]
theorem tok_fin : ∀ n : Fin 256, TOK9.contains (UInt8.ofNat n.val) = signH (UInt8.ofNat n.val) := by decide +kernel
theorem tok_sign (c : UInt8) : TOK9.contains c = signH c := by
  have := tok_fin ⟨c.toNat, c.toNat_lt⟩
  simpa only [UInt8.ofNat_toNat] using this
theorem tok_ix (c : UInt8) (w : World) : Calls Tryz.prog 58 #[.string ⟨#[65, 66, 67, 68, 69, 70, 71, 72, 73, 74, 75, 76, 77, 78, 79, 80, 81, 82, 83, 84, 85, 86, 87, 88, 89, 90, 97, 98, 99, 100, 101, 102, 103, 104, 105, 106, 107, 108, 109, 110, 111, 112, 113, 114, 115, 116, 117, 118, 119, 120, 121, 122, 48, 49, 50, 51, 52, 53, 54, 55, 56, 57, 33, 35, 36, 37, 38, 39, 42, 43, 45, 46, 94, 95, 96, 124, 126]⟩, .int .u8 c.toNat] w fun e w' => e = .returned (.int .i64 (Lib.indexByte TOK9 c)) ∧ w' = w := by
  have := Tryz.strings_IndexByte ⟨#[65, 66, 67, 68, 69, 70, 71, 72, 73, 74, 75, 76, 77, 78, 79, 80, 81, 82, 83, 84, 85, 86, 87, 88, 89, 90, 97, 98, 99, 100, 101, 102, 103, 104, 105, 106, 107, 108, 109, 110, 111, 112, 113, 114, 115, 116, 117, 118, 119, 120, 121, 122, 48, 49, 50, 51, 52, 53, 54, 55, 56, 57, 33, 35, 36, 37, 38, 39, 42, 43, 45, 46, 94, 95, 96, 124, 126]⟩ c.toNat w
  rw [show ((c.toNat : Int)).toNat.toUInt8 = c from by rw [Int.toNat_natCast]; simp] at this
  exact this
theorem tok_lt (c : UInt8) : decide (Lib.indexByte TOK9 c < 0) = !signH c := by
  rw [← tok_sign, ← indexB_mem]
  by_cases h : 0 ≤ Lib.indexByte TOK9 c
  · rw [decide_eq_true h, decide_eq_false (by omega)]; rfl
  · rw [decide_eq_false h, decide_eq_true (by omega)]; rfl
theorem all_of (p : UInt8 → Bool) (l : List UInt8) (k : Nat) (hk : l.length ≤ k) (h : ∀ j, j < k → p (l.getD j 0) = true) : l.all p = true := by
  rw [List.all_eq_true]
  intro x hx
  obtain ⟨j, hj, e⟩ := List.getElem_of_mem hx
  have := h j (by omega)
  rwa [List.getD_eq_getElem?_getD, List.getElem?_eq_getElem hj, Option.getD_some, e] at this
theorem not_all (p : UInt8 → Bool) (l : List UInt8) (k : Nat) (hk : k < l.length) (h : p (l.getD k 0) = false) : l.all p = false := by
  cases ha : l.all p with
  | false => rfl
  | true =>
    rw [List.all_eq_true] at ha
    have := ha (l.getD k 0) (by rw [List.getD_eq_getElem?_getD, List.getElem?_eq_getElem hk]; exact List.getElem_mem hk)
    rw [h] at this; cases this
theorem step_all (p : UInt8 → Bool) (l : List UInt8) (k : Nat) (h : ∀ j, j < k → p (l.getD j 0) = true) (hk : p (l.getD k 0) = true) : ∀ j, j < k + 1 → p (l.getD j 0) = true := fun j hj => by
  rcases Nat.lt_succ_iff_lt_or_eq.1 hj with h1 | rfl
  · exact h j h1
  · exact hk
set_option maxHeartbeats 1000000 in
set_option maxRecDepth 100000 in
theorem token_any (l : List UInt8) (hl : l.length ≤ 1000000000) (w : World) : Calls Tryz.prog 31 #[.string (asS l)] w fun e w' => e = .returned (.bool (tokenH l)) ∧ w' = w := by
  have HIX := hid (fun k h W => str_ix (asS l) k h W)
  have HLN : Hid ((asS l).size = l.length) := asS_size l
  have HE := emp8 l
  have HT : Hid (tokenH l = (l.all signH && !l.isEmpty)) := rfl
  have hsz : (asS l).size ≤ 1000000000 := by rw [asS_size]; exact hl
  rw [asS_data] at HIX
  generalize tokenH l = R at HT ⊢
  generalize asS l = S at HIX HLN HE hsz ⊢
  go_enter Tryz.func31, Tryz.ntmps31
  go_wp2_with fail
  go_loop [6] (fun i => ∃ k : Nat, k ≤ S.size ∧ i = .int .i64 (k : Int) ∧ Hid (∀ j, j < k → signH (l.getD j 0) = true)) (fun i => S.size - (intOf i).toNat)
  case atStart => exact ⟨0, Nat.zero_le _, rfl, fun j hj => by omega⟩
  case round =>
    obtain ⟨k, hk, rfl, HP⟩ := hrel
    by_cases hlt : k < S.size
    · have hi : (k : Int) < (S.size : Int) := by omega
      have hix := HIX.out k hlt
      generalize hx : l.getD k 0 = x at hix
      have HC := hid (fun W => tok_ix x W)
      have hlt0 := tok_lt x
      generalize Lib.indexByte TOK9 x = K at HC hlt0
      cases hs : signH x with
      | true =>
        have HX : Hid (signH (l.getD k 0) = true) := by show _ = _; rw [hx]; exact hs
        rw [hs] at hlt0
        clear hx hs
        go_wp2_with fail
        refine (HC.out _).mono ?_
        rintro e W ⟨rfl, rfl⟩
        go_wp2_with fail
        go_round
        case rel => exact ⟨k + 1, by omega, by go_num, step_all signH l k HP.out HX.out⟩
        case measure => simp [intOf]; omega
      | false =>
        have HX : Hid (R = false) := by
          show _ = _
          rw [HT.out, not_all signH l k (by rw [← HLN.out]; exact hlt) (by rw [hx]; exact hs)]
          rfl
        rw [hs] at hlt0
        clear hx hs
        go_wp2_with fail
        refine (HC.out _).mono ?_
        rintro e W ⟨rfl, rfl⟩
        go_wp2_with fail
        go_ret
        exact ⟨by rw [HX.out]; rfl, rfl⟩
    · have hi : ¬ (k : Int) < (S.size : Int) := by omega
      have HR : Hid (R = !decide (l = [])) := by
        show _ = _
        rw [HT.out, all_of signH l k (by rw [← HLN.out]; omega) HP.out]
        cases l <;> rfl
      clear HT
      generalize decide (l = []) = Z at HE HR
      cases Z
      all_goals go_wp2_with fail
      all_goals (go_ret; exact ⟨by rw [HR.out]; rfl, rfl⟩)
set_option maxHeartbeats 1000000 in
set_option maxRecDepth 100000 in
theorem refToken_any (l : List UInt8) (hl : l.length ≤ 1000000000) (w : World) : Calls Tryz.prog 28 #[.string (asS l)] w fun e w' => e = .returned (.bool (tokenH l)) ∧ w' = w := by
  have HIX := hid (fun k h W => str_ix (asS l) k h W)
  have HLN : Hid ((asS l).size = l.length) := asS_size l
  have HE := emp8 l
  have HT : Hid (tokenH l = (l.all signH && !l.isEmpty)) := rfl
  have hsz : (asS l).size ≤ 1000000000 := by rw [asS_size]; exact hl
  rw [asS_data] at HIX
  generalize tokenH l = R at HT ⊢
  generalize asS l = S at HIX HLN HE hsz ⊢
  go_enter Tryz.func28, Tryz.ntmps28
  go_wp2_with fail
  go_loop [3] (fun i => ∃ k : Nat, k ≤ S.size ∧ i = .int .i64 (k : Int) ∧ Hid (∀ j, j < k → signH (l.getD j 0) = true)) (fun i => S.size - (intOf i).toNat)
  case atStart => exact ⟨0, Nat.zero_le _, rfl, fun j hj => by omega⟩
  case round =>
    obtain ⟨k, hk, rfl, HP⟩ := hrel
    by_cases hlt : k < S.size
    · have hi : (k : Int) < (S.size : Int) := by omega
      have hix := HIX.out k hlt
      generalize hx : l.getD k 0 = x at hix
      have HC := hid (fun W => sign_any x W)

      cases hs : signH x with
      | true =>
        have HX : Hid (signH (l.getD k 0) = true) := by show _ = _; rw [hx]; exact hs
        rw [hs] at HC
        clear hx hs
        go_wp2_with fail
        refine (HC.out _).mono ?_
        rintro e W ⟨rfl, rfl⟩
        go_wp2_with fail
        go_round
        case rel => exact ⟨k + 1, by omega, by go_num, step_all signH l k HP.out HX.out⟩
        case measure => simp [intOf]; omega
      | false =>
        have HX : Hid (R = false) := by
          show _ = _
          rw [HT.out, not_all signH l k (by rw [← HLN.out]; exact hlt) (by rw [hx]; exact hs)]
          rfl
        rw [hs] at HC
        clear hx hs
        go_wp2_with fail
        refine (HC.out _).mono ?_
        rintro e W ⟨rfl, rfl⟩
        go_wp2_with fail
        go_ret
        exact ⟨by rw [HX.out]; rfl, rfl⟩
    · have hi : ¬ (k : Int) < (S.size : Int) := by omega
      have HR : Hid (R = !decide (l = [])) := by
        show _ = _
        rw [HT.out, all_of signH l k (by rw [← HLN.out]; omega) HP.out]
        cases l <;> rfl
      clear HT
      generalize decide (l = []) = Z at HE HR
      cases Z
      all_goals go_wp2_with fail
      all_goals (go_ret; exact ⟨by rw [HR.out]; rfl, rfl⟩)
end Go.Proofs.YtclonnpglikddaaGreatDoor
namespace Go.Proofs.YtclonnpglikddaaGreatDoor
set_option linter.unusedVariables false
set_option linter.unusedSimpArgs false
open Go.RowKit Go.BigFrame

theorem tl_two (x y : List UInt8) : ((asS x).toList == (asS y).toList) = decide (x = y) := by
  rw [show (asS y).toList = y from by rw [ByteArray.toList_eq]; rfl]
  exact tl_eq x y
theorem u8_beq (x : UInt8) (n : Nat) (hn : n < 256) : ((x.toNat : Int) == (n : Int)) = (x == UInt8.ofNat n) := by
  by_cases h : x = UInt8.ofNat n
  · subst h
    have : (UInt8.ofNat n).toNat = n := by simp; omega
    rw [this]; simp
  · have : ¬ x.toNat = n := fun e => h (UInt8.toNat_inj.1 (by rw [e]; simp; omega))
    rw [beq_eq_false_iff_ne.2 h, beq_eq_false_iff_ne]
    omega
theorem trim9_any (l : List UInt8) (hl : l.length ≤ 1000000000) (w : World) : Calls Tryz.prog 94 #[.string (asS l), .string ⟨#[32, 9]⟩] w fun e w' => e = .returned (.string (asS (trimH l))) ∧ Below w.heap.size w w' := by
  have := Tryz.strings_Trim_laid (asS l) ⟨#[32, 9]⟩ w (by rw [asS_size]; omega) (by decide) (ascii_of_all (by decide))
  rw [show (⟨(Lib.trimS (asS l).data.toList (⟨#[32, 9]⟩ : ByteArray).data.toList).toArray⟩ : ByteArray) = asS (trimH l) from by rw [← trim_lib]; rfl] at this
  exact this
theorem blank_any (c : UInt8) (w : World) : Calls Tryz.prog 101 #[.int .u8 c.toNat] w fun e w' => e = .returned (.bool (blankH c)) ∧ w' = w := by
  have h1 : ((c.toNat : Int) == 32) = (c == 32) := u8_beq c 32 (by decide)
  have h2 : ((c.toNat : Int) == 9) = (c == 9) := u8_beq c 9 (by decide)
  have HB : Hid (blankH c = (c == 32 || c == 9)) := rfl
  generalize blankH c = R at HB ⊢
  generalize (c == 32) = x at h1 HB
  generalize (c == 9) = y at h2 HB
  cases x
  · cases y
    · go_enter Tryz.func101, Tryz.ntmps101
      go_wp2_with fail
      go_ret
      exact ⟨by rw [HB.out]; rfl, rfl⟩
    · go_enter Tryz.func101, Tryz.ntmps101
      go_wp2_with fail
      go_ret
      exact ⟨by rw [HB.out]; rfl, rfl⟩
  · go_enter Tryz.func101, Tryz.ntmps101
    go_wp2_with fail
    go_ret
    exact ⟨by rw [HB.out]; rfl, rfl⟩
def okH (c : UInt8) : Bool := !badH c
theorem value_def (v : List UInt8) : valueH v = (v.all okH && decide (v = trimH v)) := by
  rw [trim_iff, ← Bool.and_assoc]; rfl
theorem ok_cases (x : UInt8) : (okH x = false ∧ (((x.toNat : Int) < 32 ∧ ((x.toNat : Int) == 9) = false) ∨ (¬ (x.toNat : Int) < 32 ∧ ((x.toNat : Int) == 127) = true))) ∨ (okH x = true ∧ (((x.toNat : Int) < 32 ∧ ((x.toNat : Int) == 9) = true ∧ ((x.toNat : Int) == 127) = false) ∨ (¬ (x.toNat : Int) < 32 ∧ ((x.toNat : Int) == 127) = false))) := by
  have h1 : ((x.toNat : Int) == 127) = (x == 127) := u8_beq x 127 (by decide)
  have h2 : ((x.toNat : Int) == 9) = (x == 9) := u8_beq x 9 (by decide)
  have e : okH x = !(x == 127 || (decide (x.toNat < 32) && !(x == 9))) := rfl
  rw [e, h1, h2]
  by_cases h : x.toNat < 32
  · have h3 : (x == 127) = false := by rw [beq_eq_false_iff_ne]; rintro rfl; revert h; decide
    have hi : (x.toNat : Int) < 32 := by omega
    rw [decide_eq_true h, h3]
    cases x == 9
    · exact .inl ⟨rfl, .inl ⟨hi, rfl⟩⟩
    · exact .inr ⟨rfl, .inl ⟨hi, rfl, rfl⟩⟩
  · have hi : ¬ (x.toNat : Int) < 32 := by omega
    rw [decide_eq_false h]
    cases x == 127
    · exact .inr ⟨rfl, .inr ⟨hi, rfl⟩⟩
    · exact .inl ⟨rfl, .inr ⟨hi, rfl⟩⟩
set_option maxHeartbeats 1000000 in
set_option maxRecDepth 100000 in
theorem isValue_any (l : List UInt8) (hl : l.length ≤ 1000000000) (w : World) : Calls Tryz.prog 88 #[.string (asS l)] w fun e w' => e = .returned (.bool (valueH l)) ∧ Below w.heap.size w w' := by
  have HIX := hid (fun k h W => str_ix (asS l) k h W)
  have HLN : Hid ((asS l).size = l.length) := asS_size l
  have HTR := hid (fun W => trim9_any l hl W)
  have HE := tl_two l (trimH l)
  have HT := hid (value_def l)
  have hsz : (asS l).size ≤ 1000000000 := by rw [asS_size]; exact hl
  rw [asS_data] at HIX
  generalize valueH l = R at HT ⊢
  generalize asS l = S at HIX HLN HE hsz HTR ⊢
  generalize asS (trimH l) = TR at HE HTR
  go_enter Tryz.func88, Tryz.ntmps88
  go_wp2_with fail
  go_loop [7] (fun i => ∃ k : Nat, k ≤ S.size ∧ i = .int .i64 (k : Int) ∧ Hid (∀ j, j < k → okH (l.getD j 0) = true)) (fun i => S.size - (intOf i).toNat)
  case atStart => exact ⟨0, Nat.zero_le _, rfl, fun j hj => by omega⟩
  case round =>
    obtain ⟨k, hk, rfl, HP⟩ := hrel
    by_cases hlt : k < S.size
    · have hi : (k : Int) < (S.size : Int) := by omega
      have hix := HIX.out k hlt
      generalize hx : l.getD k 0 = x at hix
      rcases ok_cases x with ⟨ho, hc⟩ | ⟨ho, hc⟩
      · have HX : Hid (R = false) := by
          show _ = _
          rw [HT.out, not_all okH l k (by rw [← HLN.out]; exact hlt) (by rw [hx]; exact ho)]
          rfl
        clear hx ho HE
        rcases hc with ⟨h1, h2⟩ | ⟨h1, h2⟩
        · have h4 : ((x.toNat : Int) != 9) = true := by rw [bne, h2]; rfl
          go_wp2_with fail
          go_ret
          exact ⟨by rw [HX.out]; rfl, Below.refl _ _⟩
        · go_wp2_with fail
          go_ret
          exact ⟨by rw [HX.out]; rfl, Below.refl _ _⟩
      · have HX : Hid (okH (l.getD k 0) = true) := by show _ = _; rw [hx]; exact ho
        clear hx ho HE
        rcases hc with ⟨h1, h2, h3⟩ | ⟨h1, h2⟩
        · have h4 : ((x.toNat : Int) != 9) = false := by rw [bne, h2]; rfl
          go_wp2_with fail
          go_round
          case rel => exact ⟨k + 1, by omega, by go_num, step_all okH l k HP.out HX.out⟩
          case measure => simp [intOf]; omega
        · go_wp2_with fail
          go_round
          case rel => exact ⟨k + 1, by omega, by go_num, step_all okH l k HP.out HX.out⟩
          case measure => simp [intOf]; omega
    · have hi : ¬ (k : Int) < (S.size : Int) := by omega
      have HR : Hid (R = decide (l = trimH l)) := by
        show _ = _
        rw [HT.out, all_of okH l k (by rw [← HLN.out]; omega) HP.out]
        rfl
      clear HT
      generalize decide (l = trimH l) = Z at HE HR
      go_wp2_with fail
      refine (HTR.out _).mono ?_
      rintro e W ⟨rfl, hb⟩
      have HB := hid hb
      clear hb
      go_wp2_with fail
      go_ret
      exact ⟨by rw [HR.out]; rfl, HB.out⟩
theorem may_def (h : HdV) : mayH h = (valueH h.value && tokenH h.name) := rfl
set_option maxHeartbeats 1000000 in
set_option maxRecDepth 100000 in
theorem mayBe_any (h : HdV) (h1 : h.name.length ≤ 1000000000) (h2 : h.value.length ≤ 1000000000) (w : World) : Calls Tryz.prog 61 #[.agg (hcs h)] w fun e w' => e = .returned (.bool (mayH h)) ∧ Below w.heap.size w w' := by
  have HT := hid (fun W => token_any h.name h1 W)
  have HV := hid (fun W => isValue_any h.value h2 W)
  have HM := hid (may_def h)
  unfold hcs
  generalize mayH h = R at HM ⊢
  generalize asS h.name = N at HT ⊢
  generalize asS h.value = V at HV ⊢
  generalize tokenH h.name = t at HT HM
  generalize valueH h.value = v at HV HM
  cases t
  · go_enter Tryz.func61, Tryz.ntmps61
    go_wp2_with fail
    refine (HT.out _).mono ?_
    rintro e W ⟨rfl, rfl⟩
    go_wp2_with fail
    go_ret
    exact ⟨by rw [HM.out]; cases v <;> rfl, alloc_below (Below.refl _ _) (Nat.le_refl _) _⟩
  · go_enter Tryz.func61, Tryz.ntmps61
    go_wp2_with fail
    refine (HT.out _).mono ?_
    rintro e W ⟨rfl, rfl⟩
    go_wp2_with fail
    refine (HV.out _).mono ?_
    rintro e W ⟨rfl, hb⟩
    have HB := hid ((alloc_below (Below.refl _ w) (Nat.le_refl _) _).trans (hb.mono (by simp)))
    clear hb
    go_wp2_with fail
    go_ret
    exact ⟨by rw [HM.out]; cases v <;> rfl, HB.out⟩
end Go.Proofs.YtclonnpglikddaaGreatDoor
namespace Go.Proofs.YtclonnpglikddaaGreatDoor
set_option linter.unusedVariables false
set_option linter.unusedSimpArgs false
open Go.RowKit Go.BigFrame

theorem head_at (v : List UInt8) : v.headD 0 = v.getD 0 0 := by cases v <;> rfl
theorem last_at (v : List UInt8) : v.getLastD 0 = v.getD (v.length - 1) 0 := by
  rcases List.eq_nil_or_concat v with rfl | ⟨x, d, rfl⟩
  · rfl
  · simp
/-- Byte k of a value is as it may be. -/
def okE (v : List UInt8) (k : Nat) : Prop := okH (v.getD k 0) = true ∧ ((k = 0 ∨ k + 1 = v.length) → blankH (v.getD k 0) = false)
theorem val_yes (v : List UInt8) (k : Nat) (hk : v.length ≤ k) (h : ∀ j, j < k → okE v j) : valueH v = true := by
  show (v.all okH && !blankH (v.headD 0) && !blankH (v.getLastD 0)) = true
  rw [all_of okH v k hk (fun j hj => (h j hj).1), head_at, last_at]
  by_cases h0 : v.length = 0
  · obtain rfl := List.length_eq_zero_iff.1 h0
    rfl
  · rw [(h 0 (by omega)).2 (.inl rfl), (h (v.length - 1) (by omega)).2 (.inr (by omega))]
    rfl
theorem val_bad (v : List UInt8) (k : Nat) (hk : k < v.length) (h : okH (v.getD k 0) = false) : valueH v = false := by
  show (v.all okH && !blankH (v.headD 0) && !blankH (v.getLastD 0)) = false
  rw [not_all okH v k hk h]; rfl
theorem val_end (v : List UInt8) (k : Nat) (hk : k = 0 ∨ k + 1 = v.length) (h : blankH (v.getD k 0) = true) : valueH v = false := by
  show (v.all okH && !blankH (v.headD 0) && !blankH (v.getLastD 0)) = false
  rw [head_at, last_at]
  rcases hk with rfl | hk
  · rw [h]; simp
  · rw [show v.length - 1 = k from by omega, h]; simp
theorem step_okE (v : List UInt8) (k : Nat) (h : ∀ j, j < k → okE v j) (hk : okE v k) : ∀ j, j < k + 1 → okE v j := fun j hj => by
  rcases Nat.lt_succ_iff_lt_or_eq.1 hj with h1 | rfl
  · exact h j h1
  · exact hk
theorem ok_more (x : UInt8) (h : (x.toNat : Int) < 32) : ((x.toNat : Int) == 127) = false := by rw [beq_eq_false_iff_ne]; omega
set_option maxHeartbeats 4000000 in
set_option maxRecDepth 100000 in
theorem refMay_any (h : HdV) (h1 : h.name.length ≤ 1000000000) (h2 : h.value.length ≤ 1000000000) (w : World) : Calls Tryz.prog 86 #[.agg (hcs h)] w fun e w' => e = .returned (.bool (mayH h)) ∧ Below w.heap.size w w' := by
  obtain ⟨nm, v⟩ := h
  simp only at h1 h2
  have HIX := hid (fun k hk W => str_ix (asS v) k hk W)
  have HLN : Hid ((asS v).size = v.length) := asS_size v
  have HTK := hid (fun W => refToken_any nm h1 W)
  have HT : Hid (mayH ⟨nm, v⟩ = (valueH v && tokenH nm)) := rfl
  have hsz : (asS v).size ≤ 1000000000 := by rw [asS_size]; exact h2
  rw [asS_data] at HIX
  unfold hcs
  generalize mayH ⟨nm, v⟩ = R at HT ⊢
  generalize asS v = S at HIX HLN hsz ⊢
  generalize asS nm = N at HTK ⊢
  generalize tokenH nm = tk at HTK HT
  go_enter Tryz.func86, Tryz.ntmps86
  go_wp2_with fail
  have HW0 : Hid (Below w.heap.size w (w.alloc (.cells #[.string N, .string S] 69))) := alloc_below (Below.refl _ _) (Nat.le_refl _) _
  have HW1 : Hid ((w.alloc (.cells #[.string N, .string S] 69)).cell? ⟨w.heap.size, 0, none⟩ = some (.string N)) := cell_of_row _ _ _ _ _ _ (heap_alloc_new w _)
  generalize w.alloc (.cells #[.string N, .string S] 69) = W0 at HW0 HW1 ⊢
  go_loop [4] (fun i => ∃ k : Nat, k ≤ S.size ∧ i = .int .i64 (k : Int) ∧ Hid (∀ j, j < k → okE v j)) (fun i => S.size - (intOf i).toNat)
  case atStart => exact ⟨0, Nat.zero_le _, rfl, fun j hj => by omega⟩
  case round =>
    obtain ⟨k, hk, rfl, HP⟩ := hrel
    by_cases hlt : k < S.size
    · have hi : (k : Int) < (S.size : Int) := by omega
      have hix := HIX.out k hlt
      have HLT : Hid (k < v.length) := by show _ < _; rw [← HLN.out]; exact hlt
      generalize hx : v.getD k 0 = x at hix
      rcases ok_cases x with ⟨ho, hc⟩ | ⟨ho, hc⟩
      · have HX : Hid (R = false) := by
          show _ = _
          rw [HT.out, val_bad v k HLT.out (by rw [hx]; exact ho)]
          rfl
        clear hx ho
        rcases hc with ⟨h1, h2⟩ | ⟨h1, h2⟩
        · have h3 := ok_more x h1
          have h4 : ((x.toNat : Int) != 9) = true := by rw [bne, h2]; rfl
          go_wp2_with fail
          go_ret
          exact ⟨by rw [HX.out]; rfl, HW0.out⟩
        · go_wp2_with fail
          go_ret
          exact ⟨by rw [HX.out]; rfl, HW0.out⟩
      · have HO : Hid (okH (v.getD k 0) = true) := by show _ = _; rw [hx]; exact ho
        have HBL := hid (fun W => blank_any x W)
        have HXE : Hid (blankH (v.getD k 0) = blankH x) := by show _ = _; rw [hx]
        clear hx ho
        generalize blankH x = bl at HBL HXE
        obtain ⟨A, HA, hc⟩ : ∃ A : Bool, Hid (A = true) ∧ (((x.toNat : Int) < 32 ∧ ((x.toNat : Int) != 9) = false ∧ ((x.toNat : Int) == 127) = false) ∨ (¬ (x.toNat : Int) < 32 ∧ ((x.toNat : Int) == 127) = false)) := ⟨true, rfl, by
          rcases hc with ⟨h1, h2, h3⟩ | ⟨h1, h2⟩
          · exact .inl ⟨h1, by rw [bne, h2]; rfl, h3⟩
          · exact .inr ⟨h1, h2⟩⟩
        clear HA
        rcases Nat.eq_zero_or_pos k with hk0 | hk0
        · have HE : Hid (k = 0 ∨ k + 1 = v.length) := .inl hk0
          have hz : ((k : Int) == 0) = true := by rw [hk0]; rfl
          clear hk0
          cases bl
          · have HK : Hid (okE v k) := ⟨HO.out, fun _ => HXE.out⟩
            rcases hc with ⟨h1, h2, h3⟩ | ⟨h1, h2⟩
            · go_wp2_with fail
              refine (HBL.out _).mono ?_
              rintro e W ⟨rfl, rfl⟩
              go_wp2_with fail
              go_round
              case rel => exact ⟨k + 1, by omega, by go_num, step_okE v k HP.out HK.out⟩
              case measure => simp [intOf]; omega
            · go_wp2_with fail
              refine (HBL.out _).mono ?_
              rintro e W ⟨rfl, rfl⟩
              go_wp2_with fail
              go_round
              case rel => exact ⟨k + 1, by omega, by go_num, step_okE v k HP.out HK.out⟩
              case measure => simp [intOf]; omega
          · have HX : Hid (R = false) := by
              show _ = _
              rw [HT.out, val_end v k HE.out HXE.out]
              rfl
            rcases hc with ⟨h1, h2, h3⟩ | ⟨h1, h2⟩
            · go_wp2_with fail
              refine (HBL.out _).mono ?_
              rintro e W ⟨rfl, rfl⟩
              go_wp2_with fail
              go_ret
              exact ⟨by rw [HX.out]; rfl, HW0.out⟩
            · go_wp2_with fail
              refine (HBL.out _).mono ?_
              rintro e W ⟨rfl, rfl⟩
              go_wp2_with fail
              go_ret
              exact ⟨by rw [HX.out]; rfl, HW0.out⟩
        · have hz : ((k : Int) == 0) = false := by rw [beq_eq_false_iff_ne]; omega
          by_cases hkl : k + 1 = S.size
          · have HE : Hid (k = 0 ∨ k + 1 = v.length) := .inr (by rw [← HLN.out]; exact hkl)
            have hz2 : ((k : Int) == (S.size : Int) - 1) = true := by rw [beq_iff_eq]; omega
            clear hk0 hkl
            cases bl
            · have HK : Hid (okE v k) := ⟨HO.out, fun _ => HXE.out⟩
              rcases hc with ⟨h1, h2, h3⟩ | ⟨h1, h2⟩
              · go_wp2_with fail
                refine (HBL.out _).mono ?_
                rintro e W ⟨rfl, rfl⟩
                go_wp2_with fail
                go_round
                case rel => exact ⟨k + 1, by omega, by go_num, step_okE v k HP.out HK.out⟩
                case measure => simp [intOf]; omega
              · go_wp2_with fail
                refine (HBL.out _).mono ?_
                rintro e W ⟨rfl, rfl⟩
                go_wp2_with fail
                go_round
                case rel => exact ⟨k + 1, by omega, by go_num, step_okE v k HP.out HK.out⟩
                case measure => simp [intOf]; omega
            · have HX : Hid (R = false) := by
                show _ = _
                rw [HT.out, val_end v k HE.out HXE.out]
                rfl
              rcases hc with ⟨h1, h2, h3⟩ | ⟨h1, h2⟩
              · go_wp2_with fail
                refine (HBL.out _).mono ?_
                rintro e W ⟨rfl, rfl⟩
                go_wp2_with fail
                go_ret
                exact ⟨by rw [HX.out]; rfl, HW0.out⟩
              · go_wp2_with fail
                refine (HBL.out _).mono ?_
                rintro e W ⟨rfl, rfl⟩
                go_wp2_with fail
                go_ret
                exact ⟨by rw [HX.out]; rfl, HW0.out⟩
          · have hz2 : ((k : Int) == (S.size : Int) - 1) = false := by rw [beq_eq_false_iff_ne]; omega
            have HK : Hid (okE v k) := ⟨HO.out, fun h => by
              exfalso
              have := HLN.out
              omega⟩
            clear hk0 hkl
            rcases hc with ⟨h1, h2, h3⟩ | ⟨h1, h2⟩
            · go_wp2_with fail
              go_round
              case rel => exact ⟨k + 1, by omega, by go_num, step_okE v k HP.out HK.out⟩
              case measure => simp [intOf]; omega
            · go_wp2_with fail
              go_round
              case rel => exact ⟨k + 1, by omega, by go_num, step_okE v k HP.out HK.out⟩
              case measure => simp [intOf]; omega
    · have hi : ¬ (k : Int) < (S.size : Int) := by omega
      have HR : Hid (R = tk) := by
        show _ = _
        rw [HT.out, val_yes v k (by rw [← HLN.out]; omega) HP.out]
        rfl
      have hc0 := HW1.out
      go_wp2_with fail
      refine (HTK.out _).mono ?_
      rintro e W ⟨rfl, rfl⟩
      go_wp2_with fail
      go_ret
      exact ⟨by rw [HR.out]; rfl, HW0.out⟩
end Go.Proofs.YtclonnpglikddaaGreatDoor
