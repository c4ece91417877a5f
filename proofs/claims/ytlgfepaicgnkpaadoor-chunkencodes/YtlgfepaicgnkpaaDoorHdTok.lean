
/- Which texts are tokens and values: what Token, isValue and mayBe of package header do, and the reference's Token, blank and May. -/
import Derived.Test.YtlgfepaicgnkpaaDoorHdSign
namespace Go.Proofs.YtlgfepaicgnkpaaDoor
set_option linter.unusedVariables false
set_option linter.unusedSimpArgs false
open Go.RowKit Go.BigFrame

def TOK9 : List UInt8 := [65, 66, 67, 68, 69, 70, 71, 72, 73, 74, 75, 76, 77, 78, 79, 80, 81, 82, 83, 84, 85, 86, 87, 88, 89, 90, 97, 98, 99, 100, 101, 102, 103, 104, 105, 106, 107, 108, 109, 110, 111, 112, 113, 114, 115, 116, 117, 118, 119, 120, 121, 122, 48, 49, 50, 51, 52, 53, 54, 55, 56, 57, 33, 35, 36, 37, 38, 39, 42, 43, 45, 46, 94, 95, 96, 124, 126]
theorem tok_fin : ∀ n : Fin 256, TOK9.contains (UInt8.ofNat n.val) = signH (UInt8.ofNat n.val) := by decide +kernel
theorem tok_sign (c : UInt8) : TOK9.contains c = signH c := by
  have := tok_fin ⟨c.toNat, c.toNat_lt⟩
  simpa only [UInt8.ofNat_toNat] using this
theorem tok_ix (c : UInt8) (w : World) : Calls Tryd.prog 80 #[.string ⟨#[65, 66, 67, 68, 69, 70, 71, 72, 73, 74, 75, 76, 77, 78, 79, 80, 81, 82, 83, 84, 85, 86, 87, 88, 89, 90, 97, 98, 99, 100, 101, 102, 103, 104, 105, 106, 107, 108, 109, 110, 111, 112, 113, 114, 115, 116, 117, 118, 119, 120, 121, 122, 48, 49, 50, 51, 52, 53, 54, 55, 56, 57, 33, 35, 36, 37, 38, 39, 42, 43, 45, 46, 94, 95, 96, 124, 126]⟩, .int .u8 c.toNat] w fun e w' => e = .returned (.int .i64 (Lib.indexByte TOK9 c)) ∧ w' = w := by
  have := Tryd.strings_IndexByte ⟨#[65, 66, 67, 68, 69, 70, 71, 72, 73, 74, 75, 76, 77, 78, 79, 80, 81, 82, 83, 84, 85, 86, 87, 88, 89, 90, 97, 98, 99, 100, 101, 102, 103, 104, 105, 106, 107, 108, 109, 110, 111, 112, 113, 114, 115, 116, 117, 118, 119, 120, 121, 122, 48, 49, 50, 51, 52, 53, 54, 55, 56, 57, 33, 35, 36, 37, 38, 39, 42, 43, 45, 46, 94, 95, 96, 124, 126]⟩ c.toNat w
  rw [show ((c.toNat : Int)).toNat.toUInt8 = c from by rw [Int.toNat_natCast]; simp] at this
  exact this
theorem tok_lt (c : UInt8) : decide (Lib.indexByte TOK9 c < 0) = !signH c := by
  rw [← tok_sign, ← indexB_mem]
  by_cases h : 0 ≤ Lib.indexByte TOK9 c
  · rw [decide_eq_true h, decide_eq_false (by omega)]; rfl
  · rw [decide_eq_false h, decide_eq_true (by omega)]; rfl
theorem all_of (p : UInt8 → Bool) (l : List UInt8) (k : Nat) (hk : l.length ≤ k) (h : ∀ j, j < k → p (l.getD j 0) = true) : l.all p = true := by
  rw [List.all_eq_true]
  intro x hx
  obtain ⟨j, hj, e⟩ := List.getElem_of_mem hx
  have := h j (by omega)
  rwa [List.getD_eq_getElem?_getD, List.getElem?_eq_getElem hj, Option.getD_some, e] at this
theorem not_all (p : UInt8 → Bool) (l : List UInt8) (k : Nat) (hk : k < l.length) (h : p (l.getD k 0) = false) : l.all p = false := by
  cases ha : l.all p with
  | false => rfl
  | true =>
    rw [List.all_eq_true] at ha
    have := ha (l.getD k 0) (by rw [List.getD_eq_getElem?_getD, List.getElem?_eq_getElem hk]; exact List.getElem_mem hk)
    rw [h] at this; cases this
theorem step_all (p : UInt8 → Bool) (l : List UInt8) (k : Nat) (h : ∀ j, j < k → p (l.getD j 0) = true) (hk : p (l.getD k 0) = true) : ∀ j, j < k + 1 → p (l.getD j 0) = true := fun j hj => by
  rcases Nat.lt_succ_iff_lt_or_eq.1 hj with h1 | rfl
  · exact h j h1
  · exact hk
set_option maxHeartbeats 1000000 in
set_option maxRecDepth 100000 in
theorem token_any (l : List UInt8) (hl : l.length ≤ 1000000000) (w : World) : Calls Tryd.prog 74 #[.string (asS l)] w fun e w' => e = .returned (.bool (tokenH l)) ∧ w' = w := by
  have HIX := hid (fun k h W => str_ix (asS l) k h W)
  have HLN : Hid ((asS l).size = l.length) := asS_size l
  have HE := emp8 l
  have HT : Hid (tokenH l = (l.all signH && !l.isEmpty)) := rfl
  have hsz : (asS l).size ≤ 1000000000 := by rw [asS_size]; exact hl
  rw [asS_data] at HIX
  generalize tokenH l = R at HT ⊢
  generalize asS l = S at HIX HLN HE hsz ⊢
  go_enter Tryd.func74, Tryd.ntmps74
  go_wp2_with fail
  go_loop [6] (fun i => ∃ k : Nat, k ≤ S.size ∧ i = .int .i64 (k : Int) ∧ Hid (∀ j, j < k → signH (l.getD j 0) = true)) (fun i => S.size - (intOf i).toNat)
  case atStart => exact ⟨0, Nat.zero_le _, rfl, fun j hj => by omega⟩
  case round =>
    obtain ⟨k, hk, rfl, HP⟩ := hrel
    by_cases hlt : k < S.size
    · have hi : (k : Int) < (S.size : Int) := by omega
      have hix := HIX.out k hlt
      generalize hx : l.getD k 0 = x at hix
      have HC := hid (fun W => tok_ix x W)
      have hlt0 := tok_lt x
      generalize Lib.indexByte TOK9 x = K at HC hlt0
      cases hs : signH x with
      | true =>
        have HX : Hid (signH (l.getD k 0) = true) := by show _ = _; rw [hx]; exact hs
        rw [hs] at hlt0
        clear hx hs
        go_wp2_with fail
        refine (HC.out _).mono ?_
        rintro e W ⟨rfl, rfl⟩
        go_wp2_with fail
        go_round
        case rel => exact ⟨k + 1, by omega, by go_num, step_all signH l k HP.out HX.out⟩
        case measure => simp [intOf]; omega
      | false =>
        have HX : Hid (R = false) := by
          show _ = _
          rw [HT.out, not_all signH l k (by rw [← HLN.out]; exact hlt) (by rw [hx]; exact hs)]
          rfl
        rw [hs] at hlt0
        clear hx hs
        go_wp2_with fail
        refine (HC.out _).mono ?_
        rintro e W ⟨rfl, rfl⟩
        go_wp2_with fail
        go_ret
        exact ⟨by rw [HX.out]; rfl, rfl⟩
    · have hi : ¬ (k : Int) < (S.size : Int) := by omega
      have HR : Hid (R = !decide (l = [])) := by
        show _ = _
        rw [HT.out, all_of signH l k (by rw [← HLN.out]; omega) HP.out]
        cases l <;> rfl
      clear HT
      generalize decide (l = []) = Z at HE HR
      cases Z
      all_goals go_wp2_with fail
      all_goals (go_ret; exact ⟨by rw [HR.out]; rfl, rfl⟩)
set_option maxHeartbeats 1000000 in
set_option maxRecDepth 100000 in
theorem refToken_any (l : List UInt8) (hl : l.length ≤ 1000000000) (w : World) : Calls Tryd.prog 76 #[.string (asS l)] w fun e w' => e = .returned (.bool (tokenH l)) ∧ w' = w := by
  have HIX := hid (fun k h W => str_ix (asS l) k h W)
  have HLN : Hid ((asS l).size = l.length) := asS_size l
  have HE := emp8 l
  have HT : Hid (tokenH l = (l.all signH && !l.isEmpty)) := rfl
  have hsz : (asS l).size ≤ 1000000000 := by rw [asS_size]; exact hl
  rw [asS_data] at HIX
  generalize tokenH l = R at HT ⊢
  generalize asS l = S at HIX HLN HE hsz ⊢
  go_enter Tryd.func76, Tryd.ntmps76
  go_wp2_with fail
  go_loop [3] (fun i => ∃ k : Nat, k ≤ S.size ∧ i = .int .i64 (k : Int) ∧ Hid (∀ j, j < k → signH (l.getD j 0) = true)) (fun i => S.size - (intOf i).toNat)
  case atStart => exact ⟨0, Nat.zero_le _, rfl, fun j hj => by omega⟩
  case round =>
    obtain ⟨k, hk, rfl, HP⟩ := hrel
    by_cases hlt : k < S.size
    · have hi : (k : Int) < (S.size : Int) := by omega
      have hix := HIX.out k hlt
      generalize hx : l.getD k 0 = x at hix
      have HC := hid (fun W => sign_any x W)

      cases hs : signH x with
      | true =>
        have HX : Hid (signH (l.getD k 0) = true) := by show _ = _; rw [hx]; exact hs
        rw [hs] at HC
        clear hx hs
        go_wp2_with fail
        refine (HC.out _).mono ?_
        rintro e W ⟨rfl, rfl⟩
        go_wp2_with fail
        go_round
        case rel => exact ⟨k + 1, by omega, by go_num, step_all signH l k HP.out HX.out⟩
        case measure => simp [intOf]; omega
      | false =>
        have HX : Hid (R = false) := by
          show _ = _
          rw [HT.out, not_all signH l k (by rw [← HLN.out]; exact hlt) (by rw [hx]; exact hs)]
          rfl
        rw [hs] at HC
        clear hx hs
        go_wp2_with fail
        refine (HC.out _).mono ?_
        rintro e W ⟨rfl, rfl⟩
        go_wp2_with fail
        go_ret
        exact ⟨by rw [HX.out]; rfl, rfl⟩
    · have hi : ¬ (k : Int) < (S.size : Int) := by omega
      have HR : Hid (R = !decide (l = [])) := by
        show _ = _
        rw [HT.out, all_of signH l k (by rw [← HLN.out]; omega) HP.out]
        cases l <;> rfl
      clear HT
      generalize decide (l = []) = Z at HE HR
      cases Z
      all_goals go_wp2_with fail
      all_goals (go_ret; exact ⟨by rw [HR.out]; rfl, rfl⟩)
end Go.Proofs.YtlgfepaicgnkpaaDoor
