
/- Which bytes may stand in a target and in a reason, which status has no body: what the program's and the reference's small functions do. -/
import Derived.Test.YtclonnpglikddaaGreatDoorHdSmall
import Derived.Test.YtclonnpglikddaaGreatDoorHtBook
namespace Go.Proofs.YtclonnpglikddaaGreatDoor
set_option linter.unusedVariables false
set_option linter.unusedSimpArgs false
open Go.RowKit Go.BigFrame

def inB (a b : Nat) (c : UInt8) : Bool := decide (a ≤ c.toNat ∧ c.toNat ≤ b)

set_option maxHeartbeats 1000000 in
set_option maxRecDepth 100000 in
theorem stands_any (l : List UInt8) (a b : Nat) (x y : Int) (hx : x = (a : Int)) (hy : y = (b : Int)) (hl : l.length ≤ 1000000000) (w : World) : Calls Tryz.prog 59 #[.string (asS l), .int .u8 x, .int .u8 y] w fun e w' => e = .returned (.bool (btw a b l)) ∧ w' = w := by
  have HIX := hid (fun k h W => str_ix (asS l) k h W)
  have HLN : Hid ((asS l).size = l.length) := asS_size l
  have HT : Hid (btw a b l = l.all (inB a b)) := rfl
  have hsz : (asS l).size ≤ 1000000000 := by rw [asS_size]; exact hl
  rw [asS_data] at HIX
  generalize btw a b l = R at HT ⊢
  generalize asS l = S at HIX HLN hsz ⊢
  have HX := hid hx
  have HY := hid hy
  clear hx hy
  go_enter Tryz.func59, Tryz.ntmps59
  go_wp2_with fail
  go_loop [10] (fun i => ∃ k : Nat, k ≤ S.size ∧ i = .int .i64 (k : Int) ∧ Hid (∀ j, j < k → inB a b (l.getD j 0) = true)) (fun i => S.size - (intOf i).toNat)
  case atStart => exact ⟨0, Nat.zero_le _, rfl, fun j hj => by omega⟩
  case round =>
    obtain ⟨k, hk, rfl, HP⟩ := hrel
    by_cases hlt : k < S.size
    · have hi : (k : Int) < (S.size : Int) := by omega
      have hix := HIX.out k hlt
      have HNA : Hid (inB a b (l.getD k 0) = false → R = false) := fun h => by
        rw [HT.out, not_all (inB a b) l k (by rw [← HLN.out]; exact hlt) h]
      have HST : Hid (inB a b (l.getD k 0) = true → ∀ j, j < k + 1 → inB a b (l.getD j 0) = true) := fun h => step_all (inB a b) l k HP.out h
      have HIN : Hid (inB a b (l.getD k 0) = decide (a ≤ (l.getD k 0).toNat ∧ (l.getD k 0).toNat ≤ b)) := rfl
      generalize (l.getD k 0).toNat = c at hix HIN
      by_cases h1 : (c : Int) < x
      · have HR := hid (HNA.out (by rw [HIN.out]; exact decide_eq_false (by have := HX.out; omega)))
        go_wp2_with fail
        go_ret
        exact ⟨by rw [HR.out]; rfl, rfl⟩
      · by_cases h2 : y < (c : Int)
        · have HR := hid (HNA.out (by rw [HIN.out]; exact decide_eq_false (by have := HY.out; omega)))
          go_wp2_with fail
          go_ret
          exact ⟨by rw [HR.out]; rfl, rfl⟩
        · have HS := hid (HST.out (by rw [HIN.out]; exact decide_eq_true (by have := HX.out; have := HY.out; omega)))
          go_wp2_with fail
          go_round
          case rel => exact ⟨k + 1, by omega, by go_num, HS⟩
          case measure => simp [intOf]; omega
    · have hi : ¬ (k : Int) < (S.size : Int) := by omega
      have HR : Hid (R = true) := by
        show _ = _
        rw [HT.out, all_of (inB a b) l k (by rw [← HLN.out]; omega) HP.out]
      go_wp2_with fail
      go_ret
      exact ⟨by rw [HR.out]; rfl, rfl⟩

set_option maxHeartbeats 1000000 in
set_option maxRecDepth 100000 in
theorem between_any (l : List UInt8) (a b : Nat) (x y : Int) (hx : x = (a : Int)) (hy : y = (b : Int)) (hl : l.length ≤ 1000000000) (w : World) : Calls Tryz.prog 44 #[.string (asS l), .int .u8 x, .int .u8 y] w fun e w' => e = .returned (.bool (btw a b l)) ∧ w' = w := by
  have HIX := hid (fun k h W => str_ix (asS l) k h W)
  have HLN : Hid ((asS l).size = l.length) := asS_size l
  have HT : Hid (btw a b l = l.all (inB a b)) := rfl
  have hsz : (asS l).size ≤ 1000000000 := by rw [asS_size]; exact hl
  rw [asS_data] at HIX
  generalize btw a b l = R at HT ⊢
  generalize asS l = S at HIX HLN hsz ⊢
  have HX := hid hx
  have HY := hid hy
  clear hx hy
  go_enter Tryz.func44, Tryz.ntmps44
  go_wp2_with fail
  go_loop [7] (fun i => ∃ k : Nat, k ≤ S.size ∧ i = .int .i64 (k : Int) ∧ Hid (∀ j, j < k → inB a b (l.getD j 0) = true)) (fun i => S.size - (intOf i).toNat)
  case atStart => exact ⟨0, Nat.zero_le _, rfl, fun j hj => by omega⟩
  case round =>
    obtain ⟨k, hk, rfl, HP⟩ := hrel
    by_cases hlt : k < S.size
    · have hi : (k : Int) < (S.size : Int) := by omega
      have hix := HIX.out k hlt
      have HNA : Hid (inB a b (l.getD k 0) = false → R = false) := fun h => by
        rw [HT.out, not_all (inB a b) l k (by rw [← HLN.out]; exact hlt) h]
      have HST : Hid (inB a b (l.getD k 0) = true → ∀ j, j < k + 1 → inB a b (l.getD j 0) = true) := fun h => step_all (inB a b) l k HP.out h
      have HIN : Hid (inB a b (l.getD k 0) = decide (a ≤ (l.getD k 0).toNat ∧ (l.getD k 0).toNat ≤ b)) := rfl
      generalize (l.getD k 0).toNat = c at hix HIN
      by_cases h1 : (c : Int) < x
      · have HR := hid (HNA.out (by rw [HIN.out]; exact decide_eq_false (by have := HX.out; omega)))
        go_wp2_with fail
        go_ret
        exact ⟨by rw [HR.out]; rfl, rfl⟩
      · by_cases h2 : y < (c : Int)
        · have HR := hid (HNA.out (by rw [HIN.out]; exact decide_eq_false (by have := HY.out; omega)))
          go_wp2_with fail
          go_ret
          exact ⟨by rw [HR.out]; rfl, rfl⟩
        · have HS := hid (HST.out (by rw [HIN.out]; exact decide_eq_true (by have := HX.out; have := HY.out; omega)))
          go_wp2_with fail
          go_round
          case rel => exact ⟨k + 1, by omega, by go_num, HS⟩
          case measure => simp [intOf]; omega
    · have hi : ¬ (k : Int) < (S.size : Int) := by omega
      have HR : Hid (R = true) := by
        show _ = _
        rw [HT.out, all_of (inB a b) l k (by rw [← HLN.out]; omega) HP.out]
      go_wp2_with fail
      go_ret
      exact ⟨by rw [HR.out]; rfl, rfl⟩

theorem bodiless_any (s : Int) (w : World) : Calls Tryz.prog 46 #[.int .i64 s] w fun e w' => e = .returned (.bool (bareM s)) ∧ w' = w := by
  have HR : Hid (bareM s = (decide (s = 204) || decide (s = 304))) := rfl
  generalize bareM s = R at HR ⊢
  by_cases h1 : s = 204
  · have HQ : Hid (R = true) := by show _ = _; rw [HR.out, decide_eq_true h1]; rfl
    have hb : (s == 204) = true := by rw [h1]; rfl
    clear h1
    go_enter Tryz.func46, Tryz.ntmps46
    go_wp2_with fail
    go_ret
    exact ⟨by rw [HQ.out]; rfl, rfl⟩
  · have hb : (s == 204) = false := beq_eq_false_iff_ne.2 h1
    by_cases h2 : s = 304
    · have HQ : Hid (R = true) := by show _ = _; rw [HR.out, decide_eq_true h2]; simp
      have hb2 : (s == 304) = true := by rw [h2]; rfl
      clear h1 h2
      go_enter Tryz.func46, Tryz.ntmps46
      go_wp2_with fail
      go_ret
      exact ⟨by rw [HQ.out]; rfl, rfl⟩
    · have HQ : Hid (R = false) := by show _ = _; rw [HR.out, decide_eq_false h1, decide_eq_false h2]; rfl
      have hb2 : (s == 304) = false := beq_eq_false_iff_ne.2 h2
      clear h1 h2
      go_enter Tryz.func46, Tryz.ntmps46
      go_wp2_with fail
      go_ret
      exact ⟨by rw [HQ.out]; rfl, rfl⟩

theorem refBare_any (s : Int) (w : World) : Calls Tryz.prog 21 #[.int .i64 s] w fun e w' => e = .returned (.bool (bareM s)) ∧ w' = w := by
  have HR : Hid (bareM s = (decide (s = 204) || decide (s = 304))) := rfl
  generalize bareM s = R at HR ⊢
  by_cases h1 : s = 204
  · have HQ : Hid (R = true) := by show _ = _; rw [HR.out, decide_eq_true h1]; rfl
    have hb : (s == 204) = true := by rw [h1]; rfl
    clear h1
    go_enter Tryz.func21, Tryz.ntmps21
    go_wp2_with fail
    go_ret
    exact ⟨by rw [HQ.out]; rfl, rfl⟩
  · have hb : (s == 204) = false := beq_eq_false_iff_ne.2 h1
    by_cases h2 : s = 304
    · have HQ : Hid (R = true) := by show _ = _; rw [HR.out, decide_eq_true h2]; simp
      have hb2 : (s == 304) = true := by rw [h2]; rfl
      clear h1 h2
      go_enter Tryz.func21, Tryz.ntmps21
      go_wp2_with fail
      go_ret
      exact ⟨by rw [HQ.out]; rfl, rfl⟩
    · have HQ : Hid (R = false) := by show _ = _; rw [HR.out, decide_eq_false h1, decide_eq_false h2]; rfl
      have hb2 : (s == 304) = false := beq_eq_false_iff_ne.2 h2
      clear h1 h2
      go_enter Tryz.func21, Tryz.ntmps21
      go_wp2_with fail
      go_ret
      exact ⟨by rw [HQ.out]; rfl, rfl⟩

theorem isTarget_any (l : List UInt8) (hl : l.length ≤ 1000000000) (w : World) : Calls Tryz.prog 32 #[.string (asS l)] w fun e w' => e = .returned (.bool (targetM l)) ∧ w' = w := by
  have HC := hid (fun W => stands_any l 33 126 33 126 rfl rfl hl W)
  have hz := asS_size l
  have he := emp8 l
  have HR : Hid (targetM l = (decide (1 ≤ l.length ∧ l.length ≤ 2048) && btw 33 126 l)) := rfl
  have HE : Hid (decide (l = []) = decide (l.length = 0)) := by
    show _ = _
    cases l <;> simp
  rw [HE.out] at he
  clear HE
  generalize targetM l = R at HR ⊢
  generalize btw 33 126 l = B at HC HR
  generalize asS l = S at HC hz he ⊢
  generalize l.length = n at HR hz he
  by_cases h0 : n = 0
  · have HQ : Hid (R = false) := by show _ = _; rw [HR.out, decide_eq_false (by omega)]; rfl
    rw [decide_eq_true h0] at he
    go_enter Tryz.func32, Tryz.ntmps32
    go_wp2_with fail
    go_ret
    exact ⟨by rw [HQ.out]; rfl, rfl⟩
  · rw [decide_eq_false h0] at he
    by_cases h1 : n ≤ 2048
    · have HQ : Hid (R = B) := by show _ = _; rw [HR.out, decide_eq_true (by omega)]; rfl
      have h2 : (S.size : Int) ≤ 2048 := by omega
      clear hz
      go_enter Tryz.func32, Tryz.ntmps32
      go_wp2_with fail
      refine (HC.out _).mono ?_
      rintro e W ⟨rfl, rfl⟩
      go_wp2_with fail
      go_ret
      exact ⟨by rw [HQ.out]; rfl, rfl⟩
    · have HQ : Hid (R = false) := by show _ = _; rw [HR.out, decide_eq_false (by omega)]; rfl
      have h2 : ¬ (S.size : Int) ≤ 2048 := by omega
      clear hz
      go_enter Tryz.func32, Tryz.ntmps32
      go_wp2_with fail
      go_ret
      exact ⟨by rw [HQ.out]; rfl, rfl⟩
theorem refTarget_any (l : List UInt8) (hl : l.length ≤ 1000000000) (w : World) : Calls Tryz.prog 29 #[.string (asS l)] w fun e w' => e = .returned (.bool (targetM l)) ∧ w' = w := by
  have HC := hid (fun W => between_any l 33 126 33 126 rfl rfl hl W)
  have hz := asS_size l
  have HR : Hid (targetM l = (decide (1 ≤ l.length ∧ l.length ≤ 2048) && btw 33 126 l)) := rfl
  generalize targetM l = R at HR ⊢
  generalize btw 33 126 l = B at HC HR
  generalize asS l = S at HC hz ⊢
  generalize l.length = n at HR hz
  by_cases h0 : n = 0
  · have HQ : Hid (R = false) := by show _ = _; rw [HR.out, decide_eq_false (by omega)]; rfl
    have h2 : ¬ (1 : Int) ≤ (S.size : Int) := by omega
    clear hz
    go_enter Tryz.func29, Tryz.ntmps29
    go_wp2_with fail
    go_ret
    exact ⟨by rw [HQ.out]; rfl, rfl⟩
  · have h3 : (1 : Int) ≤ (S.size : Int) := by omega
    by_cases h1 : n ≤ 2048
    · have HQ : Hid (R = B) := by show _ = _; rw [HR.out, decide_eq_true (by omega)]; rfl
      have h2 : (S.size : Int) ≤ 2048 := by omega
      clear hz
      go_enter Tryz.func29, Tryz.ntmps29
      go_wp2_with fail
      refine (HC.out _).mono ?_
      rintro e W ⟨rfl, rfl⟩
      go_wp2_with fail
      go_ret
      exact ⟨by rw [HQ.out]; rfl, rfl⟩
    · have HQ : Hid (R = false) := by show _ = _; rw [HR.out, decide_eq_false (by omega)]; rfl
      have h2 : ¬ (S.size : Int) ≤ 2048 := by omega
      clear hz
      go_enter Tryz.func29, Tryz.ntmps29
      go_wp2_with fail
      go_ret
      exact ⟨by rw [HQ.out]; rfl, rfl⟩
def reasonB (l : List UInt8) : Bool := decide (l.length ≤ 128) && btw 32 126 l
theorem isReason_any (l : List UInt8) (hl : l.length ≤ 1000000000) (w : World) : Calls Tryz.prog 45 #[.string (asS l)] w fun e w' => e = .returned (.bool (reasonB l)) ∧ w' = w := by
  have HC := hid (fun W => stands_any l 32 126 32 126 rfl rfl hl W)
  have hz := asS_size l
  have HR : Hid (reasonB l = (decide (l.length ≤ 128) && btw 32 126 l)) := rfl
  generalize reasonB l = R at HR ⊢
  generalize btw 32 126 l = B at HC HR
  generalize asS l = S at HC hz ⊢
  generalize l.length = n at HR hz
  by_cases h1 : n ≤ 128
  · have HQ : Hid (R = B) := by show _ = _; rw [HR.out, decide_eq_true h1]; rfl
    have h2 : (S.size : Int) ≤ 128 := by omega
    clear hz
    go_enter Tryz.func45, Tryz.ntmps45
    go_wp2_with fail
    refine (HC.out _).mono ?_
    rintro e W ⟨rfl, rfl⟩
    go_wp2_with fail
    go_ret
    exact ⟨by rw [HQ.out]; rfl, rfl⟩
  · have HQ : Hid (R = false) := by show _ = _; rw [HR.out, decide_eq_false h1]; rfl
    have h2 : ¬ (S.size : Int) ≤ 128 := by omega
    clear hz
    go_enter Tryz.func45, Tryz.ntmps45
    go_wp2_with fail
    go_ret
    exact ⟨by rw [HQ.out]; rfl, rfl⟩
end Go.Proofs.YtclonnpglikddaaGreatDoor
