
/- What lanternref05.digits, dots and May do. -/
import Derived.Test.YtocdjgehjiolhaaGreatDoorIpForm
namespace Go.Proofs.YtocdjgehjiolhaaGreatDoor
open Go.RowKit

theorem slice_dg (r : Nat) (h : r < 16) (W : World) : (Instr.slice 9 (.string ⟨#[48, 49, 50, 51, 52, 53, 54, 55, 56, 57, 97, 98, 99, 100, 101, 102]⟩) (some (.int .i64 (r : Int))) (some (.int .i64 ((r : Int) + 1))) none).run Tryz.prog W = .ok (.string (asS [dch r])) W := by
  rcases (show r = 0 ∨ r = 1 ∨ r = 2 ∨ r = 3 ∨ r = 4 ∨ r = 5 ∨ r = 6 ∨ r = 7 ∨ r = 8 ∨ r = 9 ∨ r = 10 ∨ r = 11 ∨ r = 12 ∨ r = 13 ∨ r = 14 ∨ r = 15 by omega) with rfl | rfl | rfl | rfl | rfl | rfl | rfl | rfl | rfl | rfl | rfl | rfl | rfl | rfl | rfl | rfl <;> kernel_rfl
theorem digsF_short (base : Nat) : ∀ f n, (digsF base f n).length ≤ f := by
  intro f
  induction f with
  | zero => intro n; simp [digsF]
  | succ f ih =>
    intro n
    unfold digsF
    split
    · simp
    · have := ih (n / base); simp; omega

set_option maxRecDepth 100000 in
set_option maxHeartbeats 1000000 in
theorem digits10 : ∀ (f n : Nat) (w : World), f ≤ 19 → n < 10 ^ (f + 1) → n ≤ 1000000 → Calls Tryz.prog 50 #[.int .i64 n, .int .i64 10] w fun e w' => e = .returned (.string (asS (digsF 10 (f + 1) n))) ∧ Below w.heap.size w w' := by
  intro f
  induction f with
  | zero =>
    intro n w hf hn hn2
    have hlt : (n : Int) < 10 := by simp at hn; omega
    have hlit := fun W => slice_dg (n % 10) (by omega) W
    have hmr : (n : Int).tmod 10 = ((n % 10 : Nat) : Int) := by rw [Int.tmod_eq_emod_of_nonneg (by omega)]; omega
    have HE : Hid (digsF 10 (0 + 1) n = [dch (n % 10)]) := by show _ = _; rw [digsF, if_pos (by omega), Nat.mod_eq_of_lt (by omega)]
    obtain ⟨r, hr⟩ : ∃ r, r = n % 10 := ⟨_, rfl⟩
    rw [← hr] at hlit hmr HE
    have hrl : r < 10 := by omega
    have hw : IntKind.i64.wrap ((r : Int) + 1) = (r : Int) + 1 := by rw [IntKind.wrap_i64]; omega
    rw [HE.out]
    clear hr
    generalize [dch r] = D at hlit ⊢
    go_enter Tryz.func50, Tryz.ntmps50
    go_wp2_with fail
    go_quiet (fail)
    go_wp2_with fail
    go_ret
    exact ⟨rfl, below_drewN _ _ _⟩
  | succ f ih =>
    intro n w hf hn hn2
    have hlit := fun W => slice_dg (n % 10) (by omega) W
    have hmr : (n : Int).tmod 10 = ((n % 10 : Nat) : Int) := by rw [Int.tmod_eq_emod_of_nonneg (by omega)]; omega
    obtain ⟨r, hr⟩ : ∃ r, r = n % 10 := ⟨_, rfl⟩
    rw [← hr] at hlit hmr
    have hrl : r < 10 := by omega
    have hw : IntKind.i64.wrap ((r : Int) + 1) = (r : Int) + 1 := by rw [IntKind.wrap_i64]; omega
    by_cases hlt : (n : Int) < 10
    · have HE : Hid (digsF 10 (f + 1 + 1) n = [dch r]) := by show _ = _; rw [digsF, if_pos (by omega), hr, Nat.mod_eq_of_lt (by omega)]
      rw [HE.out]
      clear hr ih
      generalize [dch r] = D at hlit ⊢
      go_enter Tryz.func50, Tryz.ntmps50
      go_wp2_with fail
      go_quiet (fail)
      go_wp2_with fail
      go_ret
      exact ⟨rfl, below_drewN _ _ _⟩
    · have HE : Hid (digsF 10 (f + 1 + 1) n = digsF 10 (f + 1) (n / 10) ++ [dch r]) := by show _ = _; rw [digsF, if_neg (by omega), hr]
      rw [HE.out]
      have c1 := hid (fun W => ih (n / 10) W (by omega) (by rw [Nat.div_lt_iff_lt_mul (by omega), ← Nat.pow_succ]; exact hn) (by omega))
      have hsz := digsF_short 10 (f + 1) (n / 10)
      have hap := asS_app (digsF 10 (f + 1) (n / 10)) [dch r]
      have hs1 : (asS (digsF 10 (f + 1) (n / 10))).size ≤ 20 := by rw [asS_size]; omega
      have hs2 : (asS [dch r]).size = 1 := rfl
      clear hr ih hsz
      generalize digsF 10 (f + 1) (n / 10) = E at c1 hap hs1 ⊢
      obtain ⟨q, hq⟩ : ∃ q, q = n / 10 := ⟨_, rfl⟩
      rw [← hq] at c1
      have hd : (n : Int).tdiv 10 = (q : Int) := by rw [Int.tdiv_eq_ediv_of_nonneg (by omega)]; omega
      have hd2 : (n : Int) / 10 = (q : Int) := by omega
      clear hq
      generalize [dch r] = D at hlit hap hs2 ⊢
      go_enter Tryz.func50, Tryz.ntmps50
      go_wp2_with fail
      go_quiet (fail)
      go_wp2_with fail
      refine (c1.out _).mono ?_
      rintro e W1 ⟨rfl, hb1⟩
      go_wp2_with fail
      go_ret
      exact ⟨rfl, (below_drewN _ _ _).trans (hb1.mono (Nat.le_refl _))⟩

set_option maxRecDepth 100000 in
set_option maxHeartbeats 1000000 in
theorem digits16 : ∀ (f n : Nat) (w : World), f ≤ 19 → n < 16 ^ (f + 1) → n ≤ 1000000 → Calls Tryz.prog 50 #[.int .i64 n, .int .i64 16] w fun e w' => e = .returned (.string (asS (digsF 16 (f + 1) n))) ∧ Below w.heap.size w w' := by
  intro f
  induction f with
  | zero =>
    intro n w hf hn hn2
    have hlt : (n : Int) < 16 := by simp at hn; omega
    have hlit := fun W => slice_dg (n % 16) (by omega) W
    have hmr : (n : Int).tmod 16 = ((n % 16 : Nat) : Int) := by rw [Int.tmod_eq_emod_of_nonneg (by omega)]; omega
    have HE : Hid (digsF 16 (0 + 1) n = [dch (n % 16)]) := by show _ = _; rw [digsF, if_pos (by omega), Nat.mod_eq_of_lt (by omega)]
    obtain ⟨r, hr⟩ : ∃ r, r = n % 16 := ⟨_, rfl⟩
    rw [← hr] at hlit hmr HE
    have hrl : r < 16 := by omega
    have hw : IntKind.i64.wrap ((r : Int) + 1) = (r : Int) + 1 := by rw [IntKind.wrap_i64]; omega
    rw [HE.out]
    clear hr
    generalize [dch r] = D at hlit ⊢
    go_enter Tryz.func50, Tryz.ntmps50
    go_wp2_with fail
    go_quiet (fail)
    go_wp2_with fail
    go_ret
    exact ⟨rfl, below_drewN _ _ _⟩
  | succ f ih =>
    intro n w hf hn hn2
    have hlit := fun W => slice_dg (n % 16) (by omega) W
    have hmr : (n : Int).tmod 16 = ((n % 16 : Nat) : Int) := by rw [Int.tmod_eq_emod_of_nonneg (by omega)]; omega
    obtain ⟨r, hr⟩ : ∃ r, r = n % 16 := ⟨_, rfl⟩
    rw [← hr] at hlit hmr
    have hrl : r < 16 := by omega
    have hw : IntKind.i64.wrap ((r : Int) + 1) = (r : Int) + 1 := by rw [IntKind.wrap_i64]; omega
    by_cases hlt : (n : Int) < 16
    · have HE : Hid (digsF 16 (f + 1 + 1) n = [dch r]) := by show _ = _; rw [digsF, if_pos (by omega), hr, Nat.mod_eq_of_lt (by omega)]
      rw [HE.out]
      clear hr ih
      generalize [dch r] = D at hlit ⊢
      go_enter Tryz.func50, Tryz.ntmps50
      go_wp2_with fail
      go_quiet (fail)
      go_wp2_with fail
      go_ret
      exact ⟨rfl, below_drewN _ _ _⟩
    · have HE : Hid (digsF 16 (f + 1 + 1) n = digsF 16 (f + 1) (n / 16) ++ [dch r]) := by show _ = _; rw [digsF, if_neg (by omega), hr]
      rw [HE.out]
      have c1 := hid (fun W => ih (n / 16) W (by omega) (by rw [Nat.div_lt_iff_lt_mul (by omega), ← Nat.pow_succ]; exact hn) (by omega))
      have hsz := digsF_short 16 (f + 1) (n / 16)
      have hap := asS_app (digsF 16 (f + 1) (n / 16)) [dch r]
      have hs1 : (asS (digsF 16 (f + 1) (n / 16))).size ≤ 20 := by rw [asS_size]; omega
      have hs2 : (asS [dch r]).size = 1 := rfl
      clear hr ih hsz
      generalize digsF 16 (f + 1) (n / 16) = E at c1 hap hs1 ⊢
      obtain ⟨q, hq⟩ : ∃ q, q = n / 16 := ⟨_, rfl⟩
      rw [← hq] at c1
      have hd : (n : Int).tdiv 16 = (q : Int) := by rw [Int.tdiv_eq_ediv_of_nonneg (by omega)]; omega
      have hd2 : (n : Int) / 16 = (q : Int) := by omega
      clear hq
      generalize [dch r] = D at hlit hap hs2 ⊢
      go_enter Tryz.func50, Tryz.ntmps50
      go_wp2_with fail
      go_quiet (fail)
      go_wp2_with fail
      refine (c1.out _).mono ?_
      rintro e W1 ⟨rfl, hb1⟩
      go_wp2_with fail
      go_ret
      exact ⟨rfl, (below_drewN _ _ _).trans (hb1.mono (Nat.le_refl _))⟩

theorem digits_at10 (n : Nat) (h : n ≤ 1000000) (w : World) : Calls Tryz.prog 50 #[.int .i64 n, .int .i64 10] w fun e w' => e = .returned (.string (asS (digs 10 n))) ∧ Below w.heap.size w w' :=
  digits10 19 n w (by omega) (Nat.lt_of_le_of_lt h (by decide)) h
theorem digits_at16 (n : Nat) (h : n ≤ 1000000) (w : World) : Calls Tryz.prog 50 #[.int .i64 n, .int .i64 16] w fun e w' => e = .returned (.string (asS (digs 16 n))) ∧ Below w.heap.size w w' :=
  digits16 19 n w (by omega) (Nat.lt_of_le_of_lt h (by decide)) h
end Go.Proofs.YtocdjgehjiolhaaGreatDoor
