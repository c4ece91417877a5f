
/- What the reference's Digits and Parse of layer 6 do. -/
import Derived.Test.YtocdjgehjiolhaaGreatDoorCiPar
import Derived.Test.YtocdjgehjiolhaaGreatDoorCiRef
import Derived.Test.YtocdjgehjiolhaaGreatDoorIpRefP
namespace Go.Proofs.YtocdjgehjiolhaaGreatDoor
open Go.RowKit Go.BigFrame
set_option maxRecDepth 100000
attribute [local go_sem ↓] loadA_eq loadN_eq

theorem slice_ten (r : Nat) (h : r < 10) (W : World) : (Instr.slice 9 (.string ⟨#[48, 49, 50, 51, 52, 53, 54, 55, 56, 57]⟩) (some (.int .i64 (r : Int))) (some (.int .i64 ((r : Int) + 1))) none).run Tryz.prog W = .ok (.string (asS (digs 10 r))) W := by
  rcases (show r = 0 ∨ r = 1 ∨ r = 2 ∨ r = 3 ∨ r = 4 ∨ r = 5 ∨ r = 6 ∨ r = 7 ∨ r = 8 ∨ r = 9 by omega) with rfl | rfl | rfl | rfl | rfl | rfl | rfl | rfl | rfl | rfl <;> kernel_rfl
theorem dig_two : ∀ n : Fin 129, 10 ≤ n.val → digs 10 n.val = digs 10 (n.val / 10) ++ digs 10 (n.val % 10) := by decide +kernel
theorem asS_cat (a b : List UInt8) : asS a ++ asS b = asS (a ++ b) := by
  apply ByteArray.ext
  apply Array.ext'
  simp [asS]
set_option maxHeartbeats 1000000 in
theorem dig_small (n : Nat) (h : n < 10) (w : World) : Calls Tryz.prog 25 #[.int .i64 n] w fun e w' => e = .returned (.string (asS (digs 10 n))) ∧ Below w.heap.size w w' := by
  have hlit := fun W => slice_ten n h W
  have h2 : (n : Int) < 10 := by omega
  generalize asS (digs 10 n) = D at hlit ⊢
  go_enter Tryz.func25, Tryz.ntmps25
  go_wp2_with fail
  go_ret
  exact ⟨rfl, Below.refl _ _⟩
set_option maxHeartbeats 1000000 in
theorem dig_step (n : Nat) (h : 10 ≤ n) (h2 : n ≤ 128) (hd : ∀ W, Calls Tryz.prog 25 #[.int .i64 ((n / 10 : Nat) : Int)] W fun e w' => e = .returned (.string (asS (digs 10 (n / 10)))) ∧ Below W.heap.size W w') (w : World) : Calls Tryz.prog 25 #[.int .i64 n] w fun e w' => e = .returned (.string (asS (digs 10 n))) ∧ Below w.heap.size w w' := by
  have HD := hid hd
  have HM := hid (fun W => dig_small (n % 10) (by omega) W)
  have he := dig_two ⟨n, by omega⟩ h
  simp only at he
  have HE := hid he
  have hs1 : (digs 10 (n / 10)).length ≤ 20 := digs_short 10 (n / 10)
  have hs2 : (digs 10 (n % 10)).length ≤ 20 := digs_short 10 (n % 10)
  have hz : ¬ (9223372036854775807 < (asS (digs 10 (n / 10))).size + (asS (digs 10 (n % 10))).size) := by rw [asS_len, asS_len]; omega
  have HC := hid (asS_cat (digs 10 (n / 10)) (digs 10 (n % 10)))
  clear hd he hs1 hs2
  rw [← HE.out] at HC
  generalize asS (digs 10 n) = R at HC ⊢
  generalize asS (digs 10 (n / 10)) = S1 at HD HC hz
  generalize asS (digs 10 (n % 10)) = S2 at HM HC hz
  have h3 : ¬ (n : Int) < 10 := by omega
  have hq : (n : Int) / 10 = ((n / 10 : Nat) : Int) := by omega
  have hr : (n : Int) % 10 = ((n % 10 : Nat) : Int) := by omega
  generalize hqn : n / 10 = q at HD hq
  generalize hrn : n % 10 = r at HM hr
  have hq2 : (n : Int).tdiv 10 = (q : Int) := by rw [← hq]; exact Int.tdiv_eq_ediv_of_nonneg (by omega)
  have hr2 : (n : Int).tmod 10 = (r : Int) := by rw [← hr]; exact Int.tmod_eq_emod_of_nonneg (by omega)
  have HQN := hid hqn; have HRN := hid hrn
  clear hqn hrn
  go_enter Tryz.func25, Tryz.ntmps25
  go_wp2_with fail
  refine (HD.out _).mono ?_
  rintro e W1 ⟨rfl, hb1⟩
  go_wp2_with fail
  refine (HM.out _).mono ?_
  rintro e W2 ⟨rfl, hb2⟩
  go_wp2_with fail
  go_ret
  exact ⟨by rw [← HC.out]; rfl, hb1.trans (hb2.mono hb1.size)⟩
theorem dig_any (n : Nat) (h : n ≤ 128) (w : World) : Calls Tryz.prog 25 #[.int .i64 n] w fun e w' => e = .returned (.string (asS (digs 10 n))) ∧ Below w.heap.size w w' := by
  by_cases h1 : n < 10
  · exact dig_small n h1 w
  · refine dig_step n (by omega) h (fun W => ?_) w
    by_cases h2 : n / 10 < 10
    · exact dig_small (n / 10) h2 W
    · exact dig_step (n / 10) (by omega) (by omega) (fun W => dig_small (n / 10 / 10) (by omega) W) W
end Go.Proofs.YtocdjgehjiolhaaGreatDoor
