
/- What the reference's digits and Print do. -/
import Derived.Test.YthpplcadpngdiaaDoorDtPrt
namespace Go.Proofs.YthpplcadpngdiaaDoor
set_option linter.unusedVariables false
set_option linter.unusedSimpArgs false
open Go.RowKit Go.BigFrame

theorem slice_tenD (r : Nat) (h : r < 10) (W : World) : (Instr.slice 9 (.string ⟨#[48, 49, 50, 51, 52, 53, 54, 55, 56, 57]⟩) (some (.int .i64 (r : Int))) (some (.int .i64 ((r : Int) + 1))) none).run Tryd.prog W = .ok (.string (asS [UInt8.ofNat (48 + r)])) W := by
  rcases (show r = 0 ∨ r = 1 ∨ r = 2 ∨ r = 3 ∨ r = 4 ∨ r = 5 ∨ r = 6 ∨ r = 7 ∨ r = 8 ∨ r = 9 by omega) with rfl | rfl | rfl | rfl | rfl | rfl | rfl | rfl | rfl | rfl <;> kernel_rfl
set_option maxHeartbeats 1000000 in
theorem refDig_any : ∀ (k n : Nat), k ≤ 4 → n ≤ 100000 → ∀ w : World, Calls Tryd.prog 55 #[.int .i64 (n : Int), .int .i64 (k : Int)] w fun e w' => e = .returned (.string (asS (dig k n))) ∧ Below w.heap.size w w'
  | 0, n, _, _, w => by
    show Calls Tryd.prog 55 #[.int .i64 (n : Int), .int .i64 0] w fun e w' => e = .returned (.string ⟨#[]⟩) ∧ Below w.heap.size w w'
    go_enter Tryd.func55, Tryd.ntmps55
    go_wp2_with fail
    go_ret
    exact ⟨rfl, Below.refl _ _⟩
  | k + 1, n, hk, hn, w => by
    have ih := hid (fun W => refDig_any k (n / 10) (by omega) (by omega) W)
    have hsl := fun W => slice_tenD (n % 10) (by omega) W
    have HAP : Hid (asS (dig k (n / 10)) ++ asS [UInt8.ofNat (48 + n % 10)] = asS (dig (k + 1) n)) := asS_app _ _
    have z1 : (asS (dig k (n / 10))).size ≤ 4 := by rw [asS_size, dig_len]; omega
    have z2 : (asS [UInt8.ofNat (48 + n % 10)]).size ≤ 4 := by rw [asS_size]; simp
    have q1 : (n : Int).tdiv 10 = ((n / 10 : Nat) : Int) := by rw [Int.tdiv_eq_ediv_of_nonneg (by omega)]; omega
    have q1' : (n : Int) / 10 = ((n / 10 : Nat) : Int) := by omega
    have q2 : (n : Int).tmod 10 = ((n % 10 : Nat) : Int) := by rw [Int.tmod_eq_emod_of_nonneg (by omega)]; omega
    have q2' : (n : Int) % 10 = ((n % 10 : Nat) : Int) := by omega
    have b1 : n / 10 ≤ 100000 := by omega
    have b2 : n % 10 < 10 := by omega
    have k1 : ((k + 1 : Nat) : Int) - 1 = (k : Int) := by omega
    have k2 : (((k + 1 : Nat) : Int) == 0) = false := by rw [beq_eq_false_iff_ne]; omega
    have k3 : k + 1 ≤ 4 := hk
    have hz : ¬ (9223372036854775807 < (asS (dig k (n / 10))).size + (asS [UInt8.ofNat (48 + n % 10)]).size) := by omega
    generalize asS (dig (k + 1) n) = R at *
    generalize asS (dig k (n / 10)) = S1 at *
    generalize asS [UInt8.ofNat (48 + n % 10)] = S2 at *
    generalize n / 10 = q at *
    generalize n % 10 = r at *
    have k4 : ((k + 1 : Nat) : Int) = (k : Int) + 1 := by omega
    generalize k + 1 = K at *
    clear hk k4
    go_enter Tryd.func55, Tryd.ntmps55
    go_wp2_with fail
    have c1 : REG 55 #[.int .i64 (q : Int), .int .i64 (k : Int)] w (.string S1) := fun d os => Calls.regrown_of (ih.out _)
    refine wp_region_quiet_below (by kernel_rfl) (by kernel_rfl) ?_
    repeat (go_big_quiet_step (first | (go_at_call 55; exact c1 _ _)))
    refine wpQuiet_nil ?_
    rintro W9 ⟨⟨dq, osq⟩, hw9⟩
    have HB9 : Hid (Below w.heap.size w W9) := by rw [hw9]; exact below_regrown w dq osq
    clear hw9 c1
    go_wp2_with fail
    go_ret
    exact ⟨by rw [← HAP.out]; rfl, HB9.out⟩
theorem tdiv_of (T : Int) : ∃ q r : Int, T.tdiv 86400 = q ∧ T.tmod 86400 = r ∧ ((r < 0 ∧ q - 1 = T / 86400 ∧ r + 86400 = T % 86400 ∧ -86400 < r) ∨ (0 ≤ r ∧ r < 86400 ∧ q = T / 86400 ∧ r = T % 86400)) := by
  by_cases h : 0 ≤ T
  · refine ⟨_, _, rfl, rfl, .inr ?_⟩
    rw [Int.tdiv_eq_ediv_of_nonneg h, Int.tmod_eq_emod_of_nonneg h]
    omega
  · obtain ⟨U, hU⟩ : ∃ U : Int, T = -U := ⟨-T, by omega⟩
    subst hU
    refine ⟨_, _, rfl, rfl, ?_⟩
    rw [Int.neg_tdiv, Int.neg_tmod, Int.tdiv_eq_ediv_of_nonneg (by omega), Int.tmod_eq_emod_of_nonneg (by omega)]
    by_cases h0 : U % 86400 = 0
    · exact .inr (by omega)
    · exact .inl (by omega)
set_option maxHeartbeats 2000000 in
set_option maxRecDepth 1000000 in
theorem refPrint_no (T : Int) (h : T < -62135596800 ∨ 253402300799 < T) (h1 : -9223372036854775808 ≤ T) (h2 : T ≤ 9223372036854775807) (w : World) : Calls Tryd.prog 22 #[.int .i64 T] w fun e w' => e = .returned (.string ⟨#[]⟩) ∧ w' = w := by
  obtain ⟨q, r, hq, hr, hqr⟩ := tdiv_of T
  have HCI := hid (fun W => refCivil_no (T / 86400) (by omega) W)
  have b1 : -106751991167301 ≤ q ∧ q ≤ 106751991167301 := by omega
  have b2 : -86400 < r ∧ r < 86400 := by omega
  rcases hqr with ⟨r1, r2, r3, r4⟩ | ⟨r1, r2, r3, r4⟩
  · generalize T / 86400 = N at *
    generalize T % 86400 = c at *
    go_enter Tryd.func22, Tryd.ntmps22
    go_wp2_with fail
    refine (HCI.out _).mono ?_
    rintro e w1 ⟨rfl, rfl⟩
    go_wp2_with fail
    go_ret
    exact ⟨rfl, rfl⟩
  · rw [← r3] at HCI
    clear r3 r4
    have r5 : ¬ r < 0 := by omega
    go_enter Tryd.func22, Tryd.ntmps22
    go_wp2_with fail
    refine (HCI.out _).mono ?_
    rintro e w1 ⟨rfl, rfl⟩
    go_wp2_with fail
    go_ret
    exact ⟨rfl, rfl⟩
theorem dayL_ref (y m d h mi s : Nat) : asS (dig 4 y) ++ ⟨#[45]⟩ ++ asS (dig 2 m) ++ ⟨#[45]⟩ ++ asS (dig 2 d) ++ ⟨#[84]⟩ ++ asS (dig 2 h) ++ ⟨#[58]⟩ ++ asS (dig 2 mi) ++ ⟨#[58]⟩ ++ asS (dig 2 s) ++ ⟨#[90]⟩ = asS (dayL y m d h mi s [90]) := by
  rw [show (⟨#[45]⟩ : ByteArray) = asS [45] from rfl, show (⟨#[84]⟩ : ByteArray) = asS [84] from rfl, show (⟨#[58]⟩ : ByteArray) = asS [58] from rfl, show (⟨#[90]⟩ : ByteArray) = asS [90] from rfl]
  simp only [asS_apps]
  unfold dayL
  simp only [List.append_assoc, List.cons_append, List.nil_append]
set_option maxHeartbeats 4000000 in
set_option maxRecDepth 1000000 in
theorem refPrint_yes (D c : Nat) (hD : D < 3652059) (hc : c < 86400) (w : World) : Calls Tryd.prog 22 #[.int .i64 (((D : Int) - 719162) * 86400 + (c : Int))] w fun e w' => (∃ y m d : Nat, DateD y m d ∧ dayD y m d = D ∧ e = .returned (.string (asS (dayL y m d (c / 3600) (c % 3600 / 60) (c % 60) [90])))) ∧ Below w.heap.size w w' := by
  have HCI := hid (fun W => refCivil_yes D hD W)
  have HG := hid (fun k n h1 h2 W => refDig_any k n h1 h2 W)
  have HLL := hid dayL_ref
  have hmi : c % 3600 / 60 = c / 60 % 60 := by omega
  rw [hmi]
  have b1 : c / 3600 < 24 := by omega
  have b2 : c / 60 % 60 < 60 := by omega
  have b3 : c % 60 < 60 := by omega
  have b4 : c / 60 < 1440 := by omega
  have q1 : (c : Int).tdiv 3600 = ((c / 3600 : Nat) : Int) := by rw [Int.tdiv_eq_ediv_of_nonneg (by omega)]; omega
  have q1' : (c : Int) / 3600 = ((c / 3600 : Nat) : Int) := by omega
  have q2 : (c : Int).tdiv 60 = ((c / 60 : Nat) : Int) := by rw [Int.tdiv_eq_ediv_of_nonneg (by omega)]; omega
  have q2' : (c : Int) / 60 = ((c / 60 : Nat) : Int) := by omega
  have q3 : ((c / 60 : Nat) : Int).tmod 60 = ((c / 60 % 60 : Nat) : Int) := by rw [Int.tmod_eq_emod_of_nonneg (by omega)]; omega
  have q3' : ((c / 60 : Nat) : Int) % 60 = ((c / 60 % 60 : Nat) : Int) := by omega
  have q4 : (c : Int).tmod 60 = ((c % 60 : Nat) : Int) := by rw [Int.tmod_eq_emod_of_nonneg (by omega)]; omega
  have q4' : (c : Int) % 60 = ((c % 60 : Nat) : Int) := by omega
  obtain ⟨T, hT⟩ : ∃ T : Int, T = ((D : Int) - 719162) * 86400 + (c : Int) := ⟨_, rfl⟩
  rw [← hT]
  obtain ⟨q, r, hq, hr, hqr⟩ := tdiv_of T
  have t1 : T / 86400 = (D : Int) - 719162 := by omega
  have t2 : T % 86400 = (c : Int) := by omega
  rw [t1, t2] at hqr
  clear t1 t2 hT
  have HH := hid (HG.out 2 (c / 3600) (by omega) (by omega))
  have HM := hid (HG.out 2 (c / 60 % 60) (by omega) (by omega))
  have HS := hid (HG.out 2 (c % 60) (by omega) (by omega))
  change Hid (∀ W : World, Calls Tryd.prog 55 #[.int .i64 ((c / 3600 : Nat) : Int), .int .i64 2] W fun e w' => e = .returned (.string (asS (dig 2 (c / 3600)))) ∧ Below W.heap.size W w') at HH
  change Hid (∀ W : World, Calls Tryd.prog 55 #[.int .i64 ((c / 60 % 60 : Nat) : Int), .int .i64 2] W fun e w' => e = .returned (.string (asS (dig 2 (c / 60 % 60)))) ∧ Below W.heap.size W w') at HM
  change Hid (∀ W : World, Calls Tryd.prog 55 #[.int .i64 ((c % 60 : Nat) : Int), .int .i64 2] W fun e w' => e = .returned (.string (asS (dig 2 (c % 60)))) ∧ Below W.heap.size W w') at HS
  have zH : (asS (dig 2 (c / 3600))).size = 2 := by rw [asS_size, dig_len]
  have zM : (asS (dig 2 (c / 60 % 60))).size = 2 := by rw [asS_size, dig_len]
  have zS : (asS (dig 2 (c % 60))).size = 2 := by rw [asS_size, dig_len]
  have HLP := hid (fun y m d => HLL.out y m d (c / 3600) (c / 60 % 60) (c % 60))
  clear HLL hmi
  generalize c / 3600 = h at *
  generalize hcm : c / 60 = cm at *
  clear hcm
  generalize cm % 60 = mi at *
  generalize c % 60 = s at *
  generalize asS (dig 2 h) = SH at *
  generalize asS (dig 2 mi) = SM at *
  generalize asS (dig 2 s) = SS at *
  obtain ⟨N, hN⟩ : ∃ N : Int, N = (D : Int) - 719162 := ⟨_, rfl⟩
  rw [← hN] at HCI hqr
  have n2 : -719162 ≤ N ∧ N < 2932897 := by omega
  clear hN
  have b5 : -800000 ≤ q ∧ q ≤ 3000000 := by omega
  rcases hqr with ⟨r1, r2, r3, r4⟩ | ⟨r1, r2, r3, r4⟩
  · go_enter Tryd.func22, Tryd.ntmps22
    go_wp2_with fail
    refine (HCI.out _).mono ?_
    rintro e w1 ⟨⟨y, m, d, hd, hy, rfl⟩, rfl⟩
    have HDD := hid hd
    have HYY := hid hy
    have hl31 := long_31 y m
    unfold DateD at hd
    have y1 : y < 10000 := by omega
    have y2 : m < 100 := by omega
    have y3 : d < 100 := by omega
    have y4 : ((y : Int) == 0) = false := by rw [beq_eq_false_iff_ne]; omega
    clear hd hy hl31
    have HY := hid (HG.out 4 y (by omega) (by omega))
    have HMO := hid (HG.out 2 m (by omega) (by omega))
    have HDA := hid (HG.out 2 d (by omega) (by omega))
    change Hid (∀ W : World, Calls Tryd.prog 55 #[.int .i64 (y : Int), .int .i64 4] W fun e w' => e = .returned (.string (asS (dig 4 y))) ∧ Below W.heap.size W w') at HY
    change Hid (∀ W : World, Calls Tryd.prog 55 #[.int .i64 (m : Int), .int .i64 2] W fun e w' => e = .returned (.string (asS (dig 2 m))) ∧ Below W.heap.size W w') at HMO
    change Hid (∀ W : World, Calls Tryd.prog 55 #[.int .i64 (d : Int), .int .i64 2] W fun e w' => e = .returned (.string (asS (dig 2 d))) ∧ Below W.heap.size W w') at HDA
    have HLX := hid (HLP.out y m d)
    have zY : (asS (dig 4 y)).size = 4 := by rw [asS_size, dig_len]
    have zO : (asS (dig 2 m)).size = 2 := by rw [asS_size, dig_len]
    have zD : (asS (dig 2 d)).size = 2 := by rw [asS_size, dig_len]
    clear HG HLP
    generalize asS (dig 4 y) = SY at *
    generalize asS (dig 2 m) = SO at *
    generalize asS (dig 2 d) = SD at *
    go_wp2_with fail
    refine (HY.out _).mono ?_
    rintro e w2 ⟨rfl, hb2⟩
    go_wp2_with fail
    refine (HMO.out _).mono ?_
    rintro e w3 ⟨rfl, hb3⟩
    go_wp2_with fail
    refine (HDA.out _).mono ?_
    rintro e w4 ⟨rfl, hb4⟩
    go_wp2_with fail
    refine (HH.out _).mono ?_
    rintro e w5 ⟨rfl, hb5⟩
    go_wp2_with fail
    refine (HM.out _).mono ?_
    rintro e w6 ⟨rfl, hb6⟩
    go_wp2_with fail
    refine (HS.out _).mono ?_
    rintro e w7 ⟨rfl, hb7⟩
    go_wp2_with fail
    go_ret
    exact ⟨⟨y, m, d, HDD.out, HYY.out, by rw [← HLX.out]; rfl⟩, b_two (b_two (b_two (b_two (b_two hb2 hb3) hb4) hb5) hb6) hb7⟩
  · subst r3
    subst r4
    have r5 : ¬ (c : Int) < 0 := by omega
    go_enter Tryd.func22, Tryd.ntmps22
    go_wp2_with fail
    refine (HCI.out _).mono ?_
    rintro e w1 ⟨⟨y, m, d, hd, hy, rfl⟩, rfl⟩
    have HDD := hid hd
    have HYY := hid hy
    have hl31 := long_31 y m
    unfold DateD at hd
    have y1 : y < 10000 := by omega
    have y2 : m < 100 := by omega
    have y3 : d < 100 := by omega
    have y4 : ((y : Int) == 0) = false := by rw [beq_eq_false_iff_ne]; omega
    clear hd hy hl31
    have HY := hid (HG.out 4 y (by omega) (by omega))
    have HMO := hid (HG.out 2 m (by omega) (by omega))
    have HDA := hid (HG.out 2 d (by omega) (by omega))
    change Hid (∀ W : World, Calls Tryd.prog 55 #[.int .i64 (y : Int), .int .i64 4] W fun e w' => e = .returned (.string (asS (dig 4 y))) ∧ Below W.heap.size W w') at HY
    change Hid (∀ W : World, Calls Tryd.prog 55 #[.int .i64 (m : Int), .int .i64 2] W fun e w' => e = .returned (.string (asS (dig 2 m))) ∧ Below W.heap.size W w') at HMO
    change Hid (∀ W : World, Calls Tryd.prog 55 #[.int .i64 (d : Int), .int .i64 2] W fun e w' => e = .returned (.string (asS (dig 2 d))) ∧ Below W.heap.size W w') at HDA
    have HLX := hid (HLP.out y m d)
    have zY : (asS (dig 4 y)).size = 4 := by rw [asS_size, dig_len]
    have zO : (asS (dig 2 m)).size = 2 := by rw [asS_size, dig_len]
    have zD : (asS (dig 2 d)).size = 2 := by rw [asS_size, dig_len]
    clear HG HLP
    generalize asS (dig 4 y) = SY at *
    generalize asS (dig 2 m) = SO at *
    generalize asS (dig 2 d) = SD at *
    go_wp2_with fail
    refine (HY.out _).mono ?_
    rintro e w2 ⟨rfl, hb2⟩
    go_wp2_with fail
    refine (HMO.out _).mono ?_
    rintro e w3 ⟨rfl, hb3⟩
    go_wp2_with fail
    refine (HDA.out _).mono ?_
    rintro e w4 ⟨rfl, hb4⟩
    go_wp2_with fail
    refine (HH.out _).mono ?_
    rintro e w5 ⟨rfl, hb5⟩
    go_wp2_with fail
    refine (HM.out _).mono ?_
    rintro e w6 ⟨rfl, hb6⟩
    go_wp2_with fail
    refine (HS.out _).mono ?_
    rintro e w7 ⟨rfl, hb7⟩
    go_wp2_with fail
    go_ret
    exact ⟨⟨y, m, d, HDD.out, HYY.out, by rw [← HLX.out]; rfl⟩, b_two (b_two (b_two (b_two (b_two hb2 hb3) hb4) hb5) hb6) hb7⟩
end Go.Proofs.YthpplcadpngdiaaDoor
