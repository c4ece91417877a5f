
/- What date.Print does. -/
import Derived.Test.YthpplcadpngdiaaDoorDtPr
namespace Go.Proofs.YthpplcadpngdiaaDoor
set_option linter.unusedVariables false
set_option linter.unusedSimpArgs false
open Go.RowKit Go.BigFrame

theorem padded4 (n : Nat) (hn : n < 10000) (w : World) (hT : TabD w) : Calls Tryd.prog 54 #[.int .i64 (n : Int), .int .i64 4] w fun e w' => e = .returned (.string (asS (dig 4 n))) ∧ Below w.heap.size w w' := padded_any n 3 (by omega) (by simpa using hn) w hT
theorem padded2 (n : Nat) (hn : n < 100) (w : World) (hT : TabD w) : Calls Tryd.prog 54 #[.int .i64 (n : Int), .int .i64 2] w fun e w' => e = .returned (.string (asS (dig 2 n))) ∧ Below w.heap.size w w' := padded_any n 1 (by omega) (by simpa using hn) w hT
theorem asS_apps (a b : List UInt8) : asS a ++ asS b = asS (a ++ b) := asS_app a b
theorem dayL_prog (y m d h mi s : Nat) : ((asS (dig 4 y) ++ ⟨#[45]⟩ ++ asS (dig 2 m) ++ ⟨#[45]⟩ ++ asS (dig 2 d)) ++ ⟨#[84]⟩ ++ (asS (dig 2 h) ++ ⟨#[58]⟩ ++ asS (dig 2 mi) ++ ⟨#[58]⟩ ++ asS (dig 2 s))) ++ ⟨#[90]⟩ = asS (dayL y m d h mi s [90]) := by
  rw [show (⟨#[45]⟩ : ByteArray) = asS [45] from rfl, show (⟨#[84]⟩ : ByteArray) = asS [84] from rfl, show (⟨#[58]⟩ : ByteArray) = asS [58] from rfl, show (⟨#[90]⟩ : ByteArray) = asS [90] from rfl]
  simp only [asS_apps]
  unfold dayL
  simp only [List.append_assoc, List.cons_append, List.nil_append]
theorem print_no (t : Int) (h : t < -62135596800 ∨ 253402300799 < t) (w : World) : Calls Tryd.prog 21 #[.int .i64 t] w fun e w' => e = .returned (.tuple #[.string ⟨#[]⟩, .int .i64 1]) ∧ w' = w := by
  by_cases h1 : t < -62135596800
  · go_enter Tryd.func21, Tryd.ntmps21
    go_wp2_with fail
    go_ret2
    exact ⟨rfl, rfl⟩
  · have h2 : 253402300799 < t := by omega
    go_enter Tryd.func21, Tryd.ntmps21
    go_wp2_with fail
    go_ret2
    exact ⟨rfl, rfl⟩
set_option maxHeartbeats 2000000 in
set_option maxRecDepth 1000000 in
theorem print_yes (D c : Nat) (hD : D < 3652059) (hc : c < 86400) (w : World) (hT : TabD w) : Calls Tryd.prog 21 #[.int .i64 (((D : Int) - 719162) * 86400 + (c : Int))] w fun e w' => (∃ y m d : Nat, DateD y m d ∧ dayD y m d = D ∧ e = .returned (.tuple #[.string (asS (dayL y m d (c / 3600) (c % 3600 / 60) (c % 60) [90])), .int .i64 0])) ∧ Below w.heap.size w w' := by
  have HCI := hid (fun W => civil_yes D hD W)
  have HP4 := hid (fun n hn W hT => padded4 n hn W hT)
  have HP2 := hid (fun n hn W hT => padded2 n hn W hT)
  have HLL := hid dayL_prog
  have HTT := hid hT
  clear hT
  have b1 : c / 3600 < 24 := by omega
  have b2 : c % 3600 / 60 < 60 := by omega
  have b3 : c % 60 < 60 := by omega
  have HH := hid (HP2.out (c / 3600) (by omega))
  have HM := hid (HP2.out (c % 3600 / 60) (by omega))
  have HS := hid (HP2.out (c % 60) (by omega))
  have q1 : (c : Int).tdiv 3600 = ((c / 3600 : Nat) : Int) := by rw [Int.tdiv_eq_ediv_of_nonneg (by omega)]; omega
  have q1' : (c : Int) / 3600 = ((c / 3600 : Nat) : Int) := by omega
  have q2 : (c : Int).tmod 3600 = ((c % 3600 : Nat) : Int) := by rw [Int.tmod_eq_emod_of_nonneg (by omega)]; omega
  have q2' : (c : Int) % 3600 = ((c % 3600 : Nat) : Int) := by omega
  have q3 : ((c % 3600 : Nat) : Int).tdiv 60 = ((c % 3600 / 60 : Nat) : Int) := by rw [Int.tdiv_eq_ediv_of_nonneg (by omega)]; omega
  have q3' : ((c % 3600 : Nat) : Int) / 60 = ((c % 3600 / 60 : Nat) : Int) := by omega
  have q4 : (c : Int).tmod 60 = ((c % 60 : Nat) : Int) := by rw [Int.tmod_eq_emod_of_nonneg (by omega)]; omega
  have q4' : (c : Int) % 60 = ((c % 60 : Nat) : Int) := by omega
  have b4 : c % 3600 < 3600 := by omega
  obtain ⟨S, hS⟩ : ∃ S : Nat, S = D * 86400 + c := ⟨_, rfl⟩
  have s1 : (S : Int).tdiv 86400 = (D : Int) := by rw [Int.tdiv_eq_ediv_of_nonneg (by omega)]; omega
  have s1' : (S : Int) / 86400 = (D : Int) := by omega
  have s2 : (S : Int).tmod 86400 = (c : Int) := by rw [Int.tmod_eq_emod_of_nonneg (by omega)]; omega
  have s2' : (S : Int) % 86400 = (c : Int) := by omega
  have sb : S < 315537897600 := by omega
  obtain ⟨T, hT⟩ : ∃ T : Int, T = ((D : Int) - 719162) * 86400 + (c : Int) := ⟨_, rfl⟩
  rw [← hT]
  have t1 : ¬ T < -62135596800 := by omega
  have t2 : ¬ 253402300799 < T := by omega
  have t3 : T - -62135596800 = (S : Int) := by omega
  have t4 : T + 62135596800 = (S : Int) := by omega
  clear hT hS
  obtain ⟨N, hN⟩ : ∃ N : Int, N = (D : Int) - 719162 := ⟨_, rfl⟩
  rw [← hN] at HCI
  have n1 : -719162 + (D : Int) = N := by omega
  have n2 : -719162 ≤ N ∧ N < 2932897 := by omega
  clear hN
  have zH : (asS (dig 2 (c / 3600))).size = 2 := by rw [asS_size, dig_len]
  have zM : (asS (dig 2 (c % 3600 / 60))).size = 2 := by rw [asS_size, dig_len]
  have zS : (asS (dig 2 (c % 60))).size = 2 := by rw [asS_size, dig_len]
  have HLP := hid (fun y m d => HLL.out y m d (c / 3600) (c % 3600 / 60) (c % 60))
  clear HLL
  generalize c / 3600 = h at *
  generalize hr : c % 3600 = r at *
  clear hr
  generalize r / 60 = mi at *
  generalize c % 60 = s at *
  generalize asS (dig 2 h) = SH at *
  generalize asS (dig 2 mi) = SM at *
  generalize asS (dig 2 s) = SS at *
  go_enter Tryd.func21, Tryd.ntmps21
  go_wp2_with fail
  refine (HCI.out _).mono ?_
  rintro e w1 ⟨⟨y, m, d, hd, hy, rfl⟩, rfl⟩
  have HDD := hid hd
  have HYY := hid hy
  have hl31 := long_31 y m
  unfold DateD at hd
  have y1 : y < 10000 := by omega
  have y2 : m < 100 := by omega
  have y3 : d < 100 := by omega
  clear hd hy hl31
  have HY := hid (HP4.out y y1)
  have HMO := hid (HP2.out m y2)
  have HDA := hid (HP2.out d y3)
  have HLX := hid (HLP.out y m d)
  have zY : (asS (dig 4 y)).size = 4 := by rw [asS_size, dig_len]
  have zO : (asS (dig 2 m)).size = 2 := by rw [asS_size, dig_len]
  have zD : (asS (dig 2 d)).size = 2 := by rw [asS_size, dig_len]
  clear HP4 HP2 HLP
  generalize asS (dig 4 y) = SY at *
  generalize asS (dig 2 m) = SO at *
  generalize asS (dig 2 d) = SD at *
  go_wp2_with fail
  refine (HY.out _ HTT.out).mono ?_
  rintro e w2 ⟨rfl, hb2⟩
  have HT2 := hid (HTT.out.below hb2)
  go_wp2_with fail
  refine (HMO.out _ HT2.out).mono ?_
  rintro e w3 ⟨rfl, hb3⟩
  have HT3 := hid (HT2.out.below hb3)
  go_wp2_with fail
  refine (HDA.out _ HT3.out).mono ?_
  rintro e w4 ⟨rfl, hb4⟩
  have HT4 := hid (HT3.out.below hb4)
  go_wp2_with fail
  refine (HH.out _ HT4.out).mono ?_
  rintro e w5 ⟨rfl, hb5⟩
  have HT5 := hid (HT4.out.below hb5)
  go_wp2_with fail
  refine (HM.out _ HT5.out).mono ?_
  rintro e w6 ⟨rfl, hb6⟩
  have HT6 := hid (HT5.out.below hb6)
  go_wp2_with fail
  refine (HS.out _ HT6.out).mono ?_
  rintro e w7 ⟨rfl, hb7⟩
  go_wp2_with fail
  go_ret2
  exact ⟨⟨y, m, d, HDD.out, HYY.out, by rw [← HLX.out]; rfl⟩, b_two (b_two (b_two (b_two (b_two hb2 hb3) hb4) hb5) hb6) hb7⟩
end Go.Proofs.YthpplcadpngdiaaDoor
