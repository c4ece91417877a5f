
/- What the law's own pair, four and spell do. -/
import Derived.Test.YthpplcadpngdiaaDoorDtRPr
namespace Go.Proofs.YthpplcadpngdiaaDoor
set_option linter.unusedVariables false
set_option linter.unusedSimpArgs false
open Go.RowKit Go.BigFrame

theorem dig_two (n : Nat) (h : n < 100) : dig 2 n = [UInt8.ofNat (48 + n / 10)] ++ [UInt8.ofNat (48 + n % 10)] := by
  show ([] ++ [UInt8.ofNat (48 + n / 10 % 10)]) ++ [UInt8.ofNat (48 + n % 10)] = _
  rw [Nat.mod_eq_of_lt (show n / 10 < 10 by omega)]
  rfl
theorem dig_4 (n : Nat) (h : n < 10000) : dig 2 (n / 100) ++ dig 2 (n % 100) = dig 4 n := by
  rw [dig_two _ (by omega), dig_two _ (by omega)]
  show _ = (((([] ++ [UInt8.ofNat (48 + n / 10 / 10 / 10 % 10)]) ++ [UInt8.ofNat (48 + n / 10 / 10 % 10)]) ++ [UInt8.ofNat (48 + n / 10 % 10)]) ++ [UInt8.ofNat (48 + n % 10)])
  rw [show n / 10 / 10 / 10 % 10 = n / 100 / 10 by omega, show n / 10 / 10 % 10 = n / 100 % 10 by omega, show n / 10 % 10 = n % 100 / 10 by omega, show n % 10 = n % 100 % 10 by omega]
  rfl
set_option maxHeartbeats 1000000 in
theorem pair_any (n : Nat) (hn : n < 100) (w : World) : Calls Tryd.prog 25 #[.int .i64 (n : Int)] w fun e w' => e = .returned (.string (asS (dig 2 n))) ∧ Below w.heap.size w w' := by
  have h1 := fun W => slice_tenD (n / 10) (by omega) W
  have h2 := fun W => slice_tenD (n % 10) (by omega) W
  have HAP : Hid (asS [UInt8.ofNat (48 + n / 10)] ++ asS [UInt8.ofNat (48 + n % 10)] = asS (dig 2 n)) := by show _ = _; rw [dig_two n hn]; exact asS_app _ _
  have q1 : (n : Int).tdiv 10 = ((n / 10 : Nat) : Int) := by rw [Int.tdiv_eq_ediv_of_nonneg (by omega)]; omega
  have q1' : (n : Int) / 10 = ((n / 10 : Nat) : Int) := by omega
  have q2 : (n : Int).tmod 10 = ((n % 10 : Nat) : Int) := by rw [Int.tmod_eq_emod_of_nonneg (by omega)]; omega
  have q2' : (n : Int) % 10 = ((n % 10 : Nat) : Int) := by omega
  have b1 : n / 10 < 10 := by omega
  have b2 : n % 10 < 10 := by omega
  have hz : ¬ (9223372036854775807 < (asS [UInt8.ofNat (48 + n / 10)]).size + (asS [UInt8.ofNat (48 + n % 10)]).size) := by rw [asS_size, asS_size]; simp
  generalize asS (dig 2 n) = R at *
  generalize asS [UInt8.ofNat (48 + n / 10)] = S1 at *
  generalize asS [UInt8.ofNat (48 + n % 10)] = S2 at *
  generalize n / 10 = q at *
  generalize n % 10 = r at *
  go_enter Tryd.func25, Tryd.ntmps25
  go_wp2_with fail
  refine wp_region_quiet_below (by kernel_rfl) (by kernel_rfl) ?_
  repeat (go_big_quiet_step (fail))
  refine wpQuiet_nil ?_
  rintro W9 ⟨⟨dq, osq⟩, hw9⟩
  have HB9 : Hid (Below w.heap.size w W9) := by rw [hw9]; exact below_regrown w dq osq
  clear hw9
  go_wp2_with fail
  go_ret
  exact ⟨by rw [← HAP.out]; rfl, HB9.out⟩
set_option maxHeartbeats 1000000 in
theorem four_any (n : Nat) (hn : n < 10000) (w : World) : Calls Tryd.prog 24 #[.int .i64 (n : Int)] w fun e w' => e = .returned (.string (asS (dig 4 n))) ∧ Below w.heap.size w w' := by
  have H1 := hid (fun W => pair_any (n / 100) (by omega) W)
  have H2 := hid (fun W => pair_any (n % 100) (by omega) W)
  have HAP : Hid (asS (dig 2 (n / 100)) ++ asS (dig 2 (n % 100)) = asS (dig 4 n)) := by show _ = _; rw [← dig_4 n hn]; exact asS_app _ _
  have q1 : (n : Int).tdiv 100 = ((n / 100 : Nat) : Int) := by rw [Int.tdiv_eq_ediv_of_nonneg (by omega)]; omega
  have q1' : (n : Int) / 100 = ((n / 100 : Nat) : Int) := by omega
  have q2 : (n : Int).tmod 100 = ((n % 100 : Nat) : Int) := by rw [Int.tmod_eq_emod_of_nonneg (by omega)]; omega
  have q2' : (n : Int) % 100 = ((n % 100 : Nat) : Int) := by omega
  have b1 : n / 100 < 100 := by omega
  have b2 : n % 100 < 100 := by omega
  have z1 : (asS (dig 2 (n / 100))).size = 2 := by rw [asS_size, dig_len]
  have z2 : (asS (dig 2 (n % 100))).size = 2 := by rw [asS_size, dig_len]
  generalize asS (dig 4 n) = R at *
  generalize asS (dig 2 (n / 100)) = S1 at *
  generalize asS (dig 2 (n % 100)) = S2 at *
  generalize n / 100 = q at *
  generalize n % 100 = r at *
  go_enter Tryd.func24, Tryd.ntmps24
  go_wp2_with fail
  refine (H1.out _).mono ?_
  rintro e w1 ⟨rfl, hb1⟩
  go_wp2_with fail
  refine (H2.out _).mono ?_
  rintro e w2 ⟨rfl, hb2⟩
  go_wp2_with fail
  go_ret
  exact ⟨by rw [← HAP.out]; rfl, b_two hb1 hb2⟩
theorem clkL_spell (h mi s : Nat) : asS (dig 2 h) ++ ⟨#[58]⟩ ++ asS (dig 2 mi) ++ ⟨#[58]⟩ ++ asS (dig 2 s) = asS (clkL h mi s) := by
  rw [show (⟨#[58]⟩ : ByteArray) = asS [58] from rfl]
  simp only [asS_apps]
  unfold clkL
  simp only [List.append_assoc, List.cons_append, List.nil_append]
def sp3 (A B C : ByteArray) : Array Value := #[.string A, .string B, .string C]
theorem sp3_info (A B C : ByteArray) : (Tryd.prog.info? 45).map (·.size) = some (sp3 A B C).size := (show (Tryd.prog.info? 45).map (·.size) = some 3 by kernel_rfl)
theorem sp3_one (A B C : ByteArray) : (sp3 A B C).all (·.oneCell') = true := by simp [sp3, Value.oneCell']
theorem sp3_over (cs : Array Value) (h : cs.size = 3) (A B C : ByteArray) : over cs 0 (sp3 A B C).toList = sp3 A B C := by
  match cs, h with
  | ⟨[a, b, c]⟩, _ => rfl
set_option maxHeartbeats 2000000 in
theorem spell_any (c z : Nat) (hc : c < 86400) (hz : z < 1440) (w : World) : Calls Tryd.prog 23 #[.int .i64 (c : Int), .int .i64 (z : Int)] w fun e w' => e = .returned (.agg #[.string (asS (clkL (c / 3600) (c / 60 % 60) (c % 60))), .string (asS (dig 2 (z / 60))), .string (asS (dig 2 (z % 60)))]) ∧ Below w.heap.size w w' := by
  have H1 := hid (fun W => pair_any (c / 3600) (by omega) W)
  have H2 := hid (fun W => pair_any (c / 60 % 60) (by omega) W)
  have H3 := hid (fun W => pair_any (c % 60) (by omega) W)
  have H4 := hid (fun W => pair_any (z / 60) (by omega) W)
  have H5 := hid (fun W => pair_any (z % 60) (by omega) W)
  have HAP := hid (clkL_spell (c / 3600) (c / 60 % 60) (c % 60))
  have b1 : c / 3600 < 24 := by omega
  have b2 : c / 60 % 60 < 60 := by omega
  have b3 : c % 60 < 60 := by omega
  have b4 : c / 60 < 1440 := by omega
  have b5 : z / 60 < 24 := by omega
  have b6 : z % 60 < 60 := by omega
  have q1 : (c : Int).tdiv 3600 = ((c / 3600 : Nat) : Int) := by rw [Int.tdiv_eq_ediv_of_nonneg (by omega)]; omega
  have q1' : (c : Int) / 3600 = ((c / 3600 : Nat) : Int) := by omega
  have q2 : (c : Int).tdiv 60 = ((c / 60 : Nat) : Int) := by rw [Int.tdiv_eq_ediv_of_nonneg (by omega)]; omega
  have q2' : (c : Int) / 60 = ((c / 60 : Nat) : Int) := by omega
  have q3 : ((c / 60 : Nat) : Int).tmod 60 = ((c / 60 % 60 : Nat) : Int) := by rw [Int.tmod_eq_emod_of_nonneg (by omega)]; omega
  have q3' : ((c / 60 : Nat) : Int) % 60 = ((c / 60 % 60 : Nat) : Int) := by omega
  have q4 : (c : Int).tmod 60 = ((c % 60 : Nat) : Int) := by rw [Int.tmod_eq_emod_of_nonneg (by omega)]; omega
  have q4' : (c : Int) % 60 = ((c % 60 : Nat) : Int) := by omega
  have q5 : (z : Int).tdiv 60 = ((z / 60 : Nat) : Int) := by rw [Int.tdiv_eq_ediv_of_nonneg (by omega)]; omega
  have q5' : (z : Int) / 60 = ((z / 60 : Nat) : Int) := by omega
  have q6 : (z : Int).tmod 60 = ((z % 60 : Nat) : Int) := by rw [Int.tmod_eq_emod_of_nonneg (by omega)]; omega
  have q6' : (z : Int) % 60 = ((z % 60 : Nat) : Int) := by omega
  have z1 : (asS (dig 2 (c / 3600))).size = 2 := by rw [asS_size, dig_len]
  have z2 : (asS (dig 2 (c / 60 % 60))).size = 2 := by rw [asS_size, dig_len]
  have z3 : (asS (dig 2 (c % 60))).size = 2 := by rw [asS_size, dig_len]
  generalize asS (clkL (c / 3600) (c / 60 % 60) (c % 60)) = R at *
  generalize c / 3600 = h at *
  generalize hcm : c / 60 = cm at *
  clear hcm
  generalize cm % 60 = mi at *
  generalize c % 60 = s at *
  generalize z / 60 = zh at *
  generalize z % 60 = zm at *
  generalize asS (dig 2 h) = SH at *
  generalize asS (dig 2 mi) = SM at *
  generalize asS (dig 2 s) = SS at *
  generalize asS (dig 2 zh) = ZH at *
  generalize asS (dig 2 zm) = ZM at *
  go_enter Tryd.func23, Tryd.ntmps23
  go_wp2_with fail
  refine (H1.out _).mono ?_
  rintro e w1 ⟨rfl, hb1⟩
  have hr1 : w1.heap[w.heap.size]? = some (.cells #[.string ⟨#[]⟩, .string ⟨#[]⟩, .string ⟨#[]⟩] 45 (0, 0)) := (hb1.block w.heap.size (by simp)).trans (heap_alloc_new w _)
  have HB1 : Hid (Below w.heap.size w w1) := b_alloc (Below.refl _ w) hb1
  go_wp2_with fail
  refine (H2.out _).mono ?_
  rintro e w2 ⟨rfl, hb2⟩
  go_wp2_with fail
  refine (H3.out _).mono ?_
  rintro e w3 ⟨rfl, hb3⟩
  go_wp2_with fail
  refine (H4.out _).mono ?_
  rintro e w4 ⟨rfl, hb4⟩
  go_wp2_with fail
  refine (H5.out _).mono ?_
  rintro e w5 ⟨rfl, hb5⟩
  have hlt : w.heap.size < w1.heap.size := by
    rcases Nat.lt_or_ge w.heap.size w1.heap.size with h | h
    · exact h
    · rw [Array.getElem?_eq_none h] at hr1; cases hr1
  have HB5 : Hid (Below w1.heap.size w1 w5) := b_two (b_two (b_two hb2 hb3) hb4) hb5
  have HR5 : Hid (w5.heap[w.heap.size]? = some (.cells #[.string ⟨#[]⟩, .string ⟨#[]⟩, .string ⟨#[]⟩] 45 (0, 0))) := (HB5.out.block w.heap.size hlt).trans hr1
  have HB6 : Hid (Below w.heap.size w w5) := b_two HB1.out HB5.out
  clear hb1 hb2 hb3 hb4 hb5 hr1 HB1 HB5
  go_wp2_with (refine wpList_store_abs rfl 45 (.tmp 4) (.tmp 25) rfl w.heap.size 0 (sp3 (SH ++ ⟨#[58]⟩ ++ SM ++ ⟨#[58]⟩ ++ SS) ZH ZM) rfl rfl 45 _ HR5.out (Nat.le_refl 3) (sp3_info _ _ _) (sp3_one _ _ _) ?_; intro W6 hO6 hW6)
  rw [sp3_over _ rfl] at hW6
  exact bodyPost_ret (v := .agg (sp3 (SH ++ ⟨#[58]⟩ ++ SM ++ ⟨#[58]⟩ ++ SS) ZH ZM)) (results_cell_row (p := 4) (ty := 45) Tryd.results23 _ _ w.heap.size 45 _ (0, 0) (.array 3 9) rfl hW6 Tryd.underlying45 rfl (sp3_info _ _ _)) rfl ⟨by rw [← HAP.out]; rfl, HB6.out.trans (hO6.below (Nat.le_refl _))⟩
end Go.Proofs.YthpplcadpngdiaaDoor
