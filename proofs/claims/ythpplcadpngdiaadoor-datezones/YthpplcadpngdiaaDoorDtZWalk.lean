
/- The law of zones, walked. -/
import Derived.Test.YthpplcadpngdiaaDoorDtZLaw
namespace Go.Proofs.YthpplcadpngdiaaDoor
set_option linter.unusedVariables false
set_option linter.unusedSimpArgs false
open Go.RowKit Go.BigFrame

theorem cell_re {w : World} {p : Addr} {v : Value} (h : w.cell? p = some v) (d : Nat) (os : Array Obj) : (Sort.grow (redrawn w d) os).cell? p = some v := by
  rw [(below_regrown w d os).cell (block_lt_of_cell h)]; exact h
theorem monL_size (m : Nat) : (asS (monL m)).size ≤ 3 := by rw [asS_size]; unfold monL; rw [List.length_take]; omega
set_option maxHeartbeats 4000000 in
set_option maxRecDepth 1000000 in
theorem zones_walk (D k z0 : Nat) (hD : D < 3652059) (hk : k < 4294967296) (hz0 : z0 < 65536) (w : World) (hT : TabD w) : Calls Tryd.prog 7 #[.int .i64 ((D : Int) - 719162), .int .u32 (k : Int), .int .u16 (z0 : Int)] w fun e w' => e = .returned (.bool true) ∧ Below w.heap.size w w' := by
  have HCI := hid (fun W => refCivil_yes D hD W)
  have hc : k % 86400 < 86400 := by omega
  have hz : z0 % 1440 < 1440 := by omega
  have HSP := hid (fun W => spell_any (k % 86400) (z0 % 1440) hc hz W)
  have HR3 := hid (fun y m d hd hD g hg V hV W => r3_zone y m d (k % 86400) (z0 % 1440) D hd hD hc hz g hg V hV W)
  have HR8 := hid (fun y m d hd hD g hg V hV W h => r8_zone y m d (k % 86400) (z0 % 1440) D hd hD hc hz g hg V hV W h)
  have HA := hid (fun W h => awake14 W h)
  have HTT := hid hT
  have q1 : (k : Int).tmod 86400 = ((k % 86400 : Nat) : Int) := by rw [Int.tmod_eq_emod_of_nonneg (by omega)]; omega
  have q1' : (k : Int) % 86400 = ((k % 86400 : Nat) : Int) := by omega
  have q2 : (z0 : Int).tmod 1440 = ((z0 % 1440 : Nat) : Int) := by rw [Int.tmod_eq_emod_of_nonneg (by omega)]; omega
  have q2' : (z0 : Int) % 1440 = ((z0 % 1440 : Nat) : Int) := by omega
  clear hT
  generalize k % 86400 = c at *
  generalize z0 % 1440 = z at *
  have zA : (asS (clkL (c / 3600) (c / 60 % 60) (c % 60))).size = 8 := by rw [asS_size, clk_len]
  have zH : (asS (dig 2 (z / 60))).size = 2 := by rw [asS_size, dig_len]
  have zM : (asS (dig 2 (z % 60))).size = 2 := by rw [asS_size, dig_len]
  generalize asS (clkL (c / 3600) (c / 60 % 60) (c % 60)) = A at *
  generalize asS (dig 2 (z / 60)) = ZH at *
  generalize asS (dig 2 (z % 60)) = ZM at *
  obtain ⟨N, hN⟩ : ∃ N : Int, N = (D : Int) - 719162 := ⟨_, rfl⟩
  rw [← hN]
  rw [← hN] at HCI HR3 HR8
  have hNb : -719162 ≤ N ∧ N < 2932897 := by omega
  clear hN
  go_enter Tryd.func7, Tryd.ntmps7
  go_wp2_with fail
  refine (HCI.out _).mono ?_
  rintro e w1 ⟨⟨y, m, d, hd, hy, rfl⟩, rfl⟩
  have h31 := long_31 y m
  have hd' := hd
  unfold DateD at hd'
  have y1 : y < 10000 := by omega
  have y2 : m < 100 := by omega
  have y3 : d < 100 := by omega
  have hyb : ((y : Int) == 0) = false := by rw [beq_eq_false_iff_ne]; omega
  have hms := fun W => mon_cut m (by omega) (by omega) W
  have HFY := hid (fun W => four_any y y1 W)
  have HPM := hid (fun W => pair_any m y2 W)
  have HPD := hid (fun W => pair_any d y3 W)
  have R1 := hid (fun W => HR3.out y m d hd hy 43 (.inl rfl) (N * 86400 + (c : Int) - (z : Int) * 60) (by rw [if_neg (by decide)]) W)
  have R2 := hid (fun W => HR3.out y m d hd hy 45 (.inr rfl) (N * 86400 + (c : Int) + (z : Int) * 60) (by rw [if_pos rfl]) W)
  have R3 := hid (fun W h => HR8.out y m d hd hy 43 (.inl rfl) (N * 86400 + (c : Int) - (z : Int) * 60) (by rw [if_neg (by decide)]) W h)
  have R4 := hid (fun W h => HR8.out y m d hd hy 45 (.inr rfl) (N * 86400 + (c : Int) + (z : Int) * 60) (by rw [if_pos rfl]) W h)
  have zY : (asS (dig 4 y)).size = 4 := by rw [asS_size, dig_len]
  have zO : (asS (dig 2 m)).size = 2 := by rw [asS_size, dig_len]
  have zD : (asS (dig 2 d)).size = 2 := by rw [asS_size, dig_len]
  have zL := monL_size m
  have hm12 : m ≤ 12 ∧ 1 ≤ m := by omega
  clear hd hy hd' h31 HR3 HR8 HCI
  generalize asS (dig 4 y) = SY at *
  generalize asS (dig 2 m) = SO at *
  generalize asS (dig 2 d) = SD at *
  generalize asS (monL m) = SL at *
  go_wp2_with fail
  refine (HSP.out _).mono ?_
  rintro e w2 ⟨rfl, hb2⟩
  go_wp2_with fail
  obtain ⟨V, hV⟩ : ∃ V, w2.alloc (Obj.cells #[.string A, .string ZH, .string ZM] 45) = V := ⟨_, rfl⟩
  have HBV : Hid (Below w1.heap.size w1 V) := by rw [← hV]; exact b_two hb2 ((Below.refl _ _).alloc (Nat.le_refl _) _)
  have hrow : V.heap[w2.heap.size]? = some (.cells #[.string A, .string ZH, .string ZM] 45 (0, 0)) := by rw [← hV]; exact heap_alloc_new w2 _
  have k0 : V.cell? ⟨w2.heap.size, 0, none⟩ = some (.string A) := by rw [cell_of_row _ _ _ _ _ _ hrow]; rfl
  have k1 : V.cell? ⟨w2.heap.size, 1, none⟩ = some (.string ZH) := by rw [cell_of_row _ _ _ _ _ _ hrow]; rfl
  have k2 : V.cell? ⟨w2.heap.size, 2, none⟩ = some (.string ZM) := by rw [cell_of_row _ _ _ _ _ _ hrow]; rfl
  have HTV := hid (HTT.out.below HBV.out)
  rw [hV]
  clear hV hrow hb2 HTT HSP
  generalize w2.heap.size = B at *
  have kk := cell_re k0
  have c1 : REG 24 #[.int .i64 (y : Int)] V (.string SY) := fun d os => Calls.regrown_of (HFY.out _)
  have c2 : REG 25 #[.int .i64 (m : Int)] V (.string SO) := fun d os => Calls.regrown_of (HPM.out _)
  have c3 : REG 25 #[.int .i64 (d : Int)] V (.string SD) := fun d os => Calls.regrown_of (HPD.out _)
  have s1 : ((⟨#[45]⟩ : ByteArray)).size = 1 := rfl
  have s2 : ((⟨#[84]⟩ : ByteArray)).size = 1 := rfl
  refine wp_region_quiet_below (by kernel_rfl) (by kernel_rfl) ?_
  repeat (go_big_quiet_step (first | (go_at_call 24; exact c1 _ _) | (go_at_call_of 25 (Value.int .i64 (m : Int)); exact c2 _ _) | (go_at_call_of 25 (Value.int .i64 (d : Int)); exact c3 _ _)))
  refine wpQuiet_nil ?_
  rintro W9 ⟨⟨dq, osq⟩, hw9⟩
  have HB9 : Hid (Below V.heap.size V W9) := by rw [hw9]; exact below_regrown V dq osq
  have k0 := cell_below HB9.out k0
  have k1 := cell_below HB9.out k1
  have k2 := cell_below HB9.out k2
  have HT9 := hid (HTV.out.below HB9.out)
  have HBX : Hid (Below w1.heap.size w1 W9) := b_two HBV.out HB9.out
  clear hw9 kk c1 c2 c3 HTV HB9 HBV
  go_wp2_with fail
  have zTA : (SY ++ ⟨#[45]⟩ ++ SO ++ ⟨#[45]⟩ ++ SD ++ ⟨#[84]⟩ ++ A : ByteArray).size = 19 := by
    simp only [ByteArray.size_append, zY, zO, zD, zA, s1, s2]
  generalize (SY ++ ⟨#[45]⟩ ++ SO ++ ⟨#[45]⟩ ++ SD ++ ⟨#[84]⟩ ++ A : ByteArray) = TA at *
  have kk := cell_re k0
  have c1 : REG 24 #[.int .i64 (y : Int)] W9 (.string SY) := fun d os => Calls.regrown_of (HFY.out _)
  have c3 : REG 25 #[.int .i64 (d : Int)] W9 (.string SD) := fun d os => Calls.regrown_of (HPD.out _)
  have s3 : ((⟨#[32]⟩ : ByteArray)).size = 1 := rfl
  have zz : ¬ (9223372036854775807 < SL.size) := by omega
  refine wp_region_quiet_below (by kernel_rfl) (by kernel_rfl) ?_
  repeat (go_big_quiet_step (first | (go_at_call 24; exact c1 _ _) | (go_at_call_of 25 (Value.int .i64 (d : Int)); exact c3 _ _)))
  refine wpQuiet_nil ?_
  rintro WA ⟨⟨dq, osq⟩, hw9⟩
  have HBA : Hid (Below W9.heap.size W9 WA) := by rw [hw9]; exact below_regrown W9 dq osq
  have k1 := cell_below HBA.out k1
  have k2 := cell_below HBA.out k2
  have HTA := hid (HT9.out.below HBA.out)
  have HBY : Hid (Below w1.heap.size w1 WA) := b_two HBX.out HBA.out
  clear hw9 kk k0 c1 c3 HT9 HBA HBX HFY HPM HPD
  have zTB : (SD ++ ⟨#[32]⟩ ++ SL ++ ⟨#[32]⟩ ++ SY ++ ⟨#[32]⟩ ++ A : ByteArray).size ≤ 20 := by
    simp only [ByteArray.size_append, zY, zD, zA, s3]; omega
  generalize (SD ++ ⟨#[32]⟩ ++ SL ++ ⟨#[32]⟩ ++ SY ++ ⟨#[32]⟩ ++ A : ByteArray) = TB at *
  go_wp2_with fail
  refine (R1.out _).mono ?_
  rintro e wb ⟨rfl, hb1⟩
  have k1 := cell_below hb1 k1
  have k2 := cell_below hb1 k2
  have HT1 := hid (HTA.out.below hb1)
  have HB1 : Hid (Below w1.heap.size w1 wb) := b_two HBY.out hb1
  clear hb1 HTA HBY
  go_wp2_with fail
  refine (R2.out _).mono ?_
  rintro e wc ⟨rfl, hb1⟩
  have k1 := cell_below hb1 k1
  have k2 := cell_below hb1 k2
  have HT2 := hid (HT1.out.below hb1)
  have HB2 : Hid (Below w1.heap.size w1 wc) := b_two HB1.out hb1
  clear hb1 HT1 HB1
  go_wp2_with fail
  refine (R3.out _ HT2.out).mono ?_
  rintro e wd ⟨rfl, hb1⟩
  have k1 := cell_below hb1 k1
  have k2 := cell_below hb1 k2
  have HT3 := hid (HT2.out.below hb1)
  have HB3 : Hid (Below w1.heap.size w1 wd) := b_two HB2.out hb1
  clear hb1 HT2 HB2
  go_wp2_with fail
  refine (R4.out _ HT3.out).mono ?_
  rintro e we ⟨rfl, hb1⟩
  have HT4 := hid (HT3.out.below hb1)
  have HB4 : Hid (Below w1.heap.size w1 we) := b_two HB3.out hb1
  clear hb1 HT3 HB3
  go_wp2_with fail
  refine (HA.out _ HT4.out).mono ?_
  rintro e wf ⟨rfl, hb1⟩
  go_wp2_with fail
  go_ret
  exact ⟨rfl, b_two HB4.out hb1⟩
set_option maxHeartbeats 1000000 in
set_option maxRecDepth 1000000 in
theorem zones_no (n k z0 : Int) (h : n < -719162 ∨ 2932896 < n) (w : World) (hT : TabD w) : Calls Tryd.prog 7 #[.int .i64 n, .int .u32 k, .int .u16 z0] w fun e w' => e = .returned (.bool true) ∧ Below w.heap.size w w' := by
  have HCI := hid (fun W => refCivil_no n h W)
  have HA := hid (fun W h => awake14 W h)
  have HTT := hid hT
  clear hT h
  go_enter Tryd.func7, Tryd.ntmps7
  go_wp2_with fail
  refine (HCI.out _).mono ?_
  rintro e w1 ⟨rfl, rfl⟩
  go_wp2_with fail
  refine (HA.out _ HTT.out).mono ?_
  rintro e w1 ⟨rfl, hb1⟩
  go_wp2_with fail
  go_ret
  exact ⟨rfl, hb1⟩
theorem dateZones_law (n k z0 : Int) (w : World) (_ : (Lit.int .i64 n).wf = true) (hk : (Lit.int .u32 k).wf = true) (hz : (Lit.int .u16 z0).wf = true) (hT : TabD w) : Calls Tryd.prog 7 #[.int .i64 n, .int .u32 k, .int .u16 z0] w fun e w' => e = .returned (.bool true) ∧ Below w.heap.size w w' := by
  have h1 := bounds_u32 hk
  have h2 := bounds_u16 hz
  by_cases h : n < -719162 ∨ 2932896 < n
  · exact zones_no n k z0 h w hT
  · have := zones_walk (n + 719162).toNat k.toNat z0.toNat (by omega) (by omega) (by omega) w hT
    rw [show (((n + 719162).toNat : Nat) : Int) - 719162 = n by omega, show ((k.toNat : Nat) : Int) = k by omega, show ((z0.toNat : Nat) : Int) = z0 by omega] at this
    exact this
end Go.Proofs.YthpplcadpngdiaaDoor
