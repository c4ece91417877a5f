
/- The law's witness: three texts are read, one of them is asked. -/
import Derived.Test.YtlgkbdebpnbndaaGreatDoorJsGet
namespace Go.Proofs.YtlgkbdebpnbndaaGreatDoor
set_option linter.unusedVariables false
set_option linter.unusedSimpArgs false
open Go.RowKit Go.BigFrame

def awK (d : Nat) : List (VJ (d + 1)) := [((2, 1, [], []), []), ((2, -2, [], []), []), ((0, 0, [], []), [])]
def awL : VJ 39 := ((4, 0, [], []), awK 37)
def awT : VJ 40 := ((5, 0, [], [[97]]), [awL])
theorem par_aw : parJ [123, 34, 97, 34, 58, 91, 49, 44, 45, 50, 44, 110, 117, 108, 108, 93, 125] = .ok awT := by kernel_rfl
theorem par_bw : parJ [49, 46, 48] = .error 1 := by kernel_rfl
theorem par_cw : parJ [48, 49] = .error 5 := by kernel_rfl
theorem place_aw : placeJ 40 awT [97] = some 0 := by kernel_rfl
theorem wt_aw : wtJ 40 awT = 7 := by kernel_rfl
set_option maxHeartbeats 4000000 in
set_option maxRecDepth 100000 in
theorem awake16 (w : World) (h9 : 7 < w.heap.size) (hT : TabJ w) : Calls Tryz.prog 9 #[] w fun e w' => e = .returned (.bool true) ∧ Below w.heap.size w w' := by
  have HPA : Hid (∀ W, Below w.heap.size w W → Calls Tryz.prog 14 #[.string ⟨#[123, 34, 97, 34, 58, 91, 49, 44, 45, 50, 44, 110, 117, 108, 108, 93, 125]⟩] W fun e w' => (∃ cs, e = .returned (.tuple #[.agg cs, .int .i64 0]) ∧ Hid (VAt (fun q => W.heap.size ≤ q) 40 w' cs awT)) ∧ Below W.heap.size W w') := fun W hb => (parse_j [123, 34, 97, 34, 58, 91, 49, 44, 45, 50, 44, 110, 117, 108, 108, 93, 125] W (by simp) (Nat.lt_of_lt_of_le h9 hb.size) (hT.below hb)).mono fun e w' hh => ⟨hh.1 _ par_aw, hh.2.2⟩
  have HPB : Hid (∀ W, Below w.heap.size w W → Calls Tryz.prog 14 #[.string ⟨#[49, 46, 48]⟩] W fun e w' => e = .returned (.tuple #[.agg #[.int .i64 0, .int .i64 0, .string ⟨#[]⟩, .slice none 0 0, .slice none 0 0], .int .i64 1]) ∧ Below W.heap.size W w') := fun W hb => (parse_j [49, 46, 48] W (by simp) (Nat.lt_of_lt_of_le h9 hb.size) (hT.below hb)).mono fun e w' hh => ⟨hh.2.1 _ par_bw, hh.2.2⟩
  have HPC : Hid (∀ W, Below w.heap.size w W → Calls Tryz.prog 14 #[.string ⟨#[48, 49]⟩] W fun e w' => e = .returned (.tuple #[.agg #[.int .i64 0, .int .i64 0, .string ⟨#[]⟩, .slice none 0 0, .slice none 0 0], .int .i64 5]) ∧ Below W.heap.size W w') := fun W hb => (parse_j [48, 49] W (by simp) (Nat.lt_of_lt_of_le h9 hb.size) (hT.below hb)).mono fun e w' hh => ⟨hh.2.1 _ par_cw, hh.2.2⟩
  have HGT : Hid (∀ cs W (P : Nat → Prop), VAt P 40 W cs awT → Calls Tryz.prog 18 #[.agg cs, .string ⟨#[97]⟩] W fun e w' => (∃ cs', e = .returned (.tuple #[.agg cs', .bool true]) ∧ Hid (VAt (fun q => W.heap.size ≤ q) 39 w' cs' awL)) ∧ Below W.heap.size W w') := fun cs W P h => get_some h (by rw [wt_aw]; omega) [97] 0 place_aw
  have HA := hid (HPA.out w (Below.refl _ _))
  clear hT HPA
  go_enter Tryz.func9, Tryz.ntmps9
  go_wp2_with fail
  refine HA.out.mono ?_
  rintro e W1 ⟨⟨cs, rfl, HV1⟩, hb⟩
  have HB1 := hid hb
  have HN1 := hid (heap_alloc_new W1 (.cells #[.int .i64 0, .int .i64 0, .string ⟨#[]⟩, .slice none 0 0, .slice none 0 0] 25 (0, 0)))
  have HA1 := hid ((Below.refl W1.heap.size W1).alloc (Nat.le_refl _) (.cells #[.int .i64 0, .int .i64 0, .string ⟨#[]⟩, .slice none 0 0, .slice none 0 0] 25))
  clear hb HA
  go_wp2_with (first
    | (refine wpList_store_abs rfl 25 (.tmp 1) (.tmp 11) rfl W1.heap.size 0 cs rfl rfl 25 _ HN1.out (by rw [HV1.out.size]; exact Nat.le_refl _) (by rw [HV1.out.size]; exact infoVj) (vcs_one HV1.out) ?_; intro V1 hO hW; have HO1 := hid hO; rw [over_whole #[.int .i64 0, .int .i64 0, .string ⟨#[]⟩, .slice none 0 0, .slice none 0 0] cs (by rw [HV1.out.size]; rfl)] at hW; have HW1 := hid hW; have HBV1 : Hid (Below w.heap.size w V1) := (HB1.out.trans (HA1.out.mono HB1.out.size)).trans (hO.below HB1.out.size); have HBW1 : Hid (Below W1.heap.size W1 V1) := HA1.out.trans (hO.below (Nat.le_refl _)); clear hO hW)
    | fail)
  have HPB1 := hid (HPB.out V1 HBV1.out)
  have HVV1 := hid (HV1.out.below HBW1.out (Nat.le_refl _))
  clear HN1 HA1 HB1 HO1 HBW1 HV1 HPB
  refine HPB1.out.mono ?_
  rintro e W2 ⟨rfl, hb⟩
  have HB2 := hid (HBV1.out.trans (hb.mono HBV1.out.size))
  have HN2 := hid (heap_alloc_new W2 (.cells #[.int .i64 0, .int .i64 0, .string ⟨#[]⟩, .slice none 0 0, .slice none 0 0] 25 (0, 0)))
  have HA2 := hid ((Below.refl W2.heap.size W2).alloc (Nat.le_refl _) (.cells #[.int .i64 0, .int .i64 0, .string ⟨#[]⟩, .slice none 0 0, .slice none 0 0] 25))
  have HW2 := hid (row_keep hb HW1.out)
  have HVV2 := hid (HVV1.out.below hb (Nat.le_refl _))
  clear hb HPB1 HVV1 HW1 HBV1
  go_wp2_with (first
    | (refine wpList_store_abs rfl 25 (.tmp 3) (.tmp 15) rfl W2.heap.size 0 #[.int .i64 0, .int .i64 0, .string ⟨#[]⟩, .slice none 0 0, .slice none 0 0] rfl rfl 25 _ HN2.out (Nat.le_refl 5) infoVj (vcs_all _ _ _ _ _ _ _ _ _) ?_; intro V2 hO hW; have HBV2 : Hid (Below w.heap.size w V2) := (HB2.out.trans (HA2.out.mono HB2.out.size)).trans (hO.below HB2.out.size); have HBW2 : Hid (Below W2.heap.size W2 V2) := HA2.out.trans (hO.below (Nat.le_refl _)); clear hO hW)
    | fail)
  have HPC1 := hid (HPC.out V2 HBV2.out)
  have HVV3 := hid (HVV2.out.below HBW2.out (Nat.le_refl _))
  have HW3 := hid (row_keep HBW2.out HW2.out)
  clear HN2 HA2 HB2 HBW2 HVV2 HW2 HPC
  refine HPC1.out.mono ?_
  rintro e W3 ⟨rfl, hb⟩
  have HB3 := hid (HBV2.out.trans (hb.mono HBV2.out.size))
  have HN3 := hid (heap_alloc_new W3 (.cells #[.int .i64 0, .int .i64 0, .string ⟨#[]⟩, .slice none 0 0, .slice none 0 0] 25 (0, 0)))
  have HA3 := hid ((Below.refl W3.heap.size W3).alloc (Nat.le_refl _) (.cells #[.int .i64 0, .int .i64 0, .string ⟨#[]⟩, .slice none 0 0, .slice none 0 0] 25))
  have HW4 := hid (row_keep hb HW3.out)
  have HVV4 := hid (HVV3.out.below hb (Nat.le_refl _))
  clear hb HPC1 HVV3 HW3 HBV2
  go_wp2_with (first
    | (refine wpList_store_abs rfl 25 (.tmp 5) (.tmp 19) rfl W3.heap.size 0 #[.int .i64 0, .int .i64 0, .string ⟨#[]⟩, .slice none 0 0, .slice none 0 0] rfl rfl 25 _ HN3.out (Nat.le_refl 5) infoVj (vcs_all _ _ _ _ _ _ _ _ _) ?_; intro V3 hO hW; have HBV3 : Hid (Below w.heap.size w V3) := (HB3.out.trans (HA3.out.mono HB3.out.size)).trans (hO.below HB3.out.size); have HBW3 : Hid (Below W3.heap.size W3 V3) := HA3.out.trans (hO.below (Nat.le_refl _)); have HW5 := hid (row_keep HBW3.out HW4.out); have HVV5 := hid (HVV4.out.below HBW3.out (Nat.le_refl _)); clear hO hW)
    | (refine load_msg rfl _ rfl W1.heap.size cs rfl (load_v5 HW5.out HVV5.out.size) ?_)
    | fail)
  have HG := hid (HGT.out cs V3 _ HVV5.out)
  clear HGT HN3 HA3 HB3 HBW3 HW4 HVV4 HW5 HVV5
  refine HG.out.mono ?_
  rintro e W4 ⟨⟨cs4, rfl, HX⟩, hb⟩
  have HB4 := hid (HBV3.out.trans (hb.mono HBV3.out.size))
  have HN4 := hid (heap_alloc_new W4 (.cells #[.int .i64 0, .int .i64 0, .string ⟨#[]⟩, .slice none 0 0, .slice none 0 0] 25 (0, 0)))
  have HA4 := hid ((Below.refl W4.heap.size W4).alloc (Nat.le_refl _) (.cells #[.int .i64 0, .int .i64 0, .string ⟨#[]⟩, .slice none 0 0, .slice none 0 0] 25))
  clear hb HG HBV3
  obtain ⟨kA, kc, nA, nc, hcs, _, hks, _⟩ := HX.out.parts
  obtain ⟨q, o, a, b, c, e5, f, rfl, hq, k1, k2, k3, k4, k5, hv⟩ := hks.at 1 (by decide)
  obtain ⟨_, _, _, _, hc2, _⟩ := hv.parts
  have hb2 : b = .int .i64 (-2) := by
    have := congrArg (fun x : Array Value => x[1]?) hc2
    simp [vcs] at this
    exact this
  subst hb2
  have hcs2 : cs4 = #[.int .i64 4, .int .i64 0, .string ⟨#[]⟩, .slice (some ⟨q, o, none⟩) 3 kc, .slice nA 0 nc] := hcs
  subst hcs2
  have HK2 := hid k2
  have HQ := hid hq
  clear hcs hks k1 k2 k3 k4 k5 hv hc2 hq HX
  have HK6 : Hid (W4.cell? ⟨q, o + 6, none⟩ = some (.int .i64 (-2))) := HK2.out
  clear HK2
  go_wp2_with (first
    | (refine wpList_store_abs rfl 25 (.tmp 7) (.tmp 24) rfl W4.heap.size 0 #[.int .i64 4, .int .i64 0, .string ⟨#[]⟩, .slice (some ⟨q, o, none⟩) 3 kc, .slice nA 0 nc] rfl rfl 25 _ HN4.out (Nat.le_refl 5) infoVj (vcs_all _ _ _ _ _ _ _ _ _) ?_; intro V4 hO hW; rw [over_whole #[.int .i64 0, .int .i64 0, .string ⟨#[]⟩, .slice none 0 0, .slice none 0 0] #[.int .i64 4, .int .i64 0, .string ⟨#[]⟩, .slice (some ⟨q, o, none⟩) 3 kc, .slice nA 0 nc] rfl] at hW; have HBV4 : Hid (Below w.heap.size w V4) := (HB4.out.trans (HA4.out.mono HB4.out.size)).trans (hO.below HB4.out.size); have hBW : Below W4.heap.size W4 V4 := HA4.out.trans (hO.below (Nat.le_refl _)); have f3 : V4.cell? ⟨W4.heap.size, 3, none⟩ = some (.slice (some ⟨q, o, none⟩) 3 kc) := cell_of_row _ _ _ _ _ _ hW; have f6 : V4.cell? ⟨q, o + 6, none⟩ = some (.int .i64 (-2)) := (hBW.cell (p := ⟨q, _, none⟩) HQ.out).trans HK6.out; have f51 : V4.cell? ⟨q, o + 5 + 1, none⟩ = some (.int .i64 (-2)) := f6; clear hO hW hBW)
    | fail)
  go_ret
  exact ⟨rfl, HBV4.out⟩
end Go.Proofs.YtlgkbdebpnbndaaGreatDoor
