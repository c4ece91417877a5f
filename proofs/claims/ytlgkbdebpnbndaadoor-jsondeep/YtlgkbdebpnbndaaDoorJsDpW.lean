
/- The law JsonDeep, whole. -/
import Derived.Test.YtlgkbdebpnbndaaDoorJsOpenD
import Derived.Test.YtlgkbdebpnbndaaDoorJsDpR
namespace Go.Proofs.YtlgkbdebpnbndaaDoor
set_option linter.unusedVariables false
set_option linter.unusedSimpArgs false
open Go.RowKit Go.BigFrame
attribute [local go_sem ↓] loadV_eq

theorem src_oneD (w : World) (a : UInt8) (x : Int) (hx : x = (a.toNat : Int)) : Src Tryd.prog 1 23 (.slice (some ⟨w.heap.size, 0, none⟩) 1 1) 1 (bvs [a]) (w.alloc (.cells #[.int .u8 x] 5)) := by
  subst hx
  exact src_bytes (l := [a]) (BytesAt.of_row (heap_alloc_new w (.cells (bcs [a]) 5))) 1 (fun _ => .inr ⟨_, rfl⟩)
theorem onesD_snoc (k : Nat) : onesF (k + 2) = onesF (k + 1) ++ [44, 49] := by
  show 49 :: comF (k + 1) = 49 :: comF k ++ [44, 49]
  rw [com_snoc k]
  rfl
theorem repD_snoc (c : UInt8) (k : Nat) : asS (List.replicate k c) ++ asS [c] = asS (List.replicate (k + 1) c) := by
  rw [asS_app]
  have := rep_snoc c k []
  rw [List.append_nil] at this
  rw [this]
/-- What the law does with what Parse answers. -/
theorem caseD (r m : Nat) : 16 < r + 1 ∨ (¬ 16 < r + 1 ∧ 8192 < r + 1 + m) ∨ (¬ 16 < r + 1 ∧ ¬ 8192 < r + 1 + m) := by omega
set_option maxHeartbeats 16000000 in
set_option maxRecDepth 100000 in
theorem deep_walk (x y : Nat) (hx : x < 256) (hy : y < 65536) (w : World) (hT : TabX w) : Calls Tryd.prog 3 #[.int .u8 (x : Int), .int .u16 (y : Int)] w fun e w' => e = .returned (.bool true) ∧ Below w.heap.size w w' := by
  have HAW := hid (fun W (hb : Below w.heap.size w W) => awake16 W (Nat.lt_of_lt_of_le hT.2 hb.size) (hT.1.below hb))
  have q1 : (x : Int).tmod 20 = ((x % 20 : Nat) : Int) := by rw [Int.tmod_eq_emod_of_nonneg (by omega)]; omega
  have q2 : (y : Int).tmod 9000 = ((y % 9000 : Nat) : Int) := by rw [Int.tmod_eq_emod_of_nonneg (by omega)]; omega
  have hr : x % 20 < 20 := by omega
  have hm : y % 9000 < 9000 := by omega
  generalize x % 20 = r at q1 hr
  generalize y % 9000 = m at q2 hm
  have HPJ := hid (fun W (hb : Below w.heap.size w W) => parse_j (deepS (r + 1) m) W (by have := deepS_len (r + 1) m; omega) (Nat.lt_of_lt_of_le hT.2 hb.size) (hT.1.below hb))
  have HPD := hid (par_deepS (r + 1) m (by omega) (by omega) (by omega))
  clear hT
  go_enter Tryd.func3, Tryd.ntmps3
  go_wp2_with fail
  go_loopw [7, 8, 9] (fun s t i wr => ∃ (k : Nat) (S T : ByteArray), k ≤ r + 1 ∧ i = .int .i64 (k : Int) ∧ s = .string S ∧ t = .string T ∧ Hid (S = asS (List.replicate k 91)) ∧ Hid (T = asS (List.replicate k 93)) ∧ Hid (Below w.heap.size w wr)) (fun s t i wr => r + 1 - (intOf i).toNat)
  case atStart => exact ⟨0, _, _, Nat.zero_le _, rfl, rfl, rfl, rfl, rfl, Below.refl _ _⟩
  case round =>
    obtain ⟨k, S, T, hk, rfl, rfl, rfl, HS, HTT, HB0⟩ := hrel
    have hS : S.size = k := by rw [HS.out, asS_size, List.length_replicate]
    have hTs : T.size = k := by rw [HTT.out, asS_size, List.length_replicate]
    by_cases hlt : k < r + 1
    · have hi : (k : Int) < 1 + (r : Int) := by omega
      go_wp2_with fail
      go_roundw
      case rel => exact ⟨k + 1, _, _, by omega, by go_num, rfl, rfl, by rw [HS.out]; exact repD_snoc 91 k, by rw [HTT.out]; exact repD_snoc 93 k, HB0⟩
      case measure => simp [intOf]; omega
    · have hi : ¬ (k : Int) < 1 + (r : Int) := by omega
      obtain rfl : k = r + 1 := by omega
      obtain ⟨wq, hwq⟩ : ∃ wq, wq = wr := ⟨_, rfl⟩
      subst hwq
      obtain ⟨c1, W1, hcv, hown, hbe⟩ := conv_own wq S
      have HSD : Hid (S.data.toList = List.replicate (r + 1) 91 ++ onesF 0) := by show _ = _; rw [HS.out, asS_data]; simp [onesF]
      generalize S.data.toList = SL at hown HSD
      rw [hS] at hown
      have HOW := hid hown
      have HB1 := hid hbe
      clear hown hbe HS
      go_wp2_with fail
      go_loopw [10, 11] (fun v i w2 => ∃ (j g n cap : Nat) (o : List UInt8), j ≤ m ∧ i = .int .i64 (j : Int) ∧ v = .slice (some ⟨g, 0, none⟩) n cap ∧ n ≤ r + 1 + 2 * j ∧ Hid (Own w2 wq.heap.size g n cap o) ∧ Hid (o = List.replicate (r + 1) 91 ++ onesF j) ∧ Hid (Below wq.heap.size wq w2)) (fun v i w2 => m - (intOf i).toNat)
      case atStart => exact ⟨0, wq.heap.size, r + 1, c1, SL, Nat.zero_le _, rfl, rfl, by omega, HOW, HSD, HB1⟩
      case round =>
        clear HOW HSD HB1 hcv
        obtain ⟨j, g, n, cap, o, hj, rfl, rfl, hn, HO, HQ, HB⟩ := hrel
        by_cases hlt2 : j < m
        · have hi2 : (j : Int) < (m : Int) := by omega
          by_cases h0 : j = 0
          · have hz : ¬ (0 : Int) < (j : Int) := by omega
            have HQ2 : Hid (o ++ [49] = List.replicate (r + 1) 91 ++ onesF (j + 1)) := by
              show _ = _
              rw [HQ.out, h0, List.append_assoc]
              rfl
            have HOA := hid (HO.out.alloc (.cells #[.int .u8 49] 5))
            have HBA := hid (alloc_below HB.out HB.out.size (.cells #[.int .u8 49] 5))
            have HSR := hid (src_oneD wr 49 49 rfl)
            clear HQ h0
            go_wp2_with (first
              | (refine wpList_own rfl _ _ 23 rfl wq.heap.size g n cap 1 o [49] _ rfl rfl HOA.out HSR.out (by omega) HBA.out.size ?_)
              | fail)
            intro g1 cap1 W2 hown1 hg1 hor1
            have HB1 := hid (HOA.out.grown HBA.out HBA.out.size hg1)
            have HO1 := hid hown1
            clear hown1 hg1 hor1
            go_wp2_with fail
            go_roundw
            case rel => exact ⟨j + 1, g1, n + 1, cap1, o ++ [49], by omega, by go_num, rfl, by omega, HO1, HQ2, HB1⟩
            case measure => simp [intOf]; omega
          · have hz : (0 : Int) < (j : Int) := by omega
            have HQ2 : Hid (o ++ [44, 49] = List.replicate (r + 1) 91 ++ onesF (j + 1)) := by
              show _ = _
              obtain ⟨j1, rfl⟩ : ∃ j1, j = j1 + 1 := ⟨j - 1, by omega⟩
              rw [HQ.out, onesD_snoc j1, List.append_assoc]
            have HOA := hid (HO.out.alloc (.cells #[.int .u8 44] 5))
            have HBA := hid (alloc_below HB.out HB.out.size (.cells #[.int .u8 44] 5))
            have HSR := hid (src_oneD wr 44 44 rfl)
            clear HQ h0
            go_wp2_with (first
              | (refine wpList_own rfl _ _ 23 rfl wq.heap.size g n cap 1 o [44] _ rfl rfl HOA.out HSR.out (by omega) HBA.out.size ?_)
              | fail)
            intro g1 cap1 W2 hown1 hg1 hor1
            have HB1 := hid (HOA.out.grown HBA.out HBA.out.size hg1)
            have HO1 := hid hown1
            clear hown1 hg1 hor1 HOA HBA HSR
            have HOA := hid (HO1.out.alloc (.cells #[.int .u8 49] 5))
            have HBA := hid (alloc_below HB1.out HB1.out.size (.cells #[.int .u8 49] 5))
            have HSR := hid (src_oneD W2 49 49 rfl)
            go_wp2_with (first
              | (refine wpList_own rfl _ _ 23 rfl wq.heap.size g1 (n + 1) cap1 1 (o ++ [44]) [49] _ rfl rfl HOA.out HSR.out (by omega) HBA.out.size ?_)
              | fail)
            intro g2 cap2 W3 hown1 hg1 hor1
            have HB2 := hid (HOA.out.grown HBA.out HBA.out.size hg1)
            have HO2 := hid hown1
            clear hown1 hg1 hor1
            go_wp2_with fail
            go_roundw
            case rel => exact ⟨j + 1, g2, n + 1 + 1, cap2, o ++ [44, 49], by omega, by go_num, rfl, by omega, HO2, HQ2, HB2⟩
            case measure => simp [intOf]; omega
        · have hi2 : ¬ (j : Int) < (m : Int) := by omega
          obtain rfl : j = m := by omega
          have hst := str_row (c := cap) HO.out.bytes HO.out.len
          have HSTR : Hid ((⟨o.toArray⟩ : ByteArray) ++ T = asS (deepS (r + 1) j)) := by
            show asS o ++ T = _
            rw [HTT.out, HQ.out, asS_app, List.append_assoc]
            rfl
          have HBL : Hid (Below w.heap.size w wr) := HB0.out.trans (HB.out.mono HB0.out.size)
          have hoz : (⟨o.toArray⟩ : ByteArray).size ≤ 100000 := by
            show (asS o).size ≤ _
            rw [asS_size, HO.out.len]
            omega
          have HPR := HPJ.out wr HBL.out
          rw [← HSTR.out] at HPR
          generalize (⟨o.toArray⟩ : ByteArray) = OB at hst HPR hoz HSTR
          have HPR2 := hid HPR
          clear HPR HSTR HTT HQ HO HB HB0 HPJ
          rcases caseD r j with h16 | ⟨h16, h8⟩ | ⟨h16, h8⟩
          · rw [if_pos h16] at HPD
            have hk : (16 : Int) < 1 + (r : Int) := by omega
            have HP : Hid (Calls Tryd.prog 4 #[.string (OB ++ T)] wr fun e w' => e = .returned (.tuple #[.agg #[.int .i64 0, .int .i64 0, .string ⟨#[]⟩, .slice none 0 0, .slice none 0 0], .int .i64 9]) ∧ Below wr.heap.size wr w') := HPR2.out.mono fun e w' hh => ⟨hh.2.1 _ HPD.out, hh.2.2⟩
            clear HPR2 HPD
            go_wp2_with fail
            refine HP.out.mono ?_
            rintro e W3 ⟨rfl, hb⟩
            have HB3 := hid (HBL.out.trans (hb.mono HBL.out.size))
            have HN3 := hid (heap_alloc_new W3 (.cells #[.int .i64 0, .int .i64 0, .string ⟨#[]⟩, .slice none 0 0, .slice none 0 0] 27 (0, 0)))
            have HA3 := hid ((Below.refl W3.heap.size W3).alloc (Nat.le_refl _) (.cells #[.int .i64 0, .int .i64 0, .string ⟨#[]⟩, .slice none 0 0, .slice none 0 0] 27))
            clear hb HP
            go_wp2_with (first
              | (refine wpList_store_abs rfl 27 (.tmp 12) (.tmp 51) rfl W3.heap.size 0 #[.int .i64 0, .int .i64 0, .string ⟨#[]⟩, .slice none 0 0, .slice none 0 0] rfl rfl 27 _ HN3.out (Nat.le_refl 5) infoVj (vcs_all _ _ _ _ _ _ _ _ _) ?_; intro V3 hO hW; have HBV3 : Hid (Below w.heap.size w V3) := (HB3.out.trans (HA3.out.mono HB3.out.size)).trans (hO.below HB3.out.size); have HAW3 := hid (HAW.out V3 HBV3.out); clear hO hW)
              | fail)
            refine HAW3.out.mono ?_
            rintro e W4 ⟨rfl, hb⟩
            have HB4 := hid (HBV3.out.trans (hb.mono HBV3.out.size))
            clear hb
            go_wp2_with fail
            go_ret
            exact ⟨rfl, HB4.out⟩
          · rw [if_neg h16, if_pos h8] at HPD
            have hk : ¬ (16 : Int) < 1 + (r : Int) := by omega
            have hk8 : (8192 : Int) < 1 + (r : Int) + (j : Int) := by omega
            have HP : Hid (Calls Tryd.prog 4 #[.string (OB ++ T)] wr fun e w' => e = .returned (.tuple #[.agg #[.int .i64 0, .int .i64 0, .string ⟨#[]⟩, .slice none 0 0, .slice none 0 0], .int .i64 3]) ∧ Below wr.heap.size wr w') := HPR2.out.mono fun e w' hh => ⟨hh.2.1 _ HPD.out, hh.2.2⟩
            clear HPR2 HPD
            go_wp2_with fail
            refine HP.out.mono ?_
            rintro e W3 ⟨rfl, hb⟩
            have HB3 := hid (HBL.out.trans (hb.mono HBL.out.size))
            have HN3 := hid (heap_alloc_new W3 (.cells #[.int .i64 0, .int .i64 0, .string ⟨#[]⟩, .slice none 0 0, .slice none 0 0] 27 (0, 0)))
            have HA3 := hid ((Below.refl W3.heap.size W3).alloc (Nat.le_refl _) (.cells #[.int .i64 0, .int .i64 0, .string ⟨#[]⟩, .slice none 0 0, .slice none 0 0] 27))
            clear hb HP
            go_wp2_with (first
              | (refine wpList_store_abs rfl 27 (.tmp 12) (.tmp 51) rfl W3.heap.size 0 #[.int .i64 0, .int .i64 0, .string ⟨#[]⟩, .slice none 0 0, .slice none 0 0] rfl rfl 27 _ HN3.out (Nat.le_refl 5) infoVj (vcs_all _ _ _ _ _ _ _ _ _) ?_; intro V3 hO hW; have HBV3 : Hid (Below w.heap.size w V3) := (HB3.out.trans (HA3.out.mono HB3.out.size)).trans (hO.below HB3.out.size); have HAW3 := hid (HAW.out V3 HBV3.out); clear hO hW)
              | fail)
            refine HAW3.out.mono ?_
            rintro e W4 ⟨rfl, hb⟩
            have HB4 := hid (HBV3.out.trans (hb.mono HBV3.out.size))
            clear hb
            go_wp2_with fail
            go_ret
            exact ⟨rfl, HB4.out⟩
          · rw [if_neg h16, if_neg h8] at HPD
            have hk : ¬ (16 : Int) < 1 + (r : Int) := by omega
            have hk8 : ¬ (8192 : Int) < 1 + (r : Int) + (j : Int) := by omega
            have hdp : deepJ 40 (nestT 40 (r + 1 - 1) j) = r + 1 := by rw [nestT_deep j 40 (r + 1 - 1) (by omega)]; omega
            have hmn : manyJ 40 (nestT 40 (r + 1 - 1) j) = r + 1 + j := by rw [nestT_many j 40 (r + 1 - 1) (by omega)]; omega
            have hwt : wtJ 40 (nestT 40 (r + 1 - 1) j) ≤ 100000 := by rw [nestT_wt j 40 (r + 1 - 1) (by omega)]; omega
            have HDP := hid (refDeep_any 40 _ (by omega) hwt)
            have HMN := hid (refMany_any 40 _ hwt)
            unfold DeepP at HDP
            unfold ManyP at HMN
            rw [hdp] at HDP
            rw [hmn] at HMN
            have hc1 : ((r + 1 : Nat) : Int) = 1 + (r : Int) := by omega
            have hc2 : ((r + 1 + j : Nat) : Int) = 1 + (r : Int) + (j : Int) := by omega
            rw [hc1] at HDP
            rw [hc2] at HMN
            have HP : Hid (Calls Tryd.prog 4 #[.string (OB ++ T)] wr fun e w' => (∃ cs, e = .returned (.tuple #[.agg cs, .int .i64 0]) ∧ Hid (VAt (fun q => wr.heap.size ≤ q) 40 w' cs (nestT 40 (r + 1 - 1) j))) ∧ Below wr.heap.size wr w') := HPR2.out.mono fun e w' hh => ⟨hh.1 _ HPD.out, hh.2.2⟩
            clear HPR2 HPD hdp hmn hwt hc1 hc2
            generalize nestT 40 (r + 1 - 1) j = TR at HP HDP HMN
            have hs1 : ((1 + (r : Int)) == (1 + (r : Int))) = true := by simp
            have hs2 : ((1 + (r : Int) + (j : Int)) == (1 + (r : Int) + (j : Int))) = true := by simp
            go_wp2_with fail
            refine HP.out.mono ?_
            rintro e W3 ⟨⟨cs, rfl, HV⟩, hb⟩
            have HB3 := hid (HBL.out.trans (hb.mono HBL.out.size))
            have HN3 := hid (heap_alloc_new W3 (.cells #[.int .i64 0, .int .i64 0, .string ⟨#[]⟩, .slice none 0 0, .slice none 0 0] 27 (0, 0)))
            have HA3 := hid ((Below.refl W3.heap.size W3).alloc (Nat.le_refl _) (.cells #[.int .i64 0, .int .i64 0, .string ⟨#[]⟩, .slice none 0 0, .slice none 0 0] 27))
            clear hb HP
            go_wp2_with (first
              | (refine wpList_store_abs rfl 27 (.tmp 12) (.tmp 51) rfl W3.heap.size 0 cs rfl rfl 27 _ HN3.out (by rw [HV.out.size]; exact Nat.le_refl _) (by rw [HV.out.size]; exact infoVj) (vcs_one HV.out) ?_; intro V3 hO hW; rw [over_whole #[.int .i64 0, .int .i64 0, .string ⟨#[]⟩, .slice none 0 0, .slice none 0 0] cs (by rw [HV.out.size]; rfl)] at hW; have hBW : Below W3.heap.size W3 V3 := HA3.out.trans (hO.below (Nat.le_refl _)); have HBV3 : Hid (Below w.heap.size w V3) := HB3.out.trans (hBW.mono HB3.out.size); have HRV3 := hid hW; have HV3 := hid (HV.out.below hBW (Nat.le_refl _)); have HZ3 := hid HV.out.size; have hld3 := loadV_run hW HV.out.size; have HD3 := hid (HDP.out _ cs V3 HV3.out); clear hO hW hBW)
              | fail)
            clear HN3 HA3 HB3 HV HDP
            refine HD3.out.mono ?_
            rintro e W4 ⟨rfl, hb⟩
            have HB4 := hid (HBV3.out.trans (hb.mono HBV3.out.size))
            have HRV4 := hid (row_keep hb HRV3.out)
            have HV4 := hid (HV3.out.below hb (Nat.le_refl _))
            have hld4 := loadV_run HRV4.out HZ3.out
            have HM4 := hid (HMN.out _ cs W4 HV4.out)
            clear hb HD3 HBV3 HRV3 HV3 hld3 HMN
            go_wp2_with fail
            refine HM4.out.mono ?_
            rintro e W5 ⟨rfl, hb⟩
            have HB5 := hid (HB4.out.trans (hb.mono HB4.out.size))
            have HAW5 := hid (HAW.out W5 HB5.out)
            clear hb HM4 HB4 hld4
            go_wp2_with fail
            refine HAW5.out.mono ?_
            rintro e W6 ⟨rfl, hb⟩
            have HB6 := hid (HB5.out.trans (hb.mono HB5.out.size))
            clear hb
            go_wp2_with fail
            go_ret
            exact ⟨rfl, HB6.out⟩
theorem deep_law (a b : Int) (w : World) (ha : (Lit.int .u8 a).wf = true) (hb : (Lit.int .u16 b).wf = true) (hT : TabX w) : Calls Tryd.prog 3 #[.int .u8 a, .int .u16 b] w fun e w' => e = .returned (.bool true) ∧ Below w.heap.size w w' := by
  have h1 := Go.bounds_u8 ha
  have h2 := Go.bounds_u16 hb
  have := deep_walk a.toNat b.toNat (by omega) (by omega) w hT
  rw [show ((a.toNat : Nat) : Int) = a by omega, show ((b.toNat : Nat) : Int) = b by omega] at this
  exact this
end Go.Proofs.YtlgkbdebpnbndaaDoor
