
/- What SealSeals does at every input. -/
import Derived.Test.YtggbianodoneeaaDoorLight
import Derived.Test.YtggbianodoneeaaDoorOpenLaw
import Derived.Deep.RegionHeld3
namespace Go.Proofs.YtggbianodoneeaaDoor
open Go.RowKit
set_option linter.unusedSimpArgs false
set_option linter.unusedVariables false

set_option maxRecDepth 100000 in
set_option maxHeartbeats 8000000 in
theorem seals_law (a0 : Option Addr) (len0 cap0 : Nat) (z0 : List Int) (nonce : List UInt8) (s : ByteArray) (a1 : Option Addr) (len1 cap1 : Nat) (z1 : List Int) (w : World) (h0 : IsRow .u8 w a0 len0 cap0 z0) (hn : nonce.length = 16) (h1 : IsRow .u8 w a1 len1 cap1 z1) (hT : TabS w) :
    Calls Tryd.prog 5 #[.slice a0 len0 cap0, .agg (inC nonce s (.slice a1 len1 cap1))] w fun e w' => e = .returned (.bool true) ∧ Below w.heap.size w w' := by
  have HAW := hid awake4_any
  have HT := hid hT
  have hT1 := hT.lt
  have hm1 := h1.len
  unfold maxLen at hm1
  have HNB := hid (row_nil h1)
  obtain ⟨key, rfl, hc0, hA⟩ := row_at h0 (by omega)
  obtain ⟨b, rfl, hc1, hB⟩ := row_at h1 (by omega)
  have HA := hid hA
  have HB := hid hB
  have HN := hid hn
  have HLI : Hid (∀ W t, t = decide (key.length ≤ 500 ∧ s.size ≤ 600 ∧ b.length ≤ 6000) → Calls Tryd.prog 16 #[.slice a0 key.length cap0, .agg (inC nonce s (.slice a1 b.length cap1))] W fun e w' => e = .returned (.bool t) ∧ Below W.heap.size W w') := fun W t ht => light_any a0 key.length cap0 nonce hn s a1 b.length cap1 W t ht
  have HCL : Hid (∀ {W : World} {g : Nat}, W.heap[g]? = some (.cells (inC nonce s (.slice a1 b.length cap1)) 40 (0, 0)) → W.rangeAt g 0 (bvs nonce) ∧ W.cell? ⟨g, 16, none⟩ = some (.string s) ∧ W.cell? ⟨g, 17, none⟩ = some (.slice a1 b.length cap1)) := fun h => ⟨in_range h, in_label hn h, in_bytes hn h⟩
  have HSI := hid (sizeIn' nonce hn s (.slice a1 b.length cap1))
  have HB0 : Hid (∀ o1, Below w.heap.size w (w.alloc o1)) := fun o1 => (Below.refl _ _).alloc (Nat.le_refl _) o1
  have hu38 := Tryd.underlying38
  have hi38 : (Tryd.prog.info? 38).map (·.size) = some (bvs nonce).length := by rw [size44, bvs_len, hn]
  have hl38 : (bvs nonce).length = 16 := by rw [bvs_len, hn]
  have ho38 := bvs_one' nonce
  have HNV : Hid (bcs nonce = (bvs nonce).toArray) := bcs_eq nonce
  generalize hC : inC nonce s (.slice a1 b.length cap1) = C at HLI HCL HSI ⊢
  clear hT h0 h1 hA hB hn hC
  generalize bvs nonce = NV at HCL hi38 hl38 ho38 HNV
  by_cases hlight : key.length ≤ 500 ∧ s.size ≤ 600 ∧ b.length ≤ 6000
  case neg =>
    have HL0 := hid (fun W => HLI.out W false (by simp [hlight]))
    clear hlight HLI
    go_enter Tryd.func5, Tryd.ntmps5
    go_wp2_with (refine wpList_load_row rfl 40 (.tmp 3) rfl w.heap.size rfl 40 C (0, 0) _ (heap_alloc_new w _) Tryd.underlying40 rfl HSI.out ?_)
    refine (HL0.out _).mono ?_
    rintro e W1 ⟨rfl, hb1⟩
    have HB1 := hid ((HB0.out _).trans (hb1.mono (by simp)))
    clear hb1
    go_wp2_with fail
    refine (HAW.out _ (HT.out.below HB1.out hT1)).mono ?_
    rintro e W2 ⟨rfl, hb2⟩
    go_wp2_with fail
    go_ret
    exact ⟨rfl, HB1.out.trans (hb2.mono HB1.out.size)⟩
  case pos =>
    have HL0 := hid (fun W => HLI.out W true (by simp [hlight]))
    obtain ⟨hk5, hs6, hb6⟩ := hlight
    clear HLI
    by_cases hbad : 256 < s.size ∨ 4096 < b.length
    · have HSE : Hid (∀ W A m A' c c', Calls Tryd.prog 18 #[.slice A m c, .agg NV.toArray, .string s, .slice A' b.length c'] W fun e w' => e = .returned (.tuple #[.slice none 0 0, .int .i64 3]) ∧ Below W.heap.size W w') := fun W A m A' c c' => by rw [← HNV.out]; exact seal_bad nonce s A A' m c b.length c' W hbad
      go_enter Tryd.func5, Tryd.ntmps5
      go_wp2_with (refine wpList_load_row rfl 40 (.tmp 3) rfl w.heap.size rfl 40 C (0, 0) _ (heap_alloc_new w _) Tryd.underlying40 rfl HSI.out ?_)
      refine (HL0.out _).mono ?_
      rintro e V ⟨rfl, hb1⟩
      have HM : Hid (V.heap[w.heap.size]? = some (.cells C 40 (0, 0))) := (hb1.block _ (by simp)).trans (heap_alloc_new w _)
      have HBV := hid ((HB0.out _).trans (hb1.mono (by simp)))
      have hzV : w.heap.size < V.heap.size := (Array.getElem?_eq_some_iff.1 HM.out).1
      clear hb1
      have HSK : Hid (∀ W, Below V.heap.size V W → W.rangeAt w.heap.size 0 NV ∧ W.cell? ⟨w.heap.size, 16, none⟩ = some (.string s) ∧ W.cell? ⟨w.heap.size, 17, none⟩ = some (.slice a1 b.length cap1) ∧ Hid (Below V.heap.size V W)) := fun W h => ⟨(HCL.out ((h.block _ hzV).trans HM.out)).1, (HCL.out ((h.block _ hzV).trans HM.out)).2.1, (HCL.out ((h.block _ hzV).trans HM.out)).2.2, h⟩
      have HKW : Hid (∀ W, Below V.heap.size V W → BytesAt W a0 key) := fun W h => (HA.out.below HBV.out (Nat.le_refl _)).below h (Nat.le_refl _)
      have HBW : Hid (∀ W, Below V.heap.size V W → BytesAt W a1 b) := fun W h => (HB.out.below HBV.out (Nat.le_refl _)).below h (Nat.le_refl _)
      go_wp2_with fail
      go_cut [5, 6] (fun v5 v6 wx => v5 = .slice none 0 0 ∧ v6 = .int .i64 3 ∧ Hid (Below V.heap.size V wx))
      case first =>
        go_region_held3 (fun W => W.rangeAt w.heap.size 0 NV ∧ W.cell? ⟨w.heap.size, 16, none⟩ = some (.string s) ∧ W.cell? ⟨w.heap.size, 17, none⟩ = some (.slice a1 b.length cap1) ∧ Hid (Below V.heap.size V W))
          (first
            | exact HSK.out _ (below_drewN _ _ 1)
            | (go_split_ands
               refine HSK.out _ ?_
               first
                 | exact Below.alloc (Hid.out (by assumption)) (Below.size (Hid.out (by assumption))) _
                 | exact Below.trans (Hid.out (by assumption)) (hbF2.mono (Below.size (Hid.out (by assumption))))
                 | exact Below.trans (Hid.out (by assumption)) (hbF1.mono (Below.size (Hid.out (by assumption))))
                 | exact Below.trans (Hid.out (by assumption)) (hbC.mono (Below.size (Hid.out (by assumption))))))
          ((first
            | (go_at_call 18; refine (HSE.out _ _ _ _ _ _).mono ?_; rintro e w9 ⟨rfl, hbC⟩)
            | (go_split_ands; refine step_fresh (by rfl) (.tmp 19) (.tmp 20) 31 (by rfl) _ key.length key _ (by rfl) (by rfl) (by exact src_bytes (HKW.out _ (Hid.out (by assumption))) cap0 (fun _ => opt_any _)) (by omega) ?_; intro AF1 cF1 wF1 hBF1 hcF1 hbF1)
            | (go_split_ands; refine step_fresh (by rfl) (.tmp 26) (.tmp 28) 31 (by rfl) _ b.length b _ (by rfl) (by rfl) (by exact src_bytes (HBW.out _ (Hid.out (by assumption))) cap1 (fun _ => opt_any _)) (by omega) ?_; intro AF2 cF2 wF2 hBF2 hcF2 hbF2)
            | fail))
        all_goals
          go_wp2_with fail
          go_meet
          case rel => exact ⟨rfl, rfl, by go_split_ands; assumption⟩
      case rest =>
        obtain ⟨rfl, rfl, HV1⟩ := hcut
        have HRS : Hid (∀ W A A' m c c', Calls Tryd.prog 19 #[.slice A m c, .agg NV.toArray, .string s, .slice A' b.length c'] W fun e w' => e = .returned (.tuple #[.slice none 0 0, .int .i64 3]) ∧ Below W.heap.size W w') := fun W A A' m c c' => by rw [← HNV.out]; exact refSeal_bad nonce s A A' m c b.length c' W hbad
        obtain ⟨hr1, hs1, hb1, _⟩ := HSK.out wc HV1.out
        have HR1 := hid hr1
        clear hr1
        go_wp2_with (refine wpList_load_mid rfl 38 (.tmp 35) rfl w.heap.size 0 rfl NV _ HR1.out hu38 rfl hi38 ?_)
        refine (HRS.out _ _ _ _ _ _).mono ?_
        rintro e W2 ⟨rfl, hb2⟩
        have HV2 : Hid (Below V.heap.size V W2) := HV1.out.trans (hb2.mono HV1.out.size)
        clear hb2 hs1 hb1 HR1 HV1
        obtain ⟨_, hs2, hb2, _⟩ := HSK.out W2 HV2.out
        have s1 := str_nil W2
        by_cases hb4 : b.length ≤ 4096
        · have HSZ := hid (fun W => size_any b.length hb4 W)
          have i1 : (b.length : Int) ≤ 4096 := by omega
          go_wp2_with fail
          refine (HSZ.out _).mono ?_
          rintro e W3 ⟨rfl, hW⟩
          rw [hW]
          clear hW
          go_wp2_with fail
          refine (HAW.out _ (HT.out.below (HBV.out.trans (HV2.out.mono (Nat.le_of_lt hzV))) hT1)).mono ?_
          rintro e W4 ⟨rfl, hb⟩
          go_wp2_with fail
          go_ret
          exact ⟨rfl, (HBV.out.trans (HV2.out.mono (Nat.le_of_lt hzV))).trans (hb.mono (Nat.le_trans (Nat.le_of_lt hzV) HV2.out.size))⟩
        · have HSZ := hid (fun W => size_bad (b.length : Int) (.inr (by omega)) W)
          have i1 : ¬ (b.length : Int) ≤ 4096 := by omega
          go_wp2_with fail
          refine (HSZ.out _).mono ?_
          rintro e W3 ⟨rfl, hW⟩
          rw [hW]
          clear hW
          go_wp2_with fail
          refine (HAW.out _ (HT.out.below (HBV.out.trans (HV2.out.mono (Nat.le_of_lt hzV))) hT1)).mono ?_
          rintro e W4 ⟨rfl, hb⟩
          go_wp2_with fail
          go_ret
          exact ⟨by first | rfl | simp [i1] | (simp; omega), (HBV.out.trans (HV2.out.mono (Nat.le_of_lt hzV))).trans (hb.mono (Nat.le_trans (Nat.le_of_lt hzV) HV2.out.size))⟩
    · have hs256 : s.size ≤ 256 := by omega
      have hb4096 : b.length ≤ 4096 := by omega
      have HSE : Hid (∀ W A A' c c', TabS W → BytesAt W A key → key.length ≤ c → BytesAt W A' b → b.length ≤ c' → Calls Tryd.prog 18 #[.slice A key.length c, .agg NV.toArray, .string s, .slice A' b.length c'] W fun e w' => (∃ g c, e = .returned (.tuple #[.slice (some ⟨g, 0, none⟩) (b.length + 48) c, .int .i64 0]) ∧ Own w' W.heap.size g (b.length + 48) c (sealB key nonce s.data.toList b)) ∧ Below W.heap.size W w') := fun W A A' c c' h1 h2 h3 h4 h5 => by rw [← HNV.out]; exact seal_any key nonce b HN.out s A A' c c' W h1 h2 h4 h3 (by omega) h5 hs256 hb4096
      have HRS : Hid (∀ W A A' c c', BytesAt W A key → BytesAt W A' b → Calls Tryd.prog 19 #[.slice A key.length c, .agg NV.toArray, .string s, .slice A' b.length c'] W fun e w' => (∃ g c, e = .returned (.tuple #[.slice (some ⟨g, 0, none⟩) (b.length + 48) c, .int .i64 0]) ∧ Own w' W.heap.size g (b.length + 48) c (sealB key nonce s.data.toList b)) ∧ Below W.heap.size W w') := fun W A A' c c' h2 h4 => by rw [← HNV.out]; exact refSeal_any key nonce b HN.out s A A' c c' W h2 h4 (by omega) hs256 hb4096
      have HOP : Hid (∀ W g c, TabS W → BytesAt W a0 key → BytesAt W (some ⟨g, 0, none⟩) (sealB key nonce s.data.toList b) → b.length + 48 ≤ c → Calls Tryd.prog 21 #[.slice a0 key.length cap0, .string s, .slice (some ⟨g, 0, none⟩) (b.length + 48) c] W fun e w' => (∃ O, e = .returned (.tuple #[.slice (some ⟨O, 0, none⟩) b.length b.length, .int .i64 0]) ∧ W.heap.size ≤ O ∧ w'.heap[O]? = some (.cells (bcs b) 5 (0, 0))) ∧ Below W.heap.size W w') := fun W g c h1 h2 h3 h4 => open_sealed key nonce b HN.out s a0 g cap0 c W h1 h2 h3 hc0 (by omega) h4 hs256 hb4096
      have HDL : Hid ((sealB key nonce s.data.toList b).length = b.length + 48) := by show _ = _; rw [sealB_len, HN.out]; omega
      generalize sealB key nonce s.data.toList b = D at HSE HRS HOP HDL
      clear hbad
      go_enter Tryd.func5, Tryd.ntmps5
      go_wp2_with (refine wpList_load_row rfl 40 (.tmp 3) rfl w.heap.size rfl 40 C (0, 0) _ (heap_alloc_new w _) Tryd.underlying40 rfl HSI.out ?_)
      refine (HL0.out _).mono ?_
      rintro e V ⟨rfl, hb1⟩
      have HM : Hid (V.heap[w.heap.size]? = some (.cells C 40 (0, 0))) := (hb1.block _ (by simp)).trans (heap_alloc_new w _)
      have HBV := hid ((HB0.out _).trans (hb1.mono (by simp)))
      have hzV : w.heap.size < V.heap.size := (Array.getElem?_eq_some_iff.1 HM.out).1
      clear hb1
      have HSK : Hid (∀ W, Below V.heap.size V W → W.rangeAt w.heap.size 0 NV ∧ W.cell? ⟨w.heap.size, 16, none⟩ = some (.string s) ∧ W.cell? ⟨w.heap.size, 17, none⟩ = some (.slice a1 b.length cap1) ∧ Hid (Below V.heap.size V W)) := fun W h => ⟨(HCL.out ((h.block _ hzV).trans HM.out)).1, (HCL.out ((h.block _ hzV).trans HM.out)).2.1, (HCL.out ((h.block _ hzV).trans HM.out)).2.2, h⟩
      have HKW : Hid (∀ W, Below V.heap.size V W → BytesAt W a0 key) := fun W h => (HA.out.below HBV.out (Nat.le_refl _)).below h (Nat.le_refl _)
      have HBW : Hid (∀ W, Below V.heap.size V W → BytesAt W a1 b) := fun W h => (HB.out.below HBV.out (Nat.le_refl _)).below h (Nat.le_refl _)
      go_wp2_with fail
      have HTW : Hid (∀ W, Below V.heap.size V W → TabS W) := fun W h => (HT.out.below HBV.out hT1).below h (by omega)
      go_cut [5, 6] (fun v5 v6 wx => ∃ g c, v5 = .slice (some ⟨g, 0, none⟩) (b.length + 48) c ∧ v6 = .int .i64 0 ∧ b.length + 48 ≤ c ∧ Hid (BytesAt wx (some ⟨g, 0, none⟩) D) ∧ Hid (Below V.heap.size V wx))
      case first =>
        go_region_held3 (fun W => W.rangeAt w.heap.size 0 NV ∧ W.cell? ⟨w.heap.size, 16, none⟩ = some (.string s) ∧ W.cell? ⟨w.heap.size, 17, none⟩ = some (.slice a1 b.length cap1) ∧ Hid (Below V.heap.size V W))
          (first
            | exact HSK.out _ (below_drewN _ _ 1)
            | (go_split_ands
               refine HSK.out _ ?_
               first
                 | exact Below.alloc (Hid.out (by assumption)) (Below.size (Hid.out (by assumption))) _
                 | exact Below.trans (Hid.out (by assumption)) (hbF2.mono (Below.size (Hid.out (by assumption))))
                 | exact Below.trans (Hid.out (by assumption)) (hbF1.mono (Below.size (Hid.out (by assumption))))
                 | exact Below.trans (Hid.out (by assumption)) (hbC.mono (Below.size (Hid.out (by assumption))))))
          ((first
            | (go_at_call 18; go_split_ands; refine (HSE.out _ _ _ _ _ (HTW.out _ (Hid.out (by assumption))) (by first | exact hBF1 | exact hBF1.below hbF2 (Nat.le_refl _) | exact (hBF1.below ((Below.refl _ _).alloc (Nat.le_refl _) _) (Nat.le_refl _)).below hbF2 (Nat.le_refl _)) hcF1 (by first | exact hBF2 | exact hBF2.below hbF1 (Nat.le_refl _) | exact (hBF2.below ((Below.refl _ _).alloc (Nat.le_refl _) _) (Nat.le_refl _)).below hbF1 (Nat.le_refl _)) hcF2).mono ?_; rintro e w9 ⟨⟨g9, c9, rfl, ho9⟩, hbC⟩)
            | (go_split_ands; refine step_fresh (by rfl) (.tmp 19) (.tmp 20) 31 (by rfl) _ key.length key _ (by rfl) (by rfl) (by exact src_bytes (HKW.out _ (Hid.out (by assumption))) cap0 (fun _ => opt_any _)) (by omega) ?_; intro AF1 cF1 wF1 hBF1 hcF1 hbF1)
            | (go_split_ands; refine step_fresh (by rfl) (.tmp 26) (.tmp 28) 31 (by rfl) _ b.length b _ (by rfl) (by rfl) (by exact src_bytes (HBW.out _ (Hid.out (by assumption))) cap1 (fun _ => opt_any _)) (by omega) ?_; intro AF2 cF2 wF2 hBF2 hcF2 hbF2)
            | fail))
        all_goals
          have HBA9 := hid ho9.bytes
          have hle9 := ho9.le
          clear ho9
          go_wp2_with fail
          go_meet
          case rel => exact ⟨g9, c9, rfl, rfl, hle9, HBA9, by go_split_ands; assumption⟩
      case rest =>
        obtain ⟨g, c, rfl, rfl, hle, HSB, HV1⟩ := hcut
        obtain ⟨hr1, hs1, hb1, _⟩ := HSK.out wc HV1.out
        have HR1 := hid hr1
        clear hr1
        go_wp2_with (refine wpList_load_mid rfl 38 (.tmp 35) rfl w.heap.size 0 rfl NV _ HR1.out hu38 rfl hi38 ?_)
        refine (HRS.out _ _ _ _ _ (HKW.out _ HV1.out) (HBW.out _ HV1.out)).mono ?_
        rintro e W2 ⟨⟨g2, c2, rfl, ho2⟩, hb2⟩
        have HV2 : Hid (Below V.heap.size V W2) := HV1.out.trans (hb2.mono HV1.out.size)
        have HSB2 := hid (HSB.out.below hb2 (Nat.le_refl _))
        have s1 : (convert 31 9 (.slice (some ⟨g, 0, none⟩) (b.length + 48) c)).run Tryd.prog W2 = .ok (.string ⟨D.toArray⟩) W2 := str_row HSB2.out HDL.out
        have s2 : (convert 31 9 (.slice (some ⟨g2, 0, none⟩) (b.length + 48) c2)).run Tryd.prog W2 = .ok (.string ⟨D.toArray⟩) W2 := str_row ho2.bytes HDL.out
        clear hb2 hs1 hb1 HR1 HV1 ho2 HSB
        obtain ⟨_, hs2, hb2, _⟩ := HSK.out W2 HV2.out
        have HSZ : Hid (∀ W, Calls Tryd.prog 20 #[.int .i64 (b.length : Int)] W fun e w' => e = .returned (.tuple #[.int .i64 ((b.length : Int) + 48), .int .i64 0]) ∧ w' = W) := fun W => by
          have := size_any b.length hb4096 W
          rw [show 48 + (b.length : Int) = (b.length : Int) + 48 from by omega] at this
          exact this
        have e0 := str_same D D
        rw [decide_eq_true rfl] at e0
        generalize (⟨D.toArray⟩ : ByteArray) = X at s1 s2 e0
        go_wp2_with fail
        refine (HSZ.out _).mono ?_
        rintro e W3 ⟨rfl, hW⟩
        rw [hW]
        clear hW s1 s2 e0
        go_wp2_with fail
        refine (HOP.out _ _ _ (HTW.out _ HV2.out) (HKW.out _ HV2.out) HSB2.out hle).mono ?_
        rintro e W4 ⟨⟨O, rfl, hO, hr4⟩, hb4⟩
        have HV4 : Hid (Below V.heap.size V W4) := HV2.out.trans (hb4.mono HV2.out.size)
        clear hs2 hb2
        obtain ⟨_, hs4, hb4', _⟩ := HSK.out W4 HV4.out
        have s3 : (convert 31 9 (.slice (some ⟨O, 0, none⟩) b.length b.length)).run Tryd.prog W4 = .ok (.string ⟨b.toArray⟩) W4 := str_row (BytesAt.of_row hr4) rfl
        have s4 : (convert 31 9 (.slice a1 b.length cap1)).run Tryd.prog W4 = .ok (.string ⟨b.toArray⟩) W4 := str_at (HBW.out _ HV4.out) HNB.out
        clear hr4 hb4 hO
        have e1 := str_same b b
        rw [decide_eq_true rfl] at e1
        generalize (⟨b.toArray⟩ : ByteArray) = Y at s3 s4 e1
        go_wp2_with fail
        refine (HAW.out _ (HTW.out _ HV4.out)).mono ?_
        rintro e W5 ⟨rfl, hb⟩
        go_wp2_with fail
        go_ret
        exact ⟨rfl, (HBV.out.trans (HV4.out.mono (Nat.le_of_lt hzV))).trans (hb.mono (Nat.le_trans (Nat.le_of_lt hzV) HV4.out.size))⟩

end Go.Proofs.YtggbianodoneeaaDoor
