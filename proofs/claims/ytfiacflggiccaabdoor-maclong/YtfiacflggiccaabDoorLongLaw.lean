/- What MacLong does at every input. -/
import Derived.Test.YtfiacflggiccaabDoorRefMac
import Derived.Test.YtfiacflggiccaabDoorSameLaw
namespace Go.Proofs.YtfiacflggiccaabDoor
open Go.RowKit
set_option linter.unusedSimpArgs false
set_option linter.unusedVariables false

theorem keyB_sha (k : List UInt8) (h : 64 < k.length) : keyB (sha k) = keyB k := by
  unfold keyB
  rw [if_pos h, if_neg (by rw [sha_len]; omega), sha_len]
theorem keyB_zer (k : List UInt8) (m : Nat) (h : k.length + m ≤ 64) : keyB (k ++ zer m) = keyB k := by
  unfold keyB
  have hl : (k ++ zer m).length = k.length + m := by rw [List.length_append, zer_len]
  rw [if_neg (by omega), if_neg (by omega), hl, List.append_assoc]
  congr 1
  unfold zer
  rw [List.replicate_append_replicate]
  congr 1
  omega
theorem zer_succ (k : Nat) : zer (k + 1) = zer k ++ [0] := by unfold zer; rw [List.replicate_succ']
theorem hmac_key (k k' b : List UInt8) (h : keyB k' = keyB k) : hmac k' b = hmac k b := by unfold hmac; rw [h]

set_option maxRecDepth 100000 in
set_option maxHeartbeats 2000000 in
theorem long_law (a0 : Option Addr) (len0 cap0 : Nat) (z0 : List Int) (a1 : Option Addr) (len1 cap1 : Nat) (z1 : List Int) (n : Int) (w : World) (h0 : IsRow .u8 w a0 len0 cap0 z0) (h1 : IsRow .u8 w a1 len1 cap1 z1) (hnw : (Lit.int .u8 n).wf = true) (hT : TabS w) :
    Calls Tryd.prog 4 #[.slice a0 len0 cap0, .slice a1 len1 cap1, .int .u8 n] w fun e w' => e = .returned (.bool true) ∧ Below w.heap.size w w' := by
  have HAW := hid awake3_any
  have HT := hid hT
  have hT1 := hT.lt
  have hm0 := h0.len
  have hm1 := h1.len
  unfold maxLen at hm0 hm1
  obtain ⟨a, rfl, hc0, hA⟩ := row_at h0 (by omega)
  obtain ⟨b, rfl, hc1, hB⟩ := row_at h1 (by omega)
  have HA := hid hA
  have HB := hid hB
  have hn := bounds_u8 hnw
  obtain ⟨n0, rfl⟩ : ∃ m : Nat, n = (m : Int) := ⟨n.toNat, by omega⟩
  have hn0 : n0 < 256 := by omega
  clear h0 h1 hT hA hB hn hnw
  by_cases hl0 : (a.length : Int) ≤ 2000
  · by_cases hl1 : (b.length : Int) ≤ 2000
    · have HOF : Hid (∀ W, TabS W → BytesAt W a0 a → BytesAt W a1 b → Calls Tryd.prog 9 #[.slice a0 a.length cap0, .slice a1 b.length cap1] W fun e w' => e = .returned (.agg (bcs (hmac a b))) ∧ Below W.heap.size W w') := fun W h1 h2 h3 => macOf_any a b a0 a1 cap0 cap1 W h1 h2 h3 hc0 hc1 (by omega) (by omega)
      have HEQ := hid (eq24 (hmac a b) (hmac_len a b))
      by_cases hk : (64 : Int) < (a.length : Int)
      · have HRE : Hid (∀ W, BytesAt W a0 a → Calls Tryd.prog 8 #[.slice a0 a.length cap0] W fun e w' => e = .returned (.agg (bcs (sha a))) ∧ Below W.heap.size W w') := fun W h1 => refOf_any a a0 cap0 W h1 (by omega)
        have HO2 : Hid (∀ W P, TabS W → W.heap[P]? = some (.cells (bcs (sha a)) 30 (0, 0)) → BytesAt W a1 b → Calls Tryd.prog 9 #[.slice (some ⟨P, 0, none⟩) 32 32, .slice a1 b.length cap1] W fun e w' => e = .returned (.agg (bcs (hmac a b))) ∧ Below W.heap.size W w') := fun W P h1 h2 h3 => by
          have := macOf_any (sha a) b (some ⟨P, 0, none⟩) a1 32 cap1 W h1 (BytesAt.of_row h2) h3 (by rw [sha_len]; omega) hc1 (by rw [sha_len]; omega) (by omega)
          rw [sha_len, hmac_key a (sha a) b (keyB_sha a (by omega))] at this
          exact this
        have HSL := hid (sha_len a)
        generalize sha a = S at HRE HO2 HSL
        generalize hmac a b = D at HOF HO2 HEQ
        have HIS := hid (size24' S HSL.out)
        have HOS := hid (bvs_one S)
        go_enter Tryd.func4, Tryd.ntmps4
        go_wp2_with fail
        refine (HRE.out _ HA.out).mono ?_
        rintro e W2 ⟨rfl, hb2⟩
        have HB2 := hid hb2
        have hz2 := hb2.size
        clear hb2 HRE
        go_wp2_with (refine wpList_store_abs rfl 30 (.tmp 7) (.tmp 22) rfl W2.heap.size 0 (bcs S) rfl rfl 30 _ (heap_alloc_new W2 _) (by rw [bcs_size, HSL.out]; exact Nat.le_refl 32) HIS.out HOS.out ?_; intro W3 hO3 hW3)
        rw [over_bytes _ S (by rw [HSL.out]; rfl)] at hW3
        have hp3 : W2.heap.size < W3.heap.size := (Array.getElem?_eq_some_iff.1 hW3).1
        have hB3 : Below w.heap.size w W3 := (HB2.out.alloc hz2 _).trans (hO3.below hz2)
        have hBD : Below w.heap.size w W3.drew := hB3.trans (below_drewN _ W3 1)
        have H25 := hid (HOF.out W3.drew (HT.out.below hBD hT1) (HA.out.below hBD (Nat.le_refl _)) (HB.out.below hBD (Nat.le_refl _)))
        have hB1 : ∀ w1, Below W3.drew.heap.size W3.drew w1 → Below w.heap.size w w1 := fun w1 h => hBD.trans (h.mono (show w.heap.size ≤ W3.heap.size by omega))
        have H28 : Hid (∀ w1, Below W3.drew.heap.size W3.drew w1 → Calls Tryd.prog 9 #[.slice (some ⟨W2.heap.size, 0, none⟩) 32 32, .slice a1 b.length cap1] w1 fun e w' => e = .returned (.agg (bcs D)) ∧ Below w1.heap.size w1 w') := fun w1 h =>
          HO2.out w1 W2.heap.size (HT.out.below (hB1 w1 h) hT1) ((h.block _ (show W2.heap.size < W3.heap.size from hp3)).trans (by exact hW3)) (HB.out.below (hB1 w1 h) (Nat.le_refl _))
        have H31 : Hid (∀ w1 w2, Below W3.drew.heap.size W3.drew w1 → Below w1.heap.size w1 w2 → Calls Tryd.prog 5 #[] w2 fun e w' => e = .returned (.bool true) ∧ Below w2.heap.size w2 w') := fun w1 w2 h h2 =>
          HAW.out w2 (HT.out.below ((hB1 w1 h).trans (h2.mono (hB1 w1 h).size)) hT1)
        have HBF : Hid (∀ w1 w2 w3, Below W3.drew.heap.size W3.drew w1 → Below w1.heap.size w1 w2 → Below w2.heap.size w2 w3 → Below w.heap.size w w3) := fun w1 w2 w3 h h2 h3 => by
          have e1 := (hB1 w1 h).trans (h2.mono (hB1 w1 h).size)
          exact e1.trans (h3.mono e1.size)
        clear hO3 hW3 hB3 hBD hB1 HO2 HOF
        go_wp2_with fail
        go_region_with ((first
          | (go_at_call_of 9 (Value.slice a0 a.length cap0); refine H25.out.mono ?_; rintro e w1 ⟨rfl, hb1⟩; have HB1 := hid hb1; clear hb1)
          | (go_at_call_of 9 (Value.slice (some ⟨W2.heap.size, 0, none⟩) 32 32); refine (H28.out _ HB1.out).mono ?_; rintro e w2 ⟨rfl, hb2⟩; have HB22 := hid hb2; clear hb2; have heq := HEQ.out w2)
          | (go_at_call 5; refine (H31.out _ _ HB1.out HB22.out).mono ?_; rintro e w3 ⟨rfl, hb3⟩; have HB33 := hid hb3; clear hb3)))
        all_goals
          go_wp2_with fail
          go_ret
          exact ⟨rfl, HBF.out _ _ _ HB1.out HB22.out HB33.out⟩
      · have HO2 : Hid (∀ W P c k m, m = a.length + k → m ≤ 64 → m ≤ c → TabS W → BytesAt W (some ⟨P, 0, none⟩) (a ++ zer k) → BytesAt W a1 b → Calls Tryd.prog 9 #[.slice (some ⟨P, 0, none⟩) m c, .slice a1 b.length cap1] W fun e w' => e = .returned (.agg (bcs (hmac a b))) ∧ Below W.heap.size W w') := fun W P c k m h1 h2 h3 h4 h5 h6 => by
          have hl : (a ++ zer k).length = m := by rw [List.length_append, zer_len, h1]
          have := macOf_any (a ++ zer k) b (some ⟨P, 0, none⟩) a1 c cap1 W h4 h5 h6 (by omega) hc1 (by omega) (by omega)
          rw [hl, hmac_key a (a ++ zer k) b (keyB_zer a k (by omega))] at this
          exact this
        generalize hmac a b = D at HOF HO2 HEQ
        go_enter Tryd.func4, Tryd.ntmps4
        go_wp2_with (first
          | (refine wpList_app rfl (.tmp 33) (.tmp 34) rfl w.heap.size w.heap.size 0 0 cap0 a.length (bvs []) a0 a rfl rfl rfl (own_zero w w.heap.size (Nat.le_refl _)) (HA.out.below ((Below.refl w.heap.size w).alloc (Nat.le_refl _) _) (Nat.le_refl _)) (by omega) (by simp) ?_; intro g1 c1 W1 hown1 hgr1 hg1;
             have HB1 : Hid (Below w.heap.size w W1) := own_below (own_zero w w.heap.size (Nat.le_refl _)) ((Below.refl w.heap.size w).alloc (Nat.le_refl _) _) (by simp) hgr1
             rw [Nat.zero_add] at hown1
             have HO1 := hid hown1
             clear hown1 hgr1 hg1))
        go_loopw [8, 2] (fun v i wx => ∃ (k g c m nn : Nat), m ≤ 64 ∧ nn < 256 ∧ i = .int .u8 (nn : Int) ∧ v = .slice (some ⟨g, 0, none⟩) m c ∧ Hid (m = a.length + k) ∧ Hid (wx.ownsRow w.heap.size 5 1 (.slice (some ⟨g, 0, none⟩) m c) m (bvs (a ++ zer k))) ∧ Hid (Below w.heap.size w wx)) (fun _ i _ => (intOf i).toNat)
        case atStart => exact ⟨0, g1, c1, a.length, n0, by omega, hn0, rfl, rfl, rfl, (by show World.ownsRow _ _ _ _ _ _ _; rw [show zer 0 = [] from rfl, List.append_nil]; exact HO1.out), HB1⟩
        case round =>
          obtain ⟨k, g, c, m, nn, hm, hnn, rfl, rfl, HM, HO, HBW⟩ := hrel
          have hz := HBW.out.size
          by_cases hgo : m < 64 ∧ 0 < nn
          · obtain ⟨hg1, hg2⟩ := hgo
            obtain ⟨n1, rfl⟩ : ∃ n1, nn = n1 + 1 := ⟨nn - 1, by omega⟩
            have hsub : ((n1 + 1 : Nat) : Int) - 1 = (n1 : Int) := by omega
            go_wp2_with (refine wpList_app rfl (.tmp 43) (.tmp 44) rfl w.heap.size g m c 1 1 (bvs (a ++ zer k)) _ [0] rfl rfl rfl (HO.out.alloc _) (BytesAt.one wr 0 0 rfl) (by omega) (by simp; omega) ?_; intro g3 c3 W3 hown3 hgr3 hg3)
            have HB3 : Hid (Below w.heap.size w W3) := own_below (HO.out.alloc _) (HBW.out.alloc hz _) (by simp; omega) hgr3
            have HO3 := hid hown3
            clear hown3 hgr3 hg3
            go_wp2_with fail
            go_roundw
            case rel => exact ⟨k + 1, g3, c3, m + 1, n1, by omega, by omega, (by first | rfl | (congr 1; omega)), rfl, (by show _ = _; have := HM.out; omega), (by show World.ownsRow _ _ _ _ _ _ _; rw [zer_succ, ← List.append_assoc, bvs_app]; exact HO3.out), HB3⟩
            case measure => first | (simp [intOf]; done) | (simp [intOf]; omega)
          · have HBA := hid (BytesAt.own HO.out)
            have hcc := own_cap HO.out
            have H53 : Hid (∀ W, Below wr.heap.size wr W → Calls Tryd.prog 9 #[.slice (some ⟨g, 0, none⟩) m c, .slice a1 b.length cap1] W fun e w' => e = .returned (.agg (bcs D)) ∧ Below W.heap.size W w') := fun W h =>
              HO2.out W g c k m HM.out hm hcc (HT.out.below (HBW.out.trans (h.mono hz)) hT1) (HBA.out.below h (Nat.le_refl _)) (HB.out.below (HBW.out.trans (h.mono hz)) (Nat.le_refl _))
            by_cases hmm : m < 64
            · obtain rfl : nn = 0 := by omega
              go_wp2_with fail
              refine (HOF.out _ (HT.out.below HBW.out hT1) (HA.out.below HBW.out (Nat.le_refl _)) (HB.out.below HBW.out (Nat.le_refl _))).mono ?_
              rintro e W5 ⟨rfl, hb5⟩
              have HB5 := hid hb5
              clear hb5
              go_wp2_with fail
              refine (H53.out _ HB5.out).mono ?_
              rintro e W6 ⟨rfl, hb6⟩
              have HB6 := hid ((HBW.out.trans (HB5.out.mono hz)).trans (hb6.mono (HBW.out.trans (HB5.out.mono hz)).size))
              clear hb6
              have heq := HEQ.out W6
              go_wp2_with fail
              refine (HAW.out _ (HT.out.below HB6.out hT1)).mono ?_
              rintro e W7 ⟨rfl, hb7⟩
              have HB7 := hid (HB6.out.trans (hb7.mono HB6.out.size))
              clear hb7
              go_wp2_with fail
              go_ret
              exact ⟨rfl, HB7.out⟩
            · go_wp2_with fail
              refine (HOF.out _ (HT.out.below HBW.out hT1) (HA.out.below HBW.out (Nat.le_refl _)) (HB.out.below HBW.out (Nat.le_refl _))).mono ?_
              rintro e W5 ⟨rfl, hb5⟩
              have HB5 := hid hb5
              clear hb5
              go_wp2_with fail
              refine (H53.out _ HB5.out).mono ?_
              rintro e W6 ⟨rfl, hb6⟩
              have HB6 := hid ((HBW.out.trans (HB5.out.mono hz)).trans (hb6.mono (HBW.out.trans (HB5.out.mono hz)).size))
              clear hb6
              have heq := HEQ.out W6
              go_wp2_with fail
              refine (HAW.out _ (HT.out.below HB6.out hT1)).mono ?_
              rintro e W7 ⟨rfl, hb7⟩
              have HB7 := hid (HB6.out.trans (hb7.mono HB6.out.size))
              clear hb7
              go_wp2_with fail
              go_ret
              exact ⟨rfl, HB7.out⟩
    · go_enter Tryd.func4, Tryd.ntmps4
      go_wp2_with (go_at_call 5; refine (HAW.out _ HT.out).mono ?_; rintro e w1 ⟨rfl, hb1⟩)
      go_ret
      exact ⟨rfl, hb1⟩
  · go_enter Tryd.func4, Tryd.ntmps4
    go_wp2_with (go_at_call 5; refine (HAW.out _ HT.out).mono ?_; rintro e w1 ⟨rfl, hb1⟩)
    go_ret
    exact ⟨rfl, hb1⟩

end Go.Proofs.YtfiacflggiccaabDoor
