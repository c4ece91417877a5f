
/- What renewedAlone does. -/
import Derived.Test.YtlgkbdebpnbndaaGreatDoorJsRnB
import Derived.Deep.RegionHeld3
namespace Go.Proofs.YtlgkbdebpnbndaaGreatDoor
set_option linter.unusedVariables false
set_option linter.unusedSimpArgs false
open Go.RowKit Go.BigFrame
attribute [local go_sem ↓] loadV_eq storeV_eq

set_option maxHeartbeats 2000000 in
set_option maxRecDepth 100000 in
theorem renewedA_any (n0 d : Nat) (t : VJ d) (hw : wtJ d t ≤ 100000) (cs : Array Value) (w : World) (hn0 : n0 ≤ w.heap.size) (hnd : VAt (fun q => q < n0) d w cs t) : Calls Tryz.prog 75 #[.agg cs] w fun e w' => Below w.heap.size w w' ∧ ∃ nv kv, e = .returned (.agg #[.int .i64 (labJ d t).1, .int .i64 (labJ d t).2.1, .string (asS (labJ d t).2.2.1), kv, nv]) ∧ OwnNm (fun q => w.heap.size ≤ q) w' nv (labJ d t).2.2.2 ∧ KidsO n0 w.heap.size w' (d - 1) kv (kidsJ d t) := by
  obtain ⟨kA, kc, nA, nc, rfl, hats, hks, _⟩ := hnd.parts
  unfold vcs
  obtain ⟨w1, w2, w3, w4, _⟩ := wtJ_parts hw
  have HA := hid hats
  have HKS := hid hks
  have HCN : Hid (∀ j, j < (labJ d t).2.2.2.length → ∀ W, Calls Tryz.prog 46 #[.string (asS ((labJ d t).2.2.2.getD j []))] W fun e w' => e = .returned (.string (asS ((labJ d t).2.2.2.getD j []))) ∧ Below W.heap.size W w') := fun j hj W => clone8 _ (by rw [asS_size]; have := w3 _ (getD_mem9 (z := []) hj); omega) W
  have HCT := hid (clone8 (asS (labJ d t).2.2.1) (by rw [asS_size]; omega))
  have HEN := hid (enters_of Tryz.func46 (by kernel_rfl) rfl)
  clear hats hks hnd w1 w3 hw
  generalize asS (labJ d t).2.2.1 = TX at HCT ⊢
  generalize (labJ d t).1 = KI
  generalize (labJ d t).2.1 = NU
  generalize (labJ d t).2.2.2 = al at HA HCN w2 ⊢
  generalize kidsJ d t = ks at HKS w4 ⊢
  have HAD := hid (take_getD al ([] : List UInt8))
  generalize hn : ks.length = n at w4 ⊢
  generalize hm : al.length = m at HCN HAD w2 ⊢
  have HN := hid hn
  have HM := hid hm
  clear hn hm
  have HROW := hid (heap_alloc_new w (.cells #[.int .i64 KI, .int .i64 NU, .string TX, .slice kA n kc, .slice nA m nc] 25))
  have HB0 := hid ((Below.refl w.heap.size w).alloc (Nat.le_refl _) (.cells #[.int .i64 KI, .int .i64 NU, .string TX, .slice kA n kc, .slice nA m nc] 25))
  have HSZ : Hid ((w.alloc (.cells #[.int .i64 KI, .int .i64 NU, .string TX, .slice kA n kc, .slice nA m nc] 25)).heap.size = w.heap.size + 1) := Array.size_push _
  obtain ⟨W0, hW0⟩ : ∃ W0, w.alloc (.cells #[.int .i64 KI, .int .i64 NU, .string TX, .slice kA n kc, .slice nA m nc] 25) = W0 := ⟨_, rfl⟩
  rw [hW0] at HB0 HROW HSZ
  have HR0 := hid (heap_alloc_new W0 (.cells #[.int .i64 0, .int .i64 0, .string ⟨#[]⟩, .slice none 0 0, .slice none 0 0] 25 (0, 0)))
  have HB1 := hid ((Below.refl W0.heap.size W0).alloc (Nat.le_refl _) (.cells #[.int .i64 0, .int .i64 0, .string ⟨#[]⟩, .slice none 0 0, .slice none 0 0] 25 (0, 0)))
  obtain ⟨W1, hW1⟩ : ∃ W1, W0.alloc (.cells #[.int .i64 0, .int .i64 0, .string ⟨#[]⟩, .slice none 0 0, .slice none 0 0] 25 (0, 0)) = W1 := ⟨_, rfl⟩
  rw [hW1] at HR0 HB1
  have HRW := hid (row_keep HB1.out HROW.out)
  have c1 : W1.cell? ⟨w.heap.size, 4, none⟩ = some (.slice nA m nc) := cell_of_row _ _ _ _ _ _ HRW.out
  go_enter Tryz.func75, Tryz.ntmps75
  go_wp2_with fail
  clear c1
  go_loopw [3, 9] (fun v i wr => ∃ (k : Nat), k ≤ m ∧ i = .int .i64 (k : Int) ∧ Hid (OwnNm (fun q => W1.heap.size ≤ q) wr v (al.take k)) ∧ Hid (Below W1.heap.size W1 wr)) (fun v i wr => m - (intOf i).toNat)
  case atStart => exact ⟨0, Nat.zero_le _, rfl, OwnNm.nil _ _, Below.refl _ _⟩
  case round =>
    obtain ⟨k, hk2, rfl, HOW, HB⟩ := hrel
    have hbw : Hid (Below w.heap.size w wr) := (HB0.out.trans (HB1.out.mono HB0.out.size)).trans (HB.out.mono (HB0.out.trans (HB1.out.mono HB0.out.size)).size)
    by_cases hlt : k < m
    · have hi : (k : Int) < (m : Int) := by omega
      have hal : k < al.length := by have := HM.out; omega
      obtain ⟨q, o, hq, _, hqs, hcs⟩ := HA.out (by omega)
      subst hq
      have k1 := (hbw.out.cell (p := ⟨q, o + k, none⟩) hqs).trans (hcs k hal)
      have HC1 := hid (HCN.out k hlt)
      have HST := hid (HAD.out k hlt)
      clear hcs hqs hal
      obtain ⟨hdv, hhd⟩ : ∃ x, al.getD k [] = x := ⟨_, rfl⟩
      rw [hhd] at k1 HC1 HST
      clear hhd
      obtain ⟨A1, hA1⟩ : ∃ x, asS hdv = x := ⟨_, rfl⟩
      rw [hA1] at k1 HC1
      have HA1 := hid hA1.symm
      clear hA1
      go_wp2_with fail
      refine (HC1.out _).mono ?_
      rintro e W2 ⟨rfl, hb⟩
      have HO2 := hid (HOW.out.below hb)
      have HB2 := hid (HB.out.trans (hb.mono HB.out.size))
      have HBA := hid ((Below.refl W2.heap.size W2).alloc (Nat.le_refl _) (.cells #[.string A1] 9))
      have HLT : Hid ((al.take k).length ≤ 1000000) := by show _ ≤ _; rw [List.length_take]; omega
      clear hb k1
      go_wp2_with (first
        | (refine wpList_nm rfl _ _ rfl (fun q => W1.heap.size ≤ q) _ _ (al.take k) hdv rfl rfl (HO2.out.below HBA.out) (src_st _ W2.heap.size 1 hdv A1 HA1.out (heap_alloc_new W2 _)) HLT.out (Nat.le_trans HB2.out.size HBA.out.size) ?_; intro v9 w9 h9 hg9 hb9; have HN9 := hid h9; have HB9 : Hid (Below W1.heap.size W1 w9) := HB2.out.trans ((HBA.out.mono HB2.out.size).trans (grown_cut hg9 (Nat.le_trans HB2.out.size HBA.out.size) (fun q hq => (HO2.out.blk_P q hq).1))); clear h9 hg9 hb9)
        | fail)
      go_roundw
      case rel => exact ⟨k + 1, by omega, by go_num, by show OwnNm _ _ _ _; rw [HST.out]; exact HN9.out, HB9⟩
      case measure => simp [intOf]; omega
    · have hkm : k = m := by omega
      have HAL : Hid (al.take k = al) := List.take_of_length_le (by have := HM.out; omega)
      have hV := HOW.out
      rw [HAL.out] at hV
      obtain ⟨vA, vc, hvs, _⟩ := hV.shape
      rw [HM.out] at hvs
      subst hvs
      have HV := hid hV
      have hrw := row_keep HB.out HRW.out
      have hr0 := row_keep HB.out HR0.out
      have HCL : Hid (∀ W, Below wr.heap.size wr W → W.cell? ⟨w.heap.size, 0, none⟩ = some (.int .i64 KI) ∧ W.cell? ⟨w.heap.size, 1, none⟩ = some (.int .i64 NU) ∧ W.cell? ⟨w.heap.size, 2, none⟩ = some (.string TX) ∧ W.cell? ⟨w.heap.size, 3, none⟩ = some (.slice kA n kc)) := fun W hW => ⟨cell_of_row _ _ _ _ _ _ (row_keep hW hrw), cell_of_row _ _ _ _ _ _ (row_keep hW hrw), cell_of_row _ _ _ _ _ _ (row_keep hW hrw), cell_of_row _ _ _ _ _ _ (row_keep hW hrw)⟩
      have HSK : Hid (∀ W, Below wr.heap.size wr W → W.cell? ⟨w.heap.size, 0, none⟩ = some (.int .i64 KI) ∧ W.cell? ⟨w.heap.size, 1, none⟩ = some (.int .i64 NU) ∧ W.cell? ⟨w.heap.size, 2, none⟩ = some (.string TX) ∧ W.cell? ⟨w.heap.size, 3, none⟩ = some (.slice kA n kc)) := fun W hW => HCL.out W hW
      have HSP : Hid (∀ W, Below wr.heap.size wr W → ∀ cs', (putM W W0.heap.size cs').cell? ⟨w.heap.size, 0, none⟩ = some (.int .i64 KI) ∧ (putM W W0.heap.size cs').cell? ⟨w.heap.size, 1, none⟩ = some (.int .i64 NU) ∧ (putM W W0.heap.size cs').cell? ⟨w.heap.size, 2, none⟩ = some (.string TX) ∧ (putM W W0.heap.size cs').cell? ⟨w.heap.size, 3, none⟩ = some (.slice kA n kc)) := fun W hW cs' => by
        have ho := putM_only W W0.heap.size cs'
        have hh : w.heap.size ≠ W0.heap.size := by have := HSZ.out; omega
        obtain ⟨h0, h1, h2, h3⟩ := HCL.out W hW
        have hc : ∀ k, (putM W W0.heap.size cs').cell? ⟨w.heap.size, k, none⟩ = W.cell? ⟨w.heap.size, k, none⟩ := fun k => cell_same (ho.block _ hh) k
        exact ⟨(hc 0).trans h0, (hc 1).trans h1, (hc 2).trans h2, (hc 3).trans h3⟩
      have HSTO : Hid (∀ W, Below wr.heap.size wr W → ∀ A k' c, (storeI 25 (.pointer (some ⟨W0.heap.size, 0, none⟩)) (.agg #[.int .i64 KI, .int .i64 NU, .string TX, .slice A k' c, .slice vA m vc])).run Tryz.prog W = .ok () (putM W W0.heap.size #[.int .i64 KI, .int .i64 NU, .string TX, .slice A k' c, .slice vA m vc])) := fun W hW A k' c => storeV_row _ _ _ _ _ rfl rfl rfl rfl rfl (row_keep hW hr0) rfl
      have HCB : Hid (∀ W, Below wr.heap.size wr W → Calls Tryz.prog 46 #[.string TX] W fun x w' => ∃ v, x = .returned v ∧ (v = .string TX ∧ Below wr.heap.size wr w' ∧ Below W.heap.size W w')) := fun W hW => (HCT.out W).mono fun x w' hh => ⟨_, hh.1, rfl, hW.trans (hh.2.mono hW.size), hh.2⟩
      have HBx : Hid (Below wr.heap.size wr wr) := Below.refl _ _
      have hi : ¬ (k : Int) < (m : Int) := by omega
      have HRX := hid hr0
      have HWR : Hid (w.heap.size < W0.heap.size ∧ W0.heap.size < W1.heap.size ∧ W1.heap.size ≤ wr.heap.size) := ⟨by have := HSZ.out; omega, by rw [← hW1]; simp, HB.out.size⟩
      have HFIN : Hid (∀ W, Below wr.heap.size wr W → ∀ cs', Below w.heap.size w (putM W W0.heap.size cs') ∧ OwnNm (fun q => w.heap.size ≤ q) (putM W W0.heap.size cs') (.slice vA m vc) al) := fun W hW cs' => ⟨(hbw.out.trans (hW.mono hbw.out.size)).trans ((putM_only W W0.heap.size cs').below (by have := HWR.out; omega)), ((HV.out.below hW).only (putM_only W W0.heap.size cs') HWR.out.2.1).base (by have := HWR.out; omega)⟩
      have HKW : Hid (∀ W, Below wr.heap.size wr W → VsAt (fun q => q < n0) (d - 1) W kA ks) := fun W hW => HKS.out.below (hbw.out.trans (hW.mono hbw.out.size)) (Nat.le_refl _)
      have HSW : Hid (∀ W, Below wr.heap.size wr W → n0 ≤ W.heap.size) := fun W hW => by have := hW.size; have := HWR.out; show _ ≤ _; omega
      have HROF : Hid (∀ W G cap, RowO n0 W (d - 1) G cap ks → wr.heap.size ≤ G → 0 < n → ∀ cs', KidsO n0 w.heap.size (putM W W0.heap.size cs') (d - 1) (.slice (some ⟨G, 0, none⟩) n cap) ks) := fun W G cap h hG hn1 cs' => by
        have hh := HWR.out
        have ho := putM_only W W0.heap.size cs'
        have hp : 0 < ks.length := by have := HN.out; omega
        exact .inr ⟨G, cap, by rw [HN.out], by omega, hp, h.keep (by rw [ho.size]; exact Nat.le_refl _) (ho.block G (by omega)) (fun q hq _ => ho.block q (by omega))⟩
      clear hrw hr0 hV HOW HCN HAD hn0
      by_cases hz : n = 0
      · have hkl : ks.length = 0 := HN.out.trans hz
        subst hz
        have HKL := hid hkl
        clear hkl
        go_wp2_with fail
        go_region_held3 (fun W => W.cell? ⟨w.heap.size, 0, none⟩ = some (.int .i64 KI) ∧ W.cell? ⟨w.heap.size, 1, none⟩ = some (.int .i64 NU) ∧ W.cell? ⟨w.heap.size, 2, none⟩ = some (.string TX) ∧ W.cell? ⟨w.heap.size, 3, none⟩ = some (.slice kA 0 kc))
          (first
            | exact HSK.out _ (below_drewN _ _ 1)
            | exact HSK.out _ HBx.out
            | exact HSP.out _ HBx.out _)
          ((first
            | (go_at_call 46; refine (HCB.out _ (by first | exact HBx.out | exact HBx.out.drew | exact below_drewN _ _ _ | exact (below_drewN _ _ _).drew | exact HBx.out.trans ((below_drewN _ _ _).mono HBx.out.size))).mono ?_; rintro e wC ⟨v, rfl, rfl, hbC, hbD⟩; have HBx := hid hbC; first | (have hro := hro.below hbD) | skip; have hst := HSTO.out wC hbC)
            | (refine step_nil0 (by rfl) _ _ (by rfl) kA kc (by rfl) (by rfl) ?_)
            | fail))
        all_goals
          go_simp
          go_wp2_with fail
          have hfin := HFIN.out wC HBx.out
          exact bodyPost_ret (ret_v (p := 2) Tryz.results75 _ _ W0.heap.size _ rfl (0, 0) rfl (putM_row (row_keep HBx.out HRX.out) rfl)) rfl ⟨(hfin _).1, _, _, rfl, (hfin _).2, .inl ⟨HKL.out, rfl⟩⟩
      · have hnp : 0 < n := by omega
        have hn6 : n ≤ 1000000 := by omega
        clear hz
        go_wp2_with fail
        go_region_held3 (fun W => W.cell? ⟨w.heap.size, 0, none⟩ = some (.int .i64 KI) ∧ W.cell? ⟨w.heap.size, 1, none⟩ = some (.int .i64 NU) ∧ W.cell? ⟨w.heap.size, 2, none⟩ = some (.string TX) ∧ W.cell? ⟨w.heap.size, 3, none⟩ = some (.slice kA n kc))
          (first
            | exact HSK.out _ (below_drewN _ _ 1)
            | exact HSK.out _ HBx.out
            | exact HSP.out _ HBx.out _)
          ((first
            | (go_at_call 46; refine (HCB.out _ (by first | exact HBx.out | exact HBx.out.drew | exact below_drewN _ _ _ | exact (below_drewN _ _ _).drew | exact HBx.out.trans ((below_drewN _ _ _).mono HBx.out.size))).mono ?_; rintro e wC ⟨v, rfl, rfl, hbC, hbD⟩; have HBx := hid hbC; first | (have hro := hro.below hbD) | skip; have hst := HSTO.out wC hbC)
            | (refine step_kids (by rfl) _ _ (by rfl) n0 (d - 1) kA kc ks n HN.out (by rfl) (by rfl) (HKW.out _ (by first | exact HBx.out | exact HBx.out.drew | exact below_drewN _ _ _ | exact (below_drewN _ _ _).drew | exact HBx.out.trans ((below_drewN _ _ _).mono HBx.out.size))) hnp hn6 (HSW.out _ (by first | exact HBx.out | exact HBx.out.drew | exact below_drewN _ _ _ | exact (below_drewN _ _ _).drew | exact HBx.out.trans ((below_drewN _ _ _).mono HBx.out.size))) wr (by first | exact HBx.out | exact HBx.out.drew | exact below_drewN _ _ _ | exact (below_drewN _ _ _).drew | exact HBx.out.trans ((below_drewN _ _ _).mono HBx.out.size)) ?_; intro cap gK wC hge hro hbK; have HBx := hid hbK; have hst := HSTO.out wC hbK)
            | fail))
        all_goals
          go_simp
          go_wp2_with fail
          have hfin := HFIN.out wC HBx.out
          exact bodyPost_ret (ret_v (p := 2) Tryz.results75 _ _ W0.heap.size _ rfl (0, 0) rfl (putM_row (row_keep HBx.out HRX.out) rfl)) rfl ⟨(hfin _).1, _, _, rfl, (hfin _).2, HROF.out _ _ _ hro hge hnp _⟩
end Go.Proofs.YtlgkbdebpnbndaaGreatDoor
