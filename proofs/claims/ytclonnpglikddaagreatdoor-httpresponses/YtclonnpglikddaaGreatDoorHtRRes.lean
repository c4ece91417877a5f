
/- A response put together: what Response of the reference does. -/
import Derived.Test.YtclonnpglikddaaGreatDoorHtRReq
import Derived.Test.YtclonnpglikddaaGreatDoorHtFirst
import Derived.Test.YtclonnpglikddaaGreatDoorHtPS
namespace Go.Proofs.YtclonnpglikddaaGreatDoor
set_option linter.unusedVariables false
set_option linter.unusedSimpArgs false
open Go.RowKit Go.BigFrame

set_option maxHeartbeats 4000000 in
set_option maxRecDepth 100000 in
theorem refResponse_a (st : Int) (t : List UInt8) (l : List HdV) (bd : List UInt8) (A : Option Addr) (c : Nat) (B : Option Addr) (cb : Nat) (hs1 : 200 ≤ st) (hs2 : st ≤ 599) (ht : t.length ≤ 10000) (hl : l.length ≤ 100) (hn : bd.length ≤ 65535) (hb0 : bareM st = false) (hck : checkH (ownResp ⟨st, t, l, bd⟩) = 0) (w : World) (hA : HdsAt w A l) (hB : BytesAt w B bd) : Calls Tryz.prog 19 #[.agg #[.int .i64 st, .string (asS t), .slice A l.length c, .slice B bd.length cb]] w fun e w' => ∃ h cap, e = .returned (.slice (some ⟨h, 0, none⟩) (printResp ⟨st, t, l, bd⟩).length cap) ∧ Own w' w.heap.size h (printResp ⟨st, t, l, bd⟩).length cap (printResp ⟨st, t, l, bd⟩) ∧ Below w.heap.size w w' := by
  obtain ⟨k, hk⟩ : ∃ k : Nat, st = (k : Int) := ⟨st.toNat, by omega⟩
  have hkk : st.toNat = k := by rw [hk]; rfl
  have HDG := hid (fun W => refDigits_any k (by omega) W)
  rw [← hk] at HDG
  have hdl : (Lib.decDigits k).length ≤ 10 := by have := digs_len 9 k (by omega); omega
  have HBA := hid (fun W => refBare_any st W)
  have HWI := hid (fun W hW => refWith_any l A c bd.length (by omega) hn W hW)
  have hll : (verM ++ 32 :: (Lib.decDigits k ++ 32 :: t)).length ≤ 100000 := by simp [verM]; omega
  have HTO := hid (fun A' c' W h1 h2 => refJoin_any (verM ++ 32 :: (Lib.decDigits k ++ 32 :: t)) (ownResp ⟨st, t, l, bd⟩) bd A' c' B cb hll hck (by omega) W h1 h2)
  have HJ : Hid (joinM (verM ++ 32 :: (Lib.decDigits k ++ 32 :: t)) (ownResp ⟨st, t, l, bd⟩) bd = printResp ⟨st, t, l, bd⟩) := by
    show _ = joinM (lineResp ⟨st, t, l, bd⟩) _ _
    unfold lineResp
    simp only [hkk]
  rw [HJ.out, ← res_text] at HTO
  have HOW : Hid (ownResp ⟨st, t, l, bd⟩ = if bareM st then l else withM l bd.length) := rfl
  have z1 : (asS (Lib.decDigits k)).size ≤ 10 := by rw [asS_size]; exact hdl
  have z2 : (asS t).size ≤ 10000 := by rw [asS_size]; exact ht
  have HA := hid hA
  have HBB := hid hB
  have HB0 := hid (alloc_below (Below.refl w.heap.size w) (Nat.le_refl _) (.cells #[.int .i64 st, .string (asS t), .slice A l.length c, .slice B bd.length cb] 40))
  have HR0 := hid (heap_alloc_new w (.cells #[.int .i64 st, .string (asS t), .slice A l.length c, .slice B bd.length cb] 40))
  clear hA hB ht hl hn hck hll HJ hs1 hs2 hk hkk hdl
  generalize printResp ⟨st, t, l, bd⟩ = P at HTO ⊢
  generalize ownResp ⟨st, t, l, bd⟩ = OW at HTO HOW
  generalize withM l bd.length = WM at HWI HOW
  generalize asS (Lib.decDigits k) = G at HTO HDG z1
  generalize asS t = T at HTO HB0 HR0 z2 ⊢
  generalize hln : l.length = ln at HWI HB0 HR0 ⊢
  have HLN := hid hln
  generalize bd.length = n at HWI HTO HB0 HR0 ⊢
  clear hln
  obtain ⟨V0, hV0⟩ : ∃ V0, V0 = w.alloc (.cells #[.int .i64 st, .string T, .slice A ln c, .slice B n cb] 40) := ⟨_, rfl⟩
  · rw [hb0] at HBA
    rw [hb0, if_neg (by simp)] at HOW
    have ho := HOW.out
    subst ho
    clear hb0 HOW
    go_enter Tryz.func19, Tryz.ntmps19
    go_wp2_with fail
    refine (HBA.out _).mono ?_
    rintro e W1 ⟨rfl, rfl⟩
    go_wp2_with fail
    refine (HWI.out _ (HA.out.below HB0.out (Nat.le_refl _))).mono ?_
    rintro e W1 ⟨v1, rfl, ho1, hb1⟩
    have HB1 := hid (HB0.out.trans (hb1.mono HB0.out.size))
    have HR1 := hid (row_keep hb1 HR0.out)
    obtain ⟨A1, d1, rfl, hat1⟩ := ho1.hds
    have HAT := hid hat1
    clear hb1 ho1 hat1 HWI HB0 HR0 hV0 V0
    generalize hwl : OW.length = wl
    rw [hwl] at HTO
    clear hwl
    have c0 : W1.cell? ⟨w.heap.size, 0, none⟩ = some (.int .i64 st) := by rw [cell_of_row _ _ _ _ _ _ HR1.out]; rfl
    have c1 : W1.cell? ⟨w.heap.size, 1, none⟩ = some (.string T) := by rw [cell_of_row _ _ _ _ _ _ HR1.out]; rfl
    have c3 : W1.cell? ⟨w.heap.size, 3, none⟩ = some (.slice B n cb) := by rw [cell_of_row _ _ _ _ _ _ HR1.out]; rfl
    have HBd : Hid (Below w.heap.size w W1.drew) := HB1.out.drew
    have HRd : Hid (W1.drew.heap[w.heap.size]? = some (.cells #[.int .i64 st, .string T, .slice A ln c, .slice B n cb] 40 (0, 0))) := HR1.out
    have HAd : Hid (HdsAt W1.drew A1 OW) := HAT.out.below (Below.refl W1.heap.size W1).drew (Nat.le_refl _)
    have HDd := hid (HDG.out W1.drew)
    clear HDG
    go_wp2_with fail
    first
      | (go_region_with ((first
        | (go_at_call 40; refine HDd.out.mono ?_; rintro e w1 ⟨rfl, hb1⟩; have hr1' := row_keep hb1 HRd.out; have c01 : w1.cell? ⟨w.heap.size, 0, none⟩ = some (.int .i64 st) := (by rw [cell_of_row _ _ _ _ _ _ hr1']; rfl); have c11 : w1.cell? ⟨w.heap.size, 1, none⟩ = some (.string T) := (by rw [cell_of_row _ _ _ _ _ _ hr1']; rfl); have c31 : w1.cell? ⟨w.heap.size, 3, none⟩ = some (.slice B n cb) := (by rw [cell_of_row _ _ _ _ _ _ hr1']; rfl); have HB1' := hid (HBd.out.trans (hb1.mono HBd.out.size)); have HTC := hid (HTO.out A1 d1 w1 (HAd.out.below hb1 (Nat.le_refl _)) (HBB.out.below HB1'.out (Nat.le_refl _))); clear hb1 hr1')
        | (go_at_call 35; refine HTC.out.mono ?_; rintro e w2 ⟨h2, cap2, rfl, hown2, hb2⟩; have HB2' := hid (HB1'.out.trans (hb2.mono HB1'.out.size)); have HO2 := hid (hown2.mono HB1'.out.size); clear hb2 hown2))))
      | fail
    all_goals
      go_wp2_with fail
      go_ret
      exact ⟨h2, cap2, rfl, HO2.out, HB2'.out⟩
set_option maxHeartbeats 4000000 in
set_option maxRecDepth 100000 in
theorem refResponse_b (st : Int) (t : List UInt8) (l : List HdV) (bd : List UInt8) (A : Option Addr) (c : Nat) (B : Option Addr) (cb : Nat) (hs1 : 200 ≤ st) (hs2 : st ≤ 599) (ht : t.length ≤ 10000) (hl : l.length ≤ 100) (hn : bd.length ≤ 65535) (hb0 : bareM st = true) (hck : checkH (ownResp ⟨st, t, l, bd⟩) = 0) (w : World) (hA : HdsAt w A l) (hB : BytesAt w B bd) : Calls Tryz.prog 19 #[.agg #[.int .i64 st, .string (asS t), .slice A l.length c, .slice B bd.length cb]] w fun e w' => ∃ h cap, e = .returned (.slice (some ⟨h, 0, none⟩) (printResp ⟨st, t, l, bd⟩).length cap) ∧ Own w' w.heap.size h (printResp ⟨st, t, l, bd⟩).length cap (printResp ⟨st, t, l, bd⟩) ∧ Below w.heap.size w w' := by
  obtain ⟨k, hk⟩ : ∃ k : Nat, st = (k : Int) := ⟨st.toNat, by omega⟩
  have hkk : st.toNat = k := by rw [hk]; rfl
  have HDG := hid (fun W => refDigits_any k (by omega) W)
  rw [← hk] at HDG
  have hdl : (Lib.decDigits k).length ≤ 10 := by have := digs_len 9 k (by omega); omega
  have HBA := hid (fun W => refBare_any st W)
  have HWI := hid (fun W hW => refWith_any l A c bd.length (by omega) hn W hW)
  have hll : (verM ++ 32 :: (Lib.decDigits k ++ 32 :: t)).length ≤ 100000 := by simp [verM]; omega
  have HTO := hid (fun A' c' W h1 h2 => refJoin_any (verM ++ 32 :: (Lib.decDigits k ++ 32 :: t)) (ownResp ⟨st, t, l, bd⟩) bd A' c' B cb hll hck (by omega) W h1 h2)
  have HJ : Hid (joinM (verM ++ 32 :: (Lib.decDigits k ++ 32 :: t)) (ownResp ⟨st, t, l, bd⟩) bd = printResp ⟨st, t, l, bd⟩) := by
    show _ = joinM (lineResp ⟨st, t, l, bd⟩) _ _
    unfold lineResp
    simp only [hkk]
  rw [HJ.out, ← res_text] at HTO
  have HOW : Hid (ownResp ⟨st, t, l, bd⟩ = if bareM st then l else withM l bd.length) := rfl
  have z1 : (asS (Lib.decDigits k)).size ≤ 10 := by rw [asS_size]; exact hdl
  have z2 : (asS t).size ≤ 10000 := by rw [asS_size]; exact ht
  have HA := hid hA
  have HBB := hid hB
  have HB0 := hid (alloc_below (Below.refl w.heap.size w) (Nat.le_refl _) (.cells #[.int .i64 st, .string (asS t), .slice A l.length c, .slice B bd.length cb] 40))
  have HR0 := hid (heap_alloc_new w (.cells #[.int .i64 st, .string (asS t), .slice A l.length c, .slice B bd.length cb] 40))
  clear hA hB ht hl hn hck hll HJ hs1 hs2 hk hkk hdl
  generalize printResp ⟨st, t, l, bd⟩ = P at HTO ⊢
  generalize ownResp ⟨st, t, l, bd⟩ = OW at HTO HOW
  generalize withM l bd.length = WM at HWI HOW
  generalize asS (Lib.decDigits k) = G at HTO HDG z1
  generalize asS t = T at HTO HB0 HR0 z2 ⊢
  generalize hln : l.length = ln at HWI HB0 HR0 ⊢
  have HLN := hid hln
  generalize bd.length = n at HWI HTO HB0 HR0 ⊢
  clear hln
  obtain ⟨V0, hV0⟩ : ∃ V0, V0 = w.alloc (.cells #[.int .i64 st, .string T, .slice A ln c, .slice B n cb] 40) := ⟨_, rfl⟩
  · rw [hb0] at HBA
    rw [hb0, if_pos rfl] at HOW
    have ho := HOW.out
    subst ho
    clear hb0 HOW HWI
    go_enter Tryz.func19, Tryz.ntmps19
    go_wp2_with fail
    refine (HBA.out _).mono ?_
    rintro e W1 ⟨rfl, rfl⟩
    rw [HLN.out] at HTO
    rw [← hV0] at HB0 HR0 ⊢
    have HAT := hid (HA.out.below HB0.out (Nat.le_refl _))
    clear hV0
    have HB1 := HB0
    have HR1 := HR0
    clear HB0 HR0
    have c0 : V0.cell? ⟨w.heap.size, 0, none⟩ = some (.int .i64 st) := by rw [cell_of_row _ _ _ _ _ _ HR1.out]; rfl
    have c1 : V0.cell? ⟨w.heap.size, 1, none⟩ = some (.string T) := by rw [cell_of_row _ _ _ _ _ _ HR1.out]; rfl
    have c3 : V0.cell? ⟨w.heap.size, 3, none⟩ = some (.slice B n cb) := by rw [cell_of_row _ _ _ _ _ _ HR1.out]; rfl
    have HBd : Hid (Below w.heap.size w V0.drew) := HB1.out.drew
    have HRd : Hid (V0.drew.heap[w.heap.size]? = some (.cells #[.int .i64 st, .string T, .slice A ln c, .slice B n cb] 40 (0, 0))) := HR1.out
    have HAd : Hid (HdsAt V0.drew A OW) := HAT.out.below (Below.refl V0.heap.size V0).drew (Nat.le_refl _)
    have HDd := hid (HDG.out V0.drew)
    clear HDG
    go_wp2_with fail
    first
      | (go_region_with ((first
        | (go_at_call 40; refine HDd.out.mono ?_; rintro e w1 ⟨rfl, hb1⟩; have hr1' := row_keep hb1 HRd.out; have c01 : w1.cell? ⟨w.heap.size, 0, none⟩ = some (.int .i64 st) := (by rw [cell_of_row _ _ _ _ _ _ hr1']; rfl); have c11 : w1.cell? ⟨w.heap.size, 1, none⟩ = some (.string T) := (by rw [cell_of_row _ _ _ _ _ _ hr1']; rfl); have c31 : w1.cell? ⟨w.heap.size, 3, none⟩ = some (.slice B n cb) := (by rw [cell_of_row _ _ _ _ _ _ hr1']; rfl); have HB1' := hid (HBd.out.trans (hb1.mono HBd.out.size)); have HTC := hid (HTO.out A c w1 (HAd.out.below hb1 (Nat.le_refl _)) (HBB.out.below HB1'.out (Nat.le_refl _))); clear hb1 hr1')
        | (go_at_call 35; refine HTC.out.mono ?_; rintro e w2 ⟨h2, cap2, rfl, hown2, hb2⟩; have HB2' := hid (HB1'.out.trans (hb2.mono HB1'.out.size)); have HO2 := hid (hown2.mono HB1'.out.size); clear hb2 hown2))))
      | fail
    all_goals
      go_wp2_with fail
      go_ret
      exact ⟨h2, cap2, rfl, HO2.out, HB2'.out⟩
theorem refResponse_any (st : Int) (t : List UInt8) (l : List HdV) (bd : List UInt8) (A : Option Addr) (c : Nat) (B : Option Addr) (cb : Nat) (hs1 : 200 ≤ st) (hs2 : st ≤ 599) (ht : t.length ≤ 10000) (hl : l.length ≤ 100) (hn : bd.length ≤ 65535) (hck : checkH (ownResp ⟨st, t, l, bd⟩) = 0) (w : World) (hA : HdsAt w A l) (hB : BytesAt w B bd) : Calls Tryz.prog 19 #[.agg #[.int .i64 st, .string (asS t), .slice A l.length c, .slice B bd.length cb]] w fun e w' => ∃ h cap, e = .returned (.slice (some ⟨h, 0, none⟩) (printResp ⟨st, t, l, bd⟩).length cap) ∧ Own w' w.heap.size h (printResp ⟨st, t, l, bd⟩).length cap (printResp ⟨st, t, l, bd⟩) ∧ Below w.heap.size w w' := by
  cases hb0 : bareM st
  · exact refResponse_a st t l bd A c B cb hs1 hs2 ht hl hn hb0 hck w hA hB
  · exact refResponse_b st t l bd A c B cb hs1 hs2 ht hl hn hb0 hck w hA hB
end Go.Proofs.YtclonnpglikddaaGreatDoor
