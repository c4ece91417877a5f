
/- A request put together: what join and Request of the reference do. -/
import Derived.Test.YtclonnpglikddaaGreatDoorHtRMay
import Derived.Test.YtclonnpglikddaaGreatDoorHtTog
namespace Go.Proofs.YtclonnpglikddaaGreatDoor
set_option linter.unusedVariables false
set_option linter.unusedSimpArgs false
open Go.RowKit Go.BigFrame

set_option maxHeartbeats 2000000 in
set_option maxRecDepth 100000 in
theorem refJoin_any (s : List UInt8) (l : List HdV) (bd : List UInt8) (A : Option Addr) (c : Nat) (B : Option Addr) (cb : Nat) (hs : s.length ≤ 100000) (hc : checkH l = 0) (hb : bd.length ≤ 99999) (w : World) (hA : HdsAt w A l) (hB : BytesAt w B bd) : Calls Tryz.prog 35 #[.string (asS s), .slice A l.length c, .slice B bd.length cb] w fun e w' => ∃ h cap, e = .returned (.slice (some ⟨h, 0, none⟩) (joinM s l bd).length cap) ∧ Own w' w.heap.size h (joinM s l bd).length cap (joinM s l bd) ∧ Below w.heap.size w w' := by
  obtain ⟨hl1, hl2⟩ := check_fit l hc
  have HPR := hid (fun W hW => refPrint_any l A c (by omega) (by omega) W hW)
  have HA := hid hA
  have HSB : Hid (∀ W, Below w.heap.size w W → Src Tryz.prog 1 23 (.slice B bd.length cb) bd.length (bvs bd) W) := fun W h => src_bytes (hB.below h (Nat.le_refl _)) cb (fun _ => opt_any B)
  obtain ⟨cap0, W0, hcv, hown0, hb0⟩ := conv_own w (asS s)
  rw [asS_size, asS_data] at hown0
  rw [asS_size] at hcv
  have HO0 := hid (hown0.alloc (.cells #[.int .u8 13, .int .u8 10] 5))
  have HB0 := hid (alloc_below hb0 hb0.size (.cells #[.int .u8 13, .int .u8 10] 5))
  have HS0 := hid (src_two W0)
  have HPL : Hid ((printH l).length = sizeH l) := print_size l
  have HJ : Hid (joinM s l bd = s ++ 13 :: 10 :: (printH l ++ bd)) := rfl
  have HJL : Hid ((joinM s l bd).length = s.length + 2 + sizeH l + bd.length) := by
    show _ = _
    rw [← HPL.out, HJ.out]
    simp only [List.length_append, List.length_cons]
    omega
  have HJJ : Hid (s ++ [13, 10] ++ printH l ++ bd = joinM s l bd) := by show _ = _; rw [HJ.out]; simp
  clear hA hB hc hb0 hown0 HJ HPL
  generalize joinM s l bd = J at HJL HJJ ⊢
  rw [HJL.out]
  generalize printH l = PR at HPR HJJ
  generalize sizeH l = sh at HPR HJL hl2
  generalize hsl : s.length = sl at hs hcv HO0 HJL
  generalize asS s = S at hcv ⊢
  generalize l.length = ln at HPR ⊢
  generalize bd.length = n at HSB HJL hb ⊢
  clear hsl
  go_enter Tryz.func35, Tryz.ntmps35
  go_wp2_with (first
    | (refine wpList_own rfl _ _ 23 rfl w.heap.size w.heap.size sl cap0 2 s [13, 10] _ rfl rfl HO0.out HS0.out (by omega) HB0.out.size ?_)
    | fail)
  intro g1 cap1 W1 ho1 hg1 _
  have HO1 := hid ho1
  have HB1 := hid (HO0.out.grown HB0.out HB0.out.size hg1)
  clear ho1 hg1 HO0 HB0 hcv
  have HP1 := hid (HPR.out W1 (HA.out.below HB1.out (Nat.le_refl _)))
  go_wp2_with fail
  refine HP1.out.mono ?_
  rintro e W2 ⟨g2, cap2, rfl, ho2, hb2⟩
  have HB2 := hid (HB1.out.trans (hb2.mono HB1.out.size))
  have HO2 := hid (HO1.out.below hb2 (Nat.le_refl _))
  have hpl : PR.length = sh := ho2.len
  have HSP : Hid (Src Tryz.prog 1 23 (.slice (some ⟨g2, 0, none⟩) sh cap2) sh (bvs PR) W2) := by
    have := src_bytes ho2.bytes cap2 (fun _ => .inr ⟨_, rfl⟩)
    rwa [hpl] at this
  clear hb2 ho2 HO1 HP1 hpl
  go_wp2_with (first
    | (refine wpList_own rfl _ _ 23 rfl w.heap.size g1 (sl + 2) cap1 sh (s ++ [13, 10]) PR _ rfl rfl HO2.out HSP.out (by omega) HB2.out.size ?_)
    | fail)
  intro g3 cap3 W3 ho3 hg3 _
  have HB3 := hid (HO2.out.grown HB2.out HB2.out.size hg3)
  have HO3 := hid ho3
  have HS3 := hid (HSB.out W3 HB3.out)
  clear ho3 hg3 HO2 HSP
  obtain ⟨L3, hL3⟩ : ∃ L3, L3 = s ++ [13, 10] ++ PR := ⟨_, rfl⟩
  have HO3' : Hid (Own W3 w.heap.size g3 (sl + 2 + sh) cap3 L3) := by
    show Own _ _ _ _ _ _
    rw [hL3]
    simpa using HO3.out
  have HL3 : Hid (L3 ++ bd = J) := by show _ = _; rw [hL3, HJJ.out]
  clear hL3
  go_wp2_with (first
    | (refine wpList_own rfl _ _ 23 rfl w.heap.size g3 (sl + 2 + sh) cap3 n L3 bd _ rfl rfl HO3'.out HS3.out (by omega) HB3.out.size ?_)
    | fail)
  intro g4 cap4 W4 ho4 hg4 _
  have HB4 := hid (HO3'.out.grown HB3.out HB3.out.size hg4)
  have HO4 : Hid (Own W4 w.heap.size g4 (sl + 2 + sh + n) cap4 J) := by
    show Own _ _ _ _ _ _
    rw [← HL3.out]
    exact ho4
  clear ho4 hg4 HO3 HO3'
  go_wp2_with fail
  go_ret
  exact ⟨g4, cap4, rfl, HO4.out, HB4.out⟩
theorem req_text2 (m t : List UInt8) : asS m ++ ⟨#[32]⟩ ++ asS t ++ ⟨#[32, 72, 84, 84, 80, 47, 49, 46, 49]⟩ = asS (m ++ 32 :: (t ++ 32 :: verM)) := by
  rw [show (⟨#[32]⟩ : ByteArray) = asS [32] from rfl, show (⟨#[32, 72, 84, 84, 80, 47, 49, 46, 49]⟩ : ByteArray) = asS (32 :: verM) from rfl, asS_app, asS_app, asS_app]
  congr 1
  simp
set_option maxHeartbeats 2000000 in
set_option maxRecDepth 100000 in
theorem refRequest_any (m t : List UInt8) (l : List HdV) (bd : List UInt8) (A : Option Addr) (c : Nat) (B : Option Addr) (cb : Nat) (hm : m.length ≤ 10000) (ht : t.length ≤ 10000) (hl : l.length ≤ 100) (hn : bd.length ≤ 65535) (hck : checkH (ownReq ⟨m, t, l, bd⟩) = 0) (w : World) (hA : HdsAt w A l) (hB : BytesAt w B bd) : Calls Tryz.prog 12 #[.agg #[.string (asS m), .string (asS t), .slice A l.length c, .slice B bd.length cb]] w fun e w' => ∃ h cap, e = .returned (.slice (some ⟨h, 0, none⟩) (printReq ⟨m, t, l, bd⟩).length cap) ∧ Own w' w.heap.size h (printReq ⟨m, t, l, bd⟩).length cap (printReq ⟨m, t, l, bd⟩) ∧ Below w.heap.size w w' := by
  have HWI := hid (fun W hW => refWith_any l A c bd.length (by omega) hn W hW)
  have hll : (m ++ 32 :: (t ++ 32 :: verM)).length ≤ 100000 := by simp [verM]; omega
  have HTO := hid (fun A' c' W h1 h2 => refJoin_any (m ++ 32 :: (t ++ 32 :: verM)) (ownReq ⟨m, t, l, bd⟩) bd A' c' B cb hll hck (by omega) W h1 h2)
  have HJ : Hid (joinM (m ++ 32 :: (t ++ 32 :: verM)) (ownReq ⟨m, t, l, bd⟩) bd = printReq ⟨m, t, l, bd⟩) := rfl
  rw [HJ.out, ← req_text2] at HTO
  have HOW : Hid (ownReq ⟨m, t, l, bd⟩ = if 0 < bd.length then withM l bd.length else l) := rfl
  have z1 : (asS m).size ≤ 10000 := by rw [asS_size]; exact hm
  have z2 : (asS t).size ≤ 10000 := by rw [asS_size]; exact ht
  have HA := hid hA
  have HBB := hid hB
  have HB0 := hid (alloc_below (Below.refl w.heap.size w) (Nat.le_refl _) (.cells #[.string (asS m), .string (asS t), .slice A l.length c, .slice B bd.length cb] 25))
  have HR0 := hid (heap_alloc_new w (.cells #[.string (asS m), .string (asS t), .slice A l.length c, .slice B bd.length cb] 25))
  clear hA hB hm ht hl hn hck hll HJ
  generalize printReq ⟨m, t, l, bd⟩ = P at HTO ⊢
  generalize ownReq ⟨m, t, l, bd⟩ = OW at HTO HOW
  generalize withM l bd.length = WM at HWI HOW
  generalize asS m = M at HTO HB0 HR0 z1 ⊢
  generalize asS t = T at HTO HB0 HR0 z2 ⊢
  generalize hln : l.length = ln at HWI HB0 HR0 ⊢
  have HLN := hid hln
  generalize bd.length = n at HWI HTO HB0 HR0 HOW ⊢
  clear hln
  by_cases h0 : 0 < n
  · rw [if_pos h0] at HOW
    have ho := HOW.out
    subst ho
    have h0i : (0 : Int) < (n : Int) := by omega
    clear h0 HOW
    go_enter Tryz.func12, Tryz.ntmps12
    go_wp2_with fail
    refine (HWI.out _ (HA.out.below HB0.out (Nat.le_refl _))).mono ?_
    rintro e W1 ⟨v1, rfl, ho1, hb1⟩
    have HB1 := hid (HB0.out.trans (hb1.mono HB0.out.size))
    have hr1 := row_keep hb1 HR0.out
    obtain ⟨A1, d1, rfl, hat1⟩ := ho1.hds
    have HTC := hid (HTO.out A1 d1 W1 hat1 (HBB.out.below HB1.out (Nat.le_refl _)))
    have c0 : W1.cell? ⟨w.heap.size, 0, none⟩ = some (.string M) := by rw [cell_of_row _ _ _ _ _ _ hr1]; rfl
    have c1 : W1.cell? ⟨w.heap.size, 1, none⟩ = some (.string T) := by rw [cell_of_row _ _ _ _ _ _ hr1]; rfl
    have c3 : W1.cell? ⟨w.heap.size, 3, none⟩ = some (.slice B n cb) := by rw [cell_of_row _ _ _ _ _ _ hr1]; rfl
    clear hb1 ho1 hat1 hr1 HTO HWI
    go_wp2_with fail
    refine HTC.out.mono ?_
    rintro e W2 ⟨h2, cap2, rfl, ho2, hb2⟩
    have HB2 := hid (HB1.out.trans (hb2.mono HB1.out.size))
    have HO2 := hid (ho2.mono HB1.out.size)
    clear ho2 hb2
    go_wp2_with fail
    go_ret
    exact ⟨h2, cap2, rfl, HO2.out, HB2.out⟩
  · rw [if_neg h0] at HOW
    have ho := HOW.out
    subst ho
    have h0i : ¬ (0 : Int) < (n : Int) := by omega
    have HTC := hid (HTO.out A c _ (HA.out.below HB0.out (Nat.le_refl _)) (HBB.out.below HB0.out (Nat.le_refl _)))
    rw [HLN.out] at HTC
    clear h0 HOW HTO HWI
    go_enter Tryz.func12, Tryz.ntmps12
    go_wp2_with fail
    refine HTC.out.mono ?_
    rintro e W2 ⟨h2, cap2, rfl, ho2, hb2⟩
    have HB2 := hid (HB0.out.trans (hb2.mono HB0.out.size))
    have HO2 := hid (ho2.mono HB0.out.size)
    clear ho2 hb2
    go_wp2_with fail
    go_ret
    exact ⟨h2, cap2, rfl, HO2.out, HB2.out⟩
end Go.Proofs.YtclonnpglikddaaGreatDoor
