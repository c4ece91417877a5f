
/- A request printed: what PrintRequest of package http does. -/
import Derived.Test.YtclonnpglikddaaGreatDoorHtChQ
import Derived.Test.YtclonnpglikddaaGreatDoorHtTog
namespace Go.Proofs.YtclonnpglikddaaGreatDoor
set_option linter.unusedVariables false
set_option linter.unusedSimpArgs false
open Go.RowKit Go.BigFrame
attribute [local go_sem ↓] load25_eq

theorem may_own (r : ReqV) (h : mayReq r = true) : checkH (ownReq r) = 0 ∧ allH r.hds clM = [] := by
  unfold mayReq at h
  rw [Bool.and_eq_true, Bool.and_eq_true] at h
  obtain ⟨f1, f2, f3, f4⟩ := fits_parts _ _ _ h.2
  refine ⟨?_, by rw [all_cl]; exact f1⟩
  unfold ownReq
  by_cases hb : 0 < r.body.length
  · rw [if_pos hb]; rw [decide_eq_true hb, if_pos rfl] at f4; exact f4
  · rw [if_neg hb]; rw [decide_eq_false hb, if_neg (by simp)] at f4; exact f4
theorem req_text (m t : List UInt8) : asS m ++ ⟨#[32]⟩ ++ asS t ++ ⟨#[32]⟩ ++ ⟨#[72, 84, 84, 80, 47, 49, 46, 49]⟩ = asS (m ++ 32 :: (t ++ 32 :: verM)) := by
  rw [show (⟨#[32]⟩ : ByteArray) = asS [32] from rfl, show (⟨#[72, 84, 84, 80, 47, 49, 46, 49]⟩ : ByteArray) = asS verM from rfl, asS_app, asS_app, asS_app, asS_app]
  congr 1
  simp
theorem printReq_no (m t : List UInt8) (l : List HdV) (bd : List UInt8) (A : Option Addr) (c : Nat) (B : Option Addr) (cb : Nat) (hm : m.length ≤ 10000) (ht : t.length ≤ 10000) (hl : l.length ≤ 100) (hz : sizeH l ≤ 20000) (hn : bd.length ≤ 99999) (hno : mayReq ⟨m, t, l, bd⟩ = false) (w : World) (hT : TabC w) (hA : HdsAt w A l) : Calls Tryz.prog 9 #[.agg #[.string (asS m), .string (asS t), .slice A l.length c, .slice B bd.length cb]] w fun e w' => e = .returned (.tuple #[.slice none 0 0, .int .i64 1]) ∧ Below w.heap.size w w' := by
  have HCK := hid (fun W h1 h2 => checkReq_any m t l bd A c B cb (by omega) (by omega) hl hz hn W h1 h2)
  rw [hno] at HCK
  have HT := hid hT
  have HA := hid hA
  have HB0 := hid (alloc_below (Below.refl w.heap.size w) (Nat.le_refl _) (.cells #[.string (asS m), .string (asS t), .slice A l.length c, .slice B bd.length cb] 25))
  have hld := loadM25 (heap_alloc_new w (.cells #[.string (asS m), .string (asS t), .slice A l.length c, .slice B bd.length cb] 25)) rfl
  clear hT hA hm ht hl hz hn hno
  generalize asS m = M at HCK HB0 hld ⊢
  generalize asS t = T at HCK HB0 hld ⊢
  generalize l.length = ln at HCK HB0 hld ⊢
  generalize bd.length = n at HCK HB0 hld ⊢
  go_enter Tryz.func9, Tryz.ntmps9
  go_wp2_with fail
  refine (HCK.out _ (HT.out.below HB0.out) (HA.out.below HB0.out (Nat.le_refl _))).mono ?_
  rintro e W1 ⟨rfl, hb1⟩
  have HB1 := hid (HB0.out.trans (hb1.mono HB0.out.size))
  clear hb1
  rw [if_neg (by simp)]
  go_wp2_with fail
  go_ret2
  exact ⟨rfl, HB1.out⟩
set_option maxHeartbeats 4000000 in
set_option maxRecDepth 100000 in
theorem printReq_ok (m t : List UInt8) (l : List HdV) (bd : List UInt8) (A : Option Addr) (c : Nat) (B : Option Addr) (cb : Nat) (hm : m.length ≤ 10000) (ht : t.length ≤ 10000) (hl : l.length ≤ 100) (hz : sizeH l ≤ 20000) (hn : bd.length ≤ 99999) (hyes : mayReq ⟨m, t, l, bd⟩ = true) (w : World) (hT : TabC w) (hA : HdsAt w A l) (hB : BytesAt w B bd) : Calls Tryz.prog 9 #[.agg #[.string (asS m), .string (asS t), .slice A l.length c, .slice B bd.length cb]] w fun e w' => ∃ h cap, e = .returned (.tuple #[.slice (some ⟨h, 0, none⟩) (printReq ⟨m, t, l, bd⟩).length cap, .int .i64 0]) ∧ Own w' w.heap.size h (printReq ⟨m, t, l, bd⟩).length cap (printReq ⟨m, t, l, bd⟩) ∧ Below w.heap.size w w' := by
  obtain ⟨hck, hcl⟩ := may_own _ hyes
  have HCK := hid (fun W h1 h2 => checkReq_any m t l bd A c B cb (by omega) (by omega) hl hz hn W h1 h2)
  rw [hyes] at HCK
  have HRH := hid (fun W h1 h2 => reqHds_any (asS m) (asS t) l A c B bd.length cb (by omega) (light_small l (by omega)) hn hcl W h1 h2)
  have HOW : Hid ((if 0 < bd.length then withM l bd.length else l) = ownReq ⟨m, t, l, bd⟩) := rfl
  rw [HOW.out] at HRH
  have hll : (m ++ 32 :: (t ++ 32 :: verM)).length ≤ 100000 := by simp [verM]; omega
  have HTO := hid (fun A' c' W h1 h2 => together_ok (m ++ 32 :: (t ++ 32 :: verM)) (ownReq ⟨m, t, l, bd⟩) bd A' c' B cb hll hck hn W h1 h2)
  have HJ : Hid (joinM (m ++ 32 :: (t ++ 32 :: verM)) (ownReq ⟨m, t, l, bd⟩) bd = printReq ⟨m, t, l, bd⟩) := rfl
  rw [HJ.out, ← req_text] at HTO
  have z1 : (asS m).size ≤ 10000 := by rw [asS_size]; exact hm
  have z2 : (asS t).size ≤ 10000 := by rw [asS_size]; exact ht
  have HT := hid hT
  have HA := hid hA
  have HBB := hid hB
  have HB0 := hid (alloc_below (Below.refl w.heap.size w) (Nat.le_refl _) (.cells #[.string (asS m), .string (asS t), .slice A l.length c, .slice B bd.length cb] 25))
  have HR0 := hid (heap_alloc_new w (.cells #[.string (asS m), .string (asS t), .slice A l.length c, .slice B bd.length cb] 25))
  clear hT hA hB hm ht hl hz hn hyes hck hcl hll HOW HJ
  generalize printReq ⟨m, t, l, bd⟩ = P at HTO ⊢
  generalize ownReq ⟨m, t, l, bd⟩ = OW at HTO HRH
  generalize asS m = M at HCK HRH HTO HB0 HR0 z1 ⊢
  generalize asS t = T at HCK HRH HTO HB0 HR0 z2 ⊢
  generalize l.length = ln at HCK HRH HB0 HR0 ⊢
  generalize bd.length = n at HCK HRH HTO HB0 HR0 ⊢
  have hld := loadM25 HR0.out rfl
  go_enter Tryz.func9, Tryz.ntmps9
  go_wp2_with fail
  refine (HCK.out _ (HT.out.below HB0.out) (HA.out.below HB0.out (Nat.le_refl _))).mono ?_
  rintro e W1 ⟨rfl, hb1⟩
  rw [if_pos trivial]
  have HB1 := hid (HB0.out.trans (hb1.mono HB0.out.size))
  have HR1 := hid (row_keep hb1 HR0.out)
  clear hb1 hld HR0 HB0
  have c0 : W1.cell? ⟨w.heap.size, 0, none⟩ = some (.string M) := by rw [cell_of_row _ _ _ _ _ _ HR1.out]; rfl
  have c1 : W1.cell? ⟨w.heap.size, 1, none⟩ = some (.string T) := by rw [cell_of_row _ _ _ _ _ _ HR1.out]; rfl
  have c3 : W1.cell? ⟨w.heap.size, 3, none⟩ = some (.slice B n cb) := by rw [cell_of_row _ _ _ _ _ _ HR1.out]; rfl
  have hld : (loadI 25 (.pointer (some ⟨w.heap.size, 0, none⟩))).run Tryz.prog W1.drew = .ok (.agg #[.string M, .string T, .slice A ln c, .slice B n cb]) W1.drew := loadM25 (w := W1.drew) HR1.out rfl
  have HBd : Hid (Below w.heap.size w W1.drew) := HB1.out.drew
  have HRd : Hid (W1.drew.heap[w.heap.size]? = some (.cells #[.string M, .string T, .slice A ln c, .slice B n cb] 25 (0, 0))) := HR1.out
  have HRC := hid (HRH.out W1.drew (HT.out.below HBd.out) (HA.out.below HBd.out (Nat.le_refl _)))
  clear HRH HCK
  go_wp2_with fail
  first
    | (go_region_with ((first
      | (go_at_call 27; refine HRC.out.mono ?_; rintro e w1 ⟨v1, rfl, hv1, hb1⟩; have c31 : w1.cell? ⟨w.heap.size, 3, none⟩ = some (.slice B n cb) := (by rw [cell_of_row _ _ _ _ _ _ (row_keep hb1 HRd.out)]; rfl); obtain ⟨A1, d1, rfl, hat1⟩ := hv1; have HB1' := hid (HBd.out.trans (hb1.mono HBd.out.size)); have HTC := hid (HTO.out A1 d1 w1 hat1 (HBB.out.below HB1'.out (Nat.le_refl _))); clear hb1 hat1)
      | (go_at_call 26; refine HTC.out.mono ?_; rintro e w2 ⟨h2, cap2, rfl, hown2, hb2⟩; have HB2' := hid (HB1'.out.trans (hb2.mono HB1'.out.size)); have HO2 := hid (hown2.mono HB1'.out.size); clear hb2 hown2))))
    | fail
  all_goals
    go_wp2_with fail
    go_ret2
    exact ⟨h2, cap2, rfl, HO2.out, HB2'.out⟩
end Go.Proofs.YtclonnpglikddaaGreatDoor
