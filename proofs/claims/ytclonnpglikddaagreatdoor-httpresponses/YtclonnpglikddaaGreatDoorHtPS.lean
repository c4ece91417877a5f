
/- A response printed: what PrintResponse of package http does. -/
import Derived.Test.YtclonnpglikddaaGreatDoorHtChS
import Derived.Test.YtclonnpglikddaaGreatDoorHtTog
import Derived.Test.YtclonnpglikddaaGreatDoorHtFirst
namespace Go.Proofs.YtclonnpglikddaaGreatDoor
set_option linter.unusedVariables false
set_option linter.unusedSimpArgs false
open Go.RowKit Go.BigFrame

theorem may_ownS (r : RespV) (h : mayResp r = true) : checkH (ownResp r) = 0 ∧ allH r.hds clM = [] ∧ 200 ≤ r.status ∧ r.status ≤ 599 ∧ r.reason.length ≤ 128 ∧ r.body.length ≤ 32768 := by
  unfold mayResp at h
  rw [Bool.and_eq_true, Bool.and_eq_true, Bool.and_eq_true] at h
  obtain ⟨f1, f2, f3, f4⟩ := fits_parts _ _ _ h.2
  obtain ⟨s1, s2, s3⟩ := of_decide_eq_true h.1.1.1
  refine ⟨?_, by rw [all_cl]; exact f1, s1, s2, s3, f3⟩
  unfold ownResp
  cases hb : bareM r.status
  · rw [hb] at f4; exact f4
  · rw [hb] at f4; exact f4
theorem res_text (d t : List UInt8) : (⟨#[72, 84, 84, 80, 47, 49, 46, 49, 32]⟩ : ByteArray) ++ asS d ++ ⟨#[32]⟩ ++ asS t = asS (verM ++ 32 :: (d ++ 32 :: t)) := by
  rw [show (⟨#[32]⟩ : ByteArray) = asS [32] from rfl, show (⟨#[72, 84, 84, 80, 47, 49, 46, 49, 32]⟩ : ByteArray) = asS (verM ++ [32]) from rfl, asS_app, asS_app, asS_app]
  congr 1
  simp
theorem load3_eq (x : Value) : Instr.loadAt 3 x = loadI 3 x := rfl
theorem loadN_cell {w : World} {p : Addr} {n : Int} (h : w.cell? p = some (.int .i64 n)) : (loadI 3 (.pointer (some p))).run Tryz.prog w = .ok (.int .i64 n) w := by
  unfold loadI
  simp [go_sem, h]
theorem loadN_re {w : World} {p : Addr} {n : Int} (h : w.cell? p = some (.int .i64 n)) (d : Nat) (os : Array Obj) : (loadI 3 (.pointer (some p))).run Tryz.prog (Sort.grow (redrawn w d) os) = .ok (.int .i64 n) (Sort.grow (redrawn w d) os) :=
  loadN_cell (by rw [(below_regrown w d os).cell (block_lt_of_cell h)]; exact h)
attribute [local go_sem ↓] load40_eq in
theorem printRes_no (st : Int) (t : List UInt8) (l : List HdV) (bd : List UInt8) (A : Option Addr) (c : Nat) (B : Option Addr) (cb : Nat) (ht : t.length ≤ 10000) (hl : l.length ≤ 100) (hz : sizeH l ≤ 20000) (hn : bd.length ≤ 99999) (hno : mayResp ⟨st, t, l, bd⟩ = false) (w : World) (hT : TabC w) (hA : HdsAt w A l) : Calls Tryz.prog 16 #[.agg #[.int .i64 st, .string (asS t), .slice A l.length c, .slice B bd.length cb]] w fun e w' => e = .returned (.tuple #[.slice none 0 0, .int .i64 1]) ∧ Below w.heap.size w w' := by
  have HCK := hid (fun W h1 h2 => checkRes_any st t l bd A c B cb (by omega) hl hz hn W h1 h2)
  rw [hno] at HCK
  have HT := hid hT
  have HA := hid hA
  have HB0 := hid (alloc_below (Below.refl w.heap.size w) (Nat.le_refl _) (.cells #[.int .i64 st, .string (asS t), .slice A l.length c, .slice B bd.length cb] 40))
  have hld := loadM40 (heap_alloc_new w (.cells #[.int .i64 st, .string (asS t), .slice A l.length c, .slice B bd.length cb] 40)) rfl
  clear hT hA ht hl hz hn hno
  generalize asS t = T at HCK HB0 hld ⊢
  generalize l.length = ln at HCK HB0 hld ⊢
  generalize bd.length = n at HCK HB0 hld ⊢
  go_enter Tryz.func16, Tryz.ntmps16
  go_wp2_with fail
  refine (HCK.out _ (HT.out.below HB0.out) (HA.out.below HB0.out (Nat.le_refl _))).mono ?_
  rintro e W1 ⟨rfl, hb1⟩
  have HB1 := hid (HB0.out.trans (hb1.mono HB0.out.size))
  clear hb1
  rw [if_neg (by simp)]
  go_wp2_with fail
  go_ret2
  exact ⟨rfl, HB1.out⟩
attribute [local go_sem ↓] load40_eq loadS_eq load3_eq
set_option maxHeartbeats 4000000 in
set_option maxRecDepth 100000 in
theorem printRes_ok (st : Int) (t : List UInt8) (l : List HdV) (bd : List UInt8) (A : Option Addr) (c : Nat) (B : Option Addr) (cb : Nat) (ht : t.length ≤ 10000) (hl : l.length ≤ 100) (hz : sizeH l ≤ 20000) (hn : bd.length ≤ 99999) (hyes : mayResp ⟨st, t, l, bd⟩ = true) (w : World) (hT : TabC w) (hA : HdsAt w A l) (hB : BytesAt w B bd) : Calls Tryz.prog 16 #[.agg #[.int .i64 st, .string (asS t), .slice A l.length c, .slice B bd.length cb]] w fun e w' => ∃ h cap, e = .returned (.tuple #[.slice (some ⟨h, 0, none⟩) (printResp ⟨st, t, l, bd⟩).length cap, .int .i64 0]) ∧ Own w' w.heap.size h (printResp ⟨st, t, l, bd⟩).length cap (printResp ⟨st, t, l, bd⟩) ∧ Below w.heap.size w w' := by
  obtain ⟨hck, hcl, hs1, hs2, _, _⟩ := may_ownS _ hyes
  obtain ⟨k, hk⟩ : ∃ k : Nat, st = (k : Int) := ⟨st.toNat, by simp only at hs1; omega⟩
  have hkk : st.toNat = k := by rw [hk]; rfl
  simp only at hs1 hs2
  have HIT := hid (fun W hW => itoa8 k (by omega) W hW)
  rw [← hk] at HIT
  have hdl : (Lib.decDigits k).length ≤ 10 := by have := digs_len 9 k (by omega); omega
  have HCK := hid (fun W h1 h2 => checkRes_any st t l bd A c B cb (by omega) hl hz hn W h1 h2)
  rw [hyes] at HCK
  have HRH := hid (fun W h1 h2 => resHds_any st (asS t) l A c B bd.length cb (by omega) (light_small l (by omega)) hn hcl W h1 h2)
  have HOW : Hid ((if bareM st then l else withM l bd.length) = ownResp ⟨st, t, l, bd⟩) := rfl
  rw [HOW.out] at HRH
  have hll : (verM ++ 32 :: (Lib.decDigits k ++ 32 :: t)).length ≤ 100000 := by simp [verM]; omega
  have HTO := hid (fun A' c' W h1 h2 => together_ok (verM ++ 32 :: (Lib.decDigits k ++ 32 :: t)) (ownResp ⟨st, t, l, bd⟩) bd A' c' B cb hll hck hn W h1 h2)
  have HJ : Hid (joinM (verM ++ 32 :: (Lib.decDigits k ++ 32 :: t)) (ownResp ⟨st, t, l, bd⟩) bd = printResp ⟨st, t, l, bd⟩) := by
    show _ = joinM (lineResp ⟨st, t, l, bd⟩) _ _
    unfold lineResp
    simp only [hkk]
  rw [HJ.out, ← res_text] at HTO
  have z1 : (asS (Lib.decDigits k)).size ≤ 10 := by rw [asS_size]; exact hdl
  have z2 : (asS t).size ≤ 10000 := by rw [asS_size]; exact ht
  have HT := hid hT
  have HA := hid hA
  have HBB := hid hB
  have HB0 := hid (alloc_below (Below.refl w.heap.size w) (Nat.le_refl _) (.cells #[.int .i64 st, .string (asS t), .slice A l.length c, .slice B bd.length cb] 40))
  have HR0 := hid (heap_alloc_new w (.cells #[.int .i64 st, .string (asS t), .slice A l.length c, .slice B bd.length cb] 40))
  clear hT hA hB ht hl hz hn hyes hck hcl hll HOW HJ
  generalize printResp ⟨st, t, l, bd⟩ = P at HTO ⊢
  generalize ownResp ⟨st, t, l, bd⟩ = OW at HTO HRH
  clear hs1 hs2 hk hkk hdl
  generalize asS (Lib.decDigits k) = G at HTO HIT z1
  generalize asS t = T at HCK HRH HTO HB0 HR0 z2 ⊢
  generalize l.length = ln at HCK HRH HB0 HR0 ⊢
  generalize bd.length = n at HCK HRH HTO HB0 HR0 ⊢
  have hld := loadM40 HR0.out rfl
  go_enter Tryz.func16, Tryz.ntmps16
  go_wp2_with fail
  refine (HCK.out _ (HT.out.below HB0.out) (HA.out.below HB0.out (Nat.le_refl _))).mono ?_
  rintro e W1 ⟨rfl, hb1⟩
  rw [if_pos trivial]
  have HB1 := hid (HB0.out.trans (hb1.mono HB0.out.size))
  have HR1 := hid (row_keep hb1 HR0.out)
  clear hb1 hld HR0 HB0
  have c0 : W1.cell? ⟨w.heap.size, 0, none⟩ = some (.int .i64 st) := by rw [cell_of_row _ _ _ _ _ _ HR1.out]; rfl
  have c1 : W1.cell? ⟨w.heap.size, 1, none⟩ = some (.string T) := by rw [cell_of_row _ _ _ _ _ _ HR1.out]; rfl
  have ci : REG 42 #[.int .i64 st] W1 (.string G) := fun dd os => Calls.regrown_of (HIT.out _ (HT.out.below (HB1.out.trans ((below_regrown W1 dd os).mono HB1.out.size))))
  have m0 := loadN_re c0
  have m1 := loadS_re c1
  clear c0 c1
  go_wp2_with fail
  refine wp_region_quiet_below (by kernel_rfl) (by kernel_rfl) ?_
  repeat (go_big_quiet_step (first | (go_at_call 42; exact ci _ _)))
  refine wpQuiet_nil ?_
  rintro W2 ⟨⟨dq, osq⟩, hw⟩
  have hb2 : Below W1.heap.size W1 W2 := by rw [hw]; exact below_regrown W1 dq osq
  have HB2 := hid (HB1.out.trans (hb2.mono HB1.out.size))
  have HR2 := hid (row_keep hb2 HR1.out)
  clear hw hb2 m0 m1 ci HB1 HR1
  have c3 : W2.cell? ⟨w.heap.size, 3, none⟩ = some (.slice B n cb) := by rw [cell_of_row _ _ _ _ _ _ HR2.out]; rfl
  have hld : (loadI 40 (.pointer (some ⟨w.heap.size, 0, none⟩))).run Tryz.prog W2.drew = .ok (.agg #[.int .i64 st, .string T, .slice A ln c, .slice B n cb]) W2.drew := loadM40 (w := W2.drew) HR2.out rfl
  have HBd : Hid (Below w.heap.size w W2.drew) := HB2.out.drew
  have HRd : Hid (W2.drew.heap[w.heap.size]? = some (.cells #[.int .i64 st, .string T, .slice A ln c, .slice B n cb] 40 (0, 0))) := HR2.out
  have HRC := hid (HRH.out W2.drew (HT.out.below HBd.out) (HA.out.below HBd.out (Nat.le_refl _)))
  clear HRH HCK
  go_wp2_with fail
  first
    | (go_region_with ((first
      | (go_at_call 43; refine HRC.out.mono ?_; rintro e w1 ⟨v1, rfl, hv1, hb1⟩; have c31 : w1.cell? ⟨w.heap.size, 3, none⟩ = some (.slice B n cb) := (by rw [cell_of_row _ _ _ _ _ _ (row_keep hb1 HRd.out)]; rfl); obtain ⟨A1, d1, rfl, hat1⟩ := hv1; have HB1' := hid (HBd.out.trans (hb1.mono HBd.out.size)); have HTC := hid (HTO.out A1 d1 w1 hat1 (HBB.out.below HB1'.out (Nat.le_refl _))); clear hb1 hat1)
      | (go_at_call 26; refine HTC.out.mono ?_; rintro e w2 ⟨h2, cap2, rfl, hown2, hb2⟩; have HB2' := hid (HB1'.out.trans (hb2.mono HB1'.out.size)); have HO2 := hid (hown2.mono HB1'.out.size); clear hb2 hown2))))
    | fail
  all_goals
    go_wp2_with fail
    go_ret2
    exact ⟨h2, cap2, rfl, HO2.out, HB2'.out⟩
end Go.Proofs.YtclonnpglikddaaGreatDoor
