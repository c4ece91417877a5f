
/- Which requests may be, how they are put together, and that they are read back: the statement's walk. -/
import Derived.Test.YtclonnpglikddaaGreatDoorHtPQ
import Derived.Test.YtclonnpglikddaaGreatDoorHtRReq
import Derived.Test.YtclonnpglikddaaGreatDoorHtSame
import Derived.Test.YtclonnpglikddaaGreatDoorHtAw
import Derived.Test.YtclonnpglikddaaGreatDoorHtPReqN
import Derived.Test.YtclonnpglikddaaGreatDoorHdArg
import Derived.OpenShut
namespace Go.Proofs.YtclonnpglikddaaGreatDoor
set_option linter.unusedVariables false
set_option linter.unusedSimpArgs false
open Go.RowKit Go.BigFrame
attribute [local go_sem ↓] load25_eq

def lightM (l : List HdV) (n : Nat) : Bool := lightH l && decide (n ≤ 40000)
theorem light11_any (l : List HdV) (A : Option Addr) (c : Nat) (B : Option Addr) (n cb : Nat) (hf : FitH l) (w : World) (hA : HdsAt w A l) : Calls Tryz.prog 7 #[.slice A l.length c, .slice B n cb] w fun e w' => e = .returned (.bool (lightM l n)) ∧ Below w.heap.size w w' := by
  have HR : Hid (lightM l n = (decide (l.length ≤ 100) && decide (sizeH l ≤ 20000) && decide (n ≤ 40000))) := rfl
  by_cases h1 : l.length ≤ 100
  · have HS := hid (refSize_any l A c (by omega) hf w hA)
    have h1i : (l.length : Int) ≤ 100 := by omega
    rw [decide_eq_true h1] at HR
    clear hf hA h1
    generalize lightM l n = R at HR ⊢
    generalize sizeH l = sz at HS HR
    generalize l.length = ln at h1i HS ⊢
    by_cases h2 : sz ≤ 20000
    · have h2i : (sz : Int) ≤ 20000 := by omega
      rw [decide_eq_true h2] at HR
      clear h2
      by_cases h3 : n ≤ 40000
      · have h3i : (n : Int) ≤ 40000 := by omega
        rw [decide_eq_true h3] at HR
        clear h3
        go_enter Tryz.func7, Tryz.ntmps7
        go_wp2_with fail
        refine HS.out.mono ?_
        rintro e W ⟨rfl, hb⟩
        have HB := hid hb
        clear hb
        go_wp2_with fail
        go_ret
        exact ⟨by rw [HR.out]; first | rfl | simp [h3i], HB.out⟩
      · have h3i : ¬ (n : Int) ≤ 40000 := by omega
        rw [decide_eq_false h3] at HR
        clear h3
        go_enter Tryz.func7, Tryz.ntmps7
        go_wp2_with fail
        refine HS.out.mono ?_
        rintro e W ⟨rfl, hb⟩
        have HB := hid hb
        clear hb
        go_wp2_with fail
        go_ret
        exact ⟨by rw [HR.out]; first | rfl | simp <;> omega, HB.out⟩
    · have h2i : ¬ (sz : Int) ≤ 20000 := by omega
      rw [decide_eq_false h2] at HR
      clear h2
      go_enter Tryz.func7, Tryz.ntmps7
      go_wp2_with fail
      refine HS.out.mono ?_
      rintro e W ⟨rfl, hb⟩
      have HB := hid hb
      clear hb
      go_wp2_with fail
      go_ret
      exact ⟨by rw [HR.out]; first | rfl | simp <;> omega, HB.out⟩
  · have h1i : ¬ (l.length : Int) ≤ 100 := by omega
    rw [decide_eq_false h1] at HR
    clear hf hA h1
    generalize lightM l n = R at HR ⊢
    generalize l.length = ln at h1i ⊢
    go_enter Tryz.func7, Tryz.ntmps7
    go_wp2_with fail
    go_ret
    exact ⟨by rw [HR.out]; first | rfl | simp <;> omega, Below.refl _ _⟩
theorem req_len (m t : List UInt8) (l : List HdV) (bd : List UInt8) (h : mayReq ⟨m, t, l, bd⟩ = true) : (printReq ⟨m, t, l, bd⟩).length ≤ m.length + t.length + 50000 := by
  obtain ⟨hck, _⟩ := may_own _ h
  obtain ⟨_, h2⟩ := check_fit _ hck
  have h3 : bd.length ≤ 32768 := by
    unfold mayReq at h
    rw [Bool.and_eq_true] at h
    exact (fits_parts _ _ _ h.2).2.2.1
  have h4 := print_size (ownReq ⟨m, t, l, bd⟩)
  unfold printReq joinM lineReq
  simp only [List.length_append, List.length_cons, verM, List.length_nil]
  omega

set_option maxHeartbeats 8000000 in
set_option maxRecDepth 100000 in
theorem requests11_law (m t : List UInt8) (l : List HdV) (A : Option Addr) (c : Nat) (bd : List UInt8) (B : Option Addr) (cb : Nat) (mo : List UInt8) (D : Option Addr) (cd : Nat) (hm : m.length ≤ 140737488355328) (ht : t.length ≤ 140737488355328) (hf : FitH l) (w : World) (hA : HdsAt w A l) (hB : BytesAt w B bd) (hBz : bd.length = 0 → B = none ∧ cb = 0 ∨ ∃ x, B = some x) (hD : BytesAt w D mo) (hT : TabC w) : Calls Tryz.prog 3 #[.agg #[.string (asS m), .string (asS t), .slice A l.length c, .slice B bd.length cb], .slice D mo.length cd] w fun e w' => e = .returned (.bool true) ∧ Below w.heap.size w w' := by
  have HT := hid hT
  have HA := hid hA
  have HBB := hid hB
  have HBZ := hid hBz
  have HAW := hid (fun W hW => awake11 W hW)
  have HLI := hid (fun W hW => light11_any l A c B bd.length cb hf W hW)
  have zm := asS_size m
  have zt := asS_size t
  have HB0 := hid (alloc_below (Below.refl w.heap.size w) (Nat.le_refl _) (.cells #[.string (asS m), .string (asS t), .slice A l.length c, .slice B bd.length cb] 25))
  have HR0 := hid (heap_alloc_new w (.cells #[.string (asS m), .string (asS t), .slice A l.length c, .slice B bd.length cb] 25))
  have HSD : Hid (∀ W, Below w.heap.size w W → Src Tryz.prog 1 23 (.slice D mo.length cd) mo.length (bvs mo) W) := fun W h => src_bytes (hD.below h (Nat.le_refl _)) cd (fun _ => opt_any D)
  clear hT hA hB hBz hf hD
  by_cases hgood : lightM l bd.length = true ∧ m.length ≤ 5000 ∧ t.length ≤ 5000 ∧ mo.length ≤ 1000
  case neg =>
    obtain ⟨li, hli⟩ : ∃ li, li = lightM l bd.length := ⟨_, rfl⟩
    rw [← hli] at HLI hgood
    generalize asS m = M at zm HB0 HR0 ⊢
    generalize asS t = T at zt HB0 HR0 ⊢
    generalize l.length = ln at HLI HB0 HR0 ⊢
    generalize bd.length = n at HLI HB0 HR0 hli ⊢
    generalize mo.length = k at hgood HSD ⊢
    clear hli HSD
    go_enter Tryz.func3, Tryz.ntmps3
    go_wp2_with fail
    refine (HLI.out _ (HA.out.below HB0.out (Nat.le_refl _))).mono ?_
    rintro e W1 ⟨rfl, hb1⟩
    have HB1 := hid (HB0.out.trans (hb1.mono HB0.out.size))
    have hr1 := row_keep hb1 HR0.out
    have c0 : W1.cell? ⟨w.heap.size, 0, none⟩ = some (.string M) := by rw [cell_of_row _ _ _ _ _ _ hr1]; rfl
    have c1 : W1.cell? ⟨w.heap.size, 1, none⟩ = some (.string T) := by rw [cell_of_row _ _ _ _ _ _ hr1]; rfl
    clear hb1 hr1
    cases li
    · go_wp2_with fail
      refine (HAW.out _ (HT.out.below HB1.out)).mono ?_
      rintro e W2 ⟨rfl, hb⟩
      have HBe := hid (HB1.out.trans (hb.mono HB1.out.size))
      clear hb
      go_wp2_with fail
      go_ret
      exact ⟨rfl, HBe.out⟩
    by_cases h1 : 5000 < m.length
    · have h1i : (5000 : Int) < (M.size : Int) := by omega
      clear h1 hgood zm zt
      go_wp2_with fail
      refine (HAW.out _ (HT.out.below HB1.out)).mono ?_
      rintro e W2 ⟨rfl, hb⟩
      have HBe := hid (HB1.out.trans (hb.mono HB1.out.size))
      clear hb
      go_wp2_with fail
      go_ret
      exact ⟨rfl, HBe.out⟩
    have h1i : ¬ (5000 : Int) < (M.size : Int) := by omega
    by_cases h2 : 5000 < t.length
    · have h2i : (5000 : Int) < (T.size : Int) := by omega
      clear h1 h2 hgood zm zt
      go_wp2_with fail
      refine (HAW.out _ (HT.out.below HB1.out)).mono ?_
      rintro e W2 ⟨rfl, hb⟩
      have HBe := hid (HB1.out.trans (hb.mono HB1.out.size))
      clear hb
      go_wp2_with fail
      go_ret
      exact ⟨rfl, HBe.out⟩
    have h2i : ¬ (5000 : Int) < (T.size : Int) := by omega
    have h3i : (1000 : Int) < (k : Int) := by
      rcases Nat.lt_or_ge 1000 k with h | h
      · omega
      · exact absurd ⟨rfl, by omega, by omega, h⟩ hgood
    clear h1 h2 hgood zm zt
    go_wp2_with fail
    refine (HAW.out _ (HT.out.below HB1.out)).mono ?_
    rintro e W2 ⟨rfl, hb⟩
    have HBe := hid (HB1.out.trans (hb.mono HB1.out.size))
    clear hb
    go_wp2_with fail
    go_ret
    exact ⟨rfl, HBe.out⟩
  case pos =>
    obtain ⟨g1, g2, g3, g4⟩ := hgood
    have HL1 := HLI
    rw [g1] at HL1
    unfold lightM at g1
    rw [Bool.and_eq_true] at g1
    obtain ⟨hl1, hl2⟩ := light_fit l g1.1
    have hl3 := of_decide_eq_true g1.2
    have h1i : ¬ (5000 : Int) < ((asS m).size : Int) := by rw [zm]; omega
    have h2i : ¬ (5000 : Int) < ((asS t).size : Int) := by rw [zt]; omega
    have h3i : ¬ (1000 : Int) < (mo.length : Int) := by omega
    have HMY := hid (fun W hW => refMayReq_any m t l bd A c B cb (by omega) (by omega) hl1 hl2 (by omega) W hW)
    have HCK := hid (fun W h1 h2 => checkReq_any m t l bd A c B cb (by omega) (by omega) hl1 hl2 (by omega) W h1 h2)
    cases hmay : mayReq ⟨m, t, l, bd⟩ with
    | false =>
      have HPR := hid (fun W h1 h2 => printReq_no m t l bd A c B cb (by omega) (by omega) hl1 hl2 (by omega) hmay W h1 h2)
      rw [hmay] at HMY HCK
      rw [if_neg (by simp)] at HCK
      clear hm ht hl1 hl2 hl3 g1 g2 g3 g4 zm zt HLI hmay HSD HBB HBZ
      generalize asS m = M at HB0 HR0 HMY HCK HPR h1i ⊢
      generalize asS t = T at HB0 HR0 HMY HCK HPR h2i ⊢
      generalize l.length = ln at HL1 HB0 HR0 HMY HCK HPR ⊢
      generalize bd.length = n at HL1 HB0 HR0 HMY HCK HPR ⊢
      generalize mo.length = k at h3i ⊢
      go_enter Tryz.func3, Tryz.ntmps3
      go_wp2_with fail
      refine (HL1.out _ (HA.out.below HB0.out (Nat.le_refl _))).mono ?_
      rintro e W1 ⟨rfl, hb1⟩
      have HB1 := hid (HB0.out.trans (hb1.mono HB0.out.size))
      have HR1 := hid (row_keep hb1 HR0.out)
      have c0 : W1.cell? ⟨w.heap.size, 0, none⟩ = some (.string M) := by rw [cell_of_row _ _ _ _ _ _ HR1.out]; rfl
      have c1 : W1.cell? ⟨w.heap.size, 1, none⟩ = some (.string T) := by rw [cell_of_row _ _ _ _ _ _ HR1.out]; rfl
      have hld := loadM25 HR1.out rfl
      clear hb1
      go_wp2_with fail
      refine (HPR.out _ (HT.out.below HB1.out) (HA.out.below HB1.out (Nat.le_refl _))).mono ?_
      rintro e W2 ⟨rfl, hb2⟩
      have HB2 := hid (HB1.out.trans (hb2.mono HB1.out.size))
      have HR2 := hid (row_keep hb2 HR1.out)
      clear hb2 c0 c1 hld
      have hld := loadM25 HR2.out rfl
      go_wp2_with fail
      refine (HMY.out _ (HA.out.below HB2.out (Nat.le_refl _))).mono ?_
      rintro e W3 ⟨rfl, hb3⟩
      have HB3 := hid (HB2.out.trans (hb3.mono HB2.out.size))
      have HR3 := hid (row_keep hb3 HR2.out)
      clear hb3 hld
      have hld := loadM25 HR3.out rfl
      go_wp2_with fail
      refine (HCK.out _ (HT.out.below HB3.out) (HA.out.below HB3.out (Nat.le_refl _))).mono ?_
      rintro e W4 ⟨rfl, hb4⟩
      have HB4 := hid (HB3.out.trans (hb4.mono HB3.out.size))
      clear hb4 hld
      go_wp2_with fail
      refine (HAW.out _ (HT.out.below HB4.out)).mono ?_
      rintro e W5 ⟨rfl, hb⟩
      have HBe := hid (HB4.out.trans (hb.mono HB4.out.size))
      clear hb
      go_wp2_with fail
      go_ret
      exact ⟨rfl, HBe.out⟩
    | true =>
      have HPR := hid (fun W h1 h2 h3 => printReq_ok m t l bd A c B cb (by omega) (by omega) hl1 hl2 (by omega) hmay W h1 h2 h3)
      obtain ⟨hck, _⟩ := may_own _ hmay
      have HRQ := hid (fun W h1 h2 => refRequest_any m t l bd A c B cb (by omega) (by omega) hl1 (by omega) hck W h1 h2)
      have hplen : (printReq ⟨m, t, l, bd⟩).length ≤ 60000 := by have := req_len m t l bd hmay; omega
      rw [hmay] at HMY HCK
      rw [if_pos rfl] at HCK
      have HWI := hid (fun W hW => refWith_any l A c bd.length (by omega) (by omega) W hW)
      have HPA : Hid (∀ X c' W, (printReq ⟨m, t, l, bd⟩).length + mo.length ≤ c' → TabC W → BytesAt W (some X) (printReq ⟨m, t, l, bd⟩ ++ mo) → Calls Tryz.prog 13 #[.slice (some X) ((printReq ⟨m, t, l, bd⟩).length + mo.length) c'] W fun e w' => ∃ vh vb, e = .returned (.tuple #[.agg #[.string (asS (parseReq (printReq ⟨m, t, l, bd⟩ ++ mo)).1.method), .string (asS (parseReq (printReq ⟨m, t, l, bd⟩ ++ mo)).1.target), vh, vb], .int .i64 (parseReq (printReq ⟨m, t, l, bd⟩ ++ mo)).2.1, .int .i64 (parseReq (printReq ⟨m, t, l, bd⟩ ++ mo)).2.2]) ∧ HdsN w' W.heap.size vh (parseReq (printReq ⟨m, t, l, bd⟩ ++ mo)).1.hds ∧ BtN w' W.heap.size vb (parseReq (printReq ⟨m, t, l, bd⟩ ++ mo)).1.body ∧ Below W.heap.size W w') := fun X c' W h1 h2 h3 => by
        have := parseReqN_any (printReq ⟨m, t, l, bd⟩ ++ mo) X c' (by rw [List.length_append]; omega) (by rw [List.length_append]; exact h1) W h2 h3
        rwa [List.length_append] at this
      have hOWl : (ownReq ⟨m, t, l, bd⟩).length ≤ 1000000 := by have := (check_fit _ hck).1; omega
      have HSA := hid (fun vh1 vb1 vh2 vb2 W g1 g2 g3 g4 => sameReq_any (asS m) (asS t) (ownReq ⟨m, t, l, bd⟩) bd vh1 vb1 vh2 vb2 hOWl W g1 g2 g3 g4)
      have HOW : Hid (ownReq ⟨m, t, l, bd⟩ = if 0 < bd.length then withM l bd.length else l) := rfl
      have HOW2 : Hid (ownReq ⟨m, t, l, bd⟩ = ownReq ⟨m, t, l, bd⟩) := rfl
      by_cases hfar : 4084 < m.length + t.length
      · rw [req_far _ hmay hfar] at HPA
        have HPF : Hid (∀ X c' W, (printReq ⟨m, t, l, bd⟩).length + mo.length ≤ c' → TabC W → BytesAt W (some X) (printReq ⟨m, t, l, bd⟩ ++ mo) → Calls Tryz.prog 13 #[.slice (some X) ((printReq ⟨m, t, l, bd⟩).length + mo.length) c'] W fun e w' => ∃ vh vb, e = .returned (.tuple #[.agg #[.string ⟨#[]⟩, .string ⟨#[]⟩, vh, vb], .int .i64 0, .int .i64 3]) ∧ HdsN w' W.heap.size vh [] ∧ BtN w' W.heap.size vb [] ∧ Below W.heap.size W w') := HPA.out
        clear HPA
        have hfi : (4084 : Int) < ((asS m).size : Int) + ((asS t).size : Int) := by rw [zm, zt]; omega
        have hfn : ¬ (9223372036854775807 : Int) < ((asS m).size : Int) + ((asS t).size : Int) := by rw [zm, zt]; omega
        have zm2 : (asS m).size ≤ 5000 := by rw [zm]; exact g2
        have zt2 : (asS t).size ≤ 5000 := by rw [zt]; exact g3
        clear hm ht hl1 hl2 hl3 g1 g2 g3 zm zt HLI hmay HBZ hck hfar HWI HSA hOWl HOW HOW2
        generalize hP : printReq ⟨m, t, l, bd⟩ = P at HPR HRQ HPF hplen
        clear hP
        generalize hPN : P.length = pn at HPR HRQ HPF hplen
        have HPN := hid hPN
        clear hPN
        generalize asS m = M at HB0 HR0 HMY HCK HPR HRQ h1i hfi zm2 HPF  ⊢
        generalize asS t = T at HB0 HR0 HMY HCK HPR HRQ h2i hfi zt2 HPF  ⊢
        generalize hln : l.length = ln at HL1 HB0 HR0 HMY HCK HPR HRQ  ⊢
        generalize hbn : bd.length = n at HL1 HB0 HR0 HMY HCK HPR HRQ  ⊢
        have HLN := hid hln
        have HBN := hid hbn
        clear hln hbn
        generalize mo.length = k at h3i HSD HPF g4 ⊢
        go_enter Tryz.func3, Tryz.ntmps3
        go_wp2_with fail
        obtain ⟨V0, hV0⟩ : ∃ V0, V0 = w.alloc (.cells #[.string M, .string T, .slice A ln c, .slice B n cb] 25) := ⟨_, rfl⟩
        have hz0 : V0.heap.size = w.heap.size + 1 := by rw [hV0]; simp
        rw [← hV0] at HB0 HR0 ⊢
        clear hV0
        have HZ0 := hid hz0
        clear hz0
        have KB : Hid (∀ W, Below V0.heap.size V0 W → Below w.heap.size w W ∧ W.heap[w.heap.size]? = some (.cells #[.string M, .string T, .slice A ln c, .slice B n cb] 25 (0, 0))) := fun W h => ⟨HB0.out.trans (h.mono HB0.out.size), row_keep h HR0.out⟩
        refine (HL1.out _ (HA.out.below HB0.out (Nat.le_refl _))).mono ?_
        rintro e W1 ⟨rfl, hb1⟩
        have HV1 := hid hb1
        have HB1 := hid (KB.out W1 hb1).1
        have HR1 := hid (KB.out W1 hb1).2
        have c0 : W1.cell? ⟨w.heap.size, 0, none⟩ = some (.string M) := by rw [cell_of_row _ _ _ _ _ _ HR1.out]; rfl
        have c1 : W1.cell? ⟨w.heap.size, 1, none⟩ = some (.string T) := by rw [cell_of_row _ _ _ _ _ _ HR1.out]; rfl
        have hld := loadM25 HR1.out rfl
        clear hb1
        go_wp2_with fail
        refine (HPR.out _ (HT.out.below HB1.out) (HA.out.below HB1.out (Nat.le_refl _)) (HBB.out.below HB1.out (Nat.le_refl _))).mono ?_
        rintro e W2 ⟨h2, cap2, rfl, ho2, hb2⟩
        have HV2 := hid (HV1.out.trans (hb2.mono HV1.out.size))
        have HB2 := hid (KB.out W2 HV2.out).1
        have HR2 := hid (KB.out W2 HV2.out).2
        have HO2 := hid ho2
        clear hb2 c0 c1 hld ho2
        have hld := loadM25 HR2.out rfl
        go_wp2_with fail
        refine (HMY.out _ (HA.out.below HB2.out (Nat.le_refl _))).mono ?_
        rintro e W3 ⟨rfl, hb3⟩
        have HV3 := hid (HV2.out.trans (hb3.mono HV2.out.size))
        have HB3 := hid (KB.out W3 HV3.out).1
        have HR3 := hid (KB.out W3 HV3.out).2
        have HO3 := hid (HO2.out.below hb3 (Nat.le_refl _))
        clear hb3 hld HO2
        have hld := loadM25 HR3.out rfl
        go_wp2_with fail
        refine (HRQ.out _ (HA.out.below HB3.out (Nat.le_refl _)) (HBB.out.below HB3.out (Nat.le_refl _))).mono ?_
        rintro e W4 ⟨h4, cap4, rfl, ho4, hb4⟩
        have HV4 := hid (HV3.out.trans (hb4.mono HV3.out.size))
        have HB4 := hid (KB.out W4 HV4.out).1
        have HR4 := hid (KB.out W4 HV4.out).2
        have HO4 := hid (HO3.out.below hb4 (Nat.le_refl _))
        have HQ4 := hid ho4
        clear hb4 hld HO3 ho4
        have hld := loadM25 HR4.out rfl
        go_wp2_with fail
        refine (HCK.out _ (HT.out.below HB4.out) (HA.out.below HB4.out (Nat.le_refl _))).mono ?_
        rintro e W5 ⟨rfl, hb5⟩
        have HV5 := hid (HV4.out.trans (hb5.mono HV4.out.size))
        have HO5 := hid (HO4.out.below hb5 (Nat.le_refl _))
        have HQ5 := hid (HQ4.out.below hb5 (Nat.le_refl _))
        clear hb5 hld HO4 HQ4
        have hs1 := str_part (c := cap2) HO5.out.bytes HPN.out
        have hs2 := str_part (c := cap4) HQ5.out.bytes HPN.out
        generalize (⟨P.toArray⟩ : ByteArray) = PS at hs1 hs2
        have HV6 := hid (alloc_below HV5.out HV5.out.size (.cells #[] 5))
        have HZ6 : Hid (Own (W5.alloc (.cells #[] 5)) V0.heap.size W5.heap.size 0 0 []) := Own.of_own (own_zero W5 V0.heap.size HV5.out.size)
        have HS6 : Hid (Src Tryz.prog 1 23 (.slice (some ⟨h2, 0, none⟩) pn cap2) pn (bvs P) (W5.alloc (.cells #[] 5))) := by
          have := src_bytes (w := W5.alloc (.cells #[] 5)) (HO5.out.alloc _).bytes cap2 (fun _ => .inr ⟨_, rfl⟩)
          rwa [HPN.out] at this
        go_wp2_with (first
          | (refine wpList_own rfl _ _ 23 rfl V0.heap.size W5.heap.size 0 0 pn [] P _ rfl rfl HZ6.out HS6.out (by omega) HV6.out.size ?_)
          | fail)
        intro g7 cap7 W7 ho7 hg7 _
        have HV7 := hid (HZ6.out.grown HV6.out HV6.out.size hg7)
        have HO7 : Hid (Own W7 V0.heap.size g7 pn cap7 P) := by
          show Own _ _ _ _ _ _
          simpa using ho7
        have HS7 := hid (HSD.out W7 (KB.out W7 HV7.out).1)
        try rw [Nat.zero_add]
        clear ho7 hg7 HZ6 HS6 HO5 HQ5
        go_wp2_with (first
          | (refine wpList_own rfl _ _ 23 rfl V0.heap.size g7 pn cap7 k P mo _ rfl rfl HO7.out HS7.out (by omega) HV7.out.size ?_)
          | fail)
        intro g8 cap8 W8 ho8 hg8 _
        have HO8 := hid ho8
        have HV8 := hid (HO7.out.grown HV7.out HV7.out.size hg8)
        have HB8 := hid (KB.out W8 HV8.out).1
        have hcap8 := ho8.le
        clear ho8 hg8 HO7 HS7 hs1 hs2
        go_wp2_with fail
        refine (HPF.out _ cap8 _ (by omega) (HT.out.below HB8.out) HO8.out.bytes).mono ?_
        rintro e W9 ⟨vh, vb, rfl, hh, hbv, hb9⟩
        obtain ⟨Ah, dh, rfl, _⟩ := hh
        obtain ⟨Ab, db, rfl, _, _⟩ := hbv
        rw [show ([] : List HdV).length = 0 from rfl, show ([] : List UInt8).length = 0 from rfl]
        have HV9 := hid (HV8.out.trans (hb9.mono HV8.out.size))
        have HVa := hid (alloc_below HV9.out HV9.out.size (.cells #[.string ⟨#[]⟩, .string ⟨#[]⟩, .slice Ah 0 dh, .slice Ab 0 db] 25))
        have HBa := hid (KB.out _ HVa.out).1
        have hra := (KB.out _ HVa.out).2
        have c0 : (W9.alloc (.cells #[.string ⟨#[]⟩, .string ⟨#[]⟩, .slice Ah 0 dh, .slice Ab 0 db] 25)).cell? ⟨w.heap.size, 0, none⟩ = some (.string M) := by rw [cell_of_row _ _ _ _ _ _ hra]; rfl
        have c1 : (W9.alloc (.cells #[.string ⟨#[]⟩, .string ⟨#[]⟩, .slice Ah 0 dh, .slice Ab 0 db] 25)).cell? ⟨w.heap.size, 1, none⟩ = some (.string T) := by rw [cell_of_row _ _ _ _ _ _ hra]; rfl
        clear hb9 hra
        go_wp2_with fail
        refine (HAW.out _ (HT.out.below HBa.out)).mono ?_
        rintro e Wb ⟨rfl, hb⟩
        have HBe := hid (HBa.out.trans (hb.mono HBa.out.size))
        clear hb
        go_wp2_with fail
        go_ret
        exact ⟨rfl, HBe.out⟩
      · have hnear : m.length + t.length ≤ 4084 := by omega
        rw [req_back _ hmay (show m.length + t.length ≤ 4084 by omega)] at HPA
        have HPF : Hid (∀ X c' W, (printReq ⟨m, t, l, bd⟩).length + mo.length ≤ c' → TabC W → BytesAt W (some X) (printReq ⟨m, t, l, bd⟩ ++ mo) → Calls Tryz.prog 13 #[.slice (some X) ((printReq ⟨m, t, l, bd⟩).length + mo.length) c'] W fun e w' => ∃ vh vb, e = .returned (.tuple #[.agg #[.string (asS m), .string (asS t), vh, vb], .int .i64 ((printReq ⟨m, t, l, bd⟩).length : Nat), .int .i64 0]) ∧ HdsN w' W.heap.size vh (ownReq ⟨m, t, l, bd⟩) ∧ BtN w' W.heap.size vb bd ∧ Below W.heap.size W w') := HPA.out
        clear HPA
        have hfi : ¬ (4084 : Int) < ((asS m).size : Int) + ((asS t).size : Int) := by rw [zm, zt]; omega
        have zm2 : (asS m).size ≤ 5000 := by rw [zm]; exact g2
        have zt2 : (asS t).size ≤ 5000 := by rw [zt]; exact g3
        have hWl := with_len l bd.length
        clear hm ht hl1 hl2 hl3 g1 g2 g3 zm zt HLI hmay hck hfar hOWl HOW2 hnear
        generalize hOWg : ownReq ⟨m, t, l, bd⟩ = OW at HPF HSA HOW
        generalize withM l bd.length = WM at HWI HOW hWl
        clear hOWg
        generalize hP : printReq ⟨m, t, l, bd⟩ = P at HPR HRQ HPF hplen
        clear hP
        generalize hPN : P.length = pn at HPR HRQ HPF hplen
        have HPN := hid hPN
        clear hPN
        generalize asS m = M at HB0 HR0 HMY HCK HPR HRQ h1i hfi zm2 HPF  HSA ⊢
        generalize asS t = T at HB0 HR0 HMY HCK HPR HRQ h2i hfi zt2 HPF  HSA ⊢
        generalize hln : l.length = ln at HL1 HB0 HR0 HMY HCK HPR HRQ HWI HOW HBZ ⊢
        generalize hbn : bd.length = n at HL1 HB0 HR0 HMY HCK HPR HRQ HWI HOW HBZ ⊢
        have HLN := hid hln
        have HBN := hid hbn
        clear hln hbn
        generalize mo.length = k at h3i HSD HPF g4 ⊢
        go_enter Tryz.func3, Tryz.ntmps3
        go_wp2_with fail
        obtain ⟨V0, hV0⟩ : ∃ V0, V0 = w.alloc (.cells #[.string M, .string T, .slice A ln c, .slice B n cb] 25) := ⟨_, rfl⟩
        have hz0 : V0.heap.size = w.heap.size + 1 := by rw [hV0]; simp
        rw [← hV0] at HB0 HR0 ⊢
        clear hV0
        have HZ0 := hid hz0
        clear hz0
        have KB : Hid (∀ W, Below V0.heap.size V0 W → Below w.heap.size w W ∧ W.heap[w.heap.size]? = some (.cells #[.string M, .string T, .slice A ln c, .slice B n cb] 25 (0, 0))) := fun W h => ⟨HB0.out.trans (h.mono HB0.out.size), row_keep h HR0.out⟩
        refine (HL1.out _ (HA.out.below HB0.out (Nat.le_refl _))).mono ?_
        rintro e W1 ⟨rfl, hb1⟩
        have HV1 := hid hb1
        have HB1 := hid (KB.out W1 hb1).1
        have HR1 := hid (KB.out W1 hb1).2
        have c0 : W1.cell? ⟨w.heap.size, 0, none⟩ = some (.string M) := by rw [cell_of_row _ _ _ _ _ _ HR1.out]; rfl
        have c1 : W1.cell? ⟨w.heap.size, 1, none⟩ = some (.string T) := by rw [cell_of_row _ _ _ _ _ _ HR1.out]; rfl
        have hld := loadM25 HR1.out rfl
        clear hb1
        go_wp2_with fail
        refine (HPR.out _ (HT.out.below HB1.out) (HA.out.below HB1.out (Nat.le_refl _)) (HBB.out.below HB1.out (Nat.le_refl _))).mono ?_
        rintro e W2 ⟨h2, cap2, rfl, ho2, hb2⟩
        have HV2 := hid (HV1.out.trans (hb2.mono HV1.out.size))
        have HB2 := hid (KB.out W2 HV2.out).1
        have HR2 := hid (KB.out W2 HV2.out).2
        have HO2 := hid ho2
        clear hb2 c0 c1 hld ho2
        have hld := loadM25 HR2.out rfl
        go_wp2_with fail
        refine (HMY.out _ (HA.out.below HB2.out (Nat.le_refl _))).mono ?_
        rintro e W3 ⟨rfl, hb3⟩
        have HV3 := hid (HV2.out.trans (hb3.mono HV2.out.size))
        have HB3 := hid (KB.out W3 HV3.out).1
        have HR3 := hid (KB.out W3 HV3.out).2
        have HO3 := hid (HO2.out.below hb3 (Nat.le_refl _))
        clear hb3 hld HO2
        have hld := loadM25 HR3.out rfl
        go_wp2_with fail
        refine (HRQ.out _ (HA.out.below HB3.out (Nat.le_refl _)) (HBB.out.below HB3.out (Nat.le_refl _))).mono ?_
        rintro e W4 ⟨h4, cap4, rfl, ho4, hb4⟩
        have HV4 := hid (HV3.out.trans (hb4.mono HV3.out.size))
        have HB4 := hid (KB.out W4 HV4.out).1
        have HR4 := hid (KB.out W4 HV4.out).2
        have HO4 := hid (HO3.out.below hb4 (Nat.le_refl _))
        have HQ4 := hid ho4
        clear hb4 hld HO3 ho4
        have hld := loadM25 HR4.out rfl
        go_wp2_with fail
        refine (HCK.out _ (HT.out.below HB4.out) (HA.out.below HB4.out (Nat.le_refl _))).mono ?_
        rintro e W5 ⟨rfl, hb5⟩
        have HV5 := hid (HV4.out.trans (hb5.mono HV4.out.size))
        have HO5 := hid (HO4.out.below hb5 (Nat.le_refl _))
        have HQ5 := hid (HQ4.out.below hb5 (Nat.le_refl _))
        clear hb5 hld HO4 HQ4
        have hs1 := str_part (c := cap2) HO5.out.bytes HPN.out
        have hs2 := str_part (c := cap4) HQ5.out.bytes HPN.out
        generalize (⟨P.toArray⟩ : ByteArray) = PS at hs1 hs2
        have HV6 := hid (alloc_below HV5.out HV5.out.size (.cells #[] 5))
        have HZ6 : Hid (Own (W5.alloc (.cells #[] 5)) V0.heap.size W5.heap.size 0 0 []) := Own.of_own (own_zero W5 V0.heap.size HV5.out.size)
        have HS6 : Hid (Src Tryz.prog 1 23 (.slice (some ⟨h2, 0, none⟩) pn cap2) pn (bvs P) (W5.alloc (.cells #[] 5))) := by
          have := src_bytes (w := W5.alloc (.cells #[] 5)) (HO5.out.alloc _).bytes cap2 (fun _ => .inr ⟨_, rfl⟩)
          rwa [HPN.out] at this
        go_wp2_with (first
          | (refine wpList_own rfl _ _ 23 rfl V0.heap.size W5.heap.size 0 0 pn [] P _ rfl rfl HZ6.out HS6.out (by omega) HV6.out.size ?_)
          | fail)
        intro g7 cap7 W7 ho7 hg7 _
        have HV7 := hid (HZ6.out.grown HV6.out HV6.out.size hg7)
        have HO7 : Hid (Own W7 V0.heap.size g7 pn cap7 P) := by
          show Own _ _ _ _ _ _
          simpa using ho7
        have HS7 := hid (HSD.out W7 (KB.out W7 HV7.out).1)
        try rw [Nat.zero_add]
        clear ho7 hg7 HZ6 HS6 HO5 HQ5
        go_wp2_with (first
          | (refine wpList_own rfl _ _ 23 rfl V0.heap.size g7 pn cap7 k P mo _ rfl rfl HO7.out HS7.out (by omega) HV7.out.size ?_)
          | fail)
        intro g8 cap8 W8 ho8 hg8 _
        have HO8 := hid ho8
        have HV8 := hid (HO7.out.grown HV7.out HV7.out.size hg8)
        have HB8 := hid (KB.out W8 HV8.out).1
        have hcap8 := ho8.le
        clear ho8 hg8 HO7 HS7 hs1 hs2
        go_wp2_with fail
        refine (HPF.out _ cap8 _ (by omega) (HT.out.below HB8.out) HO8.out.bytes).mono ?_
        rintro e W9 ⟨vh, vb, rfl, hh, hbv, hb9⟩
        obtain ⟨Ah, dh, rfl, hath, hnoh⟩ := hh
        obtain ⟨Ab, db, rfl, hatb, hzb, hnob⟩ := hbv
        have hgl : w.heap.size < W8.heap.size := by have h1 := HV8.out.size; have h2 := HZ0.out; omega
        have HNh := hid (hnoh w.heap.size hgl)
        have HNb := hid (hnob w.heap.size hgl)
        have HZb := hid hzb
        rw [HBN.out]
        generalize hOL : OW.length = ol
        have HOL := hid hOL
        have HV9 := hid (HV8.out.trans (hb9.mono HV8.out.size))
        have HWa := hid (alloc_below (Below.refl W9.heap.size W9) (Nat.le_refl _) (.cells #[.string M, .string T, .slice Ah ol dh, .slice Ab n db] 25))
        have HVa := hid (HV9.out.trans (HWa.out.mono HV9.out.size))
        have HRa := hid (heap_alloc_new W9 (.cells #[.string M, .string T, .slice Ah ol dh, .slice Ab n db] 25))
        have HHa := hid (hath.below HWa.out (Nat.le_refl _))
        have HDa := hid (hatb.below HWa.out (Nat.le_refl _))
        have hz9 : w.heap.size < W9.heap.size := by have h1 := HV9.out.size; have h2 := HZ0.out; omega
        have HSa := hid (KB.out _ HVa.out).2
        have HBa := hid (KB.out _ HVa.out).1
        clear hb9 hath hatb hnoh hnob hzb HV9 HWa hgl hOL
        have c0 : (W9.alloc (.cells #[.string M, .string T, .slice Ah ol dh, .slice Ab n db] 25)).cell? ⟨w.heap.size, 0, none⟩ = some (.string M) := by rw [cell_of_row _ _ _ _ _ _ HSa.out]; rfl
        have c1 : (W9.alloc (.cells #[.string M, .string T, .slice Ah ol dh, .slice Ab n db] 25)).cell? ⟨w.heap.size, 1, none⟩ = some (.string T) := by rw [cell_of_row _ _ _ _ _ _ HSa.out]; rfl
        have c2 : (W9.alloc (.cells #[.string M, .string T, .slice Ah ol dh, .slice Ab n db] 25)).cell? ⟨w.heap.size, 2, none⟩ = some (.slice A ln c) := by rw [cell_of_row _ _ _ _ _ _ HSa.out]; rfl
        have c3 : (W9.alloc (.cells #[.string M, .string T, .slice Ah ol dh, .slice Ab n db] 25)).cell? ⟨w.heap.size, 3, none⟩ = some (.slice B n cb) := by rw [cell_of_row _ _ _ _ _ _ HSa.out]; rfl
        by_cases h0 : 0 < n
        · rw [if_pos h0] at HOW
          have h0i : (0 : Int) < (n : Int) := by omega
          have ho := HOW.out
          clear h0 HOW
          go_wp2_with fail
          refine (HWI.out _ (HA.out.below HBa.out (Nat.le_refl _))).mono ?_
          rintro e Wb ⟨vw, rfl, how, hbw⟩
          obtain ⟨Aw, dw, rfl, hatw, hnow⟩ := how.at
          have HVb := hid (HVa.out.trans (hbw.mono HVa.out.size))
          have HSb := hid (KB.out _ HVb.out).2
          have HRb := hid (row_keep hbw HRa.out)
          have HHb := hid (HHa.out.below hbw (Nat.le_refl _))
          have HDb := hid (HDa.out.below hbw (Nat.le_refl _))
          have HWb := hid hatw
          have HNw := hid (hnow w.heap.size (by simp; omega))
          clear hWl
          generalize hwl : WM.length = wl
          have HWL := hid hwl
          clear hbw how hatw hnow c0 c1 c2 c3 HRa HSa HHa HDa HVa hwl
          go_wp2_with (first
            | (refine store_part rfl 22 _ _ rfl w.heap.size 2 (.slice Aw wl dw) 25 #[.string M, .string T, .slice A ln c, .slice B n cb] #[.string M, .string T, .slice Aw wl dw, .slice B n cb] rfl rfl info22 (show 2 < 4 by decide) rfl rfl HSb.out rfl ?_)
            | fail)
          intro Wc hoc hrc
          have HBc := hid ((KB.out _ HVb.out).1.trans (hoc.below (Nat.le_refl _)))
          have HRc := hid (hoc.kept (by omega) HRb.out)
          have HSc := hid hrc
          have HHc := hid (HHb.out.only HNh.out hoc)
          have HDc := hid (HDb.out.only HNb.out hoc)
          have HWc := hid (HWb.out.only HNw.out hoc)
          have hl1 := loadM25 HRc.out rfl
          have hl2 := loadM25 HSc.out rfl
          have HSQ := hid (HSA.out (.slice Ah ol dh) (.slice Ab n db) (.slice Aw wl dw) (.slice B n cb) Wc ⟨Ah, dh, by rw [HOL.out], HHc.out⟩ ⟨Aw, dw, by rw [ho, HWL.out], by rw [ho]; exact HWc.out⟩ ⟨Ab, db, by rw [HBN.out], HDc.out, HZb.out⟩ ⟨B, cb, by rw [HBN.out], HBB.out.below HBc.out (Nat.le_refl _), by rw [HBN.out]; exact HBZ.out⟩)
          clear hoc hrc ho HSb HRb HHb HDb HWb
          go_wp2_with fail
          refine HSQ.out.mono ?_
          rintro e Wd ⟨rfl, hbd⟩
          have HBd := hid (HBc.out.trans (hbd.mono HBc.out.size))
          clear hbd hl1 hl2
          go_wp2_with fail
          refine (HAW.out _ (HT.out.below HBd.out)).mono ?_
          rintro e We ⟨rfl, hb⟩
          have HBe := hid (HBd.out.trans (hb.mono HBd.out.size))
          clear hb
          go_wp2_with fail
          go_ret
          exact ⟨rfl, HBe.out⟩
        · rw [if_neg h0] at HOW
          have h0i : ¬ (0 : Int) < (n : Int) := by omega
          have ho := HOW.out
          have hl1 := loadM25 HRa.out rfl
          have hl2 := loadM25 HSa.out rfl
          have HSQ := hid (HSA.out (.slice Ah ol dh) (.slice Ab n db) (.slice A ln c) (.slice B n cb) _ ⟨Ah, dh, by rw [HOL.out], HHa.out⟩ ⟨A, c, by rw [ho, HLN.out], by rw [ho]; exact HA.out.below HBa.out (Nat.le_refl _)⟩ ⟨Ab, db, by rw [HBN.out], HDa.out, HZb.out⟩ ⟨B, cb, by rw [HBN.out], HBB.out.below HBa.out (Nat.le_refl _), by rw [HBN.out]; exact HBZ.out⟩)
          clear h0 HOW ho
          go_wp2_with fail
          refine HSQ.out.mono ?_
          rintro e Wd ⟨rfl, hbd⟩
          have HBd := hid (HBa.out.trans (hbd.mono HBa.out.size))
          clear hbd hl1 hl2 c0 c1 c2 c3
          go_wp2_with fail
          refine (HAW.out _ (HT.out.below HBd.out)).mono ?_
          rintro e We ⟨rfl, hb⟩
          have HBe := hid (HBd.out.trans (hb.mono HBd.out.size))
          clear hb
          go_wp2_with fail
          go_ret
          exact ⟨rfl, HBe.out⟩
theorem requests11_row (m t : List UInt8) (l : List HdV) (A : Option Addr) (c : Nat) (bd : List UInt8) (B : Option Addr) (cb : Nat) (D : Option Addr) (ld cd : Nat) (zs : List Int) (w : World) (hm : m.length ≤ 140737488355328) (ht : t.length ≤ 140737488355328) (hf : FitH l) (hA : HdsAt w A l) (hB : BytesAt w B bd) (hBz : bd.length = 0 → B = none ∧ cb = 0 ∨ ∃ x, B = some x) (hD : IsRow .u8 w D ld cd zs) (hT : TabC w) : Calls Tryz.prog 3 #[.agg #[.string (asS m), .string (asS t), .slice A l.length c, .slice B bd.length cb], .slice D ld cd] w fun e w' => e = .returned (.bool true) ∧ Below w.heap.size w w' := by
  obtain ⟨mo, rfl, _, hD2⟩ := row_at hD (Nat.lt_of_le_of_lt (Nat.zero_le _) hT.big)
  exact requests11_law m t l A c bd B cb mo D cd hm ht hf w hA hB hBz hD2 hT
open Go.ChangeShapes Go.WideShapes Go.ChangeAt in
set_option maxRecDepth 100000 in
/-- A slice of headers, by its cells. -/
theorem open_hdsC {H : Type} {enc : TypeId × Value → H} {W : World} {fuel : Nat} {cs0 : List Value} {x0 : DataW H × List MemPlace} (hf : DataW.trod enc Tryz.prog W 0 (fun _ => true) true fuel 22 cs0 = some x0) :
    ∃ (l : List HdV) (A : Option Addr) (c : Nat), cs0 = [.slice A l.length c] ∧ HdsAt W A l ∧ ((∀ n ∈ x0.1.weights Tryz.prog 22, n ≤ reachBytes) → FitH l) := by
  have hc : Tryz.prog.cellsOf 69 = 2 := by kernel_rfl
  rcases Go.Deep.open_slice Tryz.underlying22 hf with ⟨hcs, _⟩ | ⟨x, len, cap, m, n, D, Pl, hcs, _, hlc, _, hm, hd2, hx⟩
  · exact ⟨[], none, 0, hcs, fun h => absurd h (by simp), fun _ k hk => absurd hk (by simp)⟩
  · simp only [if_true] at hm
    rw [hc] at hx
    obtain ⟨L, hL, hp⟩ := choose_hd len (fun i h => W.cell? (x.add (i * 2)) = some (.string (asS h.name)) ∧ W.cell? ((x.add (i * 2)).add 1) = some (.string (asS h.value)) ∧ D i = .agg [.lit (.string h.name), .lit (.string h.value)]) (fun i hi => by
      obtain ⟨cs', h1, h2⟩ := hx i (by omega)
      obtain ⟨_, hlen, hcell⟩ := World.cells?_some h1
      obtain ⟨h, h3, h4⟩ := open_cellsH hlen h2
      refine ⟨h, ?_, ?_, h4⟩
      · have := hcell 0 (by omega)
        rw [h3] at this
        rw [show (x.add (i * 2)).add 0 = x.add (i * 2) from by simp [Addr.add]] at this
        exact this
      · have := hcell 1 (by omega)
        rw [h3] at this
        exact this)
    refine ⟨L, some x, cap, by rw [hL]; exact hcs, fun h0 => ?_, fun hw k hk => ?_⟩
    · have hsp := spot_of (hp 0 (by omega)).1
      obtain ⟨q, o, sp⟩ := x
      have hs2 : sp = none := by simpa [Addr.add] using hsp.1
      subst hs2
      refine ⟨q, o, rfl, by simpa [Addr.add] using hsp.2, fun j hj => ?_⟩
      have := hp j (by omega)
      rw [Addr.add_mid, Addr.add_mid] at this
      exact ⟨this.1, this.2.1⟩
    · have hk2 : k < len := by omega
      have hde : D k ∈ (List.range len).map D := List.mem_map.2 ⟨k, List.mem_range.2 hk2, rfl⟩
      have hin : ∀ z ∈ (D k).weights Tryz.prog 69, z ≤ 140737488355328 := fun z hz => by
        have hdd : x0.1 = .slice ((List.range len).map D) ((List.range (m - len)).map fun j => D (len + j)) := by rw [hd2]
        have : z ∈ x0.1.weights Tryz.prog 22 := by
          rw [hdd]
          have hu := Tryz.underlying22
          simp only [DataW.weights, hu, List.mem_cons, List.mem_append]
          exact .inr (.inl (weights_all hde z hz))
        have h2 := hw z this
        have := reachBytes_lt
        omega
      have hDk := (hp k hk2).2.2
      rw [hDk] at hin
      exact ⟨hin _ (weights_hd _ _).1, hin _ (weights_hd _ _).2⟩
open Go.ChangeShapes Go.WideShapes Go.ChangeAt in
set_option maxRecDepth 100000 in
/-- A slice of bytes, by its cells. -/
theorem open_btsC {H : Type} {enc : TypeId × Value → H} {W : World} {fuel : Nat} {cs0 : List Value} {x0 : DataW H × List MemPlace} (h0 : 0 < W.heap.size) (hf : DataW.trod enc Tryz.prog W 0 (fun _ => true) true fuel 23 cs0 = some x0) :
    ∃ (l : List UInt8) (A : Option Addr) (c : Nat), cs0 = [.slice A l.length c] ∧ BytesAt W A l ∧ (l.length = 0 → A = none ∧ c = 0 ∨ ∃ x, A = some x) := by
  have : ∃ (a : Option Addr) (len cap : Nat) (zs : List Int), cs0 = [.slice a len cap] ∧ IsRow .u8 W a len cap zs := by
    rcases open_ints Tryz.underlying23 Tryz.underlying5 (by kernel_rfl) hf with ⟨hcs, _⟩ | ⟨x, l, c, zs, hcs, _, hl, hm, hz, _, hcell, hwz⟩
    · exact ⟨none, 0, 0, [], hcs, .inl ⟨rfl, rfl, rfl, rfl⟩⟩
    · exact ⟨some x, l, c, zs, hcs, .inr ⟨_, rfl, hl, hm, by simpa using hz, hcell, hwz⟩⟩
  obtain ⟨a, len, cap, zs, hcs, hr⟩ := this
  obtain ⟨l, rfl, _, hA⟩ := row_at hr h0
  exact ⟨l, a, cap, hcs, hA, row_nil hr⟩
open Go.ChangeShapes Go.WideShapes Go.ChangeAt in
set_option maxRecDepth 100000 in
/-- A request, by value. -/
theorem open_req {H : Type} {enc : TypeId × Value → H} {W : World} {b0 : Nat} {v : Value} {d : DataW H} {ps : List MemPlace} (hp : 0 < W.heap.size) (hval : Value.okWide Tryz.prog W .any b0 25 v) (hd : DataW.Trod enc Tryz.prog W 0 (fun _ => true) true 25 v d ps) (hw : ∀ n ∈ d.weights Tryz.prog 25, n ≤ reachBytes) :
    ∃ (m t : List UInt8) (l : List HdV) (A : Option Addr) (c : Nat) (bd : List UInt8) (B : Option Addr) (cb : Nat), v = .agg #[.string (asS m), .string (asS t), .slice A l.length c, .slice B bd.length cb] ∧ m.length ≤ 140737488355328 ∧ t.length ≤ 140737488355328 ∧ FitH l ∧ HdsAt W A l ∧ BytesAt W B bd ∧ (bd.length = 0 → B = none ∧ cb = 0 ∨ ∃ x, B = some x) := by
  have hc : Tryz.prog.cellsOf 25 = 4 := by kernel_rfl
  have hc0 : Tryz.prog.cellsOf 9 = 1 := by kernel_rfl
  have hc1 : Tryz.prog.cellsOf 9 = 1 := by kernel_rfl
  have hc2 : Tryz.prog.cellsOf 22 = 1 := by kernel_rfl
  have hc3 : Tryz.prog.cellsOf 23 = 1 := by kernel_rfl
  obtain ⟨cs, rfl, hsz⟩ : ∃ cs : Array Value, v = .agg cs ∧ cs.size = 4 := by
    simp only [Value.okWide, Tryz.underlying25] at hval
    obtain ⟨cs, h1, h2, _⟩ := hval
    exact ⟨cs, h1, by rw [h2, hc]⟩
  obtain ⟨fuel, hf⟩ := hd
  obtain ⟨xs, m, _, hxd, _, hn, hx⟩ := DataW.trod_struct Tryz.underlying25 hf
  have hn3 : xs.length = 4 := hn
  have h0 : DataW.trod enc Tryz.prog W 0 (fun _ => true) true m 9 (((Value.agg cs).cells.toList.drop 0).take (Tryz.prog.cellsOf 9)) = xs[0]? := hx 0 _ rfl
  have h1 : DataW.trod enc Tryz.prog W 0 (fun _ => true) true m 9 (((Value.agg cs).cells.toList.drop 1).take (Tryz.prog.cellsOf 9)) = xs[1]? := hx 1 _ rfl
  have h2 : DataW.trod enc Tryz.prog W 0 (fun _ => true) true m 22 (((Value.agg cs).cells.toList.drop 2).take (Tryz.prog.cellsOf 22)) = xs[2]? := hx 2 _ rfl
  have h3 : DataW.trod enc Tryz.prog W 0 (fun _ => true) true m 23 (((Value.agg cs).cells.toList.drop 3).take (Tryz.prog.cellsOf 23)) = xs[3]? := hx 3 _ rfl
  clear hx hn hf
  match xs, hn3 with
  | [y0, y1, y2, y3], _ =>
  have hcl : (Value.agg cs).cells.toList = cs.toList := rfl
  rw [hc0, hcl] at h0
  rw [hc1, hcl] at h1
  rw [hc2, hcl] at h2
  rw [hc3, hcl] at h3
  obtain ⟨cl, rfl⟩ : ∃ cl : List Value, cs = cl.toArray := ⟨cs.toList, by simp⟩
  have hcz : cl.length = 4 := by simpa using hsz
  match cl, hcz with
  | [c0, c1, c2, c3], _ =>
  obtain ⟨s0, e0, d0, _⟩ := DataW.trod_string Tryz.underlying9 h0
  obtain ⟨s1, e1, d1, _⟩ := DataW.trod_string Tryz.underlying9 h1
  obtain ⟨l, A, c, e2, hA, hF⟩ := open_hdsC (show _ = some y2 from h2)
  obtain ⟨bd, B, cb, e3, hB, hBz⟩ := open_btsC hp (show _ = some y3 from h3)
  have q0 : c0 = .string s0 := by simpa using e0
  have q1 : c1 = .string s1 := by simpa using e1
  have q2 : c2 = .slice A l.length c := by simpa using e2
  have q3 : c3 = .slice B bd.length cb := by simpa using e3
  have hdd : d = .agg [y0.1, y1.1, y2.1, y3.1] := (Prod.mk.inj hxd).1
  obtain ⟨fs, hu, hfs⟩ : ∃ fs : Array Field, Tryz.prog.underlying 25 = some (.struct fs) ∧ fs.toList.map (·.type) = [9, 9, 22, 23] := ⟨_, Tryz.underlying25, rfl⟩
  have hin : ∀ n, (n ∈ y0.1.weights Tryz.prog 9 ∨ n ∈ y1.1.weights Tryz.prog 9 ∨ n ∈ y2.1.weights Tryz.prog 22) → n ≤ reachBytes := fun n h => hw n (by
    rw [hdd]
    simp only [DataW.weights, hu, hfs, DataW.weightsEach, List.mem_append]
    rcases h with h | h | h
    · exact .inl h
    · exact .inr (.inl h)
    · exact .inr (.inr (.inl h)))
  have hrb := reachBytes_lt
  refine ⟨s0.data.toList, s1.data.toList, l, A, c, bd, B, cb, ?_, ?_, ?_, hF (fun n h => hin n (.inr (.inr h))), hA, hB, hBz⟩
  · simp only [asS_of]
    rw [q0, q1, q2, q3]
  · have := hin s0.data.toList.length (.inl (by rw [d0]; simp only [DataW.weights, List.mem_cons, true_or]))
    omega
  · have := hin s1.data.toList.length (.inr (.inl (by rw [d1]; simp only [DataW.weights, List.mem_cons, true_or])))
    omega
end Go.Proofs.YtclonnpglikddaaGreatDoor
