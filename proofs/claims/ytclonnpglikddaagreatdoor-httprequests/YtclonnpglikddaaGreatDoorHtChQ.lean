
/- Which requests may be: what CheckRequest of package http does. -/
import Derived.Test.YtclonnpglikddaaGreatDoorHtHds
namespace Go.Proofs.YtclonnpglikddaaGreatDoor
set_option linter.unusedVariables false
set_option linter.unusedSimpArgs false
open Go.RowKit Go.BigFrame
attribute [local go_sem ↓] load25_eq

set_option maxHeartbeats 2000000 in
set_option maxRecDepth 100000 in
theorem checkReq_any (m t : List UInt8) (l : List HdV) (bd : List UInt8) (A : Option Addr) (c : Nat) (B : Option Addr) (cb : Nat) (hm : m.length ≤ 1000000) (ht : t.length ≤ 1000000) (hl : l.length ≤ 100) (hz : sizeH l ≤ 20000) (hn : bd.length ≤ 99999) (w : World) (hT : TabC w) (hA : HdsAt w A l) : Calls Tryz.prog 11 #[.agg #[.string (asS m), .string (asS t), .slice A l.length c, .slice B bd.length cb]] w fun e w' => e = .returned (.int .i64 (if mayReq ⟨m, t, l, bd⟩ then 0 else 1)) ∧ Below w.heap.size w w' := by
  have hs := light_small l (by omega)
  have HA := hid hA
  have HT := hid hT
  have HTK := hid (fun W => token_any m (by omega) W)
  have HTG := hid (fun W => isTarget_any t (by omega) W)
  have HSB := hid (fun W hW => saysBody_any l A c (by omega) hs W hW)
  have HRH := hid (fun hcl W hT hW => reqHds_any (asS m) (asS t) l A c B bd.length cb (by omega) hs hn hcl W hT hW)
  have HCK : Hid (∀ A' c' W, HdsAt W A' (ownReq ⟨m, t, l, bd⟩) → Calls Tryz.prog 34 #[.slice A' (ownReq ⟨m, t, l, bd⟩).length c'] W fun e w' => e = .returned (.int .i64 (checkH (ownReq ⟨m, t, l, bd⟩))) ∧ Below W.heap.size W w') := fun A' c' W hW => by
    have h1 : (ownReq ⟨m, t, l, bd⟩).length ≤ 200 ∧ sizeH (ownReq ⟨m, t, l, bd⟩) ≤ 30000 := by
      unfold ownReq
      split
      · have := with_size l bd.length hn hz
        have := with_len l bd.length
        simp only at *
        omega
      · simp only; omega
    exact check9_any _ A' c' h1.1 h1.2 W hW
  have HOW : Hid ((if 0 < bd.length then withM l bd.length else l) = ownReq ⟨m, t, l, bd⟩) := rfl
  rw [HOW.out] at HRH
  have HMA : Hid (mayReq ⟨m, t, l, bd⟩ = (tokenH m && targetM t && (decide (allH l clLow = [] ∧ allH l teLow = [] ∧ bd.length ≤ 32768) && decide (checkH (ownReq ⟨m, t, l, bd⟩) = 0)))) := by
    show _ = _
    unfold mayReq fitsM ownReq
    by_cases h : 0 < bd.length
    · rw [if_pos h, decide_eq_true h]; rfl
    · rw [if_neg h, decide_eq_false h]; rfl
  have HSY : Hid (saysB l = true → ¬ (allH l clLow = [] ∧ allH l teLow = [])) := fun h hh => by
    unfold saysB getB at h
    rw [all_cl, all_te, hh.1, hh.2] at h
    cases h
  have HSN : Hid (saysB l = false → allH l clM = [] ∧ allH l clLow = [] ∧ allH l teLow = []) := fun h => by
    unfold saysB getB at h
    rw [Bool.or_eq_false_iff] at h
    have h1 : allH l clM = [] := by simpa using h.1
    have h2 : allH l teM = [] := by simpa using h.2
    exact ⟨h1, by rw [← all_cl]; exact h1, by rw [← all_te]; exact h2⟩
  have HB0 := hid (alloc_below (Below.refl w.heap.size w) (Nat.le_refl _) (.cells #[.string (asS m), .string (asS t), .slice A l.length c, .slice B bd.length cb] 25))
  have HR0 := hid (heap_alloc_new w (.cells #[.string (asS m), .string (asS t), .slice A l.length c, .slice B bd.length cb] 25))
  clear hA hs hT hm ht hl hz
  generalize mayReq ⟨m, t, l, bd⟩ = R at HMA ⊢
  generalize ownReq ⟨m, t, l, bd⟩ = OW at HRH HCK HMA HOW
  generalize tokenH m = tb at HTK HMA
  generalize targetM t = gb at HTG HMA
  generalize saysB l = sb at HSB HSY HSN
  generalize asS m = M at HTK HRH HB0 HR0 ⊢
  generalize asS t = T at HTG HRH HB0 HR0 ⊢
  generalize l.length = ln at HSB HRH HB0 HR0 ⊢
  generalize bd.length = n at HRH HMA HB0 HR0 hn HOW ⊢
  have HNO : Hid (R = false → (if R = true then (0 : Int) else 1) = 1) := fun h => by rw [h]; rfl
  have HYES : Hid (R = true → (if R = true then (0 : Int) else 1) = 0) := fun h => by rw [h]; rfl
  generalize (if R = true then (0 : Int) else 1) = V at HNO HYES ⊢
  go_enter Tryz.func11, Tryz.ntmps11
  go_wp2_with fail
  refine (HTK.out _).mono ?_
  rintro e W1 ⟨rfl, rfl⟩
  cases tb
  · have HX : Hid (V = 1) := HNO.out (by rw [HMA.out]; rfl)
    go_wp2_with fail
    go_ret
    exact ⟨by rw [HX.out]; rfl, HB0.out⟩
  go_wp2_with fail
  refine (HTG.out _).mono ?_
  rintro e W1 ⟨rfl, rfl⟩
  cases gb
  · have HX : Hid (V = 1) := HNO.out (by rw [HMA.out]; rfl)
    go_wp2_with fail
    go_ret
    exact ⟨by rw [HX.out]; rfl, HB0.out⟩
  by_cases hb : 32768 < n
  · have HX : Hid (V = 1) := HNO.out (by rw [HMA.out, decide_eq_false (fun h => by omega)]; rfl)
    have hbi : (32768 : Int) < (n : Int) := by omega
    clear hb
    go_wp2_with fail
    go_ret
    exact ⟨by rw [HX.out]; rfl, HB0.out⟩
  have hbi : ¬ (32768 : Int) < (n : Int) := by omega
  obtain ⟨V1, hV1⟩ : ∃ V1, V1 = w.alloc (.cells #[.string M, .string T, .slice A ln c, .slice B n cb] 25) := ⟨_, rfl⟩
  rw [← hV1] at HB0 HR0 ⊢
  have c2 : V1.cell? ⟨w.heap.size, 2, none⟩ = some (.slice A ln c) := by rw [cell_of_row _ _ _ _ _ _ HR0.out]; rfl
  have c3 : V1.cell? ⟨w.heap.size, 3, none⟩ = some (.slice B n cb) := by rw [cell_of_row _ _ _ _ _ _ HR0.out]; rfl
  clear hV1
  go_wp2_with fail
  refine (HSB.out _ (HA.out.below HB0.out (Nat.le_refl _))).mono ?_
  rintro e W2 ⟨rfl, hb2⟩
  have HB2 := hid (HB0.out.trans (hb2.mono HB0.out.size))
  have HR2 := hid (row_keep hb2 HR0.out)
  clear hb2 c2 c3
  cases sb
  · obtain ⟨y1, y2, y3⟩ := HSN.out rfl
    have HM2 : Hid (R = decide (checkH OW = 0)) := by
      show _ = _
      rw [HMA.out, decide_eq_true ⟨y2, y3, by omega⟩]; rfl
    have HRH2 := hid (HRH.out y1 W2 (HT.out.below HB2.out) (HA.out.below HB2.out (Nat.le_refl _)))
    clear hb HRH y1 y2 y3
    have hld := loadM25 HR2.out rfl
    go_wp2_with fail
    refine HRH2.out.mono ?_
    rintro e W3 ⟨v3, rfl, hv3, hb3⟩
    have HB3 := hid (HB2.out.trans (hb3.mono HB2.out.size))
    obtain ⟨A3, d3, rfl, hat3⟩ := hv3
    have HCK3 := hid (HCK.out A3 d3 W3 hat3)
    clear hb3 hat3 HCK HRH2
    generalize OW.length = lo at HCK3 ⊢
    generalize checkH OW = E at HCK3 HM2
    go_wp2_with fail
    refine HCK3.out.mono ?_
    rintro e W4 ⟨rfl, hb4⟩
    have HB4 := hid (HB3.out.trans (hb4.mono HB3.out.size))
    clear hb4
    by_cases hE : E = 0
    · have HX : Hid (V = 0) := HYES.out (by rw [HM2.out, decide_eq_true hE])
      subst hE
      go_wp2_with fail
      go_ret
      exact ⟨by rw [HX.out]; rfl, HB4.out⟩
    · have HX : Hid (V = 1) := HNO.out (by rw [HM2.out, decide_eq_false hE])
      have hE9 : (E == 0) = false := beq_eq_false_iff_ne.2 hE
      clear hE
      go_wp2_with fail
      go_ret
      exact ⟨by rw [HX.out]; rfl, HB4.out⟩
  · have HX : Hid (V = 1) := HNO.out (by
      rw [HMA.out, decide_eq_false (fun h => HSY.out rfl ⟨h.1, h.2.1⟩)]; rfl)
    clear hb
    go_wp2_with fail
    go_ret
    exact ⟨by rw [HX.out]; rfl, HB2.out⟩
end Go.Proofs.YtclonnpglikddaaGreatDoor
