
/- Which responses may be: what CheckResponse of package http does. -/
import Derived.Test.YtclonnpglikddaaGreatDoorHtHds
namespace Go.Proofs.YtclonnpglikddaaGreatDoor
set_option linter.unusedVariables false
set_option linter.unusedSimpArgs false
open Go.RowKit Go.BigFrame
attribute [local go_sem ↓] load40_eq

set_option maxHeartbeats 2000000 in
set_option maxRecDepth 100000 in
theorem checkRes_any (st : Int) (t : List UInt8) (l : List HdV) (bd : List UInt8) (A : Option Addr) (c : Nat) (B : Option Addr) (cb : Nat) (ht : t.length ≤ 1000000) (hl : l.length ≤ 100) (hz : sizeH l ≤ 20000) (hn : bd.length ≤ 99999) (w : World) (hT : TabC w) (hA : HdsAt w A l) : Calls Tryz.prog 18 #[.agg #[.int .i64 st, .string (asS t), .slice A l.length c, .slice B bd.length cb]] w fun e w' => e = .returned (.int .i64 (if mayResp ⟨st, t, l, bd⟩ then 0 else 1)) ∧ Below w.heap.size w w' := by
  have hs := light_small l (by omega)
  have HA := hid hA
  have HT := hid hT
  have HRS := hid (fun W => isReason_any t (by omega) W)
  have HBA := hid (fun W => bodiless_any st W)
  have HSB := hid (fun W hW => saysBody_any l A c (by omega) hs W hW)
  have HRH := hid (fun hcl W hT hW => resHds_any st (asS t) l A c B bd.length cb (by omega) hs hn hcl W hT hW)
  have HCK : Hid (∀ A' c' W, HdsAt W A' (ownResp ⟨st, t, l, bd⟩) → Calls Tryz.prog 34 #[.slice A' (ownResp ⟨st, t, l, bd⟩).length c'] W fun e w' => e = .returned (.int .i64 (checkH (ownResp ⟨st, t, l, bd⟩))) ∧ Below W.heap.size W w') := fun A' c' W hW => by
    have h1 : (ownResp ⟨st, t, l, bd⟩).length ≤ 200 ∧ sizeH (ownResp ⟨st, t, l, bd⟩) ≤ 30000 := by
      unfold ownResp
      split
      · simp only; omega
      · have := with_size l bd.length hn hz
        have := with_len l bd.length
        simp only at *
        omega
    exact check9_any _ A' c' h1.1 h1.2 W hW
  have HOW : Hid ((if bareM st then l else withM l bd.length) = ownResp ⟨st, t, l, bd⟩) := rfl
  rw [HOW.out] at HRH
  have HMA : Hid (mayResp ⟨st, t, l, bd⟩ = (decide (200 ≤ st) && (decide (st ≤ 599) && (reasonB t && (!(bareM st && decide (0 < bd.length)) && (decide (allH l clLow = [] ∧ allH l teLow = [] ∧ bd.length ≤ 32768) && decide (checkH (ownResp ⟨st, t, l, bd⟩) = 0))))))) := by
    show _ = _
    unfold mayResp fitsM ownResp reasonB
    by_cases h : bareM st = true
    · rw [h]
      simp only [Bool.decide_and, Bool.and_assoc]
      rfl
    · have h2 : bareM st = false := by simpa using h
      rw [h2]
      simp only [Bool.decide_and, Bool.and_assoc]
      rfl
  have HSY : Hid (saysB l = true → ¬ (allH l clLow = [] ∧ allH l teLow = [])) := fun h hh => by
    unfold saysB getB at h
    rw [all_cl, all_te, hh.1, hh.2] at h
    cases h
  have HSN : Hid (saysB l = false → allH l clM = [] ∧ allH l clLow = [] ∧ allH l teLow = []) := fun h => by
    unfold saysB getB at h
    rw [Bool.or_eq_false_iff] at h
    have h1 : allH l clM = [] := by simpa using h.1
    have h2 : allH l teM = [] := by simpa using h.2
    exact ⟨h1, by rw [← all_cl]; exact h1, by rw [← all_te]; exact h2⟩
  have HB0 := hid (alloc_below (Below.refl w.heap.size w) (Nat.le_refl _) (.cells #[.int .i64 st, .string (asS t), .slice A l.length c, .slice B bd.length cb] 40))
  have HR0 := hid (heap_alloc_new w (.cells #[.int .i64 st, .string (asS t), .slice A l.length c, .slice B bd.length cb] 40))
  clear hA hs hT ht hl hz
  generalize mayResp ⟨st, t, l, bd⟩ = R at HMA ⊢
  generalize ownResp ⟨st, t, l, bd⟩ = OW at HRH HCK HMA HOW
  generalize reasonB t = rb at HRS HMA
  generalize bareM st = bb at HBA HMA HOW
  generalize saysB l = sb at HSB HSY HSN
  generalize asS t = T at HRS HRH HB0 HR0 ⊢
  generalize l.length = ln at HSB HRH HB0 HR0 ⊢
  generalize bd.length = n at HRH HMA HB0 HR0 hn HOW ⊢
  have HNO : Hid (R = false → (if R = true then (0 : Int) else 1) = 1) := fun h => by rw [h]; rfl
  have HYES : Hid (R = true → (if R = true then (0 : Int) else 1) = 0) := fun h => by rw [h]; rfl
  generalize (if R = true then (0 : Int) else 1) = V at HNO HYES ⊢
  by_cases hs1 : st < 200
  · have HX : Hid (V = 1) := HNO.out (by rw [HMA.out, decide_eq_false (by omega)]; rfl)
    go_enter Tryz.func18, Tryz.ntmps18
    go_wp2_with fail
    go_ret
    exact ⟨by rw [HX.out]; rfl, HB0.out⟩
  rw [decide_eq_true (show 200 ≤ st by omega), Bool.true_and] at HMA
  by_cases hs2 : 599 < st
  · have HX : Hid (V = 1) := HNO.out (by rw [HMA.out, decide_eq_false (by omega)]; rfl)
    go_enter Tryz.func18, Tryz.ntmps18
    go_wp2_with fail
    go_ret
    exact ⟨by rw [HX.out]; rfl, HB0.out⟩
  rw [decide_eq_true (show st ≤ 599 by omega), Bool.true_and] at HMA
  go_enter Tryz.func18, Tryz.ntmps18
  go_wp2_with fail
  refine (HRS.out _).mono ?_
  rintro e W1 ⟨rfl, rfl⟩
  cases rb
  · have HX : Hid (V = 1) := HNO.out (by rw [HMA.out]; rfl)
    go_wp2_with fail
    go_ret
    exact ⟨by rw [HX.out]; rfl, HB0.out⟩
  by_cases hb : 32768 < n
  · have HX : Hid (V = 1) := HNO.out (by rw [HMA.out, decide_eq_false (p := allH l clLow = [] ∧ allH l teLow = [] ∧ n ≤ 32768) (fun h => by omega)]; cases bb <;> simp)
    have hbi : (32768 : Int) < (n : Int) := by omega
    clear hb
    go_wp2_with fail
    go_ret
    exact ⟨by rw [HX.out]; rfl, HB0.out⟩
  have hbi : ¬ (32768 : Int) < (n : Int) := by omega
  obtain ⟨V1, hV1⟩ : ∃ V1, V1 = w.alloc (.cells #[.int .i64 st, .string T, .slice A ln c, .slice B n cb] 40) := ⟨_, rfl⟩
  rw [← hV1] at HB0 HR0 ⊢
  have c0 : V1.cell? ⟨w.heap.size, 0, none⟩ = some (.int .i64 st) := by rw [cell_of_row _ _ _ _ _ _ HR0.out]; rfl
  have c2 : V1.cell? ⟨w.heap.size, 2, none⟩ = some (.slice A ln c) := by rw [cell_of_row _ _ _ _ _ _ HR0.out]; rfl
  have c3 : V1.cell? ⟨w.heap.size, 3, none⟩ = some (.slice B n cb) := by rw [cell_of_row _ _ _ _ _ _ HR0.out]; rfl
  clear hV1
  go_wp2_with fail
  refine (HBA.out _).mono ?_
  rintro e W1 ⟨rfl, rfl⟩
  by_cases hno : bb = true ∧ 0 < n
  · have HX : Hid (V = 1) := HNO.out (by rw [HMA.out, hno.1, decide_eq_true hno.2]; rfl)
    have h0i : (0 : Int) < (n : Int) := by omega
    obtain rfl : bb = true := hno.1
    clear hno hb
    go_wp2_with fail
    go_ret
    exact ⟨by rw [HX.out]; rfl, HB0.out⟩
  have HM3 : Hid (R = (decide (allH l clLow = [] ∧ allH l teLow = [] ∧ n ≤ 32768) && decide (checkH OW = 0))) := by
    show _ = _
    rw [HMA.out]
    cases bb
    · rfl
    · have h0 : ¬ 0 < n := fun h => hno ⟨rfl, h⟩
      rw [decide_eq_false h0]; rfl
  clear HMA
  have hpass : bb = false ∨ (bb = true ∧ ¬ (0 : Int) < (n : Int)) := by
    cases bb
    · exact .inl rfl
    · exact .inr ⟨rfl, fun h => hno ⟨rfl, by omega⟩⟩
  clear hno
  have TAIL : ∀ (bb' : Bool), bb = bb' → True := fun _ _ => trivial
  clear TAIL
  rcases hpass with hp | ⟨hp, h0i⟩
  all_goals
    subst hp
    go_wp2_with fail
    refine (HSB.out _ (HA.out.below HB0.out (Nat.le_refl _))).mono ?_
    rintro e W2 ⟨rfl, hb2⟩
    have HB2 := hid (HB0.out.trans (hb2.mono HB0.out.size))
    have HR2 := hid (row_keep hb2 HR0.out)
    clear hb2 c0 c2 c3
    cases sb
    · obtain ⟨y1, y2, y3⟩ := HSN.out rfl
      have HM2 : Hid (R = decide (checkH OW = 0)) := by
        show _ = _
        rw [HM3.out, decide_eq_true ⟨y2, y3, by omega⟩]; rfl
      have HRH2 := hid (HRH.out y1 W2 (HT.out.below HB2.out) (HA.out.below HB2.out (Nat.le_refl _)))
      clear hb HRH y1 y2 y3
      have hld := loadM40 HR2.out rfl
      go_wp2_with fail
      refine HRH2.out.mono ?_
      rintro e W3 ⟨v3, rfl, hv3, hb3⟩
      have HB3 := hid (HB2.out.trans (hb3.mono HB2.out.size))
      obtain ⟨A3, d3, rfl, hat3⟩ := hv3
      have HCK3 := hid (HCK.out A3 d3 W3 hat3)
      clear hb3 hat3 HCK HRH2
      generalize OW.length = lo at HCK3 ⊢
      generalize checkH OW = E at HCK3 HM2
      go_wp2_with fail
      refine HCK3.out.mono ?_
      rintro e W4 ⟨rfl, hb4⟩
      have HB4 := hid (HB3.out.trans (hb4.mono HB3.out.size))
      clear hb4
      by_cases hE : E = 0
      · have HX : Hid (V = 0) := HYES.out (by rw [HM2.out, decide_eq_true hE])
        subst hE
        go_wp2_with fail
        go_ret
        exact ⟨by rw [HX.out]; rfl, HB4.out⟩
      · have HX : Hid (V = 1) := HNO.out (by rw [HM2.out, decide_eq_false hE])
        have hE9 : (E == 0) = false := beq_eq_false_iff_ne.2 hE
        clear hE
        go_wp2_with fail
        go_ret
        exact ⟨by rw [HX.out]; rfl, HB4.out⟩
    · have HX : Hid (V = 1) := HNO.out (by
        rw [HM3.out, decide_eq_false (fun h => HSY.out rfl ⟨h.1, h.2.1⟩)]; rfl)
      clear hb
      go_wp2_with fail
      go_ret
      exact ⟨by rw [HX.out]; rfl, HB2.out⟩
end Go.Proofs.YtclonnpglikddaaGreatDoor
