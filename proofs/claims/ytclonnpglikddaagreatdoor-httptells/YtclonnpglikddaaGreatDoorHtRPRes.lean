
/- A response at the beginning of bytes: what ParseResponse of the reference does. -/
import Derived.Test.YtclonnpglikddaaGreatDoorHtRBody
import Derived.Test.YtclonnpglikddaaGreatDoorHtRLine
import Derived.Test.YtclonnpglikddaaGreatDoorHtRCut
import Derived.BigRegion
import Derived.Deep.DeepCutAuto
namespace Go.Proofs.YtclonnpglikddaaGreatDoor
set_option linter.unusedVariables false
set_option linter.unusedSimpArgs false
open Go.RowKit Go.BigFrame
attribute [local go_sem ↓] slI_eq loadS_eq store40_eq

theorem getD_pad (L : List (List UInt8)) (i : Nat) : (L ++ [[]]).getD i [] = L.getD i [] := by
  by_cases h : i < L.length
  · rw [List.getD_eq_getElem?_getD, List.getD_eq_getElem?_getD, List.getElem?_append_left h]
  · rw [List.getD_eq_getElem?_getD, List.getD_eq_getElem?_getD, List.getElem?_append_right (by omega), List.getElem?_eq_none (by omega : L.length ≤ i)]
    by_cases h2 : i - L.length = 0
    · rw [h2]; rfl
    · rw [List.getElem?_eq_none (by simp; omega)]
theorem resp_pad (L : List (List UInt8)) : okResp L = (decide (3 ≤ (L ++ [[]]).length) && decide ((L ++ [[]]).getD 0 [] = verM) && decide (((L ++ [[]]).getD 1 []).length = 3) && btw 48 57 ((L ++ [[]]).getD 1 []) && decide (49 ≤ (((L ++ [[]]).getD 1 []).getD 0 0).toNat ∧ (((L ++ [[]]).getD 1 []).getD 0 0).toNat ≤ 53) && decide (((L ++ [[]]).getD 2 []).length ≤ 128) && btw 32 126 ((L ++ [[]]).getD 2 [])) := by
  rw [getD_pad, getD_pad, getD_pad]
  unfold okResp
  rw [List.length_append, List.length_singleton]
  have : decide (2 ≤ L.length) = decide (3 ≤ L.length + 1) := decide_eq_decide.2 ⟨fun h => by omega, fun h => by omega⟩
  rw [this]
set_option maxHeartbeats 8000000 in
set_option maxRecDepth 100000 in
theorem refParseRes_any (b : List UInt8) (A : Option Addr) (c : Nat) (hb : b.length ≤ 900000) (hc : b.length ≤ c) (w : World) (hA : BytesAt w A b) : Calls Tryz.prog 24 #[.slice A b.length c] w fun e w' => ∃ vh vb, e = .returned (.tuple #[.agg #[.int .i64 (parseResp b).1.status, .string (asS (parseResp b).1.reason), vh, vb], .int .i64 (parseResp b).2.1, .int .i64 (parseResp b).2.2]) ∧ HdsV w' vh (parseResp b).1.hds ∧ BtV w' vb (parseResp b).1.body ∧ Below w.heap.size w w' := by
  have HA := hid hA
  have HCL := hid (fun W hX => refLine_any b A c (by omega) hc W hX)
  obtain ⟨hk1, hk2⟩ := line_le b
  have hpos := line_pos b
  have HPE : Hid (parseResp b = if (lineM b).2.2 ≠ 0 then (noResp, 0, (lineM b).2.2) else if okResp (cutM 2 (lineM b).1) = false then (noResp, 0, 5) else if (parseH (b.drop (lineM b).2.1)).2.2 ≠ 0 then (noResp, 0, (parseH (b.drop (lineM b).2.1)).2.2) else if bareM (statV ((cutM 2 (lineM b).1).getD 1 [])) then (⟨statV ((cutM 2 (lineM b).1).getD 1 []), (cutM 2 (lineM b).1).getD 2 [], (parseH (b.drop (lineM b).2.1)).1, []⟩, (lineM b).2.1 + (parseH (b.drop (lineM b).2.1)).2.1, 0) else if (bodyM (b.drop ((lineM b).2.1 + (parseH (b.drop (lineM b).2.1)).2.1)) (parseH (b.drop (lineM b).2.1)).1 true).2.2 ≠ 0 then (noResp, 0, (bodyM (b.drop ((lineM b).2.1 + (parseH (b.drop (lineM b).2.1)).2.1)) (parseH (b.drop (lineM b).2.1)).1 true).2.2) else (⟨statV ((cutM 2 (lineM b).1).getD 1 []), (cutM 2 (lineM b).1).getD 2 [], (parseH (b.drop (lineM b).2.1)).1, (bodyM (b.drop ((lineM b).2.1 + (parseH (b.drop (lineM b).2.1)).2.1)) (parseH (b.drop (lineM b).2.1)).1 true).1⟩, (lineM b).2.1 + (parseH (b.drop (lineM b).2.1)).2.1 + (bodyM (b.drop ((lineM b).2.1 + (parseH (b.drop (lineM b).2.1)).2.1)) (parseH (b.drop (lineM b).2.1)).1 true).2.1, 0)) := rfl
  generalize parseResp b = PR at HPE ⊢
  generalize lineM b = LM at HCL HPE hk1 hk2 hpos
  obtain ⟨s, k, E⟩ := LM
  simp only at HCL HPE hk1 hk2 hpos
  have HZ1 := hid (heap_first w (.cells #[.int .i64 0, .string ⟨#[]⟩, .slice none 0 0, .slice none 0 0] 40) (.cells #[.int .i64 0, .string ⟨#[]⟩, .slice none 0 0, .slice none 0 0] 40))
  have HZ2 := hid (heap_second w (.cells #[.int .i64 0, .string ⟨#[]⟩, .slice none 0 0, .slice none 0 0] 40) (.cells #[.int .i64 0, .string ⟨#[]⟩, .slice none 0 0, .slice none 0 0] 40))
  have HB0 := hid (alloc_below (alloc_below (Below.refl w.heap.size w) (Nat.le_refl _) (.cells #[.int .i64 0, .string ⟨#[]⟩, .slice none 0 0, .slice none 0 0] 40)) (by simp) (.cells #[.int .i64 0, .string ⟨#[]⟩, .slice none 0 0, .slice none 0 0] 40))
  have hz0 : ((w.alloc (.cells #[.int .i64 0, .string ⟨#[]⟩, .slice none 0 0, .slice none 0 0] 40)).alloc (.cells #[.int .i64 0, .string ⟨#[]⟩, .slice none 0 0, .slice none 0 0] 40)).heap.size = w.heap.size + 2 := by simp
  have HZ0 := hid hz0
  clear hz0
  by_cases hE : E = 0
  · subst hE
    have hkp := hpos rfl
    rw [if_neg (by simp)] at HPE
    obtain ⟨q, o, hq, hqs, _⟩ := hA (by omega)
    subst hq
    obtain ⟨X, hX⟩ : ∃ X : Addr, X = ⟨q, o, none⟩ := ⟨_, rfl⟩
    have HXB : Hid (X.block < w.heap.size) := by rw [hX]; exact hqs
    rw [← hX] at HA hA HCL ⊢
    clear hX hqs hpos
    have HRR := hid (fun W => refCut_any s 2 3 rfl (by decide) (by omega) W)
    have hpl := parse_le (b.drop k)
    have hpb := body_le b k (parseH (b.drop k)).2.1 (parseH (b.drop k)).1 true
    have hfew := parse_few (b.drop k)
    have HSM := hid (parse_small (b.drop k) (by rw [List.length_drop]; omega))
    have HSS := hid (cut_small 2 s)
    have hcl := cut_len 2 s
    rw [List.length_drop] at hpl
    rw [resp_pad] at HPE
    generalize hn : b.length = n at hb hc hk1 hk2 hpl hpb HCL ⊢
    have HN := hid hn
    have HLK : Hid ((b.drop k).length = n - k) := by show _ = _; rw [List.length_drop, hn]
    have hsl := slI_run X n c k hk1 hc
    have HY := hid (slI_at hA hn hc k hk1)
    have HPA : Hid (∀ Y W, BytesAt W (some Y) (b.drop k) → Calls Tryz.prog 50 #[.slice (some Y) (n - k) (c - k)] W fun e w' => ∃ v, e = .returned (.tuple #[v, .int .i64 (parseH (b.drop k)).2.1, .int .i64 (parseH (b.drop k)).2.2]) ∧ OwnH w' W.heap.size v (parseH (b.drop k)).1 ∧ Below W.heap.size W w') := fun Y W h2 => by
      have := refParse_any (b.drop k) (some Y) (c - k) (by rw [HLK.out]; omega) (by rw [HLK.out]; omega) W h2
      rwa [HLK.out] at this
    generalize (if c = k then X else X.add k) = Y at hsl HY
    generalize hQ : parseH (b.drop k) = Q at HPE hpl hpb hfew HSM HPA
    obtain ⟨q1, q2, q3⟩ := Q
    simp only at HPE hpl hpb hfew HSM HPA
    have hm : k + q2 ≤ n := by omega
    have hsl2 := slI_run X n c (k + q2) hm hc
    rw [show ((k + q2 : Nat) : Int) = (k : Int) + (q2 : Int) from by omega] at hsl2
    have HZ := hid (slI_at hA hn hc (k + q2) hm)
    have HZB : Hid ((if c = k + q2 then X else X.add (k + q2)).block = X.block) := by show _ = _; split <;> first | rfl | exact add_block _ _
    generalize (if c = k + q2 then X else X.add (k + q2)) = Z at hsl2 HZ HZB
    have HLK2 : Hid ((b.drop (k + q2)).length = n - (k + q2)) := by show _ = _; rw [List.length_drop, hn]
    have HRB : Hid (∀ A cA W, HdsAt W A q1 → BytesAt W (some Z) (b.drop (k + q2)) → Calls Tryz.prog 51 #[.slice (some Z) (n - (k + q2)) (c - (k + q2)), .slice A q1.length cA, .bool true] W fun e w' => ∃ A' c', e = .returned (.tuple #[.slice A' (bodyM (b.drop (k + q2)) q1 true).1.length c', .int .i64 (bodyM (b.drop (k + q2)) q1 true).2.1, .int .i64 (bodyM (b.drop (k + q2)) q1 true).2.2]) ∧ BytesAt w' A' (bodyM (b.drop (k + q2)) q1 true).1 ∧ ((bodyM (b.drop (k + q2)) q1 true).1.length = 0 → A' = none ∧ c' = 0 ∨ ∃ x, A' = some x) ∧ (∀ x, A' = some x → x.block = Z.block ∨ W.heap.size ≤ x.block) ∧ Below W.heap.size W w') := fun A cA W h2 h3 => by
      have := refBody_any (b.drop (k + q2)) q1 true Z (c - (k + q2)) A cA (by omega) HSM.out (by rw [HLK2.out]; omega) (by rw [HLK2.out]; omega) W h2 h3
      rwa [HLK2.out] at this
    generalize bodyM (b.drop (k + q2)) q1 true = D at HRB HPE hpb
    obtain ⟨d1, d2, d3⟩ := D
    simp only at HRB HPE hpb
    clear hA hQ hn HSM HLK HLK2
    generalize n - k = n1 at hsl HPA
    generalize c - k = c1 at hsl HPA
    generalize n - (k + q2) = n2 at hsl2 HRB
    generalize c - (k + q2) = c2 at hsl2 HRB
    have HG1 : Hid ((cutM 2 s).getD 1 [] = (cutM 2 s ++ [[]]).getD 1 []) := (getD_pad _ _).symm
    have HG2 : Hid ((cutM 2 s).getD 2 [] = (cutM 2 s ++ [[]]).getD 2 []) := (getD_pad _ _).symm
    rw [HG1.out, HG2.out] at HPE
    have HSP : Hid (∀ j, ((cutM 2 s ++ [[]]).getD j []).length ≤ 1000000) := fun j => by
      rw [getD_pad]
      by_cases hj : j < (cutM 2 s).length
      · have := HSS.out ((cutM 2 s).getD j []) (by rw [List.getD_eq_getElem?_getD, List.getElem?_eq_getElem hj]; exact List.getElem_mem hj)
        omega
      · rw [List.getD_eq_getElem?_getD, List.getElem?_eq_none (by omega)]; simp
    clear HG1 HG2 HSS
    generalize cutM 2 s = L at HRR HPE HSP hcl
    generalize asS s = SS at HCL HRR
    go_enter Tryz.func24, Tryz.ntmps24
    go_wp2_with (first
      | (refine store_msg info40 rfl _ _ rfl (w.heap.size + 1) (.int .i64 0) (.string ⟨#[]⟩) (.slice none 0 0) (.slice none 0 0) rfl rfl rfl rfl rfl rfl _ HZ2.out rfl ?_)
      | fail)
    intro W1 ho1 hr1
    replace HZ1 := hid (ho1.kept (by omega) HZ1.out)
    replace HZ2 := hid hr1
    replace HB0 := hid (HB0.out.trans (ho1.below (by omega)))
    have hs1 : W1.heap.size = w.heap.size + 2 := by rw [ho1.size]; exact HZ0.out
    clear ho1 hr1 HZ0
    have HS1 := hid hs1
    clear hs1
    go_wp2_with fail
    refine (HCL.out _ (HA.out.below HB0.out (Nat.le_refl _))).mono ?_
    rintro e W1 ⟨rfl, rfl⟩
    clear HCL
    go_wp2_with fail
    refine (HRR.out _).mono ?_
    rintro e W2 ⟨v2, rfl, ho2, hb2⟩
    obtain ⟨AV, cv, hsh⟩ := ho2.shape
    subst hsh
    have HO2 := hid (ho2.below (alloc_below (Below.refl _ W2) (Nat.le_refl _) (.cells #[.string ⟨#[]⟩] 9)))
    have HB2 := hid (alloc_below hb2 hb2.size (.cells #[.string ⟨#[]⟩] 9))
    have HSR := hid (src_st W2 [] ⟨#[]⟩ rfl 1)
    have HLE : Hid (L.length + [([] : List UInt8)].length ≤ 1000000) := by show _ ≤ _; rw [hcl]; simp; omega
    clear ho2 hb2 hcl HRR
    go_wp2_with (first
      | (refine wpList_st rfl _ _ rfl W1.heap.size _ _ L [[]] rfl rfl HO2.out HSR.out (by simp) HLE.out HB2.out.size ?_)
      | fail)
    intro v3 W3 ho3 hb3
    have HB13 := hid (HB2.out.trans hb3)
    have hs3 : w.heap.size + 2 ≤ W3.heap.size := by have h1 := HB13.out.size; have h2 := HS1.out; omega
    have HR3 := hid (row_keep HB13.out HZ1.out)
    have HN3 := hid (row_keep HB13.out HZ2.out)
    have HB3 := hid (HB0.out.trans (HB13.out.mono (by have h2 := HS1.out; omega)))
    obtain ⟨A2, cL, rfl, hat2⟩ := ho3.strs
    have hlp : 0 < (L ++ [[]]).length := by rw [List.length_append, List.length_singleton]; omega
    obtain ⟨qs, os, hqa, hqb, hcs⟩ := hat2 hlp
    subst hqa
    have HCS := hid hcs
    have HQB := hid hqb
    clear hb3 HZ1 HZ2 HB0 ho3 hat2 HO2 HB2 HSR HLE HB13 HS1 hcs hqb hlp
    generalize L ++ [[]] = LL at HPE HSP HCS ⊢
    generalize hln : LL.length = ln at HPE HCS ⊢
    generalize hp0 : LL.getD 0 [] = p0 at HPE
    generalize hp1 : LL.getD 1 [] = p1 at HPE
    generalize hp2 : LL.getD 2 [] = p2 at HPE
    have s1 : p1.length ≤ 1000000 := by rw [← hp1]; exact HSP.out 1
    have s2 : p2.length ≤ 1000000 := by rw [← hp2]; exact HSP.out 2
    have HR0 : Hid (3 ≤ ln → W3.cell? ⟨qs, os, none⟩ = some (.string (asS p0)) ∧ W3.cell? ⟨qs, os + 1, none⟩ = some (.string (asS p1)) ∧ W3.cell? ⟨qs, os + 2, none⟩ = some (.string (asS p2))) := fun h => by
      have r0 := HCS.out 0 (by omega)
      have r1 := HCS.out 1 (by omega)
      have r2 := HCS.out 2 (by omega)
      rw [hp0, Nat.add_zero] at r0
      rw [hp1] at r1
      rw [hp2] at r2
      exact ⟨r0, r1, r2⟩
    obtain ⟨nk, hnk⟩ : ∃ nk, nk = !(decide (3 ≤ ln) && decide (p0 = [72, 84, 84, 80, 47, 49, 46, 49]) && decide (p1.length = 3) && btw 48 57 p1 && decide (49 ≤ (p1.getD 0 0).toNat ∧ (p1.getD 0 0).toNat ≤ 53) && decide (p2.length ≤ 128) && btw 32 126 p2) := ⟨_, rfl⟩
    have HNK := hid hnk
    have HPE1 : Hid (PR = if nk then (noResp, 0, 5) else if q3 ≠ 0 then (noResp, 0, q3) else if bareM (statV p1) then (⟨statV p1, p2, q1, []⟩, k + q2, 0) else if d3 ≠ 0 then (noResp, 0, d3) else (⟨statV p1, p2, q1, d1⟩, k + q2 + d2, 0)) := by
      show _ = _
      rw [HPE.out, hnk]
      show (if (decide (3 ≤ ln) && decide (p0 = [72, 84, 84, 80, 47, 49, 46, 49]) && decide (p1.length = 3) && btw 48 57 p1 && decide (49 ≤ (p1.getD 0 0).toNat ∧ (p1.getD 0 0).toNat ≤ 53) && decide (p2.length ≤ 128) && btw 32 126 p2) = false then _ else _) = _
      cases (decide (3 ≤ ln) && decide (p0 = [72, 84, 84, 80, 47, 49, 46, 49]) && decide (p1.length = 3) && btw 48 57 p1 && decide (49 ≤ (p1.getD 0 0).toNat ∧ (p1.getD 0 0).toNat ≤ 53) && decide (p2.length ≤ 128) && btw 32 126 p2) <;> rfl
    have HGD : Hid (nk = false → 3 ≤ ln ∧ p1.length = 3 ∧ btw 48 57 p1 = true) := fun h => by
      rw [hnk] at h
      simp only [Bool.not_eq_false', Bool.and_eq_true, decide_eq_true_eq] at h
      exact ⟨h.1.1.1.1.1.1, h.1.1.1.1.2, h.1.1.1.2⟩
    have HIX := hid (fun j h W => str_ix (asS p1) j h W)
    rw [asS_data] at HIX
    have z1 : (asS p1).size = p1.length := asS_size p1
    have z2 : (asS p2).size = p2.length := asS_size p2
    have q0 := tl_eq p0 [72, 84, 84, 80, 47, 49, 46, 49]
    have HBT1 := hid (fun W => between_any p1 48 57 48 57 rfl rfl (by omega) W)
    have HBT2 := hid (fun W => between_any p2 32 126 32 126 rfl rfl (by omega) W)
    have HE2 : Hid (asS p2 = asS p2) := rfl
    generalize hP1 : asS p1 = P1 at HBT1 z1 HIX HR0
    generalize hP2 : asS p2 = P2 at HBT2 z2 HR0
    generalize asS p0 = P0 at HR0 q0
    replace HE2 : Hid (asS p2 = P2) := hP2
    have HZ1 := hid z1
    have HZ2 := hid z2
    have HQ0 := hid q0
    clear HPE hnk hP1 hP2 hp0 hp1 hp2 hln HCS HSP z1 z2 q0
    go_upto_region 6 with (fail)
    go_cut [80] (fun v wx => v = .bool nk ∧ wx = W3)
    case first => as_aux_lemma =>
      have z1 := HZ1.out
      have z2 := HZ2.out
      have q0 := HQ0.out
      clear HPE1 HGD HPA HRB hsl hsl2 HY HZ
      by_cases h3 : ¬ 3 ≤ ln
      · obtain rfl : nk = true := by rw [HNK.out, decide_eq_false h3]; simp
        have h3i : (ln : Int) < 3 := by omega
        clear h3
        go_wp2_with fail
        go_meet
        case rel => exact ⟨rfl, rfl⟩
      replace h3 : 3 ≤ ln := Decidable.of_not_not h3
      have h3i : ¬ (ln : Int) < 3 := by omega
      have l0 : (0 : Int) < (ln : Int) := by omega
      have l1 : (1 : Int) < (ln : Int) := by omega
      have l2 : (2 : Int) < (ln : Int) := by omega
      obtain ⟨r0, r1, r2⟩ := HR0.out h3
      have k0 := loadS_cell r0
      have k1 := loadS_cell r1
      have k2 := loadS_cell r2
      rw [decide_eq_true h3] at HNK
      clear r0 r1 r2 h3
      generalize decide (p0 = [72, 84, 84, 80, 47, 49, 46, 49]) = vb at q0 HNK
      cases vb
      · obtain rfl : nk = true := by rw [HNK.out]; simp
        go_wp2_with fail
        go_meet
        case rel => exact ⟨rfl, rfl⟩
      by_cases h4 : ¬ p1.length = 3
      · obtain rfl : nk = true := by rw [HNK.out, decide_eq_false h4]; simp
        have h4i : ((P1.size : Int) == 3) = false := by rw [beq_eq_false_iff_ne]; omega
        have h4j : ¬ (P1.size : Int) = 3 := by omega
        clear h4 z1
        go_wp2_with fail
        go_meet
        case rel => exact ⟨rfl, rfl⟩
      replace h4 : p1.length = 3 := Decidable.of_not_not h4
      rw [decide_eq_true h4] at HNK
      have h4i : ((P1.size : Int) == 3) = true := by rw [z1, h4]; rfl
      have h4j : (P1.size : Int) = 3 := by omega
      have hx0 := HIX.out 0 (by omega)
      have hix0 : ∀ W, (Instr.index 9 (.string P1) (.int .i64 0)).run Tryz.prog W = .ok (.int .u8 ((p1.getD 0 0).toNat : Int)) W := hx0
      clear hx0 HIX h4 z1
      cases hb4 : btw 48 57 p1 with
      | false =>
        obtain rfl : nk = true := by rw [HNK.out, hb4]; simp
        rw [hb4] at HBT1
        clear hb4
        go_wp2_with fail
        refine (HBT1.out _).mono ?_
        rintro e W3 ⟨rfl, rfl⟩
        go_wp2_with fail
        go_meet
        case rel => exact ⟨rfl, rfl⟩
      | true =>
        rw [hb4] at HBT1 HNK
        clear hb4
        generalize (p1.getD 0 0).toNat = y0 at hix0 HNK
        by_cases h5 : (y0 : Int) < 49
        · obtain rfl : nk = true := by rw [HNK.out, decide_eq_false (by omega)]; simp
          go_wp2_with fail
          refine (HBT1.out _).mono ?_
          rintro e W3 ⟨rfl, rfl⟩
          go_wp2_with fail
          go_meet
          case rel => exact ⟨rfl, rfl⟩
        by_cases h6 : (53 : Int) < (y0 : Int)
        · obtain rfl : nk = true := by rw [HNK.out, decide_eq_false (by omega)]; simp
          go_wp2_with fail
          refine (HBT1.out _).mono ?_
          rintro e W3 ⟨rfl, rfl⟩
          go_wp2_with fail
          go_meet
          case rel => exact ⟨rfl, rfl⟩
        rw [decide_eq_true (by omega : 49 ≤ y0 ∧ y0 ≤ 53)] at HNK
        by_cases h7 : 128 < p2.length
        · obtain rfl : nk = true := by rw [HNK.out, decide_eq_false (by omega)]; simp
          have h7i : (128 : Int) < (P2.size : Int) := by omega
          clear h7 z2
          go_wp2_with fail
          refine (HBT1.out _).mono ?_
          rintro e W3 ⟨rfl, rfl⟩
          go_wp2_with fail
          go_meet
          case rel => exact ⟨rfl, rfl⟩
        have h7i : ¬ (128 : Int) < (P2.size : Int) := by omega
        rw [decide_eq_true (by omega : p2.length ≤ 128)] at HNK
        clear h7 z2
        cases hb8 : btw 32 126 p2 with
        | false =>
          obtain rfl : nk = true := by rw [HNK.out, hb8]; simp
          rw [hb8] at HBT2
          clear hb8
          go_wp2_with fail
          refine (HBT1.out _).mono ?_
          rintro e W3 ⟨rfl, rfl⟩
          go_wp2_with fail
          refine (HBT2.out _).mono ?_
          rintro e W3 ⟨rfl, rfl⟩
          go_wp2_with fail
          go_meet
          case rel => exact ⟨rfl, rfl⟩
        | true =>
          obtain rfl : nk = false := by rw [HNK.out, hb8]; rfl
          rw [hb8] at HBT2
          clear hb8
          go_wp2_with fail
          refine (HBT1.out _).mono ?_
          rintro e W3 ⟨rfl, rfl⟩
          go_wp2_with fail
          refine (HBT2.out _).mono ?_
          rintro e W3 ⟨rfl, rfl⟩
          go_wp2_with fail
          go_meet
          case rel => exact ⟨by rw [decide_eq_false (by omega : ¬ (y0 : Int) < 49), decide_eq_false (by omega : ¬ (53 : Int) < (y0 : Int)), decide_eq_false (by omega : ¬ (128 : Int) < (P2.size : Int))]; rfl, rfl⟩
    case rest => as_aux_lemma =>
      obtain ⟨rfl, hwc⟩ := hcut
      subst hwc
      obtain ⟨W3, hW3⟩ : ∃ W3, W3 = wc := ⟨_, rfl⟩
      subst hW3
      clear HNK HBT1 HBT2 HQ0 HZ2
      cases nk with
      | true =>
        have HPX : Hid (PR = (noResp, 0, 5)) := by show _ = _; rw [HPE1.out]; rfl
        go_wp2_with (first
          | (refine load_msg rfl _ rfl (w.heap.size + 1) _ rfl (load40 HN3.out rfl) ?_)
          | (refine store_msg info40 rfl _ _ rfl w.heap.size (.int .i64 0) (.string ⟨#[]⟩) (.slice none 0 0) (.slice none 0 0) rfl rfl rfl rfl rfl rfl _ HR3.out rfl ?_)
          | fail)
        intro W9 ho9 hr9
        have HO9 := hid ho9
        have HR9 := hid hr9
        clear ho9 hr9
        go_wp2_with fail
        exact bodyPost_ret (ret_msg3 (p := 2) (q := 3) (r := 4) Tryz.results24 _ _ w.heap.size _ _ _ rfl rfl rfl (load40 HR9.out rfl)) rfl ⟨.slice none 0 0, .slice none 0 0, by rw [HPX.out]; rfl, by rw [HPX.out]; exact HdsV.nil _, by rw [HPX.out]; exact BtV.nil _, HB3.out.trans (HO9.out.below (Nat.le_refl _))⟩
      | false =>
        obtain ⟨g1, g2, g3⟩ := HGD.out rfl
        have HPE2 : Hid (PR = if q3 ≠ 0 then (noResp, 0, q3) else if bareM (statV p1) then (⟨statV p1, p2, q1, []⟩, k + q2, 0) else if d3 ≠ 0 then (noResp, 0, d3) else (⟨statV p1, p2, q1, d1⟩, k + q2 + d2, 0)) := by show _ = _; rw [HPE1.out]; rfl
        obtain ⟨_, r1, r2⟩ := HR0.out g1
        have HK1 := hid r1
        have HK2 := hid r2
        have hz1 := HZ1.out
        have l1 : (1 : Int) < (ln : Int) := by omega
        have l2 : (2 : Int) < (ln : Int) := by omega
        have b0 := dig_rng p1 g3 0 (by omega)
        have b1 := dig_rng p1 g3 1 (by omega)
        have b2 := dig_rng p1 g3 2 (by omega)
        have hx0 := HIX.out 0 (by omega)
        have hx1 := HIX.out 1 (by omega)
        have hx2 := HIX.out 2 (by omega)
        have hix0 : ∀ W, (Instr.index 9 (.string P1) (.int .i64 0)).run Tryz.prog W = .ok (.int .u8 ((p1.getD 0 0).toNat : Int)) W := hx0
        have hix1 : ∀ W, (Instr.index 9 (.string P1) (.int .i64 1)).run Tryz.prog W = .ok (.int .u8 ((p1.getD 1 0).toNat : Int)) W := hx1
        have hix2 : ∀ W, (Instr.index 9 (.string P1) (.int .i64 2)).run Tryz.prog W = .ok (.int .u8 ((p1.getD 2 0).toNat : Int)) W := hx2
        obtain ⟨a0, y0⟩ : ∃ a0, (p1.getD 0 0).toNat = a0 + 48 := ⟨(p1.getD 0 0).toNat - 48, by omega⟩
        obtain ⟨a1, y1⟩ : ∃ a1, (p1.getD 1 0).toNat = a1 + 48 := ⟨(p1.getD 1 0).toNat - 48, by omega⟩
        obtain ⟨a2, y2⟩ : ∃ a2, (p1.getD 2 0).toNat = a2 + 48 := ⟨(p1.getD 2 0).toNat - 48, by omega⟩
        have HSV : Hid (statV p1 = a0 * 100 + a1 * 10 + a2) := by
          show digV (p1.getD 0 0) * 100 + digV (p1.getD 1 0) * 10 + digV (p1.getD 2 0) = _
          unfold digV
          omega
        rw [y0] at hix0
        rw [y1] at hix1
        rw [y2] at hix2
        have e0 : ((a0 + 48 : Nat) : Int) - 48 = (a0 : Int) := by omega
        have e1 : ((a1 + 48 : Nat) : Int) - 48 = (a1 : Int) := by omega
        have e2 : ((a2 + 48 : Nat) : Int) - 48 = (a2 : Int) := by omega
        have x0 : (a0 : Int) ≤ 9 := by omega
        have x1 : (a1 : Int) ≤ 9 := by omega
        have x2 : (a2 : Int) ≤ 9 := by omega
        clear hx0 hx1 hx2 b0 b1 b2 y0 y1 y2 r1 r2 g1 g2 g3 HGD HPE1 HR0 hz1 HZ1 HIX
        generalize statV p1 = st at HPE2 HSV
        have HSTI : Hid ((a0 : Int) * 100 + (a1 : Int) * 10 + (a2 : Int) = (st : Int)) := by show _ = _; rw [HSV.out]; omega
        go_upto_region 8 with (fail)
        go_cut [10] (fun v wx => v = .pointer (some ⟨W3.heap.size, 0, none⟩) ∧ Hid (Below W3.heap.size W3 wx) ∧ Hid (wx.heap[W3.heap.size]? = some (.cells #[.int .i64 (st : Int), .string P2, .slice none 0 0, .slice none 0 0] 40 (0, 0))) ∧ Hid (wx.heap.size = W3.heap.size + 1))
        case first => as_aux_lemma =>
          clear HPE2 HPA HRB hsl hsl2 HY HZ
          have HZd : Hid ((W3.alloc (.cells #[.int .i64 0, .string ⟨#[]⟩, .slice none 0 0, .slice none 0 0] 40)).drew.heap[W3.heap.size]? = some (.cells #[.int .i64 0, .string ⟨#[]⟩, .slice none 0 0, .slice none 0 0] 40 (0, 0))) := heap_alloc_new W3 (.cells #[.int .i64 0, .string ⟨#[]⟩, .slice none 0 0, .slice none 0 0] 40)
          have HAB : Hid (Below W3.heap.size W3 (W3.alloc (.cells #[.int .i64 0, .string ⟨#[]⟩, .slice none 0 0, .slice none 0 0] 40)).drew) := (alloc_below (Below.refl _ W3) (Nat.le_refl _) (.cells #[.int .i64 0, .string ⟨#[]⟩, .slice none 0 0, .slice none 0 0] 40)).drew
          have m1 : (loadI 9 (.pointer (some ⟨qs, os + 1, none⟩))).run Tryz.prog W3.drew = .ok (.string P1) W3.drew := loadS_cell HK1.out
          have m2 : (loadI 9 (.pointer (some ⟨qs, os + 2, none⟩))).run Tryz.prog W3.drew = .ok (.string P2) W3.drew := loadS_cell HK2.out
          have n1' : (loadI 9 (.pointer (some ⟨qs, os + 1, none⟩))).run Tryz.prog (W3.alloc (.cells #[.int .i64 0, .string ⟨#[]⟩, .slice none 0 0, .slice none 0 0] 40)).drew = .ok (.string P1) (W3.alloc (.cells #[.int .i64 0, .string ⟨#[]⟩, .slice none 0 0, .slice none 0 0] 40)).drew := loadS_cell ((HAB.out.cell (p := ⟨qs, os + 1, none⟩) HQB.out).trans HK1.out)
          have n2' : (loadI 9 (.pointer (some ⟨qs, os + 2, none⟩))).run Tryz.prog (W3.alloc (.cells #[.int .i64 0, .string ⟨#[]⟩, .slice none 0 0, .slice none 0 0] 40)).drew = .ok (.string P2) (W3.alloc (.cells #[.int .i64 0, .string ⟨#[]⟩, .slice none 0 0, .slice none 0 0] 40)).drew := loadS_cell ((HAB.out.cell (p := ⟨qs, os + 2, none⟩) HQB.out).trans HK2.out)
          have stq := storeM_row info40 (.int .i64 ((a0 : Int) * 100 + (a1 : Int) * 10 + (a2 : Int))) (.string P2) (.slice none 0 0) (.slice none 0 0) rfl rfl rfl rfl HZd.out rfl
          have HB9 : Hid (Below W3.heap.size W3 (putM (W3.alloc (.cells #[.int .i64 0, .string ⟨#[]⟩, .slice none 0 0, .slice none 0 0] 40)).drew W3.heap.size #[.int .i64 ((a0 : Int) * 100 + (a1 : Int) * 10 + (a2 : Int)), .string P2, .slice none 0 0, .slice none 0 0])) := HAB.out.trans ((putM_only _ _ _).below (Nat.le_refl _))
          have HG9 := hid (putM_row (cs' := #[.int .i64 ((a0 : Int) * 100 + (a1 : Int) * 10 + (a2 : Int)), .string P2, .slice none 0 0, .slice none 0 0]) HZd.out rfl)
          have HS9 : Hid ((putM (W3.alloc (.cells #[.int .i64 0, .string ⟨#[]⟩, .slice none 0 0, .slice none 0 0] 40)).drew W3.heap.size #[.int .i64 ((a0 : Int) * 100 + (a1 : Int) * 10 + (a2 : Int)), .string P2, .slice none 0 0, .slice none 0 0]).heap.size = W3.heap.size + 1) := by
            show _ = _
            rw [(putM_only _ _ _).size]
            exact (by simp : (W3.alloc (.cells #[.int .i64 0, .string ⟨#[]⟩, .slice none 0 0, .slice none 0 0] 40)).heap.size = W3.heap.size + 1)
          generalize putM (W3.alloc (.cells #[.int .i64 0, .string ⟨#[]⟩, .slice none 0 0, .slice none 0 0] 40)).drew W3.heap.size #[.int .i64 ((a0 : Int) * 100 + (a1 : Int) * 10 + (a2 : Int)), .string P2, .slice none 0 0, .slice none 0 0] = W9 at stq HB9 HG9 HS9
          go_wp2_with fail
          go_region
          go_wp2_with fail
          go_meet
          case rel => exact ⟨rfl, HB9, by rw [← HSTI.out]; exact HG9, HS9⟩
        case rest => as_aux_lemma =>
          obtain ⟨rfl, HB9, HG9, HS9⟩ := hcut
          clear hix0 hix1 hix2 e0 e1 e2 x0 x1 x2 l1 l2 HK1 HK2 HQB HSTI HSV
          obtain ⟨W4, hW4⟩ : ∃ W4, W4 = wc := ⟨_, rfl⟩
          subst hW4
          have hs4 := HS9.out
          have HR4 := hid (row_keep HB9.out HR3.out)
          have HN4 := hid (row_keep HB9.out HN3.out)
          have HB4 := hid (HB3.out.trans (HB9.out.mono (by omega)))
          have hg2 : w.heap.size + 2 ≤ W3.heap.size := hs3
          generalize W3.heap.size = G at HG9 hs4 hg2 ⊢
          clear HB9 HS9 HR3 HN3 HB3 hs3
          have HBA := hid (fun W => refBare_any (st : Int) W)
          generalize bareM (st : Int) = bare at HBA HPE2
          go_wp2_with fail
          refine (HPA.out _ _ (HY.out.below HB4.out (Nat.le_refl _))).mono ?_
          rintro e W5 ⟨v5, rfl, ho5, hb5⟩
          have hs5 : G + 1 ≤ W5.heap.size := by have := hb5.size; omega
          have HR5 := hid (row_keep hb5 HR4.out)
          have HN5 := hid (row_keep hb5 HN4.out)
          have HG5 := hid (row_keep hb5 HG9.out)
          have HB5 := hid (HB4.out.trans (hb5.mono (by omega)))
          obtain ⟨A5, cA, rfl, hat5, hno5⟩ := ho5.at
          have HH5 := hid hat5
          have HNIg := hid (hno5 w.heap.size (by omega))
          have HNIG := hid (hno5 G (by omega))
          clear hb5 HR4 HN4 HG9 ho5 hat5 hno5 HPA hsl
          by_cases hq3 : q3 = 0
          · subst hq3
            rw [if_neg (by simp)] at HPE2
            generalize hLQ : q1.length = lq at HRB ⊢
            have HLQ := hid hLQ
            clear hLQ
            go_wp2_with (first
              | (refine store_part rfl 22 _ _ rfl G 2 (.slice A5 lq cA) 40 #[.int .i64 (st : Int), .string P2, .slice none 0 0, .slice none 0 0] #[.int .i64 (st : Int), .string P2, .slice A5 lq cA, .slice none 0 0] rfl rfl info22 (show 2 < 4 by decide) rfl rfl HG5.out rfl ?_)
              | fail)
            intro W6 ho6 hr6
            have hs6 : G + 1 ≤ W6.heap.size := by rw [ho6.size]; exact hs5
            have HR6 := hid (ho6.kept (by omega) HR5.out)
            have HN6 := hid (ho6.kept (by omega) HN5.out)
            have HG6 := hid hr6
            have HB6 := hid (HB5.out.trans (ho6.below (by omega)))
            have HH6 := hid (HH5.out.only HNIG.out ho6)
            have c0 : W6.cell? ⟨G, 0, none⟩ = some (.int .i64 (st : Int)) := by rw [cell_of_row _ _ _ _ _ _ hr6]; rfl
            clear ho6 hr6 HR5 HN5 HG5 HH5
            go_wp2_with fail
            refine (HBA.out _).mono ?_
            rintro e W6 ⟨rfl, rfl⟩
            clear c0
            cases bare
            · have HPE3 : Hid (PR = if d3 ≠ 0 then (noResp, 0, d3) else (⟨st, p2, q1, d1⟩, k + q2 + d2, 0)) := by show _ = _; rw [HPE2.out]; rfl
              clear HPE2
              go_wp2_with fail
              refine (HRB.out _ _ _ HH6.out (HZ.out.below HB6.out (Nat.le_refl _))).mono ?_
              rintro e W7 ⟨A7, c7, rfl, hat7, hz7, hno7, hb7⟩
              have HR7 := hid (row_keep hb7 HR6.out)
              have HN7 := hid (row_keep hb7 HN6.out)
              have HG7 := hid (row_keep hb7 HG6.out)
              have HB7 := hid (HB6.out.trans (hb7.mono (by omega)))
              have HH7 := hid (HH6.out.below hb7 (Nat.le_refl _))
              have HD7 := hid hat7
              have HZ7 := hid hz7
              have HNg : Hid (NotIn A7 w.heap.size) := fun x hx => by
                have h1 := HXB.out
                have h2 := HZB.out
                rcases hno7 x hx with h | h <;> omega
              have HNG : Hid (NotIn A7 G) := fun x hx => by
                have h1 := HXB.out
                have h2 := HZB.out
                rcases hno7 x hx with h | h <;> omega
              clear hb7 HR6 HN6 HG6 HH6 hat7 hz7 hno7 HRB hsl2
              by_cases hd3 : d3 = 0
              · subst hd3
                rw [if_neg (by simp)] at HPE3
                generalize hLD : d1.length = ld
                have HLD := hid hLD
                clear hLD
                go_wp2_with (first
                  | (refine store_part rfl 23 _ _ rfl G 3 (.slice A7 ld c7) 40 #[.int .i64 (st : Int), .string P2, .slice A5 lq cA, .slice none 0 0] #[.int .i64 (st : Int), .string P2, .slice A5 lq cA, .slice A7 ld c7] rfl rfl info23 (show 3 < 4 by decide) rfl rfl HG7.out rfl ?_)
                  | fail)
                intro W8 ho8 hr8
                have HR8 := hid (ho8.kept (by omega) HR7.out)
                have HG8 := hid hr8
                have HO8 := hid ho8
                have HB8 := hid (HB7.out.trans (ho8.below (by omega)))
                clear ho8 hr8
                go_wp2_with (first
                  | (refine load_msg rfl _ rfl G _ rfl (load40 HG8.out rfl) ?_)
                  | (refine store_msg info40 rfl _ _ rfl w.heap.size (.int .i64 (st : Int)) (.string P2) (.slice A5 lq cA) (.slice A7 ld c7) rfl rfl rfl rfl rfl rfl _ HR8.out rfl ?_)
                  | fail)
                intro W9 ho9 hr9
                have HO9 := hid ho9
                have HR9 := hid hr9
                clear ho9 hr9
                go_wp2_with fail
                refine bodyPost_ret (ret_msg3 (p := 2) (q := 3) (r := 4) Tryz.results24 _ _ w.heap.size _ _ _ rfl rfl rfl (load40 HR9.out rfl)) rfl ⟨.slice A5 lq cA, .slice A7 ld c7, ?_, ?_, ?_, HB8.out.trans (HO9.out.below (Nat.le_refl _))⟩
                · rw [HPE3.out, ← HE2.out]
                  show Ending.returned (Value.tuple #[_, Value.int IntKind.i64 ((k : Int) + (q2 : Int) + (d2 : Int)), Value.int IntKind.i64 0]) = _
                  rw [show (k : Int) + (q2 : Int) + (d2 : Int) = ((k + q2 + d2 : Nat) : Int) from by omega]
                · rw [HPE3.out]
                  exact ⟨A5, cA, by rw [HLQ.out], (HH7.out.only HNIG.out HO8.out).only HNIg.out HO9.out⟩
                · rw [HPE3.out]
                  exact ⟨A7, c7, by rw [HLD.out], (HD7.out.only HNG.out HO8.out).only HNg.out HO9.out, HZ7.out⟩
              · rw [if_pos hd3] at HPE3
                have HPX := HPE3
                have hd9 : (d3 == 0) = false := beq_eq_false_iff_ne.2 hd3
                clear hd3
                go_wp2_with (first
                  | (refine load_msg rfl _ rfl (w.heap.size + 1) _ rfl (load40 HN7.out rfl) ?_)
                  | (refine store_msg info40 rfl _ _ rfl w.heap.size (.int .i64 0) (.string ⟨#[]⟩) (.slice none 0 0) (.slice none 0 0) rfl rfl rfl rfl rfl rfl _ HR7.out rfl ?_)
                  | fail)
                intro W9 ho9 hr9
                have HO9 := hid ho9
                have HR9 := hid hr9
                clear ho9 hr9
                go_wp2_with fail
                exact bodyPost_ret (ret_msg3 (p := 2) (q := 3) (r := 4) Tryz.results24 _ _ w.heap.size _ _ _ rfl rfl rfl (load40 HR9.out rfl)) rfl ⟨.slice none 0 0, .slice none 0 0, by rw [HPX.out]; rfl, by rw [HPX.out]; exact HdsV.nil _, by rw [HPX.out]; exact BtV.nil _, HB7.out.trans (HO9.out.below (Nat.le_refl _))⟩
            · have HPX : Hid (PR = (⟨st, p2, q1, []⟩, k + q2, 0)) := by show _ = _; rw [HPE2.out]; rfl
              go_wp2_with (first
                | (refine load_msg rfl _ rfl G _ rfl (load40 HG6.out rfl) ?_)
                | (refine store_msg info40 rfl _ _ rfl w.heap.size (.int .i64 (st : Int)) (.string P2) (.slice A5 lq cA) (.slice none 0 0) rfl rfl rfl rfl rfl rfl _ HR6.out rfl ?_)
                | fail)
              intro W9 ho9 hr9
              have HO9 := hid ho9
              have HR9 := hid hr9
              clear ho9 hr9
              go_wp2_with fail
              refine bodyPost_ret (ret_msg3 (p := 2) (q := 3) (r := 4) Tryz.results24 _ _ w.heap.size _ _ _ rfl rfl rfl (load40 HR9.out rfl)) rfl ⟨.slice A5 lq cA, .slice none 0 0, ?_, ?_, ?_, HB6.out.trans (HO9.out.below (Nat.le_refl _))⟩
              · rw [HPX.out, ← HE2.out]
                show Ending.returned (Value.tuple #[_, Value.int IntKind.i64 ((k : Int) + (q2 : Int)), Value.int IntKind.i64 0]) = _
                rw [show (k : Int) + (q2 : Int) = ((k + q2 : Nat) : Int) from by omega]
              · rw [HPX.out]
                exact ⟨A5, cA, by rw [HLQ.out], HH6.out.only HNIg.out HO9.out⟩
              · rw [HPX.out]
                exact BtV.nil _
          · rw [if_pos hq3] at HPE2
            have HPX := HPE2
            have hq9 : (q3 == 0) = false := beq_eq_false_iff_ne.2 hq3
            clear hq3
            go_wp2_with (first
              | (refine load_msg rfl _ rfl (w.heap.size + 1) _ rfl (load40 HN5.out rfl) ?_)
              | (refine store_msg info40 rfl _ _ rfl w.heap.size (.int .i64 0) (.string ⟨#[]⟩) (.slice none 0 0) (.slice none 0 0) rfl rfl rfl rfl rfl rfl _ HR5.out rfl ?_)
              | fail)
            intro W9 ho9 hr9
            have HO9 := hid ho9
            have HR9 := hid hr9
            clear ho9 hr9
            go_wp2_with fail
            exact bodyPost_ret (ret_msg3 (p := 2) (q := 3) (r := 4) Tryz.results24 _ _ w.heap.size _ _ _ rfl rfl rfl (load40 HR9.out rfl)) rfl ⟨.slice none 0 0, .slice none 0 0, by rw [HPX.out]; rfl, by rw [HPX.out]; exact HdsV.nil _, by rw [HPX.out]; exact BtV.nil _, HB5.out.trans (HO9.out.below (Nat.le_refl _))⟩
  · rw [if_pos hE] at HPE
    have HPX := HPE
    have hE9 : (E == 0) = false := beq_eq_false_iff_ne.2 hE
    generalize b.length = n at HCL ⊢
    generalize asS s = SS at HCL
    clear hE hpos
    go_enter Tryz.func24, Tryz.ntmps24
    go_wp2_with (first
      | (refine store_msg info40 rfl _ _ rfl (w.heap.size + 1) (.int .i64 0) (.string ⟨#[]⟩) (.slice none 0 0) (.slice none 0 0) rfl rfl rfl rfl rfl rfl _ HZ2.out rfl ?_)
      | fail)
    intro W1 ho1 hr1
    replace HZ1 := hid (ho1.kept (by omega) HZ1.out)
    replace HZ2 := hid hr1
    replace HB0 := hid (HB0.out.trans (ho1.below (by omega)))
    clear ho1 hr1 HZ0
    go_wp2_with fail
    refine (HCL.out _ (HA.out.below HB0.out (Nat.le_refl _))).mono ?_
    rintro e W1 ⟨rfl, rfl⟩
    clear HCL
    go_wp2_with (first
      | (refine load_msg rfl _ rfl (w.heap.size + 1) _ rfl (load40 HZ2.out rfl) ?_)
      | (refine store_msg info40 rfl _ _ rfl w.heap.size (.int .i64 0) (.string ⟨#[]⟩) (.slice none 0 0) (.slice none 0 0) rfl rfl rfl rfl rfl rfl _ HZ1.out rfl ?_)
      | fail)
    intro W9 ho9 hr9
    have HO9 := hid ho9
    have HR9 := hid hr9
    clear ho9 hr9
    go_wp2_with fail
    exact bodyPost_ret (ret_msg3 (p := 2) (q := 3) (r := 4) Tryz.results24 _ _ w.heap.size _ _ _ rfl rfl rfl (load40 HR9.out rfl)) rfl ⟨.slice none 0 0, .slice none 0 0, by rw [HPX.out]; rfl, by rw [HPX.out]; exact HdsV.nil _, by rw [HPX.out]; exact BtV.nil _, HB0.out.trans (HO9.out.below (Nat.le_refl _))⟩
end Go.Proofs.YtclonnpglikddaaGreatDoor
