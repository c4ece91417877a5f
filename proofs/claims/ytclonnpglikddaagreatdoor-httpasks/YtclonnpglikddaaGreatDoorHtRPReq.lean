
/- A request at the beginning of bytes: what ParseRequest of the reference does. -/
import Derived.Test.YtclonnpglikddaaGreatDoorHtRBody
import Derived.Test.YtclonnpglikddaaGreatDoorHtRLine
import Derived.Test.YtclonnpglikddaaGreatDoorHtRCut
namespace Go.Proofs.YtclonnpglikddaaGreatDoor
set_option linter.unusedVariables false
set_option linter.unusedSimpArgs false
open Go.RowKit Go.BigFrame
attribute [local go_sem ↓] slI_eq loadS_eq store25_eq

set_option maxHeartbeats 4000000 in
set_option maxRecDepth 100000 in
theorem refParseReq_any (b : List UInt8) (A : Option Addr) (c : Nat) (hb : b.length ≤ 900000) (hc : b.length ≤ c) (w : World) (hA : BytesAt w A b) : Calls Tryz.prog 23 #[.slice A b.length c] w fun e w' => ∃ vh vb, e = .returned (.tuple #[.agg #[.string (asS (parseReq b).1.method), .string (asS (parseReq b).1.target), vh, vb], .int .i64 (parseReq b).2.1, .int .i64 (parseReq b).2.2]) ∧ HdsV w' vh (parseReq b).1.hds ∧ BtV w' vb (parseReq b).1.body ∧ Below w.heap.size w w' := by
  have HA := hid hA
  have HCL := hid (fun W hX => refLine_any b A c (by omega) hc W hX)
  obtain ⟨hk1, hk2⟩ := line_le b
  have hpos := line_pos b
  have HPE : Hid (parseReq b = if (lineM b).2.2 ≠ 0 then (noReq, 0, (lineM b).2.2) else if okReq (cutM 8 (lineM b).1) = false then (noReq, 0, 5) else if (parseH (b.drop (lineM b).2.1)).2.2 ≠ 0 then (noReq, 0, (parseH (b.drop (lineM b).2.1)).2.2) else if (bodyM (b.drop ((lineM b).2.1 + (parseH (b.drop (lineM b).2.1)).2.1)) (parseH (b.drop (lineM b).2.1)).1 false).2.2 ≠ 0 then (noReq, 0, (bodyM (b.drop ((lineM b).2.1 + (parseH (b.drop (lineM b).2.1)).2.1)) (parseH (b.drop (lineM b).2.1)).1 false).2.2) else (⟨(cutM 8 (lineM b).1).getD 0 [], (cutM 8 (lineM b).1).getD 1 [], (parseH (b.drop (lineM b).2.1)).1, (bodyM (b.drop ((lineM b).2.1 + (parseH (b.drop (lineM b).2.1)).2.1)) (parseH (b.drop (lineM b).2.1)).1 false).1⟩, (lineM b).2.1 + (parseH (b.drop (lineM b).2.1)).2.1 + (bodyM (b.drop ((lineM b).2.1 + (parseH (b.drop (lineM b).2.1)).2.1)) (parseH (b.drop (lineM b).2.1)).1 false).2.1, 0)) := rfl
  generalize parseReq b = PR at HPE ⊢
  generalize lineM b = LM at HCL HPE hk1 hk2 hpos
  obtain ⟨s, k, E⟩ := LM
  simp only at HCL HPE hk1 hk2 hpos
  have HZ1 := hid (heap_first w (.cells #[.string ⟨#[]⟩, .string ⟨#[]⟩, .slice none 0 0, .slice none 0 0] 25) (.cells #[.string ⟨#[]⟩, .string ⟨#[]⟩, .slice none 0 0, .slice none 0 0] 25))
  have HZ2 := hid (heap_second w (.cells #[.string ⟨#[]⟩, .string ⟨#[]⟩, .slice none 0 0, .slice none 0 0] 25) (.cells #[.string ⟨#[]⟩, .string ⟨#[]⟩, .slice none 0 0, .slice none 0 0] 25))
  have HB0 := hid (alloc_below (alloc_below (Below.refl w.heap.size w) (Nat.le_refl _) (.cells #[.string ⟨#[]⟩, .string ⟨#[]⟩, .slice none 0 0, .slice none 0 0] 25)) (by simp) (.cells #[.string ⟨#[]⟩, .string ⟨#[]⟩, .slice none 0 0, .slice none 0 0] 25))
  have hz0 : ((w.alloc (.cells #[.string ⟨#[]⟩, .string ⟨#[]⟩, .slice none 0 0, .slice none 0 0] 25)).alloc (.cells #[.string ⟨#[]⟩, .string ⟨#[]⟩, .slice none 0 0, .slice none 0 0] 25)).heap.size = w.heap.size + 2 := by simp
  have HZ0 := hid hz0
  clear hz0
  by_cases hE : E = 0
  · subst hE
    have hkp := hpos rfl
    rw [if_neg (by simp)] at HPE
    obtain ⟨q, o, hq, hqs, _⟩ := hA (by omega)
    subst hq
    obtain ⟨X, hX⟩ : ∃ X : Addr, X = ⟨q, o, none⟩ := ⟨_, rfl⟩
    have HXB : Hid (X.block < w.heap.size) := by rw [hX]; exact hqs
    rw [← hX] at HA hA HCL ⊢
    clear hX hqs hpos
    have HRR := hid (fun W => refCut_any s 8 9 rfl (by decide) (by omega) W)
    have hpl := parse_le (b.drop k)
    have hpb := body_le b k (parseH (b.drop k)).2.1 (parseH (b.drop k)).1 false
    have hfew := parse_few (b.drop k)
    have HSM := hid (parse_small (b.drop k) (by rw [List.length_drop]; omega))
    have HSS := hid (cut_small 8 s)
    rw [List.length_drop] at hpl
    generalize hn : b.length = n at hb hc hk1 hk2 hpl hpb HCL ⊢
    have HN := hid hn
    have HLK : Hid ((b.drop k).length = n - k) := by show _ = _; rw [List.length_drop, hn]
    have hsl := slI_run X n c k hk1 hc
    have HY := hid (slI_at hA hn hc k hk1)
    have HPA : Hid (∀ Y W, BytesAt W (some Y) (b.drop k) → Calls Tryz.prog 50 #[.slice (some Y) (n - k) (c - k)] W fun e w' => ∃ v, e = .returned (.tuple #[v, .int .i64 (parseH (b.drop k)).2.1, .int .i64 (parseH (b.drop k)).2.2]) ∧ OwnH w' W.heap.size v (parseH (b.drop k)).1 ∧ Below W.heap.size W w') := fun Y W h2 => by
      have := refParse_any (b.drop k) (some Y) (c - k) (by rw [HLK.out]; omega) (by rw [HLK.out]; omega) W h2
      rwa [HLK.out] at this
    have HYB : Hid ((if c = k then X else X.add k).block = X.block) := by show _ = _; split <;> first | rfl | exact add_block _ _
    generalize (if c = k then X else X.add k) = Y at hsl HY HYB
    generalize hQ : parseH (b.drop k) = Q at HPE hpl hpb hfew HSM HPA
    obtain ⟨q1, q2, q3⟩ := Q
    simp only at HPE hpl hpb hfew HSM HPA
    have hm : k + q2 ≤ n := by omega
    have hsl2 := slI_run X n c (k + q2) hm hc
    rw [show ((k + q2 : Nat) : Int) = (k : Int) + (q2 : Int) from by omega] at hsl2
    have HZ := hid (slI_at hA hn hc (k + q2) hm)
    have HZB : Hid ((if c = k + q2 then X else X.add (k + q2)).block = X.block) := by show _ = _; split <;> first | rfl | exact add_block _ _
    generalize (if c = k + q2 then X else X.add (k + q2)) = Z at hsl2 HZ HZB
    have HLK2 : Hid ((b.drop (k + q2)).length = n - (k + q2)) := by show _ = _; rw [List.length_drop, hn]
    have HRB : Hid (∀ A cA W, HdsAt W A q1 → BytesAt W (some Z) (b.drop (k + q2)) → Calls Tryz.prog 51 #[.slice (some Z) (n - (k + q2)) (c - (k + q2)), .slice A q1.length cA, .bool false] W fun e w' => ∃ A' c', e = .returned (.tuple #[.slice A' (bodyM (b.drop (k + q2)) q1 false).1.length c', .int .i64 (bodyM (b.drop (k + q2)) q1 false).2.1, .int .i64 (bodyM (b.drop (k + q2)) q1 false).2.2]) ∧ BytesAt w' A' (bodyM (b.drop (k + q2)) q1 false).1 ∧ ((bodyM (b.drop (k + q2)) q1 false).1.length = 0 → A' = none ∧ c' = 0 ∨ ∃ x, A' = some x) ∧ (∀ x, A' = some x → x.block = Z.block ∨ W.heap.size ≤ x.block) ∧ Below W.heap.size W w') := fun A cA W h2 h3 => by
      have := refBody_any (b.drop (k + q2)) q1 false Z (c - (k + q2)) A cA (by omega) HSM.out (by rw [HLK2.out]; omega) (by rw [HLK2.out]; omega) W h2 h3
      rwa [HLK2.out] at this
    generalize bodyM (b.drop (k + q2)) q1 false = D at HRB HPE hpb
    obtain ⟨d1, d2, d3⟩ := D
    simp only at HRB HPE hpb
    clear hA hQ hn HSM HLK HLK2
    generalize n - k = n1 at hsl HPA
    generalize c - k = c1 at hsl HPA
    generalize n - (k + q2) = n2 at hsl2 HRB
    generalize c - (k + q2) = c2 at hsl2 HRB
    generalize cutM 8 s = L at HRR HPE HSS
    generalize asS s = SS at HCL HRR
    go_enter Tryz.func23, Tryz.ntmps23
    go_wp2_with (first
      | (refine store_msg info25 rfl _ _ rfl (w.heap.size + 1) (.string ⟨#[]⟩) (.string ⟨#[]⟩) (.slice none 0 0) (.slice none 0 0) rfl rfl rfl rfl rfl rfl _ HZ2.out rfl ?_)
      | fail)
    intro W1 ho1 hr1
    replace HZ1 := hid (ho1.kept (by omega) HZ1.out)
    replace HZ2 := hid hr1
    replace HB0 := hid (HB0.out.trans (ho1.below (by omega)))
    replace HZ0 : Hid (W1.heap.size = w.heap.size + 2) := by show _ = _; rw [ho1.size]; exact HZ0.out
    clear ho1 hr1
    go_wp2_with fail
    refine (HCL.out _ (HA.out.below HB0.out (Nat.le_refl _))).mono ?_
    rintro e W1 ⟨rfl, rfl⟩
    have hs1 : w.heap.size + 2 ≤ W1.heap.size := by rw [HZ0.out]; exact Nat.le_refl _
    clear HCL HZ0
    go_wp2_with fail
    refine (HRR.out _).mono ?_
    rintro e W2 ⟨v2, rfl, ho2, hb2⟩
    have hs2 : w.heap.size + 2 ≤ W2.heap.size := by have := hb2.size; omega
    have HR2 := hid (row_keep hb2 HZ1.out)
    have HN2 := hid (row_keep hb2 HZ2.out)
    have HB2 := hid (HB0.out.trans (hb2.mono (by omega)))
    obtain ⟨A2, cL, rfl, hat2⟩ := ho2.strs
    clear hb2 HZ1 HZ2 HB0 HRR ho2
    by_cases h3 : L.length = 3
    · obtain ⟨p0, p1, p2, rfl⟩ : ∃ a b c, L = [a, b, c] := by
        match L, h3 with
        | [a, b, c], _ => exact ⟨a, b, c, rfl⟩
      have s0 : p0.length ≤ 1000000 := Nat.le_trans (HSS.out p0 (by simp)) (by omega)
      have s1 : p1.length ≤ 1000000 := Nat.le_trans (HSS.out p1 (by simp)) (by omega)
      have HTK := hid (fun W => refToken_any p0 (by omega) W)
      have HTG := hid (fun W => refTarget_any p1 (by omega) W)
      have q2' := tl_eq p2 [72, 84, 84, 80, 47, 49, 46, 49]
      obtain ⟨qs, os, hqa, hqb, hcs⟩ := hat2 (by simp)
      subst hqa
      have r0 := hcs 0 (by simp)
      have r1 := hcs 1 (by simp)
      have r2 := hcs 2 (by simp)
      rw [Nat.add_zero] at r0
      have r0' : W2.cell? ⟨qs, os, none⟩ = some (.string (asS p0)) := r0
      have r1' : W2.cell? ⟨qs, os + 1, none⟩ = some (.string (asS p1)) := r1
      have r2' : W2.cell? ⟨qs, os + 2, none⟩ = some (.string (asS p2)) := r2
      have HQB := hid hqb
      rw [show ([p0, p1, p2] : List (List UInt8)).length = 3 from rfl]
      have HPE1 : Hid (PR = if (tokenH p0 && targetM p1 && decide (p2 = [72, 84, 84, 80, 47, 49, 46, 49])) = false then (noReq, 0, 5) else if q3 ≠ 0 then (noReq, 0, q3) else if d3 ≠ 0 then (noReq, 0, d3) else (⟨p0, p1, q1, d1⟩, k + q2 + d2, 0)) := by
        show _ = _
        rw [HPE.out, okReq_three]
        rfl
      generalize tokenH p0 = tb at HTK HPE1
      generalize targetM p1 = gb at HTG HPE1
      generalize decide (p2 = [72, 84, 84, 80, 47, 49, 46, 49]) = vb at q2' HPE1
      generalize hP0 : asS p0 = P0 at HTK r0'
      generalize hP1 : asS p1 = P1 at HTG r1'
      generalize asS p2 = P2 at q2' r2'
      have HE0 := hid hP0
      have HE1 := hid hP1
      have k0 := loadS_cell r0'
      have k1 := loadS_cell r1'
      have k2 := loadS_cell r2'
      have HK0 := hid r0'
      have HK1 := hid r1'
      clear hP0 hP1 s0 s1 h3 HPE hcs hat2 r0 r1 r2 r0' r1' r2' hqb HSS
      cases tb
      · have HPX : Hid (PR = (noReq, 0, 5)) := by show _ = _; rw [HPE1.out]; rfl
        go_wp2_with fail
        refine (HTK.out _).mono ?_
        rintro e W3 ⟨rfl, rfl⟩
        go_wp2_with (first
          | (refine load_msg rfl _ rfl (w.heap.size + 1) _ rfl (load25 HN2.out rfl) ?_)
          | (refine store_msg info25 rfl _ _ rfl w.heap.size (.string ⟨#[]⟩) (.string ⟨#[]⟩) (.slice none 0 0) (.slice none 0 0) rfl rfl rfl rfl rfl rfl _ HR2.out rfl ?_)
          | fail)
        intro W9 ho9 hr9
        have HO9 := hid ho9
        have HR9 := hid hr9
        clear ho9 hr9
        go_wp2_with fail
        exact bodyPost_ret (ret_msg3 (p := 2) (q := 3) (r := 4) Tryz.results23 _ _ w.heap.size _ _ _ rfl rfl rfl (load25 HR9.out rfl)) rfl ⟨.slice none 0 0, .slice none 0 0, by rw [HPX.out]; rfl, by rw [HPX.out]; exact HdsV.nil _, by rw [HPX.out]; exact BtV.nil _, HB2.out.trans (HO9.out.below (Nat.le_refl _))⟩
      cases gb
      · have HPX : Hid (PR = (noReq, 0, 5)) := by show _ = _; rw [HPE1.out]; rfl
        go_wp2_with fail
        refine (HTK.out _).mono ?_
        rintro e W3 ⟨rfl, rfl⟩
        go_wp2_with fail
        refine (HTG.out _).mono ?_
        rintro e W3 ⟨rfl, rfl⟩
        go_wp2_with (first
          | (refine load_msg rfl _ rfl (w.heap.size + 1) _ rfl (load25 HN2.out rfl) ?_)
          | (refine store_msg info25 rfl _ _ rfl w.heap.size (.string ⟨#[]⟩) (.string ⟨#[]⟩) (.slice none 0 0) (.slice none 0 0) rfl rfl rfl rfl rfl rfl _ HR2.out rfl ?_)
          | fail)
        intro W9 ho9 hr9
        have HO9 := hid ho9
        have HR9 := hid hr9
        clear ho9 hr9
        go_wp2_with fail
        exact bodyPost_ret (ret_msg3 (p := 2) (q := 3) (r := 4) Tryz.results23 _ _ w.heap.size _ _ _ rfl rfl rfl (load25 HR9.out rfl)) rfl ⟨.slice none 0 0, .slice none 0 0, by rw [HPX.out]; rfl, by rw [HPX.out]; exact HdsV.nil _, by rw [HPX.out]; exact BtV.nil _, HB2.out.trans (HO9.out.below (Nat.le_refl _))⟩
      cases vb
      · have HPX : Hid (PR = (noReq, 0, 5)) := by show _ = _; rw [HPE1.out]; rfl
        go_wp2_with fail
        refine (HTK.out _).mono ?_
        rintro e W3 ⟨rfl, rfl⟩
        go_wp2_with fail
        refine (HTG.out _).mono ?_
        rintro e W3 ⟨rfl, rfl⟩
        go_wp2_with (first
          | (refine load_msg rfl _ rfl (w.heap.size + 1) _ rfl (load25 HN2.out rfl) ?_)
          | (refine store_msg info25 rfl _ _ rfl w.heap.size (.string ⟨#[]⟩) (.string ⟨#[]⟩) (.slice none 0 0) (.slice none 0 0) rfl rfl rfl rfl rfl rfl _ HR2.out rfl ?_)
          | fail)
        intro W9 ho9 hr9
        have HO9 := hid ho9
        have HR9 := hid hr9
        clear ho9 hr9
        go_wp2_with fail
        exact bodyPost_ret (ret_msg3 (p := 2) (q := 3) (r := 4) Tryz.results23 _ _ w.heap.size _ _ _ rfl rfl rfl (load25 HR9.out rfl)) rfl ⟨.slice none 0 0, .slice none 0 0, by rw [HPX.out]; rfl, by rw [HPX.out]; exact HdsV.nil _, by rw [HPX.out]; exact BtV.nil _, HB2.out.trans (HO9.out.below (Nat.le_refl _))⟩
      have HPE2 : Hid (PR = if q3 ≠ 0 then (noReq, 0, q3) else if d3 ≠ 0 then (noReq, 0, d3) else (⟨p0, p1, q1, d1⟩, k + q2 + d2, 0)) := by show _ = _; rw [HPE1.out]; rfl
      clear HPE1
      go_wp2_with fail
      refine (HTK.out _).mono ?_
      rintro e W3 ⟨rfl, rfl⟩
      go_wp2_with fail
      refine (HTG.out _).mono ?_
      rintro e W3 ⟨rfl, rfl⟩
      go_wp2_with fail
      refine (HPA.out _ _ (HY.out.below HB2.out (Nat.le_refl _))).mono ?_
      rintro e W3 ⟨v3, rfl, ho3, hb3⟩
      have hs3 : w.heap.size + 2 ≤ W3.heap.size := by have := hb3.size; omega
      have HR3 := hid (row_keep hb3 HR2.out)
      have HN3 := hid (row_keep hb3 HN2.out)
      have HB3 := hid (HB2.out.trans (hb3.mono (by omega)))
      have HK03 := hid ((hb3.cell (p := ⟨qs, os, none⟩) HQB.out).trans HK0.out)
      have HK13 := hid ((hb3.cell (p := ⟨qs, os + 1, none⟩) HQB.out).trans HK1.out)
      have hqb3 : qs < W3.heap.size := Nat.lt_of_lt_of_le HQB.out hb3.size
      obtain ⟨A3, cA, rfl, hat3, hno3⟩ := ho3.at
      have HH3 := hid hat3
      have HNI := hid (hno3 w.heap.size (by omega))
      clear hb3 HR2 HN2 ho3 hat3 hno3 HPA hsl k0 k1 k2 HK0 HK1 HQB
      by_cases hq3 : q3 = 0
      · subst hq3
        rw [if_neg (by simp)] at HPE2
        go_wp2_with fail
        refine (HRB.out _ _ _ HH3.out (HZ.out.below HB3.out (Nat.le_refl _))).mono ?_
        rintro e W4 ⟨A4, c4, rfl, hat4, hz4, hno4, hb4⟩
        have hs4 : w.heap.size + 2 ≤ W4.heap.size := by have := hb4.size; omega
        have HR4 := hid (row_keep hb4 HR3.out)
        have HN4 := hid (row_keep hb4 HN3.out)
        have HB4 := hid (HB3.out.trans (hb4.mono (by omega)))
        have HH4 := hid (HH3.out.below hb4 (Nat.le_refl _))
        have r04 := (hb4.cell (p := ⟨qs, os, none⟩) hqb3).trans HK03.out
        have r14 := (hb4.cell (p := ⟨qs, os + 1, none⟩) hqb3).trans HK13.out
        have HD4 := hid hat4
        have HZ4 := hid hz4
        have HNO4 : Hid (NotIn A4 w.heap.size) := fun x hx => by
          have h1 := HXB.out
          have h2 := HZB.out
          rcases hno4 x hx with h | h <;> omega
        clear hb4 HR3 HN3 HH3 hat4 hno4 hz4 HRB hsl2 HK03 HK13 hqb3
        by_cases hd3 : d3 = 0
        · subst hd3
          rw [if_neg (by simp)] at HPE2
          generalize hLQ : q1.length = lq
          generalize hLD : d1.length = ld
          have HLQ := hid hLQ
          have HLD := hid hLD
          have m0 : (loadI 9 (.pointer (some ⟨qs, os, none⟩))).run Tryz.prog W4.drew = .ok (.string P0) W4.drew := loadS_cell r04
          have m1 : (loadI 9 (.pointer (some ⟨qs, os + 1, none⟩))).run Tryz.prog W4.drew = .ok (.string P1) W4.drew := loadS_cell r14
          have HRD : Hid (W4.drew.heap[w.heap.size]? = some (.cells #[.string ⟨#[]⟩, .string ⟨#[]⟩, .slice none 0 0, .slice none 0 0] 25 (0, 0))) := HR4.out
          have st := storeM_row info25 (.string P0) (.string P1) (.slice A3 lq cA) (.slice A4 ld c4) rfl rfl rfl rfl HRD.out rfl
          have HBD : Hid (Below W4.heap.size W4 W4.drew) := (Below.refl _ _).drew
          have HO9 := hid (putM_only W4.drew w.heap.size #[.string P0, .string P1, .slice A3 lq cA, .slice A4 ld c4])
          have HR9 := hid (putM_row (cs' := #[.string P0, .string P1, .slice A3 lq cA, .slice A4 ld c4]) HRD.out rfl)
          clear hLQ hLD r04 r14
          generalize putM W4.drew w.heap.size #[.string P0, .string P1, .slice A3 lq cA, .slice A4 ld c4] = W9 at st HO9 HR9
          go_wp2_with fail
          go_region
          go_wp2
          refine bodyPost_ret (ret_msg3 (p := 2) (q := 3) (r := 4) Tryz.results23 _ _ w.heap.size _ _ _ rfl rfl rfl (load25 HR9.out rfl)) rfl ⟨.slice A3 lq cA, .slice A4 ld c4, ?_, ?_, ?_, (HB4.out.trans (HBD.out.mono HB4.out.size)).trans (HO9.out.below (Nat.le_refl _))⟩
          · rw [HPE2.out, ← HE0.out, ← HE1.out]
            show Ending.returned (Value.tuple #[_, Value.int IntKind.i64 ((k : Int) + (q2 : Int) + (d2 : Int)), Value.int IntKind.i64 0]) = _
            rw [show (k : Int) + (q2 : Int) + (d2 : Int) = ((k + q2 + d2 : Nat) : Int) from by omega]
          · rw [HPE2.out]
            exact ⟨A3, cA, by rw [HLQ.out], (HH4.out.below HBD.out (Nat.le_refl _)).only HNI.out HO9.out⟩
          · rw [HPE2.out]
            exact ⟨A4, c4, by rw [HLD.out], (HD4.out.below HBD.out (Nat.le_refl _)).only HNO4.out HO9.out, HZ4.out⟩
        · rw [if_pos hd3] at HPE2
          have HPX := HPE2
          have hd9 : (d3 == 0) = false := beq_eq_false_iff_ne.2 hd3
          clear hd3
          go_wp2_with (first
            | (refine load_msg rfl _ rfl (w.heap.size + 1) _ rfl (load25 HN4.out rfl) ?_)
            | (refine store_msg info25 rfl _ _ rfl w.heap.size (.string ⟨#[]⟩) (.string ⟨#[]⟩) (.slice none 0 0) (.slice none 0 0) rfl rfl rfl rfl rfl rfl _ HR4.out rfl ?_)
            | fail)
          intro W9 ho9 hr9
          have HO9 := hid ho9
          have HR9 := hid hr9
          clear ho9 hr9
          go_wp2_with fail
          exact bodyPost_ret (ret_msg3 (p := 2) (q := 3) (r := 4) Tryz.results23 _ _ w.heap.size _ _ _ rfl rfl rfl (load25 HR9.out rfl)) rfl ⟨.slice none 0 0, .slice none 0 0, by rw [HPX.out]; rfl, by rw [HPX.out]; exact HdsV.nil _, by rw [HPX.out]; exact BtV.nil _, HB4.out.trans (HO9.out.below (Nat.le_refl _))⟩
      · rw [if_pos hq3] at HPE2
        have HPX := HPE2
        have hq9 : (q3 == 0) = false := beq_eq_false_iff_ne.2 hq3
        clear hq3
        go_wp2_with (first
          | (refine load_msg rfl _ rfl (w.heap.size + 1) _ rfl (load25 HN3.out rfl) ?_)
          | (refine store_msg info25 rfl _ _ rfl w.heap.size (.string ⟨#[]⟩) (.string ⟨#[]⟩) (.slice none 0 0) (.slice none 0 0) rfl rfl rfl rfl rfl rfl _ HR3.out rfl ?_)
          | fail)
        intro W9 ho9 hr9
        have HO9 := hid ho9
        have HR9 := hid hr9
        clear ho9 hr9
        go_wp2_with fail
        exact bodyPost_ret (ret_msg3 (p := 2) (q := 3) (r := 4) Tryz.results23 _ _ w.heap.size _ _ _ rfl rfl rfl (load25 HR9.out rfl)) rfl ⟨.slice none 0 0, .slice none 0 0, by rw [HPX.out]; rfl, by rw [HPX.out]; exact HdsV.nil _, by rw [HPX.out]; exact BtV.nil _, HB3.out.trans (HO9.out.below (Nat.le_refl _))⟩
    · have HPX : Hid (PR = (noReq, 0, 5)) := by
        show _ = _
        rw [HPE.out]
        unfold okReq
        rw [decide_eq_false h3]
        rfl
      have h3i : ((L.length : Int) == 3) = false := by rw [beq_eq_false_iff_ne]; omega
      have h3j : ¬ (L.length : Int) = 3 := by omega
      generalize L.length = ln at h3i h3j ⊢
      clear h3 hat2
      go_wp2_with (first
        | (refine load_msg rfl _ rfl (w.heap.size + 1) _ rfl (load25 HN2.out rfl) ?_)
        | (refine store_msg info25 rfl _ _ rfl w.heap.size (.string ⟨#[]⟩) (.string ⟨#[]⟩) (.slice none 0 0) (.slice none 0 0) rfl rfl rfl rfl rfl rfl _ HR2.out rfl ?_)
        | fail)
      intro W9 ho9 hr9
      have HO9 := hid ho9
      have HR9 := hid hr9
      clear ho9 hr9
      go_wp2_with fail
      exact bodyPost_ret (ret_msg3 (p := 2) (q := 3) (r := 4) Tryz.results23 _ _ w.heap.size _ _ _ rfl rfl rfl (load25 HR9.out rfl)) rfl ⟨.slice none 0 0, .slice none 0 0, by rw [HPX.out]; rfl, by rw [HPX.out]; exact HdsV.nil _, by rw [HPX.out]; exact BtV.nil _, HB2.out.trans (HO9.out.below (Nat.le_refl _))⟩
  · rw [if_pos hE] at HPE
    have HPX := HPE
    have hE9 : (E == 0) = false := beq_eq_false_iff_ne.2 hE
    generalize b.length = n at HCL ⊢
    generalize asS s = SS at HCL
    clear hE hpos
    go_enter Tryz.func23, Tryz.ntmps23
    go_wp2_with (first
      | (refine store_msg info25 rfl _ _ rfl (w.heap.size + 1) (.string ⟨#[]⟩) (.string ⟨#[]⟩) (.slice none 0 0) (.slice none 0 0) rfl rfl rfl rfl rfl rfl _ HZ2.out rfl ?_)
      | fail)
    intro W1 ho1 hr1
    replace HZ1 := hid (ho1.kept (by omega) HZ1.out)
    replace HZ2 := hid hr1
    replace HB0 := hid (HB0.out.trans (ho1.below (by omega)))
    replace HZ0 : Hid (W1.heap.size = w.heap.size + 2) := by show _ = _; rw [ho1.size]; exact HZ0.out
    clear ho1 hr1
    go_wp2_with fail
    refine (HCL.out _ (HA.out.below HB0.out (Nat.le_refl _))).mono ?_
    rintro e W1 ⟨rfl, rfl⟩
    clear HCL HZ0
    go_wp2_with (first
      | (refine load_msg rfl _ rfl (w.heap.size + 1) _ rfl (load25 HZ2.out rfl) ?_)
      | (refine store_msg info25 rfl _ _ rfl w.heap.size (.string ⟨#[]⟩) (.string ⟨#[]⟩) (.slice none 0 0) (.slice none 0 0) rfl rfl rfl rfl rfl rfl _ HZ1.out rfl ?_)
      | fail)
    intro W9 ho9 hr9
    have HO9 := hid ho9
    have HR9 := hid hr9
    clear ho9 hr9
    go_wp2_with fail
    exact bodyPost_ret (ret_msg3 (p := 2) (q := 3) (r := 4) Tryz.results23 _ _ w.heap.size _ _ _ rfl rfl rfl (load25 HR9.out rfl)) rfl ⟨.slice none 0 0, .slice none 0 0, by rw [HPX.out]; rfl, by rw [HPX.out]; exact HdsV.nil _, by rw [HPX.out]; exact BtV.nil _, HB0.out.trans (HO9.out.below (Nat.le_refl _))⟩
end Go.Proofs.YtclonnpglikddaaGreatDoor
