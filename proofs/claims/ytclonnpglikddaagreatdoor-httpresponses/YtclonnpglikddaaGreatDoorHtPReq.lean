
/- A request read: what ParseRequest of package http does. -/
import Derived.Test.YtclonnpglikddaaGreatDoorHtMsg
import Derived.Test.YtclonnpglikddaaGreatDoorHtLine
namespace Go.Proofs.YtclonnpglikddaaGreatDoor
set_option linter.unusedVariables false
set_option linter.unusedSimpArgs false
open Go.RowKit Go.BigFrame
attribute [local go_sem ↓] slI_eq

set_option maxHeartbeats 4000000 in
set_option maxRecDepth 100000 in
theorem parseReq_any (b : List UInt8) (X : Addr) (c : Nat) (hb : b.length ≤ 900000) (hc : b.length ≤ c) (w : World) (hT : TabC w) (hA : BytesAt w (some X) b) : Calls Tryz.prog 13 #[.slice (some X) b.length c] w fun e w' => ∃ vh vb, e = .returned (.tuple #[.agg #[.string (asS (parseReq b).1.method), .string (asS (parseReq b).1.target), vh, vb], .int .i64 (parseReq b).2.1, .int .i64 (parseReq b).2.2]) ∧ HdsV w' vh (parseReq b).1.hds ∧ BtV w' vb (parseReq b).1.body ∧ Below w.heap.size w w' := by
  have HA := hid hA
  have HT := hid hT
  have HCL := hid (fun W hW hX => cutLine_any b X c (by omega) hc W hW hX)
  obtain ⟨hk1, hk2⟩ := line_le b
  have HPE : Hid (parseReq b = if (lineM b).2.2 ≠ 0 then (noReq, 0, (lineM b).2.2) else if okReq (cutM 8 (lineM b).1) = false then (noReq, 0, 5) else if (parseH (b.drop (lineM b).2.1)).2.2 ≠ 0 then (noReq, 0, (parseH (b.drop (lineM b).2.1)).2.2) else if (bodyM (b.drop ((lineM b).2.1 + (parseH (b.drop (lineM b).2.1)).2.1)) (parseH (b.drop (lineM b).2.1)).1 false).2.2 ≠ 0 then (noReq, 0, (bodyM (b.drop ((lineM b).2.1 + (parseH (b.drop (lineM b).2.1)).2.1)) (parseH (b.drop (lineM b).2.1)).1 false).2.2) else (⟨(cutM 8 (lineM b).1).getD 0 [], (cutM 8 (lineM b).1).getD 1 [], (parseH (b.drop (lineM b).2.1)).1, (bodyM (b.drop ((lineM b).2.1 + (parseH (b.drop (lineM b).2.1)).2.1)) (parseH (b.drop (lineM b).2.1)).1 false).1⟩, (lineM b).2.1 + (parseH (b.drop (lineM b).2.1)).2.1 + (bodyM (b.drop ((lineM b).2.1 + (parseH (b.drop (lineM b).2.1)).2.1)) (parseH (b.drop (lineM b).2.1)).1 false).2.1, 0)) := rfl
  generalize parseReq b = PR at HPE ⊢
  generalize lineM b = LM at HCL HPE hk1 hk2
  obtain ⟨s, k, E⟩ := LM
  simp only at HCL HPE hk1 hk2
  have HRR := hid (fun W hW => readReq_any s (by omega) W hW)
  have HM : Hid (okReq (cutM 8 s) = true → reqM s = (cutM 8 s).getD 0 [] ∧ reqT s = (cutM 8 s).getD 1 []) := fun h => by unfold reqM reqT; rw [h]; exact ⟨rfl, rfl⟩
  have hpl := parse_le (b.drop k)
  have hpb := body_le b k (parseH (b.drop k)).2.1 (parseH (b.drop k)).1 false
  have hfew := parse_few (b.drop k)
  have HSM := hid (parse_small (b.drop k) (by rw [List.length_drop]; omega))
  rw [List.length_drop] at hpl
  generalize hn : b.length = n at hb hc hk1 hk2 hpl hpb HCL ⊢
  have HN := hid hn
  have HLK : Hid ((b.drop k).length = n - k) := by show _ = _; rw [List.length_drop, hn]
  have hsl := slI_run X n c k hk1 hc
  have HY := hid (slI_at hA hn hc k hk1)
  have HPA : Hid (∀ Y W, TabS W → BytesAt W (some Y) (b.drop k) → Calls Tryz.prog 38 #[.slice (some Y) (n - k) (c - k)] W fun e w' => ∃ v, e = .returned (.tuple #[v, .int .i64 (parseH (b.drop k)).2.1, .int .i64 (parseH (b.drop k)).2.2]) ∧ OwnH w' W.heap.size v (parseH (b.drop k)).1 ∧ Below W.heap.size W w') := fun Y W h1 h2 => by
    have := parse9_any (b.drop k) Y (c - k) (by rw [HLK.out]; omega) (by rw [HLK.out]; omega) W h1 h2
    rwa [HLK.out] at this
  generalize (if c = k then X else X.add k) = Y at hsl HY
  generalize hQ : parseH (b.drop k) = Q at HPE hpl hpb hfew HSM HPA
  obtain ⟨q1, q2, q3⟩ := Q
  simp only at HPE hpl hpb hfew HSM HPA
  have hm : k + q2 ≤ n := by omega
  have hsl2 := slI_run X n c (k + q2) hm hc
  rw [show ((k + q2 : Nat) : Int) = (k : Int) + (q2 : Int) from by omega] at hsl2
  have HZ := hid (slI_at hA hn hc (k + q2) hm)
  generalize (if c = k + q2 then X else X.add (k + q2)) = Z at hsl2 HZ
  have HLK2 : Hid ((b.drop (k + q2)).length = n - (k + q2)) := by show _ = _; rw [List.length_drop, hn]
  have HRB : Hid (∀ A cA W, TabC W → HdsAt W A q1 → BytesAt W (some Z) (b.drop (k + q2)) → Calls Tryz.prog 39 #[.slice A q1.length cA, .slice (some Z) (n - (k + q2)) (c - (k + q2)), .int .i64 0] W fun e w' => ∃ v, e = .returned (.tuple #[v, .int .i64 (bodyM (b.drop (k + q2)) q1 false).2.1, .int .i64 (bodyM (b.drop (k + q2)) q1 false).2.2]) ∧ Down w' W.heap.size v (bodyM (b.drop (k + q2)) q1 false).1 ∧ Below W.heap.size W w') := fun A cA W h1 h2 h3 => by
    have := readBody_any (b.drop (k + q2)) q1 false A cA Z (c - (k + q2)) 0 rfl (by omega) HSM.out (by rw [HLK2.out]; omega) (by rw [HLK2.out]; omega) W h1 h2 h3
    rwa [HLK2.out] at this
  generalize bodyM (b.drop (k + q2)) q1 false = D at HRB HPE hpb
  obtain ⟨d1, d2, d3⟩ := D
  simp only at HRB HPE hpb
  clear hA hT hQ hn HSM HLK HLK2
  generalize n - k = n1 at hsl HPA
  generalize c - k = c1 at hsl HPA
  generalize n - (k + q2) = n2 at hsl2 HRB
  generalize c - (k + q2) = c2 at hsl2 HRB
  have hi1 : (k : Int) + (q2 : Int) = ((k + q2 : Nat) : Int) := by omega
  generalize okReq (cutM 8 s) = ok at HRR HPE HM
  generalize (cutM 8 s).getD 0 [] = p0 at HPE HM
  generalize (cutM 8 s).getD 1 [] = p1 at HPE HM
  generalize hm0 : reqM s = m0 at HRR HM
  generalize hm1 : reqT s = m1 at HRR HM
  clear hm0 hm1
  have HM0 : Hid (ok = true → m0 = p0 ∧ m1 = p1) := HM.out
  clear HM
  generalize hMS : asS m0 = MS at HRR
  generalize hTS : asS m1 = TS at HRR
  have HMS := hid hMS
  have HTS := hid hTS
  clear hMS hTS
  generalize asS s = SS at HCL HRR
  have HR0 := hid (heap_alloc_new w (.cells #[.string ⟨#[]⟩, .string ⟨#[]⟩, .slice none 0 0, .slice none 0 0] 25))
  have HB0 := hid (alloc_below (Below.refl w.heap.size w) (Nat.le_refl _) (.cells #[.string ⟨#[]⟩, .string ⟨#[]⟩, .slice none 0 0, .slice none 0 0] 25))
  have hz0 : (w.alloc (.cells #[.string ⟨#[]⟩, .string ⟨#[]⟩, .slice none 0 0, .slice none 0 0] 25)).heap.size = w.heap.size + 1 := by simp
  have HZ0 := hid hz0
  clear hz0 hi1
  go_enter Tryz.func13, Tryz.ntmps13
  go_wp2_with fail
  refine (HCL.out _ (HT.out.tab.below HB0.out) (HA.out.below HB0.out (Nat.le_refl _))).mono ?_
  rintro e W1 ⟨rfl, hb1⟩
  have hs1 : w.heap.size + 1 ≤ W1.heap.size := by have := hb1.size; have := HZ0.out; omega
  have HR1 := hid ((hb1.block w.heap.size (by have := HZ0.out; omega)).trans HR0.out)
  have HB1 := hid (HB0.out.trans (hb1.mono (by have := HZ0.out; omega)))
  clear hb1 HR0 HCL
  by_cases hE : E = 0
  · subst hE
    rw [if_neg (by simp)] at HPE
    go_wp2_with fail
    refine (HRR.out _ (HT.out.tab.below HB1.out)).mono ?_
    rintro e W2 ⟨rfl, hb2⟩
    have hs2 : w.heap.size + 1 ≤ W2.heap.size := by have := hb2.size; omega
    have HR2 := hid ((hb2.block w.heap.size (by omega)).trans HR1.out)
    have HB2 := hid (HB1.out.trans (hb2.mono (by omega)))
    clear hb2 HR1 HRR
    cases ok
    · have HPX : Hid (PR = (noReq, 0, 5)) := by show _ = _; rw [HPE.out]; rfl
      go_wp2_with (first
        | (refine store_msg info25 rfl _ _ rfl w.heap.size (.string ⟨#[]⟩) (.string ⟨#[]⟩) (.slice none 0 0) (.slice none 0 0) rfl rfl rfl rfl rfl rfl _ HR2.out rfl ?_)
        | fail)
      intro W9 ho9 hr9
      have HO9 := hid ho9
      have HR9 := hid hr9
      clear ho9 hr9
      go_wp2_with fail
      exact bodyPost_ret (ret_msg3 (p := 2) (q := 3) (r := 4) Tryz.results13 _ _ w.heap.size _ _ _ rfl rfl rfl (load25 HR9.out rfl)) rfl ⟨.slice none 0 0, .slice none 0 0, by rw [HPX.out]; rfl, by rw [HPX.out]; exact HdsV.nil _, by rw [HPX.out]; exact BtV.nil _, HB2.out.trans (HO9.out.below (Nat.le_refl _))⟩
    · have HPE2 : Hid (PR = if q3 ≠ 0 then (noReq, 0, q3) else if d3 ≠ 0 then (noReq, 0, d3) else (⟨p0, p1, q1, d1⟩, k + q2 + d2, 0)) := by show _ = _; rw [HPE.out]; rfl
      obtain ⟨e0, e1⟩ := HM0.out rfl
      subst e0 e1
      clear HPE HM0
      go_wp2_with fail
      refine (HPA.out _ _ (HT.out.tab.below HB2.out) (HY.out.below HB2.out (Nat.le_refl _))).mono ?_
      rintro e W3 ⟨v3, rfl, ho3, hb3⟩
      have hs3 : w.heap.size + 1 ≤ W3.heap.size := by have := hb3.size; omega
      have HR3 := hid ((hb3.block w.heap.size (by omega)).trans HR2.out)
      have HB3 := hid (HB2.out.trans (hb3.mono (by omega)))
      obtain ⟨A3, cA, rfl, hat3, hno3⟩ := ho3.at
      have HH3 := hid hat3
      have HNI := hid (hno3 w.heap.size (by omega))
      clear hb3 HR2 ho3 hat3 hno3 HPA hsl
      by_cases hq3 : q3 = 0
      · subst hq3
        rw [if_neg (by simp)] at HPE2
        go_wp2_with fail
        refine (HRB.out _ _ _ (HT.out.below HB3.out) HH3.out (HZ.out.below HB3.out (Nat.le_refl _))).mono ?_
        rintro e W4 ⟨v4, rfl, hd4, hb4⟩
        have hs4 : w.heap.size + 1 ≤ W4.heap.size := by have := hb4.size; omega
        have HR4 := hid ((hb4.block w.heap.size (by omega)).trans HR3.out)
        have HB4 := hid (HB3.out.trans (hb4.mono (by omega)))
        have HH4 := hid (HH3.out.below hb4 (Nat.le_refl _))
        obtain ⟨A4, c4, rfl, hat4, hz4, hno4⟩ := hd4.at
        have HD4 := hid hat4
        have HNO4 := hid (hno4 w.heap.size (by omega))
        have HZ4 := hid hz4
        clear hb4 HR3 HH3 hd4 hat4 hno4 hz4 HRB hsl2
        by_cases hd3 : d3 = 0
        · subst hd3
          rw [if_neg (by simp)] at HPE2
          generalize hLQ : q1.length = lq
          generalize hLD : d1.length = ld
          have HLQ := hid hLQ
          have HLD := hid hLD
          clear hLQ hLD
          go_wp2_with (first
            | (refine store_msg info25 rfl _ _ rfl w.heap.size (.string MS) (.string TS) (.slice A3 lq cA) (.slice A4 ld c4) rfl rfl rfl rfl rfl rfl _ HR4.out rfl ?_)
            | fail)
          intro W9 ho9 hr9
          have HO9 := hid ho9
          have HR9 := hid hr9
          clear ho9 hr9
          go_wp2_with fail
          refine bodyPost_ret (ret_msg3 (p := 2) (q := 3) (r := 4) Tryz.results13 _ _ w.heap.size _ _ _ rfl rfl rfl (load25 HR9.out rfl)) rfl ⟨.slice A3 lq cA, .slice A4 ld c4, ?_, ?_, ?_, HB4.out.trans (HO9.out.below (Nat.le_refl _))⟩
          · rw [HPE2.out, ← HMS.out, ← HTS.out]
            show Ending.returned (Value.tuple #[_, Value.int IntKind.i64 ((k : Int) + (q2 : Int) + (d2 : Int)), Value.int IntKind.i64 0]) = _
            rw [show (k : Int) + (q2 : Int) + (d2 : Int) = ((k + q2 + d2 : Nat) : Int) from by omega]
          · rw [HPE2.out]
            exact ⟨A3, cA, by rw [HLQ.out], HH4.out.only HNI.out HO9.out⟩
          · rw [HPE2.out]
            exact ⟨A4, c4, by rw [HLD.out], HD4.out.only HNO4.out HO9.out, HZ4.out⟩
        · rw [if_pos hd3] at HPE2
          have HPX := HPE2
          have hd9 : (d3 == 0) = false := beq_eq_false_iff_ne.2 hd3
          clear hd3
          go_wp2_with (first
            | (refine store_msg info25 rfl _ _ rfl w.heap.size (.string ⟨#[]⟩) (.string ⟨#[]⟩) (.slice none 0 0) (.slice none 0 0) rfl rfl rfl rfl rfl rfl _ HR4.out rfl ?_)
            | fail)
          intro W9 ho9 hr9
          have HO9 := hid ho9
          have HR9 := hid hr9
          clear ho9 hr9
          go_wp2_with fail
          exact bodyPost_ret (ret_msg3 (p := 2) (q := 3) (r := 4) Tryz.results13 _ _ w.heap.size _ _ _ rfl rfl rfl (load25 HR9.out rfl)) rfl ⟨.slice none 0 0, .slice none 0 0, by rw [HPX.out]; rfl, by rw [HPX.out]; exact HdsV.nil _, by rw [HPX.out]; exact BtV.nil _, HB4.out.trans (HO9.out.below (Nat.le_refl _))⟩
      · rw [if_pos hq3] at HPE2
        have HPX := HPE2
        have hq9 : (q3 == 0) = false := beq_eq_false_iff_ne.2 hq3
        clear hq3
        go_wp2_with (first
          | (refine store_msg info25 rfl _ _ rfl w.heap.size (.string ⟨#[]⟩) (.string ⟨#[]⟩) (.slice none 0 0) (.slice none 0 0) rfl rfl rfl rfl rfl rfl _ HR3.out rfl ?_)
          | fail)
        intro W9 ho9 hr9
        have HO9 := hid ho9
        have HR9 := hid hr9
        clear ho9 hr9
        go_wp2_with fail
        exact bodyPost_ret (ret_msg3 (p := 2) (q := 3) (r := 4) Tryz.results13 _ _ w.heap.size _ _ _ rfl rfl rfl (load25 HR9.out rfl)) rfl ⟨.slice none 0 0, .slice none 0 0, by rw [HPX.out]; rfl, by rw [HPX.out]; exact HdsV.nil _, by rw [HPX.out]; exact BtV.nil _, HB3.out.trans (HO9.out.below (Nat.le_refl _))⟩
  · rw [if_pos hE] at HPE
    have HPX := HPE
    have hE9 : (E == 0) = false := beq_eq_false_iff_ne.2 hE
    clear hE
    go_wp2_with (first
      | (refine store_msg info25 rfl _ _ rfl w.heap.size (.string ⟨#[]⟩) (.string ⟨#[]⟩) (.slice none 0 0) (.slice none 0 0) rfl rfl rfl rfl rfl rfl _ HR1.out rfl ?_)
      | fail)
    intro W9 ho9 hr9
    have HO9 := hid ho9
    have HR9 := hid hr9
    clear ho9 hr9
    go_wp2_with fail
    exact bodyPost_ret (ret_msg3 (p := 2) (q := 3) (r := 4) Tryz.results13 _ _ w.heap.size _ _ _ rfl rfl rfl (load25 HR9.out rfl)) rfl ⟨.slice none 0 0, .slice none 0 0, by rw [HPX.out]; rfl, by rw [HPX.out]; exact HdsV.nil _, by rw [HPX.out]; exact BtV.nil _, HB1.out.trans (HO9.out.below (Nat.le_refl _))⟩
end Go.Proofs.YtclonnpglikddaaGreatDoor
