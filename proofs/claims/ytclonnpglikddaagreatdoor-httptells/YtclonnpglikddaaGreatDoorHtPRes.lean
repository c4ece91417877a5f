
/- A response read: what ParseResponse of package http does. -/
import Derived.Test.YtclonnpglikddaaGreatDoorHtMsg
import Derived.Test.YtclonnpglikddaaGreatDoorHtLine
namespace Go.Proofs.YtclonnpglikddaaGreatDoor
set_option linter.unusedVariables false
set_option linter.unusedSimpArgs false
open Go.RowKit Go.BigFrame
attribute [local go_sem ↓] slI_eq

set_option maxHeartbeats 4000000 in
set_option maxRecDepth 100000 in
theorem parseRes_any (b : List UInt8) (X : Addr) (c : Nat) (hb : b.length ≤ 900000) (hc : b.length ≤ c) (w : World) (hT : TabC w) (hA : BytesAt w (some X) b) : Calls Tryz.prog 20 #[.slice (some X) b.length c] w fun e w' => ∃ vh vb, e = .returned (.tuple #[.agg #[.int .i64 (parseResp b).1.status, .string (asS (parseResp b).1.reason), vh, vb], .int .i64 (parseResp b).2.1, .int .i64 (parseResp b).2.2]) ∧ HdsV w' vh (parseResp b).1.hds ∧ BtV w' vb (parseResp b).1.body ∧ Below w.heap.size w w' := by
  have HA := hid hA
  have HT := hid hT
  have HCL := hid (fun W hW hX => cutLine_any b X c (by omega) hc W hW hX)
  obtain ⟨hk1, hk2⟩ := line_le b
  have HPE : Hid (parseResp b = if (lineM b).2.2 ≠ 0 then (noResp, 0, (lineM b).2.2) else if okResp (cutM 2 (lineM b).1) = false then (noResp, 0, 5) else if (parseH (b.drop (lineM b).2.1)).2.2 ≠ 0 then (noResp, 0, (parseH (b.drop (lineM b).2.1)).2.2) else if bareM (statV ((cutM 2 (lineM b).1).getD 1 [])) then (⟨statV ((cutM 2 (lineM b).1).getD 1 []), (cutM 2 (lineM b).1).getD 2 [], (parseH (b.drop (lineM b).2.1)).1, []⟩, (lineM b).2.1 + (parseH (b.drop (lineM b).2.1)).2.1, 0) else if (bodyM (b.drop ((lineM b).2.1 + (parseH (b.drop (lineM b).2.1)).2.1)) (parseH (b.drop (lineM b).2.1)).1 true).2.2 ≠ 0 then (noResp, 0, (bodyM (b.drop ((lineM b).2.1 + (parseH (b.drop (lineM b).2.1)).2.1)) (parseH (b.drop (lineM b).2.1)).1 true).2.2) else (⟨statV ((cutM 2 (lineM b).1).getD 1 []), (cutM 2 (lineM b).1).getD 2 [], (parseH (b.drop (lineM b).2.1)).1, (bodyM (b.drop ((lineM b).2.1 + (parseH (b.drop (lineM b).2.1)).2.1)) (parseH (b.drop (lineM b).2.1)).1 true).1⟩, (lineM b).2.1 + (parseH (b.drop (lineM b).2.1)).2.1 + (bodyM (b.drop ((lineM b).2.1 + (parseH (b.drop (lineM b).2.1)).2.1)) (parseH (b.drop (lineM b).2.1)).1 true).2.1, 0)) := rfl
  generalize parseResp b = PR at HPE ⊢
  generalize lineM b = LM at HCL HPE hk1 hk2
  obtain ⟨s, k, E⟩ := LM
  simp only at HCL HPE hk1 hk2
  have HRR := hid (fun W hW => readRes_any s (by omega) W hW)
  obtain ⟨hr1, hr2⟩ := resp_line s
  rw [← hr1] at HPE
  have HM : Hid (lineB s = true → resS s = ((statV ((cutM 2 s).getD 1 []) : Nat) : Int) ∧ resR s = (cutM 2 s).getD 2 []) := fun h => by
    have := hr2 h
    unfold resS resR
    rw [h, this.1, this.2]
    exact ⟨rfl, rfl⟩
  have hpl := parse_le (b.drop k)
  have hpb := body_le b k (parseH (b.drop k)).2.1 (parseH (b.drop k)).1 true
  have hfew := parse_few (b.drop k)
  have HSM := hid (parse_small (b.drop k) (by rw [List.length_drop]; omega))
  rw [List.length_drop] at hpl
  generalize hn : b.length = n at hb hc hk1 hk2 hpl hpb HCL ⊢
  have HN := hid hn
  have HLK : Hid ((b.drop k).length = n - k) := by show _ = _; rw [List.length_drop, hn]
  have hsl := slI_run X n c k hk1 hc
  have HY := hid (slI_at hA hn hc k hk1)
  have HPA : Hid (∀ Y W, TabS W → BytesAt W (some Y) (b.drop k) → Calls Tryz.prog 38 #[.slice (some Y) (n - k) (c - k)] W fun e w' => ∃ v, e = .returned (.tuple #[v, .int .i64 (parseH (b.drop k)).2.1, .int .i64 (parseH (b.drop k)).2.2]) ∧ OwnH w' W.heap.size v (parseH (b.drop k)).1 ∧ Below W.heap.size W w') := fun Y W h1 h2 => by
    have := parse9_any (b.drop k) Y (c - k) (by rw [HLK.out]; omega) (by rw [HLK.out]; omega) W h1 h2
    rwa [HLK.out] at this
  generalize (if c = k then X else X.add k) = Y at hsl HY
  generalize hQ : parseH (b.drop k) = Q at HPE hpl hpb hfew HSM HPA
  obtain ⟨q1, q2, q3⟩ := Q
  simp only at HPE hpl hpb hfew HSM HPA
  have hm : k + q2 ≤ n := by omega
  have hsl2 := slI_run X n c (k + q2) hm hc
  rw [show ((k + q2 : Nat) : Int) = (k : Int) + (q2 : Int) from by omega] at hsl2
  have HZ := hid (slI_at hA hn hc (k + q2) hm)
  generalize (if c = k + q2 then X else X.add (k + q2)) = Z at hsl2 HZ
  have HLK2 : Hid ((b.drop (k + q2)).length = n - (k + q2)) := by show _ = _; rw [List.length_drop, hn]
  have HRB : Hid (∀ A cA W, TabC W → HdsAt W A q1 → BytesAt W (some Z) (b.drop (k + q2)) → Calls Tryz.prog 39 #[.slice A q1.length cA, .slice (some Z) (n - (k + q2)) (c - (k + q2)), .int .i64 ((n - (k + q2) : Nat) : Int)] W fun e w' => ∃ v, e = .returned (.tuple #[v, .int .i64 (bodyM (b.drop (k + q2)) q1 true).2.1, .int .i64 (bodyM (b.drop (k + q2)) q1 true).2.2]) ∧ Down w' W.heap.size v (bodyM (b.drop (k + q2)) q1 true).1 ∧ Below W.heap.size W w') := fun A cA W h1 h2 h3 => by
    have := readBody_any (b.drop (k + q2)) q1 true A cA Z (c - (k + q2)) ((n - (k + q2) : Nat) : Int) (by rw [if_pos rfl, HLK2.out]) (by omega) HSM.out (by rw [HLK2.out]; omega) (by rw [HLK2.out]; omega) W h1 h2 h3
    rwa [HLK2.out] at this
  have hsub : (n : Int) - ((k : Int) + (q2 : Int)) = ((n - (k + q2) : Nat) : Int) := by omega
  generalize bodyM (b.drop (k + q2)) q1 true = D at HRB HPE hpb
  obtain ⟨d1, d2, d3⟩ := D
  simp only at HRB HPE hpb
  clear hA hT hQ hn HSM HLK HLK2 hr1 hr2
  generalize n - k = n1 at hsl HPA
  generalize c - k = c1 at hsl HPA
  generalize n - (k + q2) = n2 at hsl2 HRB hsub
  generalize c - (k + q2) = c2 at hsl2 HRB
  generalize lineB s = ok at HRR HPE HM
  generalize statV ((cutM 2 s).getD 1 []) = st at HPE HM
  generalize (cutM 2 s).getD 2 [] = p1 at HPE HM
  have HBA := hid (fun W => bodiless_any (st : Int) W)
  generalize bareM (st : Int) = bare at HBA HPE
  generalize resS s = m0 at HRR HM
  generalize resR s = m1 at HRR HM
  generalize hTS : asS m1 = TS at HRR
  have HTS := hid hTS
  clear hTS
  generalize asS s = SS at HCL HRR
  have HR0 := hid (heap_alloc_new w (.cells #[.int .i64 0, .string ⟨#[]⟩, .slice none 0 0, .slice none 0 0] 40))
  have HB0 := hid (alloc_below (Below.refl w.heap.size w) (Nat.le_refl _) (.cells #[.int .i64 0, .string ⟨#[]⟩, .slice none 0 0, .slice none 0 0] 40))
  have hz0 : (w.alloc (.cells #[.int .i64 0, .string ⟨#[]⟩, .slice none 0 0, .slice none 0 0] 40)).heap.size = w.heap.size + 1 := by simp
  have HZ0 := hid hz0
  clear hz0
  go_enter Tryz.func20, Tryz.ntmps20
  go_wp2_with fail
  refine (HCL.out _ (HT.out.tab.below HB0.out) (HA.out.below HB0.out (Nat.le_refl _))).mono ?_
  rintro e W1 ⟨rfl, hb1⟩
  have hs1 : w.heap.size + 1 ≤ W1.heap.size := by have := hb1.size; have := HZ0.out; omega
  have HR1 := hid ((hb1.block w.heap.size (by have := HZ0.out; omega)).trans HR0.out)
  have HB1 := hid (HB0.out.trans (hb1.mono (by have := HZ0.out; omega)))
  clear hb1 HR0 HCL
  by_cases hE : E = 0
  · subst hE
    rw [if_neg (by simp)] at HPE
    go_wp2_with fail
    refine (HRR.out _ (HT.out.below HB1.out)).mono ?_
    rintro e W2 ⟨rfl, hb2⟩
    have hs2 : w.heap.size + 1 ≤ W2.heap.size := by have := hb2.size; omega
    have HR2 := hid ((hb2.block w.heap.size (by omega)).trans HR1.out)
    have HB2 := hid (HB1.out.trans (hb2.mono (by omega)))
    clear hb2 HR1 HRR
    cases ok
    · have HPX : Hid (PR = (noResp, 0, 5)) := by show _ = _; rw [HPE.out]; rfl
      go_wp2_with (first
        | (refine store_msg info40 rfl _ _ rfl w.heap.size (.int .i64 0) (.string ⟨#[]⟩) (.slice none 0 0) (.slice none 0 0) rfl rfl rfl rfl rfl rfl _ HR2.out rfl ?_)
        | fail)
      intro W9 ho9 hr9
      have HO9 := hid ho9
      have HR9 := hid hr9
      clear ho9 hr9
      go_wp2_with fail
      exact bodyPost_ret (ret_msg3 (p := 2) (q := 3) (r := 4) Tryz.results20 _ _ w.heap.size _ _ _ rfl rfl rfl (load40 HR9.out rfl)) rfl ⟨.slice none 0 0, .slice none 0 0, by rw [HPX.out]; rfl, by rw [HPX.out]; exact HdsV.nil _, by rw [HPX.out]; exact BtV.nil _, HB2.out.trans (HO9.out.below (Nat.le_refl _))⟩
    · have HPE2 : Hid (PR = if q3 ≠ 0 then (noResp, 0, q3) else if bare then (⟨st, p1, q1, []⟩, k + q2, 0) else if d3 ≠ 0 then (noResp, 0, d3) else (⟨st, p1, q1, d1⟩, k + q2 + d2, 0)) := by show _ = _; rw [HPE.out]; rfl
      obtain ⟨e0, e1⟩ := HM.out rfl
      subst e0 e1
      clear HPE HM
      go_wp2_with fail
      refine (HPA.out _ _ (HT.out.tab.below HB2.out) (HY.out.below HB2.out (Nat.le_refl _))).mono ?_
      rintro e W3 ⟨v3, rfl, ho3, hb3⟩
      have hs3 : w.heap.size + 1 ≤ W3.heap.size := by have := hb3.size; omega
      have HR3 := hid ((hb3.block w.heap.size (by omega)).trans HR2.out)
      have HB3 := hid (HB2.out.trans (hb3.mono (by omega)))
      obtain ⟨A3, cA, rfl, hat3, hno3⟩ := ho3.at
      have HH3 := hid hat3
      have HNI := hid (hno3 w.heap.size (by omega))
      clear hb3 HR2 ho3 hat3 hno3 HPA hsl
      by_cases hq3 : q3 = 0
      · subst hq3
        rw [if_neg (by simp)] at HPE2
        generalize hLQ : q1.length = lq at HRB ⊢
        have HLQ := hid hLQ
        clear hLQ
        go_wp2_with (first
          | (refine store_msg info40 rfl _ _ rfl w.heap.size (.int .i64 (st : Int)) (.string TS) (.slice A3 lq cA) (.slice none 0 0) rfl rfl rfl rfl rfl rfl _ HR3.out rfl ?_)
          | fail)
        intro W4 ho4 hr4
        have HR4 := hid hr4
        have HB4 := hid (HB3.out.trans (ho4.below (Nat.le_refl _)))
        have HH4 := hid (HH3.out.only HNI.out ho4)
        have hs4 : w.heap.size + 1 ≤ W4.heap.size := by rw [ho4.size]; exact hs3
        clear ho4 hr4 HR3 HH3
        go_wp2_with fail
        refine (HBA.out _).mono ?_
        rintro e W5 ⟨rfl, rfl⟩
        cases bare
        · have HPE3 : Hid (PR = if d3 ≠ 0 then (noResp, 0, d3) else (⟨st, m1, q1, d1⟩, k + q2 + d2, 0)) := by show _ = _; rw [HPE2.out]; rfl
          clear HPE2
          go_wp2_with fail
          refine (HRB.out _ _ _ (HT.out.below HB4.out) HH4.out (HZ.out.below HB4.out (Nat.le_refl _))).mono ?_
          rintro e W6 ⟨v6, rfl, hd6, hb6⟩
          have hs6 : w.heap.size + 1 ≤ W6.heap.size := by have := hb6.size; omega
          have HR6 := hid ((hb6.block w.heap.size (by omega)).trans HR4.out)
          have HB6 := hid (HB4.out.trans (hb6.mono (by omega)))
          have HH6 := hid (HH4.out.below hb6 (Nat.le_refl _))
          obtain ⟨A6, c6, rfl, hat6, hz6, hno6⟩ := hd6.at
          have HD6 := hid hat6
          have HNO6 := hid (hno6 w.heap.size (by omega))
          have HZ6 := hid hz6
          clear hb6 HR4 HH4 hd6 hat6 hno6 hz6 HRB hsl2 hsub
          by_cases hd3 : d3 = 0
          · subst hd3
            rw [if_neg (by simp)] at HPE3
            generalize hLD : d1.length = ld
            have HLD := hid hLD
            clear hLD
            go_wp2_with (first
              | (refine store_part rfl 23 _ _ rfl w.heap.size 3 (.slice A6 ld c6) 40 #[.int .i64 (st : Int), .string TS, .slice A3 lq cA, .slice none 0 0] #[.int .i64 (st : Int), .string TS, .slice A3 lq cA, .slice A6 ld c6] rfl rfl info23 (show 3 < 4 by decide) rfl rfl HR6.out rfl ?_)
              | fail)
            intro W7 ho7 hr7
            have HO7 := hid ho7
            have HR7 := hid hr7
            clear ho7 hr7
            go_wp2_with (first
              | (refine load_msg rfl _ rfl w.heap.size _ rfl (load40 HR7.out rfl) ?_)
              | (refine store_msg info40 rfl _ _ rfl w.heap.size (.int .i64 (st : Int)) (.string TS) (.slice A3 lq cA) (.slice A6 ld c6) rfl rfl rfl rfl rfl rfl _ HR7.out rfl ?_)
              | fail)
            intro W9 ho9 hr9
            have HO9 := hid ho9
            have HR9 := hid hr9
            clear ho9 hr9
            go_wp2_with fail
            refine bodyPost_ret (ret_msg3 (p := 2) (q := 3) (r := 4) Tryz.results20 _ _ w.heap.size _ _ _ rfl rfl rfl (load40 HR9.out rfl)) rfl ⟨.slice A3 lq cA, .slice A6 ld c6, ?_, ?_, ?_, (HB6.out.trans (HO7.out.below (Nat.le_refl _))).trans (HO9.out.below (Nat.le_refl _))⟩
            · rw [HPE3.out, ← HTS.out]
              show Ending.returned (Value.tuple #[_, Value.int IntKind.i64 ((k : Int) + (q2 : Int) + (d2 : Int)), Value.int IntKind.i64 0]) = _
              rw [show (k : Int) + (q2 : Int) + (d2 : Int) = ((k + q2 + d2 : Nat) : Int) from by omega]
            · rw [HPE3.out]
              exact ⟨A3, cA, by rw [HLQ.out], (HH6.out.only HNI.out HO7.out).only HNI.out HO9.out⟩
            · rw [HPE3.out]
              exact ⟨A6, c6, by rw [HLD.out], (HD6.out.only HNO6.out HO7.out).only HNO6.out HO9.out, HZ6.out⟩
          · rw [if_pos hd3] at HPE3
            have HPX := HPE3
            have hd9 : (d3 == 0) = false := beq_eq_false_iff_ne.2 hd3
            clear hd3
            go_wp2_with (first
              | (refine store_msg info40 rfl _ _ rfl w.heap.size (.int .i64 0) (.string ⟨#[]⟩) (.slice none 0 0) (.slice none 0 0) rfl rfl rfl rfl rfl rfl _ HR6.out rfl ?_)
              | fail)
            intro W9 ho9 hr9
            have HO9 := hid ho9
            have HR9 := hid hr9
            clear ho9 hr9
            go_wp2_with fail
            exact bodyPost_ret (ret_msg3 (p := 2) (q := 3) (r := 4) Tryz.results20 _ _ w.heap.size _ _ _ rfl rfl rfl (load40 HR9.out rfl)) rfl ⟨.slice none 0 0, .slice none 0 0, by rw [HPX.out]; rfl, by rw [HPX.out]; exact HdsV.nil _, by rw [HPX.out]; exact BtV.nil _, HB6.out.trans (HO9.out.below (Nat.le_refl _))⟩
        · have HPX : Hid (PR = (⟨st, m1, q1, []⟩, k + q2, 0)) := by show _ = _; rw [HPE2.out]; rfl
          go_wp2_with (first
            | (refine load_msg rfl _ rfl w.heap.size _ rfl (load40 HR4.out rfl) ?_)
            | (refine store_msg info40 rfl _ _ rfl w.heap.size (.int .i64 (st : Int)) (.string TS) (.slice A3 lq cA) (.slice none 0 0) rfl rfl rfl rfl rfl rfl _ HR4.out rfl ?_)
            | fail)
          intro W9 ho9 hr9
          have HO9 := hid ho9
          have HR9 := hid hr9
          clear ho9 hr9
          go_wp2_with fail
          refine bodyPost_ret (ret_msg3 (p := 2) (q := 3) (r := 4) Tryz.results20 _ _ w.heap.size _ _ _ rfl rfl rfl (load40 HR9.out rfl)) rfl ⟨.slice A3 lq cA, .slice none 0 0, ?_, ?_, ?_, HB4.out.trans (HO9.out.below (Nat.le_refl _))⟩
          · rw [HPX.out, ← HTS.out]
            show Ending.returned (Value.tuple #[_, Value.int IntKind.i64 ((k : Int) + (q2 : Int)), Value.int IntKind.i64 0]) = _
            rw [show (k : Int) + (q2 : Int) = ((k + q2 : Nat) : Int) from by omega]
          · rw [HPX.out]
            exact ⟨A3, cA, by rw [HLQ.out], HH4.out.only HNI.out HO9.out⟩
          · rw [HPX.out]
            exact BtV.nil _
      · rw [if_pos hq3] at HPE2
        have HPX := HPE2
        have hq9 : (q3 == 0) = false := beq_eq_false_iff_ne.2 hq3
        clear hq3
        go_wp2_with (first
          | (refine store_msg info40 rfl _ _ rfl w.heap.size (.int .i64 0) (.string ⟨#[]⟩) (.slice none 0 0) (.slice none 0 0) rfl rfl rfl rfl rfl rfl _ HR3.out rfl ?_)
          | fail)
        intro W9 ho9 hr9
        have HO9 := hid ho9
        have HR9 := hid hr9
        clear ho9 hr9
        go_wp2_with fail
        exact bodyPost_ret (ret_msg3 (p := 2) (q := 3) (r := 4) Tryz.results20 _ _ w.heap.size _ _ _ rfl rfl rfl (load40 HR9.out rfl)) rfl ⟨.slice none 0 0, .slice none 0 0, by rw [HPX.out]; rfl, by rw [HPX.out]; exact HdsV.nil _, by rw [HPX.out]; exact BtV.nil _, HB3.out.trans (HO9.out.below (Nat.le_refl _))⟩
  · rw [if_pos hE] at HPE
    have HPX := HPE
    have hE9 : (E == 0) = false := beq_eq_false_iff_ne.2 hE
    clear hE
    go_wp2_with (first
      | (refine store_msg info40 rfl _ _ rfl w.heap.size (.int .i64 0) (.string ⟨#[]⟩) (.slice none 0 0) (.slice none 0 0) rfl rfl rfl rfl rfl rfl _ HR1.out rfl ?_)
      | fail)
    intro W9 ho9 hr9
    have HO9 := hid ho9
    have HR9 := hid hr9
    clear ho9 hr9
    go_wp2_with fail
    exact bodyPost_ret (ret_msg3 (p := 2) (q := 3) (r := 4) Tryz.results20 _ _ w.heap.size _ _ _ rfl rfl rfl (load40 HR9.out rfl)) rfl ⟨.slice none 0 0, .slice none 0 0, by rw [HPX.out]; rfl, by rw [HPX.out]; exact HdsV.nil _, by rw [HPX.out]; exact BtV.nil _, HB1.out.trans (HO9.out.below (Nat.le_refl _))⟩
end Go.Proofs.YtclonnpglikddaaGreatDoor
