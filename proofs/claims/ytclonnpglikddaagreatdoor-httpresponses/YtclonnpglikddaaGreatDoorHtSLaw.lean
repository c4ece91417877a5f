
/- Which responses may be, how they are put together, and that they are read back: the statement's walk. -/
import Derived.Test.YtclonnpglikddaaGreatDoorHdArg
import Derived.Test.YtclonnpglikddaaGreatDoorHtSame
import Derived.Test.YtclonnpglikddaaGreatDoorHtAw
import Derived.Test.YtclonnpglikddaaGreatDoorHtPS
import Derived.Test.YtclonnpglikddaaGreatDoorHtRMayS
import Derived.Test.YtclonnpglikddaaGreatDoorHtRRes
import Derived.Deep.DeepCutAuto
import Derived.OpenShut
import Derived.BigQuiet
import Derived.Test.YtclonnpglikddaaGreatDoorHtMsg
import Derived.Test.YtclonnpglikddaaGreatDoorHtLine
namespace Go.Proofs.YtclonnpglikddaaGreatDoor
set_option linter.unusedVariables false
set_option linter.unusedSimpArgs false
open Go.RowKit Go.BigFrame
/-- The headers l are answered so, in blocks from b on. -/
def HdsN (w : World) (b : Nat) (v : Value) (l : List HdV) : Prop := ∃ A c, v = .slice A l.length c ∧ HdsAt w A l ∧ ∀ g, g < b → NotIn A g
def BtN (w : World) (b : Nat) (v : Value) (l : List UInt8) : Prop := ∃ A c, v = .slice A l.length c ∧ BytesAt w A l ∧ (l.length = 0 → A = none ∧ c = 0 ∨ ∃ x, A = some x) ∧ ∀ g, g < b → NotIn A g
theorem HdsN.nil (w : World) (b : Nat) : HdsN w b (.slice none 0 0) [] := ⟨none, 0, rfl, fun h => absurd h (by simp), fun g _ x hx => by cases hx⟩
theorem BtN.nil (w : World) (b : Nat) : BtN w b (.slice none 0 0) [] := ⟨none, 0, rfl, fun h => absurd h (by simp), fun _ => .inl ⟨rfl, rfl⟩, fun g _ x hx => by cases hx⟩
attribute [local go_sem ↓] slI_eq in
set_option maxHeartbeats 4000000 in
set_option maxRecDepth 100000 in
theorem parseResN_any (b : List UInt8) (X : Addr) (c : Nat) (hb : b.length ≤ 900000) (hc : b.length ≤ c) (w : World) (hT : TabC w) (hA : BytesAt w (some X) b) : Calls Tryz.prog 20 #[.slice (some X) b.length c] w fun e w' => ∃ vh vb, e = .returned (.tuple #[.agg #[.int .i64 (parseResp b).1.status, .string (asS (parseResp b).1.reason), vh, vb], .int .i64 (parseResp b).2.1, .int .i64 (parseResp b).2.2]) ∧ HdsN w' w.heap.size vh (parseResp b).1.hds ∧ BtN w' w.heap.size vb (parseResp b).1.body ∧ Below w.heap.size w w' := by
  have HA := hid hA
  have HT := hid hT
  have HCL := hid (fun W hW hX => cutLine_any b X c (by omega) hc W hW hX)
  obtain ⟨hk1, hk2⟩ := line_le b
  have HPE : Hid (parseResp b = if (lineM b).2.2 ≠ 0 then (noResp, 0, (lineM b).2.2) else if okResp (cutM 2 (lineM b).1) = false then (noResp, 0, 5) else if (parseH (b.drop (lineM b).2.1)).2.2 ≠ 0 then (noResp, 0, (parseH (b.drop (lineM b).2.1)).2.2) else if bareM (statV ((cutM 2 (lineM b).1).getD 1 [])) then (⟨statV ((cutM 2 (lineM b).1).getD 1 []), (cutM 2 (lineM b).1).getD 2 [], (parseH (b.drop (lineM b).2.1)).1, []⟩, (lineM b).2.1 + (parseH (b.drop (lineM b).2.1)).2.1, 0) else if (bodyM (b.drop ((lineM b).2.1 + (parseH (b.drop (lineM b).2.1)).2.1)) (parseH (b.drop (lineM b).2.1)).1 true).2.2 ≠ 0 then (noResp, 0, (bodyM (b.drop ((lineM b).2.1 + (parseH (b.drop (lineM b).2.1)).2.1)) (parseH (b.drop (lineM b).2.1)).1 true).2.2) else (⟨statV ((cutM 2 (lineM b).1).getD 1 []), (cutM 2 (lineM b).1).getD 2 [], (parseH (b.drop (lineM b).2.1)).1, (bodyM (b.drop ((lineM b).2.1 + (parseH (b.drop (lineM b).2.1)).2.1)) (parseH (b.drop (lineM b).2.1)).1 true).1⟩, (lineM b).2.1 + (parseH (b.drop (lineM b).2.1)).2.1 + (bodyM (b.drop ((lineM b).2.1 + (parseH (b.drop (lineM b).2.1)).2.1)) (parseH (b.drop (lineM b).2.1)).1 true).2.1, 0)) := rfl
  generalize parseResp b = PR at HPE ⊢
  generalize lineM b = LM at HCL HPE hk1 hk2
  obtain ⟨s, k, E⟩ := LM
  simp only at HCL HPE hk1 hk2
  have HRR := hid (fun W hW => readRes_any s (by omega) W hW)
  obtain ⟨hr1, hr2⟩ := resp_line s
  rw [← hr1] at HPE
  have HM : Hid (lineB s = true → resS s = ((statV ((cutM 2 s).getD 1 []) : Nat) : Int) ∧ resR s = (cutM 2 s).getD 2 []) := fun h => by
    have := hr2 h
    unfold resS resR
    rw [h, this.1, this.2]
    exact ⟨rfl, rfl⟩
  have hpl := parse_le (b.drop k)
  have hpb := body_le b k (parseH (b.drop k)).2.1 (parseH (b.drop k)).1 true
  have hfew := parse_few (b.drop k)
  have HSM := hid (parse_small (b.drop k) (by rw [List.length_drop]; omega))
  rw [List.length_drop] at hpl
  generalize hn : b.length = n at hb hc hk1 hk2 hpl hpb HCL ⊢
  have HN := hid hn
  have HLK : Hid ((b.drop k).length = n - k) := by show _ = _; rw [List.length_drop, hn]
  have hsl := slI_run X n c k hk1 hc
  have HY := hid (slI_at hA hn hc k hk1)
  have HPA : Hid (∀ Y W, TabS W → BytesAt W (some Y) (b.drop k) → Calls Tryz.prog 38 #[.slice (some Y) (n - k) (c - k)] W fun e w' => ∃ v, e = .returned (.tuple #[v, .int .i64 (parseH (b.drop k)).2.1, .int .i64 (parseH (b.drop k)).2.2]) ∧ OwnH w' W.heap.size v (parseH (b.drop k)).1 ∧ Below W.heap.size W w') := fun Y W h1 h2 => by
    have := parse9_any (b.drop k) Y (c - k) (by rw [HLK.out]; omega) (by rw [HLK.out]; omega) W h1 h2
    rwa [HLK.out] at this
  generalize (if c = k then X else X.add k) = Y at hsl HY
  generalize hQ : parseH (b.drop k) = Q at HPE hpl hpb hfew HSM HPA
  obtain ⟨q1, q2, q3⟩ := Q
  simp only at HPE hpl hpb hfew HSM HPA
  have hm : k + q2 ≤ n := by omega
  have hsl2 := slI_run X n c (k + q2) hm hc
  rw [show ((k + q2 : Nat) : Int) = (k : Int) + (q2 : Int) from by omega] at hsl2
  have HZ := hid (slI_at hA hn hc (k + q2) hm)
  generalize (if c = k + q2 then X else X.add (k + q2)) = Z at hsl2 HZ
  have HLK2 : Hid ((b.drop (k + q2)).length = n - (k + q2)) := by show _ = _; rw [List.length_drop, hn]
  have HRB : Hid (∀ A cA W, TabC W → HdsAt W A q1 → BytesAt W (some Z) (b.drop (k + q2)) → Calls Tryz.prog 39 #[.slice A q1.length cA, .slice (some Z) (n - (k + q2)) (c - (k + q2)), .int .i64 ((n - (k + q2) : Nat) : Int)] W fun e w' => ∃ v, e = .returned (.tuple #[v, .int .i64 (bodyM (b.drop (k + q2)) q1 true).2.1, .int .i64 (bodyM (b.drop (k + q2)) q1 true).2.2]) ∧ Down w' W.heap.size v (bodyM (b.drop (k + q2)) q1 true).1 ∧ Below W.heap.size W w') := fun A cA W h1 h2 h3 => by
    have := readBody_any (b.drop (k + q2)) q1 true A cA Z (c - (k + q2)) ((n - (k + q2) : Nat) : Int) (by rw [if_pos rfl, HLK2.out]) (by omega) HSM.out (by rw [HLK2.out]; omega) (by rw [HLK2.out]; omega) W h1 h2 h3
    rwa [HLK2.out] at this
  have hsub : (n : Int) - ((k : Int) + (q2 : Int)) = ((n - (k + q2) : Nat) : Int) := by omega
  generalize bodyM (b.drop (k + q2)) q1 true = D at HRB HPE hpb
  obtain ⟨d1, d2, d3⟩ := D
  simp only at HRB HPE hpb
  clear hA hT hQ hn HSM HLK HLK2 hr1 hr2
  generalize n - k = n1 at hsl HPA
  generalize c - k = c1 at hsl HPA
  generalize n - (k + q2) = n2 at hsl2 HRB hsub
  generalize c - (k + q2) = c2 at hsl2 HRB
  generalize lineB s = ok at HRR HPE HM
  generalize statV ((cutM 2 s).getD 1 []) = st at HPE HM
  generalize (cutM 2 s).getD 2 [] = p1 at HPE HM
  have HBA := hid (fun W => bodiless_any (st : Int) W)
  generalize bareM (st : Int) = bare at HBA HPE
  generalize resS s = m0 at HRR HM
  generalize resR s = m1 at HRR HM
  generalize hTS : asS m1 = TS at HRR
  have HTS := hid hTS
  clear hTS
  generalize asS s = SS at HCL HRR
  have HR0 := hid (heap_alloc_new w (.cells #[.int .i64 0, .string ⟨#[]⟩, .slice none 0 0, .slice none 0 0] 40))
  have HB0 := hid (alloc_below (Below.refl w.heap.size w) (Nat.le_refl _) (.cells #[.int .i64 0, .string ⟨#[]⟩, .slice none 0 0, .slice none 0 0] 40))
  have hz0 : (w.alloc (.cells #[.int .i64 0, .string ⟨#[]⟩, .slice none 0 0, .slice none 0 0] 40)).heap.size = w.heap.size + 1 := by simp
  have HZ0 := hid hz0
  clear hz0
  go_enter Tryz.func20, Tryz.ntmps20
  go_wp2_with fail
  refine (HCL.out _ (HT.out.tab.below HB0.out) (HA.out.below HB0.out (Nat.le_refl _))).mono ?_
  rintro e W1 ⟨rfl, hb1⟩
  have hs1 : w.heap.size + 1 ≤ W1.heap.size := by have := hb1.size; have := HZ0.out; omega
  have HR1 := hid ((hb1.block w.heap.size (by have := HZ0.out; omega)).trans HR0.out)
  have HB1 := hid (HB0.out.trans (hb1.mono (by have := HZ0.out; omega)))
  clear hb1 HR0 HCL
  by_cases hE : E = 0
  · subst hE
    rw [if_neg (by simp)] at HPE
    go_wp2_with fail
    refine (HRR.out _ (HT.out.below HB1.out)).mono ?_
    rintro e W2 ⟨rfl, hb2⟩
    have hs2 : w.heap.size + 1 ≤ W2.heap.size := by have := hb2.size; omega
    have HR2 := hid ((hb2.block w.heap.size (by omega)).trans HR1.out)
    have HB2 := hid (HB1.out.trans (hb2.mono (by omega)))
    clear hb2 HR1 HRR
    cases ok
    · have HPX : Hid (PR = (noResp, 0, 5)) := by show _ = _; rw [HPE.out]; rfl
      go_wp2_with (first
        | (refine store_msg info40 rfl _ _ rfl w.heap.size (.int .i64 0) (.string ⟨#[]⟩) (.slice none 0 0) (.slice none 0 0) rfl rfl rfl rfl rfl rfl _ HR2.out rfl ?_)
        | fail)
      intro W9 ho9 hr9
      have HO9 := hid ho9
      have HR9 := hid hr9
      clear ho9 hr9
      go_wp2_with fail
      exact bodyPost_ret (ret_msg3 (p := 2) (q := 3) (r := 4) Tryz.results20 _ _ w.heap.size _ _ _ rfl rfl rfl (load40 HR9.out rfl)) rfl ⟨.slice none 0 0, .slice none 0 0, by rw [HPX.out]; rfl, by rw [HPX.out]; exact HdsN.nil _ _, by rw [HPX.out]; exact BtN.nil _ _, HB2.out.trans (HO9.out.below (Nat.le_refl _))⟩
    · have HPE2 : Hid (PR = if q3 ≠ 0 then (noResp, 0, q3) else if bare then (⟨st, p1, q1, []⟩, k + q2, 0) else if d3 ≠ 0 then (noResp, 0, d3) else (⟨st, p1, q1, d1⟩, k + q2 + d2, 0)) := by show _ = _; rw [HPE.out]; rfl
      obtain ⟨e0, e1⟩ := HM.out rfl
      subst e0 e1
      clear HPE HM
      go_wp2_with fail
      refine (HPA.out _ _ (HT.out.tab.below HB2.out) (HY.out.below HB2.out (Nat.le_refl _))).mono ?_
      rintro e W3 ⟨v3, rfl, ho3, hb3⟩
      have hs3 : w.heap.size + 1 ≤ W3.heap.size := by have := hb3.size; omega
      have HR3 := hid ((hb3.block w.heap.size (by omega)).trans HR2.out)
      have HB3 := hid (HB2.out.trans (hb3.mono (by omega)))
      obtain ⟨A3, cA, rfl, hat3, hno3⟩ := ho3.at
      have HH3 := hid hat3
      have HNI := hid (hno3 w.heap.size (by omega))
      have HNX : Hid (∀ g, g < w.heap.size → NotIn A3 g) := fun g hg => hno3 g (by omega)
      clear hb3 HR2 ho3 hat3 hno3 HPA hsl
      by_cases hq3 : q3 = 0
      · subst hq3
        rw [if_neg (by simp)] at HPE2
        generalize hLQ : q1.length = lq at HRB ⊢
        have HLQ := hid hLQ
        clear hLQ
        go_wp2_with (first
          | (refine store_msg info40 rfl _ _ rfl w.heap.size (.int .i64 (st : Int)) (.string TS) (.slice A3 lq cA) (.slice none 0 0) rfl rfl rfl rfl rfl rfl _ HR3.out rfl ?_)
          | fail)
        intro W4 ho4 hr4
        have HR4 := hid hr4
        have HB4 := hid (HB3.out.trans (ho4.below (Nat.le_refl _)))
        have HH4 := hid (HH3.out.only HNI.out ho4)
        have hs4 : w.heap.size + 1 ≤ W4.heap.size := by rw [ho4.size]; exact hs3
        clear ho4 hr4 HR3 HH3
        go_wp2_with fail
        refine (HBA.out _).mono ?_
        rintro e W5 ⟨rfl, rfl⟩
        cases bare
        · have HPE3 : Hid (PR = if d3 ≠ 0 then (noResp, 0, d3) else (⟨st, m1, q1, d1⟩, k + q2 + d2, 0)) := by show _ = _; rw [HPE2.out]; rfl
          clear HPE2
          go_wp2_with fail
          refine (HRB.out _ _ _ (HT.out.below HB4.out) HH4.out (HZ.out.below HB4.out (Nat.le_refl _))).mono ?_
          rintro e W6 ⟨v6, rfl, hd6, hb6⟩
          have hs6 : w.heap.size + 1 ≤ W6.heap.size := by have := hb6.size; omega
          have HR6 := hid ((hb6.block w.heap.size (by omega)).trans HR4.out)
          have HB6 := hid (HB4.out.trans (hb6.mono (by omega)))
          have HH6 := hid (HH4.out.below hb6 (Nat.le_refl _))
          obtain ⟨A6, c6, rfl, hat6, hz6, hno6⟩ := hd6.at
          have HD6 := hid hat6
          have HNO6 := hid (hno6 w.heap.size (by omega))
          have HNY : Hid (∀ g, g < w.heap.size → NotIn A6 g) := fun g hg => hno6 g (by omega)
          have HZ6 := hid hz6
          clear hb6 HR4 HH4 hd6 hat6 hno6 hz6 HRB hsl2 hsub
          by_cases hd3 : d3 = 0
          · subst hd3
            rw [if_neg (by simp)] at HPE3
            generalize hLD : d1.length = ld
            have HLD := hid hLD
            clear hLD
            go_wp2_with (first
              | (refine store_part rfl 23 _ _ rfl w.heap.size 3 (.slice A6 ld c6) 40 #[.int .i64 (st : Int), .string TS, .slice A3 lq cA, .slice none 0 0] #[.int .i64 (st : Int), .string TS, .slice A3 lq cA, .slice A6 ld c6] rfl rfl info23 (show 3 < 4 by decide) rfl rfl HR6.out rfl ?_)
              | fail)
            intro W7 ho7 hr7
            have HO7 := hid ho7
            have HR7 := hid hr7
            clear ho7 hr7
            go_wp2_with (first
              | (refine load_msg rfl _ rfl w.heap.size _ rfl (load40 HR7.out rfl) ?_)
              | (refine store_msg info40 rfl _ _ rfl w.heap.size (.int .i64 (st : Int)) (.string TS) (.slice A3 lq cA) (.slice A6 ld c6) rfl rfl rfl rfl rfl rfl _ HR7.out rfl ?_)
              | fail)
            intro W9 ho9 hr9
            have HO9 := hid ho9
            have HR9 := hid hr9
            clear ho9 hr9
            go_wp2_with fail
            refine bodyPost_ret (ret_msg3 (p := 2) (q := 3) (r := 4) Tryz.results20 _ _ w.heap.size _ _ _ rfl rfl rfl (load40 HR9.out rfl)) rfl ⟨.slice A3 lq cA, .slice A6 ld c6, ?_, ?_, ?_, (HB6.out.trans (HO7.out.below (Nat.le_refl _))).trans (HO9.out.below (Nat.le_refl _))⟩
            · rw [HPE3.out, ← HTS.out]
              show Ending.returned (Value.tuple #[_, Value.int IntKind.i64 ((k : Int) + (q2 : Int) + (d2 : Int)), Value.int IntKind.i64 0]) = _
              rw [show (k : Int) + (q2 : Int) + (d2 : Int) = ((k + q2 + d2 : Nat) : Int) from by omega]
            · rw [HPE3.out]
              exact ⟨A3, cA, by rw [HLQ.out], (HH6.out.only HNI.out HO7.out).only HNI.out HO9.out, HNX.out⟩
            · rw [HPE3.out]
              exact ⟨A6, c6, by rw [HLD.out], (HD6.out.only HNO6.out HO7.out).only HNO6.out HO9.out, HZ6.out, HNY.out⟩
          · rw [if_pos hd3] at HPE3
            have HPX := HPE3
            have hd9 : (d3 == 0) = false := beq_eq_false_iff_ne.2 hd3
            clear hd3
            go_wp2_with (first
              | (refine store_msg info40 rfl _ _ rfl w.heap.size (.int .i64 0) (.string ⟨#[]⟩) (.slice none 0 0) (.slice none 0 0) rfl rfl rfl rfl rfl rfl _ HR6.out rfl ?_)
              | fail)
            intro W9 ho9 hr9
            have HO9 := hid ho9
            have HR9 := hid hr9
            clear ho9 hr9
            go_wp2_with fail
            exact bodyPost_ret (ret_msg3 (p := 2) (q := 3) (r := 4) Tryz.results20 _ _ w.heap.size _ _ _ rfl rfl rfl (load40 HR9.out rfl)) rfl ⟨.slice none 0 0, .slice none 0 0, by rw [HPX.out]; rfl, by rw [HPX.out]; exact HdsN.nil _ _, by rw [HPX.out]; exact BtN.nil _ _, HB6.out.trans (HO9.out.below (Nat.le_refl _))⟩
        · have HPX : Hid (PR = (⟨st, m1, q1, []⟩, k + q2, 0)) := by show _ = _; rw [HPE2.out]; rfl
          go_wp2_with (first
            | (refine load_msg rfl _ rfl w.heap.size _ rfl (load40 HR4.out rfl) ?_)
            | (refine store_msg info40 rfl _ _ rfl w.heap.size (.int .i64 (st : Int)) (.string TS) (.slice A3 lq cA) (.slice none 0 0) rfl rfl rfl rfl rfl rfl _ HR4.out rfl ?_)
            | fail)
          intro W9 ho9 hr9
          have HO9 := hid ho9
          have HR9 := hid hr9
          clear ho9 hr9
          go_wp2_with fail
          refine bodyPost_ret (ret_msg3 (p := 2) (q := 3) (r := 4) Tryz.results20 _ _ w.heap.size _ _ _ rfl rfl rfl (load40 HR9.out rfl)) rfl ⟨.slice A3 lq cA, .slice none 0 0, ?_, ?_, ?_, HB4.out.trans (HO9.out.below (Nat.le_refl _))⟩
          · rw [HPX.out, ← HTS.out]
            show Ending.returned (Value.tuple #[_, Value.int IntKind.i64 ((k : Int) + (q2 : Int)), Value.int IntKind.i64 0]) = _
            rw [show (k : Int) + (q2 : Int) = ((k + q2 : Nat) : Int) from by omega]
          · rw [HPX.out]
            exact ⟨A3, cA, by rw [HLQ.out], HH4.out.only HNI.out HO9.out, HNX.out⟩
          · rw [HPX.out]
            exact BtN.nil _ _
      · rw [if_pos hq3] at HPE2
        have HPX := HPE2
        have hq9 : (q3 == 0) = false := beq_eq_false_iff_ne.2 hq3
        clear hq3
        go_wp2_with (first
          | (refine store_msg info40 rfl _ _ rfl w.heap.size (.int .i64 0) (.string ⟨#[]⟩) (.slice none 0 0) (.slice none 0 0) rfl rfl rfl rfl rfl rfl _ HR3.out rfl ?_)
          | fail)
        intro W9 ho9 hr9
        have HO9 := hid ho9
        have HR9 := hid hr9
        clear ho9 hr9
        go_wp2_with fail
        exact bodyPost_ret (ret_msg3 (p := 2) (q := 3) (r := 4) Tryz.results20 _ _ w.heap.size _ _ _ rfl rfl rfl (load40 HR9.out rfl)) rfl ⟨.slice none 0 0, .slice none 0 0, by rw [HPX.out]; rfl, by rw [HPX.out]; exact HdsN.nil _ _, by rw [HPX.out]; exact BtN.nil _ _, HB3.out.trans (HO9.out.below (Nat.le_refl _))⟩
  · rw [if_pos hE] at HPE
    have HPX := HPE
    have hE9 : (E == 0) = false := beq_eq_false_iff_ne.2 hE
    clear hE
    go_wp2_with (first
      | (refine store_msg info40 rfl _ _ rfl w.heap.size (.int .i64 0) (.string ⟨#[]⟩) (.slice none 0 0) (.slice none 0 0) rfl rfl rfl rfl rfl rfl _ HR1.out rfl ?_)
      | fail)
    intro W9 ho9 hr9
    have HO9 := hid ho9
    have HR9 := hid hr9
    clear ho9 hr9
    go_wp2_with fail
    exact bodyPost_ret (ret_msg3 (p := 2) (q := 3) (r := 4) Tryz.results20 _ _ w.heap.size _ _ _ rfl rfl rfl (load40 HR9.out rfl)) rfl ⟨.slice none 0 0, .slice none 0 0, by rw [HPX.out]; rfl, by rw [HPX.out]; exact HdsN.nil _ _, by rw [HPX.out]; exact BtN.nil _ _, HB1.out.trans (HO9.out.below (Nat.le_refl _))⟩
def lightM (l : List HdV) (n : Nat) : Bool := lightH l && decide (n ≤ 40000)
theorem light11_any (l : List HdV) (A : Option Addr) (c : Nat) (B : Option Addr) (n cb : Nat) (hf : FitH l) (w : World) (hA : HdsAt w A l) : Calls Tryz.prog 7 #[.slice A l.length c, .slice B n cb] w fun e w' => e = .returned (.bool (lightM l n)) ∧ Below w.heap.size w w' := by
  have HR : Hid (lightM l n = (decide (l.length ≤ 100) && decide (sizeH l ≤ 20000) && decide (n ≤ 40000))) := rfl
  by_cases h1 : l.length ≤ 100
  · have HS := hid (refSize_any l A c (by omega) hf w hA)
    have h1i : (l.length : Int) ≤ 100 := by omega
    rw [decide_eq_true h1] at HR
    clear hf hA h1
    generalize lightM l n = R at HR ⊢
    generalize sizeH l = sz at HS HR
    generalize l.length = ln at h1i HS ⊢
    by_cases h2 : sz ≤ 20000
    · have h2i : (sz : Int) ≤ 20000 := by omega
      rw [decide_eq_true h2] at HR
      clear h2
      by_cases h3 : n ≤ 40000
      · have h3i : (n : Int) ≤ 40000 := by omega
        rw [decide_eq_true h3] at HR
        clear h3
        go_enter Tryz.func7, Tryz.ntmps7
        go_wp2_with fail
        refine HS.out.mono ?_
        rintro e W ⟨rfl, hb⟩
        have HB := hid hb
        clear hb
        go_wp2_with fail
        go_ret
        exact ⟨by rw [HR.out]; first | rfl | simp [h3i], HB.out⟩
      · have h3i : ¬ (n : Int) ≤ 40000 := by omega
        rw [decide_eq_false h3] at HR
        clear h3
        go_enter Tryz.func7, Tryz.ntmps7
        go_wp2_with fail
        refine HS.out.mono ?_
        rintro e W ⟨rfl, hb⟩
        have HB := hid hb
        clear hb
        go_wp2_with fail
        go_ret
        exact ⟨by rw [HR.out]; first | rfl | simp <;> omega, HB.out⟩
    · have h2i : ¬ (sz : Int) ≤ 20000 := by omega
      rw [decide_eq_false h2] at HR
      clear h2
      go_enter Tryz.func7, Tryz.ntmps7
      go_wp2_with fail
      refine HS.out.mono ?_
      rintro e W ⟨rfl, hb⟩
      have HB := hid hb
      clear hb
      go_wp2_with fail
      go_ret
      exact ⟨by rw [HR.out]; first | rfl | simp <;> omega, HB.out⟩
  · have h1i : ¬ (l.length : Int) ≤ 100 := by omega
    rw [decide_eq_false h1] at HR
    clear hf hA h1
    generalize lightM l n = R at HR ⊢
    generalize l.length = ln at h1i ⊢
    go_enter Tryz.func7, Tryz.ntmps7
    go_wp2_with fail
    go_ret
    exact ⟨by rw [HR.out]; first | rfl | simp <;> omega, Below.refl _ _⟩
attribute [local go_sem ↓] load40_eq

theorem take_dst {P : Program} {md : Region.Mode} {ops : Array Oper} {Q : Exit → Act → World → Prop} {S : World → Prop} {i : Nat} {oi : Oper} {v : Value} {fuel : Nat} {listed : Array Bool} {a : Act} {w : World} (d : Option Tmp) (hi : ops[i]? = some oi) (hd : oi.dst = d)
    (hs : Region.noSelect ops = true) (hf : Region.free md ops listed i = true) (hr : (Region.ready md ops listed).contains i = true)
    (hQ : ∀ c a w, Q (.panic c) (a.put d v) w → Q (.panic c) a w) (hy : YieldsIf P ops S oi v a) (hS : S w)
    (h : wpAnyH P md ops Q S fuel (listed.setIfInBounds i true) (a.put d v) w) : wpAnyH P md ops Q S (fuel + 1) listed a w := by
  subst hd
  exact wpAnyH_take hi hs hf hr hQ hy hS h
theorem resp_len (st : Int) (t : List UInt8) (l : List HdV) (bd : List UInt8) (h : mayResp ⟨st, t, l, bd⟩ = true) : (printResp ⟨st, t, l, bd⟩).length ≤ t.length + 50010 := by
  obtain ⟨hck, _, hs1, hs2, _, h3⟩ := may_ownS _ h
  obtain ⟨_, h2⟩ := check_fit _ hck
  have h4 := print_size (ownResp ⟨st, t, l, bd⟩)
  have h5 := digs_len 9 st.toNat (by simp only at hs2; omega)
  unfold printResp joinM lineResp
  simp only at h3
  simp only [List.length_append, List.length_cons, verM, List.length_nil]
  omega
set_option maxHeartbeats 8000000 in
set_option maxRecDepth 100000 in
theorem responses11_law (st : Int) (t : List UInt8) (l : List HdV) (A : Option Addr) (c : Nat) (bd : List UInt8) (B : Option Addr) (cb : Nat) (mo : List UInt8) (D : Option Addr) (cd : Nat) (ht : t.length ≤ 140737488355328) (hf : FitH l) (w : World) (hA : HdsAt w A l) (hB : BytesAt w B bd) (hBz : bd.length = 0 → B = none ∧ cb = 0 ∨ ∃ x, B = some x) (hD : BytesAt w D mo) (hT : TabC w) : Calls Tryz.prog 4 #[.agg #[.int .i64 st, .string (asS t), .slice A l.length c, .slice B bd.length cb], .slice D mo.length cd] w fun e w' => e = .returned (.bool true) ∧ Below w.heap.size w w' := by
  have HT := hid hT
  have HA := hid hA
  have HBB := hid hB
  have HBZ := hid hBz
  have HAW := hid (fun W hW => awake11 W hW)
  have HLI := hid (fun W hW => light11_any l A c B bd.length cb hf W hW)
  have zt := asS_size t
  have HB0 := hid (alloc_below (Below.refl w.heap.size w) (Nat.le_refl _) (.cells #[.int .i64 st, .string (asS t), .slice A l.length c, .slice B bd.length cb] 40))
  have HR0 := hid (heap_alloc_new w (.cells #[.int .i64 st, .string (asS t), .slice A l.length c, .slice B bd.length cb] 40))
  have HSD : Hid (∀ W, Below w.heap.size w W → Src Tryz.prog 1 23 (.slice D mo.length cd) mo.length (bvs mo) W) := fun W h => src_bytes (hD.below h (Nat.le_refl _)) cd (fun _ => opt_any D)
  clear hT hA hB hBz hf hD
  by_cases hgood : lightM l bd.length = true ∧ t.length ≤ 5000 ∧ mo.length ≤ 1000
  case neg =>
    obtain ⟨li, hli⟩ : ∃ li, li = lightM l bd.length := ⟨_, rfl⟩
    rw [← hli] at HLI hgood
    generalize asS t = T at zt HB0 HR0 ⊢
    generalize l.length = ln at HLI HB0 HR0 ⊢
    generalize bd.length = n at HLI HB0 HR0 hli ⊢
    generalize mo.length = k at hgood HSD ⊢
    clear hli HSD
    go_enter Tryz.func4, Tryz.ntmps4
    go_wp2_with fail
    refine (HLI.out _ (HA.out.below HB0.out (Nat.le_refl _))).mono ?_
    rintro e W1 ⟨rfl, hb1⟩
    have HB1 := hid (HB0.out.trans (hb1.mono HB0.out.size))
    have hr1 := row_keep hb1 HR0.out
    have c1 : W1.cell? ⟨w.heap.size, 1, none⟩ = some (.string T) := by rw [cell_of_row _ _ _ _ _ _ hr1]; rfl
    clear hb1 hr1
    cases li
    · go_wp2_with fail
      refine (HAW.out _ (HT.out.below HB1.out)).mono ?_
      rintro e W2 ⟨rfl, hb⟩
      have HBe := hid (HB1.out.trans (hb.mono HB1.out.size))
      clear hb
      go_wp2_with fail
      go_ret
      exact ⟨rfl, HBe.out⟩
    by_cases h2 : 5000 < t.length
    · have h2i : (5000 : Int) < (T.size : Int) := by omega
      clear h2 hgood zt
      go_wp2_with fail
      refine (HAW.out _ (HT.out.below HB1.out)).mono ?_
      rintro e W2 ⟨rfl, hb⟩
      have HBe := hid (HB1.out.trans (hb.mono HB1.out.size))
      clear hb
      go_wp2_with fail
      go_ret
      exact ⟨rfl, HBe.out⟩
    have h2i : ¬ (5000 : Int) < (T.size : Int) := by omega
    have h3i : (1000 : Int) < (k : Int) := by
      rcases Nat.lt_or_ge 1000 k with h | h
      · omega
      · exact absurd ⟨rfl, by omega, h⟩ hgood
    clear h2 hgood zt
    go_wp2_with fail
    refine (HAW.out _ (HT.out.below HB1.out)).mono ?_
    rintro e W2 ⟨rfl, hb⟩
    have HBe := hid (HB1.out.trans (hb.mono HB1.out.size))
    clear hb
    go_wp2_with fail
    go_ret
    exact ⟨rfl, HBe.out⟩
  case pos =>
    obtain ⟨g1, g3, g4⟩ := hgood
    have HL1 := HLI
    rw [g1] at HL1
    unfold lightM at g1
    rw [Bool.and_eq_true] at g1
    obtain ⟨hl1, hl2⟩ := light_fit l g1.1
    have hl3 := of_decide_eq_true g1.2
    have h2i : ¬ (5000 : Int) < ((asS t).size : Int) := by rw [zt]; omega
    have h3i : ¬ (1000 : Int) < (mo.length : Int) := by omega
    have HMY := hid (fun W hW => refMayRes_any st t l bd A c B cb (by omega) hl1 hl2 (by omega) W hW)
    have HCK := hid (fun W h1 h2 => checkRes_any st t l bd A c B cb (by omega) hl1 hl2 (by omega) W h1 h2)
    cases hmay : mayResp ⟨st, t, l, bd⟩ with
    | false =>
      have HPR := hid (fun W h1 h2 => printRes_no st t l bd A c B cb (by omega) hl1 hl2 (by omega) hmay W h1 h2)
      rw [hmay] at HMY HCK
      rw [if_neg (by simp)] at HCK
      clear ht hl1 hl2 hl3 g1 g3 g4 zt HLI hmay HSD HBB HBZ
      generalize asS t = T at HB0 HR0 HMY HCK HPR h2i ⊢
      generalize l.length = ln at HL1 HB0 HR0 HMY HCK HPR ⊢
      generalize bd.length = n at HL1 HB0 HR0 HMY HCK HPR ⊢
      generalize mo.length = k at h3i ⊢
      go_enter Tryz.func4, Tryz.ntmps4
      go_wp2_with fail
      refine (HL1.out _ (HA.out.below HB0.out (Nat.le_refl _))).mono ?_
      rintro e W1 ⟨rfl, hb1⟩
      have HB1 := hid (HB0.out.trans (hb1.mono HB0.out.size))
      have HR1 := hid (row_keep hb1 HR0.out)
      have c1 : W1.cell? ⟨w.heap.size, 1, none⟩ = some (.string T) := by rw [cell_of_row _ _ _ _ _ _ HR1.out]; rfl
      have hld := loadM40 HR1.out rfl
      clear hb1
      go_wp2_with fail
      refine (HPR.out _ (HT.out.below HB1.out) (HA.out.below HB1.out (Nat.le_refl _))).mono ?_
      rintro e W2 ⟨rfl, hb2⟩
      have HB2 := hid (HB1.out.trans (hb2.mono HB1.out.size))
      have HR2 := hid (row_keep hb2 HR1.out)
      clear hb2 c1 hld
      have hld := loadM40 HR2.out rfl
      go_wp2_with fail
      refine (HMY.out _ (HA.out.below HB2.out (Nat.le_refl _))).mono ?_
      rintro e W3 ⟨rfl, hb3⟩
      have HB3 := hid (HB2.out.trans (hb3.mono HB2.out.size))
      have HR3 := hid (row_keep hb3 HR2.out)
      clear hb3 hld
      have hld := loadM40 HR3.out rfl
      go_wp2_with fail
      refine (HCK.out _ (HT.out.below HB3.out) (HA.out.below HB3.out (Nat.le_refl _))).mono ?_
      rintro e W4 ⟨rfl, hb4⟩
      have HB4 := hid (HB3.out.trans (hb4.mono HB3.out.size))
      clear hb4 hld
      go_wp2_with fail
      refine (HAW.out _ (HT.out.below HB4.out)).mono ?_
      rintro e W5 ⟨rfl, hb⟩
      have HBe := hid (HB4.out.trans (hb.mono HB4.out.size))
      clear hb
      go_wp2_with fail
      go_ret
      exact ⟨rfl, HBe.out⟩
    | true =>
      have HPR := hid (fun W h1 h2 h3 => printRes_ok st t l bd A c B cb (by omega) hl1 hl2 (by omega) hmay W h1 h2 h3)
      obtain ⟨hck, _, hs1, hs2, _, _⟩ := may_ownS _ hmay
      have HRQ := hid (fun W h1 h2 => refResponse_any st t l bd A c B cb hs1 hs2 (by omega) hl1 (by omega) hck W h1 h2)
      have hplen : (printResp ⟨st, t, l, bd⟩).length ≤ 60000 := by have := resp_len st t l bd hmay; omega
      rw [hmay] at HMY HCK
      rw [if_pos rfl] at HCK
      have HWI := hid (fun W hW => refWith_any l A c bd.length (by omega) (by omega) W hW)
      have HBA := hid (fun W => refBare_any st W)
      have HPA : Hid (∀ X c' W, (printResp ⟨st, t, l, bd⟩).length + mo.length ≤ c' → TabC W → BytesAt W (some X) (printResp ⟨st, t, l, bd⟩ ++ mo) → Calls Tryz.prog 20 #[.slice (some X) ((printResp ⟨st, t, l, bd⟩).length + mo.length) c'] W fun e w' => ∃ vh vb, e = .returned (.tuple #[.agg #[.int .i64 (parseResp (printResp ⟨st, t, l, bd⟩ ++ mo)).1.status, .string (asS (parseResp (printResp ⟨st, t, l, bd⟩ ++ mo)).1.reason), vh, vb], .int .i64 (parseResp (printResp ⟨st, t, l, bd⟩ ++ mo)).2.1, .int .i64 (parseResp (printResp ⟨st, t, l, bd⟩ ++ mo)).2.2]) ∧ HdsN w' W.heap.size vh (parseResp (printResp ⟨st, t, l, bd⟩ ++ mo)).1.hds ∧ BtN w' W.heap.size vb (parseResp (printResp ⟨st, t, l, bd⟩ ++ mo)).1.body ∧ Below W.heap.size W w') := fun X c' W h1 h2 h3 => by
        have := parseResN_any (printResp ⟨st, t, l, bd⟩ ++ mo) X c' (by rw [List.length_append]; omega) (by rw [List.length_append]; exact h1) W h2 h3
        rwa [List.length_append] at this
      have hOWl : (ownResp ⟨st, t, l, bd⟩).length ≤ 1000000 := by have := (check_fit _ hck).1; omega
      have HSA := hid (fun vh1 vb1 vh2 vb2 W g1 g2 g3 g4 => sameRes_any st (asS t) (ownResp ⟨st, t, l, bd⟩) bd vh1 vb1 vh2 vb2 hOWl W g1 g2 g3 g4)
      have HOW : Hid (ownResp ⟨st, t, l, bd⟩ = if bareM st then l else withM l bd.length) := rfl
      rw [resp_back _ hmay] at HPA
      have HPF : Hid (∀ X c' W, (printResp ⟨st, t, l, bd⟩).length + mo.length ≤ c' → TabC W → BytesAt W (some X) (printResp ⟨st, t, l, bd⟩ ++ mo) → Calls Tryz.prog 20 #[.slice (some X) ((printResp ⟨st, t, l, bd⟩).length + mo.length) c'] W fun e w' => ∃ vh vb, e = .returned (.tuple #[.agg #[.int .i64 st, .string (asS t), vh, vb], .int .i64 ((printResp ⟨st, t, l, bd⟩).length : Nat), .int .i64 0]) ∧ HdsN w' W.heap.size vh (ownResp ⟨st, t, l, bd⟩) ∧ BtN w' W.heap.size vb bd ∧ Below W.heap.size W w') := HPA.out
      clear HPA
      clear ht hl1 hl2 hl3 g1 g3 zt HLI hmay hck hOWl hs1 hs2
      generalize hOWg : ownResp ⟨st, t, l, bd⟩ = OW at HPF HSA HOW
      generalize withM l bd.length = WM at HWI HOW
      clear hOWg
      generalize hP : printResp ⟨st, t, l, bd⟩ = P at HPR HRQ HPF hplen
      clear hP
      generalize hPN : P.length = pn at HPR HRQ HPF hplen
      have HPN := hid hPN
      clear hPN
      generalize bareM st = bb at HBA HOW
      generalize asS t = T at HB0 HR0 HMY HCK HPR HRQ h2i HPF HSA ⊢
      generalize hln : l.length = ln at HL1 HB0 HR0 HMY HCK HPR HRQ HWI ⊢
      generalize hbn : bd.length = n at HL1 HB0 HR0 HMY HCK HPR HRQ HWI HBZ ⊢
      have HLN := hid hln
      have HBN := hid hbn
      clear hln hbn
      generalize mo.length = k at h3i HSD HPF g4 ⊢
      obtain ⟨PS, hPS⟩ : ∃ PS : ByteArray, PS = ⟨P.toArray⟩ := ⟨_, rfl⟩
      have HSTR : Hid (∀ W g cap, Own W w.heap.size g pn cap P → (convert 23 9 (.slice (some ⟨g, 0, none⟩) pn cap)).run Tryz.prog W = .ok (.string PS) W) := fun W g cap h => by
        have := str_part (c := cap) h.bytes HPN.out
        rwa [← hPS] at this
      clear hPS
      go_enter Tryz.func4, Tryz.ntmps4
      go_wp2_with fail
      obtain ⟨V0, hV0⟩ : ∃ V0, V0 = w.alloc (.cells #[.int .i64 st, .string T, .slice A ln c, .slice B n cb] 40) := ⟨_, rfl⟩
      have hz0 : V0.heap.size = w.heap.size + 1 := by rw [hV0]; simp
      rw [← hV0] at HB0 HR0 ⊢
      clear hV0
      have HZ0 := hid hz0
      clear hz0
      have KB : Hid (∀ W, Below V0.heap.size V0 W → Below w.heap.size w W ∧ W.heap[w.heap.size]? = some (.cells #[.int .i64 st, .string T, .slice A ln c, .slice B n cb] 40 (0, 0))) := fun W h => ⟨HB0.out.trans (h.mono HB0.out.size), row_keep h HR0.out⟩
      refine (HL1.out _ (HA.out.below HB0.out (Nat.le_refl _))).mono ?_
      rintro e W1 ⟨rfl, hb1⟩
      have HV1 := hid hb1
      have HB1 := hid (KB.out W1 hb1).1
      have HR1 := hid (KB.out W1 hb1).2
      have c1 : W1.cell? ⟨w.heap.size, 1, none⟩ = some (.string T) := by rw [cell_of_row _ _ _ _ _ _ HR1.out]; rfl
      have hld := loadM40 HR1.out rfl
      clear hb1
      go_wp2_with fail
      refine (HPR.out _ (HT.out.below HB1.out) (HA.out.below HB1.out (Nat.le_refl _)) (HBB.out.below HB1.out (Nat.le_refl _))).mono ?_
      rintro e W2 ⟨h2, cap2, rfl, ho2, hb2⟩
      have HV2 := hid (HV1.out.trans (hb2.mono HV1.out.size))
      have HB2 := hid (KB.out W2 HV2.out).1
      have HR2 := hid (KB.out W2 HV2.out).2
      have HO2 := hid ho2
      clear hb2 c1 hld ho2
      have hld := loadM40 HR2.out rfl
      go_wp2_with fail
      refine (HMY.out _ (HA.out.below HB2.out (Nat.le_refl _))).mono ?_
      rintro e W3 ⟨rfl, hb3⟩
      have HV3 := hid (HV2.out.trans (hb3.mono HV2.out.size))
      have HB3 := hid (KB.out W3 HV3.out).1
      have HR3 := hid (KB.out W3 HV3.out).2
      have HO3 := hid (HO2.out.below hb3 (Nat.le_refl _))
      clear hb3 hld HO2 HV2 HB2 HR2 HR1
      go_upto_region 6 with (fail)
      go_cut [64] (fun v wx => v = .bool false ∧ Hid (Below V0.heap.size V0 wx) ∧ Hid (Own wx W1.heap.size h2 pn cap2 P))
      case first => as_aux_lemma =>
        clear HPF HSA HWI HBA HSD HPR HMY HL1 h2i h3i
        have HCKB : Hid (∀ W, Below W3.heap.size W3 W → Calls Tryz.prog 18 #[.agg #[.int .i64 st, .string T, .slice A ln c, .slice B n cb]] W fun e w' => e = .returned (.int .i64 0) ∧ Below W3.heap.size W3 w') := fun W hW => by
          have hv := HV3.out.trans (hW.mono HV3.out.size)
          refine (HCK.out W (HT.out.below (KB.out _ hv).1) (HA.out.below (KB.out _ hv).1 (Nat.le_refl _))).mono ?_
          rintro e w' ⟨rfl, hb⟩
          exact ⟨rfl, hW.trans (hb.mono hW.size)⟩
        have HRQB : Hid (∀ W, Below W3.heap.size W3 W → Calls Tryz.prog 19 #[.agg #[.int .i64 st, .string T, .slice A ln c, .slice B n cb]] W fun e w' => (∃ A2 c2, e = .returned (.slice A2 pn c2) ∧ (convert 23 9 (.slice A2 pn c2)).run Tryz.prog w' = .ok (.string PS) w') ∧ Below W3.heap.size W3 w') := fun W hW => by
          have hv := HV3.out.trans (hW.mono HV3.out.size)
          refine (HRQ.out W (HA.out.below (KB.out _ hv).1 (Nat.le_refl _)) (HBB.out.below (KB.out _ hv).1 (Nat.le_refl _))).mono ?_
          rintro e w' ⟨h4, cap4, rfl, ho4, hb⟩
          exact ⟨⟨_, cap4, rfl, HSTR.out w' _ _ (ho4.mono (KB.out _ hv).1.size)⟩, hW.trans (hb.mono hW.size)⟩
        have HSK : Hid (∀ W, Below W3.heap.size W3 W → (loadI 40 (.pointer (some ⟨w.heap.size, 0, none⟩))).run Tryz.prog W = .ok (.agg #[.int .i64 st, .string T, .slice A ln c, .slice B n cb]) W ∧ (convert 23 9 (.slice (some ⟨h2, 0, none⟩) pn cap2)).run Tryz.prog W = .ok (.string PS) W ∧ Hid (Below W3.heap.size W3 W)) := fun W hW => by
          have hv := HV3.out.trans (hW.mono HV3.out.size)
          exact ⟨loadM40 (KB.out _ hv).2 rfl, HSTR.out W _ _ ((HO3.out.below hW (Nat.le_refl _)).mono HB1.out.size), hW⟩
        clear HCK HRQ HSTR
        refine wp_region_held_drew (S := fun W => (loadI 40 (.pointer (some ⟨w.heap.size, 0, none⟩))).run Tryz.prog W = .ok (.agg #[.int .i64 st, .string T, .slice A ln c, .slice B n cb]) W ∧ (convert 23 9 (.slice (some ⟨h2, 0, none⟩) pn cap2)).run Tryz.prog W = .ok (.string PS) W ∧ Hid (Below W3.heap.size W3 W)) (by kernel_rfl) ?_ (fun hHeld => ?_)
        · exact HSK.out _ (below_drewN _ _ 1)
        refine take_dst (i := 0) (v := ?_) (some 50) rfl rfl (by kernel_rfl) (by kernel_rfl) (by kernel_rfl) (fun _ _ _ h => h) (Or.inl ⟨by rfl, ?_⟩) (by assumption) ?_
        rotate_left 1
        focus (intro ww hSw; (try dsimp only at hSw); go_simp; try with_reducible rfl)
        (try simp only [Act.put, List.setIfInBounds_toArray, List.set_cons_zero, List.set_cons_succ])
        refine wpAnyH_ready (rs := [1]) (by kernel_rfl) (by simp) ?_
        refine AllReadyH.cons rfl (fun K hK => ?_) AllReadyH.nil
        go_simp
        refine (HCKB.out _ (below_drewN W3.heap.size W3 1)).mono ?_
        rintro e w1 ⟨rfl, hb1⟩
        clear hHeld
        go_wp2_with fail
        refine hK.out _ _ ?_ (fun hHeld => ?_)
        · exact HSK.out _ hb1
        clear hK K
        (try simp only [Act.put, List.setIfInBounds_toArray, List.set_cons_zero, List.set_cons_succ])
        refine take_dst (i := 2) (v := ?_) (some 52) rfl rfl (by kernel_rfl) (by kernel_rfl) (by kernel_rfl) (fun _ _ _ h => h) (Or.inl ⟨by rfl, ?_⟩) (by assumption) ?_
        rotate_left 1
        focus (intro ww hSw; (try dsimp only at hSw); go_simp; try with_reducible rfl)
        (try simp only [Act.put, List.setIfInBounds_toArray, List.set_cons_zero, List.set_cons_succ])
        refine take_dst (i := 3) (v := ?_) (some 53) rfl rfl (by kernel_rfl) (by kernel_rfl) (by kernel_rfl) (fun _ _ _ h => h) (Or.inl ⟨by rfl, ?_⟩) (by assumption) ?_
        rotate_left 1
        focus (intro ww hSw; (try dsimp only at hSw); go_simp; try with_reducible rfl)
        (try simp only [Act.put, List.setIfInBounds_toArray, List.set_cons_zero, List.set_cons_succ])
        refine take_dst (i := 4) (v := ?_) (some 54) rfl rfl (by kernel_rfl) (by kernel_rfl) (by kernel_rfl) (fun _ _ _ h => h) (Or.inl ⟨by rfl, ?_⟩) (by assumption) ?_
        rotate_left 1
        focus (intro ww hSw; (try dsimp only at hSw); go_simp; try with_reducible rfl)
        (try simp only [Act.put, List.setIfInBounds_toArray, List.set_cons_zero, List.set_cons_succ])
        refine take_dst (i := 5) (v := ?_) (some 55) rfl rfl (by kernel_rfl) (by kernel_rfl) (by kernel_rfl) (fun _ _ _ h => h) (Or.inl ⟨by rfl, ?_⟩) (by assumption) ?_
        rotate_left 1
        focus (intro ww hSw; (try dsimp only at hSw); go_simp; try with_reducible rfl)
        (try simp only [Act.put, List.setIfInBounds_toArray, List.set_cons_zero, List.set_cons_succ])
        refine take_dst (i := 6) (v := ?_) (some 56) rfl rfl (by kernel_rfl) (by kernel_rfl) (by kernel_rfl) (fun _ _ _ h => h) (Or.inl ⟨by rfl, ?_⟩) (by assumption) ?_
        rotate_left 1
        focus (intro ww hSw; (try dsimp only at hSw); go_simp; try with_reducible rfl)
        (try simp only [Act.put, List.setIfInBounds_toArray, List.set_cons_zero, List.set_cons_succ])
        refine take_dst (i := 7) (v := ?_) (some 57) rfl rfl (by kernel_rfl) (by kernel_rfl) (by kernel_rfl) (fun _ _ _ h => h) (Or.inl ⟨by rfl, ?_⟩) (by assumption) ?_
        rotate_left 1
        focus (intro ww hSw; (try dsimp only at hSw); go_simp; try with_reducible rfl)
        (try simp only [Act.put, List.setIfInBounds_toArray, List.set_cons_zero, List.set_cons_succ])
        refine take_dst (i := 8) (v := ?_) (some 58) rfl rfl (by kernel_rfl) (by kernel_rfl) (by kernel_rfl) (fun _ _ _ h => h) (Or.inl ⟨by rfl, ?_⟩) (by assumption) ?_
        rotate_left 1
        focus (intro ww hSw; (try dsimp only at hSw); go_simp; try with_reducible rfl)
        (try simp only [Act.put, List.setIfInBounds_toArray, List.set_cons_zero, List.set_cons_succ])
        refine take_dst (i := 9) (v := ?_) (some 59) rfl rfl (by kernel_rfl) (by kernel_rfl) (by kernel_rfl) (fun _ _ _ h => h) (Or.inl ⟨by rfl, ?_⟩) (by assumption) ?_
        rotate_left 1
        focus (intro ww hSw; (try dsimp only at hSw); go_simp; try with_reducible rfl)
        (try simp only [Act.put, List.setIfInBounds_toArray, List.set_cons_zero, List.set_cons_succ])
        refine take_dst (i := 10) (v := ?_) (some 60) rfl rfl (by kernel_rfl) (by kernel_rfl) (by kernel_rfl) (fun _ _ _ h => h) (Or.inl ⟨by rfl, ?_⟩) (by assumption) ?_
        rotate_left 1
        focus (intro ww hSw; (try dsimp only at hSw); go_simp; try with_reducible rfl)
        (try simp only [Act.put, List.setIfInBounds_toArray, List.set_cons_zero, List.set_cons_succ])
        refine wpAnyH_ready (rs := [11]) (by kernel_rfl) (by simp) ?_
        refine AllReadyH.cons rfl (fun K hK => ?_) AllReadyH.nil
        go_simp
        refine (HRQB.out _ hb1).mono ?_
        rintro e w2 ⟨⟨A1, c1, rfl, s2⟩, hb2⟩
        clear hHeld
        go_wp2_with fail
        refine hK.out _ _ ?_ (fun hHeld => ?_)
        · exact HSK.out _ hb2
        clear hK K
        (try simp only [Act.put, List.setIfInBounds_toArray, List.set_cons_zero, List.set_cons_succ])
        refine wpAnyH_ready (rs := [12]) (by kernel_rfl) (by simp) ?_
        refine AllReadyH.cons rfl (fun K hK => ?_) AllReadyH.nil
        go_simp
        refine hK.out _ _ ?_ (fun hHeld => ?_)
        · exact HSK.out _ hb2
        clear hK K
        (try simp only [Act.put, List.setIfInBounds_toArray, List.set_cons_zero, List.set_cons_succ])
        refine take_dst (i := 13) (v := ?_) (some 63) rfl rfl (by kernel_rfl) (by kernel_rfl) (by kernel_rfl) (fun _ _ _ h => h) (Or.inl ⟨by rfl, ?_⟩) (by assumption) ?_
        rotate_left 1
        focus (intro ww hSw; (try dsimp only at hSw); go_simp; try with_reducible rfl)
        (try simp only [Act.put, List.setIfInBounds_toArray, List.set_cons_zero, List.set_cons_succ])
        refine take_dst (i := 14) (v := ?_) (some 64) rfl rfl (by kernel_rfl) (by kernel_rfl) (by kernel_rfl) (fun _ _ _ h => h) (Or.inl ⟨by rfl, ?_⟩) (by assumption) ?_
        rotate_left 1
        focus (intro ww hSw; (try dsimp only at hSw); go_simp; try with_reducible rfl)
        (try simp only [Act.put, List.setIfInBounds_toArray, List.set_cons_zero, List.set_cons_succ])
        refine wpAnyH_done (by kernel_rfl) ?_ _
        go_wp2_with fail
        go_meet
        case rel => exact ⟨rfl, HV3.out.trans (hb2.mono HV3.out.size), HO3.out.below hb2 (Nat.le_refl _)⟩
      case rest =>
        obtain ⟨rfl, HV5, HO5⟩ := hcut
        clear HRQ HCK HO3 HV3 HB3 HR3 HMY HPR HSTR
        have HV6 := hid (alloc_below HV5.out HV5.out.size (.cells #[] 5))
        have HZ6 : Hid (Own (wc.alloc (.cells #[] 5)) V0.heap.size wc.heap.size 0 0 []) := Own.of_own (own_zero wc V0.heap.size HV5.out.size)
        have HS6 : Hid (Src Tryz.prog 1 23 (.slice (some ⟨h2, 0, none⟩) pn cap2) pn (bvs P) (wc.alloc (.cells #[] 5))) := by
          have := src_bytes (w := wc.alloc (.cells #[] 5)) (HO5.out.alloc _).bytes cap2 (fun _ => .inr ⟨_, rfl⟩)
          rwa [HPN.out] at this
        go_wp2_with (first
          | (refine wpList_own rfl _ _ 23 rfl V0.heap.size wc.heap.size 0 0 pn [] P _ rfl rfl HZ6.out HS6.out (by omega) HV6.out.size ?_)
          | fail)
        intro g7 cap7 W7 ho7 hg7 _
        have HV7 := hid (HZ6.out.grown HV6.out HV6.out.size hg7)
        have HO7 : Hid (Own W7 V0.heap.size g7 pn cap7 P) := by
          show Own _ _ _ _ _ _
          simpa using ho7
        have HS7 := hid (HSD.out W7 (KB.out W7 HV7.out).1)
        try rw [Nat.zero_add]
        clear ho7 hg7 HZ6 HS6 HO5
        go_wp2_with (first
          | (refine wpList_own rfl _ _ 23 rfl V0.heap.size g7 pn cap7 k P mo _ rfl rfl HO7.out HS7.out (by omega) HV7.out.size ?_)
          | fail)
        intro g8 cap8 W8 ho8 hg8 _
        have HO8 := hid ho8
        have HV8 := hid (HO7.out.grown HV7.out HV7.out.size hg8)
        have HB8 := hid (KB.out W8 HV8.out).1
        have hcap8 := ho8.le
        clear ho8 hg8 HO7 HS7
        go_wp2_with fail
        refine (HPF.out _ cap8 _ (by omega) (HT.out.below HB8.out) HO8.out.bytes).mono ?_
        rintro e W9 ⟨vh, vb, rfl, hh, hbv, hb9⟩
        obtain ⟨Ah, dh, rfl, hath, hnoh⟩ := hh
        obtain ⟨Ab, db, rfl, hatb, hzb, hnob⟩ := hbv
        have hgl : w.heap.size < W8.heap.size := by have h1 := HV8.out.size; have h2 := HZ0.out; omega
        have HNh := hid (hnoh w.heap.size hgl)
        have HNb := hid (hnob w.heap.size hgl)
        have HZb := hid hzb
        rw [HBN.out]
        generalize hOL : OW.length = ol
        have HOL := hid hOL
        have HV9 := hid (HV8.out.trans (hb9.mono HV8.out.size))
        have HWa := hid (alloc_below (Below.refl W9.heap.size W9) (Nat.le_refl _) (.cells #[.int .i64 st, .string T, .slice Ah ol dh, .slice Ab n db] 40))
        have HVa := hid (HV9.out.trans (HWa.out.mono HV9.out.size))
        have HRa := hid (heap_alloc_new W9 (.cells #[.int .i64 st, .string T, .slice Ah ol dh, .slice Ab n db] 40))
        have HHa := hid (hath.below HWa.out (Nat.le_refl _))
        have HDa := hid (hatb.below HWa.out (Nat.le_refl _))
        have hz9 : w.heap.size < W9.heap.size := by have h1 := HV9.out.size; have h2 := HZ0.out; omega
        have HSa := hid (KB.out _ HVa.out).2
        have HBa := hid (KB.out _ HVa.out).1
        clear hb9 hath hatb hnoh hnob hzb HV9 HWa hgl hOL
        have c0 : (W9.alloc (.cells #[.int .i64 st, .string T, .slice Ah ol dh, .slice Ab n db] 40)).cell? ⟨w.heap.size, 0, none⟩ = some (.int .i64 st) := by rw [cell_of_row _ _ _ _ _ _ HSa.out]; rfl
        have c2 : (W9.alloc (.cells #[.int .i64 st, .string T, .slice Ah ol dh, .slice Ab n db] 40)).cell? ⟨w.heap.size, 2, none⟩ = some (.slice A ln c) := by rw [cell_of_row _ _ _ _ _ _ HSa.out]; rfl
        have c3 : (W9.alloc (.cells #[.int .i64 st, .string T, .slice Ah ol dh, .slice Ab n db] 40)).cell? ⟨w.heap.size, 3, none⟩ = some (.slice B n cb) := by rw [cell_of_row _ _ _ _ _ _ HSa.out]; rfl
        go_wp2_with fail
        refine (HBA.out _).mono ?_
        rintro e Wx ⟨rfl, rfl⟩
        cases bb
        · rw [if_neg (by simp)] at HOW
          have ho := HOW.out
          clear HOW
          go_wp2_with fail
          refine (HWI.out _ (HA.out.below HBa.out (Nat.le_refl _))).mono ?_
          rintro e Wb ⟨vw, rfl, how, hbw⟩
          obtain ⟨Aw, dw, rfl, hatw, hnow⟩ := how.at
          have HVb := hid (HVa.out.trans (hbw.mono HVa.out.size))
          have HSb := hid (KB.out _ HVb.out).2
          have HRb := hid (row_keep hbw HRa.out)
          have HHb := hid (HHa.out.below hbw (Nat.le_refl _))
          have HDb := hid (HDa.out.below hbw (Nat.le_refl _))
          have HWb := hid hatw
          have HNw := hid (hnow w.heap.size (by simp; omega))
          generalize hwl : WM.length = wl
          have HWL := hid hwl
          clear hbw how hatw hnow c0 c2 c3 HRa HSa HHa HDa HVa hwl
          go_wp2_with (first
            | (refine store_part rfl 22 _ _ rfl w.heap.size 2 (.slice Aw wl dw) 40 #[.int .i64 st, .string T, .slice A ln c, .slice B n cb] #[.int .i64 st, .string T, .slice Aw wl dw, .slice B n cb] rfl rfl info22 (show 2 < 4 by decide) rfl rfl HSb.out rfl ?_)
            | fail)
          intro Wc hoc hrc
          have HBc := hid ((KB.out _ HVb.out).1.trans (hoc.below (Nat.le_refl _)))
          have HRc := hid (hoc.kept (by omega) HRb.out)
          have HSc := hid hrc
          have HHc := hid (HHb.out.only HNh.out hoc)
          have HDc := hid (HDb.out.only HNb.out hoc)
          have HWc := hid (HWb.out.only HNw.out hoc)
          have hl1 := loadM40 HRc.out rfl
          have hl2 := loadM40 HSc.out rfl
          have HSQ := hid (HSA.out (.slice Ah ol dh) (.slice Ab n db) (.slice Aw wl dw) (.slice B n cb) Wc ⟨Ah, dh, by rw [HOL.out], HHc.out⟩ ⟨Aw, dw, by rw [ho, HWL.out], by rw [ho]; exact HWc.out⟩ ⟨Ab, db, by rw [HBN.out], HDc.out, HZb.out⟩ ⟨B, cb, by rw [HBN.out], HBB.out.below HBc.out (Nat.le_refl _), by rw [HBN.out]; exact HBZ.out⟩)
          clear hoc hrc ho HSb HRb HHb HDb HWb
          go_wp2_with fail
          refine HSQ.out.mono ?_
          rintro e Wd ⟨rfl, hbd⟩
          have HBd := hid (HBc.out.trans (hbd.mono HBc.out.size))
          clear hbd hl1 hl2
          go_wp2_with fail
          refine (HAW.out _ (HT.out.below HBd.out)).mono ?_
          rintro e We ⟨rfl, hb⟩
          have HBe := hid (HBd.out.trans (hb.mono HBd.out.size))
          clear hb
          go_wp2_with fail
          go_ret
          exact ⟨rfl, HBe.out⟩
        · rw [if_pos rfl] at HOW
          have ho := HOW.out
          have hl1 := loadM40 HRa.out rfl
          have hl2 := loadM40 HSa.out rfl
          have HSQ := hid (HSA.out (.slice Ah ol dh) (.slice Ab n db) (.slice A ln c) (.slice B n cb) _ ⟨Ah, dh, by rw [HOL.out], HHa.out⟩ ⟨A, c, by rw [ho, HLN.out], by rw [ho]; exact HA.out.below HBa.out (Nat.le_refl _)⟩ ⟨Ab, db, by rw [HBN.out], HDa.out, HZb.out⟩ ⟨B, cb, by rw [HBN.out], HBB.out.below HBa.out (Nat.le_refl _), by rw [HBN.out]; exact HBZ.out⟩)
          clear HOW ho
          go_wp2_with fail
          refine HSQ.out.mono ?_
          rintro e Wd ⟨rfl, hbd⟩
          have HBd := hid (HBa.out.trans (hbd.mono HBa.out.size))
          clear hbd hl1 hl2 c0 c2 c3
          go_wp2_with fail
          refine (HAW.out _ (HT.out.below HBd.out)).mono ?_
          rintro e We ⟨rfl, hb⟩
          have HBe := hid (HBd.out.trans (hb.mono HBd.out.size))
          clear hb
          go_wp2_with fail
          go_ret
          exact ⟨rfl, HBe.out⟩
theorem responses11_row (st : Int) (t : List UInt8) (l : List HdV) (A : Option Addr) (c : Nat) (bd : List UInt8) (B : Option Addr) (cb : Nat) (D : Option Addr) (ld cd : Nat) (zs : List Int) (w : World) (hm : (Lit.int .i64 st).wf = true) (ht : t.length ≤ 140737488355328) (hf : FitH l) (hA : HdsAt w A l) (hB : BytesAt w B bd) (hBz : bd.length = 0 → B = none ∧ cb = 0 ∨ ∃ x, B = some x) (hD : IsRow .u8 w D ld cd zs) (hT : TabC w) : Calls Tryz.prog 4 #[.agg #[.int .i64 st, .string (asS t), .slice A l.length c, .slice B bd.length cb], .slice D ld cd] w fun e w' => e = .returned (.bool true) ∧ Below w.heap.size w w' := by
  obtain ⟨mo, rfl, _, hD2⟩ := row_at hD (Nat.lt_of_le_of_lt (Nat.zero_le _) hT.big)
  exact responses11_law st t l A c bd B cb mo D cd ht hf w hA hB hBz hD2 hT
open Go.ChangeShapes Go.WideShapes Go.ChangeAt in
set_option maxRecDepth 100000 in
/-- A slice of headers, by its cells. -/
theorem open_hdsC {H : Type} {enc : TypeId × Value → H} {W : World} {fuel : Nat} {cs0 : List Value} {x0 : DataW H × List MemPlace} (hf : DataW.trod enc Tryz.prog W 0 (fun _ => true) true fuel 22 cs0 = some x0) :
    ∃ (l : List HdV) (A : Option Addr) (c : Nat), cs0 = [.slice A l.length c] ∧ HdsAt W A l ∧ ((∀ n ∈ x0.1.weights Tryz.prog 22, n ≤ reachBytes) → FitH l) := by
  have hc : Tryz.prog.cellsOf 69 = 2 := by kernel_rfl
  rcases Go.Deep.open_slice Tryz.underlying22 hf with ⟨hcs, _⟩ | ⟨x, len, cap, m, n, D, Pl, hcs, _, hlc, _, hm, hd2, hx⟩
  · exact ⟨[], none, 0, hcs, fun h => absurd h (by simp), fun _ k hk => absurd hk (by simp)⟩
  · simp only [if_true] at hm
    rw [hc] at hx
    obtain ⟨L, hL, hp⟩ := choose_hd len (fun i h => W.cell? (x.add (i * 2)) = some (.string (asS h.name)) ∧ W.cell? ((x.add (i * 2)).add 1) = some (.string (asS h.value)) ∧ D i = .agg [.lit (.string h.name), .lit (.string h.value)]) (fun i hi => by
      obtain ⟨cs', h1, h2⟩ := hx i (by omega)
      obtain ⟨_, hlen, hcell⟩ := World.cells?_some h1
      obtain ⟨h, h3, h4⟩ := open_cellsH hlen h2
      refine ⟨h, ?_, ?_, h4⟩
      · have := hcell 0 (by omega)
        rw [h3] at this
        rw [show (x.add (i * 2)).add 0 = x.add (i * 2) from by simp [Addr.add]] at this
        exact this
      · have := hcell 1 (by omega)
        rw [h3] at this
        exact this)
    refine ⟨L, some x, cap, by rw [hL]; exact hcs, fun h0 => ?_, fun hw k hk => ?_⟩
    · have hsp := spot_of (hp 0 (by omega)).1
      obtain ⟨q, o, sp⟩ := x
      have hs2 : sp = none := by simpa [Addr.add] using hsp.1
      subst hs2
      refine ⟨q, o, rfl, by simpa [Addr.add] using hsp.2, fun j hj => ?_⟩
      have := hp j (by omega)
      rw [Addr.add_mid, Addr.add_mid] at this
      exact ⟨this.1, this.2.1⟩
    · have hk2 : k < len := by omega
      have hde : D k ∈ (List.range len).map D := List.mem_map.2 ⟨k, List.mem_range.2 hk2, rfl⟩
      have hin : ∀ z ∈ (D k).weights Tryz.prog 69, z ≤ 140737488355328 := fun z hz => by
        have hdd : x0.1 = .slice ((List.range len).map D) ((List.range (m - len)).map fun j => D (len + j)) := by rw [hd2]
        have : z ∈ x0.1.weights Tryz.prog 22 := by
          rw [hdd]
          have hu := Tryz.underlying22
          simp only [DataW.weights, hu, List.mem_cons, List.mem_append]
          exact .inr (.inl (weights_all hde z hz))
        have h2 := hw z this
        have := reachBytes_lt
        omega
      have hDk := (hp k hk2).2.2
      rw [hDk] at hin
      exact ⟨hin _ (weights_hd _ _).1, hin _ (weights_hd _ _).2⟩
open Go.ChangeShapes Go.WideShapes Go.ChangeAt in
set_option maxRecDepth 100000 in
/-- A slice of bytes, by its cells. -/
theorem open_btsC {H : Type} {enc : TypeId × Value → H} {W : World} {fuel : Nat} {cs0 : List Value} {x0 : DataW H × List MemPlace} (h0 : 0 < W.heap.size) (hf : DataW.trod enc Tryz.prog W 0 (fun _ => true) true fuel 23 cs0 = some x0) :
    ∃ (l : List UInt8) (A : Option Addr) (c : Nat), cs0 = [.slice A l.length c] ∧ BytesAt W A l ∧ (l.length = 0 → A = none ∧ c = 0 ∨ ∃ x, A = some x) := by
  have : ∃ (a : Option Addr) (len cap : Nat) (zs : List Int), cs0 = [.slice a len cap] ∧ IsRow .u8 W a len cap zs := by
    rcases open_ints Tryz.underlying23 Tryz.underlying5 (by kernel_rfl) hf with ⟨hcs, _⟩ | ⟨x, l, c, zs, hcs, _, hl, hm, hz, _, hcell, hwz⟩
    · exact ⟨none, 0, 0, [], hcs, .inl ⟨rfl, rfl, rfl, rfl⟩⟩
    · exact ⟨some x, l, c, zs, hcs, .inr ⟨_, rfl, hl, hm, by simpa using hz, hcell, hwz⟩⟩
  obtain ⟨a, len, cap, zs, hcs, hr⟩ := this
  obtain ⟨l, rfl, _, hA⟩ := row_at hr h0
  exact ⟨l, a, cap, hcs, hA, row_nil hr⟩
open Go.ChangeShapes Go.WideShapes Go.ChangeAt in
set_option maxRecDepth 100000 in
/-- A response, by value. -/
theorem open_resp {H : Type} {enc : TypeId × Value → H} {W : World} {b0 : Nat} {v : Value} {d : DataW H} {ps : List MemPlace} (hp : 0 < W.heap.size) (hval : Value.okWide Tryz.prog W .any b0 40 v) (hd : DataW.Trod enc Tryz.prog W 0 (fun _ => true) true 40 v d ps) (hw : ∀ n ∈ d.weights Tryz.prog 40, n ≤ reachBytes) :
    ∃ (m : Int) (t : List UInt8) (l : List HdV) (A : Option Addr) (c : Nat) (bd : List UInt8) (B : Option Addr) (cb : Nat), v = .agg #[.int .i64 m, .string (asS t), .slice A l.length c, .slice B bd.length cb] ∧ (Lit.int .i64 m).wf = true ∧ t.length ≤ 140737488355328 ∧ FitH l ∧ HdsAt W A l ∧ BytesAt W B bd ∧ (bd.length = 0 → B = none ∧ cb = 0 ∨ ∃ x, B = some x) := by
  have hc : Tryz.prog.cellsOf 40 = 4 := by kernel_rfl
  have hc0 : Tryz.prog.cellsOf 3 = 1 := by kernel_rfl
  have hc1 : Tryz.prog.cellsOf 9 = 1 := by kernel_rfl
  have hc2 : Tryz.prog.cellsOf 22 = 1 := by kernel_rfl
  have hc3 : Tryz.prog.cellsOf 23 = 1 := by kernel_rfl
  obtain ⟨cs, rfl, hsz⟩ : ∃ cs : Array Value, v = .agg cs ∧ cs.size = 4 := by
    simp only [Value.okWide, Tryz.underlying40] at hval
    obtain ⟨cs, h1, h2, _⟩ := hval
    exact ⟨cs, h1, by rw [h2, hc]⟩
  obtain ⟨fuel, hf⟩ := hd
  obtain ⟨xs, m, _, hxd, _, hn, hx⟩ := DataW.trod_struct Tryz.underlying40 hf
  have hn3 : xs.length = 4 := hn
  have h0 : DataW.trod enc Tryz.prog W 0 (fun _ => true) true m 3 (((Value.agg cs).cells.toList.drop 0).take (Tryz.prog.cellsOf 3)) = xs[0]? := hx 0 _ rfl
  have h1 : DataW.trod enc Tryz.prog W 0 (fun _ => true) true m 9 (((Value.agg cs).cells.toList.drop 1).take (Tryz.prog.cellsOf 9)) = xs[1]? := hx 1 _ rfl
  have h2 : DataW.trod enc Tryz.prog W 0 (fun _ => true) true m 22 (((Value.agg cs).cells.toList.drop 2).take (Tryz.prog.cellsOf 22)) = xs[2]? := hx 2 _ rfl
  have h3 : DataW.trod enc Tryz.prog W 0 (fun _ => true) true m 23 (((Value.agg cs).cells.toList.drop 3).take (Tryz.prog.cellsOf 23)) = xs[3]? := hx 3 _ rfl
  clear hx hn hf
  match xs, hn3 with
  | [y0, y1, y2, y3], _ =>
  have hcl : (Value.agg cs).cells.toList = cs.toList := rfl
  rw [hc0, hcl] at h0
  rw [hc1, hcl] at h1
  rw [hc2, hcl] at h2
  rw [hc3, hcl] at h3
  obtain ⟨cl, rfl⟩ : ∃ cl : List Value, cs = cl.toArray := ⟨cs.toList, by simp⟩
  have hcz : cl.length = 4 := by simpa using hsz
  match cl, hcz with
  | [c0, c1, c2, c3], _ =>
  obtain ⟨s0, e0, d0, z0⟩ := DataW.trod_int Tryz.underlying3 h0
  obtain ⟨s1, e1, d1, _⟩ := DataW.trod_string Tryz.underlying9 h1
  obtain ⟨l, A, c, e2, hA, hF⟩ := open_hdsC (show _ = some y2 from h2)
  obtain ⟨bd, B, cb, e3, hB, hBz⟩ := open_btsC hp (show _ = some y3 from h3)
  have q0 : c0 = .int .i64 s0 := by simpa using e0
  have q1 : c1 = .string s1 := by simpa using e1
  have q2 : c2 = .slice A l.length c := by simpa using e2
  have q3 : c3 = .slice B bd.length cb := by simpa using e3
  have hdd : d = .agg [y0.1, y1.1, y2.1, y3.1] := (Prod.mk.inj hxd).1
  obtain ⟨fs, hu, hfs⟩ : ∃ fs : Array Field, Tryz.prog.underlying 40 = some (.struct fs) ∧ fs.toList.map (·.type) = [3, 9, 22, 23] := ⟨_, Tryz.underlying40, rfl⟩
  have hin : ∀ n, (n ∈ y0.1.weights Tryz.prog 3 ∨ n ∈ y1.1.weights Tryz.prog 9 ∨ n ∈ y2.1.weights Tryz.prog 22) → n ≤ reachBytes := fun n h => hw n (by
    rw [hdd]
    simp only [DataW.weights, hu, hfs, DataW.weightsEach, List.mem_append]
    rcases h with h | h | h
    · exact .inl h
    · exact .inr (.inl h)
    · exact .inr (.inr (.inl h)))
  have hrb := reachBytes_lt
  refine ⟨s0, s1.data.toList, l, A, c, bd, B, cb, ?_, ?_, ?_, hF (fun n h => hin n (.inr (.inr h))), hA, hB, hBz⟩
  · simp only [asS_of]
    rw [q0, q1, q2, q3]
  · exact z0
  · have := hin s1.data.toList.length (.inr (.inl (by rw [d1]; simp only [DataW.weights, List.mem_cons, true_or])))
    omega
end Go.Proofs.YtclonnpglikddaaGreatDoor
