
/- A body in chunks read: what the reference's Decode does. -/
import Derived.Test.YtclonnpglikddaaGreatDoorHtPlain
import Derived.Test.YtclonnpglikddaaGreatDoorChRSz
import Derived.Test.YtclonnpglikddaaGreatDoorChDec
import Derived.Test.YtclonnpglikddaaGreatDoorDown
import Derived.Test.YtclonnpglikddaaGreatDoorHdRParse
namespace Go.Proofs.YtclonnpglikddaaGreatDoor
set_option linter.unusedVariables false
set_option linter.unusedSimpArgs false
open Go.RowKit Go.BigFrame
attribute [local go_sem ↓] slI_eq slJ_eq

theorem u8_ne (x : UInt8) (n : Nat) (hn : n < 256) (h : x ≠ UInt8.ofNat n) : ((x.toNat : Int) == (n : Int)) = false := by rw [u8_beq x n hn]; exact beq_eq_false_iff_ne.2 h
theorem u8_is (x : UInt8) (n : Nat) (hn : n < 256) (h : x = UInt8.ofNat n) : ((x.toNat : Int) == (n : Int)) = true := by rw [u8_beq x n hn]; exact beq_iff_eq.2 h
theorem src_byte (w : World) (x : UInt8) (v : Int) (hv : v = (x.toNat : Int)) : Src Tryz.prog 1 23 (.slice (some ⟨w.heap.size, 0, none⟩) 1 1) 1 (bvs [x]) (w.alloc (.cells #[.int .u8 v] 5)) := src_bytes (l := [x]) (BytesAt.one w x v hv) 1 (fun _ => .inr ⟨_, rfl⟩)
set_option maxHeartbeats 8000000 in
set_option maxRecDepth 100000 in
theorem refDecode_any (b : List UInt8) (A : Option Addr) (c : Nat) (hb : b.length ≤ 1000000) (hc : b.length ≤ c) (w : World) (hA : BytesAt w A b) : Calls Tryz.prog 81 #[.slice A b.length c] w fun e w' => ∃ v, e = .returned (.tuple #[v, .int .i64 (decodeC b).2.1, .int .i64 (decodeC b).2.2]) ∧ Down w' w.heap.size v (decodeC b).1 ∧ Below w.heap.size w w' := by
  have HA := hid hA
  have HSD := hid (scan_dec b)
  have HP0 : Hid (decC (b.length + 1 - 0) (b.drop 0) 0 [] = decodeC b) := rfl
  generalize hP : decodeC b = P at HP0
  clear hP hA
  generalize hn : b.length = n at hb hc HP0 HSD ⊢
  have HN := hid hn
  clear hn
  have HO0 := hid (Own.zero w w.heap.size (Nat.le_refl _))
  have HB0 := hid (alloc_below (Below.refl w.heap.size w) (Nat.le_refl _) (.cells #[] 5))
  go_enter Tryz.func81, Tryz.ntmps81
  go_wp2_with fail
  go_loopw [5, 6, 7] (fun v av kv wr => ∃ (kk a g s cp : Nat) (body : List UInt8), kk ≤ n + 1 ∧ kv = .int .i64 (kk : Int) ∧ a ≤ n ∧ av = .int .i64 (a : Int) ∧ v = .slice (some ⟨g, 0, none⟩) s cp ∧ s ≤ 32768 ∧ Hid (Own wr w.heap.size g s cp body) ∧ Hid (decC (n + 1 - kk) (b.drop a) a body = P) ∧ Hid (Below w.heap.size w wr)) (fun v av kv wr => n + 1 - (intOf kv).toNat)
  case atStart => exact ⟨0, 0, w.heap.size, 0, 0, [], by omega, rfl, by omega, rfl, rfl, by omega, HO0, HP0, HB0⟩
  case round =>
    obtain ⟨kk, a, g, s, cp, body, hkk, rfl, ha, rfl, rfl, hs, HO, HLD, HB⟩ := hrel
    obtain ⟨V, hV⟩ : ∃ V, V = wr := ⟨_, rfl⟩
    subst hV
    by_cases hkn : kk ≤ n
    · have hkn2 : (kk : Int) ≤ (n : Int) := by omega
      obtain ⟨f, hf⟩ : ∃ f, n + 1 - kk = f + 1 := ⟨n - kk, by omega⟩
      have HLF : Hid (decC (f + 1) (b.drop a) a body = P) := by have := HLD.out; rw [hf] at this; exact this
      have HFK : Hid (f = n + 1 - (kk + 1)) := by show _ = _; omega
      obtain ⟨e, hsc, hout⟩ := HSD.out a ha
      have HSC := hid hsc
      have HOUT := hid hout
      have hge := hsc.ge
      have hle := hsc.le
      rw [HN.out] at hle
      have hup := hsc.upto
      clear hsc hout hf HLD
      go_wp2_with fail
      go_loop [8] (fun v => ∃ i : Nat, a ≤ i ∧ i ≤ e ∧ v = .int .i64 (i : Int)) (fun v => e - (intOf v).toNat)
      case atStart => exact ⟨a, Nat.le_refl _, hge, rfl⟩
      case round =>
        obtain ⟨i, hi1, hi2, rfl⟩ := hrel
        by_cases hie : i < e
        · obtain ⟨q, o, rfl, hq, hcc⟩ := HA.out (by rw [HN.out]; omega)
          have hcell := (HB.out.cell (p := ⟨q, o + i, none⟩) hq).trans (hcc i (by rw [HN.out]; omega))
          have hon := HSC.out.on i hi1 hie
          have h10 : (((b.getD i 0).toNat : Int) == 10) = false := u8_ne _ 10 (by decide) hon.1
          have h10b : (((b.getD i 0).toNat : Int) != 10) = true := by rw [bne, h10]; rfl
          have h258 : (i : Int) - (a : Int) < 258 := by omega
          have hin : (i : Int) < (n : Int) := by omega
          generalize (b.getD i 0).toNat = x at hcell h10 h10b
          clear hcc hon
          go_wp2_with fail
          go_round
          case rel => exact ⟨i + 1, by omega, by omega, by go_num⟩
          case measure => simp [intOf]; omega
        · obtain rfl : i = e := by omega
          clear hie hi2 hi1 HSC
          rcases HOUT.out with ⟨h1, h2, h3⟩ | ⟨h1, h3⟩ | ⟨h1, h2, h4, h5, h3⟩ | ⟨h1, h2, h4, h5, h6, h7, h8⟩
          · have HPE : Hid (P = ([], 0, 10)) := by show _ = _; rw [← HLF.out]; exact h3 f body
            have e1 : ¬ (i : Int) < (n : Int) := by omega
            have e2 : ((i : Int) == (n : Int)) = true := by rw [beq_iff_eq]; omega
            have e3 : (i : Int) - (a : Int) < 258 := by omega
            clear h1 h2 h3 HOUT
            go_wp2_with fail
            go_ret3
            exact ⟨_, by rw [HPE.out]; rfl, by rw [HPE.out]; exact Down.nil _ _, HB.out⟩
          · have HPE : Hid (P = ([], 0, 5)) := by show _ = _; rw [← HLF.out]; exact h3 f body
            have e3 : ¬ (i : Int) - (a : Int) < 258 := by omega
            have e4 : (258 : Int) ≤ (i : Int) - (a : Int) := by omega
            by_cases hen : i = n
            · have e1 : ¬ (i : Int) < (n : Int) := by omega
              have e2 : ((i : Int) == (n : Int)) = true := by rw [beq_iff_eq]; omega
              clear h1 h3 HOUT hen
              go_wp2_with fail
              go_ret3
              exact ⟨_, by rw [HPE.out]; rfl, by rw [HPE.out]; exact Down.nil _ _, HB.out⟩
            · have e1 : (i : Int) < (n : Int) := by omega
              have e2 : ((i : Int) == (n : Int)) = false := by rw [beq_eq_false_iff_ne]; omega
              obtain ⟨q, o, rfl, hq, hcc⟩ := HA.out (by rw [HN.out]; omega)
              have hcell := (HB.out.cell (p := ⟨q, o + i, none⟩) hq).trans (hcc i (by rw [HN.out]; omega))
              obtain ⟨bb, hbb⟩ : ∃ bb, (((b.getD i 0).toNat : Int) == 10) = bb := ⟨_, rfl⟩
              have hbn : (((b.getD i 0).toNat : Int) != 10) = !bb := by rw [bne, hbb]
              generalize (b.getD i 0).toNat = x at hcell hbb hbn
              clear hcc h1 h3 HOUT hen
              cases bb
              · go_wp2_with fail
                go_ret3
                exact ⟨_, by rw [HPE.out]; rfl, by rw [HPE.out]; exact Down.nil _ _, HB.out⟩
              · go_wp2_with fail
                go_ret3
                exact ⟨_, by rw [HPE.out]; rfl, by rw [HPE.out]; exact Down.nil _ _, HB.out⟩
          · have HPE : Hid (P = ([], 0, 5)) := by show _ = _; rw [← HLF.out]; exact h3 f body
            have e1 : (i : Int) < (n : Int) := by omega
            have e2 : ((i : Int) == (n : Int)) = false := by rw [beq_eq_false_iff_ne]; omega
            have e3 : (i : Int) - (a : Int) < 258 := by omega
            have e4 : ¬ (258 : Int) ≤ (i : Int) - (a : Int) := by omega
            obtain ⟨q, o, rfl, hq, hcc⟩ := HA.out (by rw [HN.out]; omega)
            have hcell := (HB.out.cell (p := ⟨q, o + i, none⟩) hq).trans (hcc i (by rw [HN.out]; omega))
            have hbb : (((b.getD i 0).toNat : Int) == 10) = true := u8_is _ 10 (by decide) h4
            have hbn : (((b.getD i 0).toNat : Int) != 10) = false := by rw [bne, hbb]; rfl
            generalize (b.getD i 0).toNat = x at hcell hbb hbn
            clear h3 h4 HOUT
            by_cases hia : i = a
            · have e5 : ((i : Int) == (a : Int)) = true := by rw [beq_iff_eq]; omega
              clear hia h5 hcc h1 h2
              go_wp2_with fail
              go_ret3
              exact ⟨_, by rw [HPE.out]; rfl, by rw [HPE.out]; exact Down.nil _ _, HB.out⟩
            · have e5 : ((i : Int) == (a : Int)) = false := by rw [beq_eq_false_iff_ne]; omega
              have h6 : b.getD (i - 1) 0 ≠ 13 := by
                rcases h5 with h5 | h5
                · exact absurd h5 hia
                · exact h5
              obtain ⟨i1, hi1⟩ : ∃ i1, i1 = i - 1 := ⟨_, rfl⟩
              have hr1 : (i : Int) - 1 = (i1 : Int) := by omega
              have hcel2 := (HB.out.cell (p := ⟨q, o + i1, none⟩) hq).trans (hcc i1 (by rw [HN.out]; omega))
              rw [← hi1] at h6
              have hb2 : (((b.getD i1 0).toNat : Int) == 13) = false := u8_ne _ 13 (by decide) h6
              have hb3 : (((b.getD i1 0).toNat : Int) != 13) = true := by rw [bne, hb2]; rfl
              have hi1n : i1 < n := by omega
              generalize (b.getD i1 0).toNat = x2 at hcel2 hb2 hb3
              clear hia h5 hcc h1 h2 h6 hi1
              go_wp2_with fail
              go_ret3
              exact ⟨_, by rw [HPE.out]; rfl, by rw [HPE.out]; exact Down.nil _ _, HB.out⟩
          · have h9 := h1
            have e1 : (i : Int) < (n : Int) := by omega
            have e2 : ((i : Int) == (n : Int)) = false := by rw [beq_eq_false_iff_ne]; omega
            have e3 : (i : Int) - (a : Int) < 258 := by omega
            have e4 : ¬ (258 : Int) ≤ (i : Int) - (a : Int) := by omega
            have e5 : ((i : Int) == (a : Int)) = false := by rw [beq_eq_false_iff_ne]; omega
            obtain ⟨q, o, rfl, hq, hcc⟩ := HA.out (by rw [HN.out]; omega)
            have HCC : Hid (∀ W j, Below w.heap.size w W → j < n → W.cell? ⟨q, o + j, none⟩ = some (.int .u8 (b.getD j 0).toNat)) := fun W j hb hj => (hb.cell (p := ⟨q, o + j, none⟩) hq).trans (hcc j (by rw [HN.out]; exact hj))
            have hcell := HCC.out _ i HB.out h1
            have hbb : (((b.getD i 0).toNat : Int) == 10) = true := u8_is _ 10 (by decide) h4
            have hbn : (((b.getD i 0).toNat : Int) != 10) = false := by rw [bne, hbb]; rfl
            generalize (b.getD i 0).toNat = x at hcell hbb hbn
            obtain ⟨i1, hi1⟩ : ∃ i1, i1 = i - 1 := ⟨_, rfl⟩
            have hr1 : (i : Int) - 1 = (i1 : Int) := by omega
            have hi1n : i1 < n := by omega
            have hi1a : a ≤ i1 := by omega
            have hcel2 := HCC.out _ i1 HB.out hi1n
            rw [← hi1] at h6 h7 h8
            have hb2 : (((b.getD i1 0).toNat : Int) == 13) = true := u8_is _ 13 (by decide) h6
            have hb3 : (((b.getD i1 0).toNat : Int) != 13) = false := by rw [bne, hb2]; rfl
            generalize (b.getD i1 0).toNat = x2 at hcel2 hb2 hb3
            have HBA : Hid (BytesAt w (some ⟨q, o, none⟩) b) := HA.out
            have hsj := slJ_run ⟨q, o, none⟩ n c a i1 hi1a (by omega)
            have HYA := hid (slJ_at HBA.out HN.out hc a i1 hi1a (by omega))
            have HSL : Hid (((b.drop a).take (i1 - a)).length = i1 - a) := by show _ = _; rw [List.length_take, List.length_drop, HN.out]; omega
            generalize hq2 : (b.drop a).take (i1 - a) = sl at HYA HSL h7 h8
            clear hq2
            generalize (if c = a then (⟨q, o, none⟩ : Addr) else (⟨q, o, none⟩ : Addr).add a) = Y at hsj HYA
            have hst := str_part (c := c - a) (HYA.out.below HB.out (Nat.le_refl _)) HSL.out
            have HRS : Hid (∀ W, Calls Tryz.prog 102 #[.string ⟨sl.toArray⟩] W fun e w' => e = .returned (.int .i64 (szC sl)) ∧ w' = W) := fun W => refSizeC_any sl (by rw [HSL.out]; omega) W
            generalize (⟨sl.toArray⟩ : ByteArray) = SL at hst HRS
            have HNG : Hid (szC sl < 0 → P = ([], 0, 5)) := fun h => by rw [← HLF.out]; exact h7 h f body
            have HST : Hid (0 ≤ szC sl → P = stepC f (b.drop (i + 1)) (szC sl).toNat (i + 1) body) := fun h => by rw [← HLF.out]; exact h8 h f body
            have hsm := szC_small sl
            generalize szC sl = Z at HRS HNG HST hsm
            clear hcc h2 h4 h5 h6 h7 h8 HOUT HSL HYA hi1 HLF
            generalize hcl : c - a = cl at hsj hst
            generalize hil : i1 - a = il at hsj hst
            clear hcl hil
            by_cases hz : Z < 0
            · have HPE := hid (HNG.out hz)
              go_wp2_with fail
              refine (HRS.out _).mono ?_
              rintro e W1 ⟨rfl, hW1⟩
              subst hW1
              go_wp2_with fail
              go_ret3
              exact ⟨_, by rw [HPE.out]; rfl, by rw [HPE.out]; exact Down.nil _ _, HB.out⟩
            · obtain ⟨S, rfl⟩ : ∃ S : Nat, Z = (S : Int) := ⟨Z.toNat, by omega⟩
              have HSS : Hid (P = stepC f (b.drop (i + 1)) S (i + 1) body) := by have := HST.out (by omega); rw [Int.toNat_natCast] at this; exact this
              have hSm : S < 4294967296 := by omega
              obtain ⟨a1, ha1⟩ : ∃ a1, a1 = i + 1 := ⟨_, rfl⟩
              have hra : (i : Int) + 1 = (a1 : Int) := by omega
              have ha1n : a1 ≤ n := by omega
              have ha1i : i < a1 := by omega
              rw [← ha1] at HSS
              clear HNG HST hz hsm ha1
              go_wp2_with fail
              refine (HRS.out _).mono ?_
              rintro e W1 ⟨rfl, hW1⟩
              subst hW1
              clear HRS hst hsj hcell hcel2 hbb hbn hb2 hb3
              by_cases hS0 : S = 0
              · subst hS0
                have hsl := slI_run ⟨q, o, none⟩ n c a1 ha1n hc
                have HY2 := hid (slI_at HBA.out HN.out hc a1 ha1n)
                have hkl : (b.drop a1).length = n - a1 := by rw [List.length_drop, HN.out]
                have HPE : Hid (P = if (parseH (b.drop a1)).2.2 ≠ 0 then ([], 0, (parseH (b.drop a1)).2.2) else (body, a1 + (parseH (b.drop a1)).2.1, 0)) := by show _ = _; rw [HSS.out]; exact step_zero f _ a1 body
                generalize (if c = a1 then (⟨q, o, none⟩ : Addr) else (⟨q, o, none⟩ : Addr).add a1) = Y2 at hsl HY2
                have HPA : Hid (∀ W, BytesAt W (some Y2) (b.drop a1) → Calls Tryz.prog 50 #[.slice (some Y2) (n - a1) (c - a1)] W fun e w' => ∃ v, e = .returned (.tuple #[v, .int .i64 (parseH (b.drop a1)).2.1, .int .i64 (parseH (b.drop a1)).2.2]) ∧ OwnH w' W.heap.size v (parseH (b.drop a1)).1 ∧ Below W.heap.size W w') := fun W h2 => by
                  have := refParse_any (b.drop a1) (some Y2) (c - a1) (by rw [hkl]; omega) (by rw [hkl]; omega) W h2
                  rwa [hkl] at this
                have hq2 := parse_le (b.drop a1)
                rw [hkl] at hq2
                generalize parseH (b.drop a1) = Q at HPE HPA hq2
                obtain ⟨q1, q2, q3⟩ := Q
                simp only at HPE HPA hq2
                have hq4 : q2 ≤ 1000000 := by omega
                clear hq2 hkl HSS
                generalize hn2 : n - a1 = n2 at hsl HPA
                generalize hc2 : c - a1 = c2 at hsl HPA
                clear hn2 hc2
                go_wp2_with fail
                refine (HPA.out _ (HY2.out.below HB.out (Nat.le_refl _))).mono ?_
                rintro e W2 ⟨v2, rfl, _, hb2⟩
                have HB2 := hid (HB.out.trans (hb2.mono HB.out.size))
                have HO2 := hid (HO.out.below hb2 (Nat.le_refl _))
                clear hb2
                by_cases hq : q3 = 0
                · subst hq
                  rw [if_neg (by simp)] at HPE
                  go_wp2_with fail
                  go_ret3
                  refine ⟨.slice (some ⟨g, 0, none⟩) s cp, ?_, ?_, HB2.out⟩
                  · rw [HPE.out]
                    show Ending.returned (Value.tuple #[Value.slice (some ⟨g, 0, none⟩) s cp, Value.int IntKind.i64 ((a1 : Int) + (q2 : Int)), Value.int IntKind.i64 0]) = _
                    rw [show (a1 : Int) + (q2 : Int) = ((a1 + q2 : Nat) : Int) from by omega]
                  · rw [HPE.out]; exact HO2.out.down
                · rw [if_pos hq] at HPE
                  have hq1 : (q3 == 0) = false := beq_eq_false_iff_ne.2 hq
                  clear hq
                  go_wp2_with fail
                  go_ret3
                  exact ⟨_, by rw [HPE.out]; rfl, by rw [HPE.out]; exact Down.nil _ _, HB2.out⟩
              · have hS1 : ((S : Int) == 0) = false := by rw [beq_eq_false_iff_ne]; omega
                have HBL := hid HO.out.len
                by_cases hlong : 32768 < s + S
                · have HPE : Hid (P = ([], 0, 3)) := by show _ = _; rw [HSS.out]; exact step_long f _ S a1 body hS0 (by rw [HBL.out]; exact hlong)
                  have hl1 : (32768 : Int) < (s : Int) + (S : Int) := by omega
                  clear hlong hS0 HSS
                  go_wp2_with fail
                  go_ret3
                  exact ⟨_, by rw [HPE.out]; rfl, by rw [HPE.out]; exact Down.nil _ _, HB.out⟩
                · have hl1 : ¬ (32768 : Int) < (s : Int) + (S : Int) := by omega
                  have HCH : Hid (∀ E, chkC (b.drop a1) S = E → E ≠ 0 → P = ([], 0, E)) := fun E h1 h2 => by rw [HSS.out]; exact step_chk f _ S a1 body hS0 (by rw [HBL.out]; exact hlong) E h1 h2
                  have HON : Hid (chkC (b.drop a1) S = 0 → decC f ((b.drop a1).drop (S + 2)) (a1 + (S + 2)) (body ++ (b.drop a1).take S) = P) := fun h1 => by rw [HSS.out]; exact (step_on f _ S a1 body hS0 (by rw [HBL.out]; exact hlong) h1).symm
                  have hS32 : S ≤ 32768 := by omega
                  have HSL : Hid (s + S ≤ 32768) := by show _ ≤ _; omega
                  have HTL : Hid ((b.drop a1).length = n - a1) := by show _ = _; rw [List.length_drop, HN.out]
                  have HGD : Hid (∀ j, (b.drop a1).getD j 0 = b.getD (a1 + j) 0) := getD_drop b a1
                  have HCZ := hid (CopyC.zero (b.drop a1) S)
                  have HDD : Hid (∀ k, (b.drop a1).drop k = b.drop (a1 + k)) := fun k => List.drop_drop
                  generalize hT : b.drop a1 = T at HCH HON HTL HGD HCZ HDD
                  clear hT
                  have HO3 : Hid (Own W1 w.heap.size g s cp (body ++ T.take 0)) := by show Own _ _ _ _ _ _; rw [List.take_zero, List.append_nil]; exact HO.out
                  clear hlong hSm HSS HBL
                  clear e1 e2 e3 e4 e5 hr1
                  go_wp2_with fail
                  clear hra
                  go_loopw [5, 13] (fun v mv wr => ∃ (m g2 s2 cp2 : Nat), m ≤ S + 2 ∧ mv = .int .i64 (m : Int) ∧ v = .slice (some ⟨g2, 0, none⟩) s2 cp2 ∧ Hid (s2 ≤ 32768 ∧ s2 = s + min m S) ∧ Hid (CopyC T S m) ∧ Hid (Own wr w.heap.size g2 s2 cp2 (body ++ T.take (min m S))) ∧ Hid (Below w.heap.size w wr)) (fun v mv wr => S + 2 - (intOf mv).toNat)
                  case atStart => exact ⟨0, g, s, cp, by omega, rfl, rfl, ⟨hs, by omega⟩, HCZ, by rw [Nat.zero_min]; exact HO3, HB⟩
                  case round =>
                    obtain ⟨m, g2, s2, cp2, hm, rfl, rfl, HS2, HC, HO4, HB4⟩ := hrel
                    have hcle := HC.out.le
                    rw [HTL.out] at hcle
                    by_cases hm2 : m < S + 2
                    · have hm3 : (m : Int) < (S : Int) + 2 := by omega
                      by_cases hend : n ≤ a1 + m
                      · have HPE : Hid (P = ([], 0, 10)) := HCH.out 10 (HC.out.more (by rw [HTL.out]; omega) hm2) (by decide)
                        have he1 : (n : Int) ≤ (a1 : Int) + (m : Int) := by omega
                        clear hend
                        go_wp2_with fail
                        go_ret3
                        exact ⟨_, by rw [HPE.out]; rfl, by rw [HPE.out]; exact Down.nil _ _, HB4.out⟩
                      · have he1 : ¬ (n : Int) ≤ (a1 : Int) + (m : Int) := by omega
                        obtain ⟨x, hx⟩ : ∃ x, x = a1 + m := ⟨_, rfl⟩
                        have hxr : (a1 : Int) + (m : Int) = (x : Int) := by omega
                        have hxn : x < n := by omega
                        have hcell := HCC.out _ x HB4.out hxn
                        have HGX : Hid (T.getD m 0 = b.getD x 0) := by show _ = _; rw [HGD.out, hx]
                        generalize hcc2 : b.getD x 0 = cc at hcell HGX
                        have hmt : m < n - a1 := by omega
                        have he2 : ¬ (n : Int) ≤ (x : Int) := by omega
                        clear hcc2 hx hend he1
                        by_cases hmS : m < S
                        · have hmS2 : (m : Int) < (S : Int) := by omega
                          have HC2 : Hid (CopyC T S (m + 1)) := HC.out.step (by rw [HTL.out]; omega) (fun h => by omega) (fun h => by omega)
                          have HTK : Hid (body ++ T.take (min (m + 1) S) = body ++ T.take (min m S) ++ [cc]) := by
                            show _ = _
                            rw [show min (m + 1) S = m + 1 from by omega, show min m S = m from by omega, take_snoc T m (by rw [HTL.out]; omega), HGX.out, List.append_assoc]
                          have HSM : Hid (s2 + 1 ≤ 32768 ∧ s2 + 1 = s + min (m + 1) S) := by have h1 := HS2.out; have h2 := HSL.out; exact ⟨by omega, by omega⟩
                          have HLS : Hid (s2 + 1 ≤ 1000000000) := by show _ ≤ _; have := HS2.out.1; omega
                          have HSB := hid (src_byte wr cc _ rfl)
                          have HOa := hid (HO4.out.alloc (.cells #[.int .u8 cc.toNat] 5))
                          have HBa := hid (alloc_below HB4.out HB4.out.size (.cells #[.int .u8 cc.toNat] 5))
                          go_wp2_with (first
                            | (refine wpList_own rfl _ _ 23 rfl w.heap.size g2 s2 cp2 1 (body ++ T.take (min m S)) [cc] _ rfl rfl HOa.out HSB.out HLS.out HBa.out.size ?_)
                            | fail)
                          intro g5 cp5 W5 hown5 hgr5 _
                          have HB5 := hid (HOa.out.grown HBa.out HBa.out.size hgr5)
                          have HO5 : Hid (Own W5 w.heap.size g5 (s2 + 1) cp5 (body ++ T.take (min (m + 1) S))) := by show Own _ _ _ _ _ _; rw [HTK.out, List.append_assoc]; exact hown5
                          clear hown5 hgr5 HOa HBa HSB
                          go_wp2_with fail
                          go_roundw
                          case rel => exact ⟨m + 1, g5, s2 + 1, cp5, by omega, by go_num, rfl, HSM, HC2, HO5, HB5⟩
                          case measure => simp [intOf]; omega
                        · have hmS2 : ¬ (m : Int) < (S : Int) := by omega
                          have HTK : Hid (min (m + 1) S = min m S) := by show _ = _; omega
                          by_cases hms : m = S
                          · have hq1 : ((m : Int) == (S : Int)) = true := by rw [beq_iff_eq]; omega
                            have hq2 : ((m : Int) == (S : Int) + 1) = false := by rw [beq_eq_false_iff_ne]; omega
                            by_cases hc13 : cc = 13
                            · have hb13 : ((cc.toNat : Int) == 13) = true := u8_is cc 13 (by decide) hc13
                              have hb14 : ((cc.toNat : Int) != 13) = false := by rw [bne, hb13]; rfl
                              have HC2 : Hid (CopyC T S (m + 1)) := HC.out.step (by rw [HTL.out]; omega) (fun h => by rw [← h, HGX.out]; exact hc13) (fun h => by omega)
                              generalize cc.toNat = xx at hcell hb13 hb14
                              have HMS := hid hms
                              clear hms hc13
                              go_wp2_with fail
                              go_roundw
                              case rel => exact ⟨m + 1, g2, s2, cp2, by omega, by go_num, rfl, by rw [HTK.out]; exact HS2, HC2, by rw [HTK.out]; exact HO4, HB4⟩
                              case measure => simp [intOf]; omega
                            · have hb13 : ((cc.toNat : Int) == 13) = false := u8_ne cc 13 (by decide) hc13
                              have hb14 : ((cc.toNat : Int) != 13) = true := by rw [bne, hb13]; rfl
                              have HPE : Hid (P = ([], 0, 5)) := HCH.out 5 (CopyC.badCr (by rw [HTL.out]; omega) (by rw [← hms, HGX.out]; exact hc13)) (by decide)
                              generalize cc.toNat = xx at hcell hb13 hb14
                              have HMS := hid hms
                              clear hms hc13
                              go_wp2_with fail
                              go_ret3
                              exact ⟨_, by rw [HPE.out]; rfl, by rw [HPE.out]; exact Down.nil _ _, HB4.out⟩
                          · have hms1 : m = S + 1 := by omega
                            have hq1 : ((m : Int) == (S : Int)) = false := by rw [beq_eq_false_iff_ne]; omega
                            have hq2 : ((m : Int) == (S : Int) + 1) = true := by rw [beq_iff_eq]; omega
                            by_cases hc10 : cc = 10
                            · have hb13 : ((cc.toNat : Int) == 10) = true := u8_is cc 10 (by decide) hc10
                              have hb14 : ((cc.toNat : Int) != 10) = false := by rw [bne, hb13]; rfl
                              have HC2 : Hid (CopyC T S (m + 1)) := HC.out.step (by rw [HTL.out]; omega) (fun h => by omega) (fun h => by rw [← h, HGX.out]; exact hc10)
                              generalize cc.toNat = xx at hcell hb13 hb14
                              have HMS := hid hms1
                              clear hms hms1 hc10
                              go_wp2_with fail
                              go_roundw
                              case rel => exact ⟨m + 1, g2, s2, cp2, by omega, by go_num, rfl, by rw [HTK.out]; exact HS2, HC2, by rw [HTK.out]; exact HO4, HB4⟩
                              case measure => simp [intOf]; omega
                            · have hb13 : ((cc.toNat : Int) == 10) = false := u8_ne cc 10 (by decide) hc10
                              have hb14 : ((cc.toNat : Int) != 10) = true := by rw [bne, hb13]; rfl
                              have HPE : Hid (P = ([], 0, 5)) := HCH.out 5 (CopyC.badLf (by have := HC.out; rw [hms1] at this; exact this) (by rw [HTL.out]; omega) (by rw [← hms1, HGX.out]; exact hc10)) (by decide)
                              generalize cc.toNat = xx at hcell hb13 hb14
                              have HMS := hid hms1
                              clear hms hms1 hc10
                              go_wp2_with fail
                              go_ret3
                              exact ⟨_, by rw [HPE.out]; rfl, by rw [HPE.out]; exact Down.nil _ _, HB4.out⟩
                    · obtain rfl : m = S + 2 := by omega
                      have hm3 : ¬ ((S + 2 : Nat) : Int) < (S : Int) + 2 := by omega
                      have hm4 : ¬ (S : Int) + 2 < (S : Int) + 2 := by omega
                      have HL5 : Hid (decC (n + 1 - (kk + 1)) (b.drop (a1 + (S + 2))) (a1 + (S + 2)) (body ++ T.take S) = P) := by
                        have := HON.out HC.out.done
                        rw [HDD.out, HFK.out] at this
                        exact this
                      have HO5 : Hid (Own wr w.heap.size g2 s2 cp2 (body ++ T.take S)) := by have := HO4.out; rw [show min (S + 2) S = S from by omega] at this; exact this
                      have hs5 := HS2.out.1
                      clear hm2 HS2 HO4
                      go_wp2_with fail
                      go_roundw
                      case rel => exact ⟨kk + 1, a1 + (S + 2), g2, s2, cp2, body ++ T.take S, by omega, by go_num, by omega, by exact congrArg (Value.int IntKind.i64) (by omega), rfl, hs5, HO5, HL5, HB4⟩
                      case measure => simp [intOf]; omega
    · obtain rfl : kk = n + 1 := by omega
      have HPE : Hid (P = ([], 0, 10)) := by show _ = _; rw [← HLD.out, Nat.sub_self]; rfl
      have hkn2 : ¬ ((n + 1 : Nat) : Int) ≤ (n : Int) := by omega
      have hkn3 : ¬ (n : Int) + 1 ≤ (n : Int) := by omega
      clear HLD
      go_wp2_with fail
      go_ret3
      exact ⟨_, by rw [HPE.out]; rfl, by rw [HPE.out]; exact Down.nil _ _, HB.out⟩
end Go.Proofs.YtclonnpglikddaaGreatDoor
