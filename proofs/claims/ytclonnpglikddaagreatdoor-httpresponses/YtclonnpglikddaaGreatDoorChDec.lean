
/- A body in chunks read: what Decode of package chunk does. -/
import Derived.Test.YtclonnpglikddaaGreatDoorChLine
namespace Go.Proofs.YtclonnpglikddaaGreatDoor
set_option linter.unusedVariables false
set_option linter.unusedSimpArgs false
open Go.RowKit Go.BigFrame
attribute [local go_sem ↓] slI_eq slJ_eq

theorem lines_le : ∀ (f : Nat) (b : List UInt8) (n : Nat) (out : List HdV), (linesH f b n out).2.1 ≤ n + b.length
  | 0, b, n, out => Nat.zero_le _
  | f + 1, b, n, out => by
    rcases first_dec 10 b with h | ⟨a, x, rfl, h⟩
    · rw [lines_none f b n out h]; simp
    · have hl : (a ++ 10 :: x).length = a.length + 1 + x.length := by rw [List.length_append, List.length_cons]; omega
      by_cases h1 : 8192 < n + a.length + 1
      · rw [lines_far f a x n out h h1]; simp
      · by_cases h2 : crH a = []
        · rw [lines_end f a x n out h h1 h2, hl]; simp only; omega
        · cases h3 : oneB (crH a) with
          | false => rw [lines_bad f a x n out h h1 h2 h3]; simp
          | true =>
            by_cases h4 : out.length = 64
            · rw [lines_many f a x n out h h1 h2 h3 h4]; simp
            · rw [lines_on f a x n out h h1 h2 h3 h4, hl]
              have := lines_le f x (n + a.length + 1) (out ++ [oneV (crH a)])
              omega
theorem parse_le (b : List UInt8) : (parseH b).2.1 ≤ b.length := by
  have := lines_le (b.length + 1) b 0 []
  unfold parseH
  omega

set_option maxHeartbeats 4000000 in
set_option maxRecDepth 100000 in
theorem decode_any (b : List UInt8) (X : Addr) (c : Nat) (hb : b.length ≤ 1000000) (hc : b.length ≤ c) (w : World) (hT : TabC w) (hA : BytesAt w (some X) b) : Calls Tryz.prog 72 #[.slice (some X) b.length c] w fun e w' => ∃ v, e = .returned (.tuple #[v, .int .i64 (decodeC b).2.1, .int .i64 (decodeC b).2.2]) ∧ Down w' w.heap.size v (decodeC b).1 ∧ Below w.heap.size w w' := by
  have HA := hid hA
  have HT := hid hT
  have HLZ := hid (leadsC_zero b)
  clear hA hT
  generalize hP : decodeC b = P
  have HP := hid hP
  clear hP
  generalize hn : b.length = n at hb hc ⊢
  have HN := hid hn
  clear hn
  go_enter Tryz.func72, Tryz.ntmps72
  go_wp2_with fail
  go_loopw [2, 3] (fun v i wr => ∃ k : Nat, k ≤ n ∧ i = .int .i64 (k : Int) ∧ ∃ body : List UInt8, body.length ≤ 32768 ∧ Hid (LeadsC b k body) ∧ Hid (Down wr w.heap.size v body) ∧ Hid (Below w.heap.size w wr)) (fun v i wr => n - (intOf i).toNat)
  case atStart => exact ⟨0, Nat.zero_le _, rfl, [], by simp, HLZ, Down.nil _ _, Below.refl _ _⟩
  case round =>
    obtain ⟨k, hk, rfl, body, hbl, HLD, HO, HB⟩ := hrel
    have hsl := slI_run X n c k hk hc
    have HY := hid (slI_at HA.out HN.out hc k hk)
    generalize (if c = k then X else X.add k) = Y at hsl HY
    have HRL : Hid (∀ W, TabC W → BytesAt W (some Y) (b.drop k) → Calls Tryz.prog 95 #[.slice (some Y) (n - k) (c - k)] W fun e w' => ∃ (S N : Nat) (E : Int), e = .returned (.tuple #[.int .i64 S, .int .i64 N, .int .i64 E]) ∧ LineC (b.drop k) S N E ∧ Below W.heap.size W w') := fun W h1 h2 => by
      have hl : (b.drop k).length = n - k := by rw [List.length_drop, HN.out]
      have := readC_any (b.drop k) Y (c - k) (by rw [hl]; omega) (by rw [hl]; omega) W h1 h2
      rwa [hl] at this
    obtain ⟨AV, cv, hv⟩ := HO.out.shape
    subst hv
    generalize hLL : body.length = L at hbl HO ⊢
    have HL := hid hLL
    clear hLL
    go_wp2_with fail
    refine (HRL.out _ (HT.out.below HB.out) (HY.out.below HB.out (Nat.le_refl _))).mono ?_
    rintro e W1 ⟨S, N, E, rfl, hln, hb1⟩
    have HLN := hid hln
    have HB1 := hid (HB.out.trans (hb1.mono HB.out.size))
    have HO1 := hid (HO.out.below hb1)
    clear hln hb1 HO HY HRL hsl
    by_cases hE : E = 0
    · subst hE
      obtain ⟨hN1, hN2, hS1, _⟩ := HLN.out.some rfl
      rw [List.length_drop, HN.out] at hN2
      have hm : k + N ≤ n := by omega
      have hsl := slI_run X n c (k + N) hm hc
      rw [show ((k + N : Nat) : Int) = (k : Int) + (N : Int) from by omega] at hsl
      have HY := hid (slI_at HA.out HN.out hc (k + N) hm)
      generalize (if c = k + N then X else X.add (k + N)) = Y at hsl HY
      have hkl : (b.drop (k + N)).length = n - (k + N) := by rw [List.length_drop, HN.out]
      by_cases hS : S = 0
      · subst hS
        have HPE : Hid (P = if (parseH (b.drop (k + N))).2.2 ≠ 0 then ([], 0, (parseH (b.drop (k + N))).2.2) else (body, k + N + (parseH (b.drop (k + N))).2.1, 0)) := by show _ = _; rw [← HP.out]; exact HLD.out.end HLN.out
        have HPA : Hid (∀ W, TabS W → BytesAt W (some Y) (b.drop (k + N)) → Calls Tryz.prog 38 #[.slice (some Y) (n - (k + N)) (c - (k + N))] W fun e w' => ∃ v, e = .returned (.tuple #[v, .int .i64 (parseH (b.drop (k + N))).2.1, .int .i64 (parseH (b.drop (k + N))).2.2]) ∧ OwnH w' W.heap.size v (parseH (b.drop (k + N))).1 ∧ Below W.heap.size W w') := fun W h1 h2 => by
          have := parse9_any (b.drop (k + N)) Y (c - (k + N)) (by rw [hkl]; omega) (by rw [hkl]; omega) W h1 h2
          rwa [hkl] at this
        have hq2 := parse_le (b.drop (k + N))
        rw [hkl] at hq2
        generalize parseH (b.drop (k + N)) = Q at HPE HPA hq2
        obtain ⟨q1, q2, q3⟩ := Q
        simp only at HPE HPA hq2
        have hq3 : q2 ≤ 1000000 := by omega
        clear hq2 hkl HLD HLN
        generalize n - (k + N) = n2 at hsl HPA
        generalize c - (k + N) = c2 at hsl HPA
        go_wp2_with fail
        refine (HPA.out _ (HT.out.tab.below HB1.out) (HY.out.below HB1.out (Nat.le_refl _))).mono ?_
        rintro e W2 ⟨v2, rfl, _, hb2⟩
        have HB2 := hid (HB1.out.trans (hb2.mono HB1.out.size))
        have HO2 := hid (HO1.out.below hb2)
        clear hb2
        by_cases hq : q3 = 0
        · subst hq
          rw [if_neg (by simp)] at HPE
          go_wp2_with fail
          go_ret3
          refine ⟨.slice AV L cv, ?_, ?_, HB2.out⟩
          · rw [HPE.out]
            show Ending.returned (Value.tuple #[Value.slice AV L cv, Value.int IntKind.i64 ((k : Int) + (N : Int) + (q2 : Int)), Value.int IntKind.i64 0]) = _
            rw [show (k : Int) + (N : Int) + (q2 : Int) = ((k + N + q2 : Nat) : Int) from by omega]
          · rw [HPE.out]; exact HO2.out
        · rw [if_pos hq] at HPE
          have hq1 : (q3 == 0) = false := beq_eq_false_iff_ne.2 hq
          clear hq
          go_wp2_with fail
          go_ret3
          exact ⟨_, by rw [HPE.out]; rfl, by rw [HPE.out]; exact Down.nil _ _, HB2.out⟩
      · have hS0 : ((S : Int) == 0) = false := by rw [beq_eq_false_iff_ne]; omega
        by_cases hlong : 32768 < L + S
        · have HPE : Hid (P = ([], 0, 3)) := by show _ = _; rw [← HP.out]; exact HLD.out.long HLN.out hS (by rw [HL.out]; exact hlong)
          have h1 : (32768 : Int) - (L : Int) < (S : Int) := by omega
          clear hlong hS hkl
          go_wp2_with fail
          go_ret3
          exact ⟨_, by rw [HPE.out]; rfl, by rw [HPE.out]; exact Down.nil _ _, HB1.out⟩
        · have h1 : ¬ (32768 : Int) - (L : Int) < (S : Int) := by omega
          have HCK : Hid (∀ W, BytesAt W (some Y) (b.drop (k + N)) → Calls Tryz.prog 96 #[.slice (some Y) (n - (k + N)) (c - (k + N)), .int .i64 S] W fun e w' => e = .returned (.int .i64 (chkC (b.drop (k + N)) S)) ∧ w' = W) := fun W h2 => by
            have := chk_any (b.drop (k + N)) Y (c - (k + N)) S (by rw [hkl]; omega) (by rw [hkl]; omega) hS1 W h2
            rwa [hkl] at this
          have HPC : Hid (chkC (b.drop (k + N)) S ≠ 0 → P = ([], 0, chkC (b.drop (k + N)) S)) := fun h => by rw [← HP.out]; exact HLD.out.chk HLN.out hS (by rw [HL.out]; exact hlong) h
          have HON : Hid (chkC (b.drop (k + N)) S = 0 → k + N + (S + 2) ≤ n ∧ LeadsC b (k + N + (S + 2)) (body ++ (b.drop (k + N)).take S)) := fun h => by have := HLD.out.on HLN.out hS (by rw [HL.out]; exact hlong) h; rwa [HN.out] at this
          generalize chkC (b.drop (k + N)) S = K at HCK HPC HON
          have hS3 : 0 < S := by omega
          clear hkl HLD HLN hS
          generalize hn2 : n - (k + N) = n2 at hsl HCK
          generalize hc2 : c - (k + N) = c2 at hsl HCK
          clear hn2 hc2
          go_wp2_with fail
          refine (HCK.out _ (HY.out.below HB1.out (Nat.le_refl _))).mono ?_
          rintro e W2 ⟨rfl, rfl⟩
          by_cases hK : K = 0
          · subst hK
            obtain ⟨hfit, hld⟩ := HON.out rfl
            have HLD2 := hid hld
            have hsj := slJ_run X n c (k + N) (k + N + S) (by omega) (by omega)
            have HZ := hid (slJ_at HA.out HN.out hc (k + N) (k + N + S) (by omega) (by omega))
            rw [show k + N + S - (k + N) = S from by omega] at hsj HZ
            rw [show ((k + N : Nat) : Int) = (k : Int) + (N : Int) from by omega, show ((k + N + S : Nat) : Int) = (k : Int) + (N : Int) + (S : Int) from by omega] at hsj
            generalize (if c = k + N then X else X.add (k + N)) = Z at hsj HZ
            have HTK : Hid (((b.drop (k + N)).take S).length = S) := by show _ = _; rw [List.length_take, List.length_drop, HN.out]; omega
            have HSR : Hid (Src Tryz.prog 1 23 (.slice (some Z) S (c - (k + N))) S (bvs ((b.drop (k + N)).take S)) W2) := by
              have := src_bytes (HZ.out.below HB1.out (Nat.le_refl _)) (c - (k + N)) (fun _ => .inr ⟨_, rfl⟩)
              rwa [HTK.out] at this
            have HBL : Hid (body.length + S ≤ 1000000000) := by show _ ≤ _; rw [HL.out]; omega
            generalize (b.drop (k + N)).take S = q at HLD2 HZ HTK HSR
            generalize hc2 : c - (k + N) = c3 at hsj HSR
            clear hld HON HPC HZ hc2
            go_wp2_with (first
              | (refine wpList_down rfl _ _ 23 rfl w.heap.size S _ _ body q rfl rfl HO1.out HSR.out hS3 HBL.out HB1.out.size ?_)
              | fail)
            intro d3 W3 hd3 hb3
            have HO3 := hid hd3
            have HB3 := hid (HB1.out.trans hb3)
            clear hd3 hb3
            go_wp2_with fail
            go_roundw
            case rel => exact ⟨k + N + (S + 2), by omega, by exact congrArg (Value.int IntKind.i64) (by omega), body ++ q, by rw [List.length_append, HL.out, HTK.out]; omega, HLD2, HO3, HB3⟩
            case measure => simp [intOf]; omega
          · have HPE := hid (HPC.out hK)
            have hK1 : (K == 0) = false := beq_eq_false_iff_ne.2 hK
            clear hK HON
            go_wp2_with fail
            go_ret3
            exact ⟨_, by rw [HPE.out]; rfl, by rw [HPE.out]; exact Down.nil _ _, HB1.out⟩
    · have HPE : Hid (P = ([], 0, E)) := by show _ = _; rw [← HP.out]; exact HLD.out.none HLN.out hE
      have hE1 : (E == 0) = false := beq_eq_false_iff_ne.2 hE
      clear hE
      go_wp2_with fail
      go_ret3
      exact ⟨_, by rw [HPE.out]; rfl, by rw [HPE.out]; exact Down.nil _ _, HB1.out⟩
end Go.Proofs.YtclonnpglikddaaGreatDoor
