
/- The reference's Parse, walked. -/
import Derived.Test.YthjibliaofmlhaaGreatDoorXmRElW
import Derived.Test.YthjibliaofmlhaaGreatDoorXmPar
namespace Go.Proofs.YthjibliaofmlhaaGreatDoor
set_option linter.unusedVariables false
set_option linter.unusedSimpArgs false
open Go.RowKit Go.BigFrame
attribute [local go_sem ↓] loadN_eq storeN_eq

theorem refErr13 (l : List UInt8) (hl : l.length ≤ 1000000) (w : World) : Calls Tryz.prog 37 #[.string (asS l)] w fun e w' => e = .returned (.int .i64 (errX l)) ∧ Below w.heap.size w w' := by
  have hV : vld (asS l) = V l := by rw [vld_V, asS_data]
  have hs : (asS l).size ≤ 1000000 := by rw [asS_size]; exact hl
  cases h : V l with
  | true =>
    have c := refCheck_ok (asS l) w hs (by show _ = _; rw [hV]; exact h)
    rw [show errX l = xmlE (xmlB (asS l)) from by unfold errX; rw [h]; rfl]
    exact c
  | false =>
    rw [errX_no h]
    exact refCheck_no (asS l) w hs (by show _ = _; rw [hV]; exact h)
set_option maxHeartbeats 2000000 in
set_option maxRecDepth 100000 in
theorem refParse13_any (s : List UInt8) (w : World) : Calls Tryz.prog 16 #[.string (asS s)] w (ParPost (parX s) w) := by
  have HP := hid (par_file s)
  have HB0 := hid ((Below.refl w.heap.size w).alloc (Nat.le_refl _) (.cells #[.string ⟨#[]⟩, .slice none 0 0, .string ⟨#[]⟩, .slice none 0 0] 25 (0, 0)))
  have HG0 := hid (heap_alloc_new w (.cells #[.string ⟨#[]⟩, .slice none 0 0, .string ⟨#[]⟩, .slice none 0 0] 25 (0, 0)))
  have hsz := asS_size s
  have HXM := hid (fun hs W => refErr13 s hs W)
  have HXE := hid (X_err s)
  have HLI := hid (fun (hs : s.length ≤ 65536) W => refLines_any s (by omega) W)
  have HLL := hid (linE_len s)
  unfold ParPost
  generalize parX s = V at HP ⊢
  generalize hl : linE s = l at HP HLI HLL
  clear hl
  by_cases h1 : 65536 < s.length
  · rw [if_pos h1] at HP
    rw [← hsz] at h1
    have h1' : (65536 : Int) < ((asS s).size : Int) := by omega
    clear hsz HXM HXE HLI HLL h1
    generalize asS s = S at h1' ⊢
    go_enter Tryz.func16, Tryz.ntmps16
    have hstx := storeM_row infoN (.string ⟨#[]⟩) (.slice none 0 0) (.string ⟨#[]⟩) (.slice none 0 0) rfl rfl rfl rfl HG0.out rfl
    have HPX := hid (putM_only (w.alloc (.cells #[.string ⟨#[]⟩, .slice none 0 0, .string ⟨#[]⟩, .slice none 0 0] 25 (0, 0))) w.heap.size #[.string ⟨#[]⟩, .slice none 0 0, .string ⟨#[]⟩, .slice none 0 0])
    have HQX := hid (putM_row (cs' := #[.string ⟨#[]⟩, .slice none 0 0, .string ⟨#[]⟩, .slice none 0 0]) HG0.out rfl)
    generalize putM (w.alloc (.cells #[.string ⟨#[]⟩, .slice none 0 0, .string ⟨#[]⟩, .slice none 0 0] 25 (0, 0))) w.heap.size #[.string ⟨#[]⟩, .slice none 0 0, .string ⟨#[]⟩, .slice none 0 0] = Y at hstx HPX HQX
    go_wp2_with fail
    refine bodyPost_ret (ret_nd2 (p := 2) (q := 3) Tryz.results16 _ _ w.heap.size _ rfl (0, 0) _ rfl rfl HQX.out) rfl ?_
    exact ⟨(HB0.out).trans (HPX.out.below (Nat.le_refl _)), .inr ⟨3, HP.out, by omega, rfl⟩⟩
  · rw [if_neg h1] at HP
    have h1' : ¬ (65536 : Int) < ((asS s).size : Int) := by rw [hsz]; omega
    have HXM2 := hid (fun W => HXM.out (by omega) W)
    by_cases h2 : errX s = 0
    · rw [HXE.out, decide_eq_true h2] at HP
      simp only [Bool.not_true, Bool.false_eq_true, if_false] at HP
      rw [h2] at HXM2
      have HLI2 := hid (HLI.out (by omega))
      have HLL2 : Hid (l.length ≤ 65536) := Nat.le_trans HLL.out (by omega)
      clear hsz HXE HLI HLL HXM h1 h2
      generalize asS s = S at h1' HXM2 HLI2 ⊢
      have HLZ := hid (asS_size l)
      obtain ⟨LS, hLS⟩ : ∃ LS, asS l = LS := ⟨_, rfl⟩
      have HLS := hid hLS
      rw [hLS] at HLI2
      clear hLS
      have HAS := hid (fun q m W (hq : q ≤ l.length) hW => asideR_any true l q m W (by have := HLL2.out; omega) hq)
      go_enter Tryz.func16, Tryz.ntmps16
      go_wp2_with fail
      refine (HXM2.out _).mono ?_
      rintro e W1 ⟨rfl, hb1⟩
      have HB1 := hid (HB0.out.trans (hb1.mono HB0.out.size))
      have HG1 := hid (row_keep hb1 HG0.out)
      clear hb1
      go_wp2_with fail
      refine (HLI2.out _).mono ?_
      rintro e W2 ⟨rfl, hb2⟩
      have HB2 := hid (HB1.out.trans (hb2.mono HB1.out.size))
      have HG2 := hid (row_keep hb2 HG1.out)
      have HZ2 : Hid (w.heap.size ≤ W2.heap.size) := HB2.out.size
      have HZ3 : Hid (w.heap.size < W2.heap.size) := (Array.getElem?_eq_some_iff.1 HG2.out).1
      clear hb2 HAS
      have HS0 : Hid (ErS W2.heap.size w.heap.size (W2.heap.size + 1) w (.string ⟨#[]⟩) (.slice none 0 0) (.string ⟨#[]⟩) (.slice none 0 0) l 0 0 0 (putM ((W2.alloc (.cells #[.string LS, .int .i64 0, .int .i64 0, .int .i64 0] 67 (0, 0))).alloc (.cells #[.string ⟨#[]⟩, .slice none 0 0, .string ⟨#[]⟩, .slice none 0 0] 25 (0, 0))) (W2.heap.size + 1) #[.string ⟨#[]⟩, .slice none 0 0, .string ⟨#[]⟩, .slice none 0 0])) := by
        have ho := putM_only ((W2.alloc (.cells #[.string LS, .int .i64 0, .int .i64 0, .int .i64 0] 67 (0, 0))).alloc (.cells #[.string ⟨#[]⟩, .slice none 0 0, .string ⟨#[]⟩, .slice none 0 0] 25 (0, 0))) (W2.heap.size + 1) #[.string ⟨#[]⟩, .slice none 0 0, .string ⟨#[]⟩, .slice none 0 0]
        have hrow := putM_row (cs' := #[.string ⟨#[]⟩, .slice none 0 0, .string ⟨#[]⟩, .slice none 0 0]) (heap_second W2 (.cells #[.string LS, .int .i64 0, .int .i64 0, .int .i64 0] 67 (0, 0)) (.cells #[.string ⟨#[]⟩, .slice none 0 0, .string ⟨#[]⟩, .slice none 0 0] 25 (0, 0))) rfl
        have hz := HZ3.out
        have a1 : Below W2.heap.size W2 ((W2.alloc (.cells #[.string LS, .int .i64 0, .int .i64 0, .int .i64 0] 67 (0, 0))).alloc (.cells #[.string ⟨#[]⟩, .slice none 0 0, .string ⟨#[]⟩, .slice none 0 0] 25 (0, 0))) := ((Below.refl _ _).alloc (Nat.le_refl _) _).alloc (by simp) _
        have r0 := heap_first W2 (.cells #[.string LS, .int .i64 0, .int .i64 0, .int .i64 0] 67 (0, 0)) (.cells #[.string ⟨#[]⟩, .slice none 0 0, .string ⟨#[]⟩, .slice none 0 0] 25 (0, 0))
        refine ⟨?_, grown_own (to_below (HB2.out.trans (a1.mono HZ2.out))) (to_only (R := W2.heap.size + 1) ho) (fun q hq => by injection hq with hq; omega), (ho.block w.heap.size (by omega)).trans (row_keep a1 HG2.out), hrow, rfl, rfl, rfl, rfl, by omega, by omega, by omega, Nat.le_refl _, by omega⟩
        show Rr _ _ _ _ _ _
        unfold Rr
        rw [HLS.out]
        exact (ho.block W2.heap.size (by omega)).trans r0
      have hst0 := storeM_row infoN (.string ⟨#[]⟩) (.slice none 0 0) (.string ⟨#[]⟩) (.slice none 0 0) rfl rfl rfl rfl (heap_second W2 (.cells #[.string LS, .int .i64 0, .int .i64 0, .int .i64 0] 67 (0, 0)) (.cells #[.string ⟨#[]⟩, .slice none 0 0, .string ⟨#[]⟩, .slice none 0 0] 25 (0, 0))) rfl
      generalize putM ((W2.alloc (.cells #[.string LS, .int .i64 0, .int .i64 0, .int .i64 0] 67 (0, 0))).alloc (.cells #[.string ⟨#[]⟩, .slice none 0 0, .string ⟨#[]⟩, .slice none 0 0] 25 (0, 0))) (W2.heap.size + 1) #[.string ⟨#[]⟩, .slice none 0 0, .string ⟨#[]⟩, .slice none 0 0] = X0 at HS0 hst0
      go_wp2_with fail
      refine Calls.mono (asideR_any true l 0 0 W2.heap.size (by have := HLL2.out; omega) (Nat.zero_le _) _ HS0.out.rr) ?_
      rintro x X1 ⟨hg, ⟨va, rfl⟩, hx⟩
      rw [List.drop_zero] at hx
      clear hst0
      rcases hx with ⟨q, _, hq, hasw, hr⟩ | ⟨hasw, hr⟩
      · have HS1 := hid (HS0.out.call hg hr)
        have HPV := HP.out
        unfold fileX at HPV
        rw [hasw] at HPV
        simp only at HPV
        have HQ := hid hq
        have c3 : X1.cell? ⟨W2.heap.size, 3, none⟩ = some (.int .i64 0) := HS1.out.rr.e
        have HHD : Hid (∀ W, Rr W W2.heap.size l q 0 0 → Calls Tryz.prog 40 #[.pointer (some ⟨W2.heap.size, 0, none⟩), .string ⟨#[60, 33, 68, 79, 67, 84, 89, 80, 69]⟩] W fun x w' => x = .returned (.bool (preX [60, 33, 68, 79, 67, 84, 89, 80, 69] (l.drop q))) ∧ Below W.heap.size W w') := fun W hW => here_any l [60, 33, 68, 79, 67, 84, 89, 80, 69] q 0 0 W2.heap.size (by have := HLL2.out; omega) (by simp) HQ.out W hW
        have HPV := hid HPV
        clear hg hr hasw hq
        go_wp2_with fail
        refine Calls.mono (HHD.out _ HS1.out.rr) ?_
        rintro x X2 ⟨rfl, hb⟩
        have HS2 := hid (HS1.out.below hb)
        clear hb c3
        have c3 : X2.cell? ⟨W2.heap.size, 3, none⟩ = some (.int .i64 0) := HS2.out.rr.e
        cases hd : preX [60, 33, 68, 79, 67, 84, 89, 80, 69] (l.drop q) with
        | true =>
          rw [hd] at HPV
          simp only [if_true] at HPV
          clear hd
          have hld2 := HS2.out.ld
          have hst2 := HS2.out.st
          have HOX := hid (putM_only X2 w.heap.size #[.string ⟨#[]⟩, .slice none 0 0, .string ⟨#[]⟩, .slice none 0 0])
          have HQX := hid (putM_row HS2.out.r4 (cs' := #[.string ⟨#[]⟩, .slice none 0 0, .string ⟨#[]⟩, .slice none 0 0]) rfl)
          generalize putM X2 w.heap.size #[.string ⟨#[]⟩, .slice none 0 0, .string ⟨#[]⟩, .slice none 0 0] = Y at hst2 HOX HQX
          go_wp2_with fail
          refine bodyPost_ret (ret_nd2 (p := 2) (q := 3) Tryz.results16 _ _ w.heap.size _ rfl (0, 0) _ rfl rfl HQX.out) rfl ?_
          exact ⟨(to_cut HS2.out.to (Nat.le_refl _) HZ2.out).trans (HOX.out.below (Nat.le_refl _)), .inr ⟨8, HPV.out, by omega, rfl⟩⟩
        | false =>
          rw [hd] at HPV
          simp only [Bool.false_eq_true, if_false] at HPV
          clear hd
          have HEC : Hid (Calls Tryz.prog 41 #[.pointer (some ⟨W2.heap.size, 0, none⟩), .int .i64 1] X2 (ErPost 40 (elX 40 16 (l.drop q) 0) l W2.heap.size X2)) := elR_all 40 16 (by omega) (by omega) l q 0 W2.heap.size X2 HLL2.out HQ.out (by omega) HS2.out.rr
          unfold ErPost at HEC
          go_wp2_with fail
          refine Calls.mono HEC.out ?_
          rintro x X3 ⟨hg, A, B, C, D, t, q', m2, e1, rfl, hnd, hr, hh⟩
          have ho1 := nd_one hnd
          have o1 : A.oneCell' = true := ho1 A (by simp)
          have o2 : B.oneCell' = true := ho1 B (by simp)
          have o3 : C.oneCell' = true := ho1 C (by simp)
          have o4 : D.oneCell' = true := ho1 D (by simp)
          have HS3 := hid (HS2.out.call hg hr)
          have hst3 := storeM_row infoN A B C D o1 o2 o3 o4 HS3.out.r5 rfl
          have HO3 := hid (putM_only X3 (W2.heap.size + 1) #[A, B, C, D])
          have HS4 := hid (HS3.out.put5 HO3.out (putM_row HS3.out.r5 (cs' := #[A, B, C, D]) rfl) o1 o2 o3 o4)
          have HZX : Hid (W2.heap.size + 2 ≤ X2.heap.size) := by show _ ≤ _; have := (Array.getElem?_eq_some_iff.1 HS2.out.r5).1; omega
          have HND : Hid (NdAt (fun g => w.heap.size ≤ g ∧ g ≠ w.heap.size ∧ g ≠ W2.heap.size) 40 (putM X3 (W2.heap.size + 1) #[A, B, C, D]) #[A, B, C, D] t) := hnd.frame (Nat.le_of_eq HO3.out.size.symm) fun g hg2 hl => by
            have h1 : X2.heap.size ≤ g := hg2
            have h2 := HZX.out
            have h3 := HZ3.out
            exact ⟨HO3.out.block g (by omega), by omega, by omega, by omega⟩
          generalize putM X3 (W2.heap.size + 1) #[A, B, C, D] = X4 at hst3 HO3 HS4 HND
          clear hg hnd hr ho1 o1 o2 o3 o4
          rcases hh with ⟨rfl, hel, hm2, hq'⟩ | ⟨hel, her⟩
          · rw [hel] at HPV
            simp only at HPV
            have HQ' := hid hq'
            clear hel hm2 hq' c3
            have HC4 := hid (asideR_any true l q' m2 W2.heap.size (by have := HLL2.out; omega) HQ'.out _ HS4.out.rr)
            go_wp2_with fail
            refine Calls.mono HC4.out ?_
            rintro x X5 ⟨hg, ⟨va, rfl⟩, hx⟩
            have HND5 := hid (to_nd HND.out hg (fun g h => h.2.2))
            rcases hx with ⟨q3, _, hq3, hasw, hr⟩ | ⟨hasw, hr⟩
            · have HS5 := hid (HS4.out.call hg hr)
              rw [hasw] at HPV
              simp only at HPV
              obtain ⟨d0, d1, _, d3⟩ := HS5.out.rr.cells
              have hlz := HLZ.out
              rw [HLS.out] at d0 hlz
              clear hg hr hasw hst3
              by_cases hlt : q3 < l.length
              · have hlt' : (q3 : Int) < (LS.size : Int) := by rw [hlz]; omega
                have hlt2 : (q3 : Int) < (l.length : Int) := by omega
                have hne : (l.drop q3).isEmpty = false := by
                  rw [List.isEmpty_eq_false_iff]
                  intro e
                  have := congrArg List.length e
                  simp at this
                  omega
                rw [hne] at HPV
                simp only [Bool.false_eq_true, if_false] at HPV
                clear hlt hq3 hne
                go_wp2_with fail
                go_quiet (fail)
                go_wp2_with fail
                refine Calls.mono (wrong_any l q3 m2 0 5 W2.heap.size _ (HS5.out.below (below_drewN _ _ _)).rr) ?_
                rintro x X6 ⟨rfl, hr, ho⟩
                rw [if_pos rfl] at hr
                have HS6 := hid ((HS5.out.below (below_drewN _ _ _)).call (to_only ho) hr)
                clear hr ho d0 d1 d3
                have c6 : X6.cell? ⟨W2.heap.size, 3, none⟩ = some (.int .i64 (5 : Nat)) := HS6.out.rr.e
                have c7 : X6.drew.cell? ⟨W2.heap.size, 3, none⟩ = some (.int .i64 (5 : Nat)) := HS6.out.rr.e
                have h1z := (HS6.out.below (below_drew X6))
                have hsz1 := storeM_row infoN (.string ⟨#[]⟩) (.slice none 0 0) (.string ⟨#[]⟩) (.slice none 0 0) rfl rfl rfl rfl h1z.r4 rfl
                have h2z := putM_only X6.drew w.heap.size #[.string ⟨#[]⟩, .slice none 0 0, .string ⟨#[]⟩, .slice none 0 0]
                have HCE : Hid ((putM X6.drew w.heap.size #[.string ⟨#[]⟩, .slice none 0 0, .string ⟨#[]⟩, .slice none 0 0]).heap[w.heap.size]? = some (.cells #[.string ⟨#[]⟩, .slice none 0 0, .string ⟨#[]⟩, .slice none 0 0] 25 (0, 0)) ∧ Below w.heap.size w (putM X6.drew w.heap.size #[.string ⟨#[]⟩, .slice none 0 0, .string ⟨#[]⟩, .slice none 0 0])) := ⟨putM_row h1z.r4 rfl, (to_cut h1z.to (Nat.le_refl _) HZ2.out).trans (h2z.below (Nat.le_refl _))⟩
                have c8 : (putM X6.drew w.heap.size #[.string ⟨#[]⟩, .slice none 0 0, .string ⟨#[]⟩, .slice none 0 0]).cell? ⟨W2.heap.size, 3, none⟩ = some (.int .i64 (5 : Nat)) := Rr.e ((h2z.block W2.heap.size (by have := HZ3.out; omega)).trans h1z.rr)
                clear h1z h2z
                generalize putM X6.drew w.heap.size #[.string ⟨#[]⟩, .slice none 0 0, .string ⟨#[]⟩, .slice none 0 0] = YZ at hsz1 HCE c8
                go_wp2_with fail
                go_region
                all_goals
                  go_wp2_with fail
                  refine bodyPost_ret (ret_nd2 (p := 2) (q := 3) Tryz.results16 _ _ w.heap.size _ rfl (0, 0) _ rfl rfl HCE.out.1) rfl ?_
                  exact ⟨HCE.out.2, .inr ⟨5, HPV.out, by have := (show 0 < 5 by decide); omega, rfl⟩⟩
              · have hlt' : ¬ (q3 : Int) < (LS.size : Int) := by rw [hlz]; omega
                have hlt2 : ¬ (q3 : Int) < (l.length : Int) := by omega
                have hlt3 : decide ((q3 : Int) < (LS.size : Int)) = false := decide_eq_false hlt'
                have hlt4 : decide ((q3 : Int) < (l.length : Int)) = false := decide_eq_false hlt2
                have hne : (l.drop q3).isEmpty = true := by
                  rw [List.isEmpty_iff]
                  exact List.drop_eq_nil_of_le (by omega)
                rw [hne] at HPV
                simp only [if_true] at HPV
                clear hlt hq3 hne
                have HFT : Hid (∀ Y, Below X5.heap.size X5 Y → (loadI 25 (.pointer (some ⟨W2.heap.size + 1, 0, none⟩))).run Tryz.prog Y = .ok (.agg #[A, B, C, D]) Y ∧ (storeI 25 (.pointer (some ⟨w.heap.size, 0, none⟩)) (.agg #[A, B, C, D])).run Tryz.prog Y = .ok () (putM Y w.heap.size #[A, B, C, D]) ∧ (putM Y w.heap.size #[A, B, C, D]).heap[w.heap.size]? = some (.cells #[A, B, C, D] 25 (0, 0)) ∧ Below w.heap.size w (putM Y w.heap.size #[A, B, C, D]) ∧ NdAt (fun g => w.heap.size ≤ g) 40 (putM Y w.heap.size #[A, B, C, D]) #[A, B, C, D] t) := fun Y hY => by
                  have h1 := HS5.out.below hY
                  have h2 := putM_only Y w.heap.size #[A, B, C, D]
                  exact ⟨h1.ld, h1.st, putM_row h1.r4 rfl, (to_cut h1.to (Nat.le_refl _) HZ2.out).trans (h2.below (Nat.le_refl _)), (HND5.out.below hY (Nat.le_refl _)).frame (Nat.le_of_eq h2.size.symm) fun g hg hl => ⟨h2.block g hg.2.1, hg.1⟩⟩
                have hl5 : ∀ n, (loadI 25 (.pointer (some ⟨W2.heap.size + 1, 0, none⟩))).run Tryz.prog (X5.drewN n) = .ok (.agg #[A, B, C, D]) (X5.drewN n) := fun n => (HFT.out _ (below_drewN _ _ _)).1
                have hs5 : ∀ n, (storeI 25 (.pointer (some ⟨w.heap.size, 0, none⟩)) (.agg #[A, B, C, D])).run Tryz.prog (X5.drewN n) = .ok () (putM (X5.drewN n) w.heap.size #[A, B, C, D]) := fun n => (HFT.out _ (below_drewN _ _ _)).2.1
                go_wp2_with fail
                go_quiet (fail)
                go_wp2_with fail
                refine bodyPost_ret (ret_nd2 (p := 2) (q := 3) Tryz.results16 _ _ w.heap.size _ rfl (0, 0) _ rfl rfl (HFT.out _ (below_drewN _ _ _)).2.2.1) rfl ?_
                exact ⟨(HFT.out _ (below_drewN _ _ _)).2.2.2.1, .inl ⟨t, _, HPV.out, rfl, (HFT.out _ (below_drewN _ _ _)).2.2.2.2⟩⟩
            · have HS5 := hid (HS4.out.call hg hr)
              rw [hasw] at HPV
              simp only at HPV
              clear hg hr hasw hst3
              have c3 : X5.cell? ⟨W2.heap.size, 3, none⟩ = some (.int .i64 (5 : Nat)) := HS5.out.rr.e
              have he1 : (((5 : Nat) : Int) == 0) = false := by have := (show 0 < 5 by decide); rw [beq_eq_false_iff_ne]; omega
              have he2 : (((5 : Nat) : Int) != 0) = true := by rw [bne, he1]; rfl
              have HNE : Hid ((5 : Nat) ≠ 0) := by show _ ≠ _; have := (show 0 < 5 by decide); omega
              go_wp2_with fail
              go_quiet (fail)
              go_wp2_with fail
              have HSQ := hid (HS5.out.below (show Below X5.heap.size X5 (X5.drewN nq) from below_drewN _ _ _))
              generalize X5.drewN nq = XQ at HSQ ⊢
              clear c3
              have c6 : XQ.cell? ⟨W2.heap.size, 3, none⟩ = some (.int .i64 (5 : Nat)) := HSQ.out.rr.e
              have c7 : XQ.drew.cell? ⟨W2.heap.size, 3, none⟩ = some (.int .i64 (5 : Nat)) := HSQ.out.rr.e
              have h1z := (HSQ.out.below (below_drew XQ))
              have hsz1 := storeM_row infoN (.string ⟨#[]⟩) (.slice none 0 0) (.string ⟨#[]⟩) (.slice none 0 0) rfl rfl rfl rfl h1z.r4 rfl
              have h2z := putM_only XQ.drew w.heap.size #[.string ⟨#[]⟩, .slice none 0 0, .string ⟨#[]⟩, .slice none 0 0]
              have HCE : Hid ((putM XQ.drew w.heap.size #[.string ⟨#[]⟩, .slice none 0 0, .string ⟨#[]⟩, .slice none 0 0]).heap[w.heap.size]? = some (.cells #[.string ⟨#[]⟩, .slice none 0 0, .string ⟨#[]⟩, .slice none 0 0] 25 (0, 0)) ∧ Below w.heap.size w (putM XQ.drew w.heap.size #[.string ⟨#[]⟩, .slice none 0 0, .string ⟨#[]⟩, .slice none 0 0])) := ⟨putM_row h1z.r4 rfl, (to_cut h1z.to (Nat.le_refl _) HZ2.out).trans (h2z.below (Nat.le_refl _))⟩
              have c8 : (putM XQ.drew w.heap.size #[.string ⟨#[]⟩, .slice none 0 0, .string ⟨#[]⟩, .slice none 0 0]).cell? ⟨W2.heap.size, 3, none⟩ = some (.int .i64 (5 : Nat)) := Rr.e ((h2z.block W2.heap.size (by have := HZ3.out; omega)).trans h1z.rr)
              clear h1z h2z
              generalize putM XQ.drew w.heap.size #[.string ⟨#[]⟩, .slice none 0 0, .string ⟨#[]⟩, .slice none 0 0] = YZ at hsz1 HCE c8
              go_wp2_with fail
              go_region
              all_goals
                go_wp2_with fail
                refine bodyPost_ret (ret_nd2 (p := 2) (q := 3) Tryz.results16 _ _ w.heap.size _ rfl (0, 0) _ rfl rfl HCE.out.1) rfl ?_
                exact ⟨HCE.out.2, .inr ⟨5, HPV.out, by have := (show 0 < 5 by decide); omega, rfl⟩⟩
          · rw [hel] at HPV
            simp only at HPV
            have HER := hid her
            clear hel her c3
            have c3 : X4.cell? ⟨W2.heap.size, 3, none⟩ = some (.int .i64 (e1 : Nat)) := HS4.out.rr.e
            have he1 : (((e1 : Nat) : Int) == 0) = false := by have := HER.out; rw [beq_eq_false_iff_ne]; omega
            have he2 : (((e1 : Nat) : Int) != 0) = true := by rw [bne, he1]; rfl
            have HNE : Hid ((e1 : Nat) ≠ 0) := by show _ ≠ _; have := HER.out; omega
            go_wp2_with fail
            refine Calls.mono (asideR_no true l _ _ e1 W2.heap.size HNE.out _ HS4.out.rr) ?_
            rintro x X4b ⟨⟨va, rfl⟩, hwb⟩
            have hwb2 := hwb.symm
            subst hwb2
            clear hwb
            go_wp2_with fail
            go_quiet (fail)
            go_wp2_with fail
            have HSQ := hid (HS4.out.below (show Below X4.heap.size X4 (X4.drewN nq) from below_drewN _ _ _))
            generalize X4.drewN nq = XQ at HSQ ⊢
            clear c3
            have c6 : XQ.cell? ⟨W2.heap.size, 3, none⟩ = some (.int .i64 (e1 : Nat)) := HSQ.out.rr.e
            have c7 : XQ.drew.cell? ⟨W2.heap.size, 3, none⟩ = some (.int .i64 (e1 : Nat)) := HSQ.out.rr.e
            have h1z := (HSQ.out.below (below_drew XQ))
            have hsz1 := storeM_row infoN (.string ⟨#[]⟩) (.slice none 0 0) (.string ⟨#[]⟩) (.slice none 0 0) rfl rfl rfl rfl h1z.r4 rfl
            have h2z := putM_only XQ.drew w.heap.size #[.string ⟨#[]⟩, .slice none 0 0, .string ⟨#[]⟩, .slice none 0 0]
            have HCE : Hid ((putM XQ.drew w.heap.size #[.string ⟨#[]⟩, .slice none 0 0, .string ⟨#[]⟩, .slice none 0 0]).heap[w.heap.size]? = some (.cells #[.string ⟨#[]⟩, .slice none 0 0, .string ⟨#[]⟩, .slice none 0 0] 25 (0, 0)) ∧ Below w.heap.size w (putM XQ.drew w.heap.size #[.string ⟨#[]⟩, .slice none 0 0, .string ⟨#[]⟩, .slice none 0 0])) := ⟨putM_row h1z.r4 rfl, (to_cut h1z.to (Nat.le_refl _) HZ2.out).trans (h2z.below (Nat.le_refl _))⟩
            have c8 : (putM XQ.drew w.heap.size #[.string ⟨#[]⟩, .slice none 0 0, .string ⟨#[]⟩, .slice none 0 0]).cell? ⟨W2.heap.size, 3, none⟩ = some (.int .i64 (e1 : Nat)) := Rr.e ((h2z.block W2.heap.size (by have := HZ3.out; omega)).trans h1z.rr)
            clear h1z h2z
            generalize putM XQ.drew w.heap.size #[.string ⟨#[]⟩, .slice none 0 0, .string ⟨#[]⟩, .slice none 0 0] = YZ at hsz1 HCE c8
            go_wp2_with fail
            go_region
            all_goals
              go_wp2_with fail
              refine bodyPost_ret (ret_nd2 (p := 2) (q := 3) Tryz.results16 _ _ w.heap.size _ rfl (0, 0) _ rfl rfl HCE.out.1) rfl ?_
              exact ⟨HCE.out.2, .inr ⟨e1, HPV.out, by have := HER.out; omega, rfl⟩⟩
      · have HS1 := hid (HS0.out.call hg hr)
        have HPV : Hid (V = .error 5) := by show _ = _; rw [HP.out]; unfold fileX; rw [hasw]
        clear hg hr hasw
        have c3 : X1.cell? ⟨W2.heap.size, 3, none⟩ = some (.int .i64 (5 : Nat)) := HS1.out.rr.e
        have he1 : (((5 : Nat) : Int) == 0) = false := by have := (show 0 < 5 by decide); rw [beq_eq_false_iff_ne]; omega
        have he2 : (((5 : Nat) : Int) != 0) = true := by rw [bne, he1]; rfl
        have HNE : Hid ((5 : Nat) ≠ 0) := by show _ ≠ _; have := (show 0 < 5 by decide); omega
        go_wp2_with fail
        refine Calls.mono (asideR_no true l _ _ 5 W2.heap.size HNE.out _ HS1.out.rr) ?_
        rintro x X1b ⟨⟨va, rfl⟩, hwb⟩
        have hwb2 := hwb.symm
        subst hwb2
        clear hwb
        go_wp2_with fail
        go_quiet (fail)
        go_wp2_with fail
        have HSQ := hid (HS1.out.below (show Below X1.heap.size X1 (X1.drewN nq) from below_drewN _ _ _))
        generalize X1.drewN nq = XQ at HSQ ⊢
        clear c3
        have c6 : XQ.cell? ⟨W2.heap.size, 3, none⟩ = some (.int .i64 (5 : Nat)) := HSQ.out.rr.e
        have c7 : XQ.drew.cell? ⟨W2.heap.size, 3, none⟩ = some (.int .i64 (5 : Nat)) := HSQ.out.rr.e
        have h1z := (HSQ.out.below (below_drew XQ))
        have hsz1 := storeM_row infoN (.string ⟨#[]⟩) (.slice none 0 0) (.string ⟨#[]⟩) (.slice none 0 0) rfl rfl rfl rfl h1z.r4 rfl
        have h2z := putM_only XQ.drew w.heap.size #[.string ⟨#[]⟩, .slice none 0 0, .string ⟨#[]⟩, .slice none 0 0]
        have HCE : Hid ((putM XQ.drew w.heap.size #[.string ⟨#[]⟩, .slice none 0 0, .string ⟨#[]⟩, .slice none 0 0]).heap[w.heap.size]? = some (.cells #[.string ⟨#[]⟩, .slice none 0 0, .string ⟨#[]⟩, .slice none 0 0] 25 (0, 0)) ∧ Below w.heap.size w (putM XQ.drew w.heap.size #[.string ⟨#[]⟩, .slice none 0 0, .string ⟨#[]⟩, .slice none 0 0])) := ⟨putM_row h1z.r4 rfl, (to_cut h1z.to (Nat.le_refl _) HZ2.out).trans (h2z.below (Nat.le_refl _))⟩
        have c8 : (putM XQ.drew w.heap.size #[.string ⟨#[]⟩, .slice none 0 0, .string ⟨#[]⟩, .slice none 0 0]).cell? ⟨W2.heap.size, 3, none⟩ = some (.int .i64 (5 : Nat)) := Rr.e ((h2z.block W2.heap.size (by have := HZ3.out; omega)).trans h1z.rr)
        clear h1z h2z
        generalize putM XQ.drew w.heap.size #[.string ⟨#[]⟩, .slice none 0 0, .string ⟨#[]⟩, .slice none 0 0] = YZ at hsz1 HCE c8
        go_wp2_with fail
        go_region
        all_goals
          go_wp2_with fail
          refine bodyPost_ret (ret_nd2 (p := 2) (q := 3) Tryz.results16 _ _ w.heap.size _ rfl (0, 0) _ rfl rfl HCE.out.1) rfl ?_
          exact ⟨HCE.out.2, .inr ⟨5, HPV.out, by have := (show 0 < 5 by decide); omega, rfl⟩⟩
    · rw [HXE.out, decide_eq_false h2] at HP
      have h2' : (errX s != 0) = true := by rw [bne_iff_ne]; exact h2
      clear hsz HXE HLI HLL HXM h1 h2
      generalize errX s = E at h2' HXM2
      generalize asS s = S at h1' HXM2 ⊢
      go_enter Tryz.func16, Tryz.ntmps16
      go_wp2_with fail
      refine (HXM2.out _).mono ?_
      rintro e W1 ⟨rfl, hb1⟩
      have HB1 := hid (HB0.out.trans (hb1.mono HB0.out.size))
      have HG1 := hid (row_keep hb1 HG0.out)
      clear hb1
      have hstx := storeM_row infoN (.string ⟨#[]⟩) (.slice none 0 0) (.string ⟨#[]⟩) (.slice none 0 0) rfl rfl rfl rfl HG1.out rfl
      have HPX := hid (putM_only W1 w.heap.size #[.string ⟨#[]⟩, .slice none 0 0, .string ⟨#[]⟩, .slice none 0 0])
      have HQX := hid (putM_row (cs' := #[.string ⟨#[]⟩, .slice none 0 0, .string ⟨#[]⟩, .slice none 0 0]) HG1.out rfl)
      generalize putM W1 w.heap.size #[.string ⟨#[]⟩, .slice none 0 0, .string ⟨#[]⟩, .slice none 0 0] = Y at hstx HPX HQX
      go_wp2_with fail
      refine bodyPost_ret (ret_nd2 (p := 2) (q := 3) Tryz.results16 _ _ w.heap.size _ rfl (0, 0) _ rfl rfl HQX.out) rfl ?_
      exact ⟨(HB1.out).trans (HPX.out.below (Nat.le_refl _)), .inr ⟨5, HP.out, by omega, rfl⟩⟩
end Go.Proofs.YthjibliaofmlhaaGreatDoor
