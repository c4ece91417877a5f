
/- Are values alike? What the reference's Same does. -/
import Derived.Test.YtlgkbdebpnbndaaGreatDoorJsSame
import Derived.Deep.RegionLaw
namespace Go.Proofs.YtlgkbdebpnbndaaGreatDoor
set_option linter.unusedVariables false
set_option linter.unusedSimpArgs false
open Go.RowKit Go.BigFrame
attribute [local go_sem ↓] loadV_eq

theorem step_give2 {ops : Array Oper} {o : Oper} {a : Act} {w : World} {K : Act → World → Prop} {Q : Exit → Act → World → Prop} {E : Prop} (hgd : o.guard = none) (f : FuncId) (x y : Operand) (ts : Array TypeId)
    (ho : o.op = .call { callee := .value (.func f), args := #[x, y], argTypes := ts }) (eg : ∀ args w, (callFunc f args).run Tryz.prog w = .ok (.enter f args) w) (xv yv : Value) (hx : a.eval x = xv) (hy : a.eval y = yv)
    {R : Value → World → Prop} (hc : Calls Tryz.prog f #[xv, yv] w fun e w' => ∃ v, e = .returned v ∧ R v w') (h : ∀ v w', R v w' → K (a.put o.dst v) w') :
    if Region.wanted o (yielded ops a.tmps) = true then Oper.wp Tryz.prog o a w K Q else E :=
  step_gives hgd f #[x, y] ts ho eg #[xv, yv] (by simp [hx, hy]) hc h
def SameP (d : Nat) (a b : VJ d) : Prop := ∀ (P P' : Nat → Prop) (ca cb : Array Value) (w : World), VAt P d w ca a → VAt P' d w cb b → Calls Tryz.prog 15 #[.agg ca, .agg cb] w fun x w' => x = .returned (.bool (eqJ d a b)) ∧ Below w.heap.size w w'
/-- What the labels tell, and what the rest does. -/
theorem eq_parts {d : Nat} {a b : VJ d} {RES : Bool} (hR : eqJ d a b = RES) :
    ((labJ d a).1 ≠ (labJ d b).1 → RES = false) ∧ ((labJ d a).2.1 ≠ (labJ d b).2.1 → RES = false) ∧ ((labJ d a).2.2.1 ≠ (labJ d b).2.2.1 → RES = false) ∧ ((labJ d a).2.2.2 ≠ (labJ d b).2.2.2 → RES = false) ∧ ((kidsJ d a).length ≠ (kidsJ d b).length → RES = false) ∧
    ((labJ d a).1 = (labJ d b).1 → (labJ d a).2.1 = (labJ d b).2.1 → (labJ d a).2.2.1 = (labJ d b).2.2.1 → (labJ d a).2.2.2 = (labJ d b).2.2.2 → (RES = true ↔ kidsJ d a = kidsJ d b)) := by
  subst hR
  refine ⟨fun h => eqJ_no fun e => h (by rw [e]), fun h => eqJ_no fun e => h (by rw [e]), fun h => eqJ_no fun e => h (by rw [e]), fun h => eqJ_no fun e => h (by rw [e]), fun h => eqJ_no fun e => h (by rw [e]), fun h1 h2 h3 h4 => ?_⟩
  rw [eqJ_iff, vj_eq]
  exact ⟨fun h => h.2, fun h => ⟨Prod.ext h1 (Prod.ext h2 (Prod.ext h3 h4)), h⟩⟩
set_option maxHeartbeats 8000000 in
set_option maxRecDepth 100000 in
theorem sameR_of (d : Nat) (a b : VJ d) (hwa : wtJ d a ≤ 100000) (hwb : wtJ d b ≤ 100000) (IH : ∀ j, j < (kidsJ d a).length → j < (kidsJ d b).length → SameP (d - 1) ((kidsJ d a).getD j (zeroJ (d - 1))) ((kidsJ d b).getD j (zeroJ (d - 1)))) : SameP d a b := by
  intro P P' ca cb w hA hB
  obtain ⟨kA, kc, nA, nc, rfl, hna, hka, _⟩ := hA.parts
  obtain ⟨kB, kd, nB, nd, rfl, hnb, hkb, _⟩ := hB.parts
  obtain ⟨_, w2, _, w4, _⟩ := wtJ_parts hwa
  obtain ⟨_, v2, _, v4, _⟩ := wtJ_parts hwb
  unfold vcs
  obtain ⟨e1, e2, e3, e4, e5, e6⟩ := eq_parts (d := d) (a := a) (b := b) rfl
  have ht3 : ((asS (labJ d a).2.2.1).toList == (asS (labJ d b).2.2.1).toList) = decide ((labJ d a).2.2.1 = (labJ d b).2.2.1) := tl_two _ _
  have HIH := hid IH
  clear IH hA hB hwa hwb
  generalize eqJ d a b = RES at e1 e2 e3 e4 e5 e6 ⊢
  generalize (labJ d a).1 = KI at e1 e6 ⊢
  generalize (labJ d b).1 = KJ at e1 e6 ⊢
  generalize (labJ d a).2.1 = NU at e2 e6 ⊢
  generalize (labJ d b).2.1 = NV at e2 e6 ⊢
  generalize asS (labJ d a).2.2.1 = TX at ht3 ⊢
  generalize asS (labJ d b).2.2.1 = TY at ht3 ⊢
  generalize (labJ d a).2.2.1 = ta at e3 e6 ht3
  generalize (labJ d b).2.2.1 = tb at e3 e6 ht3
  generalize (labJ d a).2.2.2 = al at e4 e6 hna w2 ⊢
  generalize (labJ d b).2.2.2 = bl at e4 e6 hnb v2 ⊢
  generalize kidsJ d a = ks at e5 e6 hka HIH w4 ⊢
  generalize kidsJ d b = js at e5 e6 hkb HIH v4 ⊢
  have HE1 := hid e1
  have HE2 := hid e2
  have HE3 := hid e3
  have HE4 := hid e4
  have HE5 := hid e5
  have HE6 := hid e6
  have HKA := hid hka
  have HKB := hid hkb
  have HTX := hid (fun W (hb : Below w.heap.size w W) => texts_any al bl (by omega) (by omega) nA nB nc nd W (hna.frame (P' := fun _ => True) hb.size fun q hq hl => ⟨hb.block q hl, trivial⟩) (hnb.frame (P' := fun _ => True) hb.size fun q hq hl => ⟨hb.block q hl, trivial⟩))
  clear e1 e2 e3 e4 e5 e6 hka hkb hna hnb
  generalize hn : ks.length = n at HE5 HIH w4 ⊢
  generalize hn2 : js.length = n2 at HE5 HIH v4 ⊢
  have HN := hid hn
  have HN2 := hid hn2
  generalize al.length = m at HTX w2 ⊢
  generalize bl.length = m2 at HTX v2 ⊢
  clear hn hn2
  obtain ⟨W0, hW0⟩ : ∃ W0, (w.alloc (.cells #[.int .i64 KI, .int .i64 NU, .string TX, .slice kA n kc, .slice nA m nc] 25)).alloc (.cells #[.int .i64 KJ, .int .i64 NV, .string TY, .slice kB n2 kd, .slice nB m2 nd] 25) = W0 := ⟨_, rfl⟩
  have HB0 : Hid (Below w.heap.size w W0) := by rw [← hW0]; exact ((Below.refl _ _).alloc (Nat.le_refl _) _).alloc (by simp) _
  have HX : Hid (W0.heap[w.heap.size]? = some (.cells #[.int .i64 KI, .int .i64 NU, .string TX, .slice kA n kc, .slice nA m nc] 25 (0, 0))) := by show _ = _; rw [← hW0]; exact heap_first w _ _
  have HY : Hid (W0.heap[w.heap.size + 1]? = some (.cells #[.int .i64 KJ, .int .i64 NV, .string TY, .slice kB n2 kd, .slice nB m2 nd] 25 (0, 0))) := by show _ = _; rw [← hW0]; exact heap_second w _ _
  have HT := hid (HTX.out W0 HB0.out)
  clear HTX
  have c0 : W0.cell? ⟨w.heap.size, 0, none⟩ = some (.int .i64 KI) := cell_of_row _ _ _ _ _ _ HX.out
  have c1 : W0.cell? ⟨w.heap.size, 1, none⟩ = some (.int .i64 NU) := cell_of_row _ _ _ _ _ _ HX.out
  have c2 : W0.cell? ⟨w.heap.size, 2, none⟩ = some (.string TX) := cell_of_row _ _ _ _ _ _ HX.out
  have c4 : W0.cell? ⟨w.heap.size, 4, none⟩ = some (.slice nA m nc) := cell_of_row _ _ _ _ _ _ HX.out
  have d0 : W0.cell? ⟨w.heap.size + 1, 0, none⟩ = some (.int .i64 KJ) := cell_of_row _ _ _ _ _ _ HY.out
  have d1 : W0.cell? ⟨w.heap.size + 1, 1, none⟩ = some (.int .i64 NV) := cell_of_row _ _ _ _ _ _ HY.out
  have d2 : W0.cell? ⟨w.heap.size + 1, 2, none⟩ = some (.string TY) := cell_of_row _ _ _ _ _ _ HY.out
  have d4 : W0.cell? ⟨w.heap.size + 1, 4, none⟩ = some (.slice nB m2 nd) := cell_of_row _ _ _ _ _ _ HY.out
  have NO : Hid (∀ W, RES = false → Below w.heap.size w W → (fun (x : Ending) (w' : World) => x = .returned (.bool RES) ∧ Below w.heap.size w w') (.returned (.bool false)) W) := fun W h hb => ⟨by rw [h], hb⟩
  by_cases h1 : KI = KJ
  · subst h1
    have hk1 : (KI != KI) = false := by simp
    by_cases h2 : NU = NV
    · subst h2
      have hk2 : (NU != NU) = false := by simp
      by_cases h3 : ta = tb
      · have hq3 : (TX.toList == TY.toList) = true := by rw [ht3]; exact decide_eq_true h3
        clear ht3
        by_cases h4 : al = bl
        · have HT2 : Hid (Calls Tryz.prog 37 #[.slice nA m nc, .slice nB m2 nd] W0 fun x w' => x = .returned (.bool true) ∧ Below W0.heap.size W0 w') := HT.out.mono fun x w' hh => ⟨by rw [hh.1, decide_eq_true h4], hh.2⟩
          have HYES := hid (HE6.out rfl rfl h3 h4)
          clear HT HE1 HE2 HE3 HE4 HE6 h3 h4
          by_cases h5 : n = n2
          · subst h5
            have hk5 : ((n : Int) != (n : Int)) = false := by simp
            clear HE5
            go_enter Tryz.func15, Tryz.ntmps15
            go_wp2_with fail
            refine HT2.out.mono ?_
            rintro e W1 ⟨rfl, hb⟩
            have HX1 := hid (row_keep hb HX.out)
            have HY1 := hid (row_keep hb HY.out)
            have HB1 := hid (HB0.out.trans (hb.mono HB0.out.size))
            have c3 : W1.cell? ⟨w.heap.size, 3, none⟩ = some (.slice kA n kc) := cell_of_row _ _ _ _ _ _ HX1.out
            have d3 : W1.cell? ⟨w.heap.size + 1, 3, none⟩ = some (.slice kB n kd) := cell_of_row _ _ _ _ _ _ HY1.out
            clear hb HX HY HB0 HT2
            go_wp2_with fail
            clear c3 d3
            have HEQ : Hid (RES = true ↔ ks.drop 0 = js.drop 0) := by show _ ↔ _; rw [List.drop_zero, List.drop_zero]; exact HYES.out
            go_loopw [5] (fun i wr => ∃ k : Nat, k ≤ n ∧ i = .int .i64 (k : Int) ∧ Hid (RES = true ↔ ks.drop k = js.drop k) ∧ Hid (Below W1.heap.size W1 wr)) (fun i wr => n - (intOf i).toNat)
            case atStart => exact ⟨0, Nat.zero_le _, rfl, HEQ, Below.refl _ _⟩
            case round =>
              obtain ⟨k, hk2, rfl, HK, HBL⟩ := hrel
              have HBW := hid (HB1.out.trans (HBL.out.mono HB1.out.size))
              have HX2 := hid (row_keep HBL.out HX1.out)
              have HY2 := hid (row_keep HBL.out HY1.out)
              have c3 : wr.cell? ⟨w.heap.size, 3, none⟩ = some (.slice kA n kc) := cell_of_row _ _ _ _ _ _ HX2.out
              have d3 : wr.cell? ⟨w.heap.size + 1, 3, none⟩ = some (.slice kB n kd) := cell_of_row _ _ _ _ _ _ HY2.out
              by_cases hlt : k < n
              · have hi : (k : Int) < (n : Int) := by omega
                have hkl : k < ks.length := by have := HN.out; omega
                have hkj : k < js.length := by have := HN2.out; omega
                obtain ⟨q, o, x0, x1, x2, x3, x4, hq, hql, k1, k2, k3, k4, k5, hnd⟩ := (HKA.out.below HBW.out (Nat.le_refl _)).at k hkl
                obtain ⟨q', o', y0, y1, y2, y3, y4, hq', hql', k1', k2', k3', k4', k5', hnd'⟩ := (HKB.out.below HBW.out (Nat.le_refl _)).at k hkj
                have hldA := loadV_mid (w := wr.drew) k1 k2 k3 k4 k5
                have hldB := loadV_mid (w := wr.drew) k1' k2' k3' k4' k5'
                have HC : Hid (Calls Tryz.prog 15 #[.agg #[x0, x1, x2, x3, x4], .agg #[y0, y1, y2, y3, y4]] wr.drew fun x w' => ∃ v, x = .returned v ∧ (v = .bool (eqJ (d - 1) (ks.getD k (zeroJ (d - 1))) (js.getD k (zeroJ (d - 1)))) ∧ Below wr.heap.size wr.drew w')) := (HIH.out k hlt hlt _ _ _ _ wr.drew (hnd.below (Below.refl wr.heap.size wr).drew (Nat.le_refl _)) (hnd'.below (Below.refl wr.heap.size wr).drew (Nat.le_refl _))).mono fun x w' hp => ⟨_, hp.1, rfl, hp.2⟩
                have HD := hid (drop_eqJ (z := zeroJ (d - 1)) hkl hkj)
                have HQJ := hid (eqJ_iff (d - 1) (ks.getD k (zeroJ (d - 1))) (js.getD k (zeroJ (d - 1))))
                have HCT : Hid (ks.getD k (zeroJ (d - 1)) = js.getD k (zeroJ (d - 1)) → (RES = true ↔ ks.drop (k + 1) = js.drop (k + 1))) := fun he => HK.out.trans (HD.out.trans ⟨fun h => h.2, fun h => ⟨he, h⟩⟩)
                have HCF : Hid (¬ ks.getD k (zeroJ (d - 1)) = js.getD k (zeroJ (d - 1)) → RES = false) := fun hne => by
                  cases hr : RES with
                  | true => exact absurd (HD.out.1 (HK.out.1 hr)).1 hne
                  | false => rfl
                clear k1 k2 k3 k4 k5 k1' k2' k3' k4' k5' hnd hnd' hkl hkj hql hql' HD HK HX2 HY2
                subst hq hq'
                have HENs := hid (enters_of Tryz.func15 (by kernel_rfl) rfl)
                generalize eqJ (d - 1) (ks.getD k (zeroJ (d - 1))) (js.getD k (zeroJ (d - 1))) = bq at HC HQJ
                cases bq with
                | true =>
                  have HC2 := hid (HCT.out (HQJ.out.1 rfl))
                  clear HCT HCF HQJ
                  go_wp2_with fail
                  go_region_law ((first
                    | (refine step_give2 (by rfl) 15 _ _ _ (by rfl) HENs.out (.agg #[x0, x1, x2, x3, x4]) (.agg #[y0, y1, y2, y3, y4]) (by rfl) (by rfl) HC.out ?_; intro v1 w1 ha; obtain ⟨hv1, hb1⟩ := ha; subst hv1; have HB2 : Hid (Below wr.heap.size wr w1) := ((Below.refl _ _).drew).trans hb1; clear hb1)
                    | fail))
                  all_goals
                    go_simp
                    go_wp2_with fail
                    go_roundw
                    case rel => exact ⟨k + 1, by omega, by go_num, HC2, HBL.out.trans (HB2.out.mono HBL.out.size)⟩
                    case measure => simp [intOf]; omega
                | false =>
                  have HC2 := hid (HCF.out (fun h => by have := HQJ.out.2 h; cases this))
                  clear HCT HCF HQJ
                  go_wp2_with fail
                  go_region_law ((first
                    | (refine step_give2 (by rfl) 15 _ _ _ (by rfl) HENs.out (.agg #[x0, x1, x2, x3, x4]) (.agg #[y0, y1, y2, y3, y4]) (by rfl) (by rfl) HC.out ?_; intro v1 w1 ha; obtain ⟨hv1, hb1⟩ := ha; subst hv1; have HB2 : Hid (Below wr.heap.size wr w1) := ((Below.refl _ _).drew).trans hb1; clear hb1)
                    | fail))
                  all_goals
                    go_simp
                    go_wp2_with fail
                    go_ret
                    exact NO.out _ HC2.out (HBW.out.trans (HB2.out.mono HBW.out.size))
              · have hi : ¬ (k : Int) < (n : Int) := by omega
                have HR : Hid (RES = true) := HK.out.2 (by rw [List.drop_of_length_le (by have := HN.out; omega), List.drop_of_length_le (by have := HN2.out; omega)])
                go_wp2_with fail
                go_ret
                exact ⟨by rw [HR.out]; rfl, HBW.out⟩
          · have hk5 : ((n : Int) != (n2 : Int)) = true := by rw [bne_iff_ne]; omega
            have HR := hid (HE5.out h5)
            go_enter Tryz.func15, Tryz.ntmps15
            go_wp2_with fail
            refine HT2.out.mono ?_
            rintro e W1 ⟨rfl, hb⟩
            have HX1 := hid (row_keep hb HX.out)
            have HY1 := hid (row_keep hb HY.out)
            have HB1 := hid (HB0.out.trans (hb.mono HB0.out.size))
            have c3 : W1.cell? ⟨w.heap.size, 3, none⟩ = some (.slice kA n kc) := cell_of_row _ _ _ _ _ _ HX1.out
            have d3 : W1.cell? ⟨w.heap.size + 1, 3, none⟩ = some (.slice kB n2 kd) := cell_of_row _ _ _ _ _ _ HY1.out
            clear hb HX HY HB0 HT2
            go_wp2_with fail
            go_ret
            exact NO.out _ HR.out HB1.out
        · have HT2 : Hid (Calls Tryz.prog 37 #[.slice nA m nc, .slice nB m2 nd] W0 fun x w' => x = .returned (.bool false) ∧ Below W0.heap.size W0 w') := HT.out.mono fun x w' hh => ⟨by rw [hh.1, decide_eq_false h4], hh.2⟩
          have HR := hid (HE4.out h4)
          clear HT
          go_enter Tryz.func15, Tryz.ntmps15
          go_wp2_with fail
          refine HT2.out.mono ?_
          rintro e W1 ⟨rfl, hb⟩
          have HB1 := hid (HB0.out.trans (hb.mono HB0.out.size))
          clear hb
          go_wp2_with fail
          go_ret
          exact NO.out _ HR.out HB1.out
      · have hq3 : (TX.toList == TY.toList) = false := by rw [ht3]; exact decide_eq_false h3
        have HR := hid (HE3.out h3)
        clear ht3
        go_enter Tryz.func15, Tryz.ntmps15
        go_wp2_with fail
        go_ret
        exact NO.out _ HR.out HB0.out
    · have hk2 : (NU != NV) = true := by rw [bne_iff_ne]; exact h2
      have HR := hid (HE2.out h2)
      go_enter Tryz.func15, Tryz.ntmps15
      go_wp2_with fail
      go_ret
      exact NO.out _ HR.out HB0.out
  · have hk1 : (KI != KJ) = true := by rw [bne_iff_ne]; exact h1
    have HR := hid (HE1.out h1)
    go_enter Tryz.func15, Tryz.ntmps15
    go_wp2_with fail
    go_ret
    exact NO.out _ HR.out HB0.out
theorem sameR_any : ∀ (d : Nat) (a b : VJ d), wtJ d a ≤ 100000 → wtJ d b ≤ 100000 → SameP d a b
  | 0, a, b, ha, hb => sameR_of 0 a b ha hb (fun j hj _ => absurd hj (Nat.not_lt_zero _))
  | d + 1, a, b, ha, hb => sameR_of (d + 1) a b ha hb fun j hj hj' => sameR_any d _ _ ((wtJ_parts ha).2.2.2.2 _ (getD_mem9 hj)) ((wtJ_parts hb).2.2.2.2 _ (getD_mem9 hj'))
end Go.Proofs.YtlgkbdebpnbndaaGreatDoor
