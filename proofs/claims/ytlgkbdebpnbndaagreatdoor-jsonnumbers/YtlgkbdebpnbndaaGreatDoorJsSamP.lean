
/- Are values alike? What the program's alike does. -/
import Derived.Test.YtlgkbdebpnbndaaGreatDoorJsSamM
namespace Go.Proofs.YtlgkbdebpnbndaaGreatDoor
set_option linter.unusedVariables false
set_option linter.unusedSimpArgs false
open Go.RowKit Go.BigFrame

def likeJ (d : Nat) (a b : VJ d) : Bool := decide (labJ d a = labJ d b ∧ (kidsJ d a).length = (kidsJ d b).length)
theorem like_parts {d : Nat} {a b : VJ d} {RES : Bool} (hR : likeJ d a b = RES) :
    ((labJ d a).1 ≠ (labJ d b).1 → RES = false) ∧ ((labJ d a).2.1 ≠ (labJ d b).2.1 → RES = false) ∧ ((labJ d a).2.2.1 ≠ (labJ d b).2.2.1 → RES = false) ∧ ((labJ d a).2.2.2 ≠ (labJ d b).2.2.2 → RES = false) ∧ ((kidsJ d a).length ≠ (kidsJ d b).length → RES = false) ∧
    ((labJ d a).1 = (labJ d b).1 → (labJ d a).2.1 = (labJ d b).2.1 → (labJ d a).2.2.1 = (labJ d b).2.2.1 → (labJ d a).2.2.2 = (labJ d b).2.2.2 → (kidsJ d a).length = (kidsJ d b).length → RES = true) := by
  subst hR
  exact ⟨fun h => decide_eq_false fun e => h (by rw [e.1]), fun h => decide_eq_false fun e => h (by rw [e.1]), fun h => decide_eq_false fun e => h (by rw [e.1]), fun h => decide_eq_false fun e => h (by rw [e.1]), fun h => decide_eq_false fun e => h e.2, fun h1 h2 h3 h4 h5 => decide_eq_true ⟨Prod.ext h1 (Prod.ext h2 (Prod.ext h3 h4)), h5⟩⟩
set_option maxHeartbeats 8000000 in
set_option maxRecDepth 100000 in
theorem alike_any (d : Nat) (a b : VJ d) (hwa : wtJ d a ≤ 100000) (hwb : wtJ d b ≤ 100000) (P P' : Nat → Prop) (ca cb : Array Value) (w : World) (hA : VAt P d w ca a) (hB : VAt P' d w cb b) : Calls Tryz.prog 38 #[.agg ca, .agg cb] w fun x w' => x = .returned (.bool (likeJ d a b)) ∧ Below w.heap.size w w' := by
  obtain ⟨kA, kc, nA, nc, rfl, hna, hka, _⟩ := hA.parts
  obtain ⟨kB, kd, nB, nd, rfl, hnb, hkb, _⟩ := hB.parts
  obtain ⟨_, w2, _, w4, _⟩ := wtJ_parts hwa
  obtain ⟨_, v2, _, v4, _⟩ := wtJ_parts hwb
  unfold vcs
  obtain ⟨e1, e2, e3, e4, e5, e6⟩ := like_parts (d := d) (a := a) (b := b) rfl
  have ht3 : ((asS (labJ d a).2.2.1).toList == (asS (labJ d b).2.2.1).toList) = decide ((labJ d a).2.2.1 = (labJ d b).2.2.1) := tl_two _ _
  clear hA hB hwa hwb hka hkb
  generalize likeJ d a b = RES at e1 e2 e3 e4 e5 e6 ⊢
  generalize (labJ d a).1 = KI at e1 e6 ⊢
  generalize (labJ d b).1 = KJ at e1 e6 ⊢
  generalize (labJ d a).2.1 = NU at e2 e6 ⊢
  generalize (labJ d b).2.1 = NV at e2 e6 ⊢
  generalize asS (labJ d a).2.2.1 = TX at ht3 ⊢
  generalize asS (labJ d b).2.2.1 = TY at ht3 ⊢
  generalize (labJ d a).2.2.1 = ta at e3 e6 ht3
  generalize (labJ d b).2.2.1 = tb at e3 e6 ht3
  generalize (labJ d a).2.2.2 = al at e4 e6 hna w2 ⊢
  generalize (labJ d b).2.2.2 = bl at e4 e6 hnb v2 ⊢
  generalize (kidsJ d a).length = n at e5 e6 w4 ⊢
  generalize (kidsJ d b).length = n2 at e5 e6 v4 ⊢
  have HE1 := hid e1
  have HE2 := hid e2
  have HE3 := hid e3
  have HE4 := hid e4
  have HE5 := hid e5
  have HE6 := hid e6
  have HTX := hid (fun W (hb : Below w.heap.size w W) => equal_any al bl (by omega) (by omega) nA nB nc nd W (hna.frame (P' := fun _ => True) hb.size fun q hq hl => ⟨hb.block q hl, trivial⟩) (hnb.frame (P' := fun _ => True) hb.size fun q hq hl => ⟨hb.block q hl, trivial⟩))
  clear e1 e2 e3 e4 e5 e6 hna hnb
  generalize al.length = m at HTX w2 ⊢
  generalize bl.length = m2 at HTX v2 ⊢
  obtain ⟨W0, hW0⟩ : ∃ W0, (w.alloc (.cells #[.int .i64 KI, .int .i64 NU, .string TX, .slice kA n kc, .slice nA m nc] 25)).alloc (.cells #[.int .i64 KJ, .int .i64 NV, .string TY, .slice kB n2 kd, .slice nB m2 nd] 25) = W0 := ⟨_, rfl⟩
  have HB0 : Hid (Below w.heap.size w W0) := by rw [← hW0]; exact ((Below.refl _ _).alloc (Nat.le_refl _) _).alloc (by simp) _
  have HX : Hid (W0.heap[w.heap.size]? = some (.cells #[.int .i64 KI, .int .i64 NU, .string TX, .slice kA n kc, .slice nA m nc] 25 (0, 0))) := by show _ = _; rw [← hW0]; exact heap_first w _ _
  have HY : Hid (W0.heap[w.heap.size + 1]? = some (.cells #[.int .i64 KJ, .int .i64 NV, .string TY, .slice kB n2 kd, .slice nB m2 nd] 25 (0, 0))) := by show _ = _; rw [← hW0]; exact heap_second w _ _
  have HT := hid (HTX.out W0 HB0.out)
  clear HTX
  have c0 : W0.cell? ⟨w.heap.size, 0, none⟩ = some (.int .i64 KI) := cell_of_row _ _ _ _ _ _ HX.out
  have c1 : W0.cell? ⟨w.heap.size, 1, none⟩ = some (.int .i64 NU) := cell_of_row _ _ _ _ _ _ HX.out
  have c2 : W0.cell? ⟨w.heap.size, 2, none⟩ = some (.string TX) := cell_of_row _ _ _ _ _ _ HX.out
  have c3 : W0.cell? ⟨w.heap.size, 3, none⟩ = some (.slice kA n kc) := cell_of_row _ _ _ _ _ _ HX.out
  have c4 : W0.cell? ⟨w.heap.size, 4, none⟩ = some (.slice nA m nc) := cell_of_row _ _ _ _ _ _ HX.out
  have d0 : W0.cell? ⟨w.heap.size + 1, 0, none⟩ = some (.int .i64 KJ) := cell_of_row _ _ _ _ _ _ HY.out
  have d1 : W0.cell? ⟨w.heap.size + 1, 1, none⟩ = some (.int .i64 NV) := cell_of_row _ _ _ _ _ _ HY.out
  have d2 : W0.cell? ⟨w.heap.size + 1, 2, none⟩ = some (.string TY) := cell_of_row _ _ _ _ _ _ HY.out
  have d3 : W0.cell? ⟨w.heap.size + 1, 3, none⟩ = some (.slice kB n2 kd) := cell_of_row _ _ _ _ _ _ HY.out
  have d4 : W0.cell? ⟨w.heap.size + 1, 4, none⟩ = some (.slice nB m2 nd) := cell_of_row _ _ _ _ _ _ HY.out
  have NO : Hid (∀ W, RES = false → Below w.heap.size w W → (fun (x : Ending) (w' : World) => x = .returned (.bool RES) ∧ Below w.heap.size w w') (.returned (.bool false)) W) := fun W h hb => ⟨by rw [h], hb⟩
  by_cases h1 : KI = KJ
  · subst h1
    have hk1 : (KI == KI) = true := by simp
    by_cases h2 : NU = NV
    · subst h2
      have hk2 : (NU == NU) = true := by simp
      by_cases h3 : ta = tb
      · have hq3 : (TX.toList == TY.toList) = true := by rw [ht3]; exact decide_eq_true h3
        clear ht3
        by_cases h5 : n = n2
        · subst h5
          have hk5 : ((n : Int) == (n : Int)) = true := by simp
          by_cases h4 : al = bl
          · have HT2 : Hid (Calls Tryz.prog 66 #[.slice nA m nc, .slice nB m2 nd] W0 fun x w' => x = .returned (.bool true) ∧ ∃ q, w' = W0.drewN q) := HT.out.mono fun x w' hh => ⟨by rw [hh.1, decide_eq_true h4], hh.2⟩
            have HYES := hid (HE6.out rfl rfl h3 h4 rfl)
            clear HT HE1 HE2 HE3 HE4 HE6 h3 h4
            go_enter Tryz.func38, Tryz.ntmps38
            go_wp2_with fail
            refine HT2.out.mono ?_
            rintro e W1 ⟨rfl, q, hq⟩
            have HB1 : Hid (Below w.heap.size w W1) := by show Below _ _ _; rw [hq]; exact HB0.out.trans ((below_drewN _ _ _).mono HB0.out.size)
            clear hq
            go_wp2_with fail
            go_ret
            exact ⟨by rw [HYES.out]; rfl, HB1.out⟩
          · have HT2 : Hid (Calls Tryz.prog 66 #[.slice nA m nc, .slice nB m2 nd] W0 fun x w' => x = .returned (.bool false) ∧ ∃ q, w' = W0.drewN q) := HT.out.mono fun x w' hh => ⟨by rw [hh.1, decide_eq_false h4], hh.2⟩
            have HR := hid (HE4.out h4)
            clear HT
            go_enter Tryz.func38, Tryz.ntmps38
            go_wp2_with fail
            refine HT2.out.mono ?_
            rintro e W1 ⟨rfl, q, hq⟩
            have HB1 : Hid (Below w.heap.size w W1) := by show Below _ _ _; rw [hq]; exact HB0.out.trans ((below_drewN _ _ _).mono HB0.out.size)
            clear hq
            go_wp2_with fail
            go_ret
            exact NO.out _ HR.out HB1.out
        · have hk5 : ((n : Int) == (n2 : Int)) = false := by rw [beq_eq_false_iff_ne]; omega
          have HR := hid (HE5.out h5)
          go_enter Tryz.func38, Tryz.ntmps38
          go_wp2_with fail
          go_ret
          exact NO.out _ HR.out HB0.out
      · have hq3 : (TX.toList == TY.toList) = false := by rw [ht3]; exact decide_eq_false h3
        have HR := hid (HE3.out h3)
        clear ht3
        go_enter Tryz.func38, Tryz.ntmps38
        go_wp2_with fail
        go_ret
        exact NO.out _ HR.out HB0.out
    · have hk2 : (NU == NV) = false := by rw [beq_eq_false_iff_ne]; exact h2
      have HR := hid (HE2.out h2)
      go_enter Tryz.func38, Tryz.ntmps38
      go_wp2_with fail
      go_ret
      exact NO.out _ HR.out HB0.out
  · have hk1 : (KI == KJ) = false := by rw [beq_eq_false_iff_ne]; exact h1
    have HR := hid (HE1.out h1)
    go_enter Tryz.func38, Tryz.ntmps38
    go_wp2_with fail
    go_ret
    exact NO.out _ HR.out HB0.out
end Go.Proofs.YtlgkbdebpnbndaaGreatDoor
