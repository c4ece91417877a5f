
/- How deep a value is, and how many there are: what the reference's Deep and Many do. -/
import Derived.Test.YtlgkbdebpnbndaaDoorJsAw
import Derived.Test.YtlgkbdebpnbndaaDoorJsDpM
import Derived.Deep.RegionLaw
namespace Go.Proofs.YtlgkbdebpnbndaaDoor
set_option linter.unusedVariables false
set_option linter.unusedSimpArgs false
open Go.RowKit Go.BigFrame
attribute [local go_sem ↓] loadV_eq

theorem take_all9 (l : List Nat) (n : Nat) (h : l.length = n) : l.take n = l := List.take_of_length_le (by omega)
def DeepP (d : Nat) (t : VJ d) : Prop := ∀ (P : Nat → Prop) (cs : Array Value) (w : World), VAt P d w cs t → Calls Tryd.prog 6 #[.agg cs] w fun x w' => x = .returned (.int .i64 (deepJ d t : Nat)) ∧ Below w.heap.size w w'
def ManyP (d : Nat) (t : VJ d) : Prop := ∀ (P : Nat → Prop) (cs : Array Value) (w : World), VAt P d w cs t → Calls Tryd.prog 7 #[.agg cs] w fun x w' => x = .returned (.int .i64 (manyJ d t : Nat)) ∧ Below w.heap.size w w'
set_option maxHeartbeats 8000000 in
set_option maxRecDepth 100000 in
theorem deep_of (d : Nat) (t : VJ d) (hw : wtJ d t ≤ 100000) (hd : d ≤ 1000) (IH : ∀ j, j < (kidsJ d t).length → DeepP (d - 1) ((kidsJ d t).getD j (zeroJ (d - 1)))) : DeepP d t := by
  intro P cs w hV
  obtain ⟨kA, kc, nA, nc, rfl, _, hks, _⟩ := hV.parts
  obtain ⟨_, _, _, w4, _⟩ := wtJ_parts hw
  unfold vcs
  have HIH := hid IH
  have HKS := hid hks
  have HE := hid (deepJ_eq d t)
  have HMX : Hid (∀ k, k ≤ (kidsJ d t).length → maxF (((kidsJ d t).map (deepJ (d - 1))).take k) ≤ 1002) := fun k hk => fold_le 1002 _ 0 (by omega) fun x hx => by
    obtain ⟨y, hy, rfl⟩ := List.mem_map.1 (List.mem_of_mem_take hx)
    have := deepJ_le (d - 1) y
    omega
  have HST : Hid (∀ k, k < (kidsJ d t).length → maxF (((kidsJ d t).map (deepJ (d - 1))).take (k + 1)) = max (maxF (((kidsJ d t).map (deepJ (d - 1))).take k)) (deepJ (d - 1) ((kidsJ d t).getD k (zeroJ (d - 1))))) := fun k hk => by
    rw [fold_take _ _ (by rw [List.length_map]; exact hk), map_getD9 _ (zeroJ (d - 1)) _ _ hk]
  have HEND : Hid (maxF (((kidsJ d t).map (deepJ (d - 1))).take (kidsJ d t).length) = maxF ((kidsJ d t).map (deepJ (d - 1)))) := by show _ = _; rw [take_all9 _ _ (List.length_map _)]
  have HDL : Hid (∀ k, k < (kidsJ d t).length → deepJ (d - 1) ((kidsJ d t).getD k (zeroJ (d - 1))) ≤ 1002) := fun k hk => by
    have := deepJ_le (d - 1) ((kidsJ d t).getD k (zeroJ (d - 1)))
    omega
  have HTD : Hid (topD (labJ d t) = if (labJ d t).1 = 4 ∨ (labJ d t).1 = 5 then 1 else 0) := rfl
  clear IH hks hV hw
  generalize deepJ d t = R at HE ⊢
  generalize topD (labJ d t) = TD at HE HTD
  generalize asS (labJ d t).2.2.1 = TX
  generalize (labJ d t).1 = KI at HTD ⊢
  generalize (labJ d t).2.1 = NU
  generalize (labJ d t).2.2.2.length = m
  generalize hF : maxF ((kidsJ d t).map (deepJ (d - 1))) = FIN at HE HEND
  have HF0 : Hid (maxF (((kidsJ d t).map (deepJ (d - 1))).take 0) = 0) := rfl
  clear hF
  obtain ⟨MX, hMX⟩ : ∃ MX : Nat → Nat, MX = fun k => maxF (((kidsJ d t).map (deepJ (d - 1))).take k) := ⟨_, rfl⟩
  have HMX2 : Hid (∀ k, k ≤ (kidsJ d t).length → MX k ≤ 1002) := by subst hMX; exact HMX.out
  have HST2 : Hid (∀ k, k < (kidsJ d t).length → MX (k + 1) = max (MX k) (deepJ (d - 1) ((kidsJ d t).getD k (zeroJ (d - 1))))) := by subst hMX; exact HST.out
  have HEND2 : Hid (MX (kidsJ d t).length = FIN) := by subst hMX; exact HEND.out
  have HF2 : Hid (MX 0 = 0) := by subst hMX; exact HF0.out
  clear hMX HMX HST HEND HF0
  generalize kidsJ d t = ks at HIH HKS HMX2 HST2 HEND2 HDL w4 ⊢
  generalize hn : ks.length = n at HIH HMX2 HST2 HEND2 HDL w4 ⊢
  have HN := hid hn
  clear hn
  have HROW := hid (heap_alloc_new w (.cells #[.int .i64 KI, .int .i64 NU, .string TX, .slice kA n kc, .slice nA m nc] 27 (0, 0)))
  have HB0 := hid ((Below.refl w.heap.size w).alloc (Nat.le_refl _) (.cells #[.int .i64 KI, .int .i64 NU, .string TX, .slice kA n kc, .slice nA m nc] 27))
  obtain ⟨W0, hW0⟩ : ∃ W0, w.alloc (.cells #[.int .i64 KI, .int .i64 NU, .string TX, .slice kA n kc, .slice nA m nc] 27) = W0 := ⟨_, rfl⟩
  rw [hW0] at HROW HB0
  have HENs := hid (enters_of Tryd.func6 (by kernel_rfl) rfl)
  go_enter Tryd.func6, Tryd.ntmps6
  go_wp2_with fail
  clear hW0
  go_loopw [3, 4, 5] (fun x3 i x5 wr => ∃ k : Nat, k ≤ n ∧ i = .int .i64 (k : Int) ∧ x3 = .int .i64 ((MX k : Nat) : Int) ∧ Hid (Below W0.heap.size W0 wr)) (fun x3 i x5 wr => n - (intOf i).toNat)
  case atStart => exact ⟨0, Nat.zero_le _, rfl, by rw [HF2.out]; rfl, Below.refl _ _⟩
  case round =>
    obtain ⟨k, hk2, rfl, rfl, HB⟩ := hrel
    have HRW := hid (row_keep HB.out HROW.out)
    have c3 : wr.cell? ⟨w.heap.size, 3, none⟩ = some (.slice kA n kc) := cell_of_row _ _ _ _ _ _ HRW.out
    have hbw : Hid (Below w.heap.size w wr) := HB0.out.trans (HB.out.mono HB0.out.size)
    by_cases hlt : k < n
    · have hi : (k : Int) < (n : Int) := by omega
      have hkl : k < ks.length := by have := HN.out; omega
      obtain ⟨q, o, a, b, c, e, f, rfl, hql, k1, k2, k3, k4, k5, hnd⟩ := (HKS.out.below hbw.out (Nat.le_refl _)).at k hkl
      have hldq := loadV_mid k1 k2 k3 k4 k5
      have HC := hid (HIH.out k hlt P _ wr hnd)
      have hst := HST2.out k hlt
      have hm1 := HMX2.out k hk2
      have hm2 := HDL.out k hlt
      clear k1 k2 k3 k4 k5 hnd hkl hql
      generalize deepJ (d - 1) (ks.getD k (zeroJ (d - 1))) = X at HC hst hm2
      have HSTK := hid hst
      clear hst
      generalize hM : MX k = M at HSTK hm1
      by_cases hgt : M < X
      · have hgt' : (M : Int) < (X : Int) := by omega
        have HNX : Hid (MX (k + 1) = X) := by have := HSTK.out; show _ = _; omega
        go_wp2_with fail
        refine HC.out.mono ?_
        rintro e W2 ⟨rfl, hb2⟩
        have HB2 := hid (HB.out.trans (hb2.mono HB.out.size))
        clear hb2
        go_wp2_with fail
        go_roundw
        case rel => exact ⟨k + 1, by omega, by go_num, by rw [HNX.out], HB2.out⟩
        case measure => simp [intOf]; omega
      · have hgt' : ¬ (M : Int) < (X : Int) := by omega
        have HNX : Hid (MX (k + 1) = M) := by have := HSTK.out; show _ = _; omega
        go_wp2_with fail
        refine HC.out.mono ?_
        rintro e W2 ⟨rfl, hb2⟩
        have HB2 := hid (HB.out.trans (hb2.mono HB.out.size))
        clear hb2
        go_wp2_with fail
        go_roundw
        case rel => exact ⟨k + 1, by omega, by go_num, by rw [HNX.out], HB2.out⟩
        case measure => simp [intOf]; omega
    · have hi : ¬ (k : Int) < (n : Int) := by omega
      obtain rfl : k = n := by omega
      have hm1 := HMX2.out k hk2
      have HFN := hid HEND2.out
      have c0 : wr.cell? ⟨w.heap.size, 0, none⟩ = some (.int .i64 KI) := cell_of_row _ _ _ _ _ _ HRW.out
      generalize MX k = M at HFN hm1
      by_cases h4 : KI = 4
      · have e4 : (KI == 4) = true := by simpa using h4
        have HR : Hid (R = M + 1) := by show _ = _; rw [HE.out, HTD.out, if_pos (.inl h4), HFN.out]
        clear HTD h4
        go_wp2_with fail
        go_ret
        exact ⟨by rw [HR.out]; rfl, hbw.out⟩
      · have e4 : (KI == 4) = false := by simpa using h4
        by_cases h5 : KI = 5
        · have e5 : (KI == 5) = true := by simpa using h5
          have HR : Hid (R = M + 1) := by show _ = _; rw [HE.out, HTD.out, if_pos (.inr h5), HFN.out]
          clear HTD h5
          go_wp2_with fail
          go_ret
          exact ⟨by rw [HR.out]; rfl, hbw.out⟩
        · have e5 : (KI == 5) = false := by simpa using h5
          have HR : Hid (R = M) := by show _ = _; rw [HE.out, HTD.out, if_neg (by omega), HFN.out]; omega
          clear HTD
          go_wp2_with fail
          go_ret
          exact ⟨by rw [HR.out]; rfl, hbw.out⟩
theorem refDeep_any : ∀ (d : Nat) (t : VJ d), d ≤ 1000 → wtJ d t ≤ 100000 → DeepP d t
  | 0, t, hd, hw => deep_of 0 t hw hd (fun j hj => absurd hj (Nat.not_lt_zero _))
  | d + 1, t, hd, hw => deep_of (d + 1) t hw hd fun j hj => refDeep_any d _ (by omega) ((wtJ_parts hw).2.2.2.2 _ (getD_mem9 hj))
set_option maxHeartbeats 8000000 in
set_option maxRecDepth 100000 in
theorem many_of (d : Nat) (t : VJ d) (hw : wtJ d t ≤ 100000) (IH : ∀ j, j < (kidsJ d t).length → ManyP (d - 1) ((kidsJ d t).getD j (zeroJ (d - 1)))) : ManyP d t := by
  intro P cs w hV
  obtain ⟨kA, kc, nA, nc, rfl, _, hks, _⟩ := hV.parts
  obtain ⟨_, _, _, w4, _⟩ := wtJ_parts hw
  unfold vcs
  have HIH := hid IH
  have HKS := hid hks
  have HE := hid (manyJ_eq d t)
  have hR := Nat.le_trans (manyJ_le d t) hw
  have HST : Hid (∀ k, k < (kidsJ d t).length → (((kidsJ d t).map (manyJ (d - 1))).take (k + 1)).sum = (((kidsJ d t).map (manyJ (d - 1))).take k).sum + manyJ (d - 1) ((kidsJ d t).getD k (zeroJ (d - 1)))) := fun k hk => by
    rw [sum_take _ _ (by rw [List.length_map]; exact hk), map_getD9 _ (zeroJ (d - 1)) _ _ hk]
  have HEND : Hid ((((kidsJ d t).map (manyJ (d - 1))).take (kidsJ d t).length).sum = ((kidsJ d t).map (manyJ (d - 1))).sum) := by show _ = _; rw [take_all9 _ _ (List.length_map _)]
  have HLE : Hid (∀ k, 1 + (((kidsJ d t).map (manyJ (d - 1))).take k).sum ≤ manyJ d t) := fun k => by
    rw [manyJ_eq d t]
    have h2 : ((kidsJ d t).map (manyJ (d - 1))).sum = (((kidsJ d t).map (manyJ (d - 1))).take k).sum + (((kidsJ d t).map (manyJ (d - 1))).drop k).sum := by rw [← List.sum_append, List.take_append_drop]
    omega
  clear IH hks hV hw
  generalize manyJ d t = R at HE HLE hR ⊢
  generalize asS (labJ d t).2.2.1 = TX
  generalize (labJ d t).1 = KI
  generalize (labJ d t).2.1 = NU
  generalize (labJ d t).2.2.2.length = m
  obtain ⟨MX, hMX⟩ : ∃ MX : Nat → Nat, MX = fun k => (((kidsJ d t).map (manyJ (d - 1))).take k).sum := ⟨_, rfl⟩
  have HLE2 : Hid (∀ k, 1 + MX k ≤ R) := by subst hMX; exact HLE.out
  have HST2 : Hid (∀ k, k < (kidsJ d t).length → MX (k + 1) = MX k + manyJ (d - 1) ((kidsJ d t).getD k (zeroJ (d - 1)))) := by subst hMX; exact HST.out
  have HEND2 : Hid (R = 1 + MX (kidsJ d t).length) := by subst hMX; show _ = _; rw [HE.out]; exact congrArg (1 + ·) HEND.out.symm
  have HF2 : Hid (MX 0 = 0) := by subst hMX; rfl
  clear hMX HLE HST HEND HE
  generalize kidsJ d t = ks at HIH HKS HST2 HEND2 w4 ⊢
  generalize hn : ks.length = n at HIH HST2 HEND2 w4 ⊢
  have HN := hid hn
  clear hn
  have HROW := hid (heap_alloc_new w (.cells #[.int .i64 KI, .int .i64 NU, .string TX, .slice kA n kc, .slice nA m nc] 27 (0, 0)))
  have HB0 := hid ((Below.refl w.heap.size w).alloc (Nat.le_refl _) (.cells #[.int .i64 KI, .int .i64 NU, .string TX, .slice kA n kc, .slice nA m nc] 27))
  obtain ⟨W0, hW0⟩ : ∃ W0, w.alloc (.cells #[.int .i64 KI, .int .i64 NU, .string TX, .slice kA n kc, .slice nA m nc] 27) = W0 := ⟨_, rfl⟩
  rw [hW0] at HROW HB0
  have HENs := hid (enters_of Tryd.func7 (by kernel_rfl) rfl)
  go_enter Tryd.func7, Tryd.ntmps7
  go_wp2_with fail
  clear hW0
  go_loopw [3, 4] (fun x3 i wr => ∃ k : Nat, k ≤ n ∧ i = .int .i64 (k : Int) ∧ x3 = .int .i64 ((1 + MX k : Nat) : Int) ∧ Hid (Below W0.heap.size W0 wr)) (fun x3 i wr => n - (intOf i).toNat)
  case atStart => exact ⟨0, Nat.zero_le _, rfl, by rw [HF2.out]; rfl, Below.refl _ _⟩
  case round =>
    obtain ⟨k, hk2, rfl, rfl, HB⟩ := hrel
    have HRW := hid (row_keep HB.out HROW.out)
    have c3 : wr.cell? ⟨w.heap.size, 3, none⟩ = some (.slice kA n kc) := cell_of_row _ _ _ _ _ _ HRW.out
    have hbw : Hid (Below w.heap.size w wr) := HB0.out.trans (HB.out.mono HB0.out.size)
    have hm1 := HLE2.out k
    by_cases hlt : k < n
    · have hi : (k : Int) < (n : Int) := by omega
      have hkl : k < ks.length := by have := HN.out; omega
      obtain ⟨q, o, a, b, c, e, f, rfl, hql, k1, k2, k3, k4, k5, hnd⟩ := (HKS.out.below hbw.out (Nat.le_refl _)).at k hkl
      have hldq := loadV_mid k1 k2 k3 k4 k5
      have hst := HST2.out k hlt
      have hm2 := HLE2.out (k + 1)
      have HC := hid (HIH.out k hlt P _ wr hnd)
      clear k1 k2 k3 k4 k5 hnd hkl hql
      generalize manyJ (d - 1) (ks.getD k (zeroJ (d - 1))) = X at HC hst
      have HSTK := hid hst
      generalize hM : MX k = M at hst hm1 HSTK
      generalize hM2 : MX (k + 1) = M2 at hst hm2 HSTK
      have HM2 := hid hM2
      clear hM hM2
      go_wp2_with fail
      refine HC.out.mono ?_
      rintro e W2 ⟨rfl, hb2⟩
      have HB2 := hid (HB.out.trans (hb2.mono HB.out.size))
      clear hb2
      go_wp2_with fail
      go_roundw
      case rel => exact ⟨k + 1, by omega, by go_num, by rw [HM2.out]; congr 1; omega, HB2.out⟩
      case measure => simp [intOf]; omega
    · have hi : ¬ (k : Int) < (n : Int) := by omega
      obtain rfl : k = n := by omega
      go_wp2_with fail
      go_ret
      exact ⟨by rw [HEND2.out]; show Ending.returned (.int .i64 (1 + (MX k : Int))) = _; rw [show ((1 + MX k : Nat) : Int) = 1 + (MX k : Int) from by omega], hbw.out⟩
theorem refMany_any : ∀ (d : Nat) (t : VJ d), wtJ d t ≤ 100000 → ManyP d t
  | 0, t, hw => many_of 0 t hw (fun j hj => absurd hj (Nat.not_lt_zero _))
  | d + 1, t, hw => many_of (d + 1) t hw fun j hj => refMany_any d _ ((wtJ_parts hw).2.2.2.2 _ (getD_mem9 hj))
end Go.Proofs.YtlgkbdebpnbndaaDoor
