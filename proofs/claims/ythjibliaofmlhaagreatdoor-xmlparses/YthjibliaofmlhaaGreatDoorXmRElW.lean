
/- The reference's reader: an element, walked. -/
import Derived.Test.YthjibliaofmlhaaGreatDoorXmREl
import Derived.Test.YthjibliaofmlhaaGreatDoorXmRAtW
import Derived.Test.YthjibliaofmlhaaGreatDoorXmSet
namespace Go.Proofs.YthjibliaofmlhaaGreatDoor
set_option linter.unusedVariables false
set_option linter.unusedSimpArgs false
open Go.RowKit Go.BigFrame
attribute [local go_sem ↓] loadN_eq storeN_eq

theorem infoNs2 : (Tryz.prog.info? 23).map (·.size) = some 1 := by kernel_rfl
theorem infoHs2 : (Tryz.prog.info? 22).map (·.size) = some 1 := by kernel_rfl
set_option maxHeartbeats 2000000 in
set_option maxRecDepth 100000 in
theorem elR_zero (d : Nat) : ErOk d 0 := by
  intro s p m R w hs hp hm h
  have HP := hid hp
  have HS := hid hs
  have HM := hid hm
  have HRL := hid h.lt
  have HPL : Hid (∀ W, Rr W R s p m 0 → Calls Tryz.prog 63 #[.pointer (some ⟨R, 0, none⟩), .string ⟨#[60]⟩] W fun x w' => x = .returned (.bool (preX [60] (s.drop p))) ∧ Rr w' R s (if preX [60] (s.drop p) then p + 1 else p) m 0 ∧ W.grownBy w' (some R)) := fun W hW => past_any s [60] p m 0 R (by omega) (by simp) hp W hW
  have HWR : Hid (∀ q m' e (k : Nat) W, Rr W R s q m' e → Calls Tryz.prog 42 #[.pointer (some ⟨R, 0, none⟩), .int .i64 (k : Int)] W fun x w' => x = .returned (.bool false) ∧ Rr w' R s q m' (if e = 0 then k else e) ∧ Only R W w') := fun q m' e k W hW => wrong_any s q m' e k R W hW
  have HV0 := hid (fun hb => el_nolt (d := d) (lev := 0) (m := m) (p := p) (s := s) hb)
  have HV1 := hid (fun hb hn => el_noname (d := d) (lev := 0) (m := m) (p := p) (s := s) hb hn)
  have HV2 := hid (fun hb hn => el_nolev (d := d) (m := m) (p := p) (s := s) hb hn)
  generalize elX d 0 (s.drop p) m = V at HV0 HV1 HV2 ⊢
  have hdp : ((17 - 0 : Nat) : Int) = 17 := rfl
  rw [hdp]
  have HS0 : Hid (ErS R w.heap.size (w.heap.size + 1) w (.string ⟨#[]⟩) (.slice none 0 0) (.string ⟨#[]⟩) (.slice none 0 0) s p m 0 (putM ((w.alloc (.cells #[.string ⟨#[]⟩, .slice none 0 0, .string ⟨#[]⟩, .slice none 0 0] 25 (0, 0))).alloc (.cells #[.string ⟨#[]⟩, .slice none 0 0, .string ⟨#[]⟩, .slice none 0 0] 25 (0, 0))) (w.heap.size + 1) #[.string ⟨#[]⟩, .slice none 0 0, .string ⟨#[]⟩, .slice none 0 0])) := by
    have ho := putM_only ((w.alloc (.cells #[.string ⟨#[]⟩, .slice none 0 0, .string ⟨#[]⟩, .slice none 0 0] 25 (0, 0))).alloc (.cells #[.string ⟨#[]⟩, .slice none 0 0, .string ⟨#[]⟩, .slice none 0 0] 25 (0, 0))) (w.heap.size + 1) #[.string ⟨#[]⟩, .slice none 0 0, .string ⟨#[]⟩, .slice none 0 0]
    have hrow := putM_row (cs' := #[.string ⟨#[]⟩, .slice none 0 0, .string ⟨#[]⟩, .slice none 0 0]) (heap_second w (.cells #[.string ⟨#[]⟩, .slice none 0 0, .string ⟨#[]⟩, .slice none 0 0] 25 (0, 0)) (.cells #[.string ⟨#[]⟩, .slice none 0 0, .string ⟨#[]⟩, .slice none 0 0] 25 (0, 0))) rfl
    have hRl := HRL.out
    have a1 : Below w.heap.size w ((w.alloc (.cells #[.string ⟨#[]⟩, .slice none 0 0, .string ⟨#[]⟩, .slice none 0 0] 25 (0, 0))).alloc (.cells #[.string ⟨#[]⟩, .slice none 0 0, .string ⟨#[]⟩, .slice none 0 0] 25 (0, 0))) := ((Below.refl _ _).alloc (Nat.le_refl _) _).alloc (by simp) _
    refine ⟨(ho.block R (by omega)).trans (h.below a1), grown_own (to_below a1) (to_only (R := w.heap.size + 1) ho) (fun q hq => by injection hq with hq; omega), (ho.block w.heap.size (by omega)).trans (heap_first w _ _), hrow, rfl, rfl, rfl, rfl, by omega, by omega, by omega, Nat.le_refl _, by omega⟩
  have hst0 := storeM_row infoN (.string ⟨#[]⟩) (.slice none 0 0) (.string ⟨#[]⟩) (.slice none 0 0) rfl rfl rfl rfl (heap_second w (.cells #[.string ⟨#[]⟩, .slice none 0 0, .string ⟨#[]⟩, .slice none 0 0] 25 (0, 0)) (.cells #[.string ⟨#[]⟩, .slice none 0 0, .string ⟨#[]⟩, .slice none 0 0] 25 (0, 0))) rfl
  generalize putM ((w.alloc (.cells #[.string ⟨#[]⟩, .slice none 0 0, .string ⟨#[]⟩, .slice none 0 0] 25 (0, 0))).alloc (.cells #[.string ⟨#[]⟩, .slice none 0 0, .string ⟨#[]⟩, .slice none 0 0] 25 (0, 0))) (w.heap.size + 1) #[.string ⟨#[]⟩, .slice none 0 0, .string ⟨#[]⟩, .slice none 0 0] = X0 at HS0 hst0
  clear h hs hp hm
  unfold ErPost
  go_enter Tryz.func41, Tryz.ntmps41
  go_wp2_with fail
  refine Calls.mono (HPL.out _ HS0.out.rr) ?_
  rintro x X1 ⟨rfl, hr, hg⟩
  have HS1 := hid (HS0.out.call hg hr)
  clear hr hg hst0
  cases hb : preX [60] (s.drop p) with
  | false =>
    rw [hb] at HS1
    have HV := hid (HV0.out hb)
    simp only [Bool.false_eq_true, if_false] at HS1
    clear hb
    go_wp2_with fail
    refine Calls.mono (HWR.out p m 0 5 _ HS1.out.rr) ?_
    rintro x X2 ⟨rfl, hr, ho⟩
    rw [if_pos rfl] at hr
    have HS2 := hid (HS1.out.call (to_only ho) hr)
    clear hr ho
    have hldx := HS2.out.ld
    have hstx := HS2.out.st
    have HFX := hid (HS2.out.fin (d := d) (NdAt.mk0 (l := ([], [], [])) ⟨fun h => absurd h (by simp), fun h => absurd h (by simp)⟩))
    generalize putM X2 w.heap.size #[.string ⟨#[]⟩, .slice none 0 0, .string ⟨#[]⟩, .slice none 0 0] = Y at hstx HFX
    go_wp2_with fail
    refine bodyPost_ret (ret_nd1 (p := 4) Tryz.results41 _ _ w.heap.size _ rfl (0, 0) rfl HFX.out.2.2.1) rfl ?_
    exact ⟨HFX.out.1, _, _, _, _, _, _, _, _, rfl, HFX.out.2.2.2, HFX.out.2.1, .inr ⟨HV.out, by omega⟩⟩
  | true =>
    rw [hb] at HS1
    simp only [if_true] at HS1
    have hq0 : p + 1 ≤ s.length := pre_len hb HP.out
    have HB := hid hb
    have hq1 : p + 1 + ((s.drop (p + 1)).takeWhile latX).length ≤ s.length := tw_in latX s (p + 1) hq0
    have HC := hid (fun W hW => nameR_any s (p + 1) m 0 R (by have := HS.out; omega) hq0 W hW)
    have HV1' := hid (HV1.out hb)
    generalize hnm : (s.drop (p + 1)).takeWhile latX = nm at *
    generalize hq : p + 1 + nm.length = q1 at hq1 HC
    have HQ1 := hid hq1
    have HQE := hid hq
    have HNME := hid hnm
    clear hb hq0 hq1 hnm hq
    have HNM : Hid (∃ NM, asS nm = NM) := ⟨_, rfl⟩
    clear HNM
    generalize hNM : asS nm = NM at HC
    have HNM : Hid (NM = asS nm) := hNM.symm
    clear hNM
    go_wp2_with fail
    refine Calls.mono (HC.out _ HS1.out.rr) ?_
    rintro x X2 ⟨hg, rfl, hr⟩
    have HS2 := hid (HS1.out.call hg hr)
    clear hr hg
    go_wp2_with (first
      | (refine store_part rfl 9 _ _ rfl (w.heap.size + 1) 0 (.string NM) _ _ #[.string NM, .slice none 0 0, .string ⟨#[]⟩, .slice none 0 0] rfl rfl info9 (by simp) rfl rfl HS2.out.r5 rfl ?_)
      | fail)
    intro X3 ho hr
    have HS3 := hid (HS2.out.put5 ho hr rfl rfl rfl rfl)
    clear ho hr
    cases hn : nameX nm with
    | false =>
      rw [hn] at HS3
      simp only [Bool.false_eq_true, ↓reduceIte] at HS3
      have HV := hid (HV1'.out hn)
      have c3 : X3.cell? ⟨R, 3, none⟩ = some (.int .i64 5) := HS3.out.rr.e
      clear hn
      have hldx := HS3.out.ld
      have hstx := HS3.out.st
      have HFX := hid (HS3.out.fin (d := d) (by rw [HNM.out]; exact NdAt.mk0 (l := (nm, [], [])) ⟨fun h => absurd h (by simp), fun h => absurd h (by simp)⟩))
      generalize putM X3 w.heap.size #[.string NM, .slice none 0 0, .string ⟨#[]⟩, .slice none 0 0] = Y at hstx HFX
      go_wp2_with fail
      refine bodyPost_ret (ret_nd1 (p := 4) Tryz.results41 _ _ w.heap.size _ rfl (0, 0) rfl HFX.out.2.2.1) rfl ?_
      exact ⟨HFX.out.1, _, _, _, _, _, _, _, _, rfl, HFX.out.2.2.2, HFX.out.2.1, .inr ⟨HV.out, by omega⟩⟩
    | true =>
      rw [hn] at HS3
      simp only [if_true] at HS3
      have HN := hid hn
      have c3 : X3.cell? ⟨R, 3, none⟩ = some (.int .i64 0) := HS3.out.rr.e
      clear hn
      go_wp2_with fail
      refine Calls.mono (HWR.out q1 m 0 9 _ HS3.out.rr) ?_
      rintro x X4 ⟨rfl, hr, ho⟩
      rw [if_pos rfl] at hr
      have HS4 := hid (HS3.out.call (to_only ho) hr)
      clear hr ho
      have HV := hid (HV2.out HB.out HN.out)
      have hldx := HS4.out.ld
      have hstx := HS4.out.st
      have HFX := hid (HS4.out.fin (d := d) (by rw [HNM.out]; exact NdAt.mk0 (l := (nm, [], [])) ⟨fun h => absurd h (by simp), fun h => absurd h (by simp)⟩))
      generalize putM X4 w.heap.size #[.string NM, .slice none 0 0, .string ⟨#[]⟩, .slice none 0 0] = Y at hstx HFX
      go_wp2_with fail
      refine bodyPost_ret (ret_nd1 (p := 4) Tryz.results41 _ _ w.heap.size _ rfl (0, 0) rfl HFX.out.2.2.1) rfl ?_
      exact ⟨HFX.out.1, _, _, _, _, _, _, _, _, rfl, HFX.out.2.2.2, HFX.out.2.1, .inr ⟨HV.out, by omega⟩⟩
set_option maxHeartbeats 4000000 in
set_option maxRecDepth 100000 in
theorem elR_main (d lev : Nat) (hl0 : lev ≠ 0) (hl16 : lev ≤ 16) (IH : ErOk d (lev - 1)) : ErOk (d + 1) lev := by
  intro s p m R w hs hp hm h
  have HP := hid hp
  have HS := hid hs
  have HM := hid hm
  have HRL := hid h.lt
  have HPL : Hid (∀ W, Rr W R s p m 0 → Calls Tryz.prog 63 #[.pointer (some ⟨R, 0, none⟩), .string ⟨#[60]⟩] W fun x w' => x = .returned (.bool (preX [60] (s.drop p))) ∧ Rr w' R s (if preX [60] (s.drop p) then p + 1 else p) m 0 ∧ W.grownBy w' (some R)) := fun W hW => past_any s [60] p m 0 R (by omega) (by simp) hp W hW
  have HWR : Hid (∀ q m' e (k : Nat) W, Rr W R s q m' e → Calls Tryz.prog 42 #[.pointer (some ⟨R, 0, none⟩), .int .i64 (k : Int)] W fun x w' => x = .returned (.bool false) ∧ Rr w' R s q m' (if e = 0 then k else e) ∧ Only R W w') := fun q m' e k W hW => wrong_any s q m' e k R W hW
  have HV0 := hid (fun hb => el_nolt (d := (d + 1)) (lev := lev) (m := m) (p := p) (s := s) hb)
  have HV1 := hid (fun hb hn => el_noname (d := (d + 1)) (lev := lev) (m := m) (p := p) (s := s) hb hn)
  have HV2 := hid (fun hb hn hm => el_nomore (d := d + 1) (lev := lev) (m := m) (p := p) (s := s) hb hn hl0 hm)
  have HV3 := hid (fun hb hn hm q1 hq => el_go (d := d) (lev := lev) (m := m) (p := p) (s := s) (q1 := q1) hb hn hl0 hm hq)
  generalize elX (d + 1) lev (s.drop p) m = V at HV0 HV1 HV2 HV3 ⊢
  have hdp1 : 17 - lev ≤ 16 := by omega
  have HDP : Hid (((17 - (lev - 1) : Nat) : Int) = ((17 - lev : Nat) : Int) + 1) := by show _ = _; omega
  have HIH := hid IH
  unfold ErOk at HIH
  rw [HDP.out] at HIH
  generalize 17 - lev = dp at hdp1 HIH ⊢
  have hdp2 : ¬ (16 : Int) < (dp : Int) := by omega
  generalize lev - 1 = lv at HIH HV3
  clear hl0 hl16 IH HDP
  have HS0 : Hid (ErS R w.heap.size (w.heap.size + 1) w (.string ⟨#[]⟩) (.slice none 0 0) (.string ⟨#[]⟩) (.slice none 0 0) s p m 0 (putM ((w.alloc (.cells #[.string ⟨#[]⟩, .slice none 0 0, .string ⟨#[]⟩, .slice none 0 0] 25 (0, 0))).alloc (.cells #[.string ⟨#[]⟩, .slice none 0 0, .string ⟨#[]⟩, .slice none 0 0] 25 (0, 0))) (w.heap.size + 1) #[.string ⟨#[]⟩, .slice none 0 0, .string ⟨#[]⟩, .slice none 0 0])) := by
    have ho := putM_only ((w.alloc (.cells #[.string ⟨#[]⟩, .slice none 0 0, .string ⟨#[]⟩, .slice none 0 0] 25 (0, 0))).alloc (.cells #[.string ⟨#[]⟩, .slice none 0 0, .string ⟨#[]⟩, .slice none 0 0] 25 (0, 0))) (w.heap.size + 1) #[.string ⟨#[]⟩, .slice none 0 0, .string ⟨#[]⟩, .slice none 0 0]
    have hrow := putM_row (cs' := #[.string ⟨#[]⟩, .slice none 0 0, .string ⟨#[]⟩, .slice none 0 0]) (heap_second w (.cells #[.string ⟨#[]⟩, .slice none 0 0, .string ⟨#[]⟩, .slice none 0 0] 25 (0, 0)) (.cells #[.string ⟨#[]⟩, .slice none 0 0, .string ⟨#[]⟩, .slice none 0 0] 25 (0, 0))) rfl
    have hRl := HRL.out
    have a1 : Below w.heap.size w ((w.alloc (.cells #[.string ⟨#[]⟩, .slice none 0 0, .string ⟨#[]⟩, .slice none 0 0] 25 (0, 0))).alloc (.cells #[.string ⟨#[]⟩, .slice none 0 0, .string ⟨#[]⟩, .slice none 0 0] 25 (0, 0))) := ((Below.refl _ _).alloc (Nat.le_refl _) _).alloc (by simp) _
    refine ⟨(ho.block R (by omega)).trans (h.below a1), grown_own (to_below a1) (to_only (R := w.heap.size + 1) ho) (fun q hq => by injection hq with hq; omega), (ho.block w.heap.size (by omega)).trans (heap_first w _ _), hrow, rfl, rfl, rfl, rfl, by omega, by omega, by omega, Nat.le_refl _, by omega⟩
  have hst0 := storeM_row infoN (.string ⟨#[]⟩) (.slice none 0 0) (.string ⟨#[]⟩) (.slice none 0 0) rfl rfl rfl rfl (heap_second w (.cells #[.string ⟨#[]⟩, .slice none 0 0, .string ⟨#[]⟩, .slice none 0 0] 25 (0, 0)) (.cells #[.string ⟨#[]⟩, .slice none 0 0, .string ⟨#[]⟩, .slice none 0 0] 25 (0, 0))) rfl
  generalize putM ((w.alloc (.cells #[.string ⟨#[]⟩, .slice none 0 0, .string ⟨#[]⟩, .slice none 0 0] 25 (0, 0))).alloc (.cells #[.string ⟨#[]⟩, .slice none 0 0, .string ⟨#[]⟩, .slice none 0 0] 25 (0, 0))) (w.heap.size + 1) #[.string ⟨#[]⟩, .slice none 0 0, .string ⟨#[]⟩, .slice none 0 0] = X0 at HS0 hst0
  clear h hs hp hm
  unfold ErPost
  go_enter Tryz.func41, Tryz.ntmps41
  go_wp2_with fail
  refine Calls.mono (HPL.out _ HS0.out.rr) ?_
  rintro x X1 ⟨rfl, hr, hg⟩
  have HS1 := hid (HS0.out.call hg hr)
  clear hr hg hst0
  cases hb : preX [60] (s.drop p) with
  | false =>
    rw [hb] at HS1
    have HV := hid (HV0.out hb)
    simp only [Bool.false_eq_true, if_false] at HS1
    clear hb
    go_wp2_with fail
    refine Calls.mono (HWR.out p m 0 5 _ HS1.out.rr) ?_
    rintro x X2 ⟨rfl, hr, ho⟩
    rw [if_pos rfl] at hr
    have HS2 := hid (HS1.out.call (to_only ho) hr)
    clear hr ho
    have hldx := HS2.out.ld
    have hstx := HS2.out.st
    have HFX := hid (HS2.out.fin (d := d + 1) (NdAt.mk0 (l := ([], [], [])) ⟨fun h => absurd h (by simp), fun h => absurd h (by simp)⟩))
    generalize putM X2 w.heap.size #[.string ⟨#[]⟩, .slice none 0 0, .string ⟨#[]⟩, .slice none 0 0] = Y at hstx HFX
    go_wp2_with fail
    refine bodyPost_ret (ret_nd1 (p := 4) Tryz.results41 _ _ w.heap.size _ rfl (0, 0) rfl HFX.out.2.2.1) rfl ?_
    exact ⟨HFX.out.1, _, _, _, _, _, _, _, _, rfl, HFX.out.2.2.2, HFX.out.2.1, .inr ⟨HV.out, by omega⟩⟩
  | true =>
    rw [hb] at HS1
    simp only [if_true] at HS1
    have hq0 : p + 1 ≤ s.length := pre_len hb HP.out
    have HB := hid hb
    have hq1 : p + 1 + ((s.drop (p + 1)).takeWhile latX).length ≤ s.length := tw_in latX s (p + 1) hq0
    have HC := hid (fun W hW => nameR_any s (p + 1) m 0 R (by have := HS.out; omega) hq0 W hW)
    have HV1' := hid (HV1.out hb)
    generalize hnm : (s.drop (p + 1)).takeWhile latX = nm at *
    generalize hq : p + 1 + nm.length = q1 at hq1 HC
    have HQ1 := hid hq1
    have HQE := hid hq
    have HNME := hid hnm
    clear hb hq0 hq1 hnm hq
    have HNM : Hid (∃ NM, asS nm = NM) := ⟨_, rfl⟩
    clear HNM
    generalize hNM : asS nm = NM at HC
    have HNM : Hid (NM = asS nm) := hNM.symm
    clear hNM
    go_wp2_with fail
    refine Calls.mono (HC.out _ HS1.out.rr) ?_
    rintro x X2 ⟨hg, rfl, hr⟩
    have HS2 := hid (HS1.out.call hg hr)
    clear hr hg
    go_wp2_with (first
      | (refine store_part rfl 9 _ _ rfl (w.heap.size + 1) 0 (.string NM) _ _ #[.string NM, .slice none 0 0, .string ⟨#[]⟩, .slice none 0 0] rfl rfl info9 (by simp) rfl rfl HS2.out.r5 rfl ?_)
      | fail)
    intro X3 ho hr
    have HS3 := hid (HS2.out.put5 ho hr rfl rfl rfl rfl)
    clear ho hr
    cases hn : nameX nm with
    | false =>
      rw [hn] at HS3
      simp only [Bool.false_eq_true, ↓reduceIte] at HS3
      have HV := hid (HV1'.out hn)
      have c3 : X3.cell? ⟨R, 3, none⟩ = some (.int .i64 5) := HS3.out.rr.e
      clear hn
      have hldx := HS3.out.ld
      have hstx := HS3.out.st
      have HFX := hid (HS3.out.fin (d := d + 1) (by rw [HNM.out]; exact NdAt.mk0 (l := (nm, [], [])) ⟨fun h => absurd h (by simp), fun h => absurd h (by simp)⟩))
      generalize putM X3 w.heap.size #[.string NM, .slice none 0 0, .string ⟨#[]⟩, .slice none 0 0] = Y at hstx HFX
      go_wp2_with fail
      refine bodyPost_ret (ret_nd1 (p := 4) Tryz.results41 _ _ w.heap.size _ rfl (0, 0) rfl HFX.out.2.2.1) rfl ?_
      exact ⟨HFX.out.1, _, _, _, _, _, _, _, _, rfl, HFX.out.2.2.2, HFX.out.2.1, .inr ⟨HV.out, by omega⟩⟩
    | true =>
      rw [hn] at HS3
      simp only [if_true] at HS3
      have HN := hid hn
      have c3 : X3.cell? ⟨R, 3, none⟩ = some (.int .i64 0) := HS3.out.rr.e
      clear hn
      have HMO := hid (fun W hW => more_any s q1 m 0 R (by have := HM.out; omega) W hW)
      have HV2' := hid (HV2.out HB.out HN.out)
      have HV3' := hid (fun hm => HV3.out HB.out HN.out hm q1 HQE.out)
      go_wp2_with fail
      refine Calls.mono (HMO.out _ HS3.out.rr) ?_
      rintro x X4 ⟨rfl, hr, hg⟩
      have HS4 := hid (HS3.out.call hg hr)
      clear hr hg c3
      by_cases hm : m + 1 ≤ 4096
      · rw [if_pos hm] at HS4
        rw [decide_eq_true hm]
        have HV := hid (HV3'.out hm)
        have HM1 := hid hm
        clear hm
        generalize hVA : atsW [] (s.drop q1) (m + 1) = VA at HV
        have HVA := hid hVA
        clear hVA
        have HO4 : Hid (OwnH X4 (w.heap.size + 2) (.slice none 0 0) []) := .inl ⟨rfl, rfl⟩
        have HZ4 : Hid (w.heap.size + 2 ≤ X4.heap.size) := by show _ ≤ _; have := (Array.getElem?_eq_some_iff.1 HS4.out.r5).1; omega
        go_wp2_with fail
        go_loopw [] (fun wr => ∃ (al : List HdV) (A : Option Addr) (ac q m' : Nat), Hid (ErS R w.heap.size (w.heap.size + 1) w (.string NM) (.slice A al.length ac) (.string ⟨#[]⟩) (.slice none 0 0) s q m' 0 wr) ∧ Hid (OwnH wr (w.heap.size + 2) (.slice A al.length ac) al) ∧ Hid (atsW al (s.drop q) m' = VA) ∧ Hid (q ≤ s.length) ∧ Hid (m' ≤ 4096) ∧ Hid (al.length + (s.drop q).length ≤ s.length) ∧ Hid (w.heap.size + 2 ≤ wr.heap.size)) (fun wr => s.length - rrAt R wr)
        case atStart => exact ⟨[], none, 0, q1, m + 1, HS4.out, HO4.out, HVA.out, HQ1.out, HM1.out, by show _ ≤ _; simp, HZ4.out⟩
        case round =>
          clear HS4 HO4 HZ4 HVA
          obtain ⟨al, A, ac, q, m', HSQ, HOQ, HGO, HQ, HMQ, HCN, HZQ⟩ := hrel
          have HWH := hid (fun W hW => whiteR_any s q m' 0 R (by have := HS.out; omega) HQ.out W hW)
          have hq2 := tw_in whX s q HQ.out
          have hst := atsW_step al (s.drop q) m'
          rw [HGO.out, dw_at] at hst
          generalize hk : ((s.drop q).takeWhile whX).length = k at HWH hq2 hst
          have hkz : ((s.drop (q + k)).length = (s.drop q).length) ↔ k = 0 := by
            rw [List.length_drop, List.length_drop]
            omega
          generalize hqk : q + k = q2 at HWH hq2 hst hkz
          have HQK := hid hqk
          have HQ2 := hid hq2
          simp only [List.drop_drop] at hst
          have HST := hid hst
          have HKZ := hid hkz
          have HP1 : Hid (∀ W, Rr W R s q2 m' 0 → Calls Tryz.prog 63 #[.pointer (some ⟨R, 0, none⟩), .string ⟨#[47, 62]⟩] W fun x w' => x = .returned (.bool (preX [47, 62] (s.drop q2))) ∧ Rr w' R s (if preX [47, 62] (s.drop q2) then q2 + 2 else q2) m' 0 ∧ W.grownBy w' (some R)) := fun W hW => past_any s [47, 62] q2 m' 0 R (by have := HS.out; omega) (by simp) HQ2.out W hW
          have HP2 : Hid (∀ W, Rr W R s q2 m' 0 → Calls Tryz.prog 63 #[.pointer (some ⟨R, 0, none⟩), .string ⟨#[62]⟩] W fun x w' => x = .returned (.bool (preX [62] (s.drop q2))) ∧ Rr w' R s (if preX [62] (s.drop q2) then q2 + 1 else q2) m' 0 ∧ W.grownBy w' (some R)) := fun W hW => past_any s [62] q2 m' 0 R (by have := HS.out; omega) (by simp) HQ2.out W hW
          clear hk hkz hqk hq2 hst
          go_wp2_with fail
          refine Calls.mono (HWH.out _ HSQ.out.rr) ?_
          rintro x Y1 ⟨hg, rfl, hr⟩
          have HT1 := hid (HSQ.out.call hg hr)
          have HO1 := hid (HOQ.out.to hg (by have := HRL.out; omega))
          have HZ1 := hid (Nat.le_trans HZQ.out hg.size)
          clear hg hr
          go_wp2_with fail
          refine Calls.mono (HP1.out _ HT1.out.rr) ?_
          rintro x Y2 ⟨rfl, hr, hg⟩
          have HT2 := hid (HT1.out.call hg hr)
          have HO2 := hid (HO1.out.to hg (by have := HRL.out; omega))
          have HZ2 := hid (Nat.le_trans HZ1.out hg.size)
          clear hg hr
          cases hb1 : preX [47, 62] (s.drop q2) with
          | true =>
            rw [hb1] at HT2 HST
            simp only [if_true] at HT2 HST
            have hql : q2 + 2 ≤ s.length := pre_len hb1 HQ2.out
            have HQL := hid hql
            have HVV : Hid (V = .ok (((nm, al, []), []), s.drop (q2 + 2), m')) := by show _ = _; rw [HV.out, HST.out]
            have HND : Hid (NdAt (fun g => w.heap.size ≤ g ∧ g ≠ w.heap.size) (d + 1) Y2 #[.string NM, .slice A al.length ac, .string ⟨#[]⟩, .slice none 0 0] ((nm, al, []), [])) := by
              obtain ⟨A2, c2, hv, hh⟩ := HO2.out.hdsP (b0 := w.heap.size + 2) (Nat.le_refl _)
              injection hv with e1 e2 e3
              rw [HNM.out]
              exact nd_out (v := .slice none 0 0) ((e1 ▸ hh).frame (Nat.le_refl _) fun q hq _ => ⟨rfl, by have h9 : w.heap.size + 2 ≤ q := hq; omega⟩) (OwnN.nil _ _ _)
            clear hb1 hql
            have hldx := HT2.out.ld
            have hstx := HT2.out.st
            have HFX := hid (HT2.out.fin (d := d + 1) (HND.out))
            generalize putM Y2 w.heap.size #[.string NM, .slice A al.length ac, .string ⟨#[]⟩, .slice none 0 0] = Y at hstx HFX
            go_wp2_with fail
            refine bodyPost_ret (ret_nd1 (p := 4) Tryz.results41 _ _ w.heap.size _ rfl (0, 0) rfl HFX.out.2.2.1) rfl ?_
            exact ⟨HFX.out.1, _, _, _, _, _, _, _, _, rfl, HFX.out.2.2.2, HFX.out.2.1, .inl ⟨rfl, HVV.out, HMQ.out, HQL.out⟩⟩
          | false =>
            rw [hb1] at HT2 HST
            simp only [Bool.false_eq_true, if_false] at HT2 HST
            clear hb1
            go_wp2_with fail
            refine Calls.mono (HP2.out _ HT2.out.rr) ?_
            rintro x Y3 ⟨rfl, hr, hg⟩
            have HT3 := hid (HT2.out.call hg hr)
            have HO3 := hid (HO2.out.to hg (by have := HRL.out; omega))
            have HZ3 := hid (Nat.le_trans HZ2.out hg.size)
            clear hg hr
            cases hb2 : preX [62] (s.drop q2) with
            | true =>
              rw [hb2] at HT3 HST
              simp only [if_true] at HT3 HST
              have hql : q2 + 1 ≤ s.length := pre_len hb2 HQ2.out
              have HQL := hid hql
              have HVV := hid HV.out
              rw [HST.out] at HVV
              simp only at HVV
              clear hb2 hql HST HP1 HP2 HWH HT1 HT2 HO1 HO2 HZ1 HZ2 HV
              generalize hVK : kidW d (elX d lv) [] (s.drop (q2 + 1)) m' = VK at HVV
              have HK0 : Hid (KR d lv VK s.length s [] (q2 + 1) m' 0) := ⟨.inl ⟨rfl, HQL.out, hVK, HMQ.out, fun k hk => by simp at hk, by simp, by simp [ltT]⟩⟩
              clear hVK
              have HEL := hid (el_sh d lv)
              have HDS3 : Hid (HdsP (fun g => w.heap.size + 2 ≤ g) Y3 A al) := by
                obtain ⟨A2, c2, hv, hh⟩ := HO3.out.hdsP (b0 := w.heap.size + 2) (Nat.le_refl _)
                injection hv with e1 e2 e3
                exact e1 ▸ hh
              have HC3 : Hid (KC R (w.heap.size + 1) Y3 d (.slice none 0 0) [] Y3) := ⟨OwnN.nil _ _ _, Nat.le_refl _, fun _ _ _ _ => rfl⟩
              have HRY : Hid (R < Y3.heap.size) := HT3.out.rr.lt
              have HCO : Hid (∀ nm2 : List UInt8, ((asS nm2).toList == NM.toList) = decide (nm2 = nm)) := fun nm2 => by rw [HNM.out]; exact tl_two _ _
              go_wp2_with fail
              go_loopw [] (fun wr => ∃ (v : Value) (ks : List (Tr d)) (q m e : Nat), Hid (ErS R w.heap.size (w.heap.size + 1) w (.string NM) (.slice A al.length ac) (.string ⟨#[]⟩) v s q m e wr) ∧ Hid (KC R (w.heap.size + 1) Y3 d v ks wr) ∧ Hid (KR d lv VK s.length s ks q m e)) (fun wr => rrM R s.length wr)
              case atStart => exact ⟨.slice none 0 0, [], q2 + 1, m', 0, HT3.out, HC3.out, HK0.out⟩
              case round =>
                clear HK0 HC3
                obtain ⟨v, ks, q, m, e, HQ0, HC0, HKQ⟩ := hrel
                have HND : Hid (NdAt (fun g => w.heap.size ≤ g ∧ g ≠ w.heap.size) (d + 1) wr #[.string NM, .slice A al.length ac, .string ⟨#[]⟩, v] ((nm, al, []), ks)) := by
                  rw [HNM.out]
                  have hz := HZ3.out
                  refine nd_out (HDS3.out.frame HC0.out.big fun g hg hl => ⟨HC0.out.far g hl ?_ ?_, ?_⟩) (HC0.out.own.frame (Nat.le_refl _) fun g hg hl => ⟨rfl, ?_⟩)
                  · have := HRL.out
                    omega
                  · omega
                  · omega
                  · have h9 : Y3.heap.size ≤ g := hg
                    omega
                rcases HKQ.out.how with ⟨rfl, hq, hgo, hmq, htx, hks, hlt⟩ | ⟨hVK, he⟩
                · have c3 : wr.cell? ⟨R, 3, none⟩ = some (.int .i64 0) := HQ0.out.rr.e
                  have HG0 := hid (to_refl R wr)
                  have HPQ := hid hq
                  have HGO := hid hgo
                  have HMQ2 := hid hmq
                  have HTX := hid htx
                  have HKS := hid hks
                  have HLT := hid hlt
                  have HHE : Hid (∀ W, Rr W R s q m 0 → Calls Tryz.prog 40 #[.pointer (some ⟨R, 0, none⟩), .string ⟨#[60, 47]⟩] W fun x w' => x = .returned (.bool (preX [60, 47] (s.drop q))) ∧ Below W.heap.size W w') := fun W hW => here_any s [60, 47] (q) m 0 R (by have := HS.out; omega) (by simp) HPQ.out W hW
                  have HH1 : Hid (∀ W, Rr W R s q m 0 → Calls Tryz.prog 40 #[.pointer (some ⟨R, 0, none⟩), .string ⟨#[60, 33, 45, 45]⟩] W fun x w' => x = .returned (.bool (preX [60, 33, 45, 45] (s.drop q))) ∧ Below W.heap.size W w') := fun W hW => here_any s [60, 33, 45, 45] (q) m 0 R (by have := HS.out; omega) (by simp) HPQ.out W hW
                  have HH2 : Hid (∀ W, Rr W R s q m 0 → Calls Tryz.prog 40 #[.pointer (some ⟨R, 0, none⟩), .string ⟨#[60, 63]⟩] W fun x w' => x = .returned (.bool (preX [60, 63] (s.drop q))) ∧ Below W.heap.size W w') := fun W hW => here_any s [60, 63] (q) m 0 R (by have := HS.out; omega) (by simp) HPQ.out W hW
                  have HPC : Hid (∀ W, Rr W R s q m 0 → Calls Tryz.prog 63 #[.pointer (some ⟨R, 0, none⟩), .string ⟨#[60, 33, 91, 67, 68, 65, 84, 65, 91]⟩] W fun x w' => x = .returned (.bool (preX [60, 33, 91, 67, 68, 65, 84, 65, 91] (s.drop q))) ∧ Rr w' R s (if preX [60, 33, 91, 67, 68, 65, 84, 65, 91] (s.drop q) then q + 9 else q) m 0 ∧ W.grownBy w' (some R)) := fun W hW => past_any s [60, 33, 91, 67, 68, 65, 84, 65, 91] (q) m 0 R (by have := HS.out; omega) (by simp) HPQ.out W hW
                  have HHL : Hid (∀ W, Rr W R s q m 0 → Calls Tryz.prog 40 #[.pointer (some ⟨R, 0, none⟩), .string ⟨#[60]⟩] W fun x w' => x = .returned (.bool (preX [60] (s.drop q))) ∧ Below W.heap.size W w') := fun W hW => here_any s [60] (q) m 0 R (by have := HS.out; omega) (by simp) HPQ.out W hW
                  clear hq hgo hmq htx hks hlt
                  go_wp2_with fail
                  refine Calls.mono (HHE.out _ HQ0.out.rr) ?_
                  rintro x Z1 ⟨rfl, hb⟩
                  have HQ1 := hid (HQ0.out.below hb)
                  have HC1 := hid (HC0.out.call HRY.out (to_below hb))
                  have HG1 := hid (HG0.out.trans (to_below (R := R) hb))
                  clear hb
                  cases hb0 : preX [60, 47] (s.drop q) with
                  | true =>
                    have HB0 := hid hb0
                    have hq2e : q + 2 ≤ s.length := pre_len hb0 HPQ.out
                    have c1 : Z1.cell? ⟨R, 3, none⟩ = some (.int .i64 0) := HQ1.out.rr.e
                    have hVK := kidW_end (el := elX d lv) ks (s.drop q) m hb0
                    rw [HGO.out] at hVK
                    rw [hVK] at HVV
                    simp only at HVV
                    have HPE : Hid (∀ W, Rr W R s q m 0 → Calls Tryz.prog 63 #[.pointer (some ⟨R, 0, none⟩), .string ⟨#[60, 47]⟩] W fun x w' => x = .returned (.bool (preX [60, 47] (s.drop q))) ∧ Rr w' R s (if preX [60, 47] (s.drop q) then q + 2 else q) m 0 ∧ W.grownBy w' (some R)) := fun W hW => past_any s [60, 47] (q) m 0 R (by have := HS.out; omega) (by simp) HPQ.out W hW
                    rw [hb0] at HPE
                    simp only [if_true] at HPE
                    have hq5 := tw_in latX s (q + 2) hq2e
                    have HNC := hid (fun W hW => nameR_any s (q + 2) m 0 R (by have := HS.out; omega) hq2e W hW)
                    have hcl : ∀ q5 q6, q + 2 + ((s.drop (q + 2)).takeWhile latX).length = q5 → q5 + ((s.drop q5).takeWhile whX).length = q6 → _ := fun q5 q6 h5 h6 => cl_at (nm := nm) h5 h6
                    generalize (s.drop (q + 2)).takeWhile latX = nm2 at hq5 HNC hcl
                    generalize h5e : q + 2 + nm2.length = q5 at hq5 HNC
                    have hq6 := tw_in whX s q5 hq5
                    have hcl2 := hcl q5 _ h5e rfl
                    have HWH := hid (fun e W hW => whiteR_any s q5 m e R (by have := HS.out; omega) hq5 W hW)
                    generalize ((s.drop q5).takeWhile whX).length = k6 at hq6 hcl2 HWH
                    generalize q5 + k6 = q6 at hq6 hcl2 HWH
                    have HP6 : Hid (∀ e W, Rr W R s q6 m e → Calls Tryz.prog 63 #[.pointer (some ⟨R, 0, none⟩), .string ⟨#[62]⟩] W fun x w' => x = .returned (.bool (preX [62] (s.drop q6))) ∧ Rr w' R s (if preX [62] (s.drop q6) then q6 + 1 else q6) m e ∧ W.grownBy w' (some R)) := fun e W hW => past_any s [62] q6 m e R (by have := HS.out; omega) (by simp) hq6 W hW
                    rw [hcl2] at HVV
                    have HQ6L := hid hq6
                    generalize decide (0 < k6) = wb6 at HWH
                    clear hb0 hq2e hVK hq5 hcl hcl2 h5e hq6 c3
                    have hnq := HCO.out nm2
                    have HNC2 : Hid (∀ W, Rr W R s (q + 2) m 0 → Calls Tryz.prog 66 #[.pointer (some ⟨R, 0, none⟩)] W fun x w' => ∃ u, x = .returned u ∧ (u = .string (asS nm2) ∧ Rr w' R s q5 m (if nameX nm2 then 0 else 5) ∧ W.grownBy w' (some R))) := fun W hW => (HNC.out W hW).mono fun x w' hh => ⟨_, hh.2.1, rfl, hh.2.2, hh.1⟩
                    have HENn := hid (enters_of Tryz.func66 (by kernel_rfl) rfl)
                    generalize asS nm2 = N2 at hnq HNC2
                    clear HNC
                    have HNDX : Hid (∀ W, wr.grownBy W (some R) → NdAt (fun g => w.heap.size ≤ g ∧ g ≠ w.heap.size) (d + 1) W #[.string NM, .slice A al.length ac, .string ⟨#[]⟩, v] ((nm, al, []), ks)) := fun W hg => to_nd HND.out hg (fun g hg => by have := hg.1; have := HRL.out; omega)
                    by_cases hne : nm2 = nm
                    · rw [decide_eq_true hne] at hnq
                      rw [if_pos hne] at HVV
                      rw [hne, HN.out] at HNC2
                      simp only [if_true] at HNC2
                      clear hne
                      go_wp2_with fail
                      refine Calls.mono (HPE.out _ HQ1.out.rr) ?_
                      rintro x Z2 ⟨rfl, hr, hg⟩
                      have HQ2 := hid (HQ1.out.call hg hr)
                      have HC2 := hid (HC1.out.call HRY.out hg)
                      have HG2 := hid (HG1.out.trans hg)
                      clear hr hg
                      have c2 : Z2.drew.cell? ⟨w.heap.size + 1, 0, none⟩ = some (.string NM) := HQ2.out.cells.1
                      clear c1
                      go_wp2_with fail
                      go_region_law ((first
                        | (refine step_call1 (by rfl) 66 _ _ (by rfl) HENn.out (.pointer (some ⟨R, 0, none⟩)) (by rfl) (HNC2.out Z2.drew HQ2.out.rr) ?_; intro u1 w1 ha; obtain ⟨hu1, hr1, hg1⟩ := ha; subst hu1; have HQ3 := hid ((HQ2.out.below (below_drew Z2)).call hg1 hr1); have HG3 := hid ((HG2.out.trans (to_below (R := R) (below_drew Z2))).trans hg1); have c3 : w1.cell? ⟨w.heap.size + 1, 0, none⟩ = some (.string NM) := HQ3.out.cells.1; clear hr1 hg1)
                        | fail))
                      all_goals
                        go_simp
                        have HQ4 := hid HQ3.out
                        have HG4 := hid HG3.out
                        go_wp2_with fail
                        refine Calls.mono (HWH.out 0 _ HQ4.out.rr) ?_
                        rintro x Z5 ⟨hg, rfl, hr⟩
                        have HQ5 := hid (HQ4.out.call hg hr)
                        have HG5 := hid (HG4.out.trans hg)
                        clear hg hr
                        go_wp2_with fail
                        refine Calls.mono (HP6.out 0 _ HQ5.out.rr) ?_
                        rintro x Z6 ⟨rfl, hr, hg⟩
                        have HQ6 := hid (HQ5.out.call hg hr)
                        have HG6 := hid (HG5.out.trans hg)
                        clear hg hr
                        cases hb6 : preX [62] (s.drop q6) with
                        | true =>
                          rw [hb6] at HQ6 HVV
                          simp only [if_true] at HQ6 HVV
                          have HQ7L := hid (pre_len hb6 HQ6L.out)
                          have HND6 := hid (HNDX.out _ HG6.out)
                          clear hb6
                          have hldx := HQ6.out.ld
                          have hstx := HQ6.out.st
                          have HFX := hid (HQ6.out.fin (d := d + 1) (HND6.out))
                          generalize putM Z6 w.heap.size #[.string NM, .slice A al.length ac, .string ⟨#[]⟩, v] = Y at hstx HFX
                          go_wp2_with fail
                          refine bodyPost_ret (ret_nd1 (p := 4) Tryz.results41 _ _ w.heap.size _ rfl (0, 0) rfl HFX.out.2.2.1) rfl ?_
                          exact ⟨HFX.out.1, _, _, _, _, _, _, _, _, rfl, HFX.out.2.2.2, HFX.out.2.1, .inl ⟨rfl, HVV.out, HMQ2.out, HQ7L.out⟩⟩
                        | false =>
                          rw [hb6] at HQ6 HVV
                          simp only [Bool.false_eq_true, if_false] at HQ6 HVV
                          clear hb6
                          go_wp2_with fail
                          refine Calls.mono (HWR.out q6 m 0 5 _ HQ6.out.rr) ?_
                          rintro x Z7 ⟨rfl, hr, ho⟩
                          rw [if_pos rfl] at hr
                          have HQ7 := hid (HQ6.out.call (to_only ho) hr)
                          have HND7 := hid (HNDX.out _ (HG6.out.trans (to_only ho)))
                          clear hr ho
                          have hldx := HQ7.out.ld
                          have hstx := HQ7.out.st
                          have HFX := hid (HQ7.out.fin (d := d + 1) (HND7.out))
                          generalize putM Z7 w.heap.size #[.string NM, .slice A al.length ac, .string ⟨#[]⟩, v] = Y at hstx HFX
                          go_wp2_with fail
                          refine bodyPost_ret (ret_nd1 (p := 4) Tryz.results41 _ _ w.heap.size _ rfl (0, 0) rfl HFX.out.2.2.1) rfl ?_
                          exact ⟨HFX.out.1, _, _, _, _, _, _, _, _, rfl, HFX.out.2.2.2, HFX.out.2.1, .inr ⟨HVV.out, by omega⟩⟩
                    · rw [decide_eq_false hne] at hnq
                      rw [if_neg hne] at HVV
                      simp only at HVV
                      clear hne
                      generalize he5 : (if nameX nm2 then 0 else 5) = e5 at HNC2
                      have HE5 : Hid ((if e5 = 0 then 5 else e5) = 5) := by
                        show _ = _
                        rw [← he5]
                        cases nameX nm2 <;> rfl
                      clear he5
                      go_wp2_with fail
                      refine Calls.mono (HPE.out _ HQ1.out.rr) ?_
                      rintro x Z2 ⟨rfl, hr, hg⟩
                      have HQ2 := hid (HQ1.out.call hg hr)
                      have HC2 := hid (HC1.out.call HRY.out hg)
                      have HG2 := hid (HG1.out.trans hg)
                      clear hr hg
                      have c2 : Z2.drew.cell? ⟨w.heap.size + 1, 0, none⟩ = some (.string NM) := HQ2.out.cells.1
                      clear c1
                      go_wp2_with fail
                      go_region_law ((first
                        | (refine step_call1 (by rfl) 66 _ _ (by rfl) HENn.out (.pointer (some ⟨R, 0, none⟩)) (by rfl) (HNC2.out Z2.drew HQ2.out.rr) ?_; intro u1 w1 ha; obtain ⟨hu1, hr1, hg1⟩ := ha; subst hu1; have HQ3 := hid ((HQ2.out.below (below_drew Z2)).call hg1 hr1); have HG3 := hid ((HG2.out.trans (to_below (R := R) (below_drew Z2))).trans hg1); have c3 : w1.cell? ⟨w.heap.size + 1, 0, none⟩ = some (.string NM) := HQ3.out.cells.1; clear hr1 hg1)
                        | fail))
                      all_goals
                        go_simp
                        go_wp2_with fail
                        refine Calls.mono (HWR.out q5 m e5 5 _ HQ3.out.rr) ?_
                        rintro x Z4 ⟨rfl, hr, ho⟩
                        rw [HE5.out] at hr
                        have HQ4 := hid (HQ3.out.call (to_only ho) hr)
                        have HG4 := hid (HG3.out.trans (to_only ho))
                        clear hr ho
                        go_wp2_with fail
                        refine Calls.mono (HWH.out 5 _ HQ4.out.rr) ?_
                        rintro x Z5 ⟨hg, rfl, hr⟩
                        have HQ5 := hid (HQ4.out.call hg hr)
                        have HG5 := hid (HG4.out.trans hg)
                        clear hg hr
                        go_wp2_with fail
                        refine Calls.mono (HP6.out 5 _ HQ5.out.rr) ?_
                        rintro x Z6 ⟨rfl, hr, hg⟩
                        have HQ6 := hid (HQ5.out.call hg hr)
                        have HG6 := hid (HG5.out.trans hg)
                        clear hg hr
                        cases hb6 : preX [62] (s.drop q6) with
                        | true =>
                          rw [hb6] at HQ6
                          simp only [if_true] at HQ6
                          have HND6 := hid (HNDX.out _ HG6.out)
                          clear hb6
                          have hldx := HQ6.out.ld
                          have hstx := HQ6.out.st
                          have HFX := hid (HQ6.out.fin (d := d + 1) (HND6.out))
                          generalize putM Z6 w.heap.size #[.string NM, .slice A al.length ac, .string ⟨#[]⟩, v] = Y at hstx HFX
                          go_wp2_with fail
                          refine bodyPost_ret (ret_nd1 (p := 4) Tryz.results41 _ _ w.heap.size _ rfl (0, 0) rfl HFX.out.2.2.1) rfl ?_
                          exact ⟨HFX.out.1, _, _, _, _, _, _, _, _, rfl, HFX.out.2.2.2, HFX.out.2.1, .inr ⟨HVV.out, by omega⟩⟩
                        | false =>
                          rw [hb6] at HQ6
                          simp only [Bool.false_eq_true, if_false] at HQ6
                          clear hb6
                          go_wp2_with fail
                          refine Calls.mono (HWR.out q6 m 5 5 _ HQ6.out.rr) ?_
                          rintro x Z7 ⟨rfl, hr, ho⟩
                          rw [if_neg (by omega)] at hr
                          have HQ7 := hid (HQ6.out.call (to_only ho) hr)
                          have HND7 := hid (HNDX.out _ (HG6.out.trans (to_only ho)))
                          clear hr ho
                          have hldx := HQ7.out.ld
                          have hstx := HQ7.out.st
                          have HFX := hid (HQ7.out.fin (d := d + 1) (HND7.out))
                          generalize putM Z7 w.heap.size #[.string NM, .slice A al.length ac, .string ⟨#[]⟩, v] = Y at hstx HFX
                          go_wp2_with fail
                          refine bodyPost_ret (ret_nd1 (p := 4) Tryz.results41 _ _ w.heap.size _ rfl (0, 0) rfl HFX.out.2.2.1) rfl ?_
                          exact ⟨HFX.out.1, _, _, _, _, _, _, _, _, rfl, HFX.out.2.2.2, HFX.out.2.1, .inr ⟨HVV.out, by omega⟩⟩
                  | false =>
                    have HB0 := hid hb0
                    clear hb0 c3
                    go_wp2_with fail
                    refine Calls.mono (HH1.out _ HQ1.out.rr) ?_
                    rintro x Z2 ⟨rfl, hb⟩
                    have HQ2 := hid (HQ1.out.below hb)
                    have HC2 := hid (HC1.out.call HRY.out (to_below hb))
                    have HG2 := hid (HG1.out.trans (to_below (R := R) hb))
                    clear hb
                    cases hb1 : preX [60, 33, 45, 45] (s.drop q) with
                    | true =>
                      have HAT : Hid (atAs (s.drop q) = true) := by show (_ || _) = true; rw [hb1]; rfl
                      clear hb1
                      have HAS := hid (fun W hW => asideR_any false s q m R (by have := HS.out; omega) HPQ.out W hW)
                      have HKA := hid (kidW_asR HEL.out ks (s.drop q) m HMQ2.out HB0.out HAT.out)
                      have HLA := hid (fun l2 ha => asW_lt (l2 := l2) HAT.out ha)
                      go_wp2_with fail
                      refine Calls.mono (HAS.out _ HQ2.out.rr) ?_
                      rintro x Z3 ⟨hg, ⟨va, rfl⟩, hx⟩
                      have HC3 := hid (HC2.out.call HRY.out hg)
                      rcases hx with ⟨q', hpq, hq', hasw, hr⟩ | ⟨hasw, hr⟩
                      · have HQ3 := hid (HQ2.out.call hg hr)
                        have hl := HLA.out _ hasw
                        rw [hasw, HGO.out] at HKA
                        simp only at HKA
                        have HQN := hid hq'
                        have HLN := hid hl
                        clear hg hr hasw hl hpq hq'
                        go_wp2_with fail
                        go_roundw
                        case rel =>
                          refine ⟨v, ks, q', m, 0, HQ3.out, HC3.out, ⟨.inl ⟨rfl, HQN.out, HKA.out.symm, HMQ2.out, HTX.out, ?_, ?_⟩⟩⟩
                          · have h1 := HKS.out
                            have h2 := HLN.out
                            omega
                          · have h1 := HLT.out
                            have h2 := HLN.out
                            omega
                        case measure =>
                          rw [rrM_ok HQ3.out.rr, rrM_ok HQ0.out.rr]
                          have h2 := HLN.out
                          rw [List.length_drop, List.length_drop] at h2
                          omega
                      · have HQ3 := hid (HQ2.out.call hg hr)
                        rw [hasw, HGO.out] at HKA
                        simp only at HKA
                        clear hg hr hasw
                        go_wp2_with fail
                        go_roundw
                        case rel => exact ⟨v, ks, s.length, m, 5, HQ3.out, HC3.out, ⟨.inr ⟨HKA.out, by omega⟩⟩⟩
                        case measure => rw [rrM_no HQ3.out.rr (by omega), rrM_ok HQ0.out.rr]; omega
                    | false =>
                      have HB1 := hid hb1
                      clear hb1
                      go_wp2_with fail
                      refine Calls.mono (HH2.out _ HQ2.out.rr) ?_
                      rintro x Z3 ⟨rfl, hb⟩
                      have HQ3 := hid (HQ2.out.below hb)
                      have HC3 := hid (HC2.out.call HRY.out (to_below hb))
                      have HG3 := hid (HG2.out.trans (to_below (R := R) hb))
                      clear hb
                      cases hb2 : preX [60, 63] (s.drop q) with
                      | true =>
                        have HAT : Hid (atAs (s.drop q) = true) := by show (_ || _) = true; rw [hb2]; simp
                        clear hb2
                        have HAS := hid (fun W hW => asideR_any false s q m R (by have := HS.out; omega) HPQ.out W hW)
                        have HKA := hid (kidW_asR HEL.out ks (s.drop q) m HMQ2.out HB0.out HAT.out)
                        have HLA := hid (fun l2 ha => asW_lt (l2 := l2) HAT.out ha)
                        go_wp2_with fail
                        refine Calls.mono (HAS.out _ HQ3.out.rr) ?_
                        rintro x Z4 ⟨hg, ⟨va, rfl⟩, hx⟩
                        have HC4 := hid (HC3.out.call HRY.out hg)
                        rcases hx with ⟨q', hpq, hq', hasw, hr⟩ | ⟨hasw, hr⟩
                        · have HQ4 := hid (HQ3.out.call hg hr)
                          have hl := HLA.out _ hasw
                          rw [hasw, HGO.out] at HKA
                          simp only at HKA
                          have HQN := hid hq'
                          have HLN := hid hl
                          clear hg hr hasw hl hpq hq'
                          go_wp2_with fail
                          go_roundw
                          case rel =>
                            refine ⟨v, ks, q', m, 0, HQ4.out, HC4.out, ⟨.inl ⟨rfl, HQN.out, HKA.out.symm, HMQ2.out, HTX.out, ?_, ?_⟩⟩⟩
                            · have h1 := HKS.out
                              have h2 := HLN.out
                              omega
                            · have h1 := HLT.out
                              have h2 := HLN.out
                              omega
                          case measure =>
                            rw [rrM_ok HQ4.out.rr, rrM_ok HQ0.out.rr]
                            have h2 := HLN.out
                            rw [List.length_drop, List.length_drop] at h2
                            omega
                        · have HQ4 := hid (HQ3.out.call hg hr)
                          rw [hasw, HGO.out] at HKA
                          simp only at HKA
                          clear hg hr hasw
                          go_wp2_with fail
                          go_roundw
                          case rel => exact ⟨v, ks, s.length, m, 5, HQ4.out, HC4.out, ⟨.inr ⟨HKA.out, by omega⟩⟩⟩
                          case measure => rw [rrM_no HQ4.out.rr (by omega), rrM_ok HQ0.out.rr]; omega
                      | false =>
                        have HAT : Hid (atAs (s.drop q) = false) := by show (_ || _) = false; rw [hb2, HB1.out]; rfl
                        clear hb2
                        go_wp2_with fail
                        refine Calls.mono (HPC.out _ HQ3.out.rr) ?_
                        rintro x Z4 ⟨rfl, hr, hg⟩
                        have HQ4 := hid (HQ3.out.call hg hr)
                        have HC4 := hid (HC3.out.call HRY.out hg)
                        have HG4 := hid (HG3.out.trans hg)
                        clear hr hg
                        cases hb3 : preX [60, 33, 91, 67, 68, 65, 84, 65, 91] (s.drop q) with
                        | true =>
                          rw [hb3] at HQ4
                          simp only [if_true] at HQ4
                          have hq9 : q + 9 ≤ s.length := pre_len hb3 HPQ.out
                          have HKR := hid (kidW_raw HEL.out ks (s.drop q) m HMQ2.out HB0.out HAT.out hb3)
                          rw [HGO.out, List.drop_drop] at HKR
                          have HUN := hid (fun W hW => until_any s [93, 93, 62] (q + 9) m 0 R (by have := HS.out; omega) (by simp) (by simp) hq9 W hW)
                          have HUN2 : Hid (∀ W, Rr W R s (q + 9) m 0 → Calls Tryz.prog 64 #[.pointer (some ⟨R, 0, none⟩), .string ⟨#[93, 93, 62]⟩] W fun x w' => W.grownBy w' (some R) ∧
                              ((∃ a b, untX [93, 93, 62] (s.drop (q + 9)) = some (a, b) ∧ x = .returned (.tuple #[.string (asS a), .bool true]) ∧ Rr w' R s (q + 9 + a.length + 3) m 0 ∧ b = s.drop (q + 9 + a.length + 3) ∧ q + 9 + a.length + 3 ≤ s.length) ∨ (untX [93, 93, 62] (s.drop (q + 9)) = none ∧ x = .returned (.tuple #[.string ⟨#[]⟩, .bool false]) ∧ Rr w' R s s.length m 5))) := HUN.out
                          clear HUN hb3 hq9
                          go_wp2_with fail
                          refine Calls.mono (HUN2.out _ HQ4.out.rr) ?_
                          rintro x Z5 ⟨hg, hx⟩
                          have HC5 := hid (HC4.out.call HRY.out hg)
                          rcases hx with ⟨a, b, hu, rfl, hr, hb, hqn⟩ | ⟨hu, rfl, hr⟩
                          · have HQ5 := hid (HQ4.out.call hg hr)
                            rw [hu] at HKR
                            simp only at HKR
                            rw [hb] at HKR
                            have HGS := hid HKR.out.symm
                            have HQLT : Hid (q < q + 9 + a.length + 3) := by show _ < _; omega
                            have HXL : Hid (a.length + (s.drop (q + 9 + a.length + 3)).length ≤ (s.drop q).length) := by
                              show _ ≤ _
                              rw [List.length_drop, List.length_drop]
                              omega
                            have HXS : Hid (a ≠ [] → (s.drop (q + 9 + a.length + 3)).length < (s.drop q).length) := fun _ => drop_lt (by omega) hqn
                            have HQN := hid hqn
                            clear hg hr hu hb hqn
                            generalize q + 9 + a.length + 3 = qn at *
                            have HSY := hid (sayR_all d ks s a (qn) m HMQ2.out (by have h1 := HKS.out; have h2 := HS.out; omega) (by have h1 := HLT.out; have h2 := HXL.out; have h3 := HS.out; omega) HTX.out v R Y3.heap.size Z5 HRY.out HC5.out.big HQ5.out.rr HC5.out.own)
                            have d3 := HQ5.out.cells.2.2.2.1
                            generalize asS a = TX at HSY ⊢
                            go_wp2_with fail
                            refine Calls.mono HSY.out ?_
                            rintro x Z6 ⟨v', rfl, ks', m', e', hsd⟩
                            have HQ6 := hid (HQ5.out.far hsd.far hsd.rr (by have := HZ3.out; omega) (by have := HZ3.out; omega) (by have := HZ3.out; omega))
                            have HC6 := hid (HC5.out.grow hsd.own hsd.far)
                            have HKN := hid (KR.said HGS.out HQN.out HKS.out HLT.out HXL.out HXS.out hsd)
                            obtain ⟨vA, vc, hv', _, _⟩ := hsd.own.shape
                            subst hv'
                            clear hsd d3
                            go_wp2_with (first
                              | (refine store_part rfl 23 _ _ rfl (w.heap.size + 1) 3 (.slice vA ks'.length vc) _ _ #[.string NM, .slice A al.length ac, .string ⟨#[]⟩, .slice vA ks'.length vc] rfl rfl infoNs2 (by simp) rfl rfl HQ6.out.r5 rfl ?_)
                              | fail)
                            intro Z7 ho hr
                            have HQ7 := hid (HQ6.out.put5 ho hr rfl rfl rfl rfl)
                            have HC7 := hid (HC6.out.put (by have := HZ3.out; omega) ho)
                            clear ho hr
                            go_wp2_with fail
                            go_roundw
                            case rel => exact ⟨_, ks', qn, m', e', HQ7.out, HC7.out, HKN.out⟩
                            case measure =>
                              rw [rrM_ok HQ0.out.rr]
                              by_cases he : e' = 0
                              · subst he
                                rw [rrM_ok HQ7.out.rr]
                                have h1 := HQN.out
                                have h2 := HQLT.out
                                omega
                              · rw [rrM_no HQ7.out.rr he]
                                omega
                          · have HQ5 := hid (HQ4.out.call hg hr)
                            rw [hu] at HKR
                            simp only at HKR
                            clear hg hr hu
                            go_wp2_with fail
                            go_roundw
                            case rel => exact ⟨v, ks, s.length, m, 5, HQ5.out, HC5.out, ⟨.inr ⟨HKR.out, by omega⟩⟩⟩
                            case measure => rw [rrM_no HQ5.out.rr (by omega), rrM_ok HQ0.out.rr]; omega
                        | false =>
                          rw [hb3] at HQ4
                          simp only [Bool.false_eq_true, if_false] at HQ4
                          have HB3 := hid hb3
                          clear hb3
                          go_wp2_with fail
                          refine Calls.mono (HHL.out _ HQ4.out.rr) ?_
                          rintro x Z5 ⟨rfl, hb⟩
                          have HQ5 := hid (HQ4.out.below hb)
                          have HC5 := hid (HC4.out.call HRY.out (to_below hb))
                          have HG5 := hid (HG4.out.trans (to_below (R := R) hb))
                          clear hb
                          cases hb4 : preX [60] (s.drop q) with
                          | true =>
                            have HB4 := hid hb4
                            clear hb4
                            have HKE := hid (kidW_el HEL.out ks (s.drop q) m HMQ2.out HB0.out HAT.out HB3.out HB4.out)
                            rw [HGO.out] at HKE
                            have HEC : Hid (Calls Tryz.prog 41 #[.pointer (some ⟨R, 0, none⟩), .int .i64 ((dp : Int) + 1)] Z5.drew fun x w' => ∃ u, x = .returned u ∧ ∃ (A1 B1 C1 D1 : Value) (t : Tr d) (q' m2 e1 : Nat), u = .agg #[A1, B1, C1, D1] ∧ Z5.drew.grownBy w' (some R) ∧ NdAt (fun g => Z5.heap.size ≤ g) d w' #[A1, B1, C1, D1] t ∧ Rr w' R s q' m2 e1 ∧ ((e1 = 0 ∧ elX d lv (s.drop q) m = .ok (t, s.drop q', m2) ∧ m2 ≤ 4096 ∧ q' ≤ s.length) ∨ (elX d lv (s.drop q) m = .error e1 ∧ (e1 = 3 ∨ e1 = 5 ∨ e1 = 9)))) := (HIH.out s q m R Z5.drew HS.out HPQ.out HMQ2.out HQ5.out.rr).mono fun x w' hp => by
                              obtain ⟨hg, A1, B1, C1, D1, t, q', m2, e1, hx, hn, hr, hh⟩ := hp
                              exact ⟨_, hx, A1, B1, C1, D1, t, q', m2, e1, rfl, hg, hn, hr, hh⟩
                            have HEN := hid (enters_of Tryz.func41 (by kernel_rfl) rfl)
                            have hwr : IntKind.i64.wrap ((dp : Int) + 1) = (dp : Int) + 1 := by rw [IntKind.wrap_i64]; omega
                            have kA : Z5.drew.cell? ⟨w.heap.size + 1, 3, none⟩ = some v := HQ5.out.cells.2.2.2.1
                            have HKL : Hid (ks.length ≤ 1000000) := by show _ ≤ _; have h1 := HKS.out; have h2 := HS.out; omega
                            have HBLK : Hid (∀ g, blk v = some g → g < Z5.heap.size) := fun g hg => (HC5.out.own.blk_P g hg).2
                            have HBLK2 : Hid (∀ g, blk v = some g → Y3.heap.size ≤ g) := fun g hg => (HC5.out.own.blk_P g hg).1
                            go_wp2_with fail
                            go_region_law ((first
                              | (refine step_call2 (by rfl) 41 _ _ _ (by rfl) HEN.out (.pointer (some ⟨R, 0, none⟩)) (.int .i64 ((dp : Int) + 1)) (by rfl) (by rfl) HEC.out ?_; intro u1 w1 ha; obtain ⟨A1, B1, C1, D1, t, q', m2, e1, hu1, hg1, hn1, hr1, hh1⟩ := ha; subst hu1; have HQW := hid ((HQ5.out.below (below_drew Z5)).call hg1 hr1); have HCW := hid ((HC5.out.call HRY.out (to_below (below_drew Z5))).call HRY.out hg1); have HZW := hid hg1.size; have kB : w1.cell? ⟨w.heap.size + 1, 3, none⟩ = some v := HQW.out.cells.2.2.2.1; have kB2 : ∀ o, (w1.alloc o).cell? ⟨w.heap.size + 1, 3, none⟩ = some v := fun o => (HQW.out.below ((Below.refl _ _).alloc (Nat.le_refl _) o)).cells.2.2.2.1; have HN1 := hid hn1; have HH1 := hid hh1; clear hg1 hr1 hn1 hh1)
                              | (refine step_nd (by rfl) _ _ (by rfl) (fun g => Y3.heap.size ≤ g) d v _ ks #[A1, B1, C1, D1] t (by rfl) (by rfl) (by exact HCW.out.own.below ((Below.refl _ _).alloc (Nat.le_refl _) _)) (by exact src_nd (HN1.out.below ((Below.refl _ _).alloc (Nat.le_refl _) _) (Nat.le_refl _)) w1.heap.size 1 (heap_alloc_new w1 _)) (by rfl) (by exact HN1.out.frame (by simp) fun g hg hl => ⟨Below.heap_alloc _ _ _ hl, ⟨by have h9 : Z5.heap.size ≤ g := hg; have := HC5.out.big; show _ ≤ _; omega, fun e => by have h9 : Z5.heap.size ≤ g := hg; have := HBLK.out g e; omega⟩⟩) (by exact HKL.out) (by show _ ≤ _; have := HCW.out.big; simp; omega) ?_; intro v4 w4 p1 p2 p3; have HP1 := hid p1; have HP2 := hid p2; obtain ⟨vA, vc, hv4, _, _⟩ := p1.shape; generalize hkl : (ks ++ [t]).length = kl at hv4; subst hv4; have hf : FarR Y3.heap.size R w1 w4 := (by have h0 := HCW.out.big; refine ⟨p2.os, p2.tape, p2.output, Nat.le_trans h0 (Nat.le_trans (by simp) p2.size), fun g hg hne => ?_⟩; rw [p2.block g (by simp; omega) (fun e => by have := HBLK2.out g e.symm; omega)]; exact Below.heap_alloc _ _ _ (by omega)); have HQ8 := hid (HQW.out.far hf (((p2.block R (by have h1 := HQW.out.rr.lt; simp; omega) (fun e => by have h1 := HBLK2.out R e.symm; have h2 := HRY.out; omega)).trans (Below.heap_alloc _ _ _ HQW.out.rr.lt)).trans HQW.out.rr) (by have := HZ3.out; omega) (by have := HZ3.out; omega) (by have := HZ3.out; omega)); have HC8 := hid (HCW.out.grow p1 hf); have kS : w4.cell? ⟨w.heap.size + 1, 3, none⟩ = some v := HQ8.out.cells.2.2.2.1; have kF : w4.frozen? ⟨w.heap.size + 1, 3, none⟩ = false := free_row HQ8.out.r5; clear p1 p2 p3 hf hkl)
                              | fail))
                            all_goals
                              have hsc := setCell_row (j := 3) (.slice vA kl vc) HQ8.out.r5
                              have HQ9 := hid (HQ8.out.put5 (A' := .string NM) (B' := .slice A al.length ac) (C' := .string ⟨#[]⟩) (D' := .slice vA kl vc) hsc.1 hsc.2 rfl rfl rfl rfl)
                              have HC9 := hid (HC8.out.put (by have := HZ3.out; omega) hsc.1)
                              obtain ⟨hkr, hkl⟩ := KR.elem HKE.out HMQ2.out HPQ.out HKS.out HLT.out HH1.out
                              have HKR := hid hkr
                              have HKL2 := hid hkl
                              clear hsc kS kF kA kB kB2 hwr hkr hkl
                              generalize w4.setCell ⟨w.heap.size + 1, 3, none⟩ (.slice vA kl vc) = Z9 at *
                              go_wp2_with fail
                              go_roundw
                              case rel => exact ⟨_, _, q', m2, e1, HQ9.out, HC9.out, HKR.out⟩
                              case measure =>
                                rw [rrM_ok HQ0.out.rr]
                                by_cases he : e1 = 0
                                · have h1 := HKL2.out he
                                  subst he
                                  rw [rrM_ok HQ9.out.rr]
                                  omega
                                · rw [rrM_no HQ9.out.rr he]
                                  omega
                          | false =>
                            have HB4 := hid hb4
                            clear hb4
                            have HRN := hid (fun W hW => runR_any s q m R (by have := HS.out; omega) HPQ.out W hW)
                            have HKU := hid (kidW_run HEL.out ks s q m HMQ2.out HB4.out)
                            rw [HGO.out] at HKU
                            have HRL2 := hid (run_len s q HPQ.out HB4.out)
                            have HTI := hid (tw_in ltB s q HPQ.out)
                            generalize (unA ((s.drop q).takeWhile ltB)).getD [] = tx at HRN HKU HRL2
                            generalize hqn : q + ((s.drop q).takeWhile ltB).length = qn at HRN HKU HRL2 HTI
                            clear hqn
                            go_wp2_with fail
                            refine Calls.mono (HRN.out _ HQ5.out.rr) ?_
                            rintro x Z6 ⟨hg, rfl, hr⟩
                            have HQ6 := hid (HQ5.out.call hg hr)
                            have HC6 := hid (HC5.out.call HRY.out hg)
                            clear hg hr
                            cases hrb : runBad s q with
                            | true =>
                              rw [hrb] at HQ6 HKU
                              simp only [if_true, fiveR] at HQ6 HKU
                              have c6 : Z6.cell? ⟨R, 3, none⟩ = some (.int .i64 5) := HQ6.out.rr.e
                              clear hrb
                              go_wp2_with fail
                              go_roundw
                              case rel => exact ⟨v, ks, qn, m, 5, HQ6.out, HC6.out, ⟨.inr ⟨HKU.out, by omega⟩⟩⟩
                              case measure => rw [rrM_no HQ6.out.rr (by omega), rrM_ok HQ0.out.rr]; omega
                            | false =>
                              rw [hrb] at HQ6 HKU
                              simp only [Bool.false_eq_true, if_false, fiveR] at HQ6 HKU
                              have c6 : Z6.cell? ⟨R, 3, none⟩ = some (.int .i64 0) := HQ6.out.rr.e
                              have HGS := hid HKU.out.symm
                              have HXL := hid (HRL2.out hrb).1
                              have HQLT := hid (HRL2.out hrb).2
                              have HQN := hid HTI.out
                              have HXS : Hid (tx ≠ [] → (s.drop qn).length < (s.drop q).length) := fun _ => drop_lt HQLT.out HQN.out
                              clear hrb
                              have HSY := hid (sayR_all d ks s tx (qn) m HMQ2.out (by have h1 := HKS.out; have h2 := HS.out; omega) (by have h1 := HLT.out; have h2 := HXL.out; have h3 := HS.out; omega) HTX.out v R Y3.heap.size Z6 HRY.out HC6.out.big HQ6.out.rr HC6.out.own)
                              have d3 := HQ6.out.cells.2.2.2.1
                              generalize asS tx = TX at HSY ⊢
                              go_wp2_with fail
                              refine Calls.mono HSY.out ?_
                              rintro x Z7 ⟨v', rfl, ks', m', e', hsd⟩
                              have HQ7 := hid (HQ6.out.far hsd.far hsd.rr (by have := HZ3.out; omega) (by have := HZ3.out; omega) (by have := HZ3.out; omega))
                              have HC7 := hid (HC6.out.grow hsd.own hsd.far)
                              have HKN := hid (KR.said HGS.out HQN.out HKS.out HLT.out HXL.out HXS.out hsd)
                              obtain ⟨vA, vc, hv', _, _⟩ := hsd.own.shape
                              subst hv'
                              clear hsd d3
                              go_wp2_with (first
                                | (refine store_part rfl 23 _ _ rfl (w.heap.size + 1) 3 (.slice vA ks'.length vc) _ _ #[.string NM, .slice A al.length ac, .string ⟨#[]⟩, .slice vA ks'.length vc] rfl rfl infoNs2 (by simp) rfl rfl HQ7.out.r5 rfl ?_)
                                | fail)
                              intro Z8 ho hr
                              have HQ8 := hid (HQ7.out.put5 ho hr rfl rfl rfl rfl)
                              have HC8 := hid (HC7.out.put (by have := HZ3.out; omega) ho)
                              clear ho hr
                              go_wp2_with fail
                              go_roundw
                              case rel => exact ⟨_, ks', qn, m', e', HQ8.out, HC8.out, HKN.out⟩
                              case measure =>
                                rw [rrM_ok HQ0.out.rr]
                                by_cases he : e' = 0
                                · subst he
                                  rw [rrM_ok HQ8.out.rr]
                                  have h1 := HQN.out
                                  have h2 := HQLT.out
                                  omega
                                · rw [rrM_no HQ8.out.rr he]
                                  omega
                · have c3 : wr.cell? ⟨R, 3, none⟩ = some (.int .i64 (e : Int)) := HQ0.out.rr.e
                  have he1 : ((e : Int) == 0) = false := by rw [beq_eq_false_iff_ne]; omega
                  have he2 : ((e : Int) != 0) = true := by rw [bne, he1]; rfl
                  rw [hVK] at HVV
                  simp only at HVV
                  have HE := hid he
                  clear hVK he
                  have hldx := HQ0.out.ld
                  have hstx := HQ0.out.st
                  have HFX := hid (HQ0.out.fin (d := d + 1) (HND.out))
                  generalize putM wr w.heap.size #[.string NM, .slice A al.length ac, .string ⟨#[]⟩, v] = Y at hstx HFX
                  go_wp2_with fail
                  refine bodyPost_ret (ret_nd1 (p := 4) Tryz.results41 _ _ w.heap.size _ rfl (0, 0) rfl HFX.out.2.2.1) rfl ?_
                  exact ⟨HFX.out.1, _, _, _, _, _, _, _, _, rfl, HFX.out.2.2.2, HFX.out.2.1, .inr ⟨HVV.out, HE.out⟩⟩
            | false =>
              rw [hb2] at HT3 HST
              simp only [Bool.false_eq_true, if_false] at HT3 HST
              clear hb2
              by_cases hk0 : k = 0
              · rw [if_pos (HKZ.out.2 hk0)] at HST
                have HVV : Hid (V = .error 5) := by show _ = _; rw [HV.out, HST.out]
                have hkd : decide (0 < k) = false := decide_eq_false (by omega)
                rw [hkd]
                clear hkd hk0
                have HND : Hid (∀ Y4 : World, Y3.grownBy Y4 (some R) → NdAt (fun g => w.heap.size ≤ g ∧ g ≠ w.heap.size) (d + 1) Y4 #[.string NM, .slice A al.length ac, .string ⟨#[]⟩, .slice none 0 0] ((nm, al, []), [])) := fun Y4 hg => by
                  obtain ⟨A2, c2, hv, hh⟩ := (HO3.out.to hg (by have := HRL.out; omega)).hdsP (b0 := w.heap.size + 2) (Nat.le_refl _)
                  injection hv with e1 e2 e3
                  rw [HNM.out]
                  exact nd_out (v := .slice none 0 0) ((e1 ▸ hh).frame (Nat.le_refl _) fun q hq _ => ⟨rfl, by have h9 : w.heap.size + 2 ≤ q := hq; omega⟩) (OwnN.nil _ _ _)
                go_wp2_with fail
                refine Calls.mono (HWR.out q2 m' 0 5 _ HT3.out.rr) ?_
                rintro x Y4 ⟨rfl, hr, ho⟩
                rw [if_pos rfl] at hr
                have HT4 := hid (HT3.out.call (to_only ho) hr)
                have HND4 := hid (HND.out Y4 (to_only ho))
                clear hr ho
                have hldx := HT4.out.ld
                have hstx := HT4.out.st
                have HFX := hid (HT4.out.fin (d := d + 1) (HND4.out))
                generalize putM Y4 w.heap.size #[.string NM, .slice A al.length ac, .string ⟨#[]⟩, .slice none 0 0] = Y at hstx HFX
                go_wp2_with fail
                refine bodyPost_ret (ret_nd1 (p := 4) Tryz.results41 _ _ w.heap.size _ rfl (0, 0) rfl HFX.out.2.2.1) rfl ?_
                exact ⟨HFX.out.1, _, _, _, _, _, _, _, _, rfl, HFX.out.2.2.2, HFX.out.2.1, .inr ⟨HVV.out, by omega⟩⟩
              · rw [if_neg (fun h => hk0 (HKZ.out.1 h))] at HST
                have hkd : decide (0 < k) = true := decide_eq_true (by omega)
                rw [hkd]
                have HK0 := hid hk0
                clear hkd hk0
                have hds : HdsP (fun g => g ≠ R) Y3 A al := by
                  obtain ⟨A2, c2, hv, hh⟩ := HO3.out.hdsP (b0 := w.heap.size + 2) (Nat.le_refl _)
                  injection hv with e1 e2 e3
                  exact (e1 ▸ hh).frame (Nat.le_refl _) fun q hq _ => ⟨rfl, by have h9 : w.heap.size + 2 ≤ q := hq; have := HRL.out; omega⟩
                have HAL : Hid (al.length ≤ 100000) := by show _ ≤ _; have h1 := HCN.out; have h2 := HS.out; omega
                have HAT := hid (attR_any al A ac s q2 m' R (by have := HS.out; omega) HQ2.out HMQ.out (by have := HAL.out; omega) Y3 hds HT3.out.rr)
                unfold ArPost at HAT
                have d1 := HT3.out.cells.2.1
                clear hds
                go_wp2_with fail
                refine Calls.mono HAT.out ?_
                rintro x Y4 ⟨hg, hx⟩
                have HO4 := hid (HO3.out.to hg (by have := HRL.out; omega))
                have HZ4 := hid (Nat.le_trans HZ3.out hg.size)
                have HG4 := hid hg
                clear hg d1
                rcases hx with ⟨a, q3, m3, hV, hq3, rfl, hr⟩ | ⟨er, a, q3, m3, hV, her, rfl, hr⟩
                · have HT4 := hid (HT3.out.call HG4.out hr)
                  rw [hV] at HST
                  simp only at HST
                  have HSH := hid (att_sh hV)
                  have HQ3 := hid hq3
                  have hha : hcs a = #[.string (asS a.name), .string (asS a.value)] := rfl
                  rw [hha]
                  clear hV hq3 hr hha
                  have HNA : Hid (asS a.name = asS a.name) := rfl
                  clear HNA
                  generalize hN1 : asS a.name = N1
                  generalize hN2 : asS a.value = N2
                  have HN1 := hid hN1
                  have HN2 := hid hN2
                  clear hN1 hN2
                  have b2 : ∀ o1 o2, Below Y4.heap.size Y4 ((Y4.alloc o1).alloc o2) := fun o1 o2 => ((Below.refl _ _).alloc (Nat.le_refl _) _).alloc (by simp) _
                  have d1 : ∀ o1, (Y4.alloc o1).cell? ⟨w.heap.size + 1, 1, none⟩ = some (.slice A al.length ac) := fun o1 => (HT4.out.below ((Below.refl _ _).alloc (Nat.le_refl _) o1)).cells.2.1
                  have HB2 := hid b2
                  clear b2
                  go_wp2_with (first
                    | (refine wpList_hd rfl _ _ rfl (w.heap.size + 2) _ _ al [a] rfl rfl (HO4.out.below (HB2.out _ _)) (src_hd2 _ _ a N1 N2 HN1.out.symm HN2.out.symm _) (by simp) (by have := HAL.out; simp; omega) (by have := HZ4.out; simp; omega) ?_)
                    | fail)
                  intro v5 Y5 ho5 hb5
                  obtain ⟨A5, c5, hv5, hh5⟩ := ho5.hdsP (b0 := w.heap.size + 2) (Nat.le_refl _)
                  subst hv5
                  have HZ5 : Hid (w.heap.size + 2 ≤ Y5.heap.size) := by show _ ≤ _; have h1 := hb5.size; have h2 := HZ4.out; simp at h1; omega
                  have HT5 : Hid (ErS R w.heap.size (w.heap.size + 1) w (.string NM) (.slice A al.length ac) (.string ⟨#[]⟩) (.slice none 0 0) s q3 m3 0 Y5) := by
                    have h6 := HT4.out.below (HB2.out (.cells #[.string N1, .string N2] 59 (0, 0)) (.cells #[.string N1, .string N2] 59 (0, 0)))
                    have h7 : FarR (w.heap.size + 2) R ((Y4.alloc (.cells #[.string N1, .string N2] 59 (0, 0))).alloc (.cells #[.string N1, .string N2] 59 (0, 0))) Y5 := ⟨hb5.os, hb5.tape, hb5.output, HZ5.out, fun q hq _ => hb5.block q hq⟩
                    exact h6.far h7 ((hb5.block R (by have := HRL.out; omega)).trans h6.rr) (by omega) (by omega) (by omega)
                  have HO5 := hid ho5
                  clear ho5 hb5 hh5
                  go_wp2_with (first
                    | (refine store_part rfl 22 _ _ rfl (w.heap.size + 1) 1 (.slice A5 (al ++ [a]).length c5) _ _ #[.string NM, .slice A5 (al ++ [a]).length c5, .string ⟨#[]⟩, .slice none 0 0] rfl rfl infoHs2 (by simp) rfl rfl HT5.out.r5 rfl ?_)
                    | fail)
                  intro Y6 ho6 hr6
                  have HT6 := hid (HT5.out.put5 ho6 hr6 rfl rfl rfl rfl)
                  have HO6 := hid (HO5.out.to (to_only ho6) (by omega))
                  have HZ6 : Hid (w.heap.size + 2 ≤ Y6.heap.size) := by show _ ≤ _; rw [ho6.size]; exact HZ5.out
                  clear ho6 hr6
                  go_wp2_with fail
                  go_roundw
                  case rel =>
                    refine ⟨al ++ [a], A5, c5, q3, m3, (by show ErS _ _ _ _ _ _ _ _ _ _ _ _ _; simpa using HT6.out), (by show OwnH _ _ _ _; simpa using HO6.out), HST.out.symm, HQ3.out, ?_, ?_, HZ6.out⟩
                    · show _ ≤ _
                      have := HSH.out.2
                      omega
                    · show _ ≤ _
                      have h1 := HSH.out.1.2
                      have h2 := HCN.out
                      have h3 := HQK.out
                      rw [List.length_drop] at h1 h2 ⊢
                      rw [List.length_drop] at h1
                      simp
                      omega
                  case measure =>
                    rw [rrAt_eq HT6.out.rr, rrAt_eq HSQ.out.rr]
                    have h1 := HSH.out.1.2
                    have h3 := HQK.out
                    rw [List.length_drop, List.length_drop] at h1
                    omega
                · have HT4 := hid (HT3.out.call HG4.out hr)
                  rw [hV] at HST
                  have HVV : Hid (V = .error er) := by show _ = _; rw [HV.out, HST.out]
                  have hha : hcs a = #[.string (asS a.name), .string (asS a.value)] := rfl
                  rw [hha]
                  have HER := hid her
                  clear hV hr hha her
                  generalize asS a.name = N1
                  generalize asS a.value = N2
                  have HT5 := hid (HT4.out.below ((Below.refl _ _).alloc (Nat.le_refl _) (.cells #[.string N1, .string N2] 59 (0, 0))))
                  have HND : Hid (NdAt (fun g => w.heap.size ≤ g ∧ g ≠ w.heap.size) (d + 1) (Y4.alloc (.cells #[.string N1, .string N2] 59 (0, 0))) #[.string NM, .slice A al.length ac, .string ⟨#[]⟩, .slice none 0 0] ((nm, al, []), [])) := by
                    obtain ⟨A2, c2, hv, hh⟩ := (HO4.out.below ((Below.refl _ _).alloc (Nat.le_refl _) (.cells #[.string N1, .string N2] 59 (0, 0)))).hdsP (b0 := w.heap.size + 2) (Nat.le_refl _)
                    injection hv with e1 e2 e3
                    rw [HNM.out]
                    exact nd_out (v := .slice none 0 0) ((e1 ▸ hh).frame (Nat.le_refl _) fun q hq _ => ⟨rfl, by have h9 : w.heap.size + 2 ≤ q := hq; omega⟩) (OwnN.nil _ _ _)
                  have hldx := HT5.out.ld
                  have hstx := HT5.out.st
                  have HFX := hid (HT5.out.fin (d := d + 1) (HND.out))
                  generalize putM (Y4.alloc (.cells #[.string N1, .string N2] 59 (0, 0))) w.heap.size #[.string NM, .slice A al.length ac, .string ⟨#[]⟩, .slice none 0 0] = Y at hstx HFX
                  go_wp2_with fail
                  refine bodyPost_ret (ret_nd1 (p := 4) Tryz.results41 _ _ w.heap.size _ rfl (0, 0) rfl HFX.out.2.2.1) rfl ?_
                  exact ⟨HFX.out.1, _, _, _, _, _, _, _, _, rfl, HFX.out.2.2.2, HFX.out.2.1, .inr ⟨HVV.out, by have := HER.out; omega⟩⟩
      · rw [if_neg hm] at HS4
        simp only [↓reduceIte] at HS4
        rw [decide_eq_false hm]
        have HV := hid (HV2'.out hm)
        clear hm
        have hldx := HS4.out.ld
        have hstx := HS4.out.st
        have HFX := hid (HS4.out.fin (d := d + 1) (by rw [HNM.out]; exact NdAt.mk0 (l := (nm, [], [])) ⟨fun h => absurd h (by simp), fun h => absurd h (by simp)⟩))
        generalize putM X4 w.heap.size #[.string NM, .slice none 0 0, .string ⟨#[]⟩, .slice none 0 0] = Y at hstx HFX
        go_wp2_with fail
        refine bodyPost_ret (ret_nd1 (p := 4) Tryz.results41 _ _ w.heap.size _ rfl (0, 0) rfl HFX.out.2.2.1) rfl ?_
        exact ⟨HFX.out.1, _, _, _, _, _, _, _, _, rfl, HFX.out.2.2.2, HFX.out.2.1, .inr ⟨HV.out, by omega⟩⟩
theorem elR_all : ∀ (d lev : Nat), lev ≤ d → lev ≤ 16 → ErOk d lev
  | d, 0, _, _ => elR_zero d
  | 0, lev + 1, h, _ => by omega
  | d + 1, lev + 1, h, h16 => elR_main d (lev + 1) (by omega) h16 (elR_all d lev (by omega) (by omega))
end Go.Proofs.YthjibliaofmlhaaGreatDoor
