
/- The reference's reader: an attribute, walked. -/
import Derived.Test.YthjibliaofmlhaaGreatDoorXmRAtt
namespace Go.Proofs.YthjibliaofmlhaaGreatDoor
set_option linter.unusedVariables false
set_option linter.unusedSimpArgs false
open Go.RowKit Go.BigFrame
attribute [local go_sem ↓] loadH_eq storeH_eq

theorem below_drew (w : World) : Below w.heap.size w w.drew := (Below.refl _ _).drew
theorem getD_lt {l : List UInt8} {k : Nat} (h : k < l.length) (hc : l.getD k 0 = 60) : l.contains 60 = true := by
  rw [List.contains_iff_mem, ← hc, List.getD_eq_getElem?_getD, List.getElem?_eq_getElem h]
  exact List.getElem_mem h
theorem all_lt {l : List UInt8} (h : ∀ j, j < l.length → l.getD j 0 ≠ 60) : l.contains 60 = false := by
  rw [Bool.eq_false_iff]
  intro hc
  obtain ⟨j, hj, he⟩ := List.mem_iff_getElem.1 (List.contains_iff_mem.1 hc)
  exact h j hj (by rw [List.getD_eq_getElem?_getD, List.getElem?_eq_getElem hj]; exact he)
set_option maxHeartbeats 2000000 in
set_option maxRecDepth 100000 in
theorem attR_any (al : List HdV) (A : Option Addr) (ac : Nat) (s : List UInt8) (p m R : Nat) (hs : s.length ≤ 100000) (hp : p ≤ s.length) (hm : m ≤ 4096) (hal : al.length ≤ 1000000) (w : World) (hA : HdsP (fun q => q ≠ R) w A al) (h : Rr w R s p m 0) :
    Calls Tryz.prog 68 #[.pointer (some ⟨R, 0, none⟩), .slice A al.length ac] w (ArPost (attX al (s.drop p) m) s R w) := by
  have hatt := att_va al (s.drop p) m
  rw [dw_at] at hatt
  generalize hV : attX al (s.drop p) m = V at hatt ⊢
  have hq1 : p + ((s.drop p).takeWhile latX).length ≤ s.length := tw_in latX s p hp
  have HC := hid (fun W hW => nameR_any s p m 0 R (by omega) hp W hW)
  generalize hnm : (s.drop p).takeWhile latX = nm at hatt hq1 HC
  generalize h1 : p + nm.length = q1 at hatt hq1 HC
  have hq2 := tw_in whX s q1 hq1
  have HWH1 := hid (fun W hW => whiteR_any s q1 m 0 R (by omega) hq1 W hW)
  generalize hk2 : ((s.drop q1).takeWhile whX).length = k2 at hq2 HWH1
  generalize h2 : q1 + k2 = q2 at hq2 HWH1
  have h2' : q1 + ((s.drop q1).takeWhile whX).length = q2 := by rw [hk2]; exact h2
  generalize decide (0 < k2) = wb1 at HWH1
  have HENwrong := hid (enters_of Tryz.func42 (by kernel_rfl) rfl)
  have HENmore := hid (enters_of Tryz.func67 (by kernel_rfl) rfl)
  have HWR : Hid (∀ q W, Rr W R s q m 0 → Calls Tryz.prog 42 #[.pointer (some ⟨R, 0, none⟩), .int .i64 5] W fun x w' => ∃ v, x = .returned v ∧ (v = .bool false ∧ Rr w' R s q m 5 ∧ W.grownBy w' (some R))) := fun q W hW => (wrong_any s q m 0 5 R W hW).mono fun x w' hh => ⟨_, hh.1, rfl, hh.2.1, to_only hh.2.2⟩
  have HPE : Hid (∀ W, Rr W R s q2 m 0 → Calls Tryz.prog 63 #[.pointer (some ⟨R, 0, none⟩), .string ⟨#[61]⟩] W fun x w' => x = .returned (.bool (preX [61] (s.drop q2))) ∧ Rr w' R s (if preX [61] (s.drop q2) then q2 + 1 else q2) m 0 ∧ W.grownBy w' (some R)) := fun W hW => past_any s [61] q2 m 0 R (by omega) (by simp) hq2 W hW
  have HR := hid h
  have HRL := hid h.lt
  have HA := hid hA
  have HP := hid hp
  have HS := hid hs
  have HM := hid hm
  have HAL := hid hal
  have HQ1 := hid hq1
  have HQ2 := hid hq2
  have H2 := hid h2'
  have HATT := hid hatt
  have HAT : Hid (∀ W, w.grownBy W (some R) → HdsAt W A al) := fun W hg => (hA.frame (P' := fun _ => True) hg.size fun q hq hl => ⟨hg.block q hl (fun e => hq (by injection e)), trivial⟩).1
  clear h hatt hs hp hm hal hA hq1 hq2 hnm h1 h2 h2' hk2 hV
  have HNM : Hid (hcs ⟨nm, []⟩ = #[.string (asS nm), .string ⟨#[]⟩]) := rfl
  have HNN : Hid (∀ v, hcs ⟨nm, v⟩ = #[.string (asS nm), .string (asS v)]) := fun v => rfl
  have HNQ : Hid (∀ y : List UInt8, ((asS y).toList == (asS nm).toList) = decide (y = nm)) := fun y => tl_two _ _
  generalize asS nm = NM at HC HNM HNN HNQ
  generalize hL : al.length = L
  have HL := hid hL
  clear hL
  unfold ArPost
  go_enter Tryz.func68, Tryz.ntmps68
  go_wp2_with fail
  refine Calls.mono (HC.out _ ?_) ?_
  · exact HR.out.below ((Below.refl _ _).alloc (Nat.le_refl _) _)
  rintro x W1 ⟨hg, rfl, hr⟩
  have hst1 := storeH_row (g := W1.heap.size) ⟨nm, []⟩ #[.string NM, .string ⟨#[]⟩] HNM.out (heap_alloc_new W1 (.cells #[.string ⟨#[]⟩, .string ⟨#[]⟩] 59 (0, 0))) rfl
  have HS1 : Hid (AtS R w.heap.size W1.heap.size w ⟨nm, []⟩ s q1 m (if nameX nm then 0 else if 0 = 0 then 5 else 0) (putM (W1.alloc (.cells #[.string ⟨#[]⟩, .string ⟨#[]⟩] 59 (0, 0))) W1.heap.size #[.string NM, .string ⟨#[]⟩])) := by
    have ho := putM_only (W1.alloc (.cells #[.string ⟨#[]⟩, .string ⟨#[]⟩] 59 (0, 0))) W1.heap.size #[.string NM, .string ⟨#[]⟩]
    have hrow := putM_row (cs' := #[.string NM, .string ⟨#[]⟩]) (heap_alloc_new W1 (.cells #[.string ⟨#[]⟩, .string ⟨#[]⟩] 59 (0, 0))) rfl
    have hz := hg.size
    simp at hz
    have hRl := HRL.out
    have a1 : Below W1.heap.size W1 (W1.alloc (.cells #[.string ⟨#[]⟩, .string ⟨#[]⟩] 59 (0, 0))) := (Below.refl _ _).alloc (Nat.le_refl _) _
    refine ⟨(ho.block R (by omega)).trans (hr.below a1), ?_, ?_, by rw [HNM.out]; exact hrow, by omega, by omega, by omega, Nat.le_refl _, by omega⟩
    · exact grown_own (((to_below (R := R) ((Below.refl w.heap.size w).alloc (Nat.le_refl _) _)).trans hg).trans (to_below a1)) (to_only (R := W1.heap.size) ho) (fun q hq => by injection hq with hq; omega)
    · exact (ho.block w.heap.size (by omega)).trans (row_keep a1 (to_row hg (heap_alloc_new w _) (by omega)))
  generalize putM (W1.alloc (.cells #[.string ⟨#[]⟩, .string ⟨#[]⟩] 59 (0, 0))) W1.heap.size #[.string NM, .string ⟨#[]⟩] = X1 at hst1 HS1
  clear hg hr
  cases hn : nameX nm with
  | false =>
    rw [hn] at HS1
    have HV : Hid (V = .error 5) := by show _ = _; rw [HATT.out, hn]; rfl
    have c3 : X1.cell? ⟨R, 3, none⟩ = some (.int .i64 5) := HS1.out.rr.e
    clear hn
    have hldHS1 := HS1.out.ld
    have hstHS1 := HS1.out.st
    have HOUTHS1 := hid HS1.out.out
    generalize putM X1 w.heap.size (hcs ⟨nm, []⟩) = YHS1 at hstHS1 HOUTHS1
    go_wp2_with fail
    refine bodyPost_ret (ret_hd2 (p := 4) (q := 5) Tryz.results68 _ _ w.heap.size _ (0, 0) _ rfl rfl HOUTHS1.out.2.2) rfl ?_
    exact ⟨HOUTHS1.out.1, .inr ⟨5, _, _, _, HV.out, by omega, rfl, HOUTHS1.out.2.1⟩⟩
  | true =>
    rw [hn] at HS1 HATT
    simp only [Bool.not_true, Bool.false_eq_true, if_false, if_true] at HS1 HATT
    have c3 : X1.cell? ⟨R, 3, none⟩ = some (.int .i64 0) := HS1.out.rr.e
    clear hn
    go_wp2_with fail
    refine Calls.mono (HWH1.out _ HS1.out.rr) ?_
    rintro x X2 ⟨hg, rfl, hr⟩
    have HS2 := hid (HS1.out.call hg hr)
    clear hg hr
    go_wp2_with fail
    refine Calls.mono (HPE.out _ HS2.out.rr) ?_
    rintro x X3 ⟨rfl, hr, hg⟩
    have HS3 := hid (HS2.out.call hg hr)
    clear hg hr
    cases hb2 : preX [61] (s.drop q2) with
    | false =>
      rw [hb2] at HS3
      have HV : Hid (V = .error 5) := by show _ = _; rw [HATT.out, va_none_at H2.out hb2]
      clear hb2
      simp only [Bool.false_eq_true, if_false] at HS3
      have hldHS3 := (HS3.out.below (below_drew X3)).ld
      go_wp2_with fail
      go_region_law ((first
        | (refine step_call2 (by rfl) 42 _ _ _ (by rfl) HENwrong.out (.pointer (some ⟨R, 0, none⟩)) (.int .i64 5) (by rfl) (by rfl) ((hid (HWR.out q2)).out X3.drew (HS3.out.below (below_drew X3)).rr) ?_; intro v1 w1 ha; have hv1 := ha.1; subst hv1; have HSB := hid ((HS3.out.below (below_drew X3)).call ha.2.2 ha.2.1); have hldB := HSB.out.ld; have hstB := HSB.out.st; clear ha)
        | fail))
      all_goals
        have HOUTB := hid HSB.out.out
        generalize putM w1 w.heap.size (hcs ⟨nm, []⟩) = YB at hstB HOUTB ⊢
        go_wp2_with fail
        refine bodyPost_ret (ret_hd2 (p := 4) (q := 5) Tryz.results68 _ _ w.heap.size _ (0, 0) _ rfl rfl HOUTB.out.2.2) rfl ?_
        exact ⟨HOUTB.out.1, .inr ⟨5, _, _, _, HV.out, by omega, rfl, HOUTB.out.2.1⟩⟩
    | true =>
      rw [hb2] at HS3
      simp only [if_true] at HS3
      have hq3 : q2 + 1 ≤ s.length := by
        have := congrArg List.length (drop_pre hb2)
        simp at this
        have := HQ2.out
        omega
      have hq4 := tw_in whX s (q2 + 1) hq3
      have HWH2 := hid (fun W hW => whiteR_any s (q2 + 1) m 0 R (by have := HS.out; omega) hq3 W hW)
      generalize hk4 : ((s.drop (q2 + 1)).takeWhile whX).length = k4 at hq4 HWH2
      generalize h4 : q2 + 1 + k4 = q4 at hq4 HWH2
      have h4' : q2 + 1 + ((s.drop (q2 + 1)).takeWhile whX).length = q4 := by rw [hk4]; exact h4
      generalize decide (0 < k4) = wb2 at HWH2
      have HNOQ := hid (fun h34 h39 => va_noquote H2.out hb2 h4' h34 h39)
      have HQUO := hid (fun c hc hq => va_quote H2.out hb2 h4' c hc hq)
      have HQ4 := hid hq4
      have HH39 : Hid (∀ W, Rr W R s q4 m 0 → Calls Tryz.prog 40 #[.pointer (some ⟨R, 0, none⟩), .string ⟨#[39]⟩] W fun x w' => x = .returned (.bool (preX [39] (s.drop q4))) ∧ Below W.heap.size W w') := fun W hW => here_any s [39] q4 m 0 R (by have := HS.out; omega) (by simp) hq4 W hW
      clear hb2 hk4 h4 h4' hq3 hq4
      go_wp2_with fail
      refine Calls.mono (HWH2.out _ HS3.out.rr) ?_
      rintro x X4 ⟨hg, rfl, hr⟩
      have HS4 := hid (HS3.out.call hg hr)
      clear hg hr
      go_wp2_with fail
      refine Calls.mono (HH39.out _ HS4.out.rr) ?_
      rintro x X5 ⟨rfl, hb⟩
      have HS5 := hid (HS4.out.below hb)
      clear hb
      cases hb3 : preX [39] (s.drop q4) with
      | true =>
        have HPQ : Hid (∀ W, Rr W R s q4 m 0 → Calls Tryz.prog 63 #[.pointer (some ⟨R, 0, none⟩), .string ⟨#[39]⟩] W fun x w' => x = .returned (.bool (preX [39] (s.drop q4))) ∧ Rr w' R s (if preX [39] (s.drop q4) then q4 + 1 else q4) m 0 ∧ W.grownBy w' (some R)) := fun W hW => past_any s [39] q4 m 0 R (by have := HS.out; omega) (by simp) HQ4.out W hW
        have HB3 := hid hb3
        clear hb3
        go_wp2_with fail
        refine Calls.mono (HPQ.out _ HS5.out.rr) ?_
        rintro x X6 ⟨rfl, hr, hg⟩
        have HS6 := hid (HS5.out.call hg hr)
        clear hg hr
        have hb4 := HB3.out
        rw [hb4] at HS6 ⊢
        simp only [if_true] at HS6
        have hq5 : q4 + 1 ≤ s.length := by
          have := congrArg List.length (drop_pre hb4)
          simp at this
          have := HQ4.out
          omega
        have HVQ := hid (HQUO.out 39 (by simp) hb4)
        have HUN : Hid (∀ W, Rr W R s (q4 + 1) m 0 → Calls Tryz.prog 64 #[.pointer (some ⟨R, 0, none⟩), .string ⟨#[39]⟩] W fun x w' => W.grownBy w' (some R) ∧
            ((∃ a b, untX [39] (s.drop (q4 + 1)) = some (a, b) ∧ x = .returned (.tuple #[.string (asS a), .bool true]) ∧ Rr w' R s (q4 + 1 + a.length + 1) m 0 ∧ b = s.drop (q4 + 1 + a.length + 1) ∧ q4 + 1 + a.length + 1 ≤ s.length) ∨ (untX [39] (s.drop (q4 + 1)) = none ∧ x = .returned (.tuple #[.string ⟨#[]⟩, .bool false]) ∧ Rr w' R s s.length m 5))) := fun W hW => until_any s [39] (q4 + 1) m 0 R (by have := HS.out; omega) (by simp) (by simp) hq5 W hW
        clear hb4 hq5
        go_wp2_with fail
        refine Calls.mono (HUN.out _ HS6.out.rr) ?_
        rintro x X7 ⟨hg, hx⟩
        rcases hx with ⟨raw, rest, hu, rfl, hr, hrest, hq6⟩ | ⟨hu, rfl, hr⟩
        · have HS7 := hid (HS6.out.call hg hr)
          rw [hu] at HVQ
          simp only at HVQ
          have HRAW : Hid (raw.length ≤ 100000) := by show _ ≤ _; have := HS.out; omega
          generalize hq6e : q4 + 1 + raw.length + 1 = q6 at HS7 hrest hq6
          have HRE := hid hrest
          have HQ6 := hid hq6
          have HSZ := hid (asS_size raw)
          have HIX := hid (fun k h W => str_ix (asS raw) k h W)
          rw [asS_data] at HIX
          have HVAL := hid (fun W => refValue_any raw HRAW.out W)
          clear hu hg hr hrest hq6 hq6e
          have hsz := HSZ.out
          generalize asS raw = RW at hsz HIX HVAL
          rw [← hsz] at HRAW
          have hrw := HRAW.out
          have HLN := hid hsz.symm
          clear hsz HSZ
          go_wp2_with fail
          go_loop [10] (fun i => ∃ k : Nat, k ≤ RW.size ∧ i = .int .i64 (k : Int) ∧ Hid (∀ j, j < k → raw.getD j 0 ≠ 60)) (fun i => RW.size - (intOf i).toNat)
          case atStart => exact ⟨0, Nat.zero_le _, rfl, fun j hj => by omega⟩
          case round =>
            obtain ⟨k, hk, rfl, HPF⟩ := hrel
            by_cases hlt : k < RW.size
            · have hi : (k : Int) < (RW.size : Int) := by omega
              have hix := HIX.out k hlt
              by_cases hc : raw.getD k 0 = 60
              · have HV : Hid (V = .error 5) := by
                  show _ = _
                  have := getD_lt (l := raw) (k := k) (by rw [HLN.out]; exact hlt) hc
                  rw [HATT.out, HVQ.out, this]
                  rfl
                rw [hc] at hix
                clear hc
                have hldHS7 := (HS7.out.below (below_drew X7)).ld
                go_wp2_with fail
                go_region_law ((first
                  | (refine step_call2 (by rfl) 42 _ _ _ (by rfl) HENwrong.out (.pointer (some ⟨R, 0, none⟩)) (.int .i64 5) (by rfl) (by rfl) ((hid (HWR.out q6)).out X7.drew (HS7.out.below (below_drew X7)).rr) ?_; intro v1 w1 ha; have hv1 := ha.1; subst hv1; have HSB := hid ((HS7.out.below (below_drew X7)).call ha.2.2 ha.2.1); have hldB := HSB.out.ld; have hstB := HSB.out.st; clear ha)
                  | fail))
                all_goals
                  have HOUTB := hid HSB.out.out
                  generalize putM w1 w.heap.size (hcs ⟨nm, []⟩) = YB at hstB HOUTB ⊢
                  go_wp2_with fail
                  refine bodyPost_ret (ret_hd2 (p := 4) (q := 5) Tryz.results68 _ _ w.heap.size _ (0, 0) _ rfl rfl HOUTB.out.2.2) rfl ?_
                  exact ⟨HOUTB.out.1, .inr ⟨5, _, _, _, HV.out, by omega, rfl, HOUTB.out.2.1⟩⟩
              · have hcb : (((raw.getD k 0).toNat : Int) == 60) = false := by
                  rw [beq_eq_false_iff_ne]
                  intro e
                  exact hc (UInt8.toNat_inj.1 (by show _ = 60; omega))
                have HP2 : Hid (∀ j, j < k + 1 → raw.getD j 0 ≠ 60) := fun j hj => by
                  rcases Nat.lt_succ_iff_lt_or_eq.1 hj with h1 | h1
                  · exact HPF.out j h1
                  · rw [h1]; exact hc
                clear hc
                generalize raw.getD k 0 = y at hix hcb
                go_wp2_with fail
                go_round
                case rel => exact ⟨k + 1, by omega, by go_num, HP2.out⟩
                case measure => simp [intOf]; omega
            · have hi : ¬ (k : Int) < (RW.size : Int) := by omega
              have hno : raw.contains 60 = false := all_lt (fun j hj => HPF.out j (by rw [HLN.out] at hj; omega))
              rw [hno] at HVQ
              simp only [Bool.false_eq_true, if_false] at HVQ
              have HMO : Hid (∀ W, Rr W R s q6 m 0 → Calls Tryz.prog 67 #[.pointer (some ⟨R, 0, none⟩)] W fun x w' => ∃ v, x = .returned v ∧ (v = .bool (decide (m + 1 ≤ 4096)) ∧ Rr w' R s q6 (m + 1) (if m + 1 ≤ 4096 then 0 else 3) ∧ W.grownBy w' (some R))) := fun W hW => (more_any s q6 m 0 R (by have := HM.out; omega) W hW).mono fun x w' hh => ⟨_, hh.1, rfl, hh.2.1, hh.2.2⟩
              generalize hvo : valX raw = vo at HVQ
              have hvo' : unA (blankE (linE raw)) = vo := hvo
              rw [hvo'] at HVAL
              clear hno hvo hvo' hlt hk
              go_wp2_with fail
              refine Calls.mono (HVAL.out _) ?_
              rintro x X8 ⟨rfl, hb⟩
              have HS8 := hid (HS7.out.below hb)
              clear hb
              have HR8 := hid HS8.out.r6
              rw [HNM.out] at HR8
              have HVV : Hid (hcs ⟨nm, vo.getD []⟩ = #[.string NM, .string (asS (vo.getD []))]) := HNN.out _
              generalize asS (vo.getD []) = VV at HVV ⊢
              go_wp2_with (first
                | (refine store_part rfl 9 _ _ rfl W1.heap.size 1 (.string VV) _ _ #[.string NM, .string VV] rfl rfl info9 (by simp) rfl rfl HR8.out rfl ?_)
                | fail)
              intro X9 ho hr
              have HS9 := hid (HS8.out.put6 (u' := ⟨nm, vo.getD []⟩) ho (by rw [HVV.out]; exact hr))
              clear ho hr
              have hL := HAL.out
              rw [HL.out] at hL
              clear hi hrw
              go_wp2_with fail
              go_loopw [9, 12] (fun okv i wr => ∃ k : Nat, k ≤ L ∧ i = .int .i64 (k : Int) ∧ okv = .bool (vo.isSome && freeH al nm k) ∧ Hid (AtS R w.heap.size W1.heap.size w ⟨nm, vo.getD []⟩ s q6 m 0 wr)) (fun _ i _ => L - (intOf i).toNat)
              case atStart => exact ⟨0, Nat.zero_le _, rfl, by simp [freeH], HS9.out⟩
              case round =>
                obtain ⟨k, hk, rfl, rfl, HSK⟩ := hrel
                by_cases hlt : k < L
                · have hi : (k : Int) < (L : Int) := by omega
                  have HFS : Hid (freeH al nm (k + 1) = (freeH al nm k && decide ((al.getD k zeroH).name ≠ nm))) := rfl
                  generalize hF2 : freeH al nm (k + 1) = F2 at HFS
                  have HF2 := hid hF2
                  clear hF2
                  cases hb : (vo.isSome && freeH al nm k) with
                  | false =>
                    have HF : Hid ((vo.isSome && F2) = false) := by
                      show _ = _
                      rw [HFS.out, ← Bool.and_assoc, hb]
                      rfl
                    clear hb
                    go_wp2_with fail
                    go_quiet (fail)
                    go_wp2_with fail
                    go_roundw
                    case rel =>
                      refine ⟨k + 1, by omega, by go_num, ?_, HSK.out.below (below_drewN _ _ _)⟩
                      rw [HF2.out, HF.out]
                    case measure => simp [intOf]; omega
                  | true =>
                    obtain ⟨q0, o0, hq0, hqs, hcs'⟩ := HAT.out wr HSK.out.to (by rw [HL.out]; omega)
                    have hc1 := (hcs' k (by rw [HL.out]; exact hlt)).1
                    have hc2 : wr.cell? ⟨W1.heap.size, 0, none⟩ = some (.string NM) := by
                      have := HSK.out.r6
                      rw [HVV.out] at this
                      exact cell_of_row _ _ _ _ _ _ this
                    have hnq := HNQ.out (al.getD k zeroH).name
                    have hz : decide ((al.getD k zeroH).name ≠ nm) = !decide ((al.getD k zeroH).name = nm) := by simp
                    rw [hz] at HFS
                    clear hcs' hqs hz
                    subst hq0
                    generalize asS (al.getD k zeroH).name = NK at hc1 hnq
                    generalize decide ((al.getD k zeroH).name = nm) = dq at hnq HFS
                    have HF : Hid ((vo.isSome && F2) = !dq) := by
                      show _ = _
                      rw [HFS.out, ← Bool.and_assoc, hb]
                      simp
                    clear hb
                    cases dq
                    all_goals
                      go_wp2_with fail
                      go_quiet (fail)
                      go_wp2_with fail
                      go_roundw
                      case rel =>
                        refine ⟨k + 1, by omega, by go_num, ?_, HSK.out.below (below_drewN _ _ _)⟩
                        rw [HF2.out, HF.out]
                        rfl
                      case measure => simp [intOf]; omega
                · have hi : ¬ (k : Int) < (L : Int) := by omega
                  have hkL : k = al.length := by rw [HL.out]; omega
                  have hfk : freeH al nm k = !(al.map (·.name)).contains nm := by rw [hkL, free_all]
                  rw [hfk]
                  clear hkL hfk hlt hk
                  cases hb : (vo.isSome && !(al.map (·.name)).contains nm) with
                  | false =>
                    have HV : Hid (V = .error 5) := by
                      show _ = _
                      rw [HATT.out, HVQ.out]
                      cases vo with
                      | none => rfl
                      | some v =>
                        simp at hb
                        simp [hb]
                    clear hb
                    have hldHSK := (HSK.out.below (below_drew wr)).ld
                    go_wp2_with fail
                    go_region_law ((first
                      | (refine step_call2 (by rfl) 42 _ _ _ (by rfl) HENwrong.out (.pointer (some ⟨R, 0, none⟩)) (.int .i64 5) (by rfl) (by rfl) ((hid (HWR.out q6)).out wr.drew (HSK.out.below (below_drew wr)).rr) ?_; intro v1 w1 ha; have hv1 := ha.1; subst hv1; have HSB := hid ((HSK.out.below (below_drew wr)).call ha.2.2 ha.2.1); have hldB := HSB.out.ld; have hstB := HSB.out.st; clear ha)
                      | fail))
                    all_goals
                      have HOUTB := hid HSB.out.out
                      generalize putM w1 w.heap.size (hcs ⟨nm, vo.getD []⟩) = YB at hstB HOUTB ⊢
                      go_wp2_with fail
                      refine bodyPost_ret (ret_hd2 (p := 4) (q := 5) Tryz.results68 _ _ w.heap.size _ (0, 0) _ rfl rfl HOUTB.out.2.2) rfl ?_
                      exact ⟨HOUTB.out.1, .inr ⟨5, _, _, _, HV.out, by omega, rfl, HOUTB.out.2.1⟩⟩
                  | true =>
                    obtain ⟨v, hv⟩ : ∃ v, vo = some v := by
                      cases vo with
                      | none => simp at hb
                      | some v => exact ⟨v, rfl⟩
                    subst hv
                    have hct : (al.map (·.name)).contains nm = false := by simpa using hb
                    have hV2 := HATT.out
                    rw [HVQ.out] at hV2
                    simp only [Option.map_some, hct, Bool.false_eq_true, if_false] at hV2
                    clear hb hct
                    have HSV : Hid (AtS R w.heap.size W1.heap.size w ⟨nm, v⟩ s q6 m 0 wr) := HSK.out
                    by_cases hm : m + 1 ≤ 4096
                    · rw [if_pos hm] at hV2 HMO
                      have HV := hid hV2
                      rw [decide_eq_true hm] at HMO
                      have HR6 := hid HRE.out
                      clear hV2 hm
                      have hldHSV := (HSV.out.below (below_drew wr)).ld
                      go_wp2_with fail
                      go_region_law ((first
                        | (refine step_call1 (by rfl) 67 _ _ (by rfl) HENmore.out (.pointer (some ⟨R, 0, none⟩)) (by rfl) (HMO.out wr.drew (HSV.out.below (below_drew wr)).rr) ?_; intro v1 w1 ha; have hv1 := ha.1; subst hv1; have HSB := hid ((HSV.out.below (below_drew wr)).call ha.2.2 ha.2.1); have hldB := HSB.out.ld; have hstB := HSB.out.st; clear ha)
                        | fail))
                      all_goals
                        have HOUTB := hid HSB.out.out
                        generalize putM w1 w.heap.size (hcs ⟨nm, v⟩) = YB at hstB HOUTB ⊢
                        go_wp2_with fail
                        refine bodyPost_ret (ret_hd2 (p := 4) (q := 5) Tryz.results68 _ _ w.heap.size _ (0, 0) _ rfl rfl HOUTB.out.2.2) rfl ?_
                        exact ⟨HOUTB.out.1, .inl ⟨⟨nm, v⟩, q6, m + 1, by rw [HV.out, HR6.out], HQ6.out, rfl, HOUTB.out.2.1⟩⟩
                    · rw [if_neg hm] at hV2 HMO
                      have HV := hid hV2
                      rw [decide_eq_false hm] at HMO
                      clear hV2 hm
                      have hldHSV := (HSV.out.below (below_drew wr)).ld
                      go_wp2_with fail
                      go_region_law ((first
                        | (refine step_call1 (by rfl) 67 _ _ (by rfl) HENmore.out (.pointer (some ⟨R, 0, none⟩)) (by rfl) (HMO.out wr.drew (HSV.out.below (below_drew wr)).rr) ?_; intro v1 w1 ha; have hv1 := ha.1; subst hv1; have HSB := hid ((HSV.out.below (below_drew wr)).call ha.2.2 ha.2.1); have hldB := HSB.out.ld; have hstB := HSB.out.st; clear ha)
                        | fail))
                      all_goals
                        have HOUTB := hid HSB.out.out
                        generalize putM w1 w.heap.size (hcs ⟨nm, v⟩) = YB at hstB HOUTB ⊢
                        go_wp2_with fail
                        refine bodyPost_ret (ret_hd2 (p := 4) (q := 5) Tryz.results68 _ _ w.heap.size _ (0, 0) _ rfl rfl HOUTB.out.2.2) rfl ?_
                        exact ⟨HOUTB.out.1, .inr ⟨3, _, _, _, HV.out, by omega, rfl, HOUTB.out.2.1⟩⟩
        · have HS7 := hid (HS6.out.call hg hr)
          rw [hu] at HVQ
          simp only at HVQ
          have HV : Hid (V = .error 5) := by show _ = _; rw [HATT.out, HVQ.out]
          clear hu hg hr
          have hldHS7 := HS7.out.ld
          have hstHS7 := HS7.out.st
          have HOUTHS7 := hid HS7.out.out
          generalize putM X7 w.heap.size (hcs ⟨nm, []⟩) = YHS7 at hstHS7 HOUTHS7
          go_wp2_with fail
          refine bodyPost_ret (ret_hd2 (p := 4) (q := 5) Tryz.results68 _ _ w.heap.size _ (0, 0) _ rfl rfl HOUTHS7.out.2.2) rfl ?_
          exact ⟨HOUTHS7.out.1, .inr ⟨5, _, _, _, HV.out, by omega, rfl, HOUTHS7.out.2.1⟩⟩
      | false =>
        have HPQ : Hid (∀ W, Rr W R s q4 m 0 → Calls Tryz.prog 63 #[.pointer (some ⟨R, 0, none⟩), .string ⟨#[34]⟩] W fun x w' => x = .returned (.bool (preX [34] (s.drop q4))) ∧ Rr w' R s (if preX [34] (s.drop q4) then q4 + 1 else q4) m 0 ∧ W.grownBy w' (some R)) := fun W hW => past_any s [34] q4 m 0 R (by have := HS.out; omega) (by simp) HQ4.out W hW
        have HB3 := hid hb3
        clear hb3
        go_wp2_with fail
        refine Calls.mono (HPQ.out _ HS5.out.rr) ?_
        rintro x X6 ⟨rfl, hr, hg⟩
        have HS6 := hid (HS5.out.call hg hr)
        clear hg hr
        cases hb4 : preX [34] (s.drop q4) with
        | false =>
          rw [hb4] at HS6
          simp only [Bool.false_eq_true, if_false] at HS6
          have HV : Hid (V = .error 5) := by show _ = _; rw [HATT.out, HNOQ.out hb4 HB3.out]
          clear hb4
          have hldHS6 := (HS6.out.below (below_drew X6)).ld
          go_wp2_with fail
          go_region_law ((first
            | (refine step_call2 (by rfl) 42 _ _ _ (by rfl) HENwrong.out (.pointer (some ⟨R, 0, none⟩)) (.int .i64 5) (by rfl) (by rfl) ((hid (HWR.out q4)).out X6.drew (HS6.out.below (below_drew X6)).rr) ?_; intro v1 w1 ha; have hv1 := ha.1; subst hv1; have HSB := hid ((HS6.out.below (below_drew X6)).call ha.2.2 ha.2.1); have hldB := HSB.out.ld; have hstB := HSB.out.st; clear ha)
            | fail))
          all_goals
            have HOUTB := hid HSB.out.out
            generalize putM w1 w.heap.size (hcs ⟨nm, []⟩) = YB at hstB HOUTB ⊢
            go_wp2_with fail
            refine bodyPost_ret (ret_hd2 (p := 4) (q := 5) Tryz.results68 _ _ w.heap.size _ (0, 0) _ rfl rfl HOUTB.out.2.2) rfl ?_
            exact ⟨HOUTB.out.1, .inr ⟨5, _, _, _, HV.out, by omega, rfl, HOUTB.out.2.1⟩⟩
        | true =>
          rw [hb4] at HS6
          simp only [if_true] at HS6
          have hq5 : q4 + 1 ≤ s.length := by
            have := congrArg List.length (drop_pre hb4)
            simp at this
            have := HQ4.out
            omega
          have HVQ := hid (HQUO.out 34 (by simp) hb4)
          have HUN : Hid (∀ W, Rr W R s (q4 + 1) m 0 → Calls Tryz.prog 64 #[.pointer (some ⟨R, 0, none⟩), .string ⟨#[34]⟩] W fun x w' => W.grownBy w' (some R) ∧
              ((∃ a b, untX [34] (s.drop (q4 + 1)) = some (a, b) ∧ x = .returned (.tuple #[.string (asS a), .bool true]) ∧ Rr w' R s (q4 + 1 + a.length + 1) m 0 ∧ b = s.drop (q4 + 1 + a.length + 1) ∧ q4 + 1 + a.length + 1 ≤ s.length) ∨ (untX [34] (s.drop (q4 + 1)) = none ∧ x = .returned (.tuple #[.string ⟨#[]⟩, .bool false]) ∧ Rr w' R s s.length m 5))) := fun W hW => until_any s [34] (q4 + 1) m 0 R (by have := HS.out; omega) (by simp) (by simp) hq5 W hW
          clear hb4 hq5
          go_wp2_with fail
          refine Calls.mono (HUN.out _ HS6.out.rr) ?_
          rintro x X7 ⟨hg, hx⟩
          rcases hx with ⟨raw, rest, hu, rfl, hr, hrest, hq6⟩ | ⟨hu, rfl, hr⟩
          · have HS7 := hid (HS6.out.call hg hr)
            rw [hu] at HVQ
            simp only at HVQ
            have HRAW : Hid (raw.length ≤ 100000) := by show _ ≤ _; have := HS.out; omega
            generalize hq6e : q4 + 1 + raw.length + 1 = q6 at HS7 hrest hq6
            have HRE := hid hrest
            have HQ6 := hid hq6
            have HSZ := hid (asS_size raw)
            have HIX := hid (fun k h W => str_ix (asS raw) k h W)
            rw [asS_data] at HIX
            have HVAL := hid (fun W => refValue_any raw HRAW.out W)
            clear hu hg hr hrest hq6 hq6e
            have hsz := HSZ.out
            generalize asS raw = RW at hsz HIX HVAL
            rw [← hsz] at HRAW
            have hrw := HRAW.out
            have HLN := hid hsz.symm
            clear hsz HSZ
            go_wp2_with fail
            go_loop [10] (fun i => ∃ k : Nat, k ≤ RW.size ∧ i = .int .i64 (k : Int) ∧ Hid (∀ j, j < k → raw.getD j 0 ≠ 60)) (fun i => RW.size - (intOf i).toNat)
            case atStart => exact ⟨0, Nat.zero_le _, rfl, fun j hj => by omega⟩
            case round =>
              obtain ⟨k, hk, rfl, HPF⟩ := hrel
              by_cases hlt : k < RW.size
              · have hi : (k : Int) < (RW.size : Int) := by omega
                have hix := HIX.out k hlt
                by_cases hc : raw.getD k 0 = 60
                · have HV : Hid (V = .error 5) := by
                    show _ = _
                    have := getD_lt (l := raw) (k := k) (by rw [HLN.out]; exact hlt) hc
                    rw [HATT.out, HVQ.out, this]
                    rfl
                  rw [hc] at hix
                  clear hc
                  have hldHS7 := (HS7.out.below (below_drew X7)).ld
                  go_wp2_with fail
                  go_region_law ((first
                    | (refine step_call2 (by rfl) 42 _ _ _ (by rfl) HENwrong.out (.pointer (some ⟨R, 0, none⟩)) (.int .i64 5) (by rfl) (by rfl) ((hid (HWR.out q6)).out X7.drew (HS7.out.below (below_drew X7)).rr) ?_; intro v1 w1 ha; have hv1 := ha.1; subst hv1; have HSB := hid ((HS7.out.below (below_drew X7)).call ha.2.2 ha.2.1); have hldB := HSB.out.ld; have hstB := HSB.out.st; clear ha)
                    | fail))
                  all_goals
                    have HOUTB := hid HSB.out.out
                    generalize putM w1 w.heap.size (hcs ⟨nm, []⟩) = YB at hstB HOUTB ⊢
                    go_wp2_with fail
                    refine bodyPost_ret (ret_hd2 (p := 4) (q := 5) Tryz.results68 _ _ w.heap.size _ (0, 0) _ rfl rfl HOUTB.out.2.2) rfl ?_
                    exact ⟨HOUTB.out.1, .inr ⟨5, _, _, _, HV.out, by omega, rfl, HOUTB.out.2.1⟩⟩
                · have hcb : (((raw.getD k 0).toNat : Int) == 60) = false := by
                    rw [beq_eq_false_iff_ne]
                    intro e
                    exact hc (UInt8.toNat_inj.1 (by show _ = 60; omega))
                  have HP2 : Hid (∀ j, j < k + 1 → raw.getD j 0 ≠ 60) := fun j hj => by
                    rcases Nat.lt_succ_iff_lt_or_eq.1 hj with h1 | h1
                    · exact HPF.out j h1
                    · rw [h1]; exact hc
                  clear hc
                  generalize raw.getD k 0 = y at hix hcb
                  go_wp2_with fail
                  go_round
                  case rel => exact ⟨k + 1, by omega, by go_num, HP2.out⟩
                  case measure => simp [intOf]; omega
              · have hi : ¬ (k : Int) < (RW.size : Int) := by omega
                have hno : raw.contains 60 = false := all_lt (fun j hj => HPF.out j (by rw [HLN.out] at hj; omega))
                rw [hno] at HVQ
                simp only [Bool.false_eq_true, if_false] at HVQ
                have HMO : Hid (∀ W, Rr W R s q6 m 0 → Calls Tryz.prog 67 #[.pointer (some ⟨R, 0, none⟩)] W fun x w' => ∃ v, x = .returned v ∧ (v = .bool (decide (m + 1 ≤ 4096)) ∧ Rr w' R s q6 (m + 1) (if m + 1 ≤ 4096 then 0 else 3) ∧ W.grownBy w' (some R))) := fun W hW => (more_any s q6 m 0 R (by have := HM.out; omega) W hW).mono fun x w' hh => ⟨_, hh.1, rfl, hh.2.1, hh.2.2⟩
                generalize hvo : valX raw = vo at HVQ
                have hvo' : unA (blankE (linE raw)) = vo := hvo
                rw [hvo'] at HVAL
                clear hno hvo hvo' hlt hk
                go_wp2_with fail
                refine Calls.mono (HVAL.out _) ?_
                rintro x X8 ⟨rfl, hb⟩
                have HS8 := hid (HS7.out.below hb)
                clear hb
                have HR8 := hid HS8.out.r6
                rw [HNM.out] at HR8
                have HVV : Hid (hcs ⟨nm, vo.getD []⟩ = #[.string NM, .string (asS (vo.getD []))]) := HNN.out _
                generalize asS (vo.getD []) = VV at HVV ⊢
                go_wp2_with (first
                  | (refine store_part rfl 9 _ _ rfl W1.heap.size 1 (.string VV) _ _ #[.string NM, .string VV] rfl rfl info9 (by simp) rfl rfl HR8.out rfl ?_)
                  | fail)
                intro X9 ho hr
                have HS9 := hid (HS8.out.put6 (u' := ⟨nm, vo.getD []⟩) ho (by rw [HVV.out]; exact hr))
                clear ho hr
                have hL := HAL.out
                rw [HL.out] at hL
                clear hi hrw
                go_wp2_with fail
                go_loopw [9, 12] (fun okv i wr => ∃ k : Nat, k ≤ L ∧ i = .int .i64 (k : Int) ∧ okv = .bool (vo.isSome && freeH al nm k) ∧ Hid (AtS R w.heap.size W1.heap.size w ⟨nm, vo.getD []⟩ s q6 m 0 wr)) (fun _ i _ => L - (intOf i).toNat)
                case atStart => exact ⟨0, Nat.zero_le _, rfl, by simp [freeH], HS9.out⟩
                case round =>
                  obtain ⟨k, hk, rfl, rfl, HSK⟩ := hrel
                  by_cases hlt : k < L
                  · have hi : (k : Int) < (L : Int) := by omega
                    have HFS : Hid (freeH al nm (k + 1) = (freeH al nm k && decide ((al.getD k zeroH).name ≠ nm))) := rfl
                    generalize hF2 : freeH al nm (k + 1) = F2 at HFS
                    have HF2 := hid hF2
                    clear hF2
                    cases hb : (vo.isSome && freeH al nm k) with
                    | false =>
                      have HF : Hid ((vo.isSome && F2) = false) := by
                        show _ = _
                        rw [HFS.out, ← Bool.and_assoc, hb]
                        rfl
                      clear hb
                      go_wp2_with fail
                      go_quiet (fail)
                      go_wp2_with fail
                      go_roundw
                      case rel =>
                        refine ⟨k + 1, by omega, by go_num, ?_, HSK.out.below (below_drewN _ _ _)⟩
                        rw [HF2.out, HF.out]
                      case measure => simp [intOf]; omega
                    | true =>
                      obtain ⟨q0, o0, hq0, hqs, hcs'⟩ := HAT.out wr HSK.out.to (by rw [HL.out]; omega)
                      have hc1 := (hcs' k (by rw [HL.out]; exact hlt)).1
                      have hc2 : wr.cell? ⟨W1.heap.size, 0, none⟩ = some (.string NM) := by
                        have := HSK.out.r6
                        rw [HVV.out] at this
                        exact cell_of_row _ _ _ _ _ _ this
                      have hnq := HNQ.out (al.getD k zeroH).name
                      have hz : decide ((al.getD k zeroH).name ≠ nm) = !decide ((al.getD k zeroH).name = nm) := by simp
                      rw [hz] at HFS
                      clear hcs' hqs hz
                      subst hq0
                      generalize asS (al.getD k zeroH).name = NK at hc1 hnq
                      generalize decide ((al.getD k zeroH).name = nm) = dq at hnq HFS
                      have HF : Hid ((vo.isSome && F2) = !dq) := by
                        show _ = _
                        rw [HFS.out, ← Bool.and_assoc, hb]
                        simp
                      clear hb
                      cases dq
                      all_goals
                        go_wp2_with fail
                        go_quiet (fail)
                        go_wp2_with fail
                        go_roundw
                        case rel =>
                          refine ⟨k + 1, by omega, by go_num, ?_, HSK.out.below (below_drewN _ _ _)⟩
                          rw [HF2.out, HF.out]
                          rfl
                        case measure => simp [intOf]; omega
                  · have hi : ¬ (k : Int) < (L : Int) := by omega
                    have hkL : k = al.length := by rw [HL.out]; omega
                    have hfk : freeH al nm k = !(al.map (·.name)).contains nm := by rw [hkL, free_all]
                    rw [hfk]
                    clear hkL hfk hlt hk
                    cases hb : (vo.isSome && !(al.map (·.name)).contains nm) with
                    | false =>
                      have HV : Hid (V = .error 5) := by
                        show _ = _
                        rw [HATT.out, HVQ.out]
                        cases vo with
                        | none => rfl
                        | some v =>
                          simp at hb
                          simp [hb]
                      clear hb
                      have hldHSK := (HSK.out.below (below_drew wr)).ld
                      go_wp2_with fail
                      go_region_law ((first
                        | (refine step_call2 (by rfl) 42 _ _ _ (by rfl) HENwrong.out (.pointer (some ⟨R, 0, none⟩)) (.int .i64 5) (by rfl) (by rfl) ((hid (HWR.out q6)).out wr.drew (HSK.out.below (below_drew wr)).rr) ?_; intro v1 w1 ha; have hv1 := ha.1; subst hv1; have HSB := hid ((HSK.out.below (below_drew wr)).call ha.2.2 ha.2.1); have hldB := HSB.out.ld; have hstB := HSB.out.st; clear ha)
                        | fail))
                      all_goals
                        have HOUTB := hid HSB.out.out
                        generalize putM w1 w.heap.size (hcs ⟨nm, vo.getD []⟩) = YB at hstB HOUTB ⊢
                        go_wp2_with fail
                        refine bodyPost_ret (ret_hd2 (p := 4) (q := 5) Tryz.results68 _ _ w.heap.size _ (0, 0) _ rfl rfl HOUTB.out.2.2) rfl ?_
                        exact ⟨HOUTB.out.1, .inr ⟨5, _, _, _, HV.out, by omega, rfl, HOUTB.out.2.1⟩⟩
                    | true =>
                      obtain ⟨v, hv⟩ : ∃ v, vo = some v := by
                        cases vo with
                        | none => simp at hb
                        | some v => exact ⟨v, rfl⟩
                      subst hv
                      have hct : (al.map (·.name)).contains nm = false := by simpa using hb
                      have hV2 := HATT.out
                      rw [HVQ.out] at hV2
                      simp only [Option.map_some, hct, Bool.false_eq_true, if_false] at hV2
                      clear hb hct
                      have HSV : Hid (AtS R w.heap.size W1.heap.size w ⟨nm, v⟩ s q6 m 0 wr) := HSK.out
                      by_cases hm : m + 1 ≤ 4096
                      · rw [if_pos hm] at hV2 HMO
                        have HV := hid hV2
                        rw [decide_eq_true hm] at HMO
                        have HR6 := hid HRE.out
                        clear hV2 hm
                        have hldHSV := (HSV.out.below (below_drew wr)).ld
                        go_wp2_with fail
                        go_region_law ((first
                          | (refine step_call1 (by rfl) 67 _ _ (by rfl) HENmore.out (.pointer (some ⟨R, 0, none⟩)) (by rfl) (HMO.out wr.drew (HSV.out.below (below_drew wr)).rr) ?_; intro v1 w1 ha; have hv1 := ha.1; subst hv1; have HSB := hid ((HSV.out.below (below_drew wr)).call ha.2.2 ha.2.1); have hldB := HSB.out.ld; have hstB := HSB.out.st; clear ha)
                          | fail))
                        all_goals
                          have HOUTB := hid HSB.out.out
                          generalize putM w1 w.heap.size (hcs ⟨nm, v⟩) = YB at hstB HOUTB ⊢
                          go_wp2_with fail
                          refine bodyPost_ret (ret_hd2 (p := 4) (q := 5) Tryz.results68 _ _ w.heap.size _ (0, 0) _ rfl rfl HOUTB.out.2.2) rfl ?_
                          exact ⟨HOUTB.out.1, .inl ⟨⟨nm, v⟩, q6, m + 1, by rw [HV.out, HR6.out], HQ6.out, rfl, HOUTB.out.2.1⟩⟩
                      · rw [if_neg hm] at hV2 HMO
                        have HV := hid hV2
                        rw [decide_eq_false hm] at HMO
                        clear hV2 hm
                        have hldHSV := (HSV.out.below (below_drew wr)).ld
                        go_wp2_with fail
                        go_region_law ((first
                          | (refine step_call1 (by rfl) 67 _ _ (by rfl) HENmore.out (.pointer (some ⟨R, 0, none⟩)) (by rfl) (HMO.out wr.drew (HSV.out.below (below_drew wr)).rr) ?_; intro v1 w1 ha; have hv1 := ha.1; subst hv1; have HSB := hid ((HSV.out.below (below_drew wr)).call ha.2.2 ha.2.1); have hldB := HSB.out.ld; have hstB := HSB.out.st; clear ha)
                          | fail))
                        all_goals
                          have HOUTB := hid HSB.out.out
                          generalize putM w1 w.heap.size (hcs ⟨nm, v⟩) = YB at hstB HOUTB ⊢
                          go_wp2_with fail
                          refine bodyPost_ret (ret_hd2 (p := 4) (q := 5) Tryz.results68 _ _ w.heap.size _ (0, 0) _ rfl rfl HOUTB.out.2.2) rfl ?_
                          exact ⟨HOUTB.out.1, .inr ⟨3, _, _, _, HV.out, by omega, rfl, HOUTB.out.2.1⟩⟩
          · have HS7 := hid (HS6.out.call hg hr)
            rw [hu] at HVQ
            simp only at HVQ
            have HV : Hid (V = .error 5) := by show _ = _; rw [HATT.out, HVQ.out]
            clear hu hg hr
            have hldHS7 := HS7.out.ld
            have hstHS7 := HS7.out.st
            have HOUTHS7 := hid HS7.out.out
            generalize putM X7 w.heap.size (hcs ⟨nm, []⟩) = YHS7 at hstHS7 HOUTHS7
            go_wp2_with fail
            refine bodyPost_ret (ret_hd2 (p := 4) (q := 5) Tryz.results68 _ _ w.heap.size _ (0, 0) _ rfl rfl HOUTHS7.out.2.2) rfl ?_
            exact ⟨HOUTHS7.out.1, .inr ⟨5, _, _, _, HV.out, by omega, rfl, HOUTHS7.out.2.1⟩⟩
end Go.Proofs.YthjibliaofmlhaaGreatDoor
