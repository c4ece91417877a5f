
/- Headers read: what the reference's Parse does. -/
import Derived.Test.YtclonnpglikddaaGreatDoorHdOne
import Derived.Test.YtclonnpglikddaaGreatDoorHdParse
namespace Go.Proofs.YtclonnpglikddaaGreatDoor
set_option linter.unusedVariables false
set_option linter.unusedSimpArgs false
open Go.RowKit Go.BigFrame

theorem one_any (l : List UInt8) (hl : l.length ≤ 1000000) (w : World) : Calls Tryz.prog 79 #[.string (asS l)] w fun e w' => e = .returned (.tuple #[.agg (hcs (oneV l)), .bool (oneB l)]) ∧ Below w.heap.size w w' := by
  rcases first_dec 58 l with hno | ⟨a, x, rfl, hno⟩
  · exact one_no l hl hno w
  · obtain ⟨A, Z, hp⟩ := parts9 a x hno
    have := one_parts _ _ A Z a (trimH x) hp hl w
    rw [(oneV_at a x hno).1, (oneV_at a x hno).2]
    exact this
theorem drop_at (b : List UInt8) (fr j : Nat) : (b.drop fr).getD j 0 = b.getD (fr + j) 0 := by simp [List.getD_eq_getElem?_getD]
theorem scan_step (b : List UInt8) (fr i : Nat) (h : fr ≤ i) (hi : i < b.length) (hno : (10 : UInt8) ∉ (b.drop fr).take (i - fr)) (hne : b.getD i 0 ≠ 10) : (10 : UInt8) ∉ (b.drop fr).take (i + 1 - fr) := by
  rw [show i + 1 - fr = (i - fr) + 1 from by omega, take_snoc _ _ (by rw [List.length_drop]; omega), drop_at, show fr + (i - fr) = i from by omega]
  simp only [List.mem_append, List.mem_singleton, not_or]
  exact ⟨hno, fun e => hne e.symm⟩
theorem scan_line (b : List UInt8) (fr i : Nat) (h : fr ≤ i) (hi : i < b.length) (hno : (10 : UInt8) ∉ (b.drop fr).take (i - fr)) (he : b.getD i 0 = 10) : LineAt b fr ((b.drop fr).take (i - fr)) ∧ ((b.drop fr).take (i - fr)).length = i - fr := by
  have hl : ((b.drop fr).take (i - fr)).length = i - fr := by rw [List.length_take, List.length_drop]; omega
  refine ⟨⟨hno, ?_⟩, hl⟩
  rw [hl, show fr + (i - fr) + 1 = i + 1 from by omega]
  have e1 : b.drop i = 10 :: b.drop (i + 1) := by rw [drop8 b i hi, he]
  rw [← e1]
  conv => lhs; rw [← List.take_append_drop (i - fr) (b.drop fr)]
  rw [List.drop_drop, show fr + (i - fr) = i from by omega]
theorem last_take (b : List UInt8) (fr i : Nat) (h : fr < i) (hi : i ≤ b.length) : ((b.drop fr).take (i - fr)).getLastD 0 = b.getD (i - 1) 0 ∧ ((b.drop fr).take (i - fr)).dropLast = (b.drop fr).take (i - 1 - fr) := by
  have e : (b.drop fr).take (i - fr) = (b.drop fr).take (i - 1 - fr) ++ [b.getD (i - 1) 0] := by
    rw [show i - fr = (i - 1 - fr) + 1 from by omega, take_snoc _ _ (by rw [List.length_drop]; omega), drop_at, show fr + (i - 1 - fr) = i - 1 from by omega]
  rw [e]
  refine ⟨?_, ?_⟩
  · rw [List.getLastD_eq_getLast?, List.getLast?_append]; rfl
  · rw [List.dropLast_concat]
theorem cr_yes (b : List UInt8) (fr i : Nat) (h : fr < i) (hi : i ≤ b.length) (h13 : b.getD (i - 1) 0 = 13) : crH ((b.drop fr).take (i - fr)) = (b.drop fr).take (i - 1 - fr) := by
  obtain ⟨h1, h2⟩ := last_take b fr i h hi
  unfold crH
  rw [h1, if_pos h13, h2]
theorem cr_not (b : List UInt8) (fr i : Nat) (h : fr < i) (hi : i ≤ b.length) (h13 : b.getD (i - 1) 0 ≠ 13) : crH ((b.drop fr).take (i - fr)) = (b.drop fr).take (i - fr) := by
  obtain ⟨h1, h2⟩ := last_take b fr i h hi
  unfold crH
  rw [h1, if_neg h13]
/-- What a line's end at i, with the line to E, makes of the rest. -/
structure StepH (b : List UInt8) (P : List HdV × Nat × Int) (fr i E : Nat) (out : List HdV) : Prop where
  fe : fr ≤ E
  ei : E ≤ i
  far : 8192 < i + 1 → P = ([], 0, 3)
  done : i + 1 ≤ 8192 → E = fr → P = (out, i + 1, 0)
  bad : i + 1 ≤ 8192 → fr < E → oneB ((b.drop fr).take (E - fr)) = false → P = ([], 0, 5)
  many : i + 1 ≤ 8192 → fr < E → oneB ((b.drop fr).take (E - fr)) = true → out.length = 64 → P = ([], 0, 3)
  on : i + 1 ≤ 8192 → fr < E → oneB ((b.drop fr).take (E - fr)) = true → ¬ out.length = 64 → LeadsH b (i + 1) (out ++ [oneV ((b.drop fr).take (E - fr))])
theorem step_of (b : List UInt8) (fr i E : Nat) (out : List HdV) (h : LeadsH b fr out) (hfi : fr ≤ i) (hi : i < b.length) (hno : (10 : UInt8) ∉ (b.drop fr).take (i - fr)) (he : b.getD i 0 = 10) (hE1 : fr ≤ E) (hE2 : E ≤ i) (hcr : crH ((b.drop fr).take (i - fr)) = (b.drop fr).take (E - fr)) : StepH b (parseH b) fr i E out := by
  obtain ⟨hl, hlen⟩ := scan_line b fr i hfi hi hno he
  have e1 : fr + ((b.drop fr).take (i - fr)).length + 1 = i + 1 := by rw [hlen]; omega
  have hE : ((b.drop fr).take (E - fr)).length = E - fr := by rw [List.length_take, List.length_drop]; omega
  have hnil : fr < E → ¬ crH ((b.drop fr).take (i - fr)) = [] := fun h1 h2 => by
    rw [hcr] at h2
    have := congrArg List.length h2
    rw [hE] at this
    simp at this
    omega
  refine ⟨hE1, hE2, fun h1 => h.far hl (by rw [e1]; exact h1), fun h1 h2 => ?_, fun h1 h2 h3 => ?_, fun h1 h2 h3 h4 => ?_, fun h1 h2 h3 h4 => ?_⟩
  · have := h.end hl (by rw [e1]; exact h1) (by rw [hcr, h2, Nat.sub_self, List.take_zero])
    rw [e1] at this
    exact this
  · exact h.bad hl (by rw [e1]; exact h1) (hnil h2) (by rw [hcr]; exact h3)
  · exact h.many hl (by rw [e1]; exact h1) (hnil h2) (by rw [hcr]; exact h3) h4
  · have := h.on hl (by rw [e1]; exact h1) (hnil h2) (by rw [hcr]; exact h3) h4
    rw [e1, hcr] at this
    exact this
theorem step_first (b : List UInt8) (i : Nat) (out : List HdV) (h : LeadsH b i out) (hi : i < b.length) (he : b.getD i 0 = 10) : StepH b (parseH b) i i i out :=
  step_of b i i i out h (Nat.le_refl _) hi (by rw [Nat.sub_self, List.take_zero]; simp) he (Nat.le_refl _) (Nat.le_refl _) (by rw [Nat.sub_self, List.take_zero]; rfl)
set_option maxHeartbeats 8000000 in
set_option maxRecDepth 100000 in
theorem refParse_any (b : List UInt8) (A : Option Addr) (c : Nat) (hb : b.length ≤ 1000000) (hc : b.length ≤ c) (w : World) (hA : BytesAt w A b) : Calls Tryz.prog 50 #[.slice A b.length c] w fun e w' => ∃ v, e = .returned (.tuple #[v, .int .i64 (parseH b).2.1, .int .i64 (parseH b).2.2]) ∧ OwnH w' w.heap.size v (parseH b).1 ∧ Below w.heap.size w w' := by
  have HA := hid hA
  have HLZ := hid (leads_zero b)
  have HNONE : Hid (∀ fr out, LeadsH b fr out → fr ≤ b.length → (10 : UInt8) ∉ (b.drop fr).take (b.length - fr) → parseH b = ([], 0, if 8192 < b.length then 3 else 10)) := fun fr out h1 h2 h3 => h1.none h2 (by rw [List.take_of_length_le (by rw [List.length_drop]; exact Nat.le_refl _)] at h3; exact h3)
  have HSS := hid (scan_step b)
  have HSF := hid (step_first b)
  have HSO := hid (step_of b)
  have HCY := hid (cr_yes b)
  have HCN := hid (cr_not b)
  have HONE := hid (fun x hx W => one_any x hx W)
  have HBL : Hid (∀ x E, ((b.drop x).take (E - x)).length ≤ b.length) := fun x E => by rw [List.length_take, List.length_drop]; omega
  clear hA
  generalize hP : parseH b = P at HNONE HSF HSO ⊢
  clear hP
  generalize hn : b.length = n at hb hc HNONE HSS HSF HSO HCY HCN HBL ⊢
  have HN := hid hn
  clear hn
  go_enter Tryz.func50, Tryz.ntmps50
  go_wp2_with fail
  have HB0 := hid (alloc_below (Below.refl w.heap.size w) (Nat.le_refl _) (.cells #[] 69))
  have HO0 : Hid (OwnH (w.alloc (.cells #[] 69)) w.heap.size (.slice (some ⟨w.heap.size, 0, none⟩) 0 0) []) := .inr ⟨_, 0, rfl, OwnK.zero w 2 69 w.heap.size (Nat.le_refl _)⟩
  go_loopw [5, 6, 7] (fun v f j wr => ∃ fr i : Nat, f = .int .i64 (fr : Int) ∧ j = .int .i64 (i : Int) ∧ ∃ out, Hid (fr ≤ i ∧ i ≤ n ∧ out.length ≤ 64) ∧ Hid ((10 : UInt8) ∉ (b.drop fr).take (i - fr)) ∧ Hid (LeadsH b fr out) ∧ Hid (OwnH wr w.heap.size v out) ∧ Hid (Below w.heap.size w wr)) (fun v f j wr => n - (intOf j).toNat)
  case atStart => exact ⟨0, 0, rfl, rfl, [], ⟨Nat.le_refl _, Nat.zero_le _, by simp⟩, hid (by simp), HLZ, HO0, HB0⟩
  case round =>
    obtain ⟨fr, i, rfl, rfl, out, HBD, HNO, HLD, HO, HB⟩ := hrel
    obtain ⟨AV, cv, hv⟩ := HO.out.shape
    subst hv
    have hfi := HBD.out.1
    have hin := HBD.out.2.1
    by_cases hlt : i < n
    · have hi : (i : Int) < (n : Int) := by omega
      obtain ⟨q, o, hq, hqs, hcs⟩ := HA.out (by have := HN.out; omega)
      subst hq
      have HC : Hid (∀ W j, Below w.heap.size w W → j < n → W.cell? ⟨q, o + j, none⟩ = some (.int .u8 (b.getD j 0).toNat)) := fun W j hW hj => (hW.cell (p := ⟨q, o + j, none⟩) hqs).trans (hcs j (by have := HN.out; omega))
      have HPART : Hid (∀ W E, Below w.heap.size w W → fr ≤ E → E ≤ n → BytesAt W (some ⟨q, o + fr, none⟩) ((b.drop fr).take (E - fr))) := fun W E hW h1 h2 => (HA.out.part fr (E - fr) (by have := HN.out; omega)).below hW (Nat.le_refl _)
      have k1 := HC.out wr i HB.out hlt
      clear hcs hqs
      have h10 : ((((b.getD i 0).toNat : Int)) == 10) = (b.getD i 0 == 10) := u8_beq (b.getD i 0) 10 (by decide)
      by_cases hx : b.getD i 0 = 10
      · have hne : ((((b.getD i 0).toNat : Int)) != 10) = false := by rw [bne, h10, hx]; rfl
        clear h10
        by_cases hfar : 8192 < i + 1
        · have HPE : Hid (P = ([], 0, 3)) := by
            have hd : StepH b P fr i i out ∨ ∃ E, StepH b P fr i E out := by
              rcases Nat.eq_or_lt_of_le hfi with rfl | hlt2
              · exact .inl (HSF.out fr out HLD.out hlt hx)
              · refine .inr ?_
                by_cases h13 : b.getD (i - 1) 0 = 13
                · exact ⟨i - 1, HSO.out fr i (i - 1) out HLD.out hfi hlt HNO.out hx (by omega) (by omega) (HCY.out fr i hlt2 (by omega) h13)⟩
                · exact ⟨i, HSO.out fr i i out HLD.out hfi hlt HNO.out hx hfi (Nat.le_refl _) (HCN.out fr i hlt2 (by omega) h13)⟩
            rcases hd with h | ⟨E, h⟩
            · exact h.far hfar
            · exact h.far hfar
          have hf1 : (8192 : Int) < (i : Int) + 1 := by omega
          generalize (b.getD i 0).toNat = y at k1 hne
          clear hx
          go_wp2_with fail
          go_ret3
          exact ⟨_, by rw [HPE.out]; rfl, by rw [HPE.out]; exact .inl ⟨rfl, rfl⟩, HB.out⟩
        · have hf1 : ¬ (8192 : Int) < (i : Int) + 1 := by omega
          have hf2 : i + 1 ≤ 8192 := by omega
          rcases Nat.eq_or_lt_of_le hfi with hfe | hlt2
          · subst hfe
            have HPE : Hid (P = (out, fr + 1, 0)) := (HSF.out fr out HLD.out hlt hx).done hf2 rfl
            have hg : ¬ (fr : Int) < (fr : Int) := by omega
            have he : ((fr : Int) == (fr : Int)) = true := by simp
            generalize (b.getD fr 0).toNat = y at k1 hne
            generalize hOL : out.length = L at HO
            clear hx hOL hfar
            go_wp2_with fail
            go_ret3
            refine ⟨.slice AV L cv, ?_, ?_, HB.out⟩
            · rw [HPE.out]; rfl
            · rw [HPE.out]; exact HO.out
          · have hg : (fr : Int) < (i : Int) := by omega
            have h13e : ((((b.getD (i - 1) 0).toNat : Int)) == 13) = (b.getD (i - 1) 0 == 13) := u8_beq (b.getD (i - 1) 0) 13 (by decide)
            have k2 := HC.out wr (i - 1) HB.out (by omega)
            by_cases h13 : b.getD (i - 1) 0 = 13
            · have HST := hid (HSO.out fr i (i - 1) out HLD.out hfi hlt HNO.out hx (by omega) (by omega) (HCY.out fr i hlt2 (by omega) h13))
              rw [h13] at h13e
              rw [h13] at k2
              have h13b : ((13 : Int) == 13) = true := rfl
              obtain ⟨E, hE⟩ : ∃ E, E = i - 1 := ⟨_, rfl⟩
              rw [← hE] at HST k2
              have hEI : (i : Int) - 1 = (E : Int) := by omega
              have hEn : E ≤ n := by omega
              have hEf : fr ≤ E := by omega
              generalize (b.getD i 0).toNat = y at k1 hne
              clear h13e h13 hE hx
              by_cases hEf2 : E = fr
              · have HPE : Hid (P = (out, i + 1, 0)) := HST.out.done hf2 hEf2
                have heq : ((E : Int) == (fr : Int)) = true := by rw [beq_iff_eq]; omega
                generalize hOL : out.length = L at HO
                clear hOL hfar hEf2
                go_wp2_with fail
                go_ret3
                refine ⟨.slice AV L cv, ?_, ?_, HB.out⟩
                · rw [HPE.out]; rfl
                · rw [HPE.out]; exact HO.out
              · have heq : ((E : Int) == (fr : Int)) = false := by rw [beq_eq_false_iff_ne]; omega
                have hlo : (0 : Int) ≤ (fr : Int) := by omega
                have hle : (fr : Int) ≤ (E : Int) := by omega
                have hec : (E : Int) ≤ (c : Int) := by omega
                have hcf : ¬ c = fr := by omega
                have hpos : fr < E := by omega
                have HXL := hid (HBL.out fr E)
                have HONE2 := hid (fun W => HONE.out ((b.drop fr).take (E - fr)) (Nat.le_trans HXL.out hb) W)
                have HBAD2 := hid (HST.out.bad hf2 hpos)
                have HMANY2 := hid (HST.out.many hf2 hpos)
                have HON2 := hid (HST.out.on hf2 hpos)
                have HSTR : Hid (∀ W, Below w.heap.size w W → (convert 23 9 (.slice (some ⟨q, o + fr, none⟩) (E - fr) (c - fr))).run Tryz.prog W = .ok (.string (asS ((b.drop fr).take (E - fr)))) W) := fun W hW => str_part (HPART.out W E hW (by omega) (by omega)) (by rw [List.length_take, List.length_drop, HN.out]; omega)
                have hst := HSTR.out wr HB.out
                generalize (b.drop fr).take (E - fr) = cr at HONE2 HBAD2 HMANY2 HON2 hst
                unfold hcs at HONE2
                generalize hNm : asS (oneV cr).name = Nm at HONE2
                generalize hVl : asS (oneV cr).value = Vl at HONE2
                have HNm := hid hNm
                have HVl := hid hVl
                generalize asS cr = S at HONE2 hst
                generalize oneB cr = ok at HONE2 HBAD2 HMANY2 HON2
                generalize hOL : out.length = L at HO HMANY2 HON2
                have HOL := hid hOL
                have hL64 : L ≤ 64 := by have := HBD.out.2.2; omega
                clear hNm hVl hOL hEf2 hpos HST hfar
                cases ok
                · have HPE := hid (HBAD2.out (by trivial))
                  go_wp2_with fail
                  refine (HONE2.out _).mono ?_
                  rintro e W4 ⟨rfl, hb4⟩
                  have HB4 := hid (HB.out.trans (hb4.mono HB.out.size))
                  have HB5 := hid (alloc_below HB4.out HB4.out.size (.cells #[.string Nm, .string Vl] 69))
                  clear hb4 hst k1 k2
                  go_wp2_with fail
                  go_ret3
                  exact ⟨_, by rw [HPE.out]; rfl, by rw [HPE.out]; exact .inl ⟨rfl, rfl⟩, HB5.out⟩
                · by_cases hL : L = 64
                  · have HPE := hid (HMANY2.out (by trivial) hL)
                    have hL1 : ((L : Int) == 64) = true := by rw [hL]; rfl
                    clear hL
                    go_wp2_with fail
                    refine (HONE2.out _).mono ?_
                    rintro e W4 ⟨rfl, hb4⟩
                    have HB4 := hid (HB.out.trans (hb4.mono HB.out.size))
                    have HB5 := hid (alloc_below HB4.out HB4.out.size (.cells #[.string Nm, .string Vl] 69))
                    clear hb4 hst k1 k2
                    go_wp2_with fail
                    go_ret3
                    exact ⟨_, by rw [HPE.out]; rfl, by rw [HPE.out]; exact .inl ⟨rfl, rfl⟩, HB5.out⟩
                  · have HLN := hid (HON2.out (by trivial) hL)
                    have hL1 : ((L : Int) == 64) = false := by rw [beq_eq_false_iff_ne]; omega
                    have hL2 : L < 64 := by omega
                    clear hL
                    go_wp2_with fail
                    refine (HONE2.out _).mono ?_
                    rintro e W4 ⟨rfl, hb4⟩
                    have HB4 := hid (HB.out.trans (hb4.mono HB.out.size))
                    have HO4 := hid ((HO.out.below hb4).below (alloc_below (Below.refl _ W4) (Nat.le_refl _) (.cells #[.string Nm, .string Vl] 69)))
                    have HB5 := hid (alloc_below HB4.out HB4.out.size (.cells #[.string Nm, .string Vl] 69))
                    have q1 : (W4.alloc (.cells #[.string Nm, .string Vl] 69)).cell? ⟨W4.heap.size, 0, none⟩ = some (.string Nm) := cell_of_row _ _ _ _ _ _ (heap_alloc_new W4 _)
                    have q2 : (W4.alloc (.cells #[.string Nm, .string Vl] 69)).cell? ⟨W4.heap.size, 1, none⟩ = some (.string Vl) := cell_of_row _ _ _ _ _ _ (heap_alloc_new W4 _)
                    have HSR := hid (src_hd (W4.alloc (.cells #[.string Nm, .string Vl] 69)) (oneV cr) Nm Vl HNm.out.symm HVl.out.symm 1)
                    rw [show (W4.alloc (.cells #[.string Nm, .string Vl] 69)).heap.size = W4.heap.size + 1 from by simp] at HSR
                    have HO6 := hid (HO4.out.below (alloc_below (Below.refl _ (W4.alloc (.cells #[.string Nm, .string Vl] 69))) (Nat.le_refl _) (.cells #[.string Nm, .string Vl] 69)))
                    have HB6 := hid (alloc_below HB5.out HB5.out.size (.cells #[.string Nm, .string Vl] 69))
                    have HLE : Hid (out.length + [oneV cr].length ≤ 1000000) := by show _ ≤ _; rw [HOL.out]; simp; omega
                    clear hb4 hst k1 k2
                    go_wp2_with (first
                      | (refine wpList_hd rfl _ _ rfl w.heap.size _ _ out [oneV cr] rfl rfl HO6.out HSR.out (by simp) HLE.out HB6.out.size ?_)
                      | fail)
                    intro v7 W7 hown7 hb7
                    have HB7 := hid (HB6.out.trans hb7)
                    have HO7 := hid hown7
                    clear hown7 hb7 q1 q2
                    go_wp2_with fail
                    go_roundw
                    case rel => exact ⟨i + 1, i + 1, by go_num, by go_num, out ++ [oneV cr], hid ⟨Nat.le_refl _, by omega, by rw [List.length_append, HOL.out]; simp; omega⟩, hid (by rw [Nat.sub_self, List.take_zero]; simp), HLN, HO7, HB7⟩
                    case measure => simp [intOf]; omega
            · have HST := hid (HSO.out fr i i out HLD.out hfi hlt HNO.out hx hfi (Nat.le_refl _) (HCN.out fr i hlt2 (by omega) h13))
              have h13f : (b.getD (i - 1) 0 == 13) = false := beq_eq_false_iff_ne.2 h13
              rw [h13f] at h13e
              obtain ⟨F, hF⟩ : ∃ F, F = i - 1 := ⟨_, rfl⟩
              rw [← hF] at k2 h13e
              have hEI : (i : Int) - 1 = (F : Int) := by omega
              generalize (b.getD F 0).toNat = y2 at k2 h13e
              generalize (b.getD i 0).toNat = y at k1 hne
              obtain ⟨E, hE⟩ : ∃ E, E = i := ⟨_, rfl⟩
              have hEn : E ≤ n := by omega
              have hEf : fr ≤ E := by omega
              clear h13 h13f hF hx
              by_cases hEf2 : E = fr
              · have HPE : Hid (P = (out, i + 1, 0)) := HST.out.done hf2 (by omega)
                have heq : ((i : Int) == (fr : Int)) = true := by rw [beq_iff_eq]; omega
                generalize hOL : out.length = L at HO
                clear hOL hfar hEf2
                go_wp2_with fail
                go_ret3
                refine ⟨.slice AV L cv, ?_, ?_, HB.out⟩
                · rw [HPE.out]; rfl
                · rw [HPE.out]; exact HO.out
              · have heq : ((i : Int) == (fr : Int)) = false := by rw [beq_eq_false_iff_ne]; omega
                have hlo : (0 : Int) ≤ (fr : Int) := by omega
                have hle : (fr : Int) ≤ (i : Int) := by omega
                have hec : (i : Int) ≤ (c : Int) := by omega
                have hcf : ¬ c = fr := by omega
                have hpos : fr < i := by omega
                have HXL := hid (HBL.out fr i)
                have HONE2 := hid (fun W => HONE.out ((b.drop fr).take (i - fr)) (Nat.le_trans HXL.out hb) W)
                have HBAD2 := hid (HST.out.bad hf2 hpos)
                have HMANY2 := hid (HST.out.many hf2 hpos)
                have HON2 := hid (HST.out.on hf2 hpos)
                have HSTR : Hid (∀ W, Below w.heap.size w W → (convert 23 9 (.slice (some ⟨q, o + fr, none⟩) (i - fr) (c - fr))).run Tryz.prog W = .ok (.string (asS ((b.drop fr).take (i - fr)))) W) := fun W hW => str_part (HPART.out W i hW (by omega) (by omega)) (by rw [List.length_take, List.length_drop, HN.out]; omega)
                have hst := HSTR.out wr HB.out
                generalize (b.drop fr).take (i - fr) = cr at HONE2 HBAD2 HMANY2 HON2 hst
                unfold hcs at HONE2
                generalize hNm : asS (oneV cr).name = Nm at HONE2
                generalize hVl : asS (oneV cr).value = Vl at HONE2
                have HNm := hid hNm
                have HVl := hid hVl
                generalize asS cr = S at HONE2 hst
                generalize oneB cr = ok at HONE2 HBAD2 HMANY2 HON2
                generalize hOL : out.length = L at HO HMANY2 HON2
                have HOL := hid hOL
                have hL64 : L ≤ 64 := by have := HBD.out.2.2; omega
                clear hNm hVl hOL hEf2 hpos HST hfar
                cases ok
                · have HPE := hid (HBAD2.out (by trivial))
                  go_wp2_with fail
                  refine (HONE2.out _).mono ?_
                  rintro e W4 ⟨rfl, hb4⟩
                  have HB4 := hid (HB.out.trans (hb4.mono HB.out.size))
                  have HB5 := hid (alloc_below HB4.out HB4.out.size (.cells #[.string Nm, .string Vl] 69))
                  clear hb4 hst k1 k2
                  go_wp2_with fail
                  go_ret3
                  exact ⟨_, by rw [HPE.out]; rfl, by rw [HPE.out]; exact .inl ⟨rfl, rfl⟩, HB5.out⟩
                · by_cases hL : L = 64
                  · have HPE := hid (HMANY2.out (by trivial) hL)
                    have hL1 : ((L : Int) == 64) = true := by rw [hL]; rfl
                    clear hL
                    go_wp2_with fail
                    refine (HONE2.out _).mono ?_
                    rintro e W4 ⟨rfl, hb4⟩
                    have HB4 := hid (HB.out.trans (hb4.mono HB.out.size))
                    have HB5 := hid (alloc_below HB4.out HB4.out.size (.cells #[.string Nm, .string Vl] 69))
                    clear hb4 hst k1 k2
                    go_wp2_with fail
                    go_ret3
                    exact ⟨_, by rw [HPE.out]; rfl, by rw [HPE.out]; exact .inl ⟨rfl, rfl⟩, HB5.out⟩
                  · have HLN := hid (HON2.out (by trivial) hL)
                    have hL1 : ((L : Int) == 64) = false := by rw [beq_eq_false_iff_ne]; omega
                    have hL2 : L < 64 := by omega
                    clear hL
                    go_wp2_with fail
                    refine (HONE2.out _).mono ?_
                    rintro e W4 ⟨rfl, hb4⟩
                    have HB4 := hid (HB.out.trans (hb4.mono HB.out.size))
                    have HO4 := hid ((HO.out.below hb4).below (alloc_below (Below.refl _ W4) (Nat.le_refl _) (.cells #[.string Nm, .string Vl] 69)))
                    have HB5 := hid (alloc_below HB4.out HB4.out.size (.cells #[.string Nm, .string Vl] 69))
                    have q1 : (W4.alloc (.cells #[.string Nm, .string Vl] 69)).cell? ⟨W4.heap.size, 0, none⟩ = some (.string Nm) := cell_of_row _ _ _ _ _ _ (heap_alloc_new W4 _)
                    have q2 : (W4.alloc (.cells #[.string Nm, .string Vl] 69)).cell? ⟨W4.heap.size, 1, none⟩ = some (.string Vl) := cell_of_row _ _ _ _ _ _ (heap_alloc_new W4 _)
                    have HSR := hid (src_hd (W4.alloc (.cells #[.string Nm, .string Vl] 69)) (oneV cr) Nm Vl HNm.out.symm HVl.out.symm 1)
                    rw [show (W4.alloc (.cells #[.string Nm, .string Vl] 69)).heap.size = W4.heap.size + 1 from by simp] at HSR
                    have HO6 := hid (HO4.out.below (alloc_below (Below.refl _ (W4.alloc (.cells #[.string Nm, .string Vl] 69))) (Nat.le_refl _) (.cells #[.string Nm, .string Vl] 69)))
                    have HB6 := hid (alloc_below HB5.out HB5.out.size (.cells #[.string Nm, .string Vl] 69))
                    have HLE : Hid (out.length + [oneV cr].length ≤ 1000000) := by show _ ≤ _; rw [HOL.out]; simp; omega
                    clear hb4 hst k1 k2
                    go_wp2_with (first
                      | (refine wpList_hd rfl _ _ rfl w.heap.size _ _ out [oneV cr] rfl rfl HO6.out HSR.out (by simp) HLE.out HB6.out.size ?_)
                      | fail)
                    intro v7 W7 hown7 hb7
                    have HB7 := hid (HB6.out.trans hb7)
                    have HO7 := hid hown7
                    clear hown7 hb7 q1 q2
                    go_wp2_with fail
                    go_roundw
                    case rel => exact ⟨i + 1, i + 1, by go_num, by go_num, out ++ [oneV cr], hid ⟨Nat.le_refl _, by omega, by rw [List.length_append, HOL.out]; simp; omega⟩, hid (by rw [Nat.sub_self, List.take_zero]; simp), HLN, HO7, HB7⟩
                    case measure => simp [intOf]; omega
      · have HNO2 := hid (HSS.out fr i hfi hlt HNO.out hx)
        have hne : ((((b.getD i 0).toNat : Int)) != 10) = true := by rw [bne, h10, beq_eq_false_iff_ne.2 hx]; rfl
        generalize (b.getD i 0).toNat = y at k1 hne
        clear h10 hx
        go_wp2_with fail
        go_roundw
        case rel => exact ⟨fr, i + 1, rfl, by go_num, out, hid ⟨by omega, by omega, HBD.out.2.2⟩, HNO2, HLD, HO, HB⟩
        case measure => simp [intOf]; omega
    · have hi : ¬ (i : Int) < (n : Int) := by omega
      have hin2 : i = n := by omega
      have HPE := hid (HNONE.out fr out HLD.out (by omega) (by rw [← hin2]; exact HNO.out))
      by_cases h8 : 8192 < n
      · have h81 : (8192 : Int) < (n : Int) := by omega
        rw [if_pos h8] at HPE
        clear h8 hin2
        go_wp2_with fail
        go_ret3
        exact ⟨_, by rw [HPE.out]; rfl, by rw [HPE.out]; exact .inl ⟨rfl, rfl⟩, HB.out⟩
      · have h81 : ¬ (8192 : Int) < (n : Int) := by omega
        rw [if_neg h8] at HPE
        clear h8 hin2
        go_wp2_with fail
        go_ret3
        exact ⟨_, by rw [HPE.out]; rfl, by rw [HPE.out]; exact .inl ⟨rfl, rfl⟩, HB.out⟩
end Go.Proofs.YtclonnpglikddaaGreatDoor
