
/- A body read as headers say: what readBody of package http does. -/
import Derived.Test.YtclonnpglikddaaGreatDoorHtFirst
import Derived.Test.YtclonnpglikddaaGreatDoorChDec
namespace Go.Proofs.YtclonnpglikddaaGreatDoor
set_option linter.unusedVariables false
set_option linter.unusedSimpArgs false
open Go.RowKit Go.BigFrame

theorem Down.mono {w : World} {b b' : Nat} {d : Value} {o : List UInt8} (h : Down w b d o) (hb : b' ≤ b) : Down w b' d o := by
  rcases h with h | ⟨g, n, cap, h1, h2⟩
  · exact .inl h
  · exact .inr ⟨g, n, cap, h1, h2.mono hb⟩
theorem cloneB_any (r : List UInt8) (X : Addr) (c : Nat) (hr : r.length ≤ 1000000) (w : World) (hA : BytesAt w (some X) r) : Calls Tryz.prog 74 #[.slice (some X) r.length c] w fun e w' => ∃ v, e = .returned v ∧ Down w' w.heap.size v r ∧ Below w.heap.size w w' := by
  refine (Tryz.bytes_Clone_at X r.length c (ints r) w (ints_len r) (by omega) (fun i hi => ?_)).mono ?_
  · obtain ⟨q, o, e, _, hc⟩ := hA (by omega)
    cases e
    rw [Addr.add_mid, hc i hi, ints_at r i hi]
  · rintro e w' ⟨v, rfl, hown, _, hb⟩
    refine ⟨v, rfl, ?_, hb⟩
    have e1 : (ints r).map (Value.int .u8) = bvs r := by unfold ints bvs; rw [List.map_map]; rfl
    rw [e1] at hown
    have hown2 := hown
    rcases hown with ⟨_, ⟨rfl, hn⟩ | ⟨g, cap, cur, rfl, _⟩⟩
    · exact .inl ⟨rfl, List.length_eq_zero_iff.1 hn⟩
    · exact .inr ⟨g, _, cap, rfl, Own.of_own hown2⟩
/-- So many bytes, if they are there. -/
def finM (r : List UInt8) (N : Nat) : List UInt8 × Nat × Int := if 32768 < N then ([], 0, 3) else if r.length < N then ([], 0, 10) else (r.take N, N, 0)
theorem bodyM_many (r : List UInt8) (l : List HdV) (rest : Bool) (h : 1 < (allH l teM).length) : bodyM r l rest = ([], 0, 5) := by
  rw [all_te] at h
  unfold bodyM
  rw [if_pos (fun e => by rw [e] at h; simp at h), if_pos (.inl h)]
theorem bodyM_both (r : List UInt8) (l : List HdV) (rest : Bool) (h : 0 < (allH l teM).length) (hc : 0 < (allH l clM).length) : bodyM r l rest = ([], 0, 5) := by
  rw [all_te] at h
  rw [all_cl] at hc
  unfold bodyM
  rw [if_pos (fun e => by rw [e] at h; simp at h), if_pos (.inr (.inr (fun e => by rw [e] at hc; simp at hc)))]
theorem bodyM_code (r : List UInt8) (l : List HdV) (rest : Bool) (h : (allH l teM).length = 1) (hc : (allH l clM).length = 0) : bodyM r l rest = if ((allH l teM).getD 0 []).map lowB = chM then decodeC r else ([], 0, 5) := by
  rw [all_te] at h ⊢
  rw [all_cl] at hc
  have e : (allH l teLow).headD [] = (allH l teLow).getD 0 [] := by cases allH l teLow <;> rfl
  unfold bodyM
  rw [if_pos (fun e => by rw [e] at h; simp at h), e]
  by_cases hq : ((allH l teLow).getD 0 []).map lowB = chM
  · rw [if_pos hq, if_neg]
    rintro (h1 | h1 | h1)
    · omega
    · exact h1 hq
    · exact h1 (List.length_eq_zero_iff.1 hc)
  · rw [if_neg hq, if_pos (.inr (.inl hq))]
theorem bodyM_len (r : List UInt8) (l : List HdV) (rest : Bool) (h : (allH l teM).length = 0) (hc : 0 < (allH l clM).length) : bodyM r l rest = if lenB (allH l clM) then finM r (valD ((allH l clM).getD 0 [])) else ([], 0, 5) := by
  rw [all_te] at h
  rw [all_cl] at hc ⊢
  have hne : allH l clLow ≠ [] := fun e => by rw [e] at hc; simp at hc
  have e : (allH l clLow).headD [] = (allH l clLow).getD 0 [] := by cases allH l clLow <;> rfl
  unfold bodyM countM
  rw [if_neg (fun h2 => h2 (List.length_eq_zero_iff.1 h)), nums_eq _ hne, if_neg hne, e]
  show (if lenB (allH l clLow) = false then _ else _) = _
  cases lenB (allH l clLow)
  · rfl
  · rfl
theorem bodyM_rest (r : List UInt8) (l : List HdV) (rest : Bool) (h : (allH l teM).length = 0) (hc : (allH l clM).length = 0) : bodyM r l rest = finM r (if rest then r.length else 0) := by
  rw [all_te] at h
  rw [all_cl] at hc
  have hne : allH l clLow = [] := List.length_eq_zero_iff.1 hc
  unfold bodyM countM
  rw [if_neg (fun h2 => h2 (List.length_eq_zero_iff.1 h)), hne]
  rfl
theorem small_val (l : List HdV) (hs : SmallH l) (name : List UInt8) (j : Nat) : ((allH l name).getD j []).length ≤ 1000000 := by
  by_cases hj : j < (allH l name).length
  · rw [List.getD_eq_getElem?_getD, List.getElem?_eq_getElem hj]
    have hm : (allH l name)[j] ∈ allH l name := List.getElem_mem hj
    unfold allH at hm
    obtain ⟨h, hh, e⟩ := List.mem_map.1 hm
    have h2 := (List.mem_filter.1 hh).1
    obtain ⟨k, hk, rfl⟩ := List.mem_iff_getElem.1 h2
    have := hs k hk
    rw [List.getD_eq_getElem?_getD, List.getElem?_eq_getElem hk] at this
    show ((allH l name)[j]).length ≤ 1000000
    unfold hdl at this
    simp only [Option.getD_some] at this
    unfold allH
    rw [← e]
    omega
  · rw [List.getD_eq_getElem?_getD, List.getElem?_eq_none (by omega)]
    simp
set_option maxHeartbeats 4000000 in
set_option maxRecDepth 100000 in
theorem readBody_any (r : List UInt8) (l : List HdV) (rest : Bool) (A : Option Addr) (cA : Nat) (X : Addr) (c : Nat) (U : Int) (hU : U = ((if rest then r.length else 0 : Nat) : Int)) (hl : l.length ≤ 100000) (hs : SmallH l) (hr : r.length ≤ 1000000) (hc : r.length ≤ c) (w : World) (hT : TabC w) (hA : HdsAt w A l) (hR : BytesAt w (some X) r) : Calls Tryz.prog 39 #[.slice A l.length cA, .slice (some X) r.length c, .int .i64 U] w fun e w' => ∃ v, e = .returned (.tuple #[v, .int .i64 (bodyM r l rest).2.1, .int .i64 (bodyM r l rest).2.2]) ∧ Down w' w.heap.size v (bodyM r l rest).1 ∧ Below w.heap.size w w' := by
  have HA := hid hA
  have HR := hid hR
  have HT := hid hT
  have HT1 := hid (fun W hW => all9_any l teM A cA hl hs (by decide) W hW)
  have HC1 := hid (fun W hW => all9_any l clM A cA hl hs (by decide) W hW)
  have HMA := hid (bodyM_many r l rest)
  have HBO := hid (bodyM_both r l rest)
  have HCO := hid (bodyM_code r l rest)
  have HLE := hid (bodyM_len r l rest)
  have HRE := hid (bodyM_rest r l rest)
  have hsT := small_val l hs teM 0
  have hsC := small_val l hs clM 0
  have hlT := all_len l teM
  have hlC := all_len l clM
  have HDE := hid (fun W hW hX => decode_any r X c hr hc W hW hX)
  have HCB : Hid (∀ N, N ≤ r.length → ∀ W, BytesAt W (some X) r → Calls Tryz.prog 74 #[.slice (some X) N c] W fun e w' => ∃ v, e = .returned v ∧ Down w' W.heap.size v (r.take N) ∧ Below W.heap.size W w') := fun N hN W hW => by
    have := cloneB_any (r.take N) X c (by rw [List.length_take]; omega) W (hW.take N)
    rwa [List.length_take, Nat.min_eq_left hN] at this
  clear hA hR hT hs
  generalize bodyM r l rest = P at HMA HBO HCO HLE HRE ⊢
  generalize allH l teM = T at HT1 HMA HBO HCO HLE HRE hsT hlT
  generalize allH l clM = C at HC1 HBO HCO HLE HRE hsC hlC
  generalize hUN : (if rest then r.length else 0) = UN at hU HRE
  have hUl : UN ≤ r.length := by rw [← hUN]; cases rest <;> simp
  generalize hn : r.length = n at hr hc HDE HCB hUl ⊢
  generalize l.length = nl at HT1 HC1 hl hlT hlC ⊢
  have HN := hid hn
  clear hn hUN
  subst hU
  have HT1' : Hid (∀ W, HdsAt W A l → Calls Tryz.prog 70 #[.slice A nl cA, .string ⟨#[84, 114, 97, 110, 115, 102, 101, 114, 45, 69, 110, 99, 111, 100, 105, 110, 103]⟩] W fun e w' => ∃ v, e = .returned v ∧ StrsV w' v T ∧ Below W.heap.size W w') := HT1.out
  have HC1' : Hid (∀ W, HdsAt W A l → Calls Tryz.prog 70 #[.slice A nl cA, .string ⟨#[67, 111, 110, 116, 101, 110, 116, 45, 76, 101, 110, 103, 116, 104]⟩] W fun e w' => ∃ v, e = .returned v ∧ StrsV w' v C ∧ Below W.heap.size W w') := HC1.out
  clear HT1 HC1
  go_enter Tryz.func39, Tryz.ntmps39
  go_wp2_with fail
  refine (HT1'.out _ HA.out).mono ?_
  rintro e W1 ⟨v1, rfl, hv1, hb1⟩
  obtain ⟨A1, c1, rfl, hat1⟩ := hv1
  have HB1 := hid hb1
  have HS1 := hid hat1
  clear hb1 hat1
  go_wp2_with fail
  refine (HC1'.out _ (HA.out.below HB1.out (Nat.le_refl _))).mono ?_
  rintro e W2 ⟨v2, rfl, hv2, hb2⟩
  obtain ⟨A2, c2, rfl, hat2⟩ := hv2
  have HB2 := hid (HB1.out.trans (hb2.mono HB1.out.size))
  have HS2 := hid (HS1.out.below hb2 (Nat.le_refl _))
  have HC2 := hid hat2
  clear hb2 hat2 HS1 HT1' HC1'
  by_cases t0 : T.length = 0
  · have t1 : ¬ (0 : Int) < (T.length : Int) := by omega
    have HLE2 := hid (HLE.out t0)
    have HRE2 := hid (HRE.out t0)
    clear HMA HBO HCO HLE HRE HS2 hsT hlT t0
    generalize T.length = tn at t1 ⊢
    by_cases c0 : C.length = 0
    · have c3 : ¬ (0 : Int) < (C.length : Int) := by omega
      have HFI := hid (HRE2.out c0)
      clear HLE2 HRE2 HC2 c0 hsC hlC
      generalize C.length = cn at c3 ⊢
      generalize UN = N at HFI hUl
      by_cases hq1 : 32768 < N
      · have HPE : Hid (P = ([], 0, 3)) := by show _ = _; rw [HFI.out]; unfold finM; rw [if_pos hq1]
        have hq2 : (32768 : Int) < (N : Int) := by omega
        clear hq1
        go_wp2_with fail
        go_ret3
        exact ⟨_, by rw [HPE.out]; rfl, by rw [HPE.out]; exact Down.nil _ _, HB2.out⟩
      · have hq2 : ¬ (32768 : Int) < (N : Int) := by omega
        by_cases hq3 : n < N
        · exact absurd hq3 (by omega)
        · have HPE : Hid (P = (r.take N, N, 0)) := by show _ = _; rw [HFI.out]; unfold finM; rw [if_neg hq1, if_neg (by rw [HN.out]; exact hq3)]
          have hq4 : ¬ (n : Int) < (N : Int) := by omega
          have hq5 : (N : Int) ≤ (c : Int) := by omega
          have hq6 : (0 : Int) ≤ (N : Int) := by omega
          have HCL := hid (HCB.out N (by omega) W2 (HR.out.below HB2.out (Nat.le_refl _)))
          clear hq1 hq3
          go_wp2_with fail
          refine HCL.out.mono ?_
          rintro e W9 ⟨v9, rfl, hd9, hb9⟩
          have HB9 := hid (HB2.out.trans (hb9.mono HB2.out.size))
          have HD9 := hid (hd9.mono HB2.out.size)
          clear hd9 hb9
          go_wp2_with fail
          go_ret3
          exact ⟨v9, by rw [HPE.out]; rfl, by rw [HPE.out]; exact HD9.out, HB9.out⟩
    · have c3 : (0 : Int) < (C.length : Int) := by omega
      have HFI2 := hid (HLE2.out (by omega))
      have HRL := hid (readLens_any C A2 c2 (by omega) (by omega) hsC W2 (HT.out.below HB2.out) HC2.out)
      have HLV : Hid (lenB C = true → lenV C = (valD (C.getD 0 []) : Int)) := fun h => by unfold lenV; rw [h]; rfl
      have HLT : Hid (lenB C = true → valD (C.getD 0 []) < 100000000) := fun h => by
        unfold lenB at h
        rw [Bool.and_eq_true] at h
        exact val_lt8 _ h.2
      clear HLE2 HRE2 HC2 c0 hsC hlC
      generalize lenV C = LV at HRL HLV
      generalize lenB C = LB at HRL HLV HFI2 HLT
      generalize valD (C.getD 0 []) = N at HLV HFI2 HLT
      generalize C.length = cn at c3 HRL ⊢
      go_wp2_with fail
      refine HRL.out.mono ?_
      rintro e W3 ⟨rfl, hb3⟩
      have HB3 := hid (HB2.out.trans (hb3.mono HB2.out.size))
      clear hb3 HRL
      cases LB
      · have HPE : Hid (P = ([], 0, 5)) := by show _ = _; rw [HFI2.out]; rfl
        go_wp2_with fail
        go_ret3
        exact ⟨_, by rw [HPE.out]; rfl, by rw [HPE.out]; exact Down.nil _ _, HB3.out⟩
      · have HFI : Hid (P = finM r N) := by show _ = _; rw [HFI2.out]; rfl
        have hlv : LV = (N : Int) := HLV.out (by trivial)
        have hlt := HLT.out (by trivial)
        subst hlv
        clear HFI2 HLV HLT
        by_cases hq1 : 32768 < N
        · have HPE : Hid (P = ([], 0, 3)) := by show _ = _; rw [HFI.out]; unfold finM; rw [if_pos hq1]
          have hq2 : (32768 : Int) < (N : Int) := by omega
          clear hq1
          go_wp2_with fail
          go_ret3
          exact ⟨_, by rw [HPE.out]; rfl, by rw [HPE.out]; exact Down.nil _ _, HB3.out⟩
        · have hq2 : ¬ (32768 : Int) < (N : Int) := by omega
          by_cases hq3 : n < N
          · have HPE : Hid (P = ([], 0, 10)) := by show _ = _; rw [HFI.out]; unfold finM; rw [if_neg hq1, if_pos (by rw [HN.out]; exact hq3)]
            have hq4 : (n : Int) < (N : Int) := by omega
            clear hq1 hq3
            go_wp2_with fail
            go_ret3
            exact ⟨_, by rw [HPE.out]; rfl, by rw [HPE.out]; exact Down.nil _ _, HB3.out⟩
          · have HPE : Hid (P = (r.take N, N, 0)) := by show _ = _; rw [HFI.out]; unfold finM; rw [if_neg hq1, if_neg (by rw [HN.out]; exact hq3)]
            have hq4 : ¬ (n : Int) < (N : Int) := by omega
            have hq5 : (N : Int) ≤ (c : Int) := by omega
            have hq6 : (0 : Int) ≤ (N : Int) := by omega
            have HCL := hid (HCB.out N (by omega) W3 (HR.out.below HB3.out (Nat.le_refl _)))
            clear hq1 hq3
            go_wp2_with fail
            refine HCL.out.mono ?_
            rintro e W9 ⟨v9, rfl, hd9, hb9⟩
            have HB9 := hid (HB3.out.trans (hb9.mono HB3.out.size))
            have HD9 := hid (hd9.mono HB3.out.size)
            clear hd9 hb9
            go_wp2_with fail
            go_ret3
            exact ⟨v9, by rw [HPE.out]; rfl, by rw [HPE.out]; exact HD9.out, HB9.out⟩
  · have t1 : (0 : Int) < (T.length : Int) := by omega
    clear HLE HRE HCB
    by_cases t2 : 1 < T.length
    · have HPE := hid (HMA.out t2)
      have t3 : (1 : Int) < (T.length : Int) := by omega
      clear HMA HBO HCO HS2 hsT hlT t0 t2
      generalize T.length = tn at t1 t3 ⊢
      go_wp2_with fail
      go_ret3
      exact ⟨_, by rw [HPE.out]; rfl, by rw [HPE.out]; exact Down.nil _ _, HB2.out⟩
    · have t3 : ¬ (1 : Int) < (T.length : Int) := by omega
      by_cases c0 : C.length = 0
      · have c3 : ¬ (0 : Int) < (C.length : Int) := by omega
        have HCO2 := hid (HCO.out (by omega) c0)
        obtain ⟨q, o, hq, hqs, hcs⟩ := HS2.out (by omega)
        have h0 := hcs 0 (by omega)
        rw [Nat.add_zero] at h0
        subst hq
        have HLO := hid (lower_any (T.getD 0 []) W2 hsT)
        have hch := tl_eq ((T.getD 0 []).map lowB) [99, 104, 117, 110, 107, 101, 100]
        have HCH : Hid (((T.getD 0 []).map lowB = chM) = ((T.getD 0 []).map lowB = [99, 104, 117, 110, 107, 101, 100])) := rfl
        have HIF : Hid (P = if decide ((T.getD 0 []).map lowB = [99, 104, 117, 110, 107, 101, 100]) then decodeC r else ([], 0, 5)) := by
          show _ = _
          rw [HCO2.out]
          by_cases hz : (T.getD 0 []).map lowB = chM
          · rw [if_pos hz, decide_eq_true (show (T.getD 0 []).map lowB = [99, 104, 117, 110, 107, 101, 100] from hz)]; rfl
          · rw [if_neg hz, decide_eq_false (show ¬ (T.getD 0 []).map lowB = [99, 104, 117, 110, 107, 101, 100] from hz)]; rfl
        clear HMA HBO HCO HS2 hlT t0 t2 hcs hqs HCO2 HCH hsT
        generalize decide ((T.getD 0 []).map lowB = [99, 104, 117, 110, 107, 101, 100]) = hb at hch HIF
        generalize asS ((T.getD 0 []).map lowB) = LS at hch HLO
        generalize asS (T.getD 0 []) = TS at h0 HLO
        generalize T.length = tn at t1 t3 ⊢
        have c4 : C.length = 0 := c0
        clear c0 HC2 hsC hlC
        generalize C.length = cn at c3 c4 ⊢
        go_wp2_with fail
        refine HLO.out.mono ?_
        rintro e W3 ⟨rfl, hb3⟩
        have HB3 := hid (HB2.out.trans (hb3.mono HB2.out.size))
        clear hb3 HLO
        cases hb
        · have HPE : Hid (P = ([], 0, 5)) := by show _ = _; rw [HIF.out]; rfl
          go_wp2_with fail
          go_ret3
          exact ⟨_, by rw [HPE.out]; rfl, by rw [HPE.out]; exact Down.nil _ _, HB3.out⟩
        · have HPE : Hid (P = decodeC r) := by show _ = _; rw [HIF.out]; rfl
          have HD2 := hid (HDE.out W3 (HT.out.below HB3.out) (HR.out.below HB3.out (Nat.le_refl _)))
          go_wp2_with fail
          refine HD2.out.mono ?_
          rintro e W4 ⟨v4, rfl, hd4, hb4⟩
          have HB4 := hid (HB3.out.trans (hb4.mono HB3.out.size))
          have HD4 := hid (hd4.mono HB3.out.size)
          clear hb4 hd4
          go_wp2_with fail
          go_ret3
          exact ⟨v4, by rw [HPE.out]; rfl, by rw [HPE.out]; exact HD4.out, HB4.out⟩
      · have HPE := hid (HBO.out (by omega) (by omega))
        have c3 : (0 : Int) < (C.length : Int) := by omega
        clear HMA HBO HCO HS2 hsT hlT t0 t2 HC2 hsC hlC c0
        generalize T.length = tn at t1 t3 ⊢
        generalize C.length = cn at c3 ⊢
        go_wp2_with fail
        go_ret3
        exact ⟨_, by rw [HPE.out]; rfl, by rw [HPE.out]; exact Down.nil _ _, HB2.out⟩
end Go.Proofs.YtclonnpglikddaaGreatDoor
