
/- What the reference's Parse does. -/
import Derived.Test.YtlblefcmilfjdaaGreatDoorIpGrp
namespace Go.Proofs.YtlblefcmilfjdaaGreatDoor
open Go.RowKit

/-- How many are below nought. -/
def negG (g : List Int) : Nat := (g.filter fun x => decide (x < 0)).length
theorem grp_facts (l : List (List UInt8)) : ∀ k out gap, grpTo l k = some (out, gap) → negG out = (if gap then 1 else 0) ∧ (∀ x ∈ out, -1 ≤ x ∧ x ≤ 65535) ∧ out.length ≤ 2 * k
  | 0, out, gap, h => by simp [grpTo] at h; obtain ⟨rfl, rfl⟩ := h; simp [negG]
  | k + 1, out, gap, h => by
    rw [grpTo] at h
    cases hq : grpTo l k with
    | none => rw [hq] at h; cases h
    | some p =>
      obtain ⟨o, g⟩ := p
      rw [hq] at h
      simp only at h
      have ih := grp_facts l k o g hq
      have happ : ∀ (t : List Int), (∀ x ∈ t, 0 ≤ x ∧ x ≤ 65535) → t.length ≤ 2 → negG (o ++ t) = negG o ∧ (∀ x ∈ o ++ t, -1 ≤ x ∧ x ≤ 65535) ∧ (o ++ t).length ≤ 2 * (k + 1) := fun t ht hl => by
        refine ⟨?_, fun x hx => ?_, by simp; omega⟩
        · unfold negG
          have e0 : t.filter (fun x => decide (x < 0)) = [] := List.filter_eq_nil_iff.2 (fun x hx => by have := ht x hx; simp; omega)
          rw [List.filter_append, e0, List.append_nil]
        · rcases List.mem_append.1 hx with hx | hx
          · exact ih.2.1 x hx
          · have := ht x hx; omega
      split at h
      · split at h
        · split at h
          · cases h
          · rename_i hg
            cases h
            have hgf : g = false := by simpa using hg
            rw [hgf] at ih
            refine ⟨?_, fun x hx => ?_, by simp; omega⟩
            · unfold negG at ih ⊢
              rw [List.filter_append, List.length_append, ih.1]; simp
            · rcases List.mem_append.1 hx with hx | hx
              · exact ih.2.1 x hx
              · simp at hx; subst hx; omega
        · split at h
          · cases h
          · cases h; exact ⟨ih.1, ih.2.1, by omega⟩
      · rename_i hne
        split at h
        · rename_i hf
          cases h
          have h4 := four_lt _ hf.1
          have := happ [four (l.getD k []) / 65536, four (l.getD k []) % 65536] (fun x hx => by simp only [List.mem_cons, List.not_mem_nil, or_false] at hx; rcases hx with rfl | rfl <;> omega) (by simp)
          rw [this.1]; exact ⟨ih.1, this.2⟩
        · split at h
          · cases h
          · rename_i hn
            cases h
            have hg : okH (l.getD k []) = true := (okH_num _ hne).2 hn
            have hv := okH_val _ hg
            have := happ [num 16 (l.getD k [])] (fun x hx => by simp only [List.mem_cons, List.not_mem_nil, or_false] at hx; subst hx; omega) (by simp)
            rw [this.1]; exact ⟨ih.1, this.2⟩
theorem fill_length (g : List Int) (n : Nat) : (fillG g n).length = 2 * cntG g + 2 * n * negG g := by
  induction g with
  | nil => simp [fillG, cntG, negG]
  | cons a t ih =>
    have e : fillG (a :: t) n = (if a < 0 then List.replicate (2 * n) 0 else [b8 (a / 256).toNat, b8 (a % 256).toNat]) ++ fillG t n := by unfold fillG; rw [List.flatMap_cons]
    rw [e, List.length_append, ih]
    unfold cntG negG
    by_cases ha : a < 0
    · rw [if_pos ha, List.filter_cons_of_neg (by simp; omega), List.filter_cons_of_pos (by simpa using ha)]
      simp [Nat.mul_add]; omega
    · rw [if_neg ha, List.filter_cons_of_pos (by simp; omega), List.filter_cons_of_neg (by simpa using ha)]
      simp; omega
theorem cnt_snoc (g : List Int) (x : Int) : cntG (g ++ [x]) = cntG g + (if x < 0 then 0 else 1) ∧ gapG (g ++ [x]) = (gapG g || decide (x < 0)) := by
  unfold cntG gapG
  rw [List.filter_append, List.length_append, List.any_append]
  by_cases h : x < 0
  · rw [if_pos h]
    have : ¬ 0 ≤ x := by omega
    simp [h, this]
  · rw [if_neg h]
    have : 0 ≤ x := by omega
    simp [h, this]
theorem ints_take (g : List Int) (j : Nat) (h : j < g.length) : g.take (j + 1) = g.take j ++ [g.getD j 0] := by
  rw [List.take_succ_eq_append_getElem h, List.getD_eq_getElem?_getD, List.getElem?_eq_getElem h]; rfl
theorem cnt_le (g : List Int) : cntG g ≤ g.length := List.length_filter_le _ _
theorem gap_neg (g : List Int) : gapG g = decide (0 < negG g) := by
  unfold gapG negG
  induction g with
  | nil => rfl
  | cons a t ih =>
    rw [List.any_cons, ih]
    by_cases h : a < 0
    · rw [List.filter_cons_of_pos (by simpa using h)]; simp [h]
    · rw [List.filter_cons_of_neg (by simpa using h)]; simp [h]
theorem own_int {w : World} {b g n c : Nat} {L : List Int} (h : OwnV w 3 b g n c (ints L)) (j : Nat) (hj : j < L.length) : w.cell? ⟨g, j, none⟩ = some (.int .i64 (L.getD j 0)) := by
  refine h.at j _ ?_
  unfold ints
  rw [List.getElem?_map, List.getD_eq_getElem?_getD, List.getElem?_eq_getElem hj]; rfl
/-- The bytes so far, noughts behind them. -/
def padG (g : List Int) (m k : Nat) : List UInt8 := fillG (g.take k) m ++ zer (16 - (fillG (g.take k) m).length)
theorem padG_len (g : List Int) (m k : Nat) (h : (fillG (g.take k) m).length ≤ 16) : (padG g m k).length = 16 := by unfold padG; rw [List.length_append, zer_len]; omega
theorem fill_take_le (g : List Int) (m k : Nat) : (fillG (g.take k) m).length ≤ (fillG g m).length := by
  have : fillG g m = fillG (g.take k) m ++ fillG (g.drop k) m := by rw [← fill_app, List.take_append_drop]
  rw [this, List.length_append]; omega
theorem pad_two (l : List UInt8) (a b : UInt8) (h : l.length + 2 ≤ 16) : ((l ++ zer (16 - l.length)).set l.length a).set (l.length + 1) b = l ++ [a, b] ++ zer (16 - (l.length + 2)) := by
  obtain ⟨r, hr⟩ : ∃ r, 16 - l.length = r + 2 := ⟨14 - l.length, by omega⟩
  have e : 16 - (l.length + 2) = r := by omega
  rw [hr, e, show zer (r + 2) = 0 :: 0 :: zer r from by simp [zer, List.replicate_succ]]
  rw [List.set_append_right _ _ (by omega), Nat.sub_self, List.set_cons_zero, List.set_append_right _ _ (by omega), show l.length + 1 - l.length = 1 from by omega]
  simp

theorem padG_gap (g : List Int) (m k : Nat) (hk : k < g.length) (hx : g.getD k 0 < 0) (h : (fillG (g.take (k + 1)) m).length ≤ 16) : padG g m (k + 1) = padG g m k ∧ (fillG (g.take (k + 1)) m).length = (fillG (g.take k) m).length + 2 * m := by
  have e : fillG (g.take (k + 1)) m = fillG (g.take k) m ++ zer (2 * m) := by
    rw [ints_take g k hk, fill_app]
    congr 1
    unfold fillG
    rw [List.flatMap_cons, if_pos hx]; simp [zer]
  have hl : (fillG (g.take (k + 1)) m).length = (fillG (g.take k) m).length + 2 * m := by rw [e, List.length_append, zer_len]
  refine ⟨?_, hl⟩
  unfold padG
  rw [e, List.append_assoc]
  congr 1
  rw [List.length_append, zer_len]
  rw [hl] at h
  unfold zer
  rw [List.replicate_append_replicate]
  congr 1
  omega
theorem padG_num (g : List Int) (m k : Nat) (hk : k < g.length) (hx : 0 ≤ g.getD k 0) (h : (fillG (g.take (k + 1)) m).length ≤ 16) : padG g m (k + 1) = ((padG g m k).set (fillG (g.take k) m).length (b8 (g.getD k 0 / 256).toNat)).set ((fillG (g.take k) m).length + 1) (b8 (g.getD k 0 % 256).toNat) ∧ (fillG (g.take (k + 1)) m).length = (fillG (g.take k) m).length + 2 := by
  have e : fillG (g.take (k + 1)) m = fillG (g.take k) m ++ [b8 (g.getD k 0 / 256).toNat, b8 (g.getD k 0 % 256).toNat] := by
    rw [ints_take g k hk, fill_app]
    congr 1
    unfold fillG
    have : ¬ g.getD k 0 < 0 := by omega
    rw [List.flatMap_cons, if_neg this]; rfl
  have hl : (fillG (g.take (k + 1)) m).length = (fillG (g.take k) m).length + 2 := by rw [e, List.length_append]; rfl
  refine ⟨?_, hl⟩
  unfold padG
  rw [pad_two _ _ _ (by omega), ← e, hl]
theorem parse_grp (l : List UInt8) (hf : four l < 0) (gs : List Int) (hg : grp (cutL 58 l) = some gs) : parseA l = if (cutL 58 l).length < 3 ∨ 8 < cntG gs ∨ (gapG gs = false ∧ cntG gs ≠ 8) then none else some (true, fillG gs (8 - cntG gs)) := by
  unfold parseA
  rw [if_neg (by omega), hg]
theorem parse_grpN (l : List UInt8) (hf : four l < 0) (hg : grp (cutL 58 l) = none) : parseA l = none := by
  unfold parseA
  rw [if_neg (by omega), hg]
theorem fill_16 (P : List (List UInt8)) (gs : List Int) (hg : grp P = some gs) (h8 : ¬ 8 < cntG gs) (hgap : ¬ (gapG gs = false ∧ cntG gs ≠ 8)) : (fillG gs (8 - cntG gs)).length = 16 := by
  unfold grp at hg
  cases hq : grpTo P P.length with
  | none => rw [hq] at hg; cases hg
  | some p =>
    obtain ⟨o, g⟩ := p
    rw [hq] at hg
    cases hg
    have hf := (grp_facts P _ o g hq).1
    rw [fill_length]
    have hgn := gap_neg o
    cases g
    · rw [hf] at hgn
      have h1 : gapG o = false := by rw [hgn]; rfl
      have h2 : cntG o = 8 := Classical.byContradiction fun h => hgap ⟨h1, h⟩
      show 2 * cntG o + 2 * (8 - cntG o) * negG o = 16
      rw [hf, h2]; simp
    · have h8' : ¬ 8 < cntG o := h8
      show 2 * cntG o + 2 * (8 - cntG o) * negG o = 16
      rw [hf]; simp; omega
theorem grp_bounds (P : List (List UInt8)) (gs : List Int) (hg : grp P = some gs) : (∀ x ∈ gs, -1 ≤ x ∧ x ≤ 65535) ∧ gs.length ≤ 2 * P.length := by
  unfold grp at hg
  cases hq : grpTo P P.length with
  | none => rw [hq] at hg; cases hg
  | some p =>
    obtain ⟨o, g⟩ := p
    rw [hq] at hg
    cases hg
    exact (grp_facts P _ o g hq).2

set_option maxHeartbeats 4000000 in
set_option maxRecDepth 100000 in
theorem refParse_any (s : ByteArray) (hs : s.size ≤ 1000000) (w : World) : Calls Tryz.prog 84 #[.string s] w fun e w' => e = .returned (.tuple #[.agg (acs (paV (parseA s.data.toList)) (paB (parseA s.data.toList))), .bool (parseA s.data.toList).isSome]) ∧ Below w.heap.size w w' := by
  have HFO := hid (fun W => refFour_any s hs W)
  have HGR := hid (fun W => refGroups_any s hs W)
  have HCU := hid (fun W => refCut_any s 58 hs W)
  have hPm := cut_len 58 s.data.toList
  rw [← Lib.size_eq] at hPm
  have hfl : four s.data.toList < 4294967296 := by
    rcases Int.lt_or_le (four s.data.toList) 0 with h | h
    · omega
    · exact four_lt _ h
  by_cases hf : 0 ≤ four s.data.toList
  · have HPE : Hid (parseA s.data.toList = some (false, v4B (four s.data.toList).toNat)) := by show _ = _; unfold parseA; rw [if_pos hf]
    obtain ⟨n, hn⟩ : ∃ n : Nat, four s.data.toList = (n : Int) := ⟨(four s.data.toList).toNat, by omega⟩
    rw [hn, Int.toNat_natCast] at HPE
    rw [hn] at HFO hfl
    have HV := hid (fun W => refV4_any n (by omega) W)
    have HVL := hid (v4B_len n)
    generalize v4B n = VB at HPE HV HVL
    clear hf hn HGR HCU
    go_enter Tryz.func84, Tryz.ntmps84
    go_wp2_with fail
    refine (HFO.out _).mono ?_
    rintro e W1 ⟨rfl, hb1⟩
    obtain ⟨hr, hb, hz⟩ := row1 hb1
    have HR := hid hr; have HB := hid hb
    clear hr hb hb1
    go_wp2_with fail
    refine (HV.out _).mono ?_
    rintro e W2 ⟨rfl, hb2⟩
    have HR2 : Hid (W2.heap[w.heap.size]? = _) := (hb2.block _ (by omega)).trans HR.out
    have HB2 : Hid (Below w.heap.size w W2) := HB.out.trans (hb2.mono HB.out.size)
    clear hb2
    go_wp2_with (first
      | (refine store_addr rfl _ _ rfl w.heap.size false VB HVL.out rfl rfl _ HR2.out rfl ?_)
      | fail)
    intro W3 hO3 hW3
    go_wp2
    refine bodyPost_ret (ret_addr2 (p := 2) (q := 3) Tryz.results84 _ _ w.heap.size false VB HVL.out (0, 0) _ rfl rfl hW3) rfl ⟨?_, HB2.out.trans (hO3.below (Nat.le_refl _))⟩
    rw [HPE.out]; rfl
  have HPG : Hid (∀ gs, grp (cutL 58 s.data.toList) = some gs → parseA s.data.toList = if (cutL 58 s.data.toList).length < 3 ∨ 8 < cntG gs ∨ (gapG gs = false ∧ cntG gs ≠ 8) then none else some (true, fillG gs (8 - cntG gs))) := fun gs h => parse_grp _ (by omega) gs h
  have HPN : Hid (grp (cutL 58 s.data.toList) = none → parseA s.data.toList = none) := fun h => parse_grpN _ (by omega) h
  obtain ⟨P, hP⟩ : ∃ P, P = cutL 58 s.data.toList := ⟨_, rfl⟩
  rw [← hP] at HPG HPN HGR HCU hPm
  clear hP
  generalize four s.data.toList = fv at HFO hfl hf
  generalize parseA s.data.toList = o at HPG HPN ⊢
  go_enter Tryz.func84, Tryz.ntmps84
  go_wp2_with fail
  refine (HFO.out _).mono ?_
  rintro e W1 ⟨rfl, hb1⟩
  obtain ⟨hr, hb, hz⟩ := row1 hb1
  have HR := hid hr; have HB := hid hb
  clear hr hb hb1
  go_wp2_with fail
  refine (HGR.out _).mono ?_
  rintro e W2 ⟨sv, rfl, hgr, hb2⟩
  have HGA := hid hgr
  have HR2 : Hid (W2.heap[w.heap.size]? = _) := (hb2.block _ (by omega)).trans HR.out
  have HB2 : Hid (Below w.heap.size w W2) := HB.out.trans (hb2.mono HB.out.size)
  have hz2 : w.heap.size + 1 ≤ W2.heap.size := Nat.le_trans hz hb2.size
  clear hb2 hgr
  cases hg : grp P with
  | none =>
    have HO : Hid (o = none) := HPN.out hg
    clear hg
    go_wp2_with (first
      | (refine store_addr rfl _ _ rfl w.heap.size false (zer 16) rfl rfl rfl _ HR2.out rfl ?_)
      | fail)
    intro W3 hO3 hW3
    go_wp2
    refine bodyPost_ret (ret_addr2 (p := 2) (q := 3) Tryz.results84 _ _ w.heap.size false (zer 16) rfl (0, 0) _ rfl rfl hW3) rfl ⟨?_, HB2.out.trans (hO3.below (Nat.le_refl _))⟩
    rw [HO.out]; rfl
  | some gs =>
    have HPE := hid (HPG.out gs hg)
    obtain ⟨g, c, rfl, hown⟩ := HGA.out gs hg
    have HOg := hid hown
    have HBD := hid (grp_bounds P gs hg)
    have HF16 := hid (fill_16 P gs hg)
    have hgl : gs.length ≤ 3000000 := by have := HBD.out.2; omega
    clear hown hg HGA HPG HPN
    go_wp2_with fail
    refine (HCU.out _).mono ?_
    rintro e W3 ⟨gq, cq, rfl, _, hb3⟩
    have HR3 : Hid (W3.heap[w.heap.size]? = _) := (hb3.block _ (by omega)).trans HR2.out
    have HB3 : Hid (Below w.heap.size w W3) := HB2.out.trans (hb3.mono HB2.out.size)
    have HO3 : Hid (OwnV W3 3 W1.heap.size g gs.length c (ints gs)) := HOg.out.below hb3 (Nat.le_refl _)
    have hz3 : w.heap.size + 1 ≤ W3.heap.size := Nat.le_trans hz2 hb3.size
    clear hb3
    by_cases h3 : (P.length : Int) < 3
    · have HO : Hid (o = none) := by show _ = _; rw [HPE.out, if_pos (Or.inl (by omega))]
      go_wp2_with (first
        | (refine store_addr rfl _ _ rfl w.heap.size false (zer 16) rfl rfl rfl _ HR3.out rfl ?_)
        | fail)
      intro W4 hO4 hW4
      go_wp2
      refine bodyPost_ret (ret_addr2 (p := 2) (q := 3) Tryz.results84 _ _ w.heap.size false (zer 16) rfl (0, 0) _ rfl rfl hW4) rfl ⟨?_, HB3.out.trans (hO4.below (Nat.le_refl _))⟩
      rw [HO.out]; rfl
    have h3n : ¬ P.length < 3 := by omega
    go_wp2_with fail
    go_loop [7, 8, 9] (fun nv gv iv => ∃ (k n : Nat) (q : Bool), k ≤ gs.length ∧ n ≤ k ∧ iv = .int .i64 (k : Int) ∧ nv = .int .i64 (n : Int) ∧ gv = .bool q ∧ Hid (n = cntG (gs.take k)) ∧ Hid (q = gapG (gs.take k))) (fun _ _ i => gs.length - (intOf i).toNat)
    case atStart => exact ⟨0, 0, false, by omega, by omega, rfl, rfl, rfl, rfl, rfl⟩
    case round =>
      obtain ⟨k, n, q, hk, hnk, rfl, rfl, rfl, HN, HQ⟩ := hrel
      by_cases hkg : (k : Int) < (gs.length : Int)
      · have hc := own_int HO3.out k (by omega)
        have HT := hid (ints_take gs k (by omega))
        generalize gs.getD k 0 = x at hc HT
        have HS := hid (cnt_snoc (gs.take k) x)
        rw [← HT.out, ← HN.out, ← HQ.out] at HS
        by_cases hx : x < 0
        · have HN1 : Hid (n = cntG (gs.take (k + 1))) := by show _ = _; rw [HS.out.1, if_pos hx]; rfl
          have HQ1 : Hid (true = gapG (gs.take (k + 1))) := by show _ = _; rw [HS.out.2, decide_eq_true hx, Bool.or_true]
          go_wp2_with fail
          go_round
          case rel => exact ⟨k + 1, n, true, by omega, by omega, by go_num, rfl, rfl, HN1, HQ1⟩
          case measure => simp [intOf]; omega
        · have HN1 : Hid (n + 1 = cntG (gs.take (k + 1))) := by show _ = _; rw [HS.out.1, if_neg hx]
          have HQ1 : Hid (q = gapG (gs.take (k + 1))) := by show _ = _; rw [HS.out.2, decide_eq_false hx, Bool.or_false]
          go_wp2_with fail
          go_round
          case rel => exact ⟨k + 1, n + 1, q, by omega, by omega, by go_num, by go_num, rfl, HN1, HQ1⟩
          case measure => simp [intOf]; omega
      · have hk' : k = gs.length := by omega
        have hcn : n = cntG gs := by rw [HN.out, hk', List.take_length]
        have hqn : q = gapG gs := by rw [HQ.out, hk', List.take_length]
        rw [← hcn, ← hqn] at HPE HF16
        clear hk' hcn hqn HN HQ
        have hbadarm : ∀ (K : Prop), K → K := fun _ h => h
        by_cases h8 : (8 : Int) < (n : Int)
        · have HO : Hid (o = none) := by show _ = _; rw [HPE.out, if_pos (Or.inr (Or.inl (by omega)))]
          go_wp2_with (first
            | (refine store_addr rfl _ _ rfl w.heap.size false (zer 16) rfl rfl rfl _ HR3.out rfl ?_)
            | fail)
          intro W4 hO4 hW4
          go_wp2
          refine bodyPost_ret (ret_addr2 (p := 2) (q := 3) Tryz.results84 _ _ w.heap.size false (zer 16) rfl (0, 0) _ rfl rfl hW4) rfl ⟨?_, HB3.out.trans (hO4.below (Nat.le_refl _))⟩
          rw [HO.out]; rfl
        by_cases hq8 : q = false ∧ n ≠ 8
        · have HO : Hid (o = none) := by show _ = _; rw [HPE.out, if_pos (Or.inr (Or.inr hq8))]
          obtain ⟨rfl, hn8⟩ := hq8
          have hn8b : ((n : Int) == 8) = false := by rw [beq_eq_false_iff_ne]; omega
          clear hn8
          go_wp2_with (first
            | (refine store_addr rfl _ _ rfl w.heap.size false (zer 16) rfl rfl rfl _ HR3.out rfl ?_)
            | fail)
          intro W4 hO4 hW4
          go_wp2
          refine bodyPost_ret (ret_addr2 (p := 2) (q := 3) Tryz.results84 _ _ w.heap.size false (zer 16) rfl (0, 0) _ rfl rfl hW4) rfl ⟨?_, HB3.out.trans (hO4.below (Nat.le_refl _))⟩
          rw [HO.out]; rfl
        have HO : Hid (o = some (true, fillG gs (8 - n))) := by
          show _ = _
          rw [HPE.out, if_neg (by intro h; rcases h with h | h | h; omega; omega; exact hq8 h)]
        have H16 := hid (HF16.out (by omega) hq8)
        have HQQ : Hid (q = true ∨ (q = false ∧ n = 8)) := by
          show _ ∨ _
          cases q
          · right; exact ⟨rfl, Classical.byContradiction fun h => hq8 ⟨rfl, h⟩⟩
          · left; rfl
        clear hbadarm hq8 HF16 HPE
        rcases HQQ.out with rfl | ⟨rfl, hn8⟩
        · go_wp2_with (first
            | (refine store_addr rfl _ _ rfl W3.heap.size true (zer 16) rfl rfl rfl _ (heap_alloc_new W3 _) rfl ?_)
            | fail)
          intro W4 hO4 hW4
          have HW4 := hid hW4
          have HR4 : Hid (W4.heap[w.heap.size]? = _) := (hO4.block _ (by omega)).trans ((Below.heap_alloc _ _ _ (by omega)).trans HR3.out)
          have HB4 : Hid (Below w.heap.size w W4) := (alloc_below HB3.out HB3.out.size _).trans (hO4.below HB3.out.size)
          have HO4 : Hid (OwnV W4 3 W1.heap.size g gs.length c (ints gs)) := HO3.out.kept ((hO4.block _ (by have := HO3.out.lt; omega)).trans (Below.heap_alloc _ _ _ HO3.out.lt))
          have HGL := hid HO3.out.lt
          clear hO4 hW4
          go_wp2_with fail
          go_loopw [11, 12] (fun av iv wx => ∃ (k a : Nat), k ≤ gs.length ∧ a ≤ 16 ∧ iv = .int .i64 (k : Int) ∧ av = .int .i64 (a : Int) ∧ Hid (a = (fillG (gs.take k) (8 - n)).length) ∧ Hid (wx.heap[W3.heap.size]? = some (.cells (acs true (padG gs (8 - n) k)) 93 (0, 0))) ∧ Hid (Only W3.heap.size W4 wx)) (fun _ i _ => gs.length - (intOf i).toNat)
          case atStart => exact ⟨0, 0, by omega, by omega, rfl, rfl, rfl, HW4, ⟨rfl, rfl, rfl, rfl, fun _ _ => rfl⟩⟩
          case round =>
            obtain ⟨k, a, hk, ha, rfl, rfl, HAe, HX, HOn⟩ := hrel
            by_cases hkg : (k : Int) < (gs.length : Int)
            · have HOk : Hid (OwnV wr 3 W1.heap.size g gs.length c (ints gs)) := HO4.out.kept (HOn.out.block _ (by have := HGL.out; omega))
              have hc := own_int HOk.out k (by omega)
              have hbx := HBD.out.1 (gs.getD k 0) (by rw [List.getD_eq_getElem?_getD, List.getElem?_eq_getElem (by omega)]; exact List.getElem_mem _)
              have hle := fill_take_le gs (8 - n) (k + 1)
              rw [H16.out] at hle
              have HG1 : Hid (gs.getD k 0 < 0 → padG gs (8 - n) (k + 1) = padG gs (8 - n) k ∧ (fillG (gs.take (k + 1)) (8 - n)).length = a + 2 * (8 - n)) := fun h => by rw [HAe.out]; exact padG_gap gs (8 - n) k (by omega) h hle
              have HG2 : Hid (0 ≤ gs.getD k 0 → padG gs (8 - n) (k + 1) = ((padG gs (8 - n) k).set a (b8 (gs.getD k 0 / 256).toNat)).set (a + 1) (b8 (gs.getD k 0 % 256).toNat) ∧ (fillG (gs.take (k + 1)) (8 - n)).length = a + 2) := fun h => by rw [HAe.out]; exact padG_num gs (8 - n) k (by omega) h hle
              have HPL : Hid ((padG gs (8 - n) k).length = 16) := padG_len gs (8 - n) k (by rw [← HAe.out]; exact ha)
              have HLE := hid hle
              generalize gs.getD k 0 = x at hc hbx HG1 HG2
              obtain ⟨hx1, hx2⟩ := hbx
              clear hle
              by_cases hx : x < 0
              · obtain ⟨e1, e2⟩ := HG1.out hx
                have HE1 := hid e1; have HE2 := hid e2
                have ha2 : a + 2 * (8 - n) ≤ 16 := by rw [← e2]; exact HLE.out
                clear e1 e2
                go_wp2_with fail
                go_roundw
                case rel => exact ⟨k + 1, a + 2 * (8 - n), by omega, ha2, by go_num, by go_num, HE2.out.symm, by rw [HE1.out]; exact HX, HOn⟩
                case measure => simp [intOf]; omega
              · have hx0 : 0 ≤ x := by omega
                obtain ⟨e1, e2⟩ := HG2.out hx0
                have ha2 : a + 2 ≤ 16 := by rw [← e2]; exact HLE.out
                obtain ⟨y1, hy1⟩ : ∃ y, y = b8 (x / 256).toNat := ⟨_, rfl⟩
                obtain ⟨y2, hy2⟩ : ∃ y, y = b8 (x % 256).toNat := ⟨_, rfl⟩
                have f1 : x / 256 = (y1.toNat : Int) := by rw [hy1, b8_toNat _ (by omega)]; omega
                have f2 : x % 256 = (y2.toNat : Int) := by rw [hy2, b8_toNat _ (by omega)]; omega
                rw [← hy1, ← hy2] at e1
                have HE1 := hid e1; have HE2 := hid e2
                clear e1 e2 hy1 hy2
                go_wp2_with (first
                  | (refine store_byteA rfl _ _ rfl W3.heap.size _ a true (padG gs (8 - n) k) (by rw [HPL.out]; omega) y1 _ rfl ?hoj rfl rfl HX.out ?_)
                  | fail)
                case hoj => omega
                intro W5 hO5 hW5
                have HOk5 : Hid (OwnV W5 3 W1.heap.size g gs.length c (ints gs)) := HOk.out.kept (hO5.block _ (by have := HGL.out; omega))
                have hc5 : W5.cell? ⟨g, k, none⟩ = some (.int .i64 x) := by rw [World.cell?_of_block (w := wr) (hO5.block g (by have := HGL.out; omega))]; exact hc
                have HW5 := hid hW5; have HO5 := hid hO5
                have HPL5 : Hid (((padG gs (8 - n) k).set a y1).length = 16) := by show _ = _; rw [List.length_set]; exact HPL.out
                clear hW5 hO5 hc
                go_wp2_with (first
                  | (refine store_byteA rfl _ _ rfl W3.heap.size _ (a + 1) true ((padG gs (8 - n) k).set a y1) (by rw [HPL5.out]; omega) y2 _ rfl ?hoj2 rfl rfl HW5.out ?_)
                  | fail)
                case hoj2 => omega
                intro W6 hO6 hW6
                have HW6 : Hid (W6.heap[W3.heap.size]? = some (.cells (acs true (padG gs (8 - n) (k + 1))) 93 (0, 0))) := by show _ = _; rw [HE1.out]; exact hW6
                have HO6 : Hid (Only W3.heap.size W4 W6) := ⟨hO6.os.trans (HO5.out.os.trans HOn.out.os), hO6.tape.trans (HO5.out.tape.trans HOn.out.tape), hO6.output.trans (HO5.out.output.trans HOn.out.output), hO6.size.trans (HO5.out.size.trans HOn.out.size), fun j hj => (hO6.block j hj).trans ((HO5.out.block j hj).trans (HOn.out.block j hj))⟩
                clear hW6 hO6
                go_wp2_with fail
                go_roundw
                case rel => exact ⟨k + 1, a + 2, by omega, ha2, by go_num, by go_num, HE2.out.symm, HW6, HO6⟩
                case measure => simp [intOf]; omega
            · have hk' : k = gs.length := by omega
              have HXF : Hid (wr.heap[W3.heap.size]? = some (.cells (acs true (fillG gs (8 - n))) 93 (0, 0))) := by
                show _ = _
                have h1 := HX.out
                unfold padG at h1
                rw [hk', List.take_length, H16.out] at h1
                simpa [zer] using h1
              have HRr : Hid (wr.heap[w.heap.size]? = _) := (HOn.out.block _ (by omega)).trans HR4.out
              have HBr : Hid (Below w.heap.size w wr) := HB4.out.trans (HOn.out.below HB3.out.size)
              clear hk'
              generalize fillG gs (8 - n) = R at HO H16 HXF
              go_wp2_with (first
                | (refine load_addr rfl _ rfl W3.heap.size true R H16.out rfl (0, 0) HXF.out ?_)
                | (refine store_addr rfl _ _ rfl w.heap.size true R H16.out rfl rfl _ HRr.out rfl ?_)
                | fail)
              intro W9 hO9 hW9
              go_wp2
              refine bodyPost_ret (ret_addr2 (p := 2) (q := 3) Tryz.results84 _ _ w.heap.size true R H16.out (0, 0) _ rfl rfl hW9) rfl ⟨?_, HBr.out.trans (hO9.below (Nat.le_refl _))⟩
              rw [HO.out]; rfl
        · have hn8b : ((n : Int) == 8) = true := by rw [beq_iff_eq]; omega
          clear hn8
          go_wp2_with (first
            | (refine store_addr rfl _ _ rfl W3.heap.size true (zer 16) rfl rfl rfl _ (heap_alloc_new W3 _) rfl ?_)
            | fail)
          intro W4 hO4 hW4
          have HW4 := hid hW4
          have HR4 : Hid (W4.heap[w.heap.size]? = _) := (hO4.block _ (by omega)).trans ((Below.heap_alloc _ _ _ (by omega)).trans HR3.out)
          have HB4 : Hid (Below w.heap.size w W4) := (alloc_below HB3.out HB3.out.size _).trans (hO4.below HB3.out.size)
          have HO4 : Hid (OwnV W4 3 W1.heap.size g gs.length c (ints gs)) := HO3.out.kept ((hO4.block _ (by have := HO3.out.lt; omega)).trans (Below.heap_alloc _ _ _ HO3.out.lt))
          have HGL := hid HO3.out.lt
          clear hO4 hW4
          go_wp2_with fail
          clear hn8b
          go_loopw [11, 12] (fun av iv wx => ∃ (k a : Nat), k ≤ gs.length ∧ a ≤ 16 ∧ iv = .int .i64 (k : Int) ∧ av = .int .i64 (a : Int) ∧ Hid (a = (fillG (gs.take k) (8 - n)).length) ∧ Hid (wx.heap[W3.heap.size]? = some (.cells (acs true (padG gs (8 - n) k)) 93 (0, 0))) ∧ Hid (Only W3.heap.size W4 wx)) (fun _ i _ => gs.length - (intOf i).toNat)
          case atStart => exact ⟨0, 0, by omega, by omega, rfl, rfl, rfl, HW4, ⟨rfl, rfl, rfl, rfl, fun _ _ => rfl⟩⟩
          case round =>
            obtain ⟨k, a, hk, ha, rfl, rfl, HAe, HX, HOn⟩ := hrel
            by_cases hkg : (k : Int) < (gs.length : Int)
            · have HOk : Hid (OwnV wr 3 W1.heap.size g gs.length c (ints gs)) := HO4.out.kept (HOn.out.block _ (by have := HGL.out; omega))
              have hc := own_int HOk.out k (by omega)
              have hbx := HBD.out.1 (gs.getD k 0) (by rw [List.getD_eq_getElem?_getD, List.getElem?_eq_getElem (by omega)]; exact List.getElem_mem _)
              have hle := fill_take_le gs (8 - n) (k + 1)
              rw [H16.out] at hle
              have HG1 : Hid (gs.getD k 0 < 0 → padG gs (8 - n) (k + 1) = padG gs (8 - n) k ∧ (fillG (gs.take (k + 1)) (8 - n)).length = a + 2 * (8 - n)) := fun h => by rw [HAe.out]; exact padG_gap gs (8 - n) k (by omega) h hle
              have HG2 : Hid (0 ≤ gs.getD k 0 → padG gs (8 - n) (k + 1) = ((padG gs (8 - n) k).set a (b8 (gs.getD k 0 / 256).toNat)).set (a + 1) (b8 (gs.getD k 0 % 256).toNat) ∧ (fillG (gs.take (k + 1)) (8 - n)).length = a + 2) := fun h => by rw [HAe.out]; exact padG_num gs (8 - n) k (by omega) h hle
              have HPL : Hid ((padG gs (8 - n) k).length = 16) := padG_len gs (8 - n) k (by rw [← HAe.out]; exact ha)
              have HLE := hid hle
              generalize gs.getD k 0 = x at hc hbx HG1 HG2
              obtain ⟨hx1, hx2⟩ := hbx
              clear hle
              by_cases hx : x < 0
              · obtain ⟨e1, e2⟩ := HG1.out hx
                have HE1 := hid e1; have HE2 := hid e2
                have ha2 : a + 2 * (8 - n) ≤ 16 := by rw [← e2]; exact HLE.out
                clear e1 e2
                go_wp2_with fail
                go_roundw
                case rel => exact ⟨k + 1, a + 2 * (8 - n), by omega, ha2, by go_num, by go_num, HE2.out.symm, by rw [HE1.out]; exact HX, HOn⟩
                case measure => simp [intOf]; omega
              · have hx0 : 0 ≤ x := by omega
                obtain ⟨e1, e2⟩ := HG2.out hx0
                have ha2 : a + 2 ≤ 16 := by rw [← e2]; exact HLE.out
                obtain ⟨y1, hy1⟩ : ∃ y, y = b8 (x / 256).toNat := ⟨_, rfl⟩
                obtain ⟨y2, hy2⟩ : ∃ y, y = b8 (x % 256).toNat := ⟨_, rfl⟩
                have f1 : x / 256 = (y1.toNat : Int) := by rw [hy1, b8_toNat _ (by omega)]; omega
                have f2 : x % 256 = (y2.toNat : Int) := by rw [hy2, b8_toNat _ (by omega)]; omega
                rw [← hy1, ← hy2] at e1
                have HE1 := hid e1; have HE2 := hid e2
                clear e1 e2 hy1 hy2
                go_wp2_with (first
                  | (refine store_byteA rfl _ _ rfl W3.heap.size _ a true (padG gs (8 - n) k) (by rw [HPL.out]; omega) y1 _ rfl ?hoj rfl rfl HX.out ?_)
                  | fail)
                case hoj => omega
                intro W5 hO5 hW5
                have HOk5 : Hid (OwnV W5 3 W1.heap.size g gs.length c (ints gs)) := HOk.out.kept (hO5.block _ (by have := HGL.out; omega))
                have hc5 : W5.cell? ⟨g, k, none⟩ = some (.int .i64 x) := by rw [World.cell?_of_block (w := wr) (hO5.block g (by have := HGL.out; omega))]; exact hc
                have HW5 := hid hW5; have HO5 := hid hO5
                have HPL5 : Hid (((padG gs (8 - n) k).set a y1).length = 16) := by show _ = _; rw [List.length_set]; exact HPL.out
                clear hW5 hO5 hc
                go_wp2_with (first
                  | (refine store_byteA rfl _ _ rfl W3.heap.size _ (a + 1) true ((padG gs (8 - n) k).set a y1) (by rw [HPL5.out]; omega) y2 _ rfl ?hoj2 rfl rfl HW5.out ?_)
                  | fail)
                case hoj2 => omega
                intro W6 hO6 hW6
                have HW6 : Hid (W6.heap[W3.heap.size]? = some (.cells (acs true (padG gs (8 - n) (k + 1))) 93 (0, 0))) := by show _ = _; rw [HE1.out]; exact hW6
                have HO6 : Hid (Only W3.heap.size W4 W6) := ⟨hO6.os.trans (HO5.out.os.trans HOn.out.os), hO6.tape.trans (HO5.out.tape.trans HOn.out.tape), hO6.output.trans (HO5.out.output.trans HOn.out.output), hO6.size.trans (HO5.out.size.trans HOn.out.size), fun j hj => (hO6.block j hj).trans ((HO5.out.block j hj).trans (HOn.out.block j hj))⟩
                clear hW6 hO6
                go_wp2_with fail
                go_roundw
                case rel => exact ⟨k + 1, a + 2, by omega, ha2, by go_num, by go_num, HE2.out.symm, HW6, HO6⟩
                case measure => simp [intOf]; omega
            · have hk' : k = gs.length := by omega
              have HXF : Hid (wr.heap[W3.heap.size]? = some (.cells (acs true (fillG gs (8 - n))) 93 (0, 0))) := by
                show _ = _
                have h1 := HX.out
                unfold padG at h1
                rw [hk', List.take_length, H16.out] at h1
                simpa [zer] using h1
              have HRr : Hid (wr.heap[w.heap.size]? = _) := (HOn.out.block _ (by omega)).trans HR4.out
              have HBr : Hid (Below w.heap.size w wr) := HB4.out.trans (HOn.out.below HB3.out.size)
              clear hk'
              generalize fillG gs (8 - n) = R at HO H16 HXF
              go_wp2_with (first
                | (refine load_addr rfl _ rfl W3.heap.size true R H16.out rfl (0, 0) HXF.out ?_)
                | (refine store_addr rfl _ _ rfl w.heap.size true R H16.out rfl rfl _ HRr.out rfl ?_)
                | fail)
              intro W9 hO9 hW9
              go_wp2
              refine bodyPost_ret (ret_addr2 (p := 2) (q := 3) Tryz.results84 _ _ w.heap.size true R H16.out (0, 0) _ rfl rfl hW9) rfl ⟨?_, HBr.out.trans (hO9.below (Nat.le_refl _))⟩
              rw [HO.out]; rfl
end Go.Proofs.YtlblefcmilfjdaaGreatDoor
