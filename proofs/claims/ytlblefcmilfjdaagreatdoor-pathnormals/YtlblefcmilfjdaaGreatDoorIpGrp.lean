
/- What the reference's groups does. -/
import Derived.Test.YtlblefcmilfjdaaGreatDoorIpPar
namespace Go.Proofs.YtlblefcmilfjdaaGreatDoor
open Go.RowKit

theorem cellI : OneCell Tryz.prog 126 3 := ⟨Tryz.underlying126, by
  obtain ⟨i, hi, hz0, hz1, hz2⟩ := info_parts (show (Tryz.prog.info? 3).map (fun i => (i.zero, i.size, i.bytes)) = some (some (.int .i64 0), 1, 8) by kernel_rfl)
  exact ⟨i, _, hi, hz0, hz1, by omega, rfl⟩⟩
def ints (l : List Int) : List Value := l.map fun x => .int .i64 x
theorem ints_app (a b : List Int) : ints (a ++ b) = ints a ++ ints b := by simp [ints]
theorem ints_len (a : List Int) : (ints a).length = a.length := by simp [ints]
theorem src_ints (w : World) (l : List Int) (c n : Nat) (hn : n = l.length) : Src Tryz.prog 1 126 (.slice (some ⟨w.heap.size, 0, none⟩) n c) n (ints l) (w.alloc (.cells (ints l).toArray 3)) := by
  subst hn
  have := src_lit cellI (w.alloc (.cells (ints l).toArray 3)) w.heap.size c (ints l) (heap_alloc_new w _) (fun u hu => by obtain ⟨x, _, rfl⟩ := List.mem_map.1 hu; rfl)
  rw [ints_len] at this
  exact this
theorem emp_asS (x : List UInt8) : (asS x).toList.isEmpty = decide (x = []) := by
  rw [Lib.toList_data, asS_data]; cases x <;> simp
theorem grp_stop (P : List (List UInt8)) (k : Nat) (hk : k < P.length) (h : grpTo P (k + 1) = none) : grp P = none := by
  have := grp_none P (k + 1) (P.length - (k + 1)) h
  rw [show k + 1 + (P.length - (k + 1)) = P.length from by omega] at this
  unfold grp; rw [this]; rfl
/-- The reference's answer. -/
def GrA (w w' : World) (P : List (List UInt8)) (sv : Value) : Prop := ∀ gs, grp P = some gs → ∃ g c, sv = .slice (some ⟨g, 0, none⟩) gs.length c ∧ OwnV w' 3 w.heap.size g gs.length c (ints gs)
theorem GrA.none {w w' : World} {P : List (List UInt8)} {sv : Value} (h : grp P = none) : GrA w w' P sv := fun gs hg => by rw [h] at hg; cases hg
set_option maxHeartbeats 4000000 in
set_option maxRecDepth 100000 in
theorem refGroups_any (s : ByteArray) (hs : s.size ≤ 1000000) (w : World) : Calls Tryz.prog 112 #[.string s] w fun e w' => ∃ sv, e = .returned (.tuple #[sv, .bool (grp (cutL 58 s.data.toList)).isSome]) ∧ GrA w w' (cutL 58 s.data.toList) sv ∧ Below w.heap.size w w' := by
  have HC := hid (fun W => refCut_any s 58 hs W)
  obtain ⟨P, hP⟩ : ∃ P, P = cutL 58 s.data.toList := ⟨_, rfl⟩
  have HPS : Hid (∀ j, (P.getD j []).length ≤ 1000000) := fun j => by rw [hP]; have := getD_small 58 s.data.toList j; rw [← Lib.size_eq] at this; omega
  rw [← hP] at HC ⊢
  have hP0 : 0 < P.length := by rw [hP]; exact cutL_pos 58 _
  have hPm : P.length ≤ 1000001 := by rw [hP]; have := cut_len 58 s.data.toList; rw [← Lib.size_eq] at this; omega
  clear hP
  go_enter Tryz.func112, Tryz.ntmps112
  go_wp2_with fail
  refine (HC.out _).mono ?_
  rintro e W1 ⟨gp, cp, rfl, hown, hb⟩
  have HO := hid hown; have HB := hid hb
  clear hown hb
  go_wp2_with fail
  go_loopw [5, 6, 7] (fun ov gv iv wx => ∃ (k g c : Nat) (out : List Int) (gap : Bool), k ≤ P.length ∧ iv = .int .i64 (k : Int) ∧ gv = .bool gap ∧ ov = .slice (some ⟨g, 0, none⟩) out.length c ∧ out.length ≤ 2 * k ∧ Hid (OwnV wx 3 W1.heap.size g out.length c (ints out)) ∧ Hid (grpTo P k = some (out, gap)) ∧ Hid (Below W1.heap.size W1 wx)) (fun _ _ i _ => P.length - (intOf i).toNat)
  case atStart => exact ⟨0, W1.heap.size, 0, [], false, by omega, rfl, rfl, rfl, by simp, OwnV.zero W1 3 _ (Nat.le_refl _), rfl, alloc_below (Below.refl _ W1) (Nat.le_refl _) _⟩
  case round =>
    obtain ⟨k, g, c, out, gap, hk, rfl, rfl, rfl, hol, HOu, HG, HBk⟩ := hrel
    have hszk := HBk.out.size
    have HBw : Hid (Below w.heap.size w wr) := HB.out.trans (HBk.out.mono HB.out.size)
    by_cases hkP : (k : Int) < (P.length : Int)
    case neg =>
      have hk' : k = P.length := by omega
      have HF : Hid (grp P = some out) := by
        show _ = _
        unfold grp; rw [← hk', HG.out]; rfl
      clear hk'
      go_wp2_with fail
      go_ret2
      exact ⟨_, by rw [HF.out]; rfl, fun gs hgs => (by rw [HF.out] at hgs; cases hgs; exact ⟨g, c, rfl, HOu.out.mono HB.out.size⟩), HBw.out⟩
    have HOP : Hid (OwnV wr 9 w.heap.size gp P.length cp (strs P)) := HO.out.below HBk.out (Nat.le_refl _)
    have hc := own_str HOP.out k (by omega)
    have hxs := HPS.out k
    have HST : Hid (∀ o2, (match (some (out, gap) : Option (List Int × Bool)) with
      | none => none
      | some (out, gap) =>
        if P.getD k [] = [] then
          if k ≠ 0 ∧ k ≠ P.length - 1 then (if gap then none else some (out ++ [-1], true))
          else if P.length < 3 ∨ (k = 0 ∧ P.getD 1 [] ≠ []) ∨ (0 < k ∧ P.getD (P.length - 2) [] ≠ []) then none
          else some (out, gap)
        else if 0 ≤ four (P.getD k []) ∧ k = P.length - 1 then some (out ++ [four (P.getD k []) / 65536, four (P.getD k []) % 65536], gap)
        else if num 16 (P.getD k []) < 0 ∨ 4 < (P.getD k []).length then none
        else some (out ++ [num 16 (P.getD k [])], gap)) = o2 → grpTo P (k + 1) = o2) := fun o2 h => by rw [grpTo, HG.out]; exact h
    simp only at HST
    obtain ⟨x, hx⟩ : ∃ x, x = P.getD k [] := ⟨_, rfl⟩
    rw [← hx] at hc hxs HST
    clear hx
    by_cases hxe : x = []
    · have hem : (asS x).toList.isEmpty = true := by rw [emp_asS, hxe]; rfl
      have HST' : Hid (∀ o2, (if k ≠ 0 ∧ k ≠ P.length - 1 then (if gap then none else some (out ++ [-1], true)) else if P.length < 3 ∨ (k = 0 ∧ P.getD 1 [] ≠ []) ∨ (0 < k ∧ P.getD (P.length - 2) [] ≠ []) then none else some (out, gap)) = o2 → grpTo P (k + 1) = o2) := fun o2 h => HST.out o2 (by rw [if_pos hxe]; exact h)
      clear hxe HST
      have HST := HST'
      clear HST'
      by_cases hk0 : k = 0
      · subst hk0
        by_cases h3 : (P.length : Int) < 3
        · have HF : Hid (grp P = none) := grp_stop P 0 (by omega) (HST.out none (by rw [if_neg (by omega), if_pos (Or.inl (by omega))]))
          clear HST
          go_wp2_with fail
          go_ret2
          exact ⟨_, by rw [HF.out]; rfl, GrA.none HF.out, HBw.out⟩
        have h3n : ¬ P.length < 3 := by omega
        have hc1 := own_str HOP.out 1 (by omega)
        have HST1 : Hid (P.getD 1 [] ≠ [] → grpTo P (0 + 1) = none) := fun h => HST.out none (by rw [if_neg (by omega), if_pos (Or.inr (Or.inl ⟨rfl, h⟩))])
        have HST2 : Hid (P.getD 1 [] = [] → grpTo P (0 + 1) = some (out, gap)) := fun h => HST.out _ (by rw [if_neg (by omega), if_neg (by intro h2; rcases h2 with h2 | h2 | h2; omega; exact h2.2 h; omega)])
        generalize P.getD 1 [] = z at hc1 HST1 HST2
        by_cases hz : z = []
        · have hze : (asS z).toList.isEmpty = true := by rw [emp_asS, hz]; rfl
          have HN := hid (HST2.out hz)
          clear hz HST
          go_wp2_with fail
          go_roundw
          case rel => exact ⟨0 + 1, g, c, out, gap, by omega, by go_num, rfl, rfl, by omega, HOu, HN, HBk⟩
          case measure => simp [intOf]; omega
        · have hze : (asS z).toList.isEmpty = false := by rw [emp_asS]; simpa using hz
          have HF : Hid (grp P = none) := grp_stop P 0 (by omega) (HST1.out hz)
          clear hz HST
          go_wp2_with fail
          go_ret2
          exact ⟨_, by rw [HF.out]; rfl, GrA.none HF.out, HBw.out⟩
      · have hk0b : ((k : Int) == 0) = false := by rw [beq_eq_false_iff_ne]; omega
        have hk0n : (k == 0) = false := by simpa using hk0
        by_cases hkl : k = P.length - 1
        · have hklb : ((k : Int) == (P.length : Int) - 1) = true := by rw [beq_iff_eq]; omega
          by_cases h3 : (P.length : Int) < 3
          · have HF : Hid (grp P = none) := grp_stop P k (by omega) (HST.out none (by rw [if_neg (by omega), if_pos (Or.inl (by omega))]))
            clear HST hk0 hkl
            go_wp2_with fail
            go_ret2
            exact ⟨_, by rw [HF.out]; rfl, GrA.none HF.out, HBw.out⟩
          have h3n : ¬ P.length < 3 := by omega
          have hc1 := own_str HOP.out (P.length - 2) (by omega)
          have HST1 : Hid (P.getD (P.length - 2) [] ≠ [] → grpTo P (k + 1) = none) := fun h => HST.out none (by rw [if_neg (by omega), if_pos (Or.inr (Or.inr ⟨by omega, h⟩))])
          have HST2 : Hid (P.getD (P.length - 2) [] = [] → grpTo P (k + 1) = some (out, gap)) := fun h => HST.out _ (by rw [if_neg (by omega), if_neg (by intro h2; rcases h2 with h2 | h2 | h2; omega; omega; exact h2.2 h)])
          generalize P.getD (P.length - 2) [] = z at hc1 HST1 HST2
          obtain ⟨i2, hi2⟩ : ∃ i2, i2 = P.length - 2 := ⟨_, rfl⟩
          rw [← hi2] at hc1
          have hi2' : (P.length : Int) - 2 = (i2 : Int) := by omega
          have hi2l : (i2 : Int) < (P.length : Int) := by omega
          have hkpos : (0 : Int) < (k : Int) := by omega
          by_cases hz : z = []
          · have hze : (asS z).toList.isEmpty = true := by rw [emp_asS, hz]; rfl
            have HN := hid (HST2.out hz)
            clear hz HST hi2 hk0 hkl
            go_wp2_with fail
            go_roundw
            case rel => exact ⟨k + 1, g, c, out, gap, by omega, by go_num, rfl, rfl, by omega, HOu, HN, HBk⟩
            case measure => simp [intOf]; omega
          · have hze : (asS z).toList.isEmpty = false := by rw [emp_asS]; simpa using hz
            have HF : Hid (grp P = none) := grp_stop P k (by omega) (HST1.out hz)
            clear hz HST hi2 hk0 hkl
            go_wp2_with fail
            go_ret2
            exact ⟨_, by rw [HF.out]; rfl, GrA.none HF.out, HBw.out⟩
        · have hklb : ((k : Int) == (P.length : Int) - 1) = false := by rw [beq_eq_false_iff_ne]; omega
          have hint : k ≠ 0 ∧ k ≠ P.length - 1 := ⟨hk0, hkl⟩
          cases gap
          · have HN := hid (HST.out (some (out ++ [-1], true)) (by rw [if_pos hint]; rfl))
            clear hk0 hkl hint HST
            go_wp2_with (first
              | (refine wpList_ownV cellI rfl _ _ rfl W1.heap.size g out.length c 1 (ints out) (ints [-1]) _ rfl rfl (HOu.out.alloc _) (src_ints _ [-1] _ 1 rfl) (by omega) ?h3 ?_)
              | fail)
            case h3 => simp; omega
            intro g' c' W5 hown hgr hg'
            have HO5 : Hid (OwnV W5 3 W1.heap.size g' (out ++ [-1]).length c' (ints (out ++ [-1]))) := by rw [ints_app, List.length_append]; exact hown
            have HB5 : Hid (Below W1.heap.size W1 W5) := (HOu.out.alloc _).grown (alloc_below HBk.out HBk.out.size _) (by simp; omega) hgr
            clear hown hgr hg'
            go_wp2_with fail
            go_roundw
            case rel => exact ⟨k + 1, g', c', out ++ [-1], true, by omega, by go_num, rfl, by simp, by simp; omega, HO5, HN, HB5⟩
            case measure => simp [intOf]; omega
          · have HF : Hid (grp P = none) := grp_stop P k (by omega) (HST.out none (by rw [if_pos hint]; rfl))
            clear hk0 hkl hint HST
            go_wp2_with fail
            go_ret2
            exact ⟨_, by rw [HF.out]; rfl, GrA.none HF.out, HBw.out⟩
    · have hem : (asS x).toList.isEmpty = false := by rw [emp_asS]; simpa using hxe
      have hxz : (asS x).size ≤ 1000000 := by rw [asS_size]; exact hxs
      have hsz : (asS x).size = x.length := asS_size x
      have HFO := hid (fun W => refFour_any (asS x) hxz W)
      rw [asS_data] at HFO
      have HNU : Hid (∀ W, Calls Tryz.prog 136 #[.string (asS x), .int .i64 16] W fun e w' => e = .returned (.int .i64 (num 16 x)) ∧ w' = W) := fun W => refNumber_any (asS x) 16 (by omega) (by omega) W hxz
      have hnr := num_range 16 x
      obtain ⟨f, hf⟩ : ∃ f, f = four x := ⟨_, rfl⟩
      obtain ⟨m, hm⟩ : ∃ m, m = num 16 x := ⟨_, rfl⟩
      have hfl : f < 4294967296 := by
        rcases Int.lt_or_le f 0 with h | h
        · omega
        · rw [hf]; exact four_lt x (by rw [← hf]; exact h)
      have hfg : -1 ≤ f := by
        rw [hf]
        unfold four
        split
        · split
          · rename_i hok
            simp only [Bool.and_eq_true] at hok
            have h1 := okFour_num _ hok.1.1.1; have h2 := okFour_num _ hok.1.1.2; have h3 := okFour_num _ hok.1.2; have h4 := okFour_num _ hok.2
            omega
          · omega
        · omega
      rw [← hf] at HFO HST
      rw [← hm] at HNU HST hnr
      have HST2 : Hid (∀ o2, (if 0 ≤ f ∧ k = P.length - 1 then some (out ++ [f / 65536, f % 65536], gap) else if m < 0 ∨ 4 < x.length then none else some (out ++ [m], gap)) = o2 → grpTo P (k + 1) = o2) := fun o2 h => HST.out o2 (by rw [if_neg hxe]; exact h)
      clear hf hm HST hxe
      go_wp2_with fail
      refine (HFO.out _).mono ?_
      rintro e W2 ⟨rfl, hb2⟩
      have HO2 : Hid (OwnV W2 3 W1.heap.size g out.length c (ints out)) := HOu.out.below hb2 (Nat.le_refl _)
      have HB2k : Hid (Below W1.heap.size W1 W2) := HBk.out.trans (hb2.mono hszk)
      have HB2w : Hid (Below w.heap.size w W2) := HBw.out.trans (hb2.mono HBw.out.size)
      have hsz2 := HB2k.out.size
      have hc2 := hc
      have hc' : W2.cell? ⟨gp, k, none⟩ = some (.string (asS x)) := by rw [hb2.cell (block_lt_of_cell hc)]; exact hc
      clear hb2 hc hc2
      by_cases hv : 0 ≤ f ∧ k = P.length - 1
      · obtain ⟨hv1, hv2⟩ := hv
        have HN := hid (HST2.out _ (if_pos ⟨hv1, hv2⟩))
        have hklb : ((k : Int) == (P.length : Int) - 1) = true := by rw [beq_iff_eq]; omega
        have ed : f / 65536 = f.tdiv 65536 := by rw [Int.tdiv_eq_ediv_of_nonneg hv1]
        have em : f % 65536 = f.tmod 65536 := by rw [Int.tmod_eq_emod_of_nonneg hv1]
        clear hv2 HST2
        clear ed em
        go_wp2_with (first
          | (refine wpList_ownV cellI rfl _ _ rfl W1.heap.size g out.length c 2 (ints out) (ints [f / 65536, f % 65536]) _ rfl rfl (HO2.out.alloc _) (src_ints _ [f / 65536, f % 65536] _ 2 rfl) (by omega) ?h3 ?_)
          | fail)
        case h3 => simp; omega
        intro g' c' W5 hown hgr hg'
        have HO5 : Hid (OwnV W5 3 W1.heap.size g' (out ++ [f / 65536, f % 65536]).length c' (ints (out ++ [f / 65536, f % 65536]))) := by rw [ints_app, List.length_append]; exact hown
        have HB5 : Hid (Below W1.heap.size W1 W5) := (HO2.out.alloc _).grown (alloc_below HB2k.out HB2k.out.size _) (by simp; omega) hgr
        clear hown hgr hg'
        go_wp2_with fail
        go_roundw
        case rel => exact ⟨k + 1, g', c', out ++ [f / 65536, f % 65536], gap, by omega, by go_num, rfl, by simp, by simp; omega, HO5, HN, HB5⟩
        case measure => simp [intOf]; omega
      · have hnb : ((0 : Int) ≤ f → ((k : Int) == (P.length : Int) - 1) = false) := fun h => by rw [beq_eq_false_iff_ne]; intro h2; exact hv ⟨h, by omega⟩
        have HST3 : Hid (∀ o2, (if m < 0 ∨ 4 < x.length then none else some (out ++ [m], gap)) = o2 → grpTo P (k + 1) = o2) := fun o2 h => HST2.out o2 (by rw [if_neg hv]; exact h)
        clear hv HST2
        by_cases hm0 : m < 0
        · have HF : Hid (grp P = none) := grp_stop P k (by omega) (HST3.out none (if_pos (Or.inl hm0)))
          by_cases hf0 : (0 : Int) ≤ f
          · have hklb := hnb hf0
            clear hnb
            go_wp2_with (first
              | (go_at_call 136; refine (HNU.out _).mono ?_; rintro r w' ⟨rfl, rfl⟩)
              | fail)
            go_ret2
            exact ⟨_, by rw [HF.out]; rfl, GrA.none HF.out, HB2w.out⟩
          · clear hnb
            go_wp2_with (first
              | (go_at_call 136; refine (HNU.out _).mono ?_; rintro r w' ⟨rfl, rfl⟩)
              | fail)
            go_ret2
            exact ⟨_, by rw [HF.out]; rfl, GrA.none HF.out, HB2w.out⟩
        by_cases hx4 : (4 : Int) < ((asS x).size : Int)
        · have HF : Hid (grp P = none) := grp_stop P k (by omega) (HST3.out none (if_pos (Or.inr (by omega))))
          clear hsz
          by_cases hf0 : (0 : Int) ≤ f
          · have hklb := hnb hf0
            clear hnb
            go_wp2_with (first
              | (go_at_call 136; refine (HNU.out _).mono ?_; rintro r w' ⟨rfl, rfl⟩)
              | fail)
            go_ret2
            exact ⟨_, by rw [HF.out]; rfl, GrA.none HF.out, HB2w.out⟩
          · clear hnb
            go_wp2_with (first
              | (go_at_call 136; refine (HNU.out _).mono ?_; rintro r w' ⟨rfl, rfl⟩)
              | fail)
            go_ret2
            exact ⟨_, by rw [HF.out]; rfl, GrA.none HF.out, HB2w.out⟩
        have HN := hid (HST3.out _ (if_neg (by omega)))
        clear hsz HST3
        by_cases hf0 : (0 : Int) ≤ f
        · have hklb := hnb hf0
          clear hnb
          go_wp2_with (first
            | (go_at_call 136; refine (HNU.out _).mono ?_; rintro r w' ⟨rfl, rfl⟩)
            | (refine wpList_ownV cellI rfl _ _ rfl W1.heap.size g out.length c 1 (ints out) (ints [m]) _ rfl rfl (HO2.out.alloc _) (src_ints _ [m] _ 1 rfl) (by omega) ?h3 ?_)
            | fail)
          case h3 => simp; omega
          intro g' c' W5 hown hgr hg'
          have HO5 : Hid (OwnV W5 3 W1.heap.size g' (out ++ [m]).length c' (ints (out ++ [m]))) := by rw [ints_app, List.length_append]; exact hown
          have HB5 : Hid (Below W1.heap.size W1 W5) := (HO2.out.alloc _).grown (alloc_below HB2k.out HB2k.out.size _) (by simp; omega) hgr
          clear hown hgr hg'
          go_wp2_with fail
          go_roundw
          case rel => exact ⟨k + 1, g', c', out ++ [m], gap, by omega, by go_num, rfl, by simp, by simp; omega, HO5, HN, HB5⟩
          case measure => simp [intOf]; omega
        · clear hnb
          go_wp2_with (first
            | (go_at_call 136; refine (HNU.out _).mono ?_; rintro r w' ⟨rfl, rfl⟩)
            | (refine wpList_ownV cellI rfl _ _ rfl W1.heap.size g out.length c 1 (ints out) (ints [m]) _ rfl rfl (HO2.out.alloc _) (src_ints _ [m] _ 1 rfl) (by omega) ?h3 ?_)
            | fail)
          case h3 => simp; omega
          intro g' c' W5 hown hgr hg'
          have HO5 : Hid (OwnV W5 3 W1.heap.size g' (out ++ [m]).length c' (ints (out ++ [m]))) := by rw [ints_app, List.length_append]; exact hown
          have HB5 : Hid (Below W1.heap.size W1 W5) := (HO2.out.alloc _).grown (alloc_below HB2k.out HB2k.out.size _) (by simp; omega) hgr
          clear hown hgr hg'
          go_wp2_with fail
          go_roundw
          case rel => exact ⟨k + 1, g', c', out ++ [m], gap, by omega, by go_num, rfl, by simp, by simp; omega, HO5, HN, HB5⟩
          case measure => simp [intOf]; omega
end Go.Proofs.YtlblefcmilfjdaaGreatDoor
