
/- Headers without some names: what Without and Set of package header do. -/
import Derived.Test.YtakompbdbmlocaaDoorHdSeek
namespace Go.Proofs.YtakompbdbmlocaaDoor
set_option linter.unusedVariables false
set_option linter.unusedSimpArgs false
open Go.RowKit Go.BigFrame

def keepH (names : List (List UInt8)) (h : HdV) : Bool := names.all fun m => !likeH h.name m
def withoutH (l : List HdV) (names : List (List UInt8)) : List HdV := l.filter (keepH names)
theorem without_take (l : List HdV) (names : List (List UInt8)) (k : Nat) (h : k < l.length) : withoutH (l.take (k + 1)) names = withoutH (l.take k) names ++ (if keepH names (l.getD k zeroH) then [l.getD k zeroH] else []) := by
  rw [take_hd l k h]
  unfold withoutH
  rw [List.filter_append]
  congr 1
  rw [List.filter_cons, List.filter_nil]
theorem without_len (l : List HdV) (names : List (List UInt8)) : (withoutH l names).length ≤ l.length := List.length_filter_le _ _
theorem keep_mem (names : List (List UInt8)) (h : HdV) : decide (h.name.map lowB ∈ names.map fun m => m.map lowB) = !keepH names h := by
  unfold keepH
  cases hk : names.all fun m => !likeH h.name m with
  | true =>
    rw [List.all_eq_true] at hk
    refine decide_eq_false fun hm => ?_
    rw [List.mem_map] at hm
    obtain ⟨m, h1, h2⟩ := hm
    have := hk m h1
    unfold likeH at this
    rw [decide_eq_true h2.symm] at this
    cases this
  | false =>
    refine decide_eq_true ?_
    rw [List.all_eq_false] at hk
    obtain ⟨m, h1, h2⟩ := hk
    unfold likeH at h2
    rw [List.mem_map]
    refine ⟨m, h1, ?_⟩
    by_cases e : h.name.map lowB = m.map lowB
    · exact e.symm
    · rw [decide_eq_false e] at h2
      exact absurd rfl h2
def lowT (names : List (List UInt8)) (k : Nat) : List (List UInt8) := (names.take k).map (fun m => m.map lowB) ++ List.replicate (names.length - k) []
theorem lowT_len (names : List (List UInt8)) (k : Nat) (h : k ≤ names.length) : (lowT names k).length = names.length := by
  unfold lowT; simp; omega
theorem lowT_end (names : List (List UInt8)) (k : Nat) (h : k = names.length) : lowT names k = names.map fun m => m.map lowB := by
  subst h; unfold lowT; simp
theorem lowT_set (names : List (List UInt8)) (k : Nat) (h : k < names.length) (v : Value) (hv : v = .string (asS ((names.getD k []).map lowB))) : (stvs (lowT names k)).toArray.setIfInBounds k v = (stvs (lowT names (k + 1))).toArray := by
  subst hv
  rw [List.setIfInBounds_toArray]
  congr 1
  have hg : names.getD k [] = names[k] := by rw [List.getD_eq_getElem?_getD, List.getElem?_eq_getElem h]; rfl
  rw [hg]
  unfold lowT
  rw [stvs_app, stvs_app, List.take_succ_eq_append_getElem h, List.map_append, stvs_app]
  have e1 : (stvs ((names.take k).map fun m => m.map lowB)).length = k := by rw [stvs_len]; simp; omega
  rw [List.set_append_right _ _ (by omega), e1, Nat.sub_self]
  rw [show names.length - k = (names.length - (k + 1)) + 1 from by omega, List.replicate_succ]
  simp [stvs]
theorem made_strs (n : Nat) : madeCells #[Value.string ⟨#[]⟩] n = (stvs (List.replicate n [])).toArray := by
  apply Array.ext
  · rw [size_madeCells]; simp [stvs]
  · intro i h1 h2
    simp [madeCells, stvs, Nat.mod_one]
    rfl
theorem make_strs (n : Nat) (hn : n ≤ 100000) (w : World) : (Instr.makeSlice 38 (.int .i64 (n : Int)) (.int .i64 (n : Int))).run Tryd.prog w = .ok (.slice (some ⟨w.heap.size, 0, none⟩) n n) (w.alloc (.cells (stvs (List.replicate n [])).toArray 9)) := by
  obtain ⟨i, hi, hz0, hz1, hz2⟩ := info_parts (show (Tryd.prog.info? 9).map (fun i => (i.zero, i.size, i.bytes)) = some (some (.string ⟨#[]⟩), 1, 16) from by kernel_rfl)
  rw [run_makeSlice w 38 9 i (.string ⟨#[]⟩) Tryd.underlying38 hi hz0 .i64 .i64 (n : Int) (n : Int) (by omega) (by omega) (by rw [hz1]; omega) (by rw [hz2]; omega) (by omega), hz1, Int.toNat_natCast, Nat.mul_one, ← made_strs]
  rfl
theorem OwnH.mono {w : World} {b b' : Nat} {v : Value} {l : List HdV} (h : OwnH w b v l) (hb : b' ≤ b) : OwnH w b' v l := by
  rcases h with h | ⟨g, cap, h1, h2⟩
  · exact .inl h
  · exact .inr ⟨g, cap, h1, ⟨Nat.le_trans hb h2.ge, h2.len, h2.row⟩⟩
set_option maxHeartbeats 4000000 in
set_option maxRecDepth 100000 in
theorem without9_any (l : List HdV) (names : List (List UInt8)) (A B : Option Addr) (c d : Nat) (hl : l.length ≤ 100000) (hs : SmallH l) (hn : names.length ≤ 1000) (hns : ∀ t, t < names.length → (names.getD t []).length ≤ 1000000) (w : World) (hA : HdsAt w A l) (hB : StrsAt w B names) : Calls Tryd.prog 22 #[.slice A l.length c, .slice B names.length d] w fun e w' => ∃ v, e = .returned v ∧ OwnH w' w.heap.size v (withoutH l names) ∧ Below w.heap.size w w' := by
  have HA := hid hA
  have HSM := hid hs
  have HB := hid hB
  have HNS := hid hns
  have HTK := hid (without_take l names)
  have HWL := hid (fun k => Nat.le_trans (without_len (l.take k) names) (by rw [List.length_take]; omega : _ ≤ l.length))
  have HALL : Hid (l.take l.length = l) := List.take_length
  have HLX := hid (fun (x : List UInt8) hx W => lower_any x W hx)
  have HCX := hid (fun (x y : List UInt8) (hx : x.length ≤ 1000000) (hy : y.length ≤ 1000000) W => copied_any x y (by omega) (by omega) W)
  have HLS := hid (lowT_set names)
  have HLE := hid (lowT_end names)
  have HLL := hid (lowT_len names)
  have HL0 : Hid (stvs (List.replicate names.length []) = stvs (lowT names 0)) := by show _ = _; unfold lowT; simp
  have HKM := hid (keep_mem names)
  have HSO : Hid (∀ W, W.heap[w.heap.size]? = some (.cells (stvs (names.map fun m => m.map lowB)).toArray 9 (0, 0)) → Calls Tryd.prog 38 #[.slice (some ⟨w.heap.size, 0, none⟩) names.length names.length] W fun e w' => e = .returned (.tuple #[]) ∧ StrsAt w' (some ⟨w.heap.size, 0, none⟩) (sortT (names.map fun m => m.map lowB)) ∧ Below w.heap.size W w') := fun W h => by
    have := sortS_any (names.map fun m => m.map lowB) w.heap.size w.heap.size names.length (by simp; omega) (Nat.le_refl _) W h
    rwa [List.length_map] at this
  have HSK : Hid (∀ x W, StrsAt W (some ⟨w.heap.size, 0, none⟩) (sortT (names.map fun m => m.map lowB)) → Calls Tryd.prog 39 #[.slice (some ⟨w.heap.size, 0, none⟩) names.length names.length, .string (asS x)] W fun e w' => (∃ K : Int, e = .returned (.tuple #[.int .i64 K, .bool (decide (x ∈ names.map fun m => m.map lowB))])) ∧ Below W.heap.size W w') := fun x W h => by
    have := seekS_any (sortT (names.map fun m => m.map lowB)) (sort_ord _) x w.heap.size names.length (by rw [sort_len]; simp; omega) W h
    rw [sort_len, List.length_map] at this
    rw [show decide (x ∈ names.map fun m => m.map lowB) = decide (x ∈ sortT (names.map fun m => m.map lowB)) from decide_eq_decide.2 (sort_mem _ _).symm]
    exact this
  have hmk := make_strs names.length (by omega) w
  rw [HL0.out] at hmk
  clear hA hs hB hns
  generalize hln : l.length = n at hl HTK HWL HALL ⊢
  have HN := hid hln
  clear hln
  generalize hnn : names.length = m at hn HNS HLS HLE HLL HSO HSK hmk HL0 ⊢
  have HM := hid hnn
  clear hnn HL0
  go_enter Tryd.func22, Tryd.ntmps22
  go_wp2_with fail
  have HR0 := hid (heap_alloc_new w (.cells (stvs (lowT names 0)).toArray 9))
  have HB0 := hid (alloc_below (Below.refl w.heap.size w) (Nat.le_refl _) (.cells (stvs (lowT names 0)).toArray 9))
  clear hmk
  go_loopw [18] (fun i wr => ∃ k : Nat, i = .int .i64 (k : Int) ∧ Hid (k ≤ m) ∧ Hid (wr.heap[w.heap.size]? = some (.cells (stvs (lowT names k)).toArray 9 (0, 0))) ∧ Hid (Below w.heap.size w wr)) (fun i wr => m - (intOf i).toNat)
  case atStart => exact ⟨0, rfl, Nat.zero_le _, HR0, HB0⟩
  case round =>
    obtain ⟨k, rfl, HK, HR, HBw⟩ := hrel
    by_cases hlt : k < m
    · have hi : (k : Int) < (m : Int) := by omega
      obtain ⟨q, o, hq, hqs, hcs⟩ := HB.out (by have := HM.out; omega)
      have k1 := (HBw.out.cell (p := ⟨q, o + k, none⟩) hqs).trans (hcs k (by have := HM.out; omega))
      clear hcs hqs
      subst hq
      have HL2 := hid (fun W => HLX.out (names.getD k []) (HNS.out k hlt) W)
      have HS2 := hid (HLS.out k hlt)
      have HLN := hid (HLL.out k (by omega))
      generalize asS (names.getD k []) = N at k1 HL2
      generalize hLN : asS ((names.getD k []).map lowB) = LN at HL2 HS2
      clear hLN
      have hgs : w.heap.size < wr.heap.size := (Array.getElem?_eq_some_iff.1 HR.out).1
      go_wp2_with fail
      refine (HL2.out _).mono ?_
      rintro e W2 ⟨rfl, hb⟩
      have HR2 := hid ((hb.block w.heap.size hgs).trans HR.out)
      have HB2 := hid (HBw.out.trans (hb.mono HBw.out.size))
      have c1 : ∃ v, W2.cell? ⟨w.heap.size, k, none⟩ = some v := by
        rw [cell_of_row _ _ _ _ _ _ HR2.out, List.getElem?_toArray, List.getElem?_eq_getElem (by rw [stvs_len, HLN.out]; exact hlt)]
        exact ⟨_, rfl⟩
      obtain ⟨v0, c1⟩ := c1
      have f1 : W2.frozen? ⟨w.heap.size, k, none⟩ = false := frozen_of_row _ _ _ _ _ HR2.out
      have HR3 : Hid ((W2.setCell ⟨w.heap.size, k, none⟩ (.string LN)).heap[w.heap.size]? = some (.cells (stvs (lowT names (k + 1))).toArray 9 (0, 0))) := by
        show _ = _
        rw [heap_setCell_same W2 w.heap.size k _ _ _ HR2.out, HS2.out _ rfl]
      have HB3 := hid (HB2.out.setCell (p := ⟨w.heap.size, k, none⟩) (Nat.le_refl _) (.string LN))
      clear hb k1 hgs
      go_wp2_with fail
      go_roundw
      case rel => exact ⟨k + 1, by go_num, hid (by omega), HR3, HB3⟩
      case measure => simp [intOf]; omega
    · have hi : ¬ (k : Int) < (m : Int) := by omega
      have HKE : Hid (lowT names k = names.map fun x => x.map lowB) := HLE.out k (by have := HK.out; omega)
      have HR2 := HR.out
      rw [HKE.out] at HR2
      have HSO2 := hid (HSO.out wr HR2)
      clear HR2 HR
      go_wp2_with fail
      refine HSO2.out.mono ?_
      rintro e V ⟨rfl, hst, hbV⟩
      have HST := hid hst
      have HBV := hid (HBw.out.trans hbV)
      clear hst hbV HSO2 HSO
      go_wp2_with fail
      generalize sortT (names.map fun x => x.map lowB) = srt at HST HSK
      go_loopw [8, 33] (fun v i wz => ∃ j : Nat, i = .int .i64 (j : Int) ∧ Hid (j ≤ n) ∧ Hid (OwnH wz V.heap.size v (withoutH (l.take j) names)) ∧ Hid (Below V.heap.size V wz)) (fun v i wz => n - (intOf i).toNat)
      case atStart => exact ⟨0, rfl, Nat.zero_le _, .inl ⟨rfl, rfl⟩, Below.refl _ _⟩
      case round =>
        obtain ⟨j, rfl, HJ, HO, HBz⟩ := hrel
        obtain ⟨V2, hV2⟩ : ∃ V2, V2 = wr := ⟨_, rfl⟩
        subst hV2
        have HBW := hid (HBV.out.trans (HBz.out.mono HBV.out.size))
        by_cases hlt2 : j < n
        · have hi2 : (j : Int) < (n : Int) := by omega
          have HQ := hid (HA.out (by have := HN.out; omega))
          obtain ⟨q, o, hq, hqs, hcs⟩ := HQ.out
          have hc := hcs j (by have := HN.out; omega)
          have k1 := (HBW.out.cell (p := ⟨q, o + j * 2, none⟩) hqs).trans hc.1
          have k2 := (HBW.out.cell (p := ⟨q, o + j * 2 + 1, none⟩) hqs).trans hc.2
          clear hcs hc hqs HQ
          subst hq
          have hsm := HSM.out j (by have := HN.out; omega)
          unfold hdl at hsm
          have HL2 := hid (fun W => HLX.out (l.getD j zeroH).name (by omega) W)
          have HC2 := hid (fun W => HCX.out (l.getD j zeroH).name (l.getD j zeroH).value (by omega) (by omega) W)
          have HTK2 := hid (HTK.out j hlt2)
          have hlen := HWL.out j
          have HSK2 := hid (fun W h => HSK.out ((l.getD j zeroH).name.map lowB) W h)
          rw [HKM.out] at HSK2
          unfold hcs at HC2
          generalize asS ((l.getD j zeroH).name.map lowB) = LN at HL2 HSK2
          generalize keepH names (l.getD j zeroH) = kp at HTK2 HSK2
          generalize hhd : l.getD j zeroH = hd at k1 k2 HL2 HC2 HTK2
          have HSRH := hid (fun W => src_hd W hd (asS hd.name) (asS hd.value) rfl rfl 1)
          generalize asS hd.name = N at k1 HL2 HC2 HSRH
          generalize asS hd.value = X at k2 HC2 HSRH
          clear hsm hhd
          obtain ⟨AV, cv, hv⟩ := HO.out.shape
          subst hv
          generalize hAK : withoutH (l.take j) names = ak at HO HTK2 hlen
          clear hAK
          generalize hLN : ak.length = L at HO hlen ⊢
          have HLN := hid hLN
          clear hLN
          cases kp
          · have HT3 : Hid (withoutH (l.take (j + 1)) names = ak) := by show _ = _; rw [HTK2.out]; simp
            go_wp2_with fail
            refine (HL2.out _).mono ?_
            rintro e W ⟨rfl, hb⟩
            have HB2 := hid ((alloc_below HBz.out HBz.out.size (.cells #[.string N, .string X] 46)).trans (hb.mono (alloc_below HBz.out HBz.out.size _).size))
            have HO2 := hid ((HO.out.below (alloc_below (Below.refl _ V2) (Nat.le_refl _) (.cells #[.string N, .string X] 46))).below hb)
            clear hb k1 k2
            go_wp2_with fail
            refine (HSK2.out _ (HST.out.below HB2.out (Nat.le_refl _))).mono ?_
            rintro e W3 ⟨⟨K, rfl⟩, hb⟩
            have HB3 := hid (HB2.out.trans (hb.mono HB2.out.size))
            have HO3 := hid (HO2.out.below hb)
            clear hb
            go_wp2_with fail
            go_roundw
            case rel => exact ⟨j + 1, by go_num, hid (by omega), by rw [HT3.out]; exact HO3, HB3⟩
            case measure => simp [intOf]; omega
          · have HT3 : Hid (withoutH (l.take (j + 1)) names = ak ++ [hd]) := by show _ = _; rw [HTK2.out]; simp
            go_wp2_with fail
            refine (HL2.out _).mono ?_
            rintro e W ⟨rfl, hb⟩
            have HB2 := hid ((alloc_below HBz.out HBz.out.size (.cells #[.string N, .string X] 46)).trans (hb.mono (alloc_below HBz.out HBz.out.size _).size))
            have HO2 := hid ((HO.out.below (alloc_below (Below.refl _ V2) (Nat.le_refl _) (.cells #[.string N, .string X] 46))).below hb)
            have HRW := hid ((hb.block V2.heap.size (by simp)).trans (heap_alloc_new V2 (.cells #[.string N, .string X] 46)))
            clear hb k1 k2
            go_wp2_with fail
            refine (HSK2.out _ (HST.out.below HB2.out (Nat.le_refl _))).mono ?_
            rintro e W3 ⟨⟨K, rfl⟩, hb⟩
            have HB3 := hid (HB2.out.trans (hb.mono HB2.out.size))
            have HO3 := hid (HO2.out.below hb)
            have hW3 := (hb.block V2.heap.size (Array.getElem?_eq_some_iff.1 HRW.out).1).trans HRW.out
            have q1 : W3.cell? ⟨V2.heap.size, 0, none⟩ = some (.string N) := cell_of_row _ _ _ _ _ _ hW3
            have q2 : W3.cell? ⟨V2.heap.size, 1, none⟩ = some (.string X) := cell_of_row _ _ _ _ _ _ hW3
            clear hb hW3
            go_wp2_with fail
            refine (HC2.out _).mono ?_
            rintro e W4 ⟨rfl, hb⟩
            have HB4 := hid (HB3.out.trans (hb.mono HB3.out.size))
            have HO4 := hid ((HO3.out.below hb).below (alloc_below (Below.refl _ W4) (Nat.le_refl _) (.cells #[.string N, .string X] 46)))
            have HB5 := hid (alloc_below HB4.out HB4.out.size (.cells #[.string N, .string X] 46))
            have HSR5 := hid (HSRH.out W4)
            have HLE5 : Hid (ak.length + [hd].length ≤ 1000000) := by show _ ≤ _; rw [HLN.out]; simp; omega
            clear hb q1 q2
            go_wp2_with (first
              | (refine wpList_hd rfl _ _ rfl V.heap.size _ _ ak [hd] rfl rfl HO4.out HSR5.out (by simp) HLE5.out HB5.out.size ?_)
              | fail)
            intro v6 W6 hown6 hb6
            have HB6 := hid (HB5.out.trans hb6)
            have HO6 := hid hown6
            clear hown6 hb6
            go_wp2_with fail
            go_roundw
            case rel => exact ⟨j + 1, by go_num, hid (by omega), by rw [HT3.out]; exact HO6, HB6⟩
            case measure => simp [intOf]; omega
        · have hi2 : ¬ (j : Int) < (n : Int) := by omega
          have HKE2 : Hid (l.take j = l) := by
            show _ = _
            rw [show j = n from by have := HJ.out; omega, HALL.out]
          go_wp2_with fail
          go_ret
          exact ⟨_, rfl, by have := HO.out; rw [HKE2.out] at this; exact this.mono HBV.out.size, HBW.out⟩
end Go.Proofs.YtakompbdbmlocaaDoor
