
/- Headers without names, and with one set: sorting, searching, Without, Set. -/
import Derived.Test.YtclonnpglikddaaGreatDoorHdAll
import Derived.Sort.OwnSorted
import Derived.Lib.QuietBelow
namespace Go.Proofs.YtclonnpglikddaaGreatDoor
set_option linter.unusedVariables false
set_option linter.unusedSimpArgs false
open Go.RowKit Go.BigFrame

def sortT (ss : List (List UInt8)) : List (List UInt8) := ss.mergeSort fun x y => decide (x ≤ y)
theorem sort_len (ss : List (List UInt8)) : (sortT ss).length = ss.length := List.length_mergeSort ss
theorem sort_mem (ss : List (List UInt8)) (x : List UInt8) : x ∈ sortT ss ↔ x ∈ ss := List.mem_mergeSort
theorem lt_le_trans (a b c : List UInt8) (h1 : a < b) (h2 : ¬ c < b) : a < c := by
  by_cases h : a < c
  · exact h
  · exact absurd (List.lt_of_le_of_lt (show c ≤ a from h) h1) h2
theorem le_anti (a b : List UInt8) (h1 : ¬ a < b) (h2 : ¬ b < a) : a = b := List.le_antisymm (show a ≤ b from h2) (show b ≤ a from h1)
theorem sort_ord (ss : List (List UInt8)) : (sortT ss).Pairwise fun a b => ¬ b < a := by
  have h := List.pairwise_mergeSort (le := fun x y : List UInt8 => decide (x ≤ y)) (fun a b c h1 h2 => by
    simp only [decide_eq_true_eq] at *
    exact List.le_trans h1 h2) (fun a b => by
    simp only [Bool.or_eq_true, decide_eq_true_eq]
    exact List.le_total a b) ss
  exact h.imp fun {a b} hab => by simpa using hab
def sxT (ys : List (List UInt8)) (x : List UInt8) (t : Nat) : ByteArray := if t < ys.length then asS (ys.getD t []) else asS x
theorem ba_list (x : List UInt8) : (asS x).toList = x := by rw [ByteArray.toList_eq]; rfl
theorem seek_spec (ys : List (List UInt8)) (hs : ys.Pairwise fun a b => ¬ b < a) (x : List UInt8) : ∃ K, Lib.bsGo (fun t => Op.bytesLess (sxT ys x t).toList (asS x).toList) ys.length 0 ys.length = K ∧ decide (K < ys.length ∧ sxT ys x K = asS x) = decide (x ∈ ys) := by
  have hat : ∀ t, t < ys.length → ys.getD t [] ∈ ys := fun t ht => by
    rw [List.getD_eq_getElem?_getD, List.getElem?_eq_getElem ht]; exact List.getElem_mem ht
  have hord : ∀ i j, i < j → j < ys.length → ¬ ys.getD j [] < ys.getD i [] := fun i j hij hj => by
    have := List.pairwise_iff_getElem.1 hs i j (by omega) hj hij
    rw [List.getD_eq_getElem?_getD, List.getElem?_eq_getElem hj, List.getD_eq_getElem?_getD, List.getElem?_eq_getElem (by omega)]
    exact this
  have hless : ∀ t, Op.bytesLess (sxT ys x t).toList (asS x).toList = if t < ys.length then decide (ys.getD t [] < x) else false := fun t => by
    unfold sxT
    split
    · rw [ba_list, ba_list, bytesLess_eq]
    · rw [ba_list, bytesLess_eq]
      exact decide_eq_false (List.lt_irrefl x)
  have hKn : ys.findIdx (fun y => !decide (y < x)) ≤ ys.length := List.findIdx_le_length
  have hbefore : ∀ t, t < ys.findIdx (fun y => !decide (y < x)) → ys.getD t [] < x := fun t ht => by
    have := List.not_of_lt_findIdx ht
    rw [List.getD_eq_getElem?_getD, List.getElem?_eq_getElem (by omega)]
    simpa using this
  have hatK : ys.findIdx (fun y => !decide (y < x)) < ys.length → ¬ ys.getD (ys.findIdx (fun y => !decide (y < x))) [] < x := fun hK => by
    have := List.findIdx_getElem (w := hK)
    rw [List.getD_eq_getElem?_getD, List.getElem?_eq_getElem hK]
    simpa using this
  generalize ys.findIdx (fun y => !decide (y < x)) = K at hKn hbefore hatK
  refine ⟨K, ?_, ?_⟩
  · refine Lib.bsGo_spec _ K (fun t ht => ?_) (fun t ht => ?_) ys.length 0 ys.length (by omega) (by omega) hKn
    · show Op.bytesLess _ _ = true
      rw [hless, if_pos (by omega)]
      exact decide_eq_true (hbefore t ht)
    · show Op.bytesLess _ _ = false
      rw [hless]
      by_cases htn : t < ys.length
      · rw [if_pos htn]
        refine decide_eq_false fun hlt => ?_
        have hK := hatK (by omega)
        rcases Nat.eq_or_lt_of_le ht with rfl | hlt2
        · exact hK hlt
        · exact hord K t hlt2 htn (lt_le_trans _ _ _ hlt hK)
      · rw [if_neg htn]
  · refine decide_eq_decide.2 ⟨fun ⟨h1, h2⟩ => ?_, fun h => ?_⟩
    · unfold sxT at h2
      rw [if_pos h1] at h2
      have h3 := (asS_inj _ _).1 h2
      rw [← h3]; exact hat K h1
    · obtain ⟨t, ht, e⟩ := List.getElem_of_mem h
      have hte : ys.getD t [] = x := by rw [List.getD_eq_getElem?_getD, List.getElem?_eq_getElem ht]; exact e
      have hKt : K ≤ t := by
        rcases Nat.lt_or_ge t K with h1 | h1
        · have := hbefore t h1
          rw [hte] at this
          exact absurd this (List.lt_irrefl x)
        · exact h1
      have hK : K < ys.length := by omega
      refine ⟨hK, ?_⟩
      unfold sxT
      rw [if_pos hK]
      congr 1
      have h1 := hatK hK
      rcases Nat.eq_or_lt_of_le hKt with rfl | hlt2
      · exact hte
      · have h2 := hord K t hlt2 ht
        rw [hte] at h2
        exact le_anti _ _ h1 h2
theorem arr_str (ss : List (List UInt8)) (j : Nat) (h : j < ss.length) : ss.toArray[j]! = ss.getD j [] := by
  rw [getElem!_pos ss.toArray j (by simpa using h), List.getD_eq_getElem?_getD, List.getElem?_eq_getElem h]
  rfl
/-- slices.Sort at a row of texts of one's own. -/
theorem sortS_any (ss : List (List UInt8)) (b g cap : Nat) (hl : ss.length ≤ 1000000) (hbg : b ≤ g) (w : World) (hrow : w.heap[g]? = some (.cells (stvs ss).toArray 9 (0, 0))) : Calls Tryz.prog 132 #[.slice (some ⟨g, 0, none⟩) ss.length cap] w fun e w' => e = .returned (.tuple #[]) ∧ StrsAt w' (some ⟨g, 0, none⟩) (sortT ss) ∧ Below b w w' := by
  have hg : g < w.heap.size := (Array.getElem?_eq_some_iff.1 hrow).1
  have hH : Sort.Holds encStr w g 0 ss.toArray := fun j hj => by
    have hj' : j < ss.length := by simpa using hj
    refine ⟨?_, frozen_of_row _ _ _ _ _ hrow⟩
    rw [Nat.zero_add, cell_of_row _ _ _ _ _ _ hrow, List.getElem?_toArray, stvs_at ss j hj']
    rw [arr_str ss j hj']
    rfl
  refine (Tryz.slices_Sort_string g 0 cap ss w hH hg (by omega)).mono ?_
  rintro e w' ⟨rfl, n, os, rfl⟩
  have hH2 := Sort.holds_putRow encStr (Sort.ahead w n) g 0 ss.toArray (sortT ss).toArray hH (by simp [sort_len])
  refine ⟨rfl, fun _ => ⟨g, 0, rfl, ?_, fun j hj => ?_⟩, (Below.refl b w).grown (Go.grownBy_sorted (sortT ss).toArray) (Nat.le_trans hbg (Nat.le_of_lt hg)) (fun k hk => by cases hk; exact hbg)⟩
  · have := (Go.grownBy_sorted (w := w) (g := g) (n := n) (os := os) (sortT ss).toArray).size
    exact Nat.lt_of_lt_of_le hg this
  · have h1 := (hH2 j (by simpa using hj)).1
    have h2 : (Sort.grow (Sort.putRow encStr (Sort.ahead w n) g 0 (sortT ss).toArray) os).cell? ⟨g, 0 + j, none⟩ = (Sort.putRow encStr (Sort.ahead w n) g 0 (sortT ss).toArray).cell? ⟨g, 0 + j, none⟩ := by
      unfold World.cell?
      rw [show (Sort.grow (Sort.putRow encStr (Sort.ahead w n) g 0 (sortT ss).toArray) os).heap[g]? = (Sort.putRow encStr (Sort.ahead w n) g 0 (sortT ss).toArray).heap[g]? from Sort.heap_grow_old _ _ (by simpa using hg)]
    refine h2.trans (h1.trans ?_)
    rw [arr_str (sortT ss) j hj]
    rfl
theorem seekS_any (ys : List (List UInt8)) (hs : ys.Pairwise fun a b => ¬ b < a) (x : List UInt8) (g c : Nat) (hl : ys.length ≤ 1000000) (w : World) (hA : StrsAt w (some ⟨g, 0, none⟩) ys) : Calls Tryz.prog 133 #[.slice (some ⟨g, 0, none⟩) ys.length c, .string (asS x)] w fun e w' => (∃ K : Int, e = .returned (.tuple #[.int .i64 K, .bool (decide (x ∈ ys))])) ∧ Below w.heap.size w w' := by
  obtain ⟨K, h1, h2⟩ := seek_spec ys hs x
  refine (Tryz.slices_BinarySearch_string g 0 ys.length c (sxT ys x) (asS x) w (by omega) (fun j hj => ?_)).mono ?_
  · obtain ⟨q, o, e, _, hc⟩ := hA (by omega)
    cases e
    rw [hc j hj]
    unfold sxT
    rw [if_pos hj]
  · rintro e w' ⟨rfl, q, rfl⟩
    refine ⟨⟨K, ?_⟩, below_drewN _ _ _⟩
    rw [h1, h2]
end Go.Proofs.YtclonnpglikddaaGreatDoor
namespace Go.Proofs.YtclonnpglikddaaGreatDoor
set_option linter.unusedVariables false
set_option linter.unusedSimpArgs false
open Go.RowKit Go.BigFrame

def keepH (names : List (List UInt8)) (h : HdV) : Bool := names.all fun m => !likeH h.name m
def withoutH (l : List HdV) (names : List (List UInt8)) : List HdV := l.filter (keepH names)
theorem without_take (l : List HdV) (names : List (List UInt8)) (k : Nat) (h : k < l.length) : withoutH (l.take (k + 1)) names = withoutH (l.take k) names ++ (if keepH names (l.getD k zeroH) then [l.getD k zeroH] else []) := by
  rw [take_hd l k h]
  unfold withoutH
  rw [List.filter_append]
  congr 1
  rw [List.filter_cons, List.filter_nil]
theorem without_len (l : List HdV) (names : List (List UInt8)) : (withoutH l names).length ≤ l.length := List.length_filter_le _ _
theorem keep_mem (names : List (List UInt8)) (h : HdV) : decide (h.name.map lowB ∈ names.map fun m => m.map lowB) = !keepH names h := by
  unfold keepH
  cases hk : names.all fun m => !likeH h.name m with
  | true =>
    rw [List.all_eq_true] at hk
    refine decide_eq_false fun hm => ?_
    rw [List.mem_map] at hm
    obtain ⟨m, h1, h2⟩ := hm
    have := hk m h1
    unfold likeH at this
    rw [decide_eq_true h2.symm] at this
    cases this
  | false =>
    refine decide_eq_true ?_
    rw [List.all_eq_false] at hk
    obtain ⟨m, h1, h2⟩ := hk
    unfold likeH at h2
    rw [List.mem_map]
    refine ⟨m, h1, ?_⟩
    by_cases e : h.name.map lowB = m.map lowB
    · exact e.symm
    · rw [decide_eq_false e] at h2
      exact absurd rfl h2
def lowT (names : List (List UInt8)) (k : Nat) : List (List UInt8) := (names.take k).map (fun m => m.map lowB) ++ List.replicate (names.length - k) []
theorem lowT_len (names : List (List UInt8)) (k : Nat) (h : k ≤ names.length) : (lowT names k).length = names.length := by
  unfold lowT; simp; omega
theorem lowT_end (names : List (List UInt8)) (k : Nat) (h : k = names.length) : lowT names k = names.map fun m => m.map lowB := by
  subst h; unfold lowT; simp
theorem lowT_set (names : List (List UInt8)) (k : Nat) (h : k < names.length) (v : Value) (hv : v = .string (asS ((names.getD k []).map lowB))) : (stvs (lowT names k)).toArray.setIfInBounds k v = (stvs (lowT names (k + 1))).toArray := by
  subst hv
  rw [List.setIfInBounds_toArray]
  congr 1
  have hg : names.getD k [] = names[k] := by rw [List.getD_eq_getElem?_getD, List.getElem?_eq_getElem h]; rfl
  rw [hg]
  unfold lowT
  rw [stvs_app, stvs_app, List.take_succ_eq_append_getElem h, List.map_append, stvs_app]
  have e1 : (stvs ((names.take k).map fun m => m.map lowB)).length = k := by rw [stvs_len]; simp; omega
  rw [List.set_append_right _ _ (by omega), e1, Nat.sub_self]
  rw [show names.length - k = (names.length - (k + 1)) + 1 from by omega, List.replicate_succ]
  simp [stvs]
theorem made_strs (n : Nat) : madeCells #[Value.string ⟨#[]⟩] n = (stvs (List.replicate n [])).toArray := by
  apply Array.ext
  · rw [size_madeCells]; simp [stvs]
  · intro i h1 h2
    simp [madeCells, stvs, Nat.mod_one]
    rfl
theorem make_strs (n : Nat) (hn : n ≤ 100000) (w : World) : (Instr.makeSlice 75 (.int .i64 (n : Int)) (.int .i64 (n : Int))).run Tryz.prog w = .ok (.slice (some ⟨w.heap.size, 0, none⟩) n n) (w.alloc (.cells (stvs (List.replicate n [])).toArray 9)) := by
  obtain ⟨i, hi, hz0, hz1, hz2⟩ := info_parts (show (Tryz.prog.info? 9).map (fun i => (i.zero, i.size, i.bytes)) = some (some (.string ⟨#[]⟩), 1, 16) from by kernel_rfl)
  rw [run_makeSlice w 75 9 i (.string ⟨#[]⟩) Tryz.underlying75 hi hz0 .i64 .i64 (n : Int) (n : Int) (by omega) (by omega) (by rw [hz1]; omega) (by rw [hz2]; omega) (by omega), hz1, Int.toNat_natCast, Nat.mul_one, ← made_strs]
  rfl
theorem OwnH.mono {w : World} {b b' : Nat} {v : Value} {l : List HdV} (h : OwnH w b v l) (hb : b' ≤ b) : OwnH w b' v l := by
  rcases h with h | ⟨g, cap, h1, h2⟩
  · exact .inl h
  · exact .inr ⟨g, cap, h1, ⟨Nat.le_trans hb h2.ge, h2.len, h2.row⟩⟩
set_option maxHeartbeats 4000000 in
set_option maxRecDepth 100000 in
theorem without9_any (l : List HdV) (names : List (List UInt8)) (A B : Option Addr) (c d : Nat) (hl : l.length ≤ 100000) (hs : SmallH l) (hn : names.length ≤ 1000) (hns : ∀ t, t < names.length → (names.getD t []).length ≤ 1000000) (w : World) (hA : HdsAt w A l) (hB : StrsAt w B names) : Calls Tryz.prog 103 #[.slice A l.length c, .slice B names.length d] w fun e w' => ∃ v, e = .returned v ∧ OwnH w' w.heap.size v (withoutH l names) ∧ Below w.heap.size w w' := by
  have HA := hid hA
  have HSM := hid hs
  have HB := hid hB
  have HNS := hid hns
  have HTK := hid (without_take l names)
  have HWL := hid (fun k => Nat.le_trans (without_len (l.take k) names) (by rw [List.length_take]; omega : _ ≤ l.length))
  have HALL : Hid (l.take l.length = l) := List.take_length
  have HLX := hid (fun (x : List UInt8) hx W => lower_any x W hx)
  have HCX := hid (fun (x y : List UInt8) (hx : x.length ≤ 1000000) (hy : y.length ≤ 1000000) W => copied_any x y (by omega) (by omega) W)
  have HLS := hid (lowT_set names)
  have HLE := hid (lowT_end names)
  have HLL := hid (lowT_len names)
  have HL0 : Hid (stvs (List.replicate names.length []) = stvs (lowT names 0)) := by show _ = _; unfold lowT; simp
  have HKM := hid (keep_mem names)
  have HSO : Hid (∀ W, W.heap[w.heap.size]? = some (.cells (stvs (names.map fun m => m.map lowB)).toArray 9 (0, 0)) → Calls Tryz.prog 132 #[.slice (some ⟨w.heap.size, 0, none⟩) names.length names.length] W fun e w' => e = .returned (.tuple #[]) ∧ StrsAt w' (some ⟨w.heap.size, 0, none⟩) (sortT (names.map fun m => m.map lowB)) ∧ Below w.heap.size W w') := fun W h => by
    have := sortS_any (names.map fun m => m.map lowB) w.heap.size w.heap.size names.length (by simp; omega) (Nat.le_refl _) W h
    rwa [List.length_map] at this
  have HSK : Hid (∀ x W, StrsAt W (some ⟨w.heap.size, 0, none⟩) (sortT (names.map fun m => m.map lowB)) → Calls Tryz.prog 133 #[.slice (some ⟨w.heap.size, 0, none⟩) names.length names.length, .string (asS x)] W fun e w' => (∃ K : Int, e = .returned (.tuple #[.int .i64 K, .bool (decide (x ∈ names.map fun m => m.map lowB))])) ∧ Below W.heap.size W w') := fun x W h => by
    have := seekS_any (sortT (names.map fun m => m.map lowB)) (sort_ord _) x w.heap.size names.length (by rw [sort_len]; simp; omega) W h
    rw [sort_len, List.length_map] at this
    rw [show decide (x ∈ names.map fun m => m.map lowB) = decide (x ∈ sortT (names.map fun m => m.map lowB)) from decide_eq_decide.2 (sort_mem _ _).symm]
    exact this
  have hmk := make_strs names.length (by omega) w
  rw [HL0.out] at hmk
  clear hA hs hB hns
  generalize hln : l.length = n at hl HTK HWL HALL ⊢
  have HN := hid hln
  clear hln
  generalize hnn : names.length = m at hn HNS HLS HLE HLL HSO HSK hmk HL0 ⊢
  have HM := hid hnn
  clear hnn HL0
  go_enter Tryz.func103, Tryz.ntmps103
  go_wp2_with fail
  have HR0 := hid (heap_alloc_new w (.cells (stvs (lowT names 0)).toArray 9))
  have HB0 := hid (alloc_below (Below.refl w.heap.size w) (Nat.le_refl _) (.cells (stvs (lowT names 0)).toArray 9))
  clear hmk
  go_loopw [18] (fun i wr => ∃ k : Nat, i = .int .i64 (k : Int) ∧ Hid (k ≤ m) ∧ Hid (wr.heap[w.heap.size]? = some (.cells (stvs (lowT names k)).toArray 9 (0, 0))) ∧ Hid (Below w.heap.size w wr)) (fun i wr => m - (intOf i).toNat)
  case atStart => exact ⟨0, rfl, Nat.zero_le _, HR0, HB0⟩
  case round =>
    obtain ⟨k, rfl, HK, HR, HBw⟩ := hrel
    by_cases hlt : k < m
    · have hi : (k : Int) < (m : Int) := by omega
      obtain ⟨q, o, hq, hqs, hcs⟩ := HB.out (by have := HM.out; omega)
      have k1 := (HBw.out.cell (p := ⟨q, o + k, none⟩) hqs).trans (hcs k (by have := HM.out; omega))
      clear hcs hqs
      subst hq
      have HL2 := hid (fun W => HLX.out (names.getD k []) (HNS.out k hlt) W)
      have HS2 := hid (HLS.out k hlt)
      have HLN := hid (HLL.out k (by omega))
      generalize asS (names.getD k []) = N at k1 HL2
      generalize hLN : asS ((names.getD k []).map lowB) = LN at HL2 HS2
      clear hLN
      have hgs : w.heap.size < wr.heap.size := (Array.getElem?_eq_some_iff.1 HR.out).1
      go_wp2_with fail
      refine (HL2.out _).mono ?_
      rintro e W2 ⟨rfl, hb⟩
      have HR2 := hid ((hb.block w.heap.size hgs).trans HR.out)
      have HB2 := hid (HBw.out.trans (hb.mono HBw.out.size))
      have c1 : ∃ v, W2.cell? ⟨w.heap.size, k, none⟩ = some v := by
        rw [cell_of_row _ _ _ _ _ _ HR2.out, List.getElem?_toArray, List.getElem?_eq_getElem (by rw [stvs_len, HLN.out]; exact hlt)]
        exact ⟨_, rfl⟩
      obtain ⟨v0, c1⟩ := c1
      have f1 : W2.frozen? ⟨w.heap.size, k, none⟩ = false := frozen_of_row _ _ _ _ _ HR2.out
      have HR3 : Hid ((W2.setCell ⟨w.heap.size, k, none⟩ (.string LN)).heap[w.heap.size]? = some (.cells (stvs (lowT names (k + 1))).toArray 9 (0, 0))) := by
        show _ = _
        rw [heap_setCell_same W2 w.heap.size k _ _ _ HR2.out, HS2.out _ rfl]
      have HB3 := hid (HB2.out.setCell (p := ⟨w.heap.size, k, none⟩) (Nat.le_refl _) (.string LN))
      clear hb k1 hgs
      go_wp2_with fail
      go_roundw
      case rel => exact ⟨k + 1, by go_num, hid (by omega), HR3, HB3⟩
      case measure => simp [intOf]; omega
    · have hi : ¬ (k : Int) < (m : Int) := by omega
      have HKE : Hid (lowT names k = names.map fun x => x.map lowB) := HLE.out k (by have := HK.out; omega)
      have HR2 := HR.out
      rw [HKE.out] at HR2
      have HSO2 := hid (HSO.out wr HR2)
      clear HR2 HR
      go_wp2_with fail
      refine HSO2.out.mono ?_
      rintro e V ⟨rfl, hst, hbV⟩
      have HST := hid hst
      have HBV := hid (HBw.out.trans hbV)
      clear hst hbV HSO2 HSO
      go_wp2_with fail
      generalize sortT (names.map fun x => x.map lowB) = srt at HST HSK
      go_loopw [8, 33] (fun v i wz => ∃ j : Nat, i = .int .i64 (j : Int) ∧ Hid (j ≤ n) ∧ Hid (OwnH wz V.heap.size v (withoutH (l.take j) names)) ∧ Hid (Below V.heap.size V wz)) (fun v i wz => n - (intOf i).toNat)
      case atStart => exact ⟨0, rfl, Nat.zero_le _, .inl ⟨rfl, rfl⟩, Below.refl _ _⟩
      case round =>
        obtain ⟨j, rfl, HJ, HO, HBz⟩ := hrel
        obtain ⟨V2, hV2⟩ : ∃ V2, V2 = wr := ⟨_, rfl⟩
        subst hV2
        have HBW := hid (HBV.out.trans (HBz.out.mono HBV.out.size))
        by_cases hlt2 : j < n
        · have hi2 : (j : Int) < (n : Int) := by omega
          have HQ := hid (HA.out (by have := HN.out; omega))
          obtain ⟨q, o, hq, hqs, hcs⟩ := HQ.out
          have hc := hcs j (by have := HN.out; omega)
          have k1 := (HBW.out.cell (p := ⟨q, o + j * 2, none⟩) hqs).trans hc.1
          have k2 := (HBW.out.cell (p := ⟨q, o + j * 2 + 1, none⟩) hqs).trans hc.2
          clear hcs hc hqs HQ
          subst hq
          have hsm := HSM.out j (by have := HN.out; omega)
          unfold hdl at hsm
          have HL2 := hid (fun W => HLX.out (l.getD j zeroH).name (by omega) W)
          have HC2 := hid (fun W => HCX.out (l.getD j zeroH).name (l.getD j zeroH).value (by omega) (by omega) W)
          have HTK2 := hid (HTK.out j hlt2)
          have hlen := HWL.out j
          have HSK2 := hid (fun W h => HSK.out ((l.getD j zeroH).name.map lowB) W h)
          rw [HKM.out] at HSK2
          unfold hcs at HC2
          generalize asS ((l.getD j zeroH).name.map lowB) = LN at HL2 HSK2
          generalize keepH names (l.getD j zeroH) = kp at HTK2 HSK2
          generalize hhd : l.getD j zeroH = hd at k1 k2 HL2 HC2 HTK2
          have HSRH := hid (fun W => src_hd W hd (asS hd.name) (asS hd.value) rfl rfl 1)
          generalize asS hd.name = N at k1 HL2 HC2 HSRH
          generalize asS hd.value = X at k2 HC2 HSRH
          clear hsm hhd
          obtain ⟨AV, cv, hv⟩ := HO.out.shape
          subst hv
          generalize hAK : withoutH (l.take j) names = ak at HO HTK2 hlen
          clear hAK
          generalize hLN : ak.length = L at HO hlen ⊢
          have HLN := hid hLN
          clear hLN
          cases kp
          · have HT3 : Hid (withoutH (l.take (j + 1)) names = ak) := by show _ = _; rw [HTK2.out]; simp
            go_wp2_with fail
            refine (HL2.out _).mono ?_
            rintro e W ⟨rfl, hb⟩
            have HB2 := hid ((alloc_below HBz.out HBz.out.size (.cells #[.string N, .string X] 69)).trans (hb.mono (alloc_below HBz.out HBz.out.size _).size))
            have HO2 := hid ((HO.out.below (alloc_below (Below.refl _ V2) (Nat.le_refl _) (.cells #[.string N, .string X] 69))).below hb)
            clear hb k1 k2
            go_wp2_with fail
            refine (HSK2.out _ (HST.out.below HB2.out (Nat.le_refl _))).mono ?_
            rintro e W3 ⟨⟨K, rfl⟩, hb⟩
            have HB3 := hid (HB2.out.trans (hb.mono HB2.out.size))
            have HO3 := hid (HO2.out.below hb)
            clear hb
            go_wp2_with fail
            go_roundw
            case rel => exact ⟨j + 1, by go_num, hid (by omega), by rw [HT3.out]; exact HO3, HB3⟩
            case measure => simp [intOf]; omega
          · have HT3 : Hid (withoutH (l.take (j + 1)) names = ak ++ [hd]) := by show _ = _; rw [HTK2.out]; simp
            go_wp2_with fail
            refine (HL2.out _).mono ?_
            rintro e W ⟨rfl, hb⟩
            have HB2 := hid ((alloc_below HBz.out HBz.out.size (.cells #[.string N, .string X] 69)).trans (hb.mono (alloc_below HBz.out HBz.out.size _).size))
            have HO2 := hid ((HO.out.below (alloc_below (Below.refl _ V2) (Nat.le_refl _) (.cells #[.string N, .string X] 69))).below hb)
            have HRW := hid ((hb.block V2.heap.size (by simp)).trans (heap_alloc_new V2 (.cells #[.string N, .string X] 69)))
            clear hb k1 k2
            go_wp2_with fail
            refine (HSK2.out _ (HST.out.below HB2.out (Nat.le_refl _))).mono ?_
            rintro e W3 ⟨⟨K, rfl⟩, hb⟩
            have HB3 := hid (HB2.out.trans (hb.mono HB2.out.size))
            have HO3 := hid (HO2.out.below hb)
            have hW3 := (hb.block V2.heap.size (Array.getElem?_eq_some_iff.1 HRW.out).1).trans HRW.out
            have q1 : W3.cell? ⟨V2.heap.size, 0, none⟩ = some (.string N) := cell_of_row _ _ _ _ _ _ hW3
            have q2 : W3.cell? ⟨V2.heap.size, 1, none⟩ = some (.string X) := cell_of_row _ _ _ _ _ _ hW3
            clear hb hW3
            go_wp2_with fail
            refine (HC2.out _).mono ?_
            rintro e W4 ⟨rfl, hb⟩
            have HB4 := hid (HB3.out.trans (hb.mono HB3.out.size))
            have HO4 := hid ((HO3.out.below hb).below (alloc_below (Below.refl _ W4) (Nat.le_refl _) (.cells #[.string N, .string X] 69)))
            have HB5 := hid (alloc_below HB4.out HB4.out.size (.cells #[.string N, .string X] 69))
            have HSR5 := hid (HSRH.out W4)
            have HLE5 : Hid (ak.length + [hd].length ≤ 1000000) := by show _ ≤ _; rw [HLN.out]; simp; omega
            clear hb q1 q2
            go_wp2_with (first
              | (refine wpList_hd rfl _ _ rfl V.heap.size _ _ ak [hd] rfl rfl HO4.out HSR5.out (by simp) HLE5.out HB5.out.size ?_)
              | fail)
            intro v6 W6 hown6 hb6
            have HB6 := hid (HB5.out.trans hb6)
            have HO6 := hid hown6
            clear hown6 hb6
            go_wp2_with fail
            go_roundw
            case rel => exact ⟨j + 1, by go_num, hid (by omega), by rw [HT3.out]; exact HO6, HB6⟩
            case measure => simp [intOf]; omega
        · have hi2 : ¬ (j : Int) < (n : Int) := by omega
          have HKE2 : Hid (l.take j = l) := by
            show _ = _
            rw [show j = n from by have := HJ.out; omega, HALL.out]
          go_wp2_with fail
          go_ret
          exact ⟨_, rfl, by have := HO.out; rw [HKE2.out] at this; exact this.mono HBV.out.size, HBW.out⟩
end Go.Proofs.YtclonnpglikddaaGreatDoor
namespace Go.Proofs.YtclonnpglikddaaGreatDoor
set_option linter.unusedVariables false
set_option linter.unusedSimpArgs false
open Go.RowKit Go.BigFrame

abbrev REG (f : Nat) (args : Array Value) (V : World) (x : Value) : Prop := ∀ d os, Calls Tryz.prog f args (Sort.grow (redrawn V d) os) fun e w'' => e = .returned x ∧ ∃ p : Regrown, w'' = Sort.grow (redrawn V p.d) p.os
theorem strs_one (w : World) (x : List UInt8) (N : ByteArray) (hN : N = asS x) : StrsAt (w.alloc (.cells #[.string N] 9)) (some ⟨w.heap.size, 0, none⟩) [x] := fun _ => ⟨w.heap.size, 0, rfl, by simp, fun j hj => by
  obtain rfl : j = 0 := by simp at hj; exact hj
  subst hN
  exact cell_of_row _ _ _ _ _ _ (heap_alloc_new w _)⟩
set_option maxHeartbeats 1000000 in
set_option maxRecDepth 100000 in
theorem set9_any (l : List HdV) (name value : List UInt8) (A : Option Addr) (c : Nat) (hl : l.length ≤ 100000) (hs : SmallH l) (hn : name.length ≤ 1000000) (hv : value.length ≤ 1000000) (w : World) (hA : HdsAt w A l) : Calls Tryz.prog 83 #[.slice A l.length c, .string (asS name), .string (asS value)] w fun e w' => ∃ v, e = .returned v ∧ HdsV w' v (withoutH l [name] ++ [⟨name, value⟩]) ∧ Below w.heap.size w w' := by
  have HA := hid hA
  have HWO : Hid (∀ W, HdsAt W A l → StrsAt W (some ⟨w.heap.size, 0, none⟩) [name] → Calls Tryz.prog 103 #[.slice A l.length c, .slice (some ⟨w.heap.size, 0, none⟩) 1 1] W fun e w' => ∃ v, e = .returned v ∧ OwnH w' W.heap.size v (withoutH l [name]) ∧ Below W.heap.size W w') := fun W h1 h2 => without9_any l [name] A (some ⟨w.heap.size, 0, none⟩) c 1 hl hs (by simp) (fun t ht => by
    obtain rfl : t = 0 := by simp at ht; exact ht
    exact hn) W h1 h2
  have HCP := hid (fun W => copied_any name value (by omega) (by omega) W)
  have HSN := hid (strs_one w name (asS name) rfl)
  have HSR := hid (fun W => src_hd W ⟨name, value⟩ (asS name) (asS value) rfl rfl 1)
  have HLE : Hid ((withoutH l [name]).length + [(⟨name, value⟩ : HdV)].length ≤ 1000000) := by
    have := without_len l [name]
    show _ ≤ _
    simp; omega
  unfold hcs at HCP
  simp only at HCP
  generalize asS name = NA at HCP HSN HSR ⊢
  generalize asS value = VA at HCP HSR ⊢
  generalize l.length = n at HWO ⊢
  clear hA hl hs hn hv
  go_enter Tryz.func83, Tryz.ntmps83
  go_wp2_with fail
  have HB0 := hid (alloc_below (Below.refl w.heap.size w) (Nat.le_refl _) (.cells #[.string NA] 9))
  refine (HWO.out _ (HA.out.below HB0.out (Nat.le_refl _)) HSN.out).mono ?_
  rintro e W1 ⟨v, rfl, hown, hb⟩
  have HB1 := hid (HB0.out.trans (hb.mono HB0.out.size))
  have HO1 := hid (hown.mono HB0.out.size)
  obtain ⟨AV, cv, hsh⟩ := hown.shape
  clear hb hown
  subst hsh
  go_wp2_with fail
  refine (HCP.out _).mono ?_
  rintro e W2 ⟨rfl, hb⟩
  have HB2 := hid (HB1.out.trans (hb.mono HB1.out.size))
  have HO2 := hid ((HO1.out.below hb).below (alloc_below (Below.refl _ W2) (Nat.le_refl _) (.cells #[.string NA, .string VA] 69)))
  have HB3 := hid (alloc_below HB2.out HB2.out.size (.cells #[.string NA, .string VA] 69))
  have HSR3 := hid (HSR.out W2)
  clear hb
  go_wp2_with (first
    | (refine wpList_hd rfl _ _ rfl w.heap.size _ _ (withoutH l [name]) [⟨name, value⟩] rfl rfl HO2.out HSR3.out (by simp) HLE.out HB3.out.size ?_)
    | fail)
  intro v6 W6 hown6 hb6
  have HB6 := hid (HB3.out.trans hb6)
  have HO6 := hid hown6
  clear hown6 hb6
  go_wp2_with fail
  go_ret
  exact ⟨_, rfl, HO6.out.hds, HB6.out⟩
theorem keep_take (names : List (List UInt8)) (nm : List UInt8) (t : Nat) (h : t < names.length) : ((names.take (t + 1)).all fun m => !likeH nm m) = (((names.take t).all fun m => !likeH nm m) && !likeH nm (names.getD t [])) := by
  rw [List.take_succ_eq_append_getElem h, List.all_append, List.getD_eq_getElem?_getD, List.getElem?_eq_getElem h]
  simp
end Go.Proofs.YtclonnpglikddaaGreatDoor
