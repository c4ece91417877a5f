
/- What sha.schedule does. -/
import Derived.Test.YtggbianodoneeaaDoorLeaf
import Derived.Test.YtggbianodoneeaaDoorMem
import Derived.Deep.WholeRow
import Derived.Deep.MidRow
import Derived.Deep.RegionHeld3
import Derived.KernelRfl
namespace Go.Proofs.YtggbianodoneeaaDoor
open Go.RowKit

def bcs (b : List UInt8) : Array Value := (b.map fun c => Value.int .u8 c.toNat).toArray
def wvs (l : List UInt32) : List Value := l.map fun x => Value.int .u32 (nv x)
def wcs (l : List UInt32) : Array Value := (wvs l ++ List.replicate (64 - l.length) (Value.int .u32 0)).toArray
def St.cs (s : St) : Array Value := #[Value.int .u32 (nv s.a), .int .u32 (nv s.b), .int .u32 (nv s.c), .int .u32 (nv s.d), .int .u32 (nv s.e), .int .u32 (nv s.f), .int .u32 (nv s.g), .int .u32 (nv s.h)]

theorem bcs_at (b : List UInt8) (j : Nat) (h : j < b.length) : (bcs b)[j]? = some (.int .u8 (b.getD j 0).toNat) := by
  simp [bcs, List.getD_eq_getElem?_getD, h]
theorem wcs_at (l : List UInt32) (j : Nat) (h : j < l.length) : (wcs l)[j]? = some (.int .u32 (nv (l.getD j 0))) := by
  simp [wcs, wvs, List.getD_eq_getElem?_getD, List.getElem?_append, h]
theorem wcs_size (l : List UInt32) (h : l.length ≤ 64) : (wcs l).size = 64 := by simp [wcs, wvs]; omega
theorem wcs_snoc (l : List UInt32) (x : UInt32) (h : l.length < 64) : (wcs l).setIfInBounds l.length (.int .u32 (nv x)) = wcs (l ++ [x]) := by
  unfold wcs wvs
  rw [List.setIfInBounds_toArray, List.set_append_right _ _ (by simp)]
  obtain ⟨m, hm⟩ : ∃ m, 64 - l.length = m + 1 := ⟨64 - l.length - 1, by omega⟩
  have e : 64 - (l ++ [x]).length = m := by simp; omega
  rw [hm, e, List.replicate_succ]
  simp
theorem wvs_one (l : List UInt32) : (wvs l).toArray.all (·.oneCell') = true := by
  refine all_oneCell_toArray fun v hv => ?_
  simp only [wvs, List.mem_map] at hv
  obtain ⟨x, _, rfl⟩ := hv
  rfl
theorem wcs_full (l : List UInt32) (h : l.length = 64) : wcs l = (wvs l).toArray := by simp [wcs, h]

def SchAt (b : List UInt8) (w wr : World) (k : Nat) : Prop :=
  wr.heap[w.heap.size]? = some (.cells (bcs b) 69 (0, 0)) ∧ wr.heap[w.heap.size + 1]? = some (.cells (wcs []) 24 (0, 0)) ∧ wr.heap[w.heap.size + 1 + 1]? = some (.cells (wcs (wl b k)) 24 (0, 0)) ∧ Below w.heap.size w wr

theorem wcs_open (l : List UInt32) (j : Nat) (h : l.length ≤ j) (h2 : j < 64) : (wcs l)[j]? = some (.int .u32 0) := by
  simp [wcs, wvs, List.getElem?_append, List.getElem?_replicate, h]; omega

theorem SchAt.put {b : List UInt8} {w wr : World} {k : Nat} (h : SchAt b w wr k) (hk : k < 64) (x : UInt32) (hx : wl b (k + 1) = wl b k ++ [x]) (n : Nat) :
    SchAt b w ((wr.drewN n).setCell ⟨w.heap.size + 1 + 1, k, none⟩ (.int .u32 (nv x))) (k + 1) := by
  obtain ⟨h1, h2, h3, h4⟩ := h
  refine ⟨?_, ?_, ?_, ?_⟩
  · rw [heap_setCell_other _ _ _ _ (by simp; omega)]; exact h1
  · rw [heap_setCell_other _ _ _ _ (by simp)]; exact h2
  · rw [heap_setCell_same (wr.drewN n) _ k _ 24 _ h3, hx, ← wcs_snoc _ _ (by rw [wl_len]; exact hk), wl_len]
  · exact Below.setCell (p := ⟨w.heap.size + 1 + 1, k, none⟩) (h4.trans (below_drewN _ _ _)) (by simp; omega) _

set_option maxRecDepth 100000 in
set_option maxHeartbeats 1000000 in
theorem schedule_any (b : List UInt8) (hb : b.length = 64) (w : World) :
    Calls Tryd.prog 49 #[.agg (bcs b)] w fun e w' => e = .returned (.agg (wvs (wl b 64)).toArray) ∧ Below w.heap.size w w' := by
  have HB : Hid (b.length = 64) := hb
  generalize hL : wl b 64 = L
  have HL : Hid (∀ k, k = 64 → wl b k = L) := fun k hk => by rw [hk]; exact hL
  have HN : Hid (L.length = 64) := by show _ = _; rw [← hL, wl_len]
  clear hb hL
  go_enter Tryd.func49, Tryd.ntmps49
  go_wp2
  go_loopw [7] (fun i wr => ∃ k : Nat, k ≤ 64 ∧ i = .int .i64 k ∧ Hid (SchAt b w wr k)) (fun i _ => 64 - (intOf i).toNat)
  case atStart =>
    refine ⟨0, by omega, rfl, ?_, ?_, ?_, ?_⟩
    · exact heap3_0 _ _ _ _
    · exact heap3_1 _ _ _ _
    · exact heap3_2 _ _ _ _
    · exact (((Below.refl _ _).alloc (Nat.le_refl _) _).alloc (by simp) _).alloc (by simp; omega) _
  case round =>
    obtain ⟨k, hk, rfl, HS⟩ := hrel
    by_cases hlt : k < 64
    · by_cases h16 : k < 16
      · have hc : ∀ j, j < 64 → wr.cell? ⟨w.heap.size, j, none⟩ = some (.int .u8 (b.getD j 0).toNat) := fun j hj => by
          rw [cell_of_row _ _ _ _ _ _ HS.out.1, bcs_at _ _ (by rw [HB.out]; exact hj)]
        have c0 := hc (4 * k) (by omega)
        have c1 := hc (4 * k + 1) (by omega)
        have c2 := hc (4 * k + 2) (by omega)
        have c3 := hc (4 * k + 3) (by omega)
        clear hc
        have hsl := slice_from (P := Tryd.prog) 69 64 5 Tryd.underlying69 Tryd.sizeOf5 w.heap.size 0 (4 * k) (4 * (k : Int)) (by omega) (by omega)
        simp only [Nat.zero_add] at hsl
        go_wp2_with fail
        refine (readWord_any _ _ _ _ _ _ _ _ _ (by omega) c0 c1 c2 c3).mono ?_
        rintro e w' ⟨rfl, n, rfl⟩
        clear c0 c1 c2 c3 hsl
        have hcW : wr.cell? ⟨w.heap.size + 1 + 1, k, none⟩ = some (.int .u32 0) := by
          rw [cell_of_row _ _ _ _ _ _ HS.out.2.2.1, wcs_open _ _ (by rw [wl_len]; exact Nat.le_refl _) hlt]
        have hfW : wr.frozen? ⟨w.heap.size + 1 + 1, k, none⟩ = false := frozen_of_row _ _ _ _ _ HS.out.2.2.1
        have HW : Hid (wl b (k + 1) = wl b k ++ [wordOf b k]) := by show _ = _; rw [wl, if_pos h16]
        go_wp2_with fail
        go_roundw
        case rel => exact ⟨k + 1, by omega, by go_num, SchAt.put HS.out hlt _ HW.out n⟩
        case measure => simp [intOf]; omega
      · have hc : ∀ j, j < k → wr.cell? ⟨w.heap.size + 1 + 1, j, none⟩ = some (.int .u32 (nv ((wl b k).getD j 0))) := fun j hj => by
          rw [cell_of_row _ _ _ _ _ _ HS.out.2.2.1, wcs_at _ _ (by rw [wl_len]; exact hj)]
        obtain ⟨x2, e2⟩ : ∃ x, Hid (x = (wl b k).getD (k - 2) 0) := ⟨_, rfl⟩
        obtain ⟨x15, e15⟩ : ∃ x, Hid (x = (wl b k).getD (k - 15) 0) := ⟨_, rfl⟩
        obtain ⟨x7, e7⟩ : ∃ x, Hid (x = (wl b k).getD (k - 7) 0) := ⟨_, rfl⟩
        obtain ⟨x16, e16⟩ : ∃ x, Hid (x = (wl b k).getD (k - 16) 0) := ⟨_, rfl⟩
        have c2 := hc (k - 2) (by omega)
        have c15 := hc (k - 15) (by omega)
        have c7 := hc (k - 7) (by omega)
        have c16 := hc (k - 16) (by omega)
        rw [← e2.out] at c2
        rw [← e15.out] at c15
        rw [← e7.out] at c7
        rw [← e16.out] at c16
        clear hc
        have hcW : wr.cell? ⟨w.heap.size + 1 + 1, k, none⟩ = some (.int .u32 0) := by
          rw [cell_of_row _ _ _ _ _ _ HS.out.2.2.1, wcs_open _ _ (by rw [wl_len]; exact Nat.le_refl _) hlt]
        have hfW : wr.frozen? ⟨w.heap.size + 1 + 1, k, none⟩ = false := frozen_of_row _ _ _ _ _ HS.out.2.2.1
        have HW : Hid (wl b (k + 1) = wl b k ++ [((sig1 x2 + x7) + sig0 x15) + x16]) := by show _ = _; rw [wl, if_neg h16, e2.out, e7.out, e15.out, e16.out]; rfl
        have hx := nv_xor
        have ha := nv_add
        have h10 := nv_shr10
        have h3 := nv_shr3
        go_wp2_with fail
        go_quiet (fail)
        go_wp2_with fail
        refine (right_any x2 17 _ (by omega) (by omega)).mono ?_
        rintro e w' ⟨rfl, rfl⟩
        go_wp2_with fail
        refine (right_any x2 19 _ (by omega) (by omega)).mono ?_
        rintro e w' ⟨rfl, rfl⟩
        go_wp2_with fail
        refine (right_any x15 7 _ (by omega) (by omega)).mono ?_
        rintro e w' ⟨rfl, rfl⟩
        go_wp2_with fail
        refine (right_any x15 18 _ (by omega) (by omega)).mono ?_
        rintro e w' ⟨rfl, rfl⟩
        go_wp2_with fail
        have b1 : (0 : Int) ≤ (k : Int) - 7 := by omega
        have b2 : (k : Int) - 7 < 64 := by omega
        have b3 : (0 : Int) ≤ (k : Int) - 16 := by omega
        have b4 : (k : Int) - 16 < 64 := by omega
        have b5 : (0 : Int) ≤ (k : Int) := by omega
        have b6 : (k : Int) < 64 := by omega
        have b7 : IntKind.i64.wrap ((k : Int) - 7) = (k : Int) - 7 := by rw [IntKind.wrap_i64]; omega
        have b8 : IntKind.i64.wrap ((k : Int) - 16) = (k : Int) - 16 := by rw [IntKind.wrap_i64]; omega
        have b9 : ((k : Int) - 7).toNat = k - 7 := by omega
        have b10 : ((k : Int) - 16).toNat = k - 16 := by omega
        clear e2 e15 e7 e16
        go_region
        go_wp2_with fail
        go_roundw
        case rel => exact ⟨k + 1, by omega, by go_num, SchAt.put HS.out hlt _ HW.out _⟩
        case measure => simp [intOf]; omega
    · obtain ⟨h1, h2, h3, h4⟩ := HS.out
      rw [HL.out k (by omega), wcs_full L HN.out] at h3
      have hi : (Tryd.prog.info? 24).map (·.size) = some (wvs L).toArray.size := by
        have : (Tryd.prog.info? 24).map (·.size) = some 64 := by kernel_rfl
        rw [this]; simp [wvs, HN.out]
      have H1 := hid h2
      have H2 := hid h3
      have H4 := hid h4
      have HI := hid hi
      have HT := hid (there_row h2 0 (wvs L).toArray.size (by simp [wcs, wvs, HN.out]))
      have HO := hid (wvs_one L)
      clear h1 h2 h3 h4 HS hi
      go_wp2_with (first
        | (refine wpList_load_row rfl 24 (.tmp 3) rfl (w.heap.size + 1 + 1) rfl 24 (wvs L).toArray (0, 0) (.array 64 22) H2.out Tryd.underlying24 rfl HI.out ?_)
        | (refine wpList_store_mid rfl 24 (.tmp 2) (.tmp 58) rfl (w.heap.size + 1) 0 (wvs L).toArray rfl rfl HT.out HI.out HO.out ?_))
      have hg := setCells_heap (w.heap.size + 1) 24 (wvs L) 0 wr (wcs []) H1.out
      rw [show over (wcs []) 0 (wvs L) = (wvs L).toArray from over_whole (wcs []) (wvs L).toArray (by simp [wcs, wvs, HN.out])] at hg
      exact bodyPost_ret (v := .agg (wvs L).toArray) (results_cell_row (p := 2) (ty := 24) Tryd.results49 _ _ (w.heap.size + 1) 24 _ (0, 0) (.array 64 22) rfl hg Tryd.underlying24 rfl HI.out) rfl ⟨rfl, setCells_below _ _ (by omega) _ _ _ _ H4.out⟩

end Go.Proofs.YtggbianodoneeaaDoor
