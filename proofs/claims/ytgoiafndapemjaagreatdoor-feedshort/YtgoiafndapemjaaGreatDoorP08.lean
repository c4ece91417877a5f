import Derived.Test.YtgoiafndapemjaaGreatDoorProg
import Derived.Test.YtgoiafndapemjaaGreatDoorP01
import Derived.Test.YtgoiafndapemjaaGreatDoorP07
import Derived.WalkKit
import Derived.Below
import Derived.Deep.QuietTactic
import Derived.BigQuiet
import Derived.Deep.WholeRow
import Derived.Deep.MidRow
import Derived.Deep.RegionHeld3
import Derived.KernelRfl
set_option linter.unusedVariables false
set_option linter.unusedSimpArgs false
set_option maxHeartbeats 1000000
namespace Go.Proofs.YtgoiafndapemjaaGreatDoor
open Go.RowKit
theorem neg_and_fin : ∀ n : Fin 32, 1 ≤ n.val → bits .and .u64 (IntKind.u64.wrap (-(n.val : Int))) 31 = 32 - (n.val : Int) := by decide +kernel
theorem neg_and (n : Nat) (h1 : 1 ≤ n) (h2 : n ≤ 31) : bits .and .u64 (IntKind.u64.wrap (-(n : Int))) 31 = 32 - (n : Int) := neg_and_fin ⟨n, by omega⟩ h1
theorem rotl_any (x : UInt32) (n : Nat) (w : World) (h1 : 1 ≤ n) (h2 : n ≤ 31) :
  Calls Tryz.prog 215 #[.int .u32 (nv x), .int .i64 (-(n : Int))] w fun e w' => e = .returned (.int .u32 (nv (rotr x n))) ∧ w' = w := by
 have hn := neg_and n h1 h2
 go_enter Tryz.func215, Tryz.ntmps215
 go_wp2
 go_ret
 exact ⟨by simp only [show 32 - (32 - n) = n from by omega, nv_rot]; rfl, rfl⟩
theorem right_any (x : UInt32) (n : Nat) (w : World) (h1 : 1 ≤ n) (h2 : n ≤ 31) :
  Calls Tryz.prog 200 #[.int .u32 (nv x), .int .i64 (n : Int)] w fun e w' => e = .returned (.int .u32 (nv (rotr x n))) ∧ w' = w := by
 go_enter Tryz.func200, Tryz.ntmps200
 go_wp2_with (go_at_call 215; refine (rotl_any x n _ h1 h2).mono ?_; rintro e w' ⟨rfl, rfl⟩)
 go_ret
 exact ⟨rfl, rfl⟩
theorem mixed_any (x : UInt32) (i j k : Nat) (w : World) (hi : 1 ≤ i ∧ i ≤ 31) (hj : 1 ≤ j ∧ j ≤ 31) (hk : 1 ≤ k ∧ k ≤ 31) :
  Calls Tryz.prog 171 #[.int .u32 (nv x), .int .i64 (i : Int), .int .i64 (j : Int), .int .i64 (k : Int)] w fun e w' => e = .returned (.int .u32 (nv ((rotr x i ^^^ rotr x j) ^^^ rotr x k))) ∧ w' = w := by
 have hx := nv_xor
 go_enter Tryz.func171, Tryz.ntmps171
 go_wp2_with fail
 refine (right_any x i _ hi.1 hi.2).mono ?_
 rintro e w' ⟨rfl, rfl⟩
 go_wp2_with fail
 refine (right_any x j _ hj.1 hj.2).mono ?_
 rintro e w' ⟨rfl, rfl⟩
 go_wp2_with fail
 refine (right_any x k _ hk.1 hk.2).mono ?_
 rintro e w' ⟨rfl, rfl⟩
 go_wp2_with fail
 go_ret
 exact ⟨rfl, rfl⟩
theorem readWord_any (g o len cap : Nat) (b0 b1 b2 b3 : UInt8) (w : World) (hl : 4 ≤ len)
  (c0 : w.cell? ⟨g, o, none⟩ = some (.int .u8 b0.toNat)) (c1 : w.cell? ⟨g, o + 1, none⟩ = some (.int .u8 b1.toNat)) (c2 : w.cell? ⟨g, o + 2, none⟩ = some (.int .u8 b2.toNat)) (c3 : w.cell? ⟨g, o + 3, none⟩ = some (.int .u8 b3.toNat)) :
  Calls Tryz.prog 199 #[.slice (some ⟨g, o, none⟩) len cap] w fun e w' => e = .returned (.int .u32 (nv (be4 b0 b1 b2 b3))) ∧ ∃ n, w' = w.drewN n := by
 go_enter Tryz.func199, Tryz.ntmps199
 go_wp2
 go_quiet (fail)
 go_wp2
 go_ret
 exact ⟨by simp only [nv_be4]; rfl, nq, rfl⟩
def put4 (w : World) (g o : Nat) (x : UInt32) : World :=
 (((w.setCell ⟨g, o, none⟩ (.int .u8 (nv x / 16777216 % 256))).setCell ⟨g, o + 1, none⟩ (.int .u8 (nv x / 65536 % 256))).setCell ⟨g, o + 2, none⟩ (.int .u8 (nv x / 256 % 256))).setCell ⟨g, o + 3, none⟩ (.int .u8 (nv x % 256))
theorem putWord_any (g o len cap : Nat) (x : UInt32) (w : World) (hl : 4 ≤ len) (cs : Array Value) (t : TypeId) (hg : w.heap[g]? = some (.cells cs t (0, 0))) (hn : o + 4 ≤ cs.size) :
  Calls Tryz.prog 148 #[.slice (some ⟨g, o, none⟩) len cap, .int .u32 (nv x)] w fun e w' => e = .returned (.tuple #[]) ∧ w' = put4 w g o x := by
 have hc : ∀ j, j < cs.size → ∃ v, w.cell? ⟨g, j, none⟩ = some v := fun j hj => ⟨cs[j], by rw [cell_of_row w g j cs t (0, 0) hg]; simp [hj]⟩
 have hf : ∀ j, w.frozen? ⟨g, j, none⟩ = false := fun j => frozen_of_row w g j cs t hg
 obtain ⟨v0, c0⟩ := hc o (by omega)
 obtain ⟨v1, c1⟩ := hc (o + 1) (by omega)
 obtain ⟨v2, c2⟩ := hc (o + 2) (by omega)
 obtain ⟨v3, c3⟩ := hc (o + 3) (by omega)
 clear hc
 have f0 := hf o
 have f1 := hf (o + 1)
 have f2 := hf (o + 2)
 have f3 := hf (o + 3)
 clear hf hg hn
 go_enter Tryz.func148, Tryz.ntmps148
 go_wp2
 go_end0
 exact ⟨rfl, rfl⟩
def wvs (l : List UInt32) : List Value := l.map fun x => Value.int .u32 (nv x)
def wcs (l : List UInt32) : Array Value := (wvs l ++ List.replicate (64 - l.length) (Value.int .u32 0)).toArray
def St.cs (s : St) : Array Value := #[Value.int .u32 (nv s.a), .int .u32 (nv s.b), .int .u32 (nv s.c), .int .u32 (nv s.d), .int .u32 (nv s.e), .int .u32 (nv s.f), .int .u32 (nv s.g), .int .u32 (nv s.h)]
theorem wcs_at (l : List UInt32) (j : Nat) (h : j < l.length) : (wcs l)[j]? = some (.int .u32 (nv (l.getD j 0))) := by
 simp [wcs, wvs, List.getD_eq_getElem?_getD, List.getElem?_append, h]
theorem wcs_snoc (l : List UInt32) (x : UInt32) (h : l.length < 64) : (wcs l).setIfInBounds l.length (.int .u32 (nv x)) = wcs (l ++ [x]) := by
 unfold wcs wvs
 rw [List.setIfInBounds_toArray, List.set_append_right _ _ (by simp)]
 obtain ⟨m, hm⟩ : ∃ m, 64 - l.length = m + 1 := ⟨64 - l.length - 1, by omega⟩
 have e : 64 - (l ++ [x]).length = m := by simp; omega
 rw [hm, e, List.replicate_succ]
 simp
theorem wvs_one (l : List UInt32) : (wvs l).toArray.all (·.oneCell') = true := by
 refine all_oneCell_toArray fun v hv => ?_
 simp only [wvs, List.mem_map] at hv
 obtain ⟨x, _, rfl⟩ := hv
 rfl
theorem wcs_full (l : List UInt32) (h : l.length = 64) : wcs l = (wvs l).toArray := by simp [wcs, h]
def SchAt (b : List UInt8) (w wr : World) (k : Nat) : Prop :=
 wr.heap[w.heap.size]? = some (.cells (bcs b) 159 (0, 0)) ∧ wr.heap[w.heap.size + 1]? = some (.cells (wcs []) 108 (0, 0)) ∧ wr.heap[w.heap.size + 1 + 1]? = some (.cells (wcs (wl b k)) 108 (0, 0)) ∧ Below w.heap.size w wr
theorem wcs_open (l : List UInt32) (j : Nat) (h : l.length ≤ j) (h2 : j < 64) : (wcs l)[j]? = some (.int .u32 0) := by
 simp [wcs, wvs, List.getElem?_append, List.getElem?_replicate, h]; omega
theorem SchAt.put {b : List UInt8} {w wr : World} {k : Nat} (h : SchAt b w wr k) (hk : k < 64) (x : UInt32) (hx : wl b (k + 1) = wl b k ++ [x]) (n : Nat) :
  SchAt b w ((wr.drewN n).setCell ⟨w.heap.size + 1 + 1, k, none⟩ (.int .u32 (nv x))) (k + 1) := by
 obtain ⟨h1, h2, h3, h4⟩ := h
 refine ⟨?_, ?_, ?_, ?_⟩
 ·rw [heap_setCell_other _ _ _ _ (by simp; omega)]; exact h1
 ·rw [heap_setCell_other _ _ _ _ (by simp)]; exact h2
 ·rw [heap_setCell_same (wr.drewN n) _ k _ 108 _ h3, hx, ← wcs_snoc _ _ (by rw [wl_len]; exact hk), wl_len]
 ·exact Below.setCell (p := ⟨w.heap.size + 1 + 1, k, none⟩) (h4.trans (below_drewN _ _ _)) (by simp; omega) _
set_option maxRecDepth 100000 in
theorem schedule_any (b : List UInt8) (hb : b.length = 64) (w : World) :
  Calls Tryz.prog 170 #[.agg (bcs b)] w fun e w' => e = .returned (.agg (wvs (wl b 64)).toArray) ∧ Below w.heap.size w w' := by
 have HB : Hid (b.length = 64) := hb
 generalize hL : wl b 64 = L
 have HL : Hid (∀ k, k = 64 → wl b k = L) := fun k hk => by rw [hk]; exact hL
 have HN : Hid (L.length = 64) := by show _ = _; rw [← hL, wl_len]
 clear hb hL
 go_enter Tryz.func170, Tryz.ntmps170
 go_wp2
 go_loopw [7] (fun i wr => ∃ k : Nat, k ≤ 64 ∧ i = .int .i64 k ∧ Hid (SchAt b w wr k)) (fun i _ => 64 - (intOf i).toNat)
 case atStart =>
  refine ⟨0, by omega, rfl, ?_, ?_, ?_, ?_⟩
  ·exact heap3_0 _ _ _ _
  ·exact heap3_1 _ _ _ _
  ·exact heap3_2 _ _ _ _
  ·exact (((Below.refl _ _).alloc (Nat.le_refl _) _).alloc (by simp) _).alloc (by simp; omega) _
 case round =>
  obtain ⟨k, hk, rfl, HS⟩ := hrel
  by_cases hlt : k < 64
  ·by_cases h16 : k < 16
   ·have hc : ∀ j, j < 64 → wr.cell? ⟨w.heap.size, j, none⟩ = some (.int .u8 (b.getD j 0).toNat) := fun j hj => by
     rw [cell_of_row _ _ _ _ _ _ HS.out.1, bcs_at _ _ (by rw [HB.out]; exact hj)]
    have c0 := hc (4 * k) (by omega)
    have c1 := hc (4 * k + 1) (by omega)
    have c2 := hc (4 * k + 2) (by omega)
    have c3 := hc (4 * k + 3) (by omega)
    clear hc
    have hsl := slice_from (P := Tryz.prog) 159 64 5 Tryz.underlying159 Tryz.sizeOf5 w.heap.size 0 (4 * k) (4 * (k : Int)) (by omega) (by omega)
    simp only [Nat.zero_add] at hsl
    go_wp2_with fail
    refine (readWord_any _ _ _ _ _ _ _ _ _ (by omega) c0 c1 c2 c3).mono ?_
    rintro e w' ⟨rfl, n, rfl⟩
    clear c0 c1 c2 c3 hsl
    have hcW : wr.cell? ⟨w.heap.size + 1 + 1, k, none⟩ = some (.int .u32 0) := by
     rw [cell_of_row _ _ _ _ _ _ HS.out.2.2.1, wcs_open _ _ (by rw [wl_len]; exact Nat.le_refl _) hlt]
    have hfW : wr.frozen? ⟨w.heap.size + 1 + 1, k, none⟩ = false := frozen_of_row _ _ _ _ _ HS.out.2.2.1
    have HW : Hid (wl b (k + 1) = wl b k ++ [wordOf b k]) := by show _ = _; rw [wl, if_pos h16]
    go_wp2_with fail
    go_roundw
    case rel => exact ⟨k + 1, by omega, by go_num, SchAt.put HS.out hlt _ HW.out n⟩
    case measure => simp [intOf]; omega
   ·have hc : ∀ j, j < k → wr.cell? ⟨w.heap.size + 1 + 1, j, none⟩ = some (.int .u32 (nv ((wl b k).getD j 0))) := fun j hj => by
     rw [cell_of_row _ _ _ _ _ _ HS.out.2.2.1, wcs_at _ _ (by rw [wl_len]; exact hj)]
    obtain ⟨x2, e2⟩ : ∃ x, Hid (x = (wl b k).getD (k - 2) 0) := ⟨_, rfl⟩
    obtain ⟨x15, e15⟩ : ∃ x, Hid (x = (wl b k).getD (k - 15) 0) := ⟨_, rfl⟩
    obtain ⟨x7, e7⟩ : ∃ x, Hid (x = (wl b k).getD (k - 7) 0) := ⟨_, rfl⟩
    obtain ⟨x16, e16⟩ : ∃ x, Hid (x = (wl b k).getD (k - 16) 0) := ⟨_, rfl⟩
    have c2 := hc (k - 2) (by omega)
    have c15 := hc (k - 15) (by omega)
    have c7 := hc (k - 7) (by omega)
    have c16 := hc (k - 16) (by omega)
    rw [← e2.out] at c2
    rw [← e15.out] at c15
    rw [← e7.out] at c7
    rw [← e16.out] at c16
    clear hc
    have hcW : wr.cell? ⟨w.heap.size + 1 + 1, k, none⟩ = some (.int .u32 0) := by
     rw [cell_of_row _ _ _ _ _ _ HS.out.2.2.1, wcs_open _ _ (by rw [wl_len]; exact Nat.le_refl _) hlt]
    have hfW : wr.frozen? ⟨w.heap.size + 1 + 1, k, none⟩ = false := frozen_of_row _ _ _ _ _ HS.out.2.2.1
    have HW : Hid (wl b (k + 1) = wl b k ++ [((sig1 x2 + x7) + sig0 x15) + x16]) := by show _ = _; rw [wl, if_neg h16, e2.out, e7.out, e15.out, e16.out]; rfl
    have hx := nv_xor
    have ha := nv_add
    have h10 := nv_shr10
    have h3 := nv_shr3
    go_wp2_with fail
    go_quiet (fail)
    go_wp2_with fail
    refine (right_any x2 17 _ (by omega) (by omega)).mono ?_
    rintro e w' ⟨rfl, rfl⟩
    go_wp2_with fail
    refine (right_any x2 19 _ (by omega) (by omega)).mono ?_
    rintro e w' ⟨rfl, rfl⟩
    go_wp2_with fail
    refine (right_any x15 7 _ (by omega) (by omega)).mono ?_
    rintro e w' ⟨rfl, rfl⟩
    go_wp2_with fail
    refine (right_any x15 18 _ (by omega) (by omega)).mono ?_
    rintro e w' ⟨rfl, rfl⟩
    go_wp2_with fail
    have b1 : (0 : Int) ≤ (k : Int) - 7 := by omega
    have b2 : (k : Int) - 7 < 64 := by omega
    have b3 : (0 : Int) ≤ (k : Int) - 16 := by omega
    have b4 : (k : Int) - 16 < 64 := by omega
    have b5 : (0 : Int) ≤ (k : Int) := by omega
    have b6 : (k : Int) < 64 := by omega
    have b7 : IntKind.i64.wrap ((k : Int) - 7) = (k : Int) - 7 := by rw [IntKind.wrap_i64]; omega
    have b8 : IntKind.i64.wrap ((k : Int) - 16) = (k : Int) - 16 := by rw [IntKind.wrap_i64]; omega
    have b9 : ((k : Int) - 7).toNat = k - 7 := by omega
    have b10 : ((k : Int) - 16).toNat = k - 16 := by omega
    clear e2 e15 e7 e16
    go_region
    go_wp2_with fail
    go_roundw
    case rel => exact ⟨k + 1, by omega, by go_num, SchAt.put HS.out hlt _ HW.out _⟩
    case measure => simp [intOf]; omega
  ·obtain ⟨h1, h2, h3, h4⟩ := HS.out
   rw [HL.out k (by omega), wcs_full L HN.out] at h3
   have hi : (Tryz.prog.info? 108).map (·.size) = some (wvs L).toArray.size := by
    have : (Tryz.prog.info? 108).map (·.size) = some 64 := by kernel_rfl
    rw [this]; simp [wvs, HN.out]
   have H1 := hid h2
   have H2 := hid h3
   have H4 := hid h4
   have HI := hid hi
   have HT := hid (there_row h2 0 (wvs L).toArray.size (by simp [wcs, wvs, HN.out]))
   have HO := hid (wvs_one L)
   clear h1 h2 h3 h4 HS hi
   go_wp2_with (first
    | (refine wpList_load_row rfl 108 (.tmp 3) rfl (w.heap.size + 1 + 1) rfl 108 (wvs L).toArray (0, 0) (.array 64 106) H2.out Tryz.underlying108 rfl HI.out ?_)
    | (refine wpList_store_mid rfl 108 (.tmp 2) (.tmp 58) rfl (w.heap.size + 1) 0 (wvs L).toArray rfl rfl HT.out HI.out HO.out ?_))
   have hg := setCells_heap (w.heap.size + 1) 108 (wvs L) 0 wr (wcs []) H1.out
   rw [show over (wcs []) 0 (wvs L) = (wvs L).toArray from over_whole (wcs []) (wvs L).toArray (by simp [wcs, wvs, HN.out])] at hg
   exact bodyPost_ret (v := .agg (wvs L).toArray) (results_cell_row (p := 2) (ty := 108) Tryz.results170 _ _ (w.heap.size + 1) 108 _ (0, 0) (.array 64 106) rfl hg Tryz.underlying108 rfl HI.out) rfl ⟨rfl, setCells_below _ _ (by omega) _ _ _ _ H4.out⟩
def St.l (s : St) : List UInt32 := [s.a, s.b, s.c, s.d, s.e, s.f, s.g, s.h]
theorem St.cs_eq (s : St) : s.cs = (wvs s.l).toArray := rfl
theorem index36 (cs : Array Value) (k : Nat) (v : Value) (hk : k < 64) (hv : cs[k]? = some v) (w : World) : (Instr.index 108 (.agg cs) (.int .i64 (k : Int))).run Tryz.prog w = .ok v w := by
 have h1 : (0 : Int) ≤ (k : Int) ∧ (k : Int) < 64 := by omega
 simp [Instr.index, asIntOf, run_underlying Tryz.underlying108, part, Tryz.sizeOf106, Tryz.isAgg106, hv]; omega
theorem index35 (cs : Array Value) (k : Nat) (v : Value) (hk : k < 8) (hv : cs[k]? = some v) (w : World) : (Instr.index 107 (.agg cs) (.int .i64 (k : Int))).run Tryz.prog w = .ok v w := by
 have h1 : (0 : Int) ≤ (k : Int) ∧ (k : Int) < 8 := by omega
 simp [Instr.index, asIntOf, run_underlying Tryz.underlying107, part, Tryz.sizeOf106, Tryz.isAgg106, hv]; omega
theorem wvs_at (l : List UInt32) (j : Nat) (h : j < l.length) : (wvs l).toArray[j]? = some (.int .u32 (nv (l.getD j 0))) := by
 simp [wvs, List.getD_eq_getElem?_getD, h]
def TabS (w : World) : Prop := w.rangeAt 0 0 (wvs H0.l) ∧ w.rangeAt 1 0 (wvs KSs)
theorem TabS.lt {w : World} (h : TabS w) : 1 < w.heap.size := block_lt_of_cell (h.2 0 _ rfl)
theorem TabS.below {B : Nat} {w w' : World} (h : TabS w) (hb : Below B w w') (hB : 1 < B) : TabS w' :=
 ⟨fun j v hv => by rw [hb.cell (p := ⟨0, 0 + j, none⟩) (by simp; omega)]; exact h.1 j v hv, fun j v hv => by rw [hb.cell (p := ⟨1, 0 + j, none⟩) (by simp; omega)]; exact h.2 j v hv⟩
theorem KS_len : KSs.length = 64 := rfl
theorem TabS.k {w : World} (h : TabS w) (j : Nat) (hj : j < 64) : w.cell? ⟨1, j, none⟩ = some (.int .u32 (nv (KSs.getD j 0))) := by
 have := h.2 j (.int .u32 (nv (KSs.getD j 0))) (by have := wvs_at KSs j (by rw [KS_len]; exact hj); simpa using this)
 simpa using this
theorem size36 : (Tryz.prog.info? 108).map (·.size) = some 64 := by kernel_rfl
theorem size35 : (Tryz.prog.info? 107).map (·.size) = some 8 := by kernel_rfl
theorem size49 : (Tryz.prog.info? 159).map (·.size) = some 64 := by kernel_rfl
theorem size3 (w : World) (A B C : Obj) : (((w.alloc A).alloc B).alloc C).heap.size = w.heap.size + 3 := by
 show (((w.heap.push A).push B).push C).size = _
 simp
theorem below3 (w : World) (A B C : Obj) : Below w.heap.size w (((w.alloc A).alloc B).alloc C) :=
 (((Below.refl _ _).alloc (Nat.le_refl _) _).alloc (by simp) _).alloc (by simp; omega) _
structure Four (w W : World) (A B C D : Obj) (M : Nat) : Prop where
 a : W.heap[w.heap.size]? = some A
 b : W.heap[w.heap.size + 1]? = some B
 c : W.heap[w.heap.size + 1 + 1]? = some C
 d : W.heap[M]? = some D
 lt : w.heap.size + 3 ≤ M
 ltM : M < W.heap.size
 bel : Below w.heap.size w W
theorem four_mk {w w1 W : World} {A B C : Obj} {X Y : Array Value} {t : TypeId} (h1 : Below (((w.alloc A).alloc B).alloc C).heap.size (((w.alloc A).alloc B).alloc C) w1)
  (hO : Only w1.heap.size (w1.alloc (.cells X t)) W) (hW : W.heap[w1.heap.size]? = some (.cells (over X 0 Y.toList) t (0, 0))) (hs : Y.size = X.size) : Four w W A B C (.cells Y t (0, 0)) w1.heap.size := by
 have hz := h1.size
 rw [size3] at hz
 have old : ∀ k, k < w.heap.size + 3 → W.heap[k]? = (((w.alloc A).alloc B).alloc C).heap[k]? := fun k hk => by
  rw [hO.block k (by omega), Below.heap_alloc w1 _ k (by omega), h1.block k (by rw [size3]; exact hk)]
 refine ⟨?_, ?_, ?_, ?_, hz, ?_, ?_⟩
 ·rw [old _ (by omega)]; exact heap3_0 _ _ _ _
 ·rw [old _ (by omega)]; exact heap3_1 _ _ _ _
 ·rw [old _ (by omega)]; exact heap3_2 _ _ _ _
 ·rw [hW, over_whole X Y hs]
 ·rw [hO.size]; simp
 ·refine (below3 w A B C).trans (Below.mono ?_ (Nat.le_of_lt (by rw [size3]; omega) : w.heap.size ≤ (((w.alloc A).alloc B).alloc C).heap.size))
  exact (h1.alloc (by rw [size3]; exact hz) _).trans (hO.below (by rw [size3]; exact hz))
theorem mix_at (T S : List UInt32) (n k : Nat) (hT : T.length = n) (hS : S.length = n) (hk : k < n) : (T.take k ++ S.drop k).getD k 0 = S.getD k 0 := by
 rw [List.getD_eq_getElem?_getD, List.getElem?_append_right (by simp; omega)]
 have e : k - (T.take k).length = 0 := by simp; omega
 rw [e, List.getElem?_drop, List.getD_eq_getElem?_getD, Nat.add_zero]
theorem mix_set (T S : List UInt32) (n k : Nat) (hT : T.length = n) (hS : S.length = n) (hk : k < n) : (wvs (T.take k ++ S.drop k)).toArray.setIfInBounds k (.int .u32 (nv (T.getD k 0))) = (wvs (T.take (k + 1) ++ S.drop (k + 1))).toArray := by
 have e1 : (T.take k ++ S.drop k).set k (T.getD k 0) = T.take (k + 1) ++ S.drop (k + 1) := by
  rw [List.set_append_right _ _ (by simp; omega)]
  have e : k - (T.take k).length = 0 := by simp; omega
  rw [e, List.drop_eq_getElem_cons (by omega), List.set_cons_zero, List.take_succ_eq_append_getElem (by omega)]
  have e2 : T.getD k 0 = T[k] := by simp [List.getD_eq_getElem?_getD, hT, hk]
  rw [e2]
  simp only [List.append_assoc, List.cons_append, List.nil_append]
 rw [← e1]
 simp [wvs, List.map_set]
theorem mix_len (T S : List UInt32) (n k : Nat) (hT : T.length = n) (hS : S.length = n) : (T.take k ++ S.drop k).length = n := by simp; omega
theorem addS_at (s S : St) (k : Nat) (hk : k < 8) : (addS s S).l.getD k 0 = s.l.getD k 0 + S.l.getD k 0 := by
 match k, hk with
 | 0, _ => rfl
 | 1, _ => rfl
 | 2, _ => rfl
 | 3, _ => rfl
 | 4, _ => rfl
 | 5, _ => rfl
 | 6, _ => rfl
 | 7, _ => rfl
theorem cs_one (s : St) : s.cs.all (·.oneCell') = true := wvs_one s.l
theorem cs_size (s : St) : s.cs.size = 8 := rfl
theorem size35' (s : St) : (Tryz.prog.info? 107).map (·.size) = some s.cs.size := by rw [cs_size]; exact size35
theorem mix_full (T s : St) (j : Nat) (h : j = 8) : (wvs (T.l.take j ++ s.l.drop j)).toArray = T.cs := by
 subst h
 have h1 : T.l.take 8 = T.l := List.take_of_length_le (Nat.le_refl 8)
 have h2 : s.l.drop 8 = [] := List.drop_of_length_le (Nat.le_refl 8)
 rw [h1, h2, List.append_nil, St.cs_eq]
theorem over8 (X : Array Value) (s : St) (h : X.size = 8) : over X 0 s.cs.toList = s.cs := over_whole X s.cs (by rw [h, cs_size])
theorem rnd_a (S : St) (y x : UInt32) : Value.int .u32 (nv (((((S.h + big1 S.e) + ((S.e &&& S.f) ^^^ ((S.e ^^^ 4294967295) &&& S.g))) + y) + x) + (big0 S.a + (((S.a &&& S.b) ^^^ (S.a &&& S.c)) ^^^ (S.b &&& S.c))))) = .int .u32 (nv (rnd S y x).a) := by
 simp only [rnd, tOne, tTwo, choice, most]
theorem rnd_b (S : St) (y x : UInt32) : Value.int .u32 (nv S.a) = .int .u32 (nv (rnd S y x).b) := by simp only [rnd]
theorem rnd_c (S : St) (y x : UInt32) : Value.int .u32 (nv S.b) = .int .u32 (nv (rnd S y x).c) := by simp only [rnd]
theorem rnd_d (S : St) (y x : UInt32) : Value.int .u32 (nv S.c) = .int .u32 (nv (rnd S y x).d) := by simp only [rnd]
theorem rnd_e (S : St) (y x : UInt32) : Value.int .u32 (nv (S.d + ((((S.h + big1 S.e) + ((S.e &&& S.f) ^^^ ((S.e ^^^ 4294967295) &&& S.g))) + y) + x))) = .int .u32 (nv (rnd S y x).e) := by
 simp only [rnd, tOne, choice]
theorem rnd_f (S : St) (y x : UInt32) : Value.int .u32 (nv S.e) = .int .u32 (nv (rnd S y x).f) := by simp only [rnd]
theorem rnd_g (S : St) (y x : UInt32) : Value.int .u32 (nv S.f) = .int .u32 (nv (rnd S y x).g) := by simp only [rnd]
theorem rnd_h (S : St) (y x : UInt32) : Value.int .u32 (nv S.g) = .int .u32 (nv (rnd S y x).h) := by simp only [rnd]
theorem mixE (x : UInt32) (w : World) : Calls Tryz.prog 171 #[.int .u32 (nv x), .int .i64 6, .int .i64 11, .int .i64 25] w fun e w' => e = .returned (.int .u32 (nv (big1 x))) ∧ w' = w :=
 mixed_any x 6 11 25 w ⟨by omega, by omega⟩ ⟨by omega, by omega⟩ ⟨by omega, by omega⟩
theorem mixA (x : UInt32) (w : World) : Calls Tryz.prog 171 #[.int .u32 (nv x), .int .i64 2, .int .i64 13, .int .i64 22] w fun e w' => e = .returned (.int .u32 (nv (big0 x))) ∧ w' = w :=
 mixed_any x 2 13 22 w ⟨by omega, by omega⟩ ⟨by omega, by omega⟩ ⟨by omega, by omega⟩
set_option maxRecDepth 100000 in
set_option maxHeartbeats 2000000 in
theorem turned_any (s : St) (b : List UInt8) (hb : b.length = 64) (w : World) (hT : TabS w) :
  Calls Tryz.prog 147 #[.agg s.cs, .agg (bcs b)] w fun e w' => e = .returned (.agg (turnS s b).cs) ∧ Below w.heap.size w w' := by
 have H31 := hid (fun W => schedule_any b hb W)
 have HTT : Hid (∀ R, R = rnds KSs (wl b 64) s 64 → turnS s b = addS s R) := fun R hR => by rw [hR]; rfl
 generalize turnS s b = T at HTT ⊢
 have HLn : Hid ((wl b 64).length = 64) := wl_len b 64
 generalize wl b 64 = L at H31 HTT HLn
 have HR : Hid (∀ k S, k = 64 → S = rnds KSs L s k → T = addS s S) := fun k S hk hS => HTT.out S (by rw [hS, hk])
 clear HTT
 have HI49 : Hid ((Tryz.prog.info? 159).map (·.size) = some (bcs b).size) := by show _ = _; rw [size49, bcs_size, hb]
 have HI36 : Hid ((Tryz.prog.info? 108).map (·.size) = some (wvs L).toArray.size) := by show _ = _; rw [size36]; simp [wvs, HLn.out]
 have HLs : Hid ((wvs L).toArray.size = 64) := by show _ = _; simp [wvs, HLn.out]
 have HO := hid (wvs_one L)
 have HT := hid hT
 clear hb hT
 go_enter Tryz.func147, Tryz.ntmps147
 go_wp2_with (refine wpList_load_row rfl 159 (.tmp 3) rfl (w.heap.size + 1) rfl 159 (bcs b) (0, 0) (.array 64 5) (heap3_1 _ _ _ _) Tryz.underlying159 rfl HI49.out ?_)
 refine (H31.out _).mono ?_
 rintro e w1 ⟨rfl, hb1⟩
 have HB1 := hid hb1
 clear hb1
 go_wp2_with (refine wpList_store_abs rfl 108 (.tmp 5) (.tmp 23) rfl w1.heap.size 0 (wvs L).toArray rfl rfl 108 _ (heap_alloc_new w1 _) (by rw [HLs.out]; exact Nat.le_refl _) HI36.out HO.out ?_; intro W hO hW)
 have F := four_mk (Y := (wvs L).toArray) HB1.out hO hW (by rw [HLs.out]; rfl)
 have HF := hid F
 have HTW := hid (HT.out.below F.bel HT.out.lt)
 have hc : ∀ j v, s.cs[j]? = some v → W.cell? ⟨w.heap.size, j, none⟩ = some v := fun j v hv => by
  rw [cell_of_row _ _ _ _ _ _ F.a]; exact hv
 have c0 : W.cell? ⟨w.heap.size, 0, none⟩ = some (.int .u32 (nv s.a)) := hc 0 _ rfl
 have c1 : W.cell? ⟨w.heap.size, 1, none⟩ = some (.int .u32 (nv s.b)) := hc 1 _ rfl
 have c2 : W.cell? ⟨w.heap.size, 2, none⟩ = some (.int .u32 (nv s.c)) := hc 2 _ rfl
 have c3 : W.cell? ⟨w.heap.size, 3, none⟩ = some (.int .u32 (nv s.d)) := hc 3 _ rfl
 have c4 : W.cell? ⟨w.heap.size, 4, none⟩ = some (.int .u32 (nv s.e)) := hc 4 _ rfl
 have c5 : W.cell? ⟨w.heap.size, 5, none⟩ = some (.int .u32 (nv s.f)) := hc 5 _ rfl
 have c6 : W.cell? ⟨w.heap.size, 6, none⟩ = some (.int .u32 (nv s.g)) := hc 6 _ rfl
 have c7 : W.cell? ⟨w.heap.size, 7, none⟩ = some (.int .u32 (nv s.h)) := hc 7 _ rfl
 clear hc F hO hW HB1 H31 HT HI49
 generalize w1.heap.size = M at HF ⊢
 go_quiet (fail)
 go_wp2_with fail
 go_quiet (fail)
 clear c0 c1 c2 c3 c4 c5 c6 c7
 go_wp2_with (refine wpList_load_row rfl 108 (.tmp 5) rfl M rfl 108 (wvs L).toArray (0, 0) (.array 64 106) HF.out.d Tryz.underlying108 rfl HI36.out ?_)
 go_loopw [6, 7, 8, 9, 10, 11, 12, 13, 41] (fun va vb vc vd ve vf vg vh i wr => ∃ (k : Nat) (S : St), k ≤ 64 ∧ i = .int .i64 k ∧ va = .int .u32 (nv S.a) ∧ vb = .int .u32 (nv S.b) ∧ vc = .int .u32 (nv S.c) ∧ vd = .int .u32 (nv S.d) ∧ ve = .int .u32 (nv S.e) ∧ vf = .int .u32 (nv S.f) ∧ vg = .int .u32 (nv S.g) ∧ vh = .int .u32 (nv S.h) ∧ Hid (S = rnds KSs L s k) ∧ Hid (∃ n, wr = W.drewN n)) (fun _ _ _ _ _ _ _ _ i _ => 64 - (intOf i).toNat)
 case atStart => exact ⟨0, s, by omega, rfl, rfl, rfl, rfl, rfl, rfl, rfl, rfl, rfl, rfl, _, rfl⟩
 case round =>
  obtain ⟨k, S, hk, rfl, rfl, rfl, rfl, rfl, rfl, rfl, rfl, rfl, HS, HW⟩ := hrel
  by_cases hlt : k < 64
  ·obtain ⟨x, ex⟩ : ∃ x, Hid (x = L.getD k 0) := ⟨_, rfl⟩
   obtain ⟨y, ey⟩ : ∃ y, Hid (y = KSs.getD k 0) := ⟨_, rfl⟩
   have hidx : ∀ W, (Instr.index 108 (.agg (wvs L).toArray) (.int .i64 (k : Int))).run Tryz.prog W = .ok (.int .u32 (nv x)) W := fun W => index36 _ k _ hlt (by rw [wvs_at L k (by rw [HLn.out]; exact hlt), ex.out]) W
   have ck : wr.cell? ⟨1, k, none⟩ = some (.int .u32 (nv y)) := by
    obtain ⟨n, hn⟩ := HW.out
    rw [hn, World.cell?_drewN, HTW.out.k k hlt, ey.out]
   have hx := nv_xor
   have ha := nv_add
   have hand := nv_and
   have hnot : ∀ a, bits .xor .u32 IntKind.u32.max (nv a) = nv (a ^^^ 4294967295) := nv_not
   go_wp2_with fail
   go_quiet ((go_at_call 171; exact Calls.quiet_of_same (mixE _ _)))
   go_wp2_with (go_at_call 171; refine (mixA _ _).mono ?_; rintro e w' ⟨rfl, rfl⟩)
   go_roundw
   case rel => exact ⟨k + 1, rnd S y x, by omega, by go_num, (by rw [nv_add]; exact rnd_a S y x), rnd_b S y x, rnd_c S y x, rnd_d S y x, (by rw [nv_add]; exact rnd_e S y x), rnd_f S y x, rnd_g S y x, rnd_h S y x, by show _ = _; rw [rnds, ← HS.out, ← ex.out, ← ey.out], by obtain ⟨n, hn⟩ := HW.out; exact ⟨n + nq, by rw [hn, World.drewN_drewN]⟩⟩
   case measure => simp [intOf]; omega
  ·have HTT : Hid (T = addS s S) := HR.out k S (by omega) HS.out
   clear HR HS HTW HLn HLs HO HI36
   go_wp2_with fail
   obtain ⟨X, hX⟩ : ∃ X : Array Value, Hid (X = (wvs S.l).toArray) := ⟨_, rfl⟩
   rw [show (#[Value.int .u32 (nv S.a), .int .u32 (nv S.b), .int .u32 (nv S.c), .int .u32 (nv S.d), .int .u32 (nv S.e), .int .u32 (nv S.f), .int .u32 (nv S.g), .int .u32 (nv S.h)] : Array Value) = X from hX.out.symm]
   go_loopw [102] (fun i wr => ∃ k : Nat, k ≤ 8 ∧ i = .int .i64 k ∧ Hid (wr.heap[w.heap.size]? = some (.cells (wvs (T.l.take k ++ s.l.drop k)).toArray 107 (0, 0))) ∧ Hid (Only w.heap.size W wr)) (fun i _ => 8 - (intOf i).toNat)
   case atStart =>
    obtain ⟨n, hn⟩ := HW.out
    exact ⟨0, by omega, rfl, by rw [hn]; exact HF.out.a, by rw [hn]; exact ⟨rfl, rfl, rfl, rfl, fun _ _ => rfl⟩⟩
   case round =>
    obtain ⟨j, hj, rfl, HA, HOn⟩ := hrel
    by_cases hj8 : j < 8
    ·obtain ⟨x, ex⟩ : ∃ x, Hid (x = S.l.getD j 0) := ⟨_, rfl⟩
     obtain ⟨y, ey⟩ : ∃ y, Hid (y = s.l.getD j 0) := ⟨_, rfl⟩
     have HV : Hid (T.l.getD j 0 = y + x) := by show _ = _; rw [HTT.out, addS_at _ _ _ hj8, ex.out, ey.out]
     have hidx : ∀ W, (Instr.index 107 (.agg X) (.int .i64 (j : Int))).run Tryz.prog W = .ok (.int .u32 (nv x)) W := fun W => index35 _ j _ hj8 (by rw [hX.out, wvs_at S.l j hj8, ex.out]) W
     have cj : wr.cell? ⟨w.heap.size, j, none⟩ = some (.int .u32 (nv y)) := by
      rw [cell_of_row _ _ _ _ _ _ HA.out, wvs_at _ _ (by rw [mix_len T.l s.l 8 j rfl rfl]; exact hj8), mix_at T.l s.l 8 j rfl rfl hj8, ey.out]
     have fj : wr.frozen? ⟨w.heap.size, j, none⟩ = false := frozen_of_row _ _ _ _ _ HA.out
     have ha := nv_add
     go_wp2_with fail
     go_roundw
     case rel =>
      refine ⟨j + 1, by omega, by go_num, ?_, ?_⟩
      ·show _ = _
       rw [heap_setCell_same _ _ _ _ _ _ HA.out, ← mix_set T.l s.l 8 j rfl rfl hj8, HV.out]
      ·have := HOn.out
       exact ⟨this.os, this.tape, this.output, by rw [← this.size]; simp [World.setCell], fun k hk => (heap_setCell_other _ _ _ _ hk).trans (this.block k hk)⟩
     case measure => simp [intOf]; omega
    ·have h0 := HA.out
     rw [mix_full T s j (by omega)] at h0
     have H0 := hid h0
     have HZ := hid ((HOn.out.block (w.heap.size + 1 + 1) (by omega)).trans HF.out.c)
     have HBW := hid (HF.out.bel.trans (HOn.out.below (Nat.le_refl _)))
     have HOT := hid (cs_one T)
     have HI35 := hid (size35' T)
     have HT8 : Hid (T.cs.size = 8) := cs_size T
     clear h0 HA HOn HF HW HTT
     go_wp2_with (first
      | (refine wpList_load_row rfl 107 (.tmp 2) rfl w.heap.size rfl 107 T.cs (0, 0) (.array 8 106) H0.out Tryz.underlying107 rfl HI35.out ?_)
      | (refine wpList_store_abs rfl 107 (.tmp 4) (.tmp 113) rfl (w.heap.size + 1 + 1) 0 T.cs rfl rfl 107 _ HZ.out (by rw [HT8.out]; exact Nat.le_refl 8) HI35.out HOT.out ?_; intro W2 hO2 hW2))
     rw [over8 _ T (by rfl)] at hW2
     exact bodyPost_ret (v := .agg T.cs) (results_cell_row (p := 4) (ty := 107) Tryz.results147 _ _ (w.heap.size + 1 + 1) 107 _ (0, 0) (.array 8 106) rfl hW2 Tryz.underlying107 rfl HI35.out) rfl ⟨rfl, HBW.out.trans (hO2.below (by omega))⟩
end Go.Proofs.YtgoiafndapemjaaGreatDoor
