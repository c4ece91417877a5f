
/- Crash, Sync, Fuse, Read. -/
import Derived.Test.YtkjpdfcemdhnpaaBlWrite
namespace Go.Proofs.Ytkjpdfcemdhnpaa
set_option linter.unusedVariables false
set_option linter.unusedSimpArgs false
open Go.RowKit Go.BigFrame
attribute [local go_sem ↓] buildF_eq loadC_eq storeC_eq

set_option maxHeartbeats 8000000 in
set_option maxRecDepth 100000 in
theorem crash_any (F N L n : Nat) (wv : Value) (S : Bool) (k t : Int) (O : Bool) (B : List UInt8) (W : List WrB) (w : World) (h : Fil F N L n wv S k t O B W w) (hW : W.length ≤ 1000) (K T : Int) :
    Calls Try.prog 18 #[.pointer (some ⟨F, 0, none⟩), .int .i64 K, .int .i64 T] w fun x w' => x = .returned (.tuple #[]) ∧ FilX F N L n false 0 0 false (foldB B (thrB W K.toNat T)) [] wv w w' := by
  have HF := hid h
  have HG := hid (given_at F w h.cells.1)
  have hbf : ∀ W, (buildI 59 #[]).run Try.prog W = .ok (.agg fuse0) W := fun W => run_build W 59 _ _ built_f
  obtain ⟨A2, c2, hv, -, -, -⟩ := h.ws.shape
  rw [full_len] at hv
  have HV := hid hv
  clear h hv
  go_enter Try.func18, Try.ntmps18
  go_wp2_with fail
  refine HG.out.mono ?_
  rintro x W1 ⟨rfl, hb⟩
  have HB1 := hid hb
  have HF1 := hid (HF.out.below hb)
  have c3 := HF1.out.cells.2.2.2.1
  rw [HV.out] at c3
  have HTH := hid (through_any (fun q => q ≠ F ∧ q ≠ N ∧ q ≠ L) wv (full W) K T W1 HF1.out.ws (by rw [full_len]; exact hW))
  rw [HV.out] at HTH
  have hlt := HF1.out.lt
  clear hb HG
  go_wp2_with fail
  refine HTH.out.mono ?_
  rintro x W2 ⟨⟨A, c, rfl, hws⟩, hb⟩
  have HB2 := hid hb
  have HST := hid (settle_thr F N L n wv S k t O B W W2 (HF1.out.below hb) hW K.toNat T A c (hws.frame (Nat.le_refl _) fun q hq _ => ⟨rfl, by
    rcases hq with hq | hq
    · exact hq.1
    · omega⟩))
  clear hb hws HTH c3
  go_wp2_with fail
  refine HST.out.mono ?_
  rintro x W3 ⟨rfl, hf, hk⟩
  have HF3 := hid hf
  have HK3 := hid hk
  have HRF := hid hf.f
  clear hf hk HST
  go_wp2_with (first
    | (refine store_part rfl 4 _ _ rfl F 7 (.bool false) _ (fcs F N L n (.slice none 0 0) S k t O) (fcs F N L n (.slice none 0 0) S k t false) rfl rfl info4b (by simp [fcs]) rfl rfl HRF.out rfl ?_; intro W4 ho hr; have HO4 := hid ho; have HR4 := hid hr; clear ho hr)
    | (refine store_fuse rfl _ _ rfl F N L n (.slice none 0 0) S false k t 0 0 false rfl rfl HR4.out ?_; intro W5 ho hr; have HO5 := hid ho; have HR5 := hid hr; clear ho hr)
    | fail)
  refine ⟨(by first | rfl | simp), _, results_none rfl _ _ _, rfl, .slice none 0 0, (FileP.setF HF3.out HO4.out HR4.out).setF HO5.out HR5.out, ?_, fun q e => by cases e⟩
  exact (Kept.of_below HB1.out).trans ((Kept.of_below HB2.out).trans (HK3.out.trans ((Kept.only (N := N) (L := L) (wv := .slice none 0 0) HO4.out (.inl rfl)).trans (Kept.only (N := N) (L := L) (wv := .slice none 0 0) HO5.out (.inl rfl)) (fun q e => by cases e)) (fun q e => by cases e)) (fun q e => .inl e)) (fun q e => .inl e)
theorem thr_all {W : List WrB} : thrB W W.length 0 = W := thrB_ge 0 (Nat.le_refl _)
set_option maxHeartbeats 8000000 in
set_option maxRecDepth 100000 in
theorem sync_any (F N L n : Nat) (wv : Value) (S : Bool) (k t : Int) (O : Bool) (B : List UInt8) (W : List WrB) (w : World) (h : Fil F N L n wv S k t O B W w) (hW : W.length ≤ 1000) :
    Calls Try.prog 21 #[.pointer (some ⟨F, 0, none⟩)] w fun x w' => x = .returned (.tuple #[]) ∧ FilX F N L n S k t O (foldB B W) [] wv w w' := by
  have HF := hid h
  have HG := hid (given_at F w h.cells.1)
  obtain ⟨A2, c2, hv, -, -, -⟩ := h.ws.shape
  rw [full_len] at hv
  have HV := hid hv
  clear h hv
  go_enter Try.func21, Try.ntmps21
  go_wp2_with fail
  refine HG.out.mono ?_
  rintro x W1 ⟨rfl, hb⟩
  have HB1 := hid hb
  have HF1 := hid (HF.out.below hb)
  have c3 := HF1.out.cells.2.2.2.1
  rw [HV.out] at c3
  have hT : thrT (full W) W.length 0 = full W := by unfold thrT; rw [if_pos (by rw [full_len]; exact Nat.le_refl _)]
  have HST : Hid (Calls Try.prog 30 #[.pointer (some ⟨F, 0, none⟩), .slice A2 W.length c2] W1 fun x w' => x = .returned (.tuple #[]) ∧ Fil F N L n (.slice none 0 0) S k t O (foldB B W) [] w' ∧ Kept F N L wv W1 w') := by
    have hws := HF1.out.ws
    rw [HV.out] at hws
    have := settle_thr F N L n wv S k t O B W W1 HF1.out hW W.length 0 A2 c2 (by rw [hT]; exact hws.reads)
    rw [hT, full_len, thr_all] at this
    exact this
  clear hb HG hT
  go_wp2_with fail
  refine HST.out.mono ?_
  rintro x W3 ⟨rfl, hf, hk⟩
  have HF3 := hid hf
  have HK3 := hid hk
  clear hf hk HST
  go_wp2_with fail
  exact ⟨(by first | rfl | simp), _, results_none rfl _ _ _, rfl, .slice none 0 0, HF3.out, (Kept.of_below HB1.out).trans HK3.out (fun q e => .inl e), fun q e => by cases e⟩
theorem built_fz (K T : Int) : Try.prog.built 59 [(0, .bool true), (1, .int .i64 K), (2, .int .i64 T)] = some #[.bool true, .int .i64 K, .int .i64 T] := by kernel_rfl
/-- What Fuse does to a file. -/
def FuseP (F N L n : Nat) (wv : Value) (S : Bool) (k t : Int) (O : Bool) (B : List UInt8) (W : List WrB) (K T : Int) (w w' : World) : Prop := (O = true → FilX F N L n S k t O B W wv w w') ∧ (O = false → FilX F N L n true K T O B W wv w w')
theorem fuse_any (F N L n : Nat) (wv : Value) (S : Bool) (k t : Int) (O : Bool) (B : List UInt8) (W : List WrB) (w : World) (h : Fil F N L n wv S k t O B W w) (K T : Int) :
    Calls Try.prog 19 #[.pointer (some ⟨F, 0, none⟩), .int .i64 K, .int .i64 T] w fun x w' => x = .returned (.tuple #[]) ∧ FuseP F N L n wv S k t O B W K T w w' := by
  have HF := hid h
  have HG := hid (given_at F w h.cells.1)
  have hbf : ∀ W, (buildI 59 #[(0, .bool true), (1, .int .i64 K), (2, .int .i64 T)]).run Try.prog W = .ok (.agg #[.bool true, .int .i64 K, .int .i64 T]) W := fun W => run_build W 59 _ _ (built_fz K T)
  clear h
  cases O with
  | true =>
    go_enter Try.func19, Try.ntmps19
    go_wp2_with fail
    refine HG.out.mono ?_
    rintro x W1 ⟨rfl, hb⟩
    have HB1 := hid hb
    have HF1 := hid (HF.out.below hb)
    have c7 := HF1.out.cells.2.2.2.2.2.2.2
    clear hb HG
    go_wp2_with fail
    exact ⟨(by first | rfl | simp), _, results_none rfl _ _ _, rfl, ⟨fun _ => FilX.below HF.out HB1.out, fun e => by cases e⟩⟩
  | false =>
    go_enter Try.func19, Try.ntmps19
    go_wp2_with fail
    refine HG.out.mono ?_
    rintro x W1 ⟨rfl, hb⟩
    have HB1 := hid hb
    have HF1 := hid (HF.out.below hb)
    have c7 := HF1.out.cells.2.2.2.2.2.2.2
    have HRF := hid HF1.out.f
    clear hb HG
    go_wp2_with (first
      | (refine store_fuse rfl _ _ rfl F N L n wv S true k t K T false rfl rfl HRF.out ?_; intro W5 ho hr; have HO5 := hid ho; have HR5 := hid hr; clear ho hr)
      | fail)
    exact ⟨(by first | rfl | simp), _, results_none rfl _ _ _, rfl, ⟨(fun e => by cases e), fun _ => ⟨wv, FileP.setF HF1.out HO5.out HR5.out, (Kept.of_below HB1.out).trans (Kept.only HO5.out (.inl rfl)) (fun q e => .inl e), fun q e => .inl e⟩⟩⟩
theorem over_bvs (X : Array Value) (b : List UInt8) (h : X.size = b.length) : over X 0 (bvs b) = bcs b := over_bytes X b h
/-- What Read answers. -/
def ReadP (now : List UInt8) (n : Nat) (i : Int) (w : World) (x : Ending) (w' : World) : Prop :=
  (¬ (0 ≤ i ∧ i < (n : Int)) → x = .returned (.tuple #[.slice none 0 0, .int .i64 4])) ∧ (0 ≤ i ∧ i < (n : Int) → ∃ g, x = .returned (.tuple #[.slice (some ⟨g, 0, none⟩) 64 64, .int .i64 0]) ∧ w.heap.size ≤ g ∧ w'.heap[g]? = some (.cells (bcs (blkB now i.toNat)) 5 (0, 0))) ∧ Below w.heap.size w w'
theorem make64 (w : World) : (Instr.makeSlice 22 (.int .i64 64) (.int .i64 64)).run Try.prog w = .ok (.slice (some ⟨w.heap.size, 0, none⟩) 64 64) (w.alloc (.cells (bcs (zer 64)) 5)) := make_bytes 64 64 (Nat.le_refl _) (by decide) w
theorem make64_eq (w : World) : (Instr.makeSlice 22 (.int .i64 64) (.int .i64 64)).run Try.prog w = .ok (.slice (some ⟨w.heap.size, 0, none⟩) 64 64) (w.alloc (.cells (bcs (zer 64)) 5)) := make64 w
set_option maxHeartbeats 8000000 in
set_option maxRecDepth 100000 in
theorem read_any (F N L n : Nat) (wv : Value) (S : Bool) (k t : Int) (O : Bool) (B : List UInt8) (W : List WrB) (w : World) (h : Fil F N L n wv S k t O B W w) (i : Int) :
    Calls Try.prog 13 #[.pointer (some ⟨F, 0, none⟩), .int .i64 i] w fun x w' => ReadP (foldB B W) n i w x w' := by
  have HF := hid h
  obtain ⟨c0, c1, -, -, -, -, -, -⟩ := h.cells
  have HHAS := hid (has_at F N n i w c0 c1)
  by_cases hi : 0 ≤ i ∧ i < (n : Int)
  · rw [decide_eq_true hi] at HHAS
    have HP : Hid (∀ w' g, w'.heap[g]? = some (.cells (bcs (blkB (foldB B W) i.toNat)) 5 (0, 0)) → w.heap.size ≤ g → Below w.heap.size w w' → ReadP (foldB B W) n i w (.returned (.tuple #[.slice (some ⟨g, 0, none⟩) 64 64, .int .i64 0])) w') := fun w' g a b c => ⟨fun e => absurd hi e, fun _ => ⟨g, rfl, b, a⟩, c⟩
    obtain ⟨j, rfl⟩ : ∃ j : Nat, i = (j : Int) := ⟨i.toNat, by omega⟩
    have hj : j < n := by omega
    have hji : (j : Int) < (n : Int) := hi.2
    rw [Int.toNat_natCast] at HP
    have hmk := make64_eq
    have hsl := sl_all N (j * 64)
    have hfit : 64 * j + 64 ≤ 64 * n := by omega
    clear h c0 c1 hi
    go_enter Try.func13, Try.ntmps13
    go_wp2_with fail
    refine HHAS.out.mono ?_
    rintro x W1 ⟨rfl, hb⟩
    have HB1 := hid hb
    have HF1 := hid (HF.out.below hb)
    have HBA := hid ((Below.refl W1.heap.size W1).alloc (Nat.le_refl _) (.cells (bcs (zer 64)) 5))
    have HNW := hid (heap_alloc_new W1 (.cells (bcs (zer 64)) 5 (0, 0)))
    have HF2 := hid (HF1.out.below HBA.out)
    obtain ⟨-, f1, -, -, -, -, -, -⟩ := HF2.out.cells
    have HBY : Hid (BytesAt (W1.alloc (.cells (bcs (zer 64)) 5)) (some ⟨N, j * 64, none⟩) (blkB (foldB B W) j)) := by
      have := BytesAt.mid (o := j * 64) HF2.out.nw 64 (by rw [HF2.out.zn]; omega)
      rw [Nat.mul_comm j 64] at this
      rw [Nat.mul_comm j 64]
      exact this
    have hz : (blkB (foldB B W) j).length = 64 := blkB_len HF2.out.zn hj
    clear hb HHAS
    go_wp2_with (first
      | (refine wpList_copy_in rfl _ _ rfl W1.heap.size 0 64 64 64 64 (some ⟨N, j * 64, none⟩) (blkB (foldB B W) j) rfl rfl hz.symm 5 (bcs (zer 64)) HBY.out (by rw [hz]; exact Nat.le_refl _) HNW.out (by rw [hz, bcs_size, zer_len]; exact Nat.le_refl _) ?_; intro W3 ho hr; rw [over_bvs (bcs (zer 64)) (blkB (foldB B W) j) (by rw [hz, bcs_size, zer_len])] at hr; have HO3 := hid ho; have HR3 := hid hr; clear ho hr)
      | fail)
    go_ret2
    exact HP.out _ _ HR3.out HB1.out.size (HB1.out.trans ((HBA.out.trans (HO3.out.below (Nat.le_refl _))).mono HB1.out.size))
  · rw [decide_eq_false hi] at HHAS
    clear h c0 c1
    go_enter Try.func13, Try.ntmps13
    go_wp2_with fail
    refine HHAS.out.mono ?_
    rintro x W1 ⟨rfl, hb⟩
    have HB1 := hid hb
    clear hb HHAS
    go_wp2_with fail
    go_ret2
    exact ⟨fun _ => rfl, fun e => absurd e hi, HB1.out⟩
end Go.Proofs.Ytkjpdfcemdhnpaa
