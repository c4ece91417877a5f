
/- Dump: all bytes, in a row of their own. -/
import Derived.Test.YtkjpdfcemdhnpaaBlNone
namespace Go.Proofs.Ytkjpdfcemdhnpaa
set_option linter.unusedVariables false
set_option linter.unusedSimpArgs false
open Go.RowKit Go.BigFrame

theorem mkBytes (n : Nat) (hn : n ≤ 262144) (w : World) : (Instr.makeSlice 22 (.int .i64 (n : Int)) (.int .i64 (n : Int))).run Try.prog w = .ok (.slice (some ⟨w.heap.size, 0, none⟩) n n) (w.alloc (.cells (bcs (zer n)) 5)) := by
  obtain ⟨i, hi, hz0, hz1, hz2⟩ := info_parts info5
  rw [run_makeSlice w 22 5 i (.int .u8 0) Try.underlying22 hi hz0 .i64 .i64 (n : Int) (n : Int) (by omega) (by omega) (by rw [hz1]; omega) (by rw [hz2]; omega) (by omega), hz1, Int.toNat_natCast, Nat.mul_one, ← made_bytes]
  rfl
def slI (x i : Value) : Sem Value := Instr.sliceAt 22 x (some i) none none
theorem slI_eq (x i : Value) : Instr.sliceAt 22 x (some i) none none = slI x i := rfl
theorem slFrom (g m l : Nat) (hl : l < m) (w : World) : (slI (.slice (some ⟨g, 0, none⟩) m m) (.int .i64 (l : Int))).run Try.prog w = .ok (.slice (some ⟨g, l, none⟩) (m - l) (m - l)) w := by
  have h2 : Try.prog.elem 22 = 5 := by kernel_rfl
  unfold slI
  rw [run_sliceAt_slice w 22 _ _ _ _ (by rw [h2]; exact Try.underlying22), run_slice_l w 22 _ m m (by rw [h2]; exact Try.underlying22) .i64 (l : Int) (by omega) (by omega), h2, show (sizeOf 5).run Try.prog w = .ok 1 w from by kernel_rfl]
  have hne : ¬ m = l := by omega
  simp [sliced, hne, Addr.add]
  intro h0
  exact h0.symm
theorem blk_take (b : List UInt8) (n j : Nat) (hb : b.length = 64 * n) (hj : j < n) : b.take (64 * j) ++ blkB b j = b.take (64 * (j + 1)) := by
  unfold blkB
  rw [show 64 * (j + 1) = 64 * j + 64 from by omega, List.take_add]
theorem dump_step (b : List UInt8) (n j : Nat) (hb : b.length = 64 * n) (hj : j < n) : over (bcs (b.take (64 * j) ++ zer (64 * n - 64 * j))) (j * 64) (bvs (blkB b j)) = bcs (b.take (64 * (j + 1)) ++ zer (64 * n - 64 * (j + 1))) := by
  have hk := blkB_len hb hj
  rw [Nat.mul_comm j 64, over_put _ _ _ (by rw [List.length_append, List.length_take, zer_len, hk]; omega)]
  refine congrArg bcs ?_
  unfold putB
  rw [hk, List.take_append_of_le_length (by rw [List.length_take]; omega), List.take_take, Nat.min_self, List.drop_append, List.drop_eq_nil_of_le (by rw [List.length_take]; omega), List.nil_append, List.length_take, Nat.min_eq_left (by omega), ← List.append_assoc, blk_take b n j hb hj]
  unfold zer
  rw [List.drop_replicate]
  congr 2
  omega
theorem Fil.only {F N L n R : Nat} {wv : Value} {S : Bool} {k t : Int} {O : Bool} {B : List UInt8} {W : List WrB} {w w' : World} (h : Fil F N L n wv S k t O B W w) (ho : Only R w w') (h1 : F < R) (h2 : N < R) (h3 : L < R) (hv : ∀ q, blk wv = some q → q ≠ R) : Fil F N L n wv S k t O B W w' :=
  ⟨(ho.block F (by omega)).trans h.f, (ho.block N (by omega)).trans h.nw, (ho.block L (by omega)).trans h.ls, h.ws.frame fun q e hp hq => ⟨ho.block q (hv q e), hp⟩, h.d1, h.d2, h.d3, h.zn, h.zl, h.n1, h.n2, h.ok⟩
/-- What Dump answers. -/
def DumpP (now : List UInt8) (n : Nat) (w : World) (x : Ending) (w' : World) : Prop := ∃ g, x = .returned (.slice (some ⟨g, 0, none⟩) (64 * n) (64 * n)) ∧ w.heap.size ≤ g ∧ w'.heap[g]? = some (.cells (bcs now) 5 (0, 0)) ∧ Below w.heap.size w w'
attribute [local go_sem ↓] slI_eq
set_option maxHeartbeats 8000000 in
set_option maxRecDepth 100000 in
theorem dump_any (F N L n : Nat) (wv : Value) (S : Bool) (k t : Int) (O : Bool) (B : List UInt8) (W : List WrB) (w : World) (h : Fil F N L n wv S k t O B W w) : Calls Try.prog 15 #[.pointer (some ⟨F, 0, none⟩)] w fun x w' => DumpP (foldB B W) n w x w' := by
  have HF := hid h
  have HG := hid (given_at F w h.cells.1)
  have hn1 := h.n1
  have hn2 := h.n2
  have HZ := hid h.zn
  clear h
  go_enter Try.func15, Try.ntmps15
  go_wp2_with fail
  refine HG.out.mono ?_
  rintro x W1 ⟨rfl, hb⟩
  have HB1 := hid hb
  have HF1 := hid (HF.out.below hb)
  have f1 := HF1.out.cells.2.1
  have hmk := mkBytes (n * 64) (by omega)
  rw [show ((n * 64 : Nat) : Int) = (n : Int) * 64 from by omega, Nat.mul_comm n 64] at hmk
  have HBA := hid ((Below.refl W1.heap.size W1).alloc (Nat.le_refl _) (.cells (bcs (zer (64 * n))) 5))
  have HNW := hid (heap_alloc_new W1 (.cells (bcs (zer (64 * n))) 5 (0, 0)))
  obtain ⟨W2, hW2⟩ : ∃ W2, W1.alloc (.cells (bcs (zer (64 * n))) 5) = W2 := ⟨_, rfl⟩
  rw [hW2] at HBA HNW
  have HF2 := hid (HF1.out.below HBA.out)
  have g1 := HF2.out.cells.2.1
  have HB2 := hid (HB1.out.trans (HBA.out.mono HB1.out.size))
  have hlt := HF1.out.lt
  have HNE : Hid (∀ q, blk wv = some q → q ≠ W1.heap.size) := fun q e => by have := (HF1.out.ws.blk_P q e).2; omega
  clear hb HG HBA HF HF1
  go_wp2_with fail
  clear hmk hW2 f1 g1
  go_loopw [20] (fun a20 wr => ∃ j : Nat, a20 = .int .i64 (j : Int) ∧ j ≤ n ∧ Hid (wr.heap[W1.heap.size]? = some (.cells (bcs ((foldB B W).take (64 * j) ++ zer (64 * n - 64 * j))) 5 (0, 0))) ∧ Hid (Fil F N L n wv S k t O B W wr) ∧ Hid (Below w.heap.size w wr)) (fun a20 wr => n - (intOf a20).toNat)
  case atStart => exact ⟨0, rfl, Nat.zero_le _, HNW, HF2, HB2⟩
  case round =>
    obtain ⟨j, rfl, hj, HR, HFr, HBr⟩ := hrel
    clear HNW HF2 HB2
    by_cases hjl : j < n
    · have hi : (j : Int) < (n : Int) := by omega
      have hsl := slFrom W1.heap.size (64 * n) (j * 64) (by omega)
      rw [show ((j * 64 : Nat) : Int) = (j : Int) * 64 from by omega] at hsl
      have hsa := sl_all N (j * 64)
      have hwj : IntKind.i64.wrap ((j : Int) * 64) = (j : Int) * 64 := by rw [IntKind.wrap_i64]; omega
      have HFD := hid (HFr.out.below (show Below wr.heap.size wr wr.drew from (Below.refl _ _).drew))
      have g1 := HFD.out.cells.2.1
      have HRD : Hid (wr.drew.heap[W1.heap.size]? = some (.cells (bcs ((foldB B W).take (64 * j) ++ zer (64 * n - 64 * j))) 5 (0, 0))) := HR.out
      have hz := blkB_len HZ.out hjl
      have HBY : Hid (BytesAt wr.drew (some ⟨N, j * 64, none⟩) (blkB (foldB B W) j)) := by
        have := BytesAt.mid (o := j * 64) HFD.out.nw 64 (by rw [HZ.out]; omega)
        rw [Nat.mul_comm j 64] at this
        rw [Nat.mul_comm j 64]
        exact this
      have HDS := hid (dump_step (foldB B W) n j HZ.out hjl)
      have hszr : (bcs ((foldB B W).take (64 * j) ++ zer (64 * n - 64 * j))).size = 64 * n := by
        rw [bcs_size, List.length_append, List.length_take, zer_len, HZ.out]
        omega
      have HSZR := hid hszr
      clear hszr
      go_wp2_with fail
      go_region_law ((first
        | (refine step_copy_in (by rfl) _ _ (by rfl) W1.heap.size (j * 64) (64 * n - j * 64) (64 * n - j * 64) 64 64 (some ⟨N, j * 64, none⟩) (blkB (foldB B W) j) (by rfl) (by rfl) hz.symm 5 _ HBY.out (by rw [hz]; omega) HRD.out (by rw [HSZR.out, hz]; omega) ?_; intro W3 ho hr; rw [HDS.out] at hr; have HO3 := hid ho; have HR3 := hid hr; clear ho hr)
        | fail))
      all_goals
        have HF3 : Hid (Fil F N L n wv S k t O B W W3) := Fil.only HFD.out HO3.out hlt.1 hlt.2.1 hlt.2.2 HNE.out
        have HB3 : Hid (Below w.heap.size w W3) := HBr.out.trans (((Below.refl wr.heap.size wr).drew.mono HBr.out.size).trans (HO3.out.below HB1.out.size))
        clear HO3 hsl hsa g1
        go_wp2_with fail
        go_roundw
        case rel => exact ⟨j + 1, by go_num, by omega, HR3, HF3, HB3⟩
        case measure => simp [intOf]; omega
    · have hi : ¬ (j : Int) < (n : Int) := by omega
      obtain rfl : j = n := by omega
      go_wp2_with fail
      go_ret
      refine ⟨W1.heap.size, rfl, HB1.out.size, ?_, HBr.out⟩
      have := HR.out
      rw [Nat.sub_self, show zer 0 = [] from rfl, List.append_nil, List.take_of_length_le (by rw [HZ.out]; exact Nat.le_refl _)] at this
      exact this
end Go.Proofs.Ytkjpdfcemdhnpaa
