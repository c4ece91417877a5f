
/- settle: the writes that last are laid down, and what else was written is set back. -/
import Derived.Test.YtkjpdfcemdhnpaaBlSmall
import Derived.LoopN
import Derived.BigQuiet
namespace Go.Proofs.Ytkjpdfcemdhnpaa
set_option linter.unusedVariables false
set_option linter.unusedSimpArgs false
open Go.RowKit Go.BigFrame

theorem Kept.only {F N L B : Nat} {wv : Value} {w w' : World} (h : Only B w w') (hB : B = F ∨ B = N ∨ B = L ∨ w.heap.size ≤ B) : Kept F N L wv w w' :=
  ⟨h.os, h.tape, h.output, Nat.le_of_eq h.size.symm, fun q hq a b c _ => h.block q (by omega)⟩
theorem FileP.setL {F N L n : Nat} {wv : Value} {S : Bool} {k t : Int} {O : Bool} {now last last' : List UInt8} {W : List WrB} {w w' : World} (h : FileP F N L n wv S k t O now last W w) (ho : Only L w w') (hr : w'.heap[L]? = some (.cells (bcs last') 64 (0, 0))) (hz : last'.length = 64 * n) : FileP F N L n wv S k t O now last' W w' :=
  ⟨(ho.block F h.d2).trans h.f, (ho.block N h.d3).trans h.nw, hr, h.ws.frame fun q _ hp hq => ⟨ho.block q hp.2.2, hp⟩, h.d1, h.d2, h.d3, h.zn, hz, h.n1, h.n2, h.ok⟩
theorem FileP.setN {F N L n : Nat} {wv : Value} {S : Bool} {k t : Int} {O : Bool} {now last now' : List UInt8} {W : List WrB} {w w' : World} (h : FileP F N L n wv S k t O now last W w) (ho : Only N w w') (hr : w'.heap[N]? = some (.cells (bcs now') 64 (0, 0))) (hz : now'.length = 64 * n) : FileP F N L n wv S k t O now' last W w' :=
  ⟨(ho.block F h.d1).trans h.f, hr, (ho.block L (fun e => h.d3 e.symm)).trans h.ls, h.ws.frame fun q _ hp hq => ⟨ho.block q hp.2.1, hp⟩, h.d1, h.d2, h.d3, hz, h.zl, h.n1, h.n2, h.ok⟩
theorem size66 : (Try.prog.info? 71).map (·.size) = some 66 := by kernel_rfl
theorem und66 : ∃ d, Try.prog.underlying 71 = some d ∧ d.isRow = true := ⟨_, Try.underlying71, rfl⟩
/-- A write is taken out of its row. -/
theorem wpList_wr {ops : Array Oper} {rest : List Oper} {op : Oper} {a : Act} {w : World} {Q : Exit → Act → World → Prop} (hgd : op.guard = none) (x : Operand) (ho : op.op = .load 71 x)
    (b o : Nat) (hx : a.eval x = .pointer (some ⟨b, o, none⟩)) (q : TB) (hq : q.2.2.length = 64) (hc : ∀ i v, (wcs q)[i]? = some v → w.cell? ⟨b, o + i, none⟩ = some v)
    (h : wpList Try.prog ops Q rest (a.put op.dst (.agg (wcs q))) w) : wpList Try.prog ops Q (op :: rest) a w := by
  obtain ⟨d, h1, h2⟩ := und66
  refine wpList_load_mid hgd 71 x ho b o hx (wcs q).toList d (fun j v hv => hc j v (by rw [← hv]; simp)) h1 h2 (by rw [Array.length_toList, wcs_size hq]; exact size66) ?_
  rw [Array.toArray_toList]
  exact h
theorem sl_to (L o b : Nat) (hb : b ≤ 64) (w : World) : (Instr.sliceAt 64 (.pointer (some ⟨L, o, none⟩)) none (some (.int .i64 (b : Int))) none).run Try.prog w = .ok (.slice (some ⟨L, o, none⟩) b 64) w := by
  have h1 : Try.prog.arrayLen 64 = 64 := by kernel_rfl
  have h2 : Try.prog.elem 64 = 5 := by kernel_rfl
  rw [run_sliceAt_array_h w 64 ⟨L, o, none⟩ (by rw [h1, h2]; exact Try.underlying64) .i64 (b : Int) (by omega) (by rw [h1]; omega), h1, h2, show (sizeOf 5).run Try.prog w = .ok 1 w from by kernel_rfl]
  simp [slicedAt, Addr.add]
theorem sl_all (L o : Nat) (w : World) : (Instr.sliceAt 64 (.pointer (some ⟨L, o, none⟩)) none none none).run Try.prog w = .ok (.slice (some ⟨L, o, none⟩) 64 64) w := by
  have h1 : Try.prog.arrayLen 64 = 64 := by kernel_rfl
  have h2 : Try.prog.elem 64 = 5 := by kernel_rfl
  rw [run_sliceAt_array_all w 64 ⟨L, o, none⟩ (by rw [h1, h2]; exact Try.underlying64), h1, h2, show (sizeOf 5).run Try.prog w = .ok 1 w from by kernel_rfl]
  simp [slicedAt, Addr.add]
theorem wcs_bytes {w : World} {g : Nat} {q : TB} {t : TypeId} {fr : Nat × Nat} (h : w.heap[g]? = some (.cells (wcs q) t fr)) : BytesAt w (some ⟨g, 2, none⟩) q.2.2 := fun _ =>
  ⟨g, 2, rfl, (Array.getElem?_eq_some_iff.1 h).1, fun j hj => by
    rw [cell_of_row _ _ _ _ _ _ h, Nat.add_comm]
    have := bcs_at q.2.2 j hj
    simpa [wcs, bcs, bvs] using this⟩
theorem wcs_cells {w : World} {g : Nat} {q : TB} {t : TypeId} {fr : Nat × Nat} (h : w.heap[g]? = some (.cells (wcs q) t fr)) : w.cell? ⟨g, 0, none⟩ = some (.int .i64 (q.1 : Int)) ∧ w.cell? ⟨g, 1, none⟩ = some (.int .i64 (q.2.1 : Int)) := ⟨cell_of_row _ _ _ _ _ _ h, cell_of_row _ _ _ _ _ _ h⟩
theorem loadC_eq (x : Value) : Instr.loadAt 64 x = loadI 64 x := rfl
theorem storeC_eq (x v : Value) : Instr.storeAt 64 x v = storeI 64 x v := rfl
theorem size64 : (Try.prog.info? 64).map (·.size) = some 64 := by kernel_rfl
theorem range_blk {w : World} {L j : Nat} {b : List UInt8} {t : TypeId} {fr : Nat × Nat} (h : w.heap[L]? = some (.cells (bcs b) t fr)) (hj : 64 * j + 64 ≤ b.length) : w.rangeAt L (j * 64) (bvs (blkB b j)) := fun i v hv => by
  have hi : i < 64 := by
    have := (List.getElem?_eq_some_iff.1 hv).1
    rw [bvs_len] at this
    unfold blkB at this
    rw [List.length_take] at this
    omega
  rw [cell_of_row _ _ _ _ _ _ h]
  have h1 := bcs_at b (j * 64 + i) (by omega)
  rw [h1, ← hv]
  unfold blkB bvs
  rw [List.getElem?_map, List.getElem?_take_of_lt hi, List.getElem?_drop, show 64 * j + i = j * 64 + i from by omega, List.getElem?_eq_getElem (by omega), List.getD_eq_getElem?_getD, List.getElem?_eq_getElem (by omega)]
  rfl
theorem loadC_run {w : World} {L j : Nat} {b : List UInt8} {t : TypeId} {fr : Nat × Nat} (h : w.heap[L]? = some (.cells (bcs b) t fr)) (hj : 64 * j + 64 ≤ b.length) : (loadI 64 (.pointer (some ⟨L, j * 64, none⟩))).run Try.prog w = .ok (.agg (bcs (blkB b j))) w := by
  have hz : (bvs (blkB b j)).length = 64 := by rw [bvs_len]; unfold blkB; rw [List.length_take, List.length_drop]; omega
  exact run_loadAt_mid w L (j * 64) 64 (bvs (blkB b j)) _ (range_blk h hj) Try.underlying64 rfl (by rw [hz]; exact size64)
def putC (w : World) (N o : Nat) (d : List UInt8) : World := w.setCells N o (bvs d)
theorem storeC_run {w : World} {N j : Nat} {b d : List UInt8} {t : TypeId} (h : w.heap[N]? = some (.cells (bcs b) t (0, 0))) (hj : 64 * j + 64 ≤ b.length) (hd : d.length = 64) : (storeI 64 (.pointer (some ⟨N, j * 64, none⟩)) (.agg (bcs d))).run Try.prog w = .ok () (putC w N (j * 64) d) :=
  run_storeAt_mid w N (j * 64) 64 (bcs d) (there_row h (j * 64) (bcs d).size (by rw [bcs_size, bcs_size]; omega)) (by rw [bcs_size, hd]; exact size64) (bvs_one d)
theorem putC_only (w : World) (N o : Nat) (d : List UInt8) : Only N w (putC w N o d) := only_setCells N _ o w
theorem putC_row {w : World} {N j : Nat} {b d : List UInt8} {t : TypeId} (h : w.heap[N]? = some (.cells (bcs b) t (0, 0))) (hj : 64 * j + 64 ≤ b.length) (hd : d.length = 64) : (putC w N (j * 64) d).heap[N]? = some (.cells (bcs (putB b (64 * j) d)) t (0, 0)) := by
  unfold putC
  rw [setCells_heap N t _ (j * 64) w _ h, Nat.mul_comm j 64, over_put b d (64 * j) (by omega)]
theorem OwnW.reads {P : Nat → Prop} {w : World} {A : Option Addr} {m c : Nat} {l : List TB} (h : OwnW P w (.slice A m c) l) : WsAt P w A l := by
  obtain ⟨A', c', hv, _, _, hws⟩ := h.shape
  injection hv with h1 h2 h3
  subst h1
  exact hws.frame (Nat.le_refl _) fun q hq _ => ⟨rfl, hq.1⟩
theorem info57 : (Try.prog.info? 57).map (·.size) = some 1 := by kernel_rfl
theorem full_at (W : List WrB) (j : Nat) (h : j < W.length) : (full W).getD j tb0 = ((W.getD j (0, [])).1, 64, (W.getD j (0, [])).2) := by
  unfold full
  rw [List.getD_eq_getElem?_getD, List.getD_eq_getElem?_getD, List.getElem?_map, List.getElem?_eq_getElem h]
  rfl
attribute [local go_sem ↓] loadC_eq storeC_eq
theorem zeroW (w : World) : (zeroValue 71).run Try.prog w = .ok (.agg (wcs (0, 0, zer 64))) w := by kernel_rfl
attribute [local go_sem ↓] zeroW
set_option maxHeartbeats 8000000 in
set_option maxRecDepth 100000 in
theorem settle_any (F N L n : Nat) (wv : Value) (S : Bool) (k t : Int) (O : Bool) (now last : List UInt8) (W : List WrB) (w : World) (h : FileP F N L n wv S k t O now last W w) (A : Option Addr) (c : Nat) (l : List TB) (hA : WsAt (fun q => q ≠ F ∧ q ≠ N ∧ q ≠ L) w A l) (hw : Wide l) (hb : ∀ q ∈ l, q.1 < n ∧ q.2.1 ≤ 64) (hl : l.length ≤ 1000) (hW : W.length ≤ 1000) :
    Calls Try.prog 30 #[.pointer (some ⟨F, 0, none⟩), .slice A l.length c] w fun x w' => x = .returned (.tuple #[]) ∧ FileP F N L n (.slice none 0 0) S k t O (resB now (foldB last (l.map toW)) (W.map (·.1))) (foldB last (l.map toW)) [] w' ∧ Kept F N L wv w w' := by
  have HF := hid h
  have HA := hid hA
  have HW := hid hw
  have HB := hid hb
  have HN2 := h.n2
  have HOK : Hid (OkB n (l.map toW)) := fun q hq => by
    obtain ⟨p, hp, rfl⟩ := List.mem_map.1 hq
    exact ⟨(hb p hp).1, by show (List.take _ _).length ≤ 64; rw [List.length_take]; have := (hb p hp).2; omega⟩
  have HZL := hid h.zl
  clear h hA hw hb
  go_enter Try.func30, Try.ntmps30
  go_wp2_with fail
  go_loopw [10] (fun a10 wr => ∃ j : Nat, a10 = .int .i64 (j : Int) ∧ j ≤ l.length ∧ Hid (FileP F N L n wv S k t O now (foldB last ((l.take j).map toW)) W wr) ∧ Hid (WsAt (fun q => q ≠ F ∧ q ≠ N ∧ q ≠ L) wr A l) ∧ Hid (Kept F N L wv w wr)) (fun a10 wr => l.length - (intOf a10).toNat)
  case atStart => exact ⟨0, rfl, Nat.zero_le _, HF, HA, Kept.refl _ _ _ _ _⟩
  case round =>
    obtain ⟨j, rfl, hj, HFr, HAr, HKr⟩ := hrel
    clear HF HA
    by_cases hlt : j < l.length
    · have hi : (j : Int) < (l.length : Int) := by omega
      obtain ⟨qb, qo, rfl, ⟨hqF, hqN, hqL⟩, hqs, hqc⟩ := HAr.out (by omega)
      have hmem : l.getD j tb0 ∈ l := by rw [List.getD_eq_getElem?_getD, List.getElem?_eq_getElem hlt]; exact List.getElem_mem _
      have hq64 := HW.out _ hmem
      obtain ⟨hqn, hqb⟩ := HB.out _ hmem
      have hcell := hqc j hlt
      have hsnoc : (l.take (j + 1)).map toW = (l.take j).map toW ++ [toW (l.getD j tb0)] := by
        rw [List.take_add_one, List.map_append, List.getElem?_eq_getElem hlt, List.getD_eq_getElem?_getD, List.getElem?_eq_getElem hlt]
        rfl
      have HFO : Hid (foldB last ((l.take (j + 1)).map toW) = putB (foldB last ((l.take j).map toW)) (64 * (l.getD j tb0).1) ((l.getD j tb0).2.2.take (l.getD j tb0).2.1)) := by
        rw [hsnoc, foldB_snoc]
        rfl
      have HCE := hid hcell
      have HZ1 : Hid ((foldB last ((l.take (j + 1)).map toW)).length = 64 * n) := foldB_len _ _ HZL.out (fun x hx => HOK.out x (by obtain ⟨p, hp, e⟩ := List.mem_map.1 hx; rw [← e]; exact List.mem_map_of_mem (List.mem_of_mem_take hp)))
      generalize l.getD j tb0 = q at HFO HCE hq64 hqn hqb
      clear hcell hqc hsnoc hmem
      have hz0 : Wide [((0, 0, zer 64) : TB)] := fun x hx => by rw [List.mem_singleton.1 hx]; exact zer_len 64
      have HAL := hid ((Below.refl wr.heap.size wr).alloc (Nat.le_refl _) (.cells (wcs (0, 0, zer 64)) 71))
      have HNW := hid (heap_alloc_new wr (.cells (wcs (0, 0, zer 64)) 71 (0, 0)))
      go_wp2_with (first
        | (refine wpList_wr rfl _ rfl qb (qo + j * 66) rfl q hq64 HCE.out ?_)
        | (refine wpList_store_abs rfl 71 (.tmp 5) (.tmp 13) rfl wr.heap.size 0 (wcs q) rfl rfl 71 _ HNW.out (by rw [wcs_size hq64]; exact Nat.le_refl _) (by rw [wcs_size hq64]; exact size66) (wcs_all q) ?_; intro W2 hO hR; rw [over_whole (wcs (0, 0, zer 64)) (wcs q) (by rw [wcs_size hq64]; rfl)] at hR; have HB2 : Hid (Below wr.heap.size wr W2) := HAL.out.trans (hO.below (Nat.le_refl _)); have HR2 := hid hR; clear hO hR)
        | fail)
      have HF2 := hid (HFr.out.below HB2.out)
      have HFD := hid (HF2.out.below (show Below W2.heap.size W2 W2.drew from (Below.refl _ _).drew))
      have HRD : Hid (W2.drew.heap[wr.heap.size]? = some (.cells (wcs q) 71 (0, 0))) := HR2.out
      have hlq := HFr.out.lt
      obtain ⟨_, _, f2, _, _, _, _, _⟩ := HFD.out.cells
      obtain ⟨g0, g1⟩ := wcs_cells HRD.out
      have hs1 := sl_to L (q.1 * 64) q.2.1 hqb
      have hs2 := sl_all wr.heap.size 2
      have hat : (q.1 : Int) < (n : Int) := by omega
      have HFIT : Hid (q.1 * 64 + q.2.1 ≤ (bcs (foldB last ((l.take j).map toW))).size) := by show _ ≤ _; rw [bcs_size, HFr.out.zl]; omega
      clear HFr HCE HAL HNW
      go_region_law ((first
        | (refine step_copy_cut (by rfl) _ _ (by rfl) L (q.1 * 64) q.2.1 64 64 64 (some ⟨wr.heap.size, 2, none⟩) q.2.2 (by rfl) (by rfl) hq64.symm _ _ (wcs_bytes HRD.out) HFD.out.ls HFIT.out ?_; intro W3 v3 ho hr; have HO3 := hid ho; have HR3 := hid hr; clear ho hr)
        | fail))
      all_goals
        have HF3 : Hid (FileP F N L n wv S k t O now (foldB last ((l.take (j + 1)).map toW)) W W3) := HFD.out.setL HO3.out (by rw [HFO.out]; have h9 := HR3.out; rw [over_put _ _ _ (by have := HFIT.out; rw [bcs_size] at this; rw [List.length_take]; omega), Nat.mul_comm] at h9; exact h9) HZ1.out
        have HK3 : Hid (Kept F N L wv w W3) := (HKr.out.trans ((Kept.of_below (HB2.out)).trans ((Kept.of_below ((Below.refl _ _).drew)).trans (Kept.only HO3.out (.inr (.inr (.inl rfl)))) (fun q e => .inl e)) (fun q e => .inl e)) (fun q e => .inl e))
        have HA3 : Hid (WsAt (fun q => q ≠ F ∧ q ≠ N ∧ q ≠ L) W3 (some ⟨qb, qo, none⟩) l) := HAr.out.frame (Nat.le_trans HB2.out.size (Nat.le_of_eq HO3.out.size.symm)) fun x hx hl => ⟨(HO3.out.block x hx.2.2).trans (HB2.out.block x hl), hx⟩
        clear HO3 HR3 f2 g0 g1
        go_wp2_with fail
        go_roundw
        case rel => exact ⟨j + 1, by go_num, by omega, HF3, HA3, HK3⟩
        case measure => simp [intOf]; omega
    · have hi : ¬ (j : Int) < (l.length : Int) := by omega
      obtain rfl : j = l.length := by omega
      have HF1 := HFr
      rw [List.take_length] at HF1
      clear HFr HAr HW HB HOK HZL hi hlt hj
      obtain ⟨LS, hLS⟩ : ∃ LS, foldB last (l.map toW) = LS := ⟨_, rfl⟩
      have HLE := hid hLS
      rw [hLS] at HF1
      clear hLS
      have HLS : Hid (LS.length = 64 * n) := HF1.out.zl
      obtain ⟨V1, hV1⟩ : ∃ V1, V1 = wr := ⟨_, rfl⟩
      subst hV1
      obtain ⟨A2, c2, hv, -, -, -⟩ := HF1.out.ws.shape
      rw [full_len] at hv
      obtain ⟨_, _, _, f3, _, _, _, _⟩ := HF1.out.cells
      rw [hv] at f3
      have HV := hid hv
      clear hv
      go_wp2_with fail
      go_loopw [33] (fun a33 wr => ∃ j : Nat, a33 = .int .i64 (j : Int) ∧ j ≤ W.length ∧ Hid (FileP F N L n wv S k t O (resB now LS ((W.take j).map (·.1))) LS W wr) ∧ Hid (Kept F N L wv w wr)) (fun a33 wr => W.length - (intOf a33).toNat)
      case atStart => exact ⟨0, rfl, Nat.zero_le _, HF1, HKr⟩
      case round =>
        clear HF1 HKr f3
        obtain ⟨j, rfl, hj, HFr, HKr⟩ := hrel
        by_cases hlt : j < W.length
        · have hi : (j : Int) < (W.length : Int) := by omega
          have hws := HFr.out.ws
          rw [HV.out] at hws
          obtain ⟨qb, qo, hAq, ⟨hqF, hqN, hqL⟩, hqs, hqc⟩ := hws.reads (by rw [full_len]; omega)
          have hcell := hqc j (by rw [full_len]; exact hlt)
          have hfa := full_at W j hlt
          have hmem : W.getD j (0, []) ∈ W := by rw [List.getD_eq_getElem?_getD, List.getElem?_eq_getElem hlt]; exact List.getElem_mem _
          have hqn : ((full W).getD j tb0).1 < n := by rw [hfa]; exact (HFr.out.ok _ hmem).1
          have hd64 : ((full W).getD j tb0).2.2.length = 64 := by rw [hfa]; exact (HFr.out.ok _ hmem).2
          have HRO : Hid (resB now LS ((W.take (j + 1)).map (·.1)) = putB (resB now LS ((W.take j).map (·.1))) (64 * ((full W).getD j tb0).1) (blkB LS ((full W).getD j tb0).1)) := by
            show _ = _
            rw [hfa, ← resB_snoc, List.take_add_one, List.map_append, List.getElem?_eq_getElem hlt, List.getD_eq_getElem?_getD, List.getElem?_eq_getElem hlt]
            rfl
          have HCE := hid hcell
          have HLT : Hid (∀ x ∈ (W.take (j + 1)).map (·.1), x < n) := fun x hx => by
            obtain ⟨p, hp, rfl⟩ := List.mem_map.1 hx
            exact (HFr.out.ok p (List.mem_of_mem_take hp)).1
          clear hfa
          generalize (full W).getD j tb0 = q at HRO HCE hd64 hqn hcell
          have hq66 : (wcs q).size = 66 := wcs_size hd64
          subst hAq
          clear hcell hqc hws hmem
          have HAL := hid ((Below.refl wr.heap.size wr).alloc (Nat.le_refl _) (.cells (wcs (0, 0, zer 64)) 71))
          have HNW := hid (heap_alloc_new wr (.cells (wcs (0, 0, zer 64)) 71 (0, 0)))
          go_wp2_with (first
            | (refine wpList_wr rfl _ rfl qb (qo + j * 66) rfl q hd64 HCE.out ?_)
            | (refine wpList_store_abs rfl 71 (.tmp 7) (.tmp 36) rfl wr.heap.size 0 (wcs q) rfl rfl 71 _ HNW.out (by rw [hq66]; exact Nat.le_refl _) (by rw [hq66]; exact size66) (wcs_all _) ?_; intro W2 hO hR; rw [over_whole (wcs (0, 0, zer 64)) (wcs q) (by rw [hq66]; rfl)] at hR; have HB2 : Hid (Below wr.heap.size wr W2) := HAL.out.trans (hO.below (Nat.le_refl _)); have HR2 := hid hR; clear hO hR)
            | fail)
          have HF2 := hid (HFr.out.below HB2.out)
          have HFD := hid (HF2.out.below (show Below W2.heap.size W2 W2.drew from (Below.refl _ _).drew))
          have HRD : Hid (W2.drew.heap[wr.heap.size]? = some (.cells (wcs q) 71 (0, 0))) := HR2.out
          obtain ⟨_, f1, f2, _, _, _, _, _⟩ := HFD.out.cells
          obtain ⟨g0, _⟩ := wcs_cells HRD.out
          have hat : (q.1 : Int) < (n : Int) := by omega
          have hfit : 64 * q.1 + 64 ≤ 64 * n := by omega
          have hbl := blkB_len HLS.out hqn
          have hld := loadC_run (j := q.1) HFD.out.ls (by rw [HLS.out]; exact hfit)
          have hst := storeC_run (j := q.1) (d := blkB LS q.1) HFD.out.nw (by rw [HFD.out.zn]; exact hfit) hbl
          have HRN := hid (putC_row (j := q.1) (d := blkB LS q.1) HFD.out.nw (by rw [HFD.out.zn]; exact hfit) hbl)
          have HON := hid (putC_only W2.drew N (q.1 * 64) (blkB LS q.1))
          generalize putC W2.drew N (q.1 * 64) (blkB LS q.1) = W3 at hst HRN HON
          clear HFr HCE HAL HNW
          go_region
          all_goals
            have HF3 : Hid (FileP F N L n wv S k t O (resB now LS ((W.take (j + 1)).map (·.1))) LS W W3) := by
              have h9 := HFD.out.setN HON.out HRN.out ((putB_len (by rw [HFD.out.zn, hbl]; exact hfit)).trans HFD.out.zn)
              rw [HRO.out]
              exact h9
            have HK3 : Hid (Kept F N L wv w W3) := (HKr.out.trans ((Kept.of_below (HB2.out)).trans ((Kept.of_below ((Below.refl _ _).drew)).trans (Kept.only HON.out (.inr (.inl rfl))) (fun q e => .inl e)) (fun q e => .inl e)) (fun q e => .inl e))
            clear HON HRN f1 f2 g0 hld hst
            go_wp2_with fail
            go_roundw
            case rel => exact ⟨j + 1, by go_num, by omega, HF3, HK3⟩
            case measure => simp [intOf]; omega
        · have hi : ¬ (j : Int) < (W.length : Int) := by omega
          obtain rfl : j = W.length := by omega
          rw [List.take_length] at HFr
          have HRF := hid HFr.out.f
          go_wp2_with (first
            | (refine store_part rfl 57 _ _ rfl F 3 (.slice none 0 0) _ (fcs F N L n wv S k t O) (fcs F N L n (.slice none 0 0) S k t O) rfl rfl info57 (by simp [fcs]) rfl rfl HRF.out rfl ?_; intro W3 ho hr; have HO3 := hid ho; have HR3 := hid hr; clear ho hr)
            | fail)
          have hF := HFr.out
          have hle := HLE.out
          subst hle
          refine ⟨by simp, _, results_none rfl _ _ _, rfl, ?_, ?_⟩
          · have hnw := hF.nw
            exact ⟨HR3.out, (HO3.out.block N (fun e => hF.d1 e.symm)).trans hnw, (HO3.out.block L (fun e => hF.d2 e.symm)).trans hF.ls, OwnW.nil _ _, hF.d1, hF.d2, hF.d3, hF.zn, hF.zl, hF.n1, hF.n2, fun q hq => by cases hq⟩
          · exact HKr.out.trans (Kept.only (wv := wv) HO3.out (.inl rfl)) (fun q e => .inl e)
end Go.Proofs.Ytkjpdfcemdhnpaa
