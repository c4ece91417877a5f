
/- Write, Crash, Sync, Fuse, Read. -/
import Derived.Test.YtkjpdfcemdhnpaaBlNew
namespace Go.Proofs.Ytkjpdfcemdhnpaa
set_option linter.unusedVariables false
set_option linter.unusedSimpArgs false
open Go.RowKit Go.BigFrame

/-- What Write does to a file: nothing, when the power is off; else a write, and a fuse that waits burns. -/
def WritS (S : Bool) (k t : Int) (O : Bool) (B : List UInt8) (W : List WrB) (a : Nat) (d : List UInt8) (S' : Bool) (k' t' : Int) (O' : Bool) (B' : List UInt8) (W' : List WrB) : Prop :=
  (O = true ∧ S' = S ∧ k' = k ∧ t' = t ∧ O' = O ∧ B' = B ∧ W' = W) ∨ (O = false ∧ BurnS S k t O B (W ++ [(a, d)]) S' k' t' O' B' W')
def FilX (F N L n : Nat) (S : Bool) (k t : Int) (O : Bool) (B : List UInt8) (W : List WrB) (wv : Value) (w w' : World) : Prop := ∃ wv', Fil F N L n wv' S k t O B W w' ∧ Kept F N L wv w w' ∧ ∀ q, blk wv' = some q → blk wv = some q ∨ w.heap.size ≤ q
/-- What Write answers. -/
def WriteP (F N L n : Nat) (wv : Value) (S : Bool) (k t : Int) (O : Bool) (B : List UInt8) (W : List WrB) (i : Int) (d : List UInt8) (w : World) (x : Ending) (w' : World) : Prop :=
  (¬ (0 ≤ i ∧ i < (n : Int)) → x = .returned (.int .i64 4) ∧ FilX F N L n S k t O B W wv w w') ∧
  (0 ≤ i ∧ i < (n : Int) → d.length ≠ 64 → x = .returned (.int .i64 1) ∧ FilX F N L n S k t O B W wv w w') ∧
  (0 ≤ i ∧ i < (n : Int) → d.length = 64 → x = .returned (.int .i64 0) ∧ ∃ S' k' t' O' B' W', WritS S k t O B W i.toNat d S' k' t' O' B' W' ∧ FilX F N L n S' k' t' O' B' W' wv w w')
theorem FilX.below {F N L n : Nat} {wv : Value} {S : Bool} {k t : Int} {O : Bool} {B : List UInt8} {W : List WrB} {w w' : World} (h : Fil F N L n wv S k t O B W w) (hb : Below w.heap.size w w') : FilX F N L n S k t O B W wv w w' := ⟨wv, h.below hb, Kept.of_below hb, fun q e => .inl e⟩
theorem size64q (d : List UInt8) (h : d.length = 64) : (bvs d).length = 64 := by rw [bvs_len, h]
theorem loadB_run {w : World} {q o : Nat} {d : List UInt8} (hd : d.length = 64) (h : BytesAt w (some ⟨q, o, none⟩) d) : (loadI 64 (.pointer (some ⟨q, o, none⟩))).run Try.prog w = .ok (.agg (bcs d)) w := by
  refine run_loadAt_mid w q o 64 (bvs d) _ (fun j v hv => ?_) Try.underlying64 rfl (by rw [size64q d hd]; exact size64)
  obtain ⟨q1, o1, e1, _, hc⟩ := h (by omega)
  have e1' : q = q1 ∧ o = o1 := by injection e1 with e1; injection e1 with e2 e3; exact ⟨e2, e3⟩
  obtain ⟨rfl, rfl⟩ := e1'
  have hj : j < d.length := by have := (List.getElem?_eq_some_iff.1 hv).1; rw [bvs_len] at this; exact this
  rw [hc j hj, ← hv]
  simp [bvs, List.getD_eq_getElem?_getD, hj]
theorem toArr (a : Addr) (c : Nat) (w : World) : (Instr.arrayAt 64 (.slice (some a) 64 c)).run Try.prog w = .ok (.pointer (some a)) w := by
  kernel_rfl
theorem blkB_put {b d : List UInt8} {j : Nat} (hd : d.length = 64) (h : 64 * j + 64 ≤ b.length) : blkB (putB b (64 * j) d) j = d := by
  unfold blkB putB
  rw [List.drop_append, List.drop_eq_nil_of_le (by rw [List.length_take]; omega), List.nil_append, List.length_take, Nat.min_eq_left (by omega), Nat.sub_self, List.drop_zero, List.take_append_of_le_length (by omega), List.take_of_length_le (by omega)]
theorem full_snoc (W : List WrB) (a : Nat) (d : List UInt8) : full (W ++ [(a, d)]) = full W ++ [(a, 64, d)] := by
  unfold full
  rw [List.map_append]
  rfl
theorem step_w {ops : Array Oper} {o : Oper} {a : Act} {w : World} {K : Act → World → Prop} {Q : Exit → Act → World → Prop} {E : Prop} (hgd : o.guard = none) (s x : Operand)
    (ho : o.op = .call { callee := .builtin .append, args := #[s, x], argTypes := #[57, 57] })
    (P : Nat → Prop) (v xv : Value) (l : List TB) (q : TB) (hs : a.eval s = v) (hx : a.eval x = xv) (hown : OwnW P w v l) (hw : Wide l) (hq : q.2.2.length = 64)
    (hA : Src Try.prog 66 57 xv 1 (wvs [q]) w) (hn : l.length ≤ 1000000) (hP : P w.heap.size)
    (h : ∀ v' w', OwnW P w' v' (l ++ [q]) → w.grownBy w' (blk v) → (blk v' = blk v ∨ blk v' = some w.heap.size) → K (a.put o.dst v') w') :
    if Region.wanted o (yielded ops a.tmps) = true then Oper.wp Try.prog o a w K Q else E := by
  have hww : Region.wanted o (yielded ops a.tmps) = true := by simp [Region.wanted, hgd]
  rw [if_pos hww]
  obtain ⟨v', w', hr, h2, h3, h4⟩ := run_w o.type hown hw hq hA hn hP
  unfold Oper.wp
  simp [execOp, ho, resolve, invoke, builtin, hs, hx, hr, Result.andThen]
  exact h v' w' h2 h3 h4
def storeWv (x v : Value) : Sem Unit := Instr.storeAt 57 x v
theorem storeWv_eq (x v : Value) : Instr.storeAt 57 x v = storeWv x v := rfl
def putW (w : World) (g : Nat) (v : Value) : World := w.setCells g 3 [v]
theorem storeWv_run {w : World} {F N L n : Nat} {wv v : Value} {S : Bool} {k t : Int} {O : Bool} (hv : v.oneCell' = true) (hc : v.cells = #[v]) (hrow : w.heap[F]? = some (.cells (fcs F N L n wv S k t O) 61 (0, 0))) : (storeWv (.pointer (some ⟨F, 3, none⟩)) v).run Try.prog w = .ok () (putW w F v) := by
  have ht := there_row hrow 3 1 (by simp [fcs])
  unfold storeWv putW
  simp only [Instr.storeAt, Instr.sureAddr, Sem.run_bind, Sem.run_pure, Result.andThen_ok, run_store_one w _ F 3 v hv hc info57 ht]
theorem putW_only (w : World) (g : Nat) (v : Value) : Only g w (putW w g v) := only_setCells g _ 3 w
theorem putW_row {w : World} {F N L n : Nat} {wv v : Value} {S : Bool} {k t : Int} {O : Bool} (hrow : w.heap[F]? = some (.cells (fcs F N L n wv S k t O) 61 (0, 0))) : (putW w F v).heap[F]? = some (.cells (fcs F N L n v S k t O) 61 (0, 0)) := by
  unfold putW
  rw [setCells_heap F 61 [v] 3 w _ hrow]
  rfl
theorem Kept.grown {F N L : Nat} {wv : Value} {w w' : World} (hg : w.grownBy w' (blk wv)) : Kept F N L wv w w' := ⟨hg.os, hg.tape, hg.output, hg.size, fun q hq _ _ _ h => hg.block q hq (fun e => h e.symm)⟩
/-- A write more. -/
theorem fil_write {F N L n : Nat} {wv v : Value} {S : Bool} {k t : Int} {O : Bool} {now : List UInt8} {B : List UInt8} {W : List WrB} {j : Nat} {d : List UInt8} {w w' : World} (h : FileP F N L n wv S k t O now B W w) (hg : w.grownBy w' (blk wv)) (ho : OwnW (fun q => q ≠ F ∧ q ≠ N ∧ q ≠ L) w' v (full W ++ [(j, 64, d)])) (hj : j < n) (hd : d.length = 64) : FileP F N L n v S k t O now B (W ++ [(j, d)]) (putW w' F v) ∧ w'.heap[F]? = some (.cells (fcs F N L n wv S k t O) 61 (0, 0)) := by
  have hb : ∀ q, q = F ∨ q = N ∨ q = L → w'.heap[q]? = w.heap[q]? := fun q hq => by
    have hl := h.lt
    refine hg.block q (by rcases hq with rfl | rfl | rfl <;> omega) (fun e => ?_)
    have := (h.ws.blk_P q e.symm).1
    rcases hq with rfl | rfl | rfl
    · exact this.1 rfl
    · exact this.2.1 rfl
    · exact this.2.2 rfl
  have hF := (hb F (.inl rfl)).trans h.f
  refine ⟨⟨putW_row hF, ((putW_only w' F v).block N (fun e => h.d1 e.symm)).trans ((hb N (.inr (.inl rfl))).trans h.nw), ((putW_only w' F v).block L (fun e => h.d2 e.symm)).trans ((hb L (.inr (.inr rfl))).trans h.ls), ?_, h.d1, h.d2, h.d3, h.zn, h.zl, h.n1, h.n2, ?_⟩, hF⟩
  · rw [full_snoc]
    exact ho.frame fun q _ hp hq => ⟨(putW_only w' F v).block q hp.1, hp⟩
  · intro x hx
    rcases List.mem_append.1 hx with hx | hx
    · exact h.ok x hx
    · rw [List.mem_singleton.1 hx]; exact ⟨hj, hd⟩
attribute [local go_sem ↓] loadC_eq storeC_eq bsW_eq buildW_eq toArr storeWv_eq
set_option maxHeartbeats 8000000 in
set_option maxRecDepth 100000 in
theorem write_any (F N L n : Nat) (wv : Value) (S : Bool) (k t : Int) (O : Bool) (B : List UInt8) (W : List WrB) (w : World) (h : Fil F N L n wv S k t O B W w) (hW : W.length ≤ 900) (hkb : k ≤ 9223372036854775807) (i : Int) (d : List UInt8) (A : Option Addr) (c : Nat) (hA : BytesAt w A d) (hdl : d.length ≤ 1000000) :
    Calls Try.prog 22 #[.pointer (some ⟨F, 0, none⟩), .int .i64 i, .slice A d.length c] w fun x w' => WriteP F N L n wv S k t O B W i d w x w' := by
  have HF := hid h
  obtain ⟨c0, c1, _, _, _, _, _, c7⟩ := h.cells
  have HHAS := hid (has_at F N n i w c0 c1)
  have hn1 := h.n1
  have hn2 := h.n2
  by_cases hi : 0 ≤ i ∧ i < (n : Int)
  · rw [decide_eq_true hi] at HHAS
    by_cases hd : d.length = 64
    · have HP : Hid (∀ w' S' k' t' O' B' W', WritS S k t O B W i.toNat d S' k' t' O' B' W' → FilX F N L n S' k' t' O' B' W' wv w w' → WriteP F N L n wv S k t O B W i d w (.returned (.int .i64 0)) w') := fun w' S' k' t' O' B' W' a b => ⟨fun e => absurd hi e, fun _ e => absurd hd e, fun _ _ => ⟨rfl, S', k', t', O', B', W', a, b⟩⟩
      cases O with
      | true =>
        clear h c0 c1
        have HC7 := hid c7
        clear c7
        rw [hd]
        go_enter Try.func22, Try.ntmps22
        go_wp2_with fail
        refine HHAS.out.mono ?_
        rintro x W1 ⟨rfl, hb⟩
        have HB1 := hid hb
        have c7 := keep_cell hb HC7.out
        clear hb HHAS
        go_wp2_with fail
        go_ret
        exact HP.out _ _ _ _ _ _ _ (.inl ⟨rfl, rfl, rfl, rfl, rfl, rfl, rfl⟩) (FilX.below HF.out HB1.out)
      | false =>
        obtain ⟨j, rfl⟩ : ∃ j : Nat, i = (j : Int) := ⟨i.toNat, by omega⟩
        have hj : j < n := by omega
        have hji : (j : Int) < (n : Int) := hi.2
        rw [Int.toNat_natCast] at HP
        obtain ⟨q, o, rfl, hq, -⟩ := hA (by omega)
        have HA := hid hA
        rw [hd]
        clear h c0 c1 hi hA
        have HC7 := hid c7
        clear c7
        have hbs := run_bsW (j, 64, d) hd
        have hbw := run_buildW j d hd
        go_enter Try.func22, Try.ntmps22
        go_wp2_with fail
        refine HHAS.out.mono ?_
        rintro x W1 ⟨rfl, hb⟩
        have HB1 := hid hb
        have HF1 := hid (HF.out.below hb)
        have c7 := keep_cell hb HC7.out
        have HFD := hid (HF1.out.below (show Below W1.heap.size W1 W1.drew from (Below.refl _ _).drew))
        have HAD : Hid (BytesAt W1.drew (some ⟨q, o, none⟩) d) := HA.out.below (hb.drew) (Nat.le_refl _)
        obtain ⟨-, f1, -, -, -, -, -, -⟩ := HFD.out.cells
        have hld := loadB_run hd HAD.out
        have hfit : 64 * j + 64 ≤ 64 * n := by omega
        have hst := storeC_run (j := j) (d := d) HFD.out.nw (by rw [HFD.out.zn]; exact hfit) hd
        have HRN := hid (putC_row (j := j) (d := d) HFD.out.nw (by rw [HFD.out.zn]; exact hfit) hd)
        have HON := hid (putC_only W1.drew N (j * 64) d)
        generalize putC W1.drew N (j * 64) d = W2 at hst HRN HON
        clear hb HHAS HC7
        go_wp2_with fail
        go_region
        all_goals
          have HF2 : Hid (FileP F N L n wv S k t false (foldB B (W ++ [(j, d)])) B W W2) := by
            have h9 := FileP.setN HFD.out HON.out HRN.out ((putB_len (by rw [HFD.out.zn, hd]; exact hfit)).trans HFD.out.zn)
            rw [foldB_snoc]
            exact h9
          have HK2 : Hid (Kept F N L wv w W2) := (Kept.of_below HB1.out).trans ((Kept.of_below ((Below.refl _ _).drew)).trans (Kept.only HON.out (.inr (.inl rfl))) (fun q e => .inl e)) (fun q e => .inl e)
          clear HON HRN hst hld f1 HFD HAD
          have hW2 : W.length ≤ 1000 := by omega
          have HF2d : Hid (FileP F N L n wv S k t false (foldB B (W ++ [(j, d)])) B W W2.drew) := HF2.out.below ((Below.refl W2.heap.size W2).drew)
          have HBA := hid ((Below.refl W2.drew.heap.size W2.drew).alloc (Nat.le_refl _) (.cells (wcs (j, 64, d)) 71))
          have HF2a := hid (HF2d.out.below HBA.out)
          have hl2 := HF2d.out.lt
          obtain ⟨-, f1, -, f3, -, -, -, -⟩ := HF2d.out.cells
          obtain ⟨-, -, -, g3, -, -, -, -⟩ := HF2a.out.cells
          have g3' : (W2.alloc (.cells (wcs (j, 64, d)) 71)).cell? ⟨F, 3, none⟩ = some wv := g3
          have hld := loadC_run (j := j) HF2d.out.nw (by rw [HF2d.out.zn]; exact hfit)
          rw [foldB_snoc, blkB_put hd (by rw [foldB_len W B HF2.out.zl HF2.out.ok.ok]; exact hfit)] at hld
          have HWD := hid (full_wide HF2.out.ok)
          have HPA : Hid ((W2.drew.alloc (.cells (wcs (j, 64, d)) 71)).heap.size ≠ F ∧ (W2.drew.alloc (.cells (wcs (j, 64, d)) 71)).heap.size ≠ N ∧ (W2.drew.alloc (.cells (wcs (j, 64, d)) 71)).heap.size ≠ L) := by
            have h7 := HBA.out.size
            obtain ⟨l1, l2, l3⟩ := hl2
            exact ⟨by omega, by omega, by omega⟩
          go_wp2_with fail
          go_region_law ((first
            | (refine step_w (by rfl) _ _ (by rfl) (fun q => q ≠ F ∧ q ≠ N ∧ q ≠ L) wv _ (full W) (j, 64, d) (by rfl) (by rfl) HF2a.out.ws HWD.out hd (src_w _ W2.drew.heap.size 1 _ hd (heap_alloc_new W2.drew _)) (by rw [full_len]; omega) HPA.out ?_; intro v3 w3 h1 h2 h3; have HX := hid (fil_write HF2a.out h2 h1 hj hd); have HG3 := hid h2; have HE3 := hid h3; have hst3 := storeWv_run h1.one h1.cel HX.out.2; clear h1 h2 h3)
            | fail))
          all_goals
            have HF4 : Hid (Fil F N L n v3 S k t false B (W ++ [(j, d)]) (putW w3 F v3)) := HX.out.1
            have HK4 : Hid (Kept F N L wv w (putW w3 F v3)) := HK2.out.trans ((Kept.of_below (((Below.refl W2.heap.size W2).drew).trans HBA.out)).trans ((Kept.grown (F := F) (N := N) (L := L) HG3.out).trans (Kept.only (wv := wv) (putW_only w3 F v3) (.inl rfl)) (fun q e => .inl e)) (fun q e => .inl e)) (fun q e => .inl e)
            have HN4 : Hid (∀ q, blk v3 = some q → blk wv = some q ∨ w.heap.size ≤ q) := fun q e => by
              rcases HE3.out with h | h
              · exact .inl (h ▸ e)
              · rw [h] at e
                injection e with e
                exact .inr (Nat.le_trans HK2.out.size (Nat.le_trans HBA.out.size (Nat.le_of_eq e)))
            have HBN := hid (burn_any F N L n v3 S k t false B (W ++ [(j, d)]) _ HF4.out (by rw [List.length_append, List.length_singleton]; omega) hkb)
            generalize putW w3 F v3 = W4 at HF4 HK4 HBN ⊢
            clear hst3 HX HG3 HE3 HF2a HF2d HBA hld f1 f3 g3 g3' HF2 HK2
            go_wp2_with fail
            refine HBN.out.mono ?_
            rintro x W5 ⟨rfl, wv5, S5, k5, t5, O5, B5, W5', hf5, hs5, hk5, hv5⟩
            have HF5 := hid hf5
            have HS5 := hid hs5
            have HK5 := hid hk5
            have HV5 := hid hv5
            clear hf5 hs5 hk5 hv5 HBN
            go_wp2_with fail
            go_ret
            refine HP.out _ _ _ _ _ _ _ (.inr ⟨rfl, HS5.out⟩) ⟨wv5, HF5.out, HK4.out.trans HK5.out HN4.out, fun q e => ?_⟩
            rcases HV5.out with h | h
            · exact HN4.out q (h ▸ e)
            · rw [h] at e; cases e
    · have HP : Hid (∀ w', FilX F N L n S k t O B W wv w w' → WriteP F N L n wv S k t O B W i d w (.returned (.int .i64 1)) w') := fun w' b => ⟨fun e => absurd hi e, fun _ _ => ⟨rfl, b⟩, fun _ e => absurd e hd⟩
      have hne : ((d.length : Int) == 64) = false := by rw [beq_eq_false_iff_ne]; omega
      have hne2 : ((d.length : Int) != 64) = true := by rw [bne_iff_ne]; omega
      clear h c0 c1 c7
      go_enter Try.func22, Try.ntmps22
      go_wp2_with fail
      refine HHAS.out.mono ?_
      rintro x W1 ⟨rfl, hb⟩
      have HB1 := hid hb
      clear hb HHAS
      go_wp2_with fail
      go_ret
      exact HP.out _ (FilX.below HF.out HB1.out)
  · rw [decide_eq_false hi] at HHAS
    have HP : Hid (∀ w', FilX F N L n S k t O B W wv w w' → WriteP F N L n wv S k t O B W i d w (.returned (.int .i64 4)) w') := fun w' b => ⟨fun _ => ⟨rfl, b⟩, fun e => absurd e hi, fun e => absurd e hi⟩
    clear h c0 c1 c7
    go_enter Try.func22, Try.ntmps22
    go_wp2_with fail
    refine HHAS.out.mono ?_
    rintro x W1 ⟨rfl, hb⟩
    have HB1 := hid hb
    clear hb HHAS
    go_wp2_with fail
    go_ret
    exact HP.out _ (FilX.below HF.out HB1.out)
end Go.Proofs.Ytkjpdfcemdhnpaa
