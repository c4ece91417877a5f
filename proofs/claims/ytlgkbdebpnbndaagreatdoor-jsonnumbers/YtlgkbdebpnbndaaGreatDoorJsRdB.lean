
/- The reference's reader: what list does behind '['. -/
import Derived.Test.YtlgkbdebpnbndaaGreatDoorJsRP3
namespace Go.Proofs.YtlgkbdebpnbndaaGreatDoor
set_option linter.unusedVariables false
set_option linter.unusedSimpArgs false
open Go.RowKit Go.BigFrame
attribute [local go_sem ↓] loadV_eq

abbrev avv (vv : Value) : Array Value := #[.int .i64 4, .int .i64 0, .string ⟨#[]⟩, vv, .slice none 0 0]
theorem step_giveQ {ops : Array Oper} {o : Oper} {a : Act} {w : World} {K : Act → World → Prop} {Q : Exit → Act → World → Prop} {E : Prop} (hgd : o.guard = none) (f : FuncId) (x y : Operand) (ts : Array TypeId)
    (ho : o.op = .call { callee := .value (.func f), args := #[x, y], argTypes := ts }) (eg : ∀ args w, (callFunc f args).run Tryz.prog w = .ok (.enter f args) w) (xv yv : Value) (hx : a.eval x = xv) (hy : a.eval y = yv)
    {R : Value → World → Prop} (hc : Calls Tryz.prog f #[xv, yv] w fun e w' => ∃ v, e = .returned v ∧ R v w') (h : ∀ v w', R v w' → K (a.put o.dst v) w') :
    if Region.wanted o (yielded ops a.tmps) = true then Oper.wp Tryz.prog o a w K Q else E :=
  step_gives hgd f #[x, y] ts ho eg #[xv, yv] (by simp [hx, hy]) hc h
def putQ3 (w : World) (g : Nat) (v : Value) : World := w.setCells g 3 [v]
theorem storeQ3_run {w : World} {g : Nat} {cs : Array Value} {v : Value} (hz : cs.size = 5) (hv : v.oneCell' = true) (hc : v.cells = #[v]) (hrow : w.heap[g]? = some (.cells cs 25 (0, 0))) : (storeVs (.pointer (some ⟨g, 3, none⟩)) v).run Tryz.prog w = .ok () (putQ3 w g v) := by
  have ht := there_row hrow 3 1 (by rw [hz]; decide)
  unfold storeVs putQ3
  simp only [Instr.storeAt, Instr.sureAddr, Sem.run_bind, Sem.run_pure, Result.andThen_ok, run_store_one w _ g 3 v hv hc info22 ht]
theorem putQ3_only (w : World) (g : Nat) (v : Value) : Only g w (putQ3 w g v) := only_setCells g _ 3 w
theorem putQ3_row {w : World} {g : Nat} {a b c e f v : Value} (hrow : w.heap[g]? = some (.cells #[a, b, c, e, f] 25 (0, 0))) : (putQ3 w g v).heap[g]? = some (.cells #[a, b, c, v, f] 25 (0, 0)) := by
  unfold putQ3
  rw [setCells_heap g 25 [v] 3 w _ hrow]
  rfl
theorem row_cell3 {w : World} {g : Nat} {a b c e f : Value} (hrow : w.heap[g]? = some (.cells #[a, b, c, e, f] 25 (0, 0))) : w.cell? ⟨g, 3, none⟩ = some e := cell_of_row _ _ _ _ _ _ hrow
theorem src_vcs {w : World} {g c : Nat} {cs : Array Value} (hz : cs.size = 5) (h1 : cs.all (·.oneCell') = true) (hg : w.heap[g]? = some (.cells cs 25 (0, 0))) : Src Tryz.prog 5 22 (.slice (some ⟨g, 0, none⟩) 1 c) 1 cs.toList w :=
  src_litK vjK w g 1 c cs.toList (by rw [Array.length_toList, hz]) hg (fun u hu => by
    rw [Array.all_eq_true_iff_forall_mem] at h1
    exact h1 u (Array.mem_toList_iff.1 hu))
theorem arr5 (cs : Array Value) (h : cs.size = 5) : ∃ a b c e f, cs = #[a, b, c, e, f] := by
  match cs, h with
  | ⟨[a, b, c, e, f]⟩, _ => exact ⟨a, b, c, e, f, rfl⟩
theorem cells_one {v : Value} (h : v.oneCell' = true) : v.cells = #[v] := by
  cases v <;> first | rfl | (exfalso; revert h; decide) | (exfalso; simp [Value.oneCell'] at h)
theorem avv_one {v : Value} (h : v.oneCell' = true) : (avv v).all (·.oneCell') = true := by
  unfold avv
  simp [Array.all, h]
  rfl
theorem Re.toB {w w' : World} {R m k : Nat} {g : Option Nat} {s : List UInt8} (h : Re w R s m k) (hg : w.grownBy w' g) (hne : g ≠ some R) : Re w' R s m k := by
  obtain ⟨p, h2, h3⟩ := h
  exact ⟨p, h2, (hg.block R h3.lt (fun e => hne e.symm)).trans h3⟩
theorem Rl.toB {w w' : World} {R m : Nat} {g : Option Nat} {s l : List UInt8} (h : Rl w R s l m) (hg : w.grownBy w' g) (hne : g ≠ some R) : Rl w' R s l m := by
  obtain ⟨p, h1, h2, h3⟩ := h
  exact ⟨p, h1, h2, (hg.block R h3.lt (fun e => hne e.symm)).trans h3⟩
attribute [local go_sem ↓] storeVs_eq
set_option maxHeartbeats 16000000 in
set_option maxRecDepth 100000 in
theorem listA_of (d lev : Nat) (IH : ValQOk d (lev + 1)) (l : List UInt8) (n : Nat) (s : List UInt8) (R : Nat) (w : World) (c0 : UInt8) (hs : s.length ≤ 100000) (hn : n ≤ 8192) (hd : lev + 1 ≤ 16) (h : Rl w R s (c0 :: l) n) :
    Calls Tryz.prog 69 #[.pointer (some ⟨R, 0, none⟩), .agg #[.int .i64 4, .int .i64 0, .string ⟨#[]⟩, .slice none 0 0, .slice none 0 0], .int .u8 93, .int .i64 ((lev + 1 : Nat) : Int)] w fun x w' => LstQ d lev l n s R w x w' := by
  have hRl := h.lt
  have hll := h.len
  have HIH := hid IH
  have hs6 : s.length ≤ 1000000 := by omega
  have hel := val_shr d (lev + 1)
  have HST := hid (fun ks l n h => lstW_step (el := valJ d (lev + 1)) hel ks l n h)
  have HSH := hid hel
  have hlw := dw_len whX l
  obtain ⟨RES, hRES⟩ : ∃ RES, lstJ (valJ d (lev + 1)) l n = RES := ⟨_, rfl⟩
  have HPOST : Hid (∀ e w', ((∀ ks r m, RES = .ok (ks, r, m) → ∃ A c, e = .returned (.agg #[.int .i64 4, .int .i64 0, .string ⟨#[]⟩, .slice A ks.length c, .slice none 0 0]) ∧ ks.length ≤ c ∧ VsAt (fun q => w.heap.size ≤ q) d w' A ks ∧ Rl w' R s r m) ∧ (∀ k, RES = .error k → ∃ cs m, e = .returned (.agg cs) ∧ cs.size = 5 ∧ (cs.all (·.oneCell') = true) ∧ k ≠ 0 ∧ Re w' R s m k) ∧ w.grownBy w' (some R)) → LstQ d lev l n s R w e w') := fun e w' hh => by
    rw [← hRES] at hh
    exact hh
  have HFIRST : Hid ((preX [93] (l.dropWhile whX) = true ∧ RES = .ok ([], (l.dropWhile whX).drop 1, n)) ∨ (preX [93] (l.dropWhile whX) = false ∧ RES = lstW (valJ d (lev + 1)) [] (l.dropWhile whX) n)) := by
    rw [← hRES]
    unfold lstJ
    cases preX [93] (l.dropWhile whX) with
    | true => exact .inl ⟨rfl, rfl⟩
    | false => exact .inr ⟨rfl, rfl⟩
  clear hRES hel IH
  have hi : ¬ (16 : Int) < ((lev + 1 : Nat) : Int) := by omega
  have hi' : ¬ (16 : Int) < (lev : Int) + 1 := by omega
  have HB := hid ((((Below.refl w.heap.size w).alloc (Nat.le_refl _) (.cells #[.int .i64 4, .int .i64 0, .string ⟨#[]⟩, .slice none 0 0, .slice none 0 0] 25)).alloc (by show _ ≤ (Array.push _ _).size; rw [Array.size_push]; omega) (.cells #[.int .i64 0, .int .i64 0, .string ⟨#[]⟩, .slice none 0 0, .slice none 0 0] 25)))
  have HX := hid (heap_first w (.cells #[.int .i64 4, .int .i64 0, .string ⟨#[]⟩, .slice none 0 0, .slice none 0 0] 25 (0, 0)) (.cells #[.int .i64 0, .int .i64 0, .string ⟨#[]⟩, .slice none 0 0, .slice none 0 0] 25 (0, 0)))
  have HQ := hid (heap_second w (.cells #[.int .i64 4, .int .i64 0, .string ⟨#[]⟩, .slice none 0 0, .slice none 0 0] 25 (0, 0)) (.cells #[.int .i64 0, .int .i64 0, .string ⟨#[]⟩, .slice none 0 0, .slice none 0 0] 25 (0, 0)))
  obtain ⟨W0, hW0⟩ : ∃ W0, (w.alloc (.cells #[.int .i64 4, .int .i64 0, .string ⟨#[]⟩, .slice none 0 0, .slice none 0 0] 25)).alloc (.cells #[.int .i64 0, .int .i64 0, .string ⟨#[]⟩, .slice none 0 0, .slice none 0 0] 25) = W0 := ⟨_, rfl⟩
  rw [hW0] at HB HX HQ
  have hz0 : w.heap.size + 2 ≤ W0.heap.size := by rw [← hW0]; simp
  have h0 := h.below HB.out
  have hrow := h0.row5.1
  have HNX := hid (fun w' h2 => h0.next (w' := w') h2)
  have hpb : s.length - (c0 :: l).length ≤ 1000000 := by omega
  generalize s.length - (c0 :: l).length = p at hrow HNX hpb
  obtain ⟨_, f1, _, _⟩ := hrow.cells
  unfold Rq at hrow
  have HROW := hid hrow
  clear h h0 hrow
  go_enter Tryz.func69, Tryz.ntmps69
  go_wp2_with (first
    | (refine store_part rfl 3 _ _ rfl R 1 (.int .i64 ((p : Int) + 1)) _ _ #[.string (asS s), .int .i64 ((p : Int) + 1), .int .i64 n, .int .i64 ((0 : Nat) : Int)] rfl rfl info3q (by simp) rfl rfl HROW.out rfl ?_; intro W1 ho hr; have HR1 : Hid (Rl W1 R s l n) := HNX.out W1 (by unfold Rq; rw [show ((p + 1 : Nat) : Int) = (p : Int) + 1 from by omega]; exact hr); have HX1 := hid ((ho.block w.heap.size (by omega)).trans HX.out); have HQ1 := hid ((ho.block (w.heap.size + 1) (by omega)).trans HQ.out); have HG1 := hid ((to_below (R := R) HB.out).trans (to_only ho)); have hz1 : w.heap.size + 2 ≤ W1.heap.size := Nat.le_trans hz0 (Nat.le_of_eq ho.size.symm); have HWT := hid (HR1.out.white hs6); clear ho hr)
    | fail)
  refine HWT.out.mono ?_
  rintro x W2 ⟨rfl, hr, hg⟩
  have HX2 := hid (to_row hg HX1.out (by omega))
  have HQ2 := hid (to_row hg HQ1.out (by omega))
  have HG2 := hid (HG1.out.trans hg)
  have hz2 := Nat.le_trans hz1 hg.size
  have HP2 := hid (hr.past 93 hs6)
  clear hr hg HWT HX1 HQ1 HG1 HR1 HX HQ HB HROW HNX f1 hW0
  generalize l.dropWhile whX = l1 at HFIRST hlw HP2
  rcases HFIRST.out with ⟨b1, hres⟩ | ⟨b1, hres⟩
  · rw [b1, passJ_yes b1] at HP2
    have HRS := hid hres
    clear b1 hres HFIRST HST HSH HIH
    go_wp2_with fail
    refine HP2.out.mono ?_
    rintro x W3 ⟨rfl, hr, hg⟩
    have hx3 := to_row hg HX2.out (by omega)
    have HQ3 := hid (to_row hg HQ2.out (by omega))
    have HG3 := hid (HG2.out.trans hg)
    have HR3 := hid hr
    have hld := loadV_run hx3 rfl
    clear hr hg hx3 HP2
    go_wp2_with (first
      | (refine wpList_store_abs rfl 25 (.tmp 8) (.tmp 28) rfl (w.heap.size + 1) 0 #[.int .i64 4, .int .i64 0, .string ⟨#[]⟩, .slice none 0 0, .slice none 0 0] rfl rfl 25 _ HQ3.out (Nat.le_refl 5) infoVj (vcs_all _ _ _ _ _ _ _ _ _) ?_; intro W9 hO9 hW9)
      | fail)
    rw [over_whole #[.int .i64 0, .int .i64 0, .string ⟨#[]⟩, .slice none 0 0, .slice none 0 0] #[.int .i64 4, .int .i64 0, .string ⟨#[]⟩, .slice none 0 0, .slice none 0 0] rfl] at hW9
    refine bodyPost_ret (ret_v (p := 8) Tryz.results69 _ _ (w.heap.size + 1) _ rfl (0, 0) rfl hW9) rfl (HPOST.out _ _ ⟨(fun ks r m h => ?_), (fun k h => by rw [HRS.out] at h; cases h), grow_own HG3.out (to_only hO9) (fun q e => by injection e with e; omega)⟩)
    rw [HRS.out] at h
    injection h with h
    injection h with h1 h
    injection h with h2 h3
    subst h1 h2 h3
    exact ⟨none, 0, rfl, Nat.le_refl _, VsAt.nil _ _ _ _, HR3.out.to (to_only hO9) (by omega)⟩
  · rw [b1, passJ_no b1] at HP2
    have HRS := hid hres
    clear b1 hres HFIRST
    go_wp2_with fail
    refine HP2.out.mono ?_
    rintro x W3 ⟨rfl, hr, hg⟩
    have HX3 := hid (to_row hg HX2.out (by omega))
    have HQ3 := hid (to_row hg HQ2.out (by omega))
    have HG3 := hid (HG2.out.trans hg)
    have HR3 := hid hr
    clear hr hg HP2 HX2 HQ2 HG2
    go_wp2_with fail
    go_loopw [9, 10] (fun a9 a10 wr => Hid (w.grownBy wr (some R)) ∧ Hid (wr.heap[w.heap.size + 1]? = some (.cells #[.int .i64 0, .int .i64 0, .string ⟨#[]⟩, .slice none 0 0, .slice none 0 0] 25 (0, 0))) ∧ ((∃ (vv : Value) (ks : List (VJ d)) (rest : List UInt8) (k : Nat), k ≤ 8192 ∧ ks.length + rest.length ≤ l1.length ∧ Hid (wr.heap[w.heap.size]? = some (.cells (avv vv) 25 (0, 0))) ∧ Hid (RES = lstW (valJ d (lev + 1)) ks rest k) ∧ Hid (Rl wr R s rest k) ∧ Hid (OwnVj (fun q => w.heap.size + 2 ≤ q) wr d vv ks)) ∨ (∃ (cs : Array Value) (m er : Nat), Hid (wr.heap[w.heap.size]? = some (.cells cs 25 (0, 0))) ∧ Hid (cs.size = 5 ∧ (cs.all (·.oneCell') = true)) ∧ er ≠ 0 ∧ Hid (RES = .error er) ∧ Hid (Re wr R s m er)))) (fun a9 a10 wr => mQ s.length R wr)
    case atStart => exact ⟨HG3, HQ3, .inl ⟨.slice none 0 0, [], l1, n, hn, by simp, HX3, HRS, HR3, OwnVj.nil _ _ _⟩⟩
    case round =>
      clear HX3 HQ3 HG3 HR3 HRS
      obtain ⟨HG, HQR, ⟨vv, ks, rest, k, hk, hkl, HX, HRS, HR, HO⟩ | ⟨cs, m, er, HX, HCS, her, HRS, HR⟩⟩ := hrel
      · obtain ⟨px, _, _, hrx⟩ := HR.out
        obtain ⟨_, _, _, f3⟩ := hrx.cells
        have HME := hid (mQ_rl HR.out)
        have hrl := HR.out.len
        have HENv := hid (enters_of Tryz.func40 (by kernel_rfl) rfl)
        have HSTP := hid (HST.out ks rest k hk)
        clear hrx
        go_wp2_with fail
        have HRd := hid (HR.out.below (show Below wr.heap.size wr wr.drew from (Below.refl _ _).drew))
        have HVC := hid (HIH.out rest k s R wr.drew hs hk HRd.out)
        rw [show ((lev + 1 : Nat) : Int) = (lev : Int) + 1 from by omega] at HVC
        have HXd : Hid (wr.drew.heap[w.heap.size]? = some (.cells (avv vv) 25 (0, 0))) := HX.out
        have HQd : Hid (wr.drew.heap[w.heap.size + 1]? = some (.cells #[.int .i64 0, .int .i64 0, .string ⟨#[]⟩, .slice none 0 0, .slice none 0 0] 25 (0, 0))) := HQR.out
        have HGd : Hid (w.grownBy wr.drew (some R)) := HG.out.trans (to_below ((Below.refl _ _).drew))
        have HOd : Hid (OwnVj (fun q => w.heap.size + 2 ≤ q) wr.drew d vv ks) := HO.out.below ((Below.refl _ _).drew)
        have hzd : w.heap.size + 1 < wr.drew.heap.size := (Array.getElem?_eq_some_iff.1 HQd.out).1
        have hRd := HRd.out.lt
        have HBV := hid (fun q (hq : blk vv = some q) => HOd.out.blk_P q hq)
        have k1 := row_cell3 HXd.out
        have hks6 : ks.length ≤ 1000000 := by simp only [List.length_cons] at hll; omega
        have HONE := hid HOd.out.one
        cases hv : valJ d (lev + 1) rest k with
        | error er =>
          have HER : Hid (RES = .error er) := by
            show _ = _
            rw [HRS.out, HSTP.out]
            simp only [hv]
          have HVC2 : Hid (Calls Tryz.prog 40 #[.pointer (some ⟨R, 0, none⟩), .int .i64 ((lev : Int) + 1)] wr.drew fun e w' => ∃ v, e = .returned v ∧ ∃ a b c e f m, v = .agg #[a, b, c, e, f] ∧ (#[a, b, c, e, f] : Array Value).all (·.oneCell') = true ∧ er ≠ 0 ∧ Re w' R s m er ∧ wr.drew.grownBy w' (some R)) := HVC.out.mono fun e w' hh => by
            obtain ⟨cs, m, h1, h2, h3, h4, h5⟩ := hh.2.1 er hv
            obtain ⟨a, b, c, e2, f, rfl⟩ := arr5 cs h2
            exact ⟨_, h1, a, b, c, e2, f, m, rfl, h3, h4, h5, hh.2.2⟩
          clear HSTP HVC hv HST HSH HX HQR HG HO HR HRS
          go_region_law ((first
              | (refine step_giveQ (by rfl) 40 _ _ _ (by rfl) HENv.out (.pointer (some ⟨R, 0, none⟩)) (.int .i64 ((lev : Int) + 1)) (by rfl) (by rfl) HVC2.out ?_; intro v1 w1 ha; obtain ⟨a, b, c, e, f, m, rfl, hca, her, hr, hg⟩ := ha; have HCA := hid hca; have HR1 := hid hr; have HX1 := hid (to_row hg HXd.out (by omega)); have HQ1 := hid (to_row hg HQd.out (by omega)); have HG1 := hid (HGd.out.trans hg); have HO1 := hid (HOd.out.to hg (fun q hq => by omega)); have hz1 := hg.size; have k2 := row_cell3 HX1.out; have HBA := hid ((Below.refl w1.heap.size w1).alloc (Nat.le_refl _) (.cells #[a, b, c, e, f] 25)); have HX2 := hid (row_keep HBA.out HX1.out); have HQ2 := hid (row_keep HBA.out HQ1.out); have HG2 := hid (HG1.out.trans (to_below HBA.out)); have HR2 := hid (HR1.out.below HBA.out); have HO2 := hid (HO1.out.below HBA.out); have k3 := row_cell3 HX2.out; clear hca hr hg)
              | (refine step_vjAny (by rfl) _ _ (by rfl) (fun q => w.heap.size + 2 ≤ q) d vv _ ks #[a, b, c, e, f] (by rfl) (by rfl) HO2.out (src_vcs rfl HCA.out (heap_alloc_new w1 _)) hks6 ?_; intro v3 w3 h1 h2; have HN3 := hid h1; have HG3 := hid h2; have HX3 : Hid (w3.heap[w.heap.size]? = some (.cells (avv vv) 25 (0, 0))) := (h2.block _ (Array.getElem?_eq_some_iff.1 HX2.out).1 (fun e => by have := (HBV.out _ e.symm).1; omega)).trans HX2.out; have HQ3 : Hid (w3.heap[w.heap.size + 1]? = some (.cells #[.int .i64 0, .int .i64 0, .string ⟨#[]⟩, .slice none 0 0, .slice none 0 0] 25 (0, 0))) := (h2.block _ (Array.getElem?_eq_some_iff.1 HQ2.out).1 (fun e => by have := (HBV.out _ e.symm).1; omega)).trans HQ2.out; have hst := storeQ3_run rfl HN3.out (cells_one HN3.out) HX3.out; clear h1 h2)
              | fail))
          all_goals
            have HRz : Hid (Re (putQ3 w3 w.heap.size v3) R s m er) := (HR2.out.toB HG3.out (fun e => by have := (HBV.out R e).1; omega)).to (to_only (putQ3_only w3 w.heap.size v3)) (by omega)
            have HXz : Hid ((putQ3 w3 w.heap.size v3).heap[w.heap.size]? = some (.cells (avv v3) 25 (0, 0))) := putQ3_row HX3.out
            have HQz : Hid ((putQ3 w3 w.heap.size v3).heap[w.heap.size + 1]? = some (.cells #[.int .i64 0, .int .i64 0, .string ⟨#[]⟩, .slice none 0 0, .slice none 0 0] 25 (0, 0))) := ((putQ3_only w3 w.heap.size v3).block _ (by omega)).trans HQ3.out
            have HGz : Hid (w.grownBy (putQ3 w3 w.heap.size v3) (some R)) := grow_own (grow_own HG2.out HG3.out (fun q e => by have := (HBV.out q e).1; omega)) (to_only (putQ3_only w3 w.heap.size v3)) (fun q e => by injection e with e; omega)
            have HCZ : Hid ((avv v3).size = 5 ∧ ((avv v3).all (·.oneCell') = true)) := ⟨rfl, avv_one HN3.out⟩
            generalize putQ3 w3 w.heap.size v3 = wz at HRz HXz HQz HGz ⊢
            clear hst k1 k2 k3 HX3 HQ3 HG3 HX2 HQ2 HG2 HR2 HO2 HX1 HQ1 HG1 HR1 HO1 HBA HVC2 HOd HRd HXd HQd HGd HBV HCA
            have HWT := hid (HRz.out.white hs6)
            clear HRz
            go_wp2_with fail
            refine HWT.out.mono ?_
            rintro x W6 ⟨rfl, hr, hg⟩
            have HR6 := hid hr
            have HX6 := hid (to_row hg HXz.out (by omega))
            have HQ6 := hid (to_row hg HQz.out (by omega))
            have HG6 := hid (HGz.out.trans hg)
            obtain ⟨px, hpx, hrx⟩ := hr
            obtain ⟨_, _, _, b3⟩ := hrx.cells
            have hke : ((er : Int) == 0) = false := by rw [beq_eq_false_iff_ne]; omega
            have hld := loadV_run HX6.out HCZ.out.1
            clear hg hrx hpx HWT HXz HQz HGz
            go_wp2_with (first
              | (refine wpList_store_abs rfl 25 (.tmp 8) (.tmp 102) rfl (w.heap.size + 1) 0 (avv v3) rfl rfl 25 _ HQ6.out (by rw [HCZ.out.1]; exact Nat.le_refl _) (by rw [HCZ.out.1]; exact infoVj) HCZ.out.2 ?_; intro W9 hO9 hW9)
              | fail)
            rw [over_whole #[.int .i64 0, .int .i64 0, .string ⟨#[]⟩, .slice none 0 0, .slice none 0 0] (avv v3) (by rw [HCZ.out.1]; rfl)] at hW9
            refine bodyPost_ret (ret_v (p := 8) Tryz.results69 _ _ (w.heap.size + 1) _ HCZ.out.1 (0, 0) rfl hW9) rfl (HPOST.out _ _ ⟨(fun ks r m h => by rw [HER.out] at h; cases h), (fun k h => ?_), grow_own HG6.out (to_only hO9) (fun q e => by injection e with e; omega)⟩)
            rw [HER.out] at h
            injection h with h
            subst h
            exact ⟨_, m, rfl, HCZ.out.1, HCZ.out.2, her, HR6.out.to (to_only hO9) (by omega)⟩
        | ok q =>
          obtain ⟨t, l2, n2⟩ := q
          obtain ⟨hl2, hn2⟩ := HSH.out _ _ _ _ _ hk hv
          have HWY : Hid (preX [93] (l2.dropWhile whX) = true → RES = .ok (ks ++ [t], (l2.dropWhile whX).drop 1, n2)) := fun h => by
            rw [HRS.out, HSTP.out]
            simp only [hv, h, if_true]
          have HWG : Hid (preX [93] (l2.dropWhile whX) = false → preX [44] (l2.dropWhile whX) = true → RES = lstW (valJ d (lev + 1)) (ks ++ [t]) ((l2.dropWhile whX).drop 1) n2) := fun h h2 => by
            rw [HRS.out, HSTP.out]
            simp only [hv, h, h2, if_true]
            rfl
          have HWE : Hid (preX [93] (l2.dropWhile whX) = false → preX [44] (l2.dropWhile whX) = false → RES = .error 5) := fun h h2 => by
            rw [HRS.out, HSTP.out]
            simp only [hv, h, h2]
            rfl
          have HVC2 : Hid (Calls Tryz.prog 40 #[.pointer (some ⟨R, 0, none⟩), .int .i64 ((lev : Int) + 1)] wr.drew fun e w' => ∃ v, e = .returned v ∧ ∃ cs, v = .agg cs ∧ VAt (fun q => wr.drew.heap.size ≤ q) d w' cs t ∧ Rl w' R s l2 n2 ∧ wr.drew.grownBy w' (some R)) := HVC.out.mono fun e w' hh => by
            obtain ⟨cs, h1, h2, h3⟩ := hh.1 t l2 n2 hv
            exact ⟨_, h1, cs, rfl, h2, h3, hh.2.2⟩
          have hdw2 := dw_len whX l2
          clear HSTP HVC hv HX HQR HG HO HR HRS
          go_region_law ((first
              | (refine step_giveQ (by rfl) 40 _ _ _ (by rfl) HENv.out (.pointer (some ⟨R, 0, none⟩)) (.int .i64 ((lev : Int) + 1)) (by rfl) (by rfl) HVC2.out ?_; intro v1 w1 ha; obtain ⟨cs, rfl, hva, hr, hg⟩ := ha; have HV1 := hid hva; obtain ⟨kA, kc, nA, nc, hcs, _⟩ := hva.parts; unfold vcs at hcs; have HR1 := hid hr; have HX1 := hid (to_row hg HXd.out (by omega)); have HQ1 := hid (to_row hg HQd.out (by omega)); have HG1 := hid (HGd.out.trans hg); have HO1 := hid (HOd.out.to hg (fun q hq => by omega)); have hz1 := hg.size; have k2 := row_cell3 HX1.out; clear hva hr hg; generalize asS (labJ d t).2.2.1 = S1 at hcs; generalize (kidsJ d t).length = kn at hcs; generalize (labJ d t).2.2.2.length = nn at hcs; generalize (labJ d t).1 = K1 at hcs; generalize (labJ d t).2.1 = N1 at hcs; subst hcs; have HBA := hid ((Below.refl w1.heap.size w1).alloc (Nat.le_refl _) (.cells #[.int .i64 K1, .int .i64 N1, .string S1, .slice kA kn kc, .slice nA nn nc] 25)); have HX2 := hid (row_keep HBA.out HX1.out); have HQ2 := hid (row_keep HBA.out HQ1.out); have HG2 := hid (HG1.out.trans (to_below HBA.out)); have HR2 := hid (HR1.out.below HBA.out); have HO2 := hid (HO1.out.below HBA.out); have HV2 := hid (HV1.out.below HBA.out (Nat.le_refl _)); have k3 := row_cell3 HX2.out)
              | (refine step_vj (by rfl) _ _ (by rfl) (fun q => w.heap.size + 2 ≤ q) d vv _ ks _ t (by rfl) (by rfl) HO2.out (src_vj HV2.out w1.heap.size 1 (heap_alloc_new w1 _)) (by rfl) (HV2.out.mono fun q hq _ => ⟨by omega, fun e => Nat.lt_irrefl q (Nat.lt_of_lt_of_le (HBV.out q e).2 hq)⟩) hks6 (by have := HBA.out.size; omega) ?_; intro v3 w3 h1 h2 h3; have HN3 := hid h1; have HG3 := hid h2; have HX3 : Hid (w3.heap[w.heap.size]? = some (.cells (avv vv) 25 (0, 0))) := (h2.block _ (Array.getElem?_eq_some_iff.1 HX2.out).1 (fun e => by have := (HBV.out _ e.symm).1; omega)).trans HX2.out; have HQ3 : Hid (w3.heap[w.heap.size + 1]? = some (.cells #[.int .i64 0, .int .i64 0, .string ⟨#[]⟩, .slice none 0 0, .slice none 0 0] 25 (0, 0))) := (h2.block _ (Array.getElem?_eq_some_iff.1 HQ2.out).1 (fun e => by have := (HBV.out _ e.symm).1; omega)).trans HQ2.out; have hst := storeQ3_run rfl HN3.out.one HN3.out.cel HX3.out; clear h1 h2 h3)
              | fail))
          all_goals
            have HRz : Hid (Rl (putQ3 w3 w.heap.size v3) R s l2 n2) := (HR2.out.toB HG3.out (fun e => by have := (HBV.out R e).1; omega)).to (to_only (putQ3_only w3 w.heap.size v3)) (by omega)
            have HXz : Hid ((putQ3 w3 w.heap.size v3).heap[w.heap.size]? = some (.cells (avv v3) 25 (0, 0))) := putQ3_row HX3.out
            have HQz : Hid ((putQ3 w3 w.heap.size v3).heap[w.heap.size + 1]? = some (.cells #[.int .i64 0, .int .i64 0, .string ⟨#[]⟩, .slice none 0 0, .slice none 0 0] 25 (0, 0))) := ((putQ3_only w3 w.heap.size v3).block _ (by omega)).trans HQ3.out
            have HGz : Hid (w.grownBy (putQ3 w3 w.heap.size v3) (some R)) := grow_own (grow_own HG2.out HG3.out (fun q e => by have := (HBV.out q e).1; omega)) (to_only (putQ3_only w3 w.heap.size v3)) (fun q e => by injection e with e; omega)
            have HOz : Hid (OwnVj (fun q => w.heap.size + 2 ≤ q) (putQ3 w3 w.heap.size v3) d v3 (ks ++ [t])) := HN3.out.to (to_only (putQ3_only w3 w.heap.size v3)) (fun q hq => by omega)
            generalize putQ3 w3 w.heap.size v3 = wz at HRz HXz HQz HGz HOz ⊢
            clear hst k1 k2 k3 HX3 HQ3 HG3 HX2 HQ2 HG2 HR2 HO2 HV2 HX1 HQ1 HG1 HR1 HO1 HV1 HBA HVC2 HOd HRd HXd HQd HGd HBV HONE HN3
            have HWT := hid (HRz.out.white hs6)
            clear HRz
            go_wp2_with fail
            refine HWT.out.mono ?_
            rintro x W6 ⟨rfl, hr, hg⟩
            have HX6 := hid (to_row hg HXz.out (by omega))
            have HQ6 := hid (to_row hg HQz.out (by omega))
            have HG6 := hid (HGz.out.trans hg)
            have HO6 := hid (HOz.out.to hg (fun q hq => by omega))
            have HP6 := hid (hr.past 93 hs6)
            have hl6 := hr.len
            obtain ⟨px, -, -, hrx⟩ := hr
            obtain ⟨-, -, -, b3⟩ := hrx.cells
            clear hg hrx HWT HXz HQz HGz HOz
            cases hp : preX [93] (l2.dropWhile whX) with
            | true =>
              have HRS := hid (HWY.out hp)
              rw [hp, passJ_yes hp] at HP6
              clear HWY HWG HWE hp
              go_wp2_with fail
              refine HP6.out.mono ?_
              rintro x W7 ⟨rfl, hr, hg⟩
              have HR7 := hid hr
              have HX7 := hid (to_row hg HX6.out (by omega))
              have HQ7 := hid (to_row hg HQ6.out (by omega))
              have HG7 := hid (HG6.out.trans hg)
              have HO7 := hid (HO6.out.to hg (fun q hq => by omega))
              have HCZ : Hid ((avv v3).size = 5 ∧ ((avv v3).all (·.oneCell') = true)) := ⟨rfl, avv_one HO7.out.one⟩
              have hld := loadV_run HX7.out HCZ.out.1
              clear hr hg HP6 HX6 HQ6 HG6 HO6
              go_wp2_with (first
                | (refine wpList_store_abs rfl 25 (.tmp 8) (.tmp 102) rfl (w.heap.size + 1) 0 (avv v3) rfl rfl 25 _ HQ7.out (by rw [HCZ.out.1]; exact Nat.le_refl _) (by rw [HCZ.out.1]; exact infoVj) HCZ.out.2 ?_; intro W9 hO9 hW9)
                | fail)
              rw [over_whole #[.int .i64 0, .int .i64 0, .string ⟨#[]⟩, .slice none 0 0, .slice none 0 0] (avv v3) (by rw [HCZ.out.1]; rfl)] at hW9
              refine bodyPost_ret (ret_v (p := 8) Tryz.results69 _ _ (w.heap.size + 1) _ HCZ.out.1 (0, 0) rfl hW9) rfl (HPOST.out _ _ ⟨(fun ks2 r2 m2 h => ?_), (fun k h => by rw [HRS.out] at h; cases h), grow_own HG7.out (to_only hO9) (fun q e => by injection e with e; omega)⟩)
              rw [HRS.out] at h
              injection h with h
              injection h with h1 h
              injection h with h2 h3
              subst h1 h2 h3
              have hO9' := HO7.out.to (to_only hO9) (fun q hq => by omega)
              obtain ⟨A, c, rfl, -, hvs⟩ := hO9'.shape
              exact ⟨A, c, rfl, hO9'.cap, hvs.mono fun q hq _ => by omega, HR7.out.to (to_only hO9) (by omega)⟩
            | false =>
              rw [hp, passJ_no hp] at HP6
              have HWG2 := hid (HWG.out hp)
              have HWE2 := hid (HWE.out hp)
              clear HWY HWG HWE hp
              go_wp2_with fail
              refine HP6.out.mono ?_
              rintro x W7 ⟨rfl, hr, hg⟩
              have HX7 := hid (to_row hg HX6.out (by omega))
              have HQ7 := hid (to_row hg HQ6.out (by omega))
              have HG7 := hid (HG6.out.trans hg)
              have HO7 := hid (HO6.out.to hg (fun q hq => by omega))
              have HP7 := hid (hr.past 44 hs6)
              clear hr hg HP6 HX6 HQ6 HG6 HO6
              cases hp : preX [44] (l2.dropWhile whX) with
              | true =>
                have HRS := hid (HWG2.out hp)
                rw [hp, passJ_yes hp] at HP7
                have hd1 := drop_one hp
                clear HWG2 HWE2 hp
                generalize (l2.dropWhile whX).drop 1 = l4 at HP7 HRS hd1
                go_wp2_with fail
                refine HP7.out.mono ?_
                rintro x W8 ⟨rfl, hr, hg⟩
                have HR8 := hid hr
                have HX8 := hid (to_row hg HX7.out (by omega))
                have HQ8 := hid (to_row hg HQ7.out (by omega))
                have HG8 := hid (HG7.out.trans hg)
                have HO8 := hid (HO7.out.to hg (fun q hq => by omega))
                clear hr hg HP7 HX7 HQ7 HG7 HO7 b3 f3
                go_wp2_with fail
                go_roundw
                case rel => exact ⟨HG8, HQ8, .inl ⟨v3, ks ++ [t], l4, n2, hn2, by rw [List.length_append, List.length_singleton]; omega, HX8, HRS, HR8, HO8⟩⟩
                case measure => rw [mQ_rl HR8.out, HME.out]; omega
              | false =>
                have HRS := hid (HWE2.out hp)
                rw [hp, passJ_no hp] at HP7
                clear HWG2 HWE2 hp
                go_wp2_with fail
                refine HP7.out.mono ?_
                rintro x W8 ⟨rfl, hr, hg⟩
                have HWR := hid (hr.wrong 5)
                have HX8 := hid (to_row hg HX7.out (by omega))
                have HQ8 := hid (to_row hg HQ7.out (by omega))
                have HG8 := hid (HG7.out.trans hg)
                have HCZ : Hid ((avv v3).size = 5 ∧ ((avv v3).all (·.oneCell') = true)) := ⟨rfl, avv_one HO7.out.one⟩
                clear hr hg HP7 HX7 HQ7 HG7 HO7 b3 f3
                go_wp2_with fail
                refine HWR.out.mono ?_
                rintro x W9 ⟨rfl, hr, hg⟩
                have HR9 := hid hr
                have HX9 := hid (to_row hg HX8.out (by omega))
                have HQ9 := hid (to_row hg HQ8.out (by omega))
                have HG9 := hid (HG8.out.trans hg)
                clear hr hg HWR HX8 HQ8 HG8
                go_wp2_with fail
                go_roundw
                case rel => exact ⟨HG9, HQ9, .inr ⟨avv v3, n2, 5, HX9, HCZ, by decide, HRS, HR9⟩⟩
                case measure => rw [mQ_re HR9.out (by decide), HME.out]; omega
      · obtain ⟨px, hpx, hrx⟩ := HR.out
        obtain ⟨_, _, _, b3⟩ := hrx.cells
        have hke : ((er : Int) == 0) = false := by rw [beq_eq_false_iff_ne]; omega
        have hld := loadV_run HX.out HCS.out.1
        clear hrx hpx HST HSH HIH
        go_wp2_with (first
          | (refine wpList_store_abs rfl 25 (.tmp 8) (.tmp 108) rfl (w.heap.size + 1) 0 cs rfl rfl 25 _ HQR.out (by rw [HCS.out.1]; exact Nat.le_refl _) (by rw [HCS.out.1]; exact infoVj) HCS.out.2 ?_; intro W9 hO9 hW9)
          | fail)
        rw [over_whole #[.int .i64 0, .int .i64 0, .string ⟨#[]⟩, .slice none 0 0, .slice none 0 0] cs (by rw [HCS.out.1]; rfl)] at hW9
        refine bodyPost_ret (ret_v (p := 8) Tryz.results69 _ _ (w.heap.size + 1) _ HCS.out.1 (0, 0) rfl hW9) rfl (HPOST.out _ _ ⟨(fun ks r m h => by rw [HRS.out] at h; cases h), (fun k h => ?_), grow_own HG.out (to_only hO9) (fun q e => by injection e with e; omega)⟩)
        rw [HRS.out] at h
        injection h with h
        subst h
        exact ⟨cs, m, rfl, HCS.out.1, HCS.out.2, her, HR.out.to (to_only hO9) (by omega)⟩
end Go.Proofs.YtlgkbdebpnbndaaGreatDoor
