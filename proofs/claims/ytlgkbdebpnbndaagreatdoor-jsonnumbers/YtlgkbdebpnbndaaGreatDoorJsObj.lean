
/- The reader: an object. -/
import Derived.Test.YtlgkbdebpnbndaaGreatDoorJsObjM
import Derived.Deep.DeepCutAuto
import Derived.Deep.RegionLaw
namespace Go.Proofs.YtlgkbdebpnbndaaGreatDoor
set_option linter.unusedVariables false
set_option linter.unusedSimpArgs false
open Go.RowKit Go.BigFrame
attribute [local go_sem ↓] mkErr

theorem text_len {l s r : List UInt8} (h : textJ l = some (s, r)) : r.length < l.length ∧ s.length ≤ 4 * l.length := by
  unfold textJ at h
  split at h
  · rename_i hp
    have h1 := drop_one hp
    have h2 := str_len _ _ _ _ _ (Nat.le_refl _) h
    have h3 := str_out _ _ _ _ _ (Nat.le_refl _) h
    rw [List.length_nil] at h3
    exact ⟨by omega, by omega⟩
  · cases h
theorem name_no {ns : List (List UInt8)} {l : List UInt8} (h : textJ (l.dropWhile whX) = none) : nameJ ns l = none := by
  unfold textJ at h
  unfold nameJ
  split
  · rename_i hp
    rw [if_pos hp] at h
    rw [h]
  · rfl
theorem name_of {ns : List (List UInt8)} {l s r : List UInt8} (h : textJ (l.dropWhile whX) = some (s, r)) : nameJ ns l = if ns.contains s then none else if preX [58] (r.dropWhile whX) then some (s, (r.dropWhile whX).drop 1) else none := by
  unfold textJ at h
  unfold nameJ
  split at h
  · rename_i hp
    rw [if_pos hp, h]
  · cases h
/-- One turn of an object's reader. -/
def WayO {α : Type} (el : List UInt8 → Nat → Except Nat (α × List UInt8 × Nat)) (ns : List (List UInt8)) (ks : List α) (l : List UInt8) (n : Nat) (RES : Except Nat (List (List UInt8) × List α × List UInt8 × Nat)) : Prop :=
  (textJ (l.dropWhile whX) = none → RES = .error 5) ∧
  ∀ s r, textJ (l.dropWhile whX) = some (s, r) →
    (ns.contains s = true → RES = .error 5) ∧
    (ns.contains s = false → preX [58] (r.dropWhile whX) = false → RES = .error 5) ∧
    (ns.contains s = false → preX [58] (r.dropWhile whX) = true →
      (∀ k, el ((r.dropWhile whX).drop 1) n = .error k → RES = .error k) ∧
      ∀ t l2 n2, el ((r.dropWhile whX).drop 1) n = .ok (t, l2, n2) →
        (preX [125] (l2.dropWhile whX) = true → RES = .ok (ns ++ [s], ks ++ [t], (l2.dropWhile whX).drop 1, n2)) ∧
        (preX [125] (l2.dropWhile whX) = false → preX [44] (l2.dropWhile whX) = true → RES = objW el (ns ++ [s]) (ks ++ [t]) ((l2.dropWhile whX).drop 1) n2) ∧
        (preX [125] (l2.dropWhile whX) = false → preX [44] (l2.dropWhile whX) = false → RES = .error 5))
theorem objW_way {α : Type} {el : List UInt8 → Nat → Except Nat (α × List UInt8 × Nat)} (hel : ShrJ el) (ns : List (List UInt8)) (ks : List α) (l : List UInt8) (n : Nat) (hn : n ≤ 8192) : WayO el ns ks l n (objW el ns ks l n) := by
  refine ⟨fun h => ?_, fun s r h => ⟨fun h1 => ?_, fun h1 h2 => ?_, fun h1 h2 => ⟨fun k h3 => ?_, fun t l2 n2 h3 => ⟨fun h4 => ?_, fun h4 h5 => ?_, fun h4 h5 => ?_⟩⟩⟩⟩
  · rw [objW_step hel ns ks l n hn, name_no h]
  · rw [objW_step hel ns ks l n hn, name_of h, if_pos h1]
  · rw [objW_step hel ns ks l n hn, name_of h, h1, h2]; rfl
  all_goals (have hnm : nameJ ns l = some (s, (r.dropWhile whX).drop 1) := by rw [name_of h, h1, h2]; rfl)
  · rw [objW_step hel ns ks l n hn, hnm]; simp only [h3]
  · rw [objW_step hel ns ks l n hn, hnm]; simp only [h3, h4, if_true]
  · rw [objW_step hel ns ks l n hn, hnm]; simp only [h3, h4, h5, if_true]; rfl
  · rw [objW_step hel ns ks l n hn, hnm]; simp only [h3, h4, h5]; rfl
/-- What object does, behind its bracket. -/
def ObjP (d lev : Nat) (l : List UInt8) (n R : Nat) (w : World) (e : Ending) (w' : World) : Prop :=
  (∀ ns ks r m, objJ (valJ d (lev + 1)) l n = .ok (ns, ks, r, m) → ∃ A c B e2, e = .returned (.agg #[.slice B ns.length e2, .slice A ks.length c]) ∧ ks.length ≤ c ∧ NmsP (fun q => w.heap.size ≤ q) w' B ns ∧ VsAt (fun q => w.heap.size ≤ q) d w' A ks ∧ Rj w' R r m lev) ∧ (∀ k, objJ (valJ d (lev + 1)) l n = .error k → e = dieJ k) ∧ w.grownBy w' (some R)
theorem OS.cellN {w : World} {d R Q O B : Nat} {nv vv : Value} {ns ss : List (List UInt8)} {ks : List (VJ d)} {W : World} (h : OS w d R Q O B nv vv ns ss ks W) : W.cell? ⟨O, 0, none⟩ = some nv ∧ W.cell? ⟨O, 1, none⟩ = some vv := ⟨cell_of_row _ _ _ _ _ _ h.o, cell_of_row _ _ _ _ _ _ h.o⟩
theorem OS.made {w W1 : World} {R d : Nat} (hR : R < w.heap.size) (ho : Only R (w.alloc (.cells #[.slice none 0 0, .slice none 0 0] 86)) W1) : OS w d R w.heap.size W1.heap.size (W1.heap.size + 1) (.slice none 0 0) (.slice none 0 0) [] [] [] ((W1.alloc (.cells #[.slice none 0 0, .slice none 0 0] 86)).alloc (.map #[] 0)) := by
  have hz : W1.heap.size = w.heap.size + 1 := ho.size.trans (by show (Array.push _ _).size = _; rw [Array.size_push])
  have hb : Below W1.heap.size W1 ((W1.alloc (.cells #[.slice none 0 0, .slice none 0 0] 86)).alloc (.map #[] 0)) := ((Below.refl W1.heap.size W1).alloc (Nat.le_refl _) _).alloc (by show _ ≤ (Array.push _ _).size; rw [Array.size_push]; omega) _
  refine ⟨((to_below ((Below.refl w.heap.size w).alloc (Nat.le_refl _) _)).trans (to_only ho)).trans (to_below hb), ⟨hR, Nat.le_refl _, by omega, by omega⟩, ?_, heap_first W1 _ _, ?_, OwnNm.nil _ _, OwnVj.nil _ _ _⟩
  · exact (hb.block w.heap.size (by omega)).trans ((ho.block w.heap.size (by omega)).trans (heap_alloc_new w _))
  · have := SetN.made (W1.alloc (.cells #[.slice none 0 0, .slice none 0 0] 86))
    rw [show (W1.alloc (.cells #[.slice none 0 0, .slice none 0 0] 86)).heap.size = W1.heap.size + 1 from by show (Array.push _ _).size = _; rw [Array.size_push]] at this
    exact this
/-- A call in a region that draws, that dies. -/
theorem step_dies {ops : Array Oper} {o : Oper} {a : Act} {w : World} {K : Act → World → Prop} {Q : Exit → Act → World → Prop} {E : Prop} (hgd : o.guard = none) (f : FuncId) (xs : Array Operand) (ts : Array TypeId)
    (ho : o.op = .call { callee := .value (.func f), args := xs, argTypes := ts }) (eg : ∀ args w, (callFunc f args).run Tryz.prog w = .ok (.enter f args) w) (vals : Array Value) (hv : xs.map a.eval = vals) (k : Nat)
    {R : World → Prop} (hc : Calls Tryz.prog f vals w fun e w' => e = dieJ k ∧ R w') (h : ∀ w', R w' → Q (.panic [{ v := .iface 28 (.int .i64 (k : Nat)), recovered := false }]) a w') :
    if Region.wanted o (yielded ops a.tmps) = true then Oper.wp Tryz.prog o a w K Q else E := by
  have hw : Region.wanted o (yielded ops a.tmps) = true := by simp [Region.wanted, hgd]
  rw [if_pos hw]
  unfold Oper.wp
  have hrun : (execOp a.eval o).run Tryz.prog w = .ok (.enter f vals) w := by
    simp [execOp, ho, resolve, invoke, hv, eg, Result.andThen, go_sem, Deferred.ofValue]
  rw [hrun, Oper.upon_enter]
  refine hc.mono fun e w'' hh => ?_
  obtain ⟨rfl, hr⟩ := hh
  exact h w'' hr
theorem step_die {ops : Array Oper} {o : Oper} {a : Act} {w : World} {K : Act → World → Prop} {Q : Exit → Act → World → Prop} {E : Prop} (hgd : o.guard = none) (f : FuncId) (x : Operand) (ts : Array TypeId)
    (ho : o.op = .call { callee := .value (.func f), args := #[x], argTypes := ts }) (eg : ∀ args w, (callFunc f args).run Tryz.prog w = .ok (.enter f args) w) (xv : Value) (hx : a.eval x = xv) (k : Nat)
    {R : World → Prop} (hc : Calls Tryz.prog f #[xv] w fun e w' => e = dieJ k ∧ R w') (h : ∀ w', R w' → Q (.panic [{ v := .iface 28 (.int .i64 (k : Nat)), recovered := false }]) a w') :
    if Region.wanted o (yielded ops a.tmps) = true then Oper.wp Tryz.prog o a w K Q else E :=
  step_dies hgd f #[x] ts ho eg #[xv] (by simp [hx]) k hc h
theorem step_gives {ops : Array Oper} {o : Oper} {a : Act} {w : World} {K : Act → World → Prop} {Q : Exit → Act → World → Prop} {E : Prop} (hgd : o.guard = none) (f : FuncId) (xs : Array Operand) (ts : Array TypeId)
    (ho : o.op = .call { callee := .value (.func f), args := xs, argTypes := ts }) (eg : ∀ args w, (callFunc f args).run Tryz.prog w = .ok (.enter f args) w) (vals : Array Value) (hv : xs.map a.eval = vals)
    {R : Value → World → Prop} (hc : Calls Tryz.prog f vals w fun e w' => ∃ v, e = .returned v ∧ R v w') (h : ∀ v w', R v w' → K (a.put o.dst v) w') :
    if Region.wanted o (yielded ops a.tmps) = true then Oper.wp Tryz.prog o a w K Q else E := by
  have hw : Region.wanted o (yielded ops a.tmps) = true := by simp [Region.wanted, hgd]
  rw [if_pos hw]
  unfold Oper.wp
  have hrun : (execOp a.eval o).run Tryz.prog w = .ok (.enter f vals) w := by
    simp [execOp, ho, resolve, invoke, hv, eg, Result.andThen, go_sem, Deferred.ofValue]
  rw [hrun, Oper.upon_enter]
  refine hc.mono fun e w'' hh => ?_
  obtain ⟨v, rfl, hr⟩ := hh
  exact h v w'' hr
theorem step_give {ops : Array Oper} {o : Oper} {a : Act} {w : World} {K : Act → World → Prop} {Q : Exit → Act → World → Prop} {E : Prop} (hgd : o.guard = none) (f : FuncId) (x : Operand) (ts : Array TypeId)
    (ho : o.op = .call { callee := .value (.func f), args := #[x], argTypes := ts }) (eg : ∀ args w, (callFunc f args).run Tryz.prog w = .ok (.enter f args) w) (xv : Value) (hx : a.eval x = xv)
    {R : Value → World → Prop} (hc : Calls Tryz.prog f #[xv] w fun e w' => ∃ v, e = .returned v ∧ R v w') (h : ∀ v w', R v w' → K (a.put o.dst v) w') :
    if Region.wanted o (yielded ops a.tmps) = true then Oper.wp Tryz.prog o a w K Q else E :=
  step_gives hgd f #[x] ts ho eg #[xv] (by simp [hx]) hc h
/-- The store into the object's list, as a named function. -/
def storeVs (x v : Value) : Sem Unit := Instr.storeAt 22 x v
theorem storeVs_eq (x v : Value) : Instr.storeAt 22 x v = storeVs x v := rfl
def putVs (w : World) (g : Nat) (v : Value) : World := w.setCells g 1 [v]
theorem storeVs_run {w : World} {g : Nat} {A B v : Value} (hv : v.oneCell' = true) (hc : v.cells = #[v]) (hrow : w.heap[g]? = some (.cells #[A, B] 86 (0, 0))) : (storeVs (.pointer (some ⟨g, 1, none⟩)) v).run Tryz.prog w = .ok () (putVs w g v) := by
  have ht := there_row hrow 1 1 (by simp)
  unfold storeVs putVs
  simp only [Instr.storeAt, Instr.sureAddr, Sem.run_bind, Sem.run_pure, Result.andThen_ok, run_store_one w _ g 1 v hv hc info22 ht]
theorem putVs_only (w : World) (g : Nat) (v : Value) : Only g w (putVs w g v) := only_setCells g _ 1 w
theorem putVs_row {w : World} {g : Nat} {A B v : Value} (hrow : w.heap[g]? = some (.cells #[A, B] 86 (0, 0))) : (putVs w g v).heap[g]? = some (.cells #[A, v] 86 (0, 0)) := by
  unfold putVs
  rw [setCells_heap g 86 [v] 1 w _ hrow]
  rfl
set_option maxRecDepth 100000 in
theorem object_deep (l : List UInt8) (n lev R : Nat) (hd : 16 < lev + 1) (hd2 : lev ≤ 1000) (w : World) (h : Rj w R l n lev) : Calls Tryz.prog 92 #[.pointer (some ⟨R, 0, none⟩)] w fun e w' => e = dieJ 9 ∧ w.grownBy w' (some R) := by
  have HB := hid ((Below.refl w.heap.size w).alloc (Nat.le_refl _) (.cells #[.slice none 0 0, .slice none 0 0] 86))
  have HD := hid (deeper_no l n lev R hd hd2 _ (h.below HB.out))
  clear h
  go_enter Tryz.func92, Tryz.ntmps92
  go_wp2_with fail
  refine HD.out.mono ?_
  rintro e W ⟨rfl, ho⟩
  exact ⟨rfl, rfl, (to_below HB.out).trans (to_only ho)⟩
attribute [local go_sem ↓] storeVs_eq
set_option maxHeartbeats 16000000 in
set_option maxRecDepth 100000 in
theorem object_of (d lev : Nat) (IH : ValOk d (lev + 1)) (l : List UInt8) (n R : Nat) (w : World) (hl : l.length ≤ 100000) (hn : n ≤ 8192) (hR : 7 < R) (hT : TabJ w) (h : Rj w R l n lev) (hd : lev + 1 ≤ 16) : Calls Tryz.prog 92 #[.pointer (some ⟨R, 0, none⟩)] w (ObjP d lev l n R w) := by
  have HBZ := hid ((Below.refl w.heap.size w).alloc (Nat.le_refl _) (.cells #[.slice none 0 0, .slice none 0 0] 86))
  have HD := hid (deeper_ok l n lev R hd _ (h.below HBZ.out))
  have hRw := h.lt
  have HTT := hid (fun (W : World) (hg : w.grownBy W (some R)) => hT.to hg hR)
  have HEN := hid (fun W h => ends_j l [125] n (lev + 1) R W h)
  have hmm := @run_makeMap Tryz.prog
  have hel := val_shr d (lev + 1)
  have HST := hid (fun ns ks l n h => objW_way (el := valJ d (lev + 1)) hel ns ks l n h)
  have HSH := hid hel
  have hlw := dw_len whX l
  generalize hRES : objJ (valJ d (lev + 1)) l n = RES
  have HPOST : Hid (∀ e w', ((∀ ns ks r m, RES = .ok (ns, ks, r, m) → ∃ A c B e2, e = .returned (.agg #[.slice B ns.length e2, .slice A ks.length c]) ∧ ks.length ≤ c ∧ NmsP (fun q => w.heap.size ≤ q) w' B ns ∧ VsAt (fun q => w.heap.size ≤ q) d w' A ks ∧ Rj w' R r m lev) ∧ (∀ k, RES = .error k → e = dieJ k) ∧ w.grownBy w' (some R)) → ObjP d lev l n R w e w') := fun e w' hh => by
    rw [← hRES] at hh
    exact hh
  have HERR : Hid (∀ k w', RES = .error k → w.grownBy w' (some R) → ObjP d lev l n R w (dieJ k) w') := fun k w' he hg => HPOST.out _ _ ⟨(fun ns ks r m h => by rw [he] at h; cases h), (fun k2 h => by rw [he] at h; injection h with h; rw [h]), hg⟩
  have HFIRST : Hid ((preX [125] (l.dropWhile whX) = true ∧ RES = .ok ([], [], (l.dropWhile whX).drop 1, n)) ∨ (preX [125] (l.dropWhile whX) = false ∧ RES = objW (valJ d (lev + 1)) [] [] (l.dropWhile whX) n)) := by
    rw [← hRES]
    unfold objJ
    cases preX [125] (l.dropWhile whX) with
    | true => exact .inl ⟨rfl, rfl⟩
    | false => exact .inr ⟨rfl, rfl⟩
  clear hRES hT h hel
  generalize l.dropWhile whX = l1 at HEN HFIRST hlw
  obtain ⟨b1, hb1⟩ : ∃ b1, preX [125] l1 = b1 := ⟨_, rfl⟩
  rw [hb1] at HEN HFIRST
  have HP1 := hid (fun (h : b1 = true) => passJ_yes (hb1.trans h))
  have HP0 := hid (fun (h : b1 = false) => passJ_no (hb1.trans h))
  clear hb1
  go_enter Tryz.func92, Tryz.ntmps92
  go_wp2_with fail
  refine HD.out.mono ?_
  rintro e W1 ⟨rfl, hr, ho⟩
  have HS1 := hid (OS.made (d := d) hRw ho)
  have HR1 : Hid (Rj ((W1.alloc (.cells #[.slice none 0 0, .slice none 0 0] 86)).alloc (.map #[] 0)) R l n (lev + 1)) := hr.below (((Below.refl W1.heap.size W1).alloc (Nat.le_refl _) _).alloc (by show _ ≤ (Array.push _ _).size; rw [Array.size_push]; omega) _)
  have hz1 : w.heap.size < W1.heap.size := by rw [ho.size]; show _ < (Array.push _ _).size; rw [Array.size_push]; omega
  have HE1 := hid (HEN.out _ HR1.out)
  clear hr ho HD HEN HR1
  go_wp2_with fail
  refine HE1.out.mono ?_
  rintro e W2 ⟨rfl, hr, hg⟩
  have HR2 := hid hr
  have HS2 := hid (HS1.out.to hg)
  clear hr hg HE1 HS1
  go_wp2_with fail
  go_loopw [5] (fun more wr => ∃ (nv vv : Value) (ns : List (List UInt8)) (ks : List (VJ d)) (rest : List UInt8) (k : Nat) (b : Bool), more = .bool b ∧ rest.length ≤ l1.length ∧ k ≤ 8192 ∧ Hid ((b = false ∧ RES = .ok (ns, ks, rest, k)) ∨ (b = true ∧ RES = objW (valJ d (lev + 1)) ns ks rest k)) ∧ Hid (Rj wr R rest k (lev + 1)) ∧ Hid (OS w d R w.heap.size W1.heap.size (W1.heap.size + 1) nv vv ns ns ks wr) ∧ ks.length + rest.length ≤ l1.length ∧ ns.length = ks.length) (fun more wr => restJ R wr)
  case atStart =>
    refine ⟨.slice none 0 0, .slice none 0 0, [], [], passJ [125] l1, n, !b1, rfl, ?_, hn, ?_, HR2, HS2, ?_, rfl⟩
    · cases b1 with
      | true => rw [HP1.out rfl, List.length_drop]; omega
      | false => rw [HP0.out rfl]; exact Nat.le_refl _
    · rcases HFIRST.out with ⟨e1, e2⟩ | ⟨e1, e2⟩
      · exact .inl ⟨by rw [e1]; rfl, by rw [HP1.out e1]; exact e2⟩
      · exact .inr ⟨by rw [e1]; rfl, by rw [HP0.out e1]; exact e2⟩
    · cases b1 with
      | true => rw [HP1.out rfl, List.length_drop]; simp
      | false => rw [HP0.out rfl]; simp
  case round =>
    obtain ⟨nv, vv, ns, ks, rest, k, b, rfl, hr1, hk, HS, HR, HO, hkl, hnk⟩ := hrel
    cases b with
    | false =>
      have HRS : Hid (RES = .ok (ns, ks, rest, k)) := by
        rcases HS.out with ⟨_, h⟩ | ⟨h, _⟩
        · exact h
        · cases h
      have HRR := hid HR.out
      obtain ⟨_, _, c2⟩ := HR.out.cells
      have hlv : ((lev + 1 : Nat) : Int) = (lev : Int) + 1 := by omega
      rw [hlv] at c2
      unfold Rj at HRR
      rw [hlv] at HRR
      generalize hLS : asS rest = LS at HRR
      have HLS := hid hLS
      clear hLS hlv HS HR HTT HST HFIRST HP1 HP0 HR2 HS2 HERR
      go_wp2_with (first
        | (refine store_part rfl 3 _ _ rfl R 2 (.int .i64 (lev : Int)) _ _ #[.string LS, .int .i64 k, .int .i64 (lev : Int)] rfl rfl info3j (by simp) rfl rfl HRR.out rfl ?_; intro W9 ho hr; have HO9 := hid (HO.out.to (to_only ho)); have HR9 := hid hr; clear ho hr)
        | (refine load_msg rfl _ rfl W1.heap.size #[nv, vv] rfl (load_two HO9.out.o) ?_)
        | (refine store_two rfl _ _ rfl w.heap.size nv vv HO9.out.nms.one HO9.out.kids.one rfl rfl _ HO9.out.q rfl ?_; intro W10 ho hr; have HO10 := hid ho; have HQ10 := hid hr; clear ho hr)
        | fail)
      refine bodyPost_ret (v := .agg #[nv, vv]) (ret_two (p := 2) Tryz.results92 _ _ w.heap.size nv vv (0, 0) rfl HQ10.out) rfl (HPOST.out _ _ ⟨(fun ns2 ks2 r m h => ?_), (fun k h => by rw [HRS.out] at h; cases h), grow_own HO9.out.gto (grown_of_only HO10.out) (fun q e => by injection e with e; omega)⟩)
      rw [HRS.out] at h
      injection h with h
      injection h with h1 h
      injection h with h2 h
      injection h with h3 h4
      subst h1 h2 h3 h4
      obtain ⟨B, e2, rfl, hN⟩ := HO9.out.nms.shape
      obtain ⟨A, c, rfl, _, hV⟩ := HO9.out.kids.shape
      refine ⟨A, c, B, e2, rfl, HO9.out.kids.cap, hN.frame (Nat.le_of_eq HO10.out.size.symm) (fun q hq hl => ⟨HO10.out.block q (fun e => by omega), by omega⟩), hV.frame (Nat.le_of_eq HO10.out.size.symm) (fun q hq hl => ⟨HO10.out.block q (fun e => by have := hq.1; omega), by have := hq.1; omega⟩), ?_⟩
      unfold Rj
      rw [HLS.out]
      exact (HO10.out.block R (by omega)).trans HR9.out
    | true =>
      have HRS : Hid (RES = objW (valJ d (lev + 1)) ns ks rest k) := by
        rcases HS.out with ⟨h, _⟩ | ⟨_, h⟩
        · cases h
        · exact h
      have HWY : Hid (WayO (valJ d (lev + 1)) ns ks rest k RES) := by
        have := HST.out ns ks rest k hk
        rw [← HRS.out] at this
        exact this
      have HME := hid (restJ_eq HR.out)
      have HC1 := hid (white_j rest k (lev + 1) R wr HR.out)
      have hdw := dw_len whX rest
      clear HS HRS HST HFIRST HP1 HP0 HR2 HS2
      go_wp2_with fail
      refine HC1.out.mono ?_
      rintro e W4 ⟨rfl, hr, hg⟩
      have HR4 := hid hr
      have HO4 := hid (HO.out.to hg)
      clear hr hg HC1 HO HR
      have HC2 := hid (text_j (rest.dropWhile whX) k (lev + 1) R (by omega) hR W4 (HTT.out W4 HO4.out.gto).e HR4.out)
      cases htx : textJ (rest.dropWhile whX) with
      | none =>
        have HER := hid (HWY.out.1 htx)
        have HC3 : Hid (Calls Tryz.prog 90 #[.pointer (some ⟨R, 0, none⟩)] W4 fun e w' => e = dieJ 5 ∧ W4.grownBy w' (some R)) := HC2.out.mono fun e w' hh => ⟨hh.2.1 htx, hh.2.2⟩
        clear HWY HC2 htx HTT
        go_wp2_with fail
        refine HC3.out.mono ?_
        rintro e W5 ⟨rfl, hg⟩
        exact ⟨rfl, HERR.out 5 _ HER.out (HO4.out.gto.trans hg)⟩
      | some q =>
        obtain ⟨s, r⟩ := q
        obtain ⟨hsr, hsl⟩ := text_len htx
        have HW2 := hid (HWY.out.2 s r htx)
        have HC3 : Hid (Calls Tryz.prog 90 #[.pointer (some ⟨R, 0, none⟩)] W4 fun e w' => e = .returned (.string (asS s)) ∧ Rj w' R r k (lev + 1) ∧ W4.grownBy w' (some R)) := HC2.out.mono fun e w' hh => ⟨(hh.1 s r htx).1, (hh.1 s r htx).2, hh.2.2⟩
        obtain ⟨SB, hSB⟩ : ∃ SB, SB = asS s := ⟨_, rfl⟩
        rw [← hSB] at HC3
        have HSB := hid hSB
        clear hSB HC2 HWY htx
        go_wp2_with fail
        refine HC3.out.mono ?_
        rintro e W5 ⟨rfl, hr, hg⟩
        have HR5 := hid hr
        have HO5 := hid (HO4.out.to hg)
        clear hr hg HC3 HO4 HR4
        cases hct : ns.contains s with
        | true =>
          have HER := hid (HW2.out.1 hct)
          clear HW2 HTT
          go_wp2_with (first
            | (refine wpList_asked rfl _ _ rfl (W1.heap.size + 1) ns.length ns rfl HO5.out.set SB s HSB.out rfl (by omega) ?_; rw [hct])
            | fail)
          exact ⟨rfl, HERR.out 5 _ HER.out (HO5.out.below ((Below.refl _ _).alloc (Nat.le_refl _) _)).gto⟩
        | false =>
          have HW3 := hid (HW2.out.2.1 hct)
          have HW4 := hid (HW2.out.2.2 hct)
          clear HW2
          have HB5 := hid ((Below.refl W5.heap.size W5).alloc (Nat.le_refl _) (.cells #[] 124))
          have HO5a := hid (HO5.out.below HB5.out)
          have HR5a := hid (HR5.out.below HB5.out)
          go_wp2_with (first
            | (refine wpList_asked rfl _ _ rfl (W1.heap.size + 1) ns.length ns rfl HO5.out.set SB s HSB.out rfl (by omega) ?_; rw [hct])
            | (refine wpList_noted rfl _ _ _ rfl (W1.heap.size + 1) ns.length ns rfl HO5a.out.set (by omega) SB s HSB.out rfl rfl (by omega) ?_; intro W6 hs6 hg6; have HS6 := hid hs6; have HG6 := hid hg6; clear hs6 hg6)
            | fail)
          have HO6 : Hid (OS w d R w.heap.size W1.heap.size (W1.heap.size + 1) nv vv ns (ns ++ [s]) ks W6) := HO5a.out.note HG6.out (by rw [List.length_append, List.length_singleton]; exact HS6.out)
          have HR6 : Hid (Rj W6 R r k (lev + 1)) := (HG6.out.block R HR5a.out.lt (fun e => by injection e with e; omega)).trans HR5a.out
          have HC4 := hid (white_j r k (lev + 1) R W6 HR6.out)
          have hdr := dw_len whX r
          clear HS6 HG6 HO5a HR5a HB5 HO5 HR5 HR6
          go_wp2_with fail
          refine HC4.out.mono ?_
          rintro e W7 ⟨rfl, hr, hg⟩
          have HR7 := hid hr
          have HO7 := hid (HO6.out.to hg)
          clear hr hg HC4 HO6
          have HN7 : Hid (Calls Tryz.prog 107 #[.pointer (some ⟨R, 0, none⟩), .string ⟨#[58]⟩] W7 fun e w' => Rj w' R (passJ [58] (r.dropWhile whX)) k (lev + 1) ∧ Only R W7 w' ∧ e = (if preX [58] (r.dropWhile whX) then .returned (.tuple #[]) else dieJ 5)) := need_any (r.dropWhile whX) [58] k (lev + 1) R W7 HR7.out
          cases hcol : preX [58] (r.dropWhile whX) with
          | false =>
            have HER := hid (HW3.out hcol)
            rw [hcol] at HN7
            clear HW3 HW4 HTT
            go_wp2_with fail
            refine HN7.out.mono ?_
            rintro e W8 ⟨hr, ho, rfl⟩
            exact ⟨rfl, HERR.out 5 _ HER.out (HO7.out.gto.trans (to_only ho))⟩
          | true =>
            obtain ⟨hve, hvo⟩ := HW4.out hcol
            have hpl : ([58] : List UInt8).length = 1 := rfl
            rw [hcol, passJ_yes hcol, hpl] at HN7
            have hl3 : ((r.dropWhile whX).drop 1).length ≤ r.length := by rw [List.length_drop]; omega
            clear hpl hcol HW3 HW4 hct
            generalize (r.dropWhile whX).drop 1 = l3 at HN7 hve hvo hl3
            have HVE := hid hve
            have HVO := hid hvo
            clear hve hvo
            go_wp2_with fail
            refine HN7.out.mono ?_
            rintro e W8 ⟨hr, ho, rfl⟩
            have HO8 := hid (HO7.out.to (to_only ho))
            have HR8 := hid hr
            clear hr ho HN7 HO7 HR7
            have k0 := HO8.out.cellN.1
            have HB8 := hid ((Below.refl W8.heap.size W8).alloc (Nat.le_refl _) (.cells #[.string SB] 9))
            have HO8a := hid (HO8.out.below HB8.out)
            have HR8a := hid (HR8.out.below HB8.out)
            have hB8 : W1.heap.size + 1 < W8.heap.size := HO8.out.set.lt
            have HBN := hid (fun q (hq : blk nv = some q) => (HO8.out.nms.blk_P q hq).1)
            clear HO8 HR8
            go_wp2_with (first
              | (refine wpList_nm rfl _ _ rfl (fun q => W1.heap.size + 1 < q) nv _ ns s rfl rfl HO8a.out.nms (src_st _ W8.heap.size 1 s SB HSB.out (heap_alloc_new W8 _)) (by omega) (Nat.lt_of_lt_of_le hB8 HB8.out.size) ?_; intro v9 w9 h9 hg9 hb9; have HN9 := hid h9; have HG9 := hid hg9; have HE9 := hid hb9; have HRO9 : Hid (w9.heap[W1.heap.size]? = some (.cells #[nv, vv] 86 (0, 0))) := (hg9.block W1.heap.size (Nat.lt_of_lt_of_le (by omega) HB8.out.size) (fun e => by have := HBN.out W1.heap.size e.symm; omega)).trans HO8a.out.o; clear h9 hg9 hb9)
              | (refine store_part rfl 23 _ _ rfl W1.heap.size 0 v9 _ #[nv, vv] #[v9, vv] HN9.out.one HN9.out.cel info23 (by simp) rfl rfl HRO9.out rfl ?_; intro W10 ho hr; have HO10 := hid (HO8a.out.name HG9.out HN9.out HE9.out ho hr); have HR10 : Hid (Rj W10 R l3 k (lev + 1)) := (ho.block R (by omega)).trans ((HG9.out.block R HR8a.out.lt (fun e => by have := HBN.out R e.symm; omega)).trans HR8a.out); clear ho hr)
              | fail)
            clear HN9 HG9 HE9 HRO9 HO8a HR8a HB8 HBN k0
            have HENv := hid (enters_of Tryz.func63 (by kernel_rfl) rfl)
            have HENt := hid (enters_of Tryz.func65 (by kernel_rfl) rfl)
            have HOd := hid (HO10.out.below (show Below W10.heap.size W10 W10.drew from (Below.refl _ _).drew))
            have HRd := hid (HR10.out.below (show Below W10.heap.size W10 W10.drew from (Below.refl _ _).drew))
            have HVC := hid (IH l3 k R W10.drew (by omega) hk hR (HTT.out _ HOd.out.gto) HRd.out)
            have k1 := HOd.out.cellN.2
            cases hv : valJ d (lev + 1) l3 k with
            | error er =>
              have HER := hid (HVE.out er hv)
              have HVC2 : Hid (Calls Tryz.prog 63 #[.pointer (some ⟨R, 0, none⟩)] W10.drew fun e w' => e = dieJ er ∧ W10.drew.grownBy w' (some R)) := HVC.out.mono fun e w' hh => ⟨hh.2.1 er hv, hh.2.2⟩
              clear HVE HVO HVC hv HTT HO10 HR10
              refine wp_region_any (by kernel_rfl) ?_
              show wpAny _ _ _ _ _ _ _ W10.drew
              refine wpAny_take (i := 0) (v := .pointer (some ⟨W1.heap.size, 1, none⟩)) rfl (by kernel_rfl) (by kernel_rfl) (by kernel_rfl) (fun _ _ _ h => h) (Or.inl ⟨by rfl, fun w => by go_simp⟩) ?_
              refine wpAny_take (i := 2) (v := .pointer (some ⟨R, 0, none⟩)) rfl (by kernel_rfl) (by kernel_rfl) (by kernel_rfl) (fun _ _ _ h => h) (Or.inl ⟨by rfl, fun w => by go_simp⟩) ?_
              refine wpAny_ready (rs := [1, 3]) (by kernel_rfl) (by simp) (AllReady.cons rfl (fun K hK => ?_) (AllReady.cons rfl (fun K hK => ?_) AllReady.nil))
              · go_simp
                refine hK _ _ ?_
                refine wpAny_ready (rs := [3]) (by kernel_rfl) (by simp) (AllReady.cons rfl (fun K hK => ?_) AllReady.nil)
                exact step_die (by rfl) 63 _ _ (by rfl) HENv.out (.pointer (some ⟨R, 0, none⟩)) (by rfl) er HVC2.out fun w' hg => ⟨rfl, HERR.out er _ HER.out (HOd.out.gto.trans hg)⟩
              · exact step_die (by rfl) 63 _ _ (by rfl) HENv.out (.pointer (some ⟨R, 0, none⟩)) (by rfl) er HVC2.out fun w' hg => ⟨rfl, HERR.out er _ HER.out (HOd.out.gto.trans hg)⟩
            | ok q =>
              obtain ⟨t, l2, n2⟩ := q
              obtain ⟨hl2, hn2⟩ := HSH.out _ _ _ _ _ hk hv
              have HQ3 := hid (HVO.out t l2 n2 hv)
              have hdl := dw_len whX l2
              have HGO : Hid (∀ W, Rj W R l2 n2 (lev + 1) → Calls Tryz.prog 114 #[.pointer (some ⟨R, 0, none⟩), .string ⟨#[125]⟩] W fun e w' => W.grownBy w' (some R) ∧ ((e = .returned (.bool false) ∧ RES = .ok (ns ++ [s], ks ++ [t], (l2.dropWhile whX).drop 1, n2) ∧ Rj w' R ((l2.dropWhile whX).drop 1) n2 (lev + 1)) ∨ (e = .returned (.bool true) ∧ RES = objW (valJ d (lev + 1)) (ns ++ [s]) (ks ++ [t]) ((l2.dropWhile whX).drop 1) n2 ∧ Rj w' R ((l2.dropWhile whX).drop 1) n2 (lev + 1)) ∨ (e = dieJ 5 ∧ RES = .error 5))) := fun W h => by
                have hq := HQ3.out
                cases hp : preX [125] (l2.dropWhile whX) with
                | true => exact (goes_no l2 [125] n2 (lev + 1) R W h hp).mono fun e w' hh => ⟨hh.2.2, .inl ⟨hh.1, hq.1 hp, hh.2.1⟩⟩
                | false =>
                  cases hp2 : preX [44] (l2.dropWhile whX) with
                  | true =>
                    refine (goes_on l2 [125] n2 (lev + 1) R W h hp).mono fun e w' hh => ⟨hh.2.1, .inr (.inl ⟨?_, hq.2.1 hp hp2, ?_⟩)⟩
                    · rw [hh.2.2, hp2]; rfl
                    · have := hh.1
                      rw [passJ_yes hp2] at this
                      exact this
                  | false =>
                    refine (goes_on l2 [125] n2 (lev + 1) R W h hp).mono fun e w' hh => ⟨hh.2.1, .inr (.inr ⟨?_, hq.2.2 hp hp2⟩)⟩
                    rw [hh.2.2, hp2]; rfl
              have hd1 : ((l2.dropWhile whX).drop 1).length ≤ l2.length := by rw [List.length_drop]; omega
              generalize (l2.dropWhile whX).drop 1 = l4 at HGO hd1
              clear HQ3 hdl
              have HVC2 : Hid (Calls Tryz.prog 63 #[.pointer (some ⟨R, 0, none⟩)] W10.drew fun e w' => ∃ v, e = .returned v ∧ ∃ cs, AnyJ v cs ∧ VAt (fun q => W10.drew.heap.size ≤ q) d w' cs t ∧ Rj w' R l2 n2 (lev + 1) ∧ W10.drew.grownBy w' (some R)) := HVC.out.mono fun e w' hh => by
                obtain ⟨x, cs, h1, h2, h3, h4⟩ := hh.1 t l2 n2 hv
                exact ⟨x, h1, cs, h2, h3, h4, hh.2.2⟩
              have HBD : Hid (W1.heap.size + 1 < W10.drew.heap.size) := HOd.out.set.lt
              have HBV := hid (fun q (hq : blk vv = some q) => HOd.out.kids.blk_P q hq)
              have HBN9 := hid (fun q (hq : blk v9 = some q) => HOd.out.nms.blk_P q hq)
              clear HVE HVO HVC hv HTT HO10 HR10
              go_region_law ((first
                  | (refine step_give (by rfl) 63 _ _ (by rfl) HENv.out (.pointer (some ⟨R, 0, none⟩)) (by rfl) HVC2.out ?_; intro v1 w1 ha; obtain ⟨cs, hany, hva, hr, hg⟩ := ha; have HTC : Hid (∀ W, Calls Tryz.prog 65 #[v1] W fun e w' => ∃ v, e = .returned v ∧ v = .agg cs ∧ Below W.heap.size W w') := (fun W => (told_any v1 cs hany W).mono fun e w' hh => ⟨_, hh.1, rfl, hh.2⟩); have HV1 := hid hva; have HR1 := hid hr; have HO1 := hid (HOd.out.to hg); have k2 := HO1.out.cellN.2; have hz1 := hg.size; obtain ⟨kA, kc, nA, nc, hcs, _⟩ := hva.parts; unfold vcs at hcs; clear hany hva hr hg; generalize asS (labJ d t).2.2.1 = S1 at hcs; generalize (kidsJ d t).length = kn at hcs; generalize (labJ d t).2.2.2.length = nn at hcs; generalize (labJ d t).1 = K1 at hcs; generalize (labJ d t).2.1 = N1 at hcs; subst hcs)
                  | (refine step_give (by rfl) 65 _ _ (by rfl) HENt.out v1 (by rfl) (HTC.out w1) ?_; intro v2 w2 hb; obtain ⟨rfl, hb⟩ := hb; have HO2 := hid (HO1.out.below hb); have HR2 := hid (HR1.out.below hb); have HV2 := hid (HV1.out.below hb (Nat.le_refl _)); have k3 := HO2.out.cellN.2; have HBA := hid ((Below.refl w2.heap.size w2).alloc (Nat.le_refl _) (.cells #[.int .i64 K1, .int .i64 N1, .string S1, .slice kA kn kc, .slice nA nn nc] 25)); have HO3 := hid (HO2.out.below HBA.out); have HR3 := hid (HR2.out.below HBA.out); have HV3 := hid (HV2.out.below HBA.out (Nat.le_refl _)); have k4 := HO3.out.cellN.2; have hz2 := hb.size; clear hb)
                  | (refine step_vj (by rfl) _ _ (by rfl) (fun q => W1.heap.size + 1 < q ∧ blk v9 ≠ some q) d vv _ ks _ t (by rfl) (by rfl) HO3.out.kids (src_vj HV3.out w2.heap.size 1 (heap_alloc_new w2 _)) (by rfl) (HV3.out.mono fun q hq _ => ⟨⟨Nat.lt_of_lt_of_le HBD.out hq, fun e => Nat.lt_irrefl q (Nat.lt_of_lt_of_le (HBN9.out q e).2 hq)⟩, fun e => Nat.lt_irrefl q (Nat.lt_of_lt_of_le (HBV.out q e).2 hq)⟩) (by omega) ⟨Nat.lt_of_lt_of_le HBD.out (Nat.le_trans hz1 (Nat.le_trans hz2 HBA.out.size)), fun e => Nat.lt_irrefl _ (Nat.lt_of_lt_of_le (HBN9.out _ e).2 (Nat.le_trans hz1 (Nat.le_trans hz2 HBA.out.size)))⟩ ?_; intro v3 w3 h1 h2 h3; have HN3 := hid h1; have HG3 := hid h2; have HRO3 : Hid (w3.heap[W1.heap.size]? = some (.cells #[v9, vv] 86 (0, 0))) := (h2.block W1.heap.size (Array.getElem?_eq_some_iff.1 HO3.out.o).1 (fun e => by have := (HBV.out W1.heap.size e.symm).1.1; omega)).trans HO3.out.o; have hst := storeVs_run HN3.out.one HN3.out.cel HRO3.out; clear h1 h2 h3)
                  | fail))
              all_goals
                have HRz : Hid (Rj (putVs w3 W1.heap.size v3) R l2 n2 (lev + 1)) := ((putVs_only w3 W1.heap.size v3).block R (by omega)).trans ((HG3.out.block R HR3.out.lt (fun e => by have := (HBV.out R e.symm).1.1; omega)).trans HR3.out)
                have HOz := hid (HO3.out.kid HG3.out HN3.out (putVs_only _ _ _) (putVs_row HRO3.out))
                generalize putVs w3 W1.heap.size v3 = wz at HRz HOz ⊢
                clear hst k1 k2 k3 k4 HRO3 HG3 HN3 HO3 HR3 HV3 HBA HV2 HR2 HO2 HO1 HR1 HV1 HTC HVC2 HOd HRd HBV HBN9
                have HGO5 := hid (HGO.out wz HRz.out)
                clear HGO HRz
                go_wp2_with fail
                refine HGO5.out.mono ?_
                rintro e W6 ⟨hg, ⟨rfl, hq, hr⟩ | ⟨rfl, hq, hr⟩ | ⟨rfl, hq⟩⟩
                · have HQ := hid hq
                  have HR6 := hid hr
                  have HO6 := hid (HOz.out.to hg)
                  clear hg hq hr HOz HGO5
                  go_wp2_with fail
                  go_roundw
                  case rel => exact ⟨v9, v3, ns ++ [s], ks ++ [t], l4, n2, false, rfl, by omega, hn2, .inl ⟨rfl, HQ.out⟩, HR6, HO6, by rw [List.length_append, List.length_singleton]; omega, by rw [List.length_append, List.length_append, hnk]; rfl⟩
                  case measure => rw [restJ_eq HR6.out, HME.out]; omega
                · have HQ := hid hq
                  have HR6 := hid hr
                  have HO6 := hid (HOz.out.to hg)
                  clear hg hq hr HOz HGO5
                  go_wp2_with fail
                  go_roundw
                  case rel => exact ⟨v9, v3, ns ++ [s], ks ++ [t], l4, n2, true, rfl, by omega, hn2, .inr ⟨rfl, HQ.out⟩, HR6, HO6, by rw [List.length_append, List.length_singleton]; omega, by rw [List.length_append, List.length_append, hnk]; rfl⟩
                  case measure => rw [restJ_eq HR6.out, HME.out]; omega
                · exact ⟨rfl, HERR.out 5 _ hq (HOz.out.gto.trans hg)⟩
end Go.Proofs.YtlgkbdebpnbndaaGreatDoor
