import Derived.Test.YtgoiafndapemjaaGreatDoorQ29
import Derived.Maps.OwnSet
import Derived.Maps.OwnOps
import Derived.Test.YtgoiafndapemjaaGreatDoorQ05
import Derived.Deep.DeepCutAuto
set_option linter.unusedVariables false
set_option linter.unusedSimpArgs false
set_option maxHeartbeats 1000000
namespace Go.Proofs.YtgoiafndapemjaaGreatDoor
open Go.RowKit Go.BigFrame
attribute [local go_sem ↓] loadE_eq
def MapI (w : World) (B n : Nat) (l : List EnV) : Prop := ∃ D : DataW Unit, w.ownsMap Tryz.prog 9 (plainElem Tryz.prog 3) B n D ∧ (∀ x : List UInt8, Maps.has D (.string x) = hasK EnV.id l x) ∧
 ∀ x : List UInt8, hasK EnV.id l x = true → D.atKey (.string x) (.lit (.int .i64 0)) = .lit (.int .i64 (plK EnV.id l x : Nat))
theorem keySE : Maps.Keyed Tryz.prog 9 := Maps.string_keyed Tryz.underlying9
theorem zeroI (w : World) : (zeroValue 3).run Tryz.prog w = .ok (.int .i64 0) w := by kernel_rfl
theorem keyNE (x : List UInt8) (h : x.length ≤ 140737488355328) : keyOf Tryz.prog 9 (.string (asS x)) = some (.string x) :=
 WideMaps.keyOf_string_mk Tryz.underlying9 (s := asS x) (by rw [asS_size]; unfold maxLen; omega)
theorem wf_small {k : Nat} (h : k ≤ 1000000) : (Lit.int .i64 (k : Int)).wf = true := by
 have h1 : IntKind.min .i64 = -9223372036854775808 := by decide
 have h2 : IntKind.max .i64 = 9223372036854775807 := by decide
 simp only [Lit.wf, h1, h2, Bool.and_eq_true, decide_eq_true_eq]
 omega
theorem MapI.made (w : World) : MapI (w.alloc (.map #[] 0)) w.heap.size 0 [] := ⟨_, World.ownsMap_made _ _ _ _, fun x => rfl, fun x h => by cases h⟩
theorem MapI.to {w w' : World} {B n : Nat} {l : List EnV} {R : Option Nat} (h : MapI w B n l) (hg : w.grownBy w' R) (hne : some B ≠ R) : MapI w' B n l := by
 obtain ⟨D, h1, h2⟩ := h
 exact ⟨D, h1.kept hg hne, h2⟩
theorem MapI.below {w w' : World} {B n : Nat} {l : List EnV} (h : MapI w B n l) (hb : Below w.heap.size w w') : MapI w' B n l := h.to (grown_of_below hb) (by simp)
theorem MapI.mono {w : World} {B n n' : Nat} {l : List EnV} (h : MapI w B n l) (hn : n ≤ n') : MapI w B n' l := by
 obtain ⟨D, h1, h2⟩ := h
 exact ⟨D, h1.mono hn, h2⟩
theorem MapI.lt {w : World} {B n : Nat} {l : List EnV} (h : MapI w B n l) : B < w.heap.size := by
 obtain ⟨D, h1, h2⟩ := h
 exact h1.lt
theorem MapI.skip {w : World} {B n : Nat} {l : List EnV} {e : EnV} (h : MapI w B n l) (hh : hasK EnV.id l e.id = true) : MapI w B n (l ++ [e]) := by
 obtain ⟨D, h1, h2, h3⟩ := h
 have hs : ∀ x, hasK EnV.id (l ++ [e]) x = hasK EnV.id l x := fun x => by
  rw [has_snoc]
  by_cases hx : e.id = x
  ·subst hx; rw [hh]; rfl
  ·simp [hx]
 refine ⟨D, h1, fun x => by rw [hs]; exact h2 x, fun x hx => ?_⟩
 rw [hs] at hx
 rw [pl_app, if_pos hx]
 exact h3 x hx
theorem wpList_askI {w : World} {ops : Array Oper} {rest : List Oper} {o : Oper} {a : Act} {Q : Exit → Act → World → Prop} (hg : o.guard = none) (m x : Operand) (hop : o.op = Op.lookup 77 m x true)
  (B n : Nat) (l : List EnV) (hm : a.eval m = .map (some B)) (h : MapI w B n l) (X : ByteArray) (nm : List UInt8) (hX : X = asS nm) (hx : a.eval x = .string X) (hl : nm.length ≤ 140737488355328) (b : Bool) (hb : hasK EnV.id l nm = b)
  (hK : ∀ c : Int, wpList Tryz.prog ops Q rest (a.put o.dst (.tuple #[.int .i64 c, .bool b])) w) : wpList Tryz.prog ops Q (o :: rest) a w := by
 obtain ⟨D, h1, h2, h3⟩ := h
 refine wpList_lookup_own_ok_int w hg m x _ hop 9 3 .i64 keySE Tryz.underlying77 Tryz.underlying3 (zeroI _) B n D hm h1 _ _ hx (by rw [hX]; exact keyNE nm hl) ?_
 intro c _ _
 rw [h2, hb]
 exact hK c
theorem wpList_askI2 {w : World} {ops : Array Oper} {rest : List Oper} {o : Oper} {a : Act} {Q : Exit → Act → World → Prop} (hg : o.guard = none) (m x : Operand) (hop : o.op = Op.lookup 77 m x true)
  (B n : Nat) (l : List EnV) (hm : a.eval m = .map (some B)) (h : MapI w B n l) (X : ByteArray) (nm : List UInt8) (hX : X = asS nm) (hx : a.eval x = .string X) (hl : nm.length ≤ 140737488355328) (b : Bool) (hb : hasK EnV.id l nm = b)
  (hK : ∀ c : Int, (b = true → c = (plK EnV.id l nm : Nat)) → wpList Tryz.prog ops Q rest (a.put o.dst (.tuple #[.int .i64 c, .bool b])) w) : wpList Tryz.prog ops Q (o :: rest) a w := by
 obtain ⟨D, h1, h2, h3⟩ := h
 refine wpList_lookup_own_ok_int w hg m x _ hop 9 3 .i64 keySE Tryz.underlying77 Tryz.underlying3 (zeroI _) B n D hm h1 _ _ hx (by rw [hX]; exact keyNE nm hl) ?_
 intro c hc _
 rw [h2, hb]
 refine hK c fun hbt => ?_
 rw [h3 nm (by rw [hb, hbt])] at hc
 injection hc with hc
 injection hc with _ hc
 exact hc.symm
theorem wpList_askI3 {w : World} {ops : Array Oper} {rest : List Oper} {o : Oper} {a : Act} {Q : Exit → Act → World → Prop} (hg : o.guard = none) (m x : Operand) (hop : o.op = Op.lookup 77 m x true)
  (B n : Nat) (l : List EnV) (hm : a.eval m = .map (some B)) (h : MapI w B n l) (X : ByteArray) (nm : List UInt8) (hX : X = asS nm) (hx : a.eval x = .string X) (hl : nm.length ≤ 140737488355328) (hb : hasK EnV.id l nm = true) (p : Nat) (hp : plK EnV.id l nm = p)
  (hK : wpList Tryz.prog ops Q rest (a.put o.dst (.tuple #[.int .i64 (p : Int), .bool true])) w) : wpList Tryz.prog ops Q (o :: rest) a w := by
 refine wpList_askI2 hg m x hop B n l hm h X nm hX hx hl true hb fun c hc => ?_
 rw [hc rfl, hp]
 exact hK
theorem wpList_getI {w : World} {ops : Array Oper} {rest : List Oper} {o : Oper} {a : Act} {Q : Exit → Act → World → Prop} (hg : o.guard = none) (m x : Operand) (hop : o.op = Op.lookup 77 m x false)
  (B n : Nat) (l : List EnV) (hm : a.eval m = .map (some B)) (h : MapI w B n l) (X : ByteArray) (nm : List UInt8) (hX : X = asS nm) (hx : a.eval x = .string X) (hl : nm.length ≤ 140737488355328) (hb : hasK EnV.id l nm = true)
  (hK : wpList Tryz.prog ops Q rest (a.put o.dst (.int .i64 (plK EnV.id l nm : Nat))) w) : wpList Tryz.prog ops Q (o :: rest) a w := by
 obtain ⟨D, h1, h2, h3⟩ := h
 refine wpList_lookup_own_int w hg m x _ hop 9 3 .i64 keySE Tryz.underlying77 Tryz.underlying3 (zeroI _) B n D hm h1 _ _ hx (by rw [hX]; exact keyNE nm hl) ?_
 intro c hc _
 rw [h3 nm hb] at hc
 injection hc with hc
 injection hc with _ hc
 rw [← hc]
 exact hK
theorem wpList_noteI {w : World} {ops : Array Oper} {rest : List Oper} {o : Oper} {a : Act} {Q : Exit → Act → World → Prop} (hg : o.guard = none) (m x v : Operand) (hop : o.op = Op.mapUpdate 77 m x v)
  (B n : Nat) (l : List EnV) (hm : a.eval m = .map (some B)) (h : MapI w B n l) (hn : n ≤ 1000000) (X : ByteArray) (e : EnV) (hX : X = asS e.id) (hx : a.eval x = .string X) (k : Nat) (hk : k = l.length) (hv : a.eval v = .int .i64 (k : Int)) (hk2 : k ≤ 1000000) (hl : e.id.length ≤ 140737488355328) (hb : hasK EnV.id l e.id = false)
  (hK : ∀ w', MapI w' B (n + 1) (l ++ [e]) → w.grownBy w' (some B) → wpList Tryz.prog ops Q rest (a.put o.dst undef) w') : wpList Tryz.prog ops Q (o :: rest) a w := by
 obtain ⟨D, h1, h2, h3⟩ := h
 refine wpList_mapUpdate_own w hg m x v _ hop 9 3 keySE Tryz.underlying77 (plainElem Tryz.prog 3) B n D hm h1 (by unfold maxLen; omega) _ _ _ hx hv (by rw [hX]; exact keyNE e.id hl) (.lit (.int .i64 (k : Int))) [] (plainElem_int Tryz.underlying3 (wf_small hk2)) ?_
 intro w' hw hgr
 have hkl : WideAt.IsKeyLit (Lit.string e.id) := trivial
 refine hK w' ⟨_, hw, fun y => ?_, fun y hy => ?_⟩ hgr
 ·rw [has_snoc]
  by_cases hye : e.id = y
  ·subst hye
   rw [Maps.has_put_same h1.isMap hkl]
   simp
  ·rw [Maps.has_put_other (fun e => hye (by injection e with e; exact e.symm)), h2]
   simp [hye]
 ·rw [has_snoc] at hy
  by_cases hye : e.id = y
  ·subst hye
   rw [Maps.atKey_put_same h1.isMap hkl, pl_app, hb, hk]
   have : plK EnV.id [e] e.id = 0 := by unfold plK; rw [List.findIdx_cons]; simp
   rw [this]; rfl
  ·have hh : hasK EnV.id l y = true := by simpa [hye] using hy
   rw [Maps.atKey_put_other (fun e => hye (by injection e with e; exact e.symm)), pl_app, if_pos hh]
   exact h3 y hh
attribute [local go_sem ↓] loadE_eq
theorem make_mapH (z : Int) (w : World) : (Instr.makeMap 77 (some (.int .i64 z))).run Tryz.prog w = .ok (.map (some w.heap.size)) (w.alloc (.map #[] 0)) := by
 simp [Instr.makeMap, run_underlying Tryz.underlying77, go_sem, asInt]
theorem ent_get {l : List EnV} {k : Nat} (hk : k < l.length) : l.getD k zeroE ∈ l := by
 rw [List.getD_eq_getElem?_getD, List.getElem?_eq_getElem hk]
 exact List.getElem_mem hk
set_option maxRecDepth 100000 in
theorem spots_any (l : List EnV) (n : Nat) (hn : l.length = n) (hl : n ≤ 1000000) (hf : FitE 140737488355328 l) (A : Option Addr) (c : Nat) (w : World) (hA : EntsAt w A l) : Calls Tryz.prog 50 #[.slice A n c] w fun e w' => e = .returned (.map (some w.heap.size)) ∧ MapI w' w.heap.size n l ∧ Below w.heap.size w w' := by
 have HA := hid hA
 have HF := hid hf
 have HN := hid hn
 have HM0 := hid (MapI.made w)
 have HB0 := hid ((Below.refl w.heap.size w).alloc (Nat.le_refl _) (.map #[] 0))
 have hmm := make_mapH (n : Int) w
 clear hA hf hn
 go_enter Tryz.func50, Tryz.ntmps50
 go_wp2_with fail
 clear hmm
 go_loopw [13] (fun i wr => ∃ k : Nat, k ≤ n ∧ i = .int .i64 (k : Int) ∧ Hid (MapI wr w.heap.size k (l.take k)) ∧ Hid (Below w.heap.size w wr)) (fun i wr => n - (intOf i).toNat)
 case atStart => exact ⟨0, Nat.zero_le _, rfl, HM0.out, HB0.out⟩
 case round =>
  obtain ⟨k, hk, rfl, HM, HB⟩ := hrel
  by_cases hlt : k < n
  ·have hi : (k : Int) < (n : Int) := by omega
   have hkl : k < l.length := by have := HN.out; omega
   obtain ⟨q, o, rfl, hq, hld⟩ := (HA.out.below HB.out (Nat.le_refl _)).load k hkl
   have HE := hid (HF.out _ (ent_get hkl)).1
   have HTK : Hid (l.take (k + 1) = l.take k ++ [l.getD k zeroE]) := take_sn l k zeroE hkl
   have HLK : Hid ((l.take k).length = k) := by show _ = _; rw [List.length_take]; omega
   clear hkl
   generalize l.getD k zeroE = e at hld HE HTK
   have HX : Hid (asS e.id = asS e.id) := rfl
   unfold ecs at hld
   generalize hS : asS e.id = S1 at hld
   have HS := hid hS
   clear hS HX
   generalize asS e.title = S2 at hld
   generalize asS e.link = S3 at hld
   generalize asS e.body = S4 at hld
   generalize e.time = T1 at hld
   generalize e.dated = D1 at hld
   obtain ⟨V, hV⟩ : ∃ V, wr.alloc (.cells #[.string S1, .string S2, .string S3, .string S4, .int .i64 T1, .bool D1] 40) = V := ⟨_, rfl⟩
   have hrow : V.heap[wr.heap.size]? = some (.cells #[.string S1, .string S2, .string S3, .string S4, .int .i64 T1, .bool D1] 40 (0, 0)) := by rw [← hV]; exact heap_alloc_new wr _
   have hbV : Below wr.heap.size wr V := by rw [← hV]; exact (Below.refl _ _).alloc (Nat.le_refl _) _
   have c0 : V.cell? ⟨wr.heap.size, 0, none⟩ = some (.string S1) := cell_of_row _ _ _ _ _ _ hrow
   have HMV := hid (HM.out.below hbV)
   have HBV := hid (HB.out.trans (hbV.mono HB.out.size))
   clear hrow hbV
   cases hh : hasK EnV.id (l.take k) e.id with
   | true =>
    have HH := hid hh
    clear hh
    go_wp2_with (first
     | (at_lookup; refine wpList_askI rfl _ _ rfl w.heap.size k (l.take k) rfl HMV.out S1 e.id HS.out.symm rfl HE.out true HH.out ?_; intro c9)
     | fail)
    go_roundw
    case rel => exact ⟨k + 1, by omega, by go_num, (by show MapI _ _ _ _; rw [HTK.out]; exact (HMV.out.skip HH.out).mono (by omega)), HBV.out⟩
    case measure => simp [intOf]; omega
   | false =>
    have HH := hid hh
    clear hh
    go_wp2_with (first
     | (at_lookup; refine wpList_askI rfl _ _ rfl w.heap.size k (l.take k) rfl HMV.out S1 e.id HS.out.symm rfl HE.out false HH.out ?_; intro c9)
     | (refine wpList_noteI rfl _ _ _ rfl w.heap.size k (l.take k) rfl HMV.out (by omega) S1 e HS.out.symm rfl k HLK.out.symm rfl (by omega) HE.out HH.out ?_; intro w9 h9 hg9; (have H9 := hid h9); (have HG9 := hid hg9); clear h9 hg9)
     | fail)
    go_roundw
    case rel => exact ⟨k + 1, by omega, by go_num, (by show MapI _ _ _ _; rw [HTK.out]; exact H9.out), to_cut HG9.out HBV.out.size (Nat.le_refl _) |> HBV.out.trans⟩
    case measure => simp [intOf]; omega
  ·have hi : ¬ (k : Int) < (n : Int) := by omega
   have HMN : Hid (MapI wr w.heap.size n l) := by
    have h1 := HM.out
    rw [List.take_of_length_le (by have := HN.out; omega)] at h1
    exact h1.mono hk
   go_wp2_with fail
   go_ret
   exact ⟨rfl, HMN.out, HB.out⟩
theorem MapI.same {w W : World} {B n : Nat} {l : List EnV} (h : MapI w B n l) (hb : W.heap[B]? = w.heap[B]?) : MapI W B n l := by
 obtain ⟨D, ⟨es, c, h1, r⟩, h2⟩ := h
 exact ⟨D, ⟨es, c, hb.trans h1, r⟩, h2⟩
theorem OwnE.le {w : World} {b b' : Nat} {v : Value} {l : List EnV} (h : OwnE w b v l) (hb : b' ≤ b) : OwnE w b' v l := by
 rcases h with h | ⟨g, cap, h1, h2⟩
 ·exact .inl h
 ·exact .inr ⟨g, cap, h1, ⟨Nat.le_trans hb h2.ge, h2.len, h2.row⟩⟩
theorem bel_c {w w1 w2 : World} (h1 : Below w.heap.size w w1) (h2 : Below w1.heap.size w1 w2) : Below w.heap.size w w2 := h1.trans (h2.mono h1.size)
theorem ecs_any (a b c d : ByteArray) (t : Int) (x : Bool) : (#[.string a, .string b, .string c, .string d, .int .i64 t, .bool x] : Array Value).all (·.oneCell') = true := by
 refine all_oneCell_toArray (cs := [.string a, .string b, .string c, .string d, .int .i64 t, .bool x]) fun v hv => ?_
 simp only [List.mem_cons, List.not_mem_nil, or_false] at hv
 rcases hv with rfl | rfl | rfl | rfl | rfl | rfl <;> rfl
theorem infoS9 : (Tryz.prog.info? 9).map (·.size) = some 1 := by kernel_rfl
set_option maxRecDepth 100000 in
theorem copied_any (e : EnV) (hf : FitE1 140737488355328 e) (w : World) : Calls Tryz.prog 86 #[.agg (ecs e)] w fun e' w' => e' = .returned (.agg (ecs e)) ∧ Below w.heap.size w w' := by
 have H1 := hid (fun W => clone_any (asS e.id) W (by rw [asS_size]; have := hf.1; omega))
 have H2 := hid (fun W => clone_any (asS e.title) W (by rw [asS_size]; have := hf.2.1; omega))
 have H3 := hid (fun W => clone_any (asS e.link) W (by rw [asS_size]; have := hf.2.2.1; omega))
 have H4 := hid (fun W => clone_any (asS e.body) W (by rw [asS_size]; have := hf.2.2.2; omega))
 unfold ecs
 clear hf
 generalize asS e.id = S1 at H1 ⊢
 generalize asS e.title = S2 at H2 ⊢
 generalize asS e.link = S3 at H3 ⊢
 generalize asS e.body = S4 at H4 ⊢
 generalize e.time = T1
 generalize e.dated = D1
 obtain ⟨W0, hW0⟩ : ∃ W0, (w.alloc (.cells #[.string S1, .string S2, .string S3, .string S4, .int .i64 T1, .bool D1] 40)).alloc (.cells #[.string ⟨#[]⟩, .string ⟨#[]⟩, .string ⟨#[]⟩, .string ⟨#[]⟩, .int .i64 0, .bool false] 40) = W0 := ⟨_, rfl⟩
 have HR0 : Hid (W0.heap[w.heap.size]? = some (.cells #[.string S1, .string S2, .string S3, .string S4, .int .i64 T1, .bool D1] 40 (0, 0))) := by rw [← hW0]; exact heap_first w _ _
 have HZ0 : Hid (W0.heap[w.heap.size + 1]? = some (.cells #[.string ⟨#[]⟩, .string ⟨#[]⟩, .string ⟨#[]⟩, .string ⟨#[]⟩, .int .i64 0, .bool false] 40 (0, 0))) := by rw [← hW0]; exact heap_second w _ _
 have HB0 : Hid (Below w.heap.size w W0) := by rw [← hW0]; exact ((Below.refl _ _).alloc (Nat.le_refl _) _).alloc (by simp) _
 have c0 : W0.cell? ⟨w.heap.size, 0, none⟩ = some (.string S1) := cell_of_row _ _ _ _ _ _ HR0.out
 go_enter Tryz.func86, Tryz.ntmps86
 go_wp2_with fail
 refine (H1.out W0).mono ?_
 rintro e1 W1 ⟨rfl, hb1⟩
 have HR1 := hid (row_keep hb1 HR0.out)
 have HZ1 := hid (row_keep hb1 HZ0.out)
 have HB1 := hid (bel_c HB0.out hb1)
 clear hb1 c0 hW0 HR0 HZ0 HB0
 go_wp2_with (first
  | (refine store_part rfl 9 _ _ rfl w.heap.size 0 (.string S1) 40 _ #[.string S1, .string S2, .string S3, .string S4, .int .i64 T1, .bool D1] rfl rfl infoS9 (by simp) rfl rfl HR1.out rfl ?_; intro W2 hO2 hW2; have c1 : W2.cell? ⟨w.heap.size, 1, none⟩ = some (.string S2) := cell_of_row _ _ _ _ _ _ hW2)
  | fail)
 have HR2 := hid hW2
 have HZ2 := hid ((hO2.block (w.heap.size + 1) (by omega)).trans HZ1.out)
 have HB2 := hid (HB1.out.trans (hO2.below (B := w.heap.size) (Nat.le_refl _)))
 clear hO2 hW2 HR1 HZ1 HB1
 refine (H2.out W2).mono ?_
 rintro e3 W3 ⟨rfl, hb3⟩
 have HR3 := hid (row_keep hb3 HR2.out)
 have HZ3 := hid (row_keep hb3 HZ2.out)
 have HB3 := hid (bel_c HB2.out hb3)
 clear hb3 c1 HR2 HZ2 HB2
 go_wp2_with (first
  | (refine store_part rfl 9 _ _ rfl w.heap.size 1 (.string S2) 40 _ #[.string S1, .string S2, .string S3, .string S4, .int .i64 T1, .bool D1] rfl rfl infoS9 (by simp) rfl rfl HR3.out rfl ?_; intro W4 hO4 hW4; have c2 : W4.cell? ⟨w.heap.size, 2, none⟩ = some (.string S3) := cell_of_row _ _ _ _ _ _ hW4)
  | fail)
 have HR4 := hid hW4
 have HZ4 := hid ((hO4.block (w.heap.size + 1) (by omega)).trans HZ3.out)
 have HB4 := hid (HB3.out.trans (hO4.below (B := w.heap.size) (Nat.le_refl _)))
 clear hO4 hW4 HR3 HZ3 HB3
 refine (H3.out W4).mono ?_
 rintro e5 W5 ⟨rfl, hb5⟩
 have HR5 := hid (row_keep hb5 HR4.out)
 have HZ5 := hid (row_keep hb5 HZ4.out)
 have HB5 := hid (bel_c HB4.out hb5)
 clear hb5 c2 HR4 HZ4 HB4
 go_wp2_with (first
  | (refine store_part rfl 9 _ _ rfl w.heap.size 2 (.string S3) 40 _ #[.string S1, .string S2, .string S3, .string S4, .int .i64 T1, .bool D1] rfl rfl infoS9 (by simp) rfl rfl HR5.out rfl ?_; intro W6 hO6 hW6; have c3 : W6.cell? ⟨w.heap.size, 3, none⟩ = some (.string S4) := cell_of_row _ _ _ _ _ _ hW6)
  | fail)
 have HR6 := hid hW6
 have HZ6 := hid ((hO6.block (w.heap.size + 1) (by omega)).trans HZ5.out)
 have HB6 := hid (HB5.out.trans (hO6.below (B := w.heap.size) (Nat.le_refl _)))
 clear hO6 hW6 HR5 HZ5 HB5
 refine (H4.out W6).mono ?_
 rintro e7 W7 ⟨rfl, hb7⟩
 have HR7 := hid (row_keep hb7 HR6.out)
 have HZ7 := hid (row_keep hb7 HZ6.out)
 have HB7 := hid (bel_c HB6.out hb7)
 clear hb7 c3 HR6 HZ6 HB6
 go_wp2_with (first
  | (refine store_part rfl 9 _ _ rfl w.heap.size 3 (.string S4) 40 _ #[.string S1, .string S2, .string S3, .string S4, .int .i64 T1, .bool D1] rfl rfl infoS9 (by simp) rfl rfl HR7.out rfl ?_; intro W8 hO8 hW8; have hldz := loadE_run hW8 rfl; have hZZ := (hO8.block (w.heap.size + 1) (by omega)).trans HZ7.out)
  | (refine wpList_store_abs rfl 40 (.tmp 2) (.tmp 19) rfl (w.heap.size + 1) 0 #[.string S1, .string S2, .string S3, .string S4, .int .i64 T1, .bool D1] rfl rfl 40 _ hZZ (Nat.le_refl 6) infoE (ecs_any _ _ _ _ _ _) ?_; intro W9 hO9 hW9)
  | fail)
 rw [over_whole #[.string ⟨#[]⟩, .string ⟨#[]⟩, .string ⟨#[]⟩, .string ⟨#[]⟩, .int .i64 0, .bool false] #[.string S1, .string S2, .string S3, .string S4, .int .i64 T1, .bool D1] rfl] at hW9
 exact bodyPost_ret (ret_en (p := 2) Tryz.results86 _ _ (w.heap.size + 1) #[.string S1, .string S2, .string S3, .string S4, .int .i64 T1, .bool D1] rfl (0, 0) rfl hW9) rfl ⟨rfl, (HB7.out.trans (hO8.below (B := w.heap.size) (Nat.le_refl _))).trans (hO9.below (by omega))⟩
set_option maxRecDepth 100000 in
theorem firsts_any (l : List EnV) (n : Nat) (hn : l.length = n) (hl : n ≤ 1000000) (hf : FitE 140737488355328 l) (A : Option Addr) (c : Nat) (w : World) (hA : EntsAt w A l) : Calls Tryz.prog 51 #[.slice A n c] w fun e w' => ∃ v, e = .returned v ∧ OwnE w' w.heap.size v (firstsU EnV.id l) ∧ Below w.heap.size w w' := by
 have HA := hid hA
 have HF := hid hf
 have HN := hid hn
 have HSP := hid (spots_any l n hn hl hf A c w hA)
 have HCP : Hid (∀ e ∈ l, ∀ W, Calls Tryz.prog 86 #[.agg (ecs e)] W fun e' w' => e' = .returned (.agg (ecs e)) ∧ Below W.heap.size W w') := fun e he W => copied_any e (hf e he) W
 have HHK : Hid (∀ k, k < n → hasK EnV.id l (l.getD k zeroE).id = true) := fun k hk => (has_iff _ _ _).2 ⟨_, ent_get (by omega), rfl⟩
 clear hA hf hn
 go_enter Tryz.func51, Tryz.ntmps51
 go_wp2_with fail
 refine HSP.out.mono ?_
 rintro e0 W1 ⟨rfl, hm1, hb1⟩
 have HM1 := hid hm1
 have HB1 := hid hb1
 clear hm1 hb1 HSP
 go_wp2_with fail
 go_loopw [4, 11] (fun v i wr => ∃ k : Nat, k ≤ n ∧ i = .int .i64 (k : Int) ∧ Hid (OwnE wr (w.heap.size + 1) v (firstsU EnV.id (l.take k))) ∧ Hid (MapI wr w.heap.size n l) ∧ Hid (Below w.heap.size w wr)) (fun v i wr => n - (intOf i).toNat)
 case atStart => exact ⟨0, Nat.zero_le _, rfl, OwnE.nil _ _, HM1.out, HB1.out⟩
 case round =>
  obtain ⟨k, hk, rfl, HO, HM, HB⟩ := hrel
  by_cases hlt : k < n
  ·have hi : (k : Int) < (n : Int) := by omega
   have hkl : k < l.length := by have := HN.out; omega
   obtain ⟨q, o, rfl, hq, hld⟩ := (HA.out.below HB.out (Nat.le_refl _)).load k hkl
   have HE := hid (HF.out _ (ent_get hkl)).1
   have HC := hid (HCP.out _ (ent_get hkl))
   have HH := hid (HHK.out k hlt)
   have HTK := hid (fun hf => firsts_take EnV.id l k zeroE hkl hf)
   have HFU := hid (firsts_full EnV.id l k)
   have HL16 := hid (firsts_len EnV.id (l.take k))
   obtain ⟨A', c', hsh⟩ := HO.out.shape
   have hql : q < wr.heap.size := hq
   clear hkl
   generalize l.getD k zeroE = e at hld HE HTK HC HH
   unfold ecs at hld
   generalize hS : asS e.id = S1 at hld
   have HS := hid hS
   clear hS
   generalize hS : asS e.title = S2 at hld
   have HS2 := hid hS
   clear hS
   generalize hS : asS e.link = S3 at hld
   have HS3 := hid hS
   clear hS
   generalize hS : asS e.body = S4 at hld
   have HS4 := hid hS
   clear hS
   generalize hS : e.time = T1 at hld
   have HT1 := hid hS
   clear hS
   generalize hS : e.dated = D1 at hld
   have HD1 := hid hS
   clear hS
   have HEC : Hid (ecs e = #[.string S1, .string S2, .string S3, .string S4, .int .i64 T1, .bool D1]) := by
    show _ = _
    unfold ecs
    rw [HS.out, HS2.out, HS3.out, HS4.out, HT1.out, HD1.out]
   rw [HEC.out] at HC
   generalize hfk : firstsU EnV.id (l.take k) = fk at HO HTK HFU HL16 hsh
   generalize hm : fk.length = m at hsh HFU HL16 HTK
   obtain ⟨V, hV⟩ : ∃ V, wr.alloc (.cells #[.string S1, .string S2, .string S3, .string S4, .int .i64 T1, .bool D1] 40) = V := ⟨_, rfl⟩
   have hrow : V.heap[wr.heap.size]? = some (.cells #[.string S1, .string S2, .string S3, .string S4, .int .i64 T1, .bool D1] 40 (0, 0)) := by rw [← hV]; exact heap_alloc_new wr _
   have hbV : Below wr.heap.size wr V := by rw [← hV]; exact (Below.refl _ _).alloc (Nat.le_refl _) _
   have HOV := hid (HO.out.below hbV)
   have HMV := hid (HM.out.below hbV)
   have HBV := hid (HB.out.trans (hbV.mono HB.out.size))
   by_cases h16 : m = 16
   ·have hq16 : ((m : Int) == 16) = true := by rw [h16]; rfl
    have HFE := hid (HFU.out h16)
    clear hrow hbV h16 hm
    rw [hsh] at HOV ⊢
    go_wp2_with fail
    go_ret
    refine ⟨_, rfl, ?_, HBV.out⟩
    rw [HFE.out]
    exact HOV.out.le (Nat.le_succ _)
   ·have hq16 : ((m : Int) == 16) = false := by rw [beq_eq_false_iff_ne]; omega
    have HST := hid (HTK.out (by have := HL16.out; omega))
    have c0 : V.cell? ⟨wr.heap.size, 0, none⟩ = some (.string S1) := cell_of_row _ _ _ _ _ _ hrow
    have hldV := loadE_run hrow rfl
    have hszV : wr.heap.size < V.heap.size := (Array.getElem?_eq_some_iff.1 hrow).1
    have hm16 : m ≤ 16 := HL16.out
    have HMM := hid hm
    clear hrow hbV hm HTK HFU HL16
    by_cases hp : plK EnV.id l e.id = k
    ·have hqp : (((plK EnV.id l e.id : Nat) : Int) == (k : Int)) = true := by rw [hp]; simp
     rw [if_pos hp] at HST
     clear hp
     rw [hsh] at HOV ⊢
     go_wp2_with (first
      | (at_lookup; refine wpList_getI rfl _ _ rfl w.heap.size n l rfl HMV.out S1 e.id HS.out.symm rfl HE.out HH.out ?_)
      | fail)
     refine (HC.out V).mono ?_
     rintro e9 V2 ⟨rfl, hb2⟩
     have HOV2 := hid (HOV.out.below hb2)
     have HMV2 := hid (HMV.out.below hb2)
     have HBV2 := hid (bel_c HBV.out hb2)
     clear hb2 hldV c0 HOV HMV HBV
     go_wp2_with (first
      | (refine wpList_en rfl _ _ rfl (w.heap.size + 1) _ _ fk [e] rfl rfl (HOV2.out.below ((Below.refl _ _).alloc (Nat.le_refl _) _)) (src_en _ e V2.heap.size 1 (by rw [HEC.out]; exact heap_alloc_new V2 _)) (.inl (by simp)) (by rw [HMM.out]; simp; omega) (by have := HMV2.out.lt; simp; omega) ?_; intro v9 w9 h9 hb9; (have H9 := hid h9); (have HB9 := hid hb9); clear h9 hb9)
      | fail)
     go_roundw
     case rel =>
      refine ⟨k + 1, by omega, by go_num, (by show OwnE _ _ _ _; rw [HST.out]; exact H9.out), ?_, ?_⟩
      ·refine (HMV2.out.below ((Below.refl _ _).alloc (Nat.le_refl _) _)).same (HB9.out.block _ (by omega))
      ·exact (HBV2.out.trans (((Below.refl V2.heap.size V2).alloc (Nat.le_refl _) _).mono HBV2.out.size)).trans (HB9.out.mono (by omega))
     case measure => simp [intOf]; omega
    ·have hqp : (((plK EnV.id l e.id : Nat) : Int) == (k : Int)) = false := by rw [beq_eq_false_iff_ne]; omega
     rw [if_neg hp] at HST
     clear hp
     rw [hsh] at HOV ⊢
     go_wp2_with (first
      | (at_lookup; refine wpList_getI rfl _ _ rfl w.heap.size n l rfl HMV.out S1 e.id HS.out.symm rfl HE.out HH.out ?_)
      | fail)
     go_roundw
     case rel => exact ⟨k + 1, by omega, by go_num, (by show OwnE _ _ _ _; rw [HST.out]; exact HOV.out), HMV.out, HBV.out⟩
     case measure => simp [intOf]; omega
  ·have hi : ¬ (k : Int) < (n : Int) := by omega
   have HFE : Hid (firstsU EnV.id (l.take k) = firstsU EnV.id l) := by
    show _ = _
    rw [List.take_of_length_le (by have := HN.out; omega)]
   rw [HFE.out] at HO
   go_wp2_with fail
   go_ret
   exact ⟨_, rfl, HO.out.le (Nat.le_succ _), HB.out⟩
attribute [local go_sem ↓] loadE_eq
def plI (l : List EnV) (k : List UInt8) : Int := if hasK EnV.id l k = true then (plK EnV.id l k : Int) else -1
theorem plI_no (l : List EnV) (k : List UInt8) (h : hasK EnV.id l k = false) : plI l k = -1 := by unfold plI; rw [h]; rfl
theorem plI_at (l : List EnV) (i : Nat) (k : List UInt8) (h : i < l.length) (h0 : hasK EnV.id (l.take i) k = false) (hk : (l.getD i zeroE).id = k) : plI l k = (i : Int) := by
 subst hk
 have h1 := (pl_self EnV.id l i zeroE h).2 h0
 unfold plI
 rw [if_pos ((pl_lt EnV.id l _).1 (by rw [h1]; exact h)), h1]
theorem plI_step (l : List EnV) (i : Nat) (k : List UInt8) (h : i < l.length) (h0 : hasK EnV.id (l.take i) k = false) (hk : (l.getD i zeroE).id ≠ k) : hasK EnV.id (l.take (i + 1)) k = false := by
 rw [has_take EnV.id l i zeroE h, h0, Bool.false_or]
 exact decide_eq_false hk
theorem ents_c0 {w : World} {A : Option Addr} {l : List EnV} (h : EntsAt w A l) (j : Nat) (hj : j < l.length) : ∃ q o, A = some ⟨q, o, none⟩ ∧ q < w.heap.size ∧ w.cell? ⟨q, o + j * 6, none⟩ = some (.string (asS (l.getD j zeroE).id)) := by
 obtain ⟨q, o, h1, h2, h3⟩ := h (by omega)
 exact ⟨q, o, h1, h2, h3 j 0 _ hj rfl⟩
set_option maxRecDepth 100000 in
theorem place_any (l : List EnV) (n : Nat) (hn : l.length = n) (hl : n ≤ 1000000) (A : Option Addr) (c : Nat) (k : List UInt8) (s : ByteArray) (hs : s = asS k) (w : World) (hA : EntsAt w A l) : Calls Tryz.prog 13 #[.slice A n c, .string s] w fun e w' => e = .returned (.int .i64 (plI l k)) ∧ w' = w := by
 have HA := hid hA
 have HN := hid hn
 have HS := hid hs
 have HNO := hid (plI_no l k)
 have HAT := hid (plI_at l · k)
 have HST := hid (plI_step l · k)
 clear hA hn hs
 generalize plI l k = R at HNO HAT ⊢
 go_enter Tryz.func13, Tryz.ntmps13
 go_wp2_with fail
 go_loopw [5] (fun i wr => ∃ j : Nat, j ≤ n ∧ i = .int .i64 (j : Int) ∧ Hid (hasK EnV.id (l.take j) k = false) ∧ wr = w) (fun i wr => n - (intOf i).toNat)
 case atStart => exact ⟨0, Nat.zero_le _, rfl, rfl, rfl⟩
 case round =>
  obtain ⟨j, hj, rfl, HH, rfl⟩ := hrel
  by_cases hlt : j < n
  ·have hi : (j : Int) < (n : Int) := by omega
   have hkl : j < l.length := by have := HN.out; omega
   obtain ⟨q, o, rfl, hq, c0⟩ := ents_c0 HA.out j hkl
   have HATj := hid (HAT.out j hkl HH.out)
   have HSTj := hid (HST.out j hkl HH.out)
   clear hkl
   generalize (l.getD j zeroE).id = x at c0 HATj HSTj
   have hq2 := tl_two x k
   rw [← HS.out] at hq2
   generalize asS x = X at c0 hq2
   by_cases hx : x = k
   ·have HR := hid (HATj.out hx)
    rw [decide_eq_true hx] at hq2
    go_wp2_with fail
    go_ret
    exact ⟨by rw [HR.out]; rfl, rfl⟩
   ·have HR := hid (HSTj.out hx)
    rw [decide_eq_false hx] at hq2
    go_wp2_with fail
    go_roundw
    case rel => exact ⟨j + 1, by omega, by go_num, HR.out, trivial⟩
    case measure => simp [intOf]; omega
  ·have hi : ¬ (j : Int) < (n : Int) := by omega
   have HR := hid (HNO.out (by have := HH.out; rwa [List.take_of_length_le (by have := HN.out; omega)] at this))
   go_wp2_with fail
   go_ret
   exact ⟨by rw [HR.out]; rfl, rfl⟩
set_option maxRecDepth 100000 in
theorem entries_any (l : List EnV) (n : Nat) (hn : l.length = n) (hl : n ≤ 1000000) (A B : Option Addr) (c d : Nat) (w : World) (hA : EntsAt w A l) (hB : EntsAt w B l) : Calls Tryz.prog 22 #[.slice A n c, .slice B n d] w fun e w' => e = .returned (.bool true) ∧ Below w.heap.size w w' := by
 have HA := hid hA
 have HB := hid hB
 have HN := hid hn
 clear hA hB hn
 go_enter Tryz.func22, Tryz.ntmps22
 go_wp2_with fail
 go_loopw [5] (fun i wr => ∃ j : Nat, j ≤ n ∧ i = .int .i64 (j : Int) ∧ Hid (Below w.heap.size w wr)) (fun i wr => n - (intOf i).toNat)
 case atStart => exact ⟨0, Nat.zero_le _, rfl, Below.refl _ _⟩
 case round =>
  obtain ⟨j, hj, rfl, HW⟩ := hrel
  by_cases hlt : j < n
  ·have hi : (j : Int) < (n : Int) := by omega
   have hkl : j < l.length := by have := HN.out; omega
   obtain ⟨q, o, rfl, hq, k1⟩ := (HA.out.below HW.out.drew (Nat.le_refl _)).load j hkl
   obtain ⟨q', o', rfl, hq', k2⟩ := (HB.out.below HW.out.drew (Nat.le_refl _)).load j hkl
   clear hkl
   have heq := eqEn (l.getD j zeroE)
   have hgd := guardE
   generalize l.getD j zeroE = e at k1 k2 heq
   unfold ecs at k1 k2 heq
   generalize asS e.id = S1 at k1 k2 heq
   generalize asS e.title = S2 at k1 k2 heq
   generalize asS e.link = S3 at k1 k2 heq
   generalize asS e.body = S4 at k1 k2 heq
   generalize e.time = T1 at k1 k2 heq
   generalize e.dated = D1 at k1 k2 heq
   go_wp2_with fail
   go_region
   all_goals go_wp2_with fail
   go_roundw
   case rel => exact ⟨j + 1, by omega, by go_num, HW.out.drew⟩
   case measure => simp [intOf]; omega
  ·have hi : ¬ (j : Int) < (n : Int) := by omega
   go_wp2_with fail
   go_ret
   exact ⟨rfl, HW.out⟩
end Go.Proofs.YtgoiafndapemjaaGreatDoor
