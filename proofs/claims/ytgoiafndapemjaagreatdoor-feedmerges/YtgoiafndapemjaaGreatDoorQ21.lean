import Derived.Test.YtgoiafndapemjaaGreatDoorQ11
import Derived.Test.YtgoiafndapemjaaGreatDoorQ20
import Derived.Test.YtgoiafndapemjaaGreatDoorQ03
import Derived.Test.YtgoiafndapemjaaGreatDoorQ16
import Derived.Maps.OwnSet
import Derived.Test.YtgoiafndapemjaaGreatDoorQ19
set_option linter.unusedVariables false
set_option linter.unusedSimpArgs false
set_option maxHeartbeats 1000000
namespace Go.Proofs.YtgoiafndapemjaaGreatDoor
open Go.RowKit Go.BigFrame
attribute [local go_sem ↓] loadN_eq
theorem take_getD {α : Type} (l : List α) (z : α) (k : Nat) (h : k < l.length) : l.take (k + 1) = l.take k ++ [l.getD k z] := by
 rw [List.take_succ_eq_append_getElem h, List.getD_eq_getElem?_getD, List.getElem?_eq_getElem h]; rfl
theorem deep_eq : ∀ (d : Nat) (t : Tr d), deepT d t = if (nmT d t).isEmpty then 0 else maxL ((kidsT d t).map (deepT (d - 1))) + 1
 | 0, t => rfl
 | _ + 1, t => rfl
theorem many_eq : ∀ (d : Nat) (t : Tr d), manyT d t = 1 + (if (nmT d t).isEmpty then 0 else (lab d t).2.1.length) + ((kidsT d t).map (manyT (d - 1))).sum
 | 0, t => rfl
 | _ + 1, t => rfl
theorem text_eq : ∀ (d : Nat) (t : Tr d), textT d t = if (nmT d t).isEmpty then txT d t else (kidsT d t).flatMap (textT (d - 1))
 | 0, t => rfl
 | _ + 1, t => rfl
def KidsFit (N : Nat) : (d : Nat) → Tr d → Prop
 | 0, _ => True
 | d + 1, t => t.2.length ≤ N ∧ ∀ k ∈ t.2, KidsFit N d k
theorem getD_mem9 {α : Type} {l : List α} {z : α} {j : Nat} (h : j < l.length) : l.getD j z ∈ l := by
 rw [List.getD_eq_getElem?_getD, List.getElem?_eq_getElem h]
 exact List.getElem_mem h
attribute [local go_sem ↓] loadN_eq
def FitN (N : Nat) : (d : Nat) → Tr d → Prop
 | 0, t => (lab 0 t).2.1.length ≤ N
 | d + 1, t => (lab (d + 1) t).2.1.length ≤ N ∧ t.2.length ≤ N ∧ ∀ k ∈ t.2, FitN N d k
theorem top_atts {l : Lab} {b k : Bool} (h : mayTop l b k = true) (he : l.1.isEmpty = true) : l.2.1 = [] := by
 unfold mayTop at h
 rw [if_pos he] at h
 simp at h
 exact h.1.1.2
def SetN (w : World) (B n : Nat) (ns : List (List UInt8)) : Prop := ∃ D : DataW Unit, w.ownsMap Tryz.prog 9 unitElem B n D ∧ ∀ x : List UInt8, Maps.has D (.string x) = ns.contains x
theorem keyS : Maps.Keyed Tryz.prog 9 := Maps.string_keyed Tryz.underlying9
theorem zeroU (w : World) : (zeroValue 145).run Tryz.prog w = .ok (.agg #[]) w := by kernel_rfl
theorem keyN (x : List UInt8) (h : x.length ≤ 1000000) : keyOf Tryz.prog 9 (.string (asS x)) = some (.string x) :=
 WideMaps.keyOf_string_mk Tryz.underlying9 (s := asS x) (by rw [asS_size]; unfold maxLen; omega)
theorem SetN.made (w : World) : SetN (w.alloc (.map #[] 0)) w.heap.size 0 [] := ⟨_, World.ownsMap_made _ _ _ _, fun x => rfl⟩
theorem SetN.to {w w' : World} {B n : Nat} {ns : List (List UInt8)} {R : Option Nat} (h : SetN w B n ns) (hg : w.grownBy w' R) (hne : some B ≠ R) : SetN w' B n ns := by
 obtain ⟨D, h1, h2⟩ := h
 exact ⟨D, h1.kept hg hne, h2⟩
theorem SetN.same {w W : World} {B n : Nat} {ns : List (List UInt8)} (h : SetN w B n ns) (hb : W.heap[B]? = w.heap[B]?) : SetN W B n ns := by
 obtain ⟨D, ⟨es, c, h1, r⟩, h2⟩ := h
 exact ⟨D, ⟨es, c, hb.trans h1, r⟩, h2⟩
theorem wpList_asked {w : World} {ops : Array Oper} {rest : List Oper} {o : Oper} {a : Act} {Q : Exit → Act → World → Prop} (hg : o.guard = none) (m x : Operand) (hop : o.op = Op.lookup 144 m x true)
  (B n : Nat) (ns : List (List UInt8)) (hm : a.eval m = .map (some B)) (h : SetN w B n ns) (X : ByteArray) (nm : List UInt8) (hX : X = asS nm) (hx : a.eval x = .string X) (hl : nm.length ≤ 1000000)
  (hK : wpList Tryz.prog ops Q rest (a.put o.dst (.tuple #[.agg #[], .bool (ns.contains nm)])) w) : wpList Tryz.prog ops Q (o :: rest) a w := by
 obtain ⟨D, h1, h2⟩ := h
 refine wpList_lookup_own_unit w hg m x _ hop 9 145 keyS Tryz.underlying144 (zeroU _) B n D hm h1 _ _ hx (by rw [hX]; exact keyN nm hl) ?_
 rw [h2]
 exact hK
theorem wpList_noted {w : World} {ops : Array Oper} {rest : List Oper} {o : Oper} {a : Act} {Q : Exit → Act → World → Prop} (hg : o.guard = none) (m x v : Operand) (hop : o.op = Op.mapUpdate 144 m x v)
  (B n : Nat) (ns : List (List UInt8)) (hm : a.eval m = .map (some B)) (h : SetN w B n ns) (hn : n ≤ 1000000) (X : ByteArray) (nm : List UInt8) (hX : X = asS nm) (hx : a.eval x = .string X) (hv : a.eval v = .agg #[]) (hl : nm.length ≤ 1000000)
  (hK : ∀ w', SetN w' B (n + 1) (ns ++ [nm]) → w.grownBy w' (some B) → wpList Tryz.prog ops Q rest (a.put o.dst undef) w') : wpList Tryz.prog ops Q (o :: rest) a w := by
 obtain ⟨D, h1, h2⟩ := h
 refine wpList_mapUpdate_own w hg m x v _ hop 9 145 keyS Tryz.underlying144 unitElem B n D hm h1 (by unfold maxLen; omega) _ _ _ hx hv (by rw [hX]; exact keyN nm hl) _ [] unitElem_mk ?_
 intro w' hw hgr
 refine hK w' ⟨_, hw, fun y => ?_⟩ hgr
 by_cases hy : y = nm
 ·subst hy
  rw [Maps.has_put_same h1.isMap (show WideAt.IsKeyLit (Lit.string y) from trivial)]
  simp
 ·rw [Maps.has_put_other (fun e => hy (by injection e)), h2]
  simp [hy]
theorem atC_fuel : ∀ (n f g : Nat) (al : List HdV) (l : List UInt8) (m : Nat), l.length ≤ n → l.length + 1 ≤ f → l.length + 1 ≤ g → atC f al l m = atC g al l m := by
 intro n
 induction n with
 | zero =>
  intro f g al l m h0 hf hg
  have : l = [] := List.length_eq_zero_iff.1 (by omega)
  subst this
  obtain ⟨f, rfl⟩ : ∃ f', f = f' + 1 := ⟨f - 1, by omega⟩
  obtain ⟨g, rfl⟩ : ∃ g', g = g' + 1 := ⟨g - 1, by omega⟩
  simp [atC]
 | succ n ih =>
  intro f g al l m h0 hf hg
  obtain ⟨f, rfl⟩ : ∃ f', f = f' + 1 := ⟨f - 1, by omega⟩
  obtain ⟨g, rfl⟩ : ∃ g', g = g' + 1 := ⟨g - 1, by omega⟩
  rw [atC, atC]
  split
  ·rfl
  ·split
   ·rfl
   ·rename_i a la ma ha
    have hs := (att_sh ha).1.le (dw_suf whX l)
    have := hs.2
    exact ih f g _ _ _ (by omega) (by omega) (by omega)
def atL (al : List HdV) (l : List UInt8) (m : Nat) := atC (l.length + 1) al l m
theorem atL_stop {al : List HdV} {l : List UInt8} {m : Nat} (h : (l.dropWhile whX).length = l.length ∨ nmX (l.dropWhile whX) = []) : atL al l m = .ok (al, l.dropWhile whX, m) := by
 unfold atL
 rw [atC, if_pos h]
theorem att_nm {al : List HdV} {l : List UInt8} {m : Nat} (h : nmX l ≠ []) : attX al l m = (match vaX (nrX l) with
  | none => .error 5
  | some (v, r) => if (al.map (·.name)).contains (nmX l) then .error 5 else if m + 1 ≤ 4096 then .ok (⟨nmX l, v⟩, r, m + 1) else .error 3) := by
 obtain ⟨h1, h2, h3⟩ := nm_some h
 rw [att_va, h1, h2, h3]
 rfl
theorem atL_step {al : List HdV} {l : List UInt8} {m : Nat} (h1 : (l.dropWhile whX).length < l.length) (h2 : nmX (l.dropWhile whX) ≠ []) : atL al l m = (match vaX (nrX (l.dropWhile whX)) with
  | none => .error 5
  | some (v, r) => if (al.map (·.name)).contains (nmX (l.dropWhile whX)) then .error 5 else if m + 1 ≤ 4096 then atL (al ++ [⟨nmX (l.dropWhile whX), v⟩]) r (m + 1) else .error 3) := by
 unfold atL
 rw [atC, if_neg (by rintro (h | h); omega; exact h2 h)]
 have ha := att_nm (al := al) (m := m) h2
 cases hv : vaX (nrX (l.dropWhile whX)) with
 | none => rw [hv] at ha; rw [ha]
 | some q =>
  obtain ⟨v, r⟩ := q
  rw [hv] at ha
  simp only at ha ⊢
  by_cases hc : (al.map (·.name)).contains (nmX (l.dropWhile whX)) = true
  ·rw [if_pos hc] at ha ⊢
   rw [ha]
  ·rw [if_neg hc] at ha ⊢
   by_cases hm : m + 1 ≤ 4096
   ·rw [if_pos hm] at ha ⊢
    rw [ha]
    have hs := (att_sh ha).1.2
    exact atC_fuel _ _ _ _ _ _ (Nat.le_refl _) (by omega) (by omega)
   ·rw [if_neg hm] at ha ⊢
    rw [ha]
theorem va_sh {al : List HdV} {l : List UInt8} {m : Nat} {v r : List UInt8} (h : nmX l ≠ []) (hv : vaX (nrX l) = some (v, r)) : r <:+ l ∧ r.length < l.length := by
 have ha := att_nm (al := []) (m := 0) h
 rw [hv] at ha
 simp at ha
 exact (att_sh ha).1
theorem nr_nil {l : List UInt8} (h : nmX l = []) : nrX l = l := by
 unfold nmX at h
 unfold nrX
 rw [List.take_eq_nil_iff] at h
 rcases h with h | h
 ·rw [h]; rfl
 ·rw [h]; simp
theorem OwnH.to {w W : World} {b R : Nat} {v : Value} {l : List HdV} (h : OwnH w b v l) (hg : w.grownBy W (some R)) (hR : R < b) : OwnH W b v l := by
 rcases h with h | ⟨g, cap, h1, h2⟩
 ·exact .inl h
 ·exact .inr ⟨g, cap, h1, h2.kept (hg.block g h2.lt (fun e => by have := h2.ge; injection e with e; omega))⟩
theorem OwnH.hdsP {w : World} {b : Nat} {v : Value} {l : List HdV} (h : OwnH w b v l) {b0 : Nat} (hb : b0 ≤ b) : ∃ A c, v = .slice A l.length c ∧ HdsP (fun q => b0 ≤ q) w A l := by
 have hv := h.hds
 obtain ⟨A, c, e, hat⟩ := hv
 refine ⟨A, c, e, hat, fun h0 x hx => ?_⟩
 rcases h with ⟨_, rfl⟩ | ⟨g, cap, e2, h2⟩
 ·simp at h0
 ·rw [e2] at e
  injection e with e3
  rw [hx] at e3
  injection e3 with e3
  have := h2.ge
  rw [← e3]
  show b0 ≤ g
  omega
structure AS (V : Except Nat (List HdV × List UInt8 × Nat)) (R B : Nat) (l : List UInt8) (w : World) (v : Value) (al : List HdV) (l' : List UInt8) (m' : Nat) (X : World) : Prop where
 rd : Rd X R l' m'
 gto : w.grownBy X (some R)
 own : OwnH X (B + 1) v al
 set : SetN X B al.length (al.map (·.name))
 go : atL al l' m' = V
 suf : l' <:+ l
 max : m' ≤ 4096
 cnt : al.length + l'.length ≤ l.length
 big : B + 1 ≤ X.heap.size
theorem AS.to {V : Except Nat (List HdV × List UInt8 × Nat)} {R B : Nat} {l : List UInt8} {w : World} {v : Value} {al : List HdV} {l' : List UInt8} {m' : Nat} {X : World} (h : AS V R B l w v al l' m' X) : w.grownBy X (some R) := h.gto
theorem AS.call {V : Except Nat (List HdV × List UInt8 × Nat)} {R B : Nat} {l : List UInt8} {w : World} {v : Value} {al : List HdV} {l' : List UInt8} {m' : Nat} {X Y : World} (h : AS V R B l w v al l' m' X) (hR : R < B) (hg : X.grownBy Y (some R)) :
  w.grownBy Y (some R) ∧ OwnH Y (B + 1) v al ∧ SetN Y B al.length (al.map (·.name)) ∧ B + 1 ≤ Y.heap.size :=
 ⟨h.to.trans hg, h.own.to hg (by omega), h.set.to hg (fun e => by injection e with e; omega), Nat.le_trans h.big hg.size⟩
attribute [local go_sem ↓] loadN_eq storeN_eq
theorem X_err (l : List UInt8) : X l = decide (errX l = 0) := by
 unfold X errX
 cases V l with
 | false => rfl
 | true =>
  rw [Bool.true_and, if_pos rfl]
  show xmlB (asS l) = _
  cases xmlB (asS l) <;> rfl
def ParPost (V : Except Nat (Tr 40)) (w : World) (e : Ending) (w' : World) : Prop := Below w.heap.size w w' ∧
 ((∃ t cs, V = .ok t ∧ e = .returned (.tuple #[.agg cs, .int .i64 0]) ∧ NdAt (fun q => w.heap.size ≤ q) 40 w' cs t) ∨
  (∃ er : Nat, V = .error er ∧ (er = 3 ∨ er = 5 ∨ er = 8 ∨ er = 9) ∧ e = .returned (.tuple #[.agg #[.string ⟨#[]⟩, .slice none 0 0, .string ⟨#[]⟩, .slice none 0 0], .int .i64 er])))
theorem lin_13 : ∀ l : List UInt8, (13 : UInt8) ∉ linE l
 | [] => by simp [linE]
 | c :: r => by
  have ih := lin_13 r
  simp only [linE]
  split
  ·rename_i h
   intro hm
   rcases List.mem_cons.1 hm with e | e
   ·exact h e.symm
   ·exact ih e
  ·split
   ·exact ih
   ·intro hm
    rcases List.mem_cons.1 hm with e | e
    ·cases e
    ·exact ih e
theorem infoR : (Tryz.prog.info? 92).map (·.size) = some 2 := by kernel_rfl
theorem store_two {ops : Array Oper} {rest : List Oper} {op : Oper} {a : Act} {w : World} {Q : Exit → Act → World → Prop} (hgd : op.guard = none) (x y : Operand) (ho : op.op = .store 92 x y)
  (b : Nat) (A B : Value) (h1 : A.oneCell' = true) (h2 : B.oneCell' = true) (hx : a.eval x = .pointer (some ⟨b, 0, none⟩)) (hy : a.eval y = .agg #[A, B])
  (cs : Array Value) (hrow : w.heap[b]? = some (.cells cs 92 (0, 0))) (hz : cs.size = 2)
  (h : ∀ W, Only b w W → W.heap[b]? = some (.cells #[A, B] 92 (0, 0)) → wpList Tryz.prog ops Q rest (a.put op.dst undef) W) : wpList Tryz.prog ops Q (op :: rest) a w :=
 wpList_store_abs hgd 92 x y ho b 0 #[A, B] hx hy 92 cs hrow (by rw [hz]; exact Nat.le_refl _) infoR (all_oneCell_toArray (cs := [A, B]) fun v hv => by
  simp only [List.mem_cons, List.not_mem_nil, or_false] at hv
  rcases hv with rfl | rfl
  ·exact h1
  ·exact h2)
  (fun W q1 q2 => h W q1 (by rw [q2, over_whole cs #[A, B] (by rw [hz]; rfl)]))
set_option maxRecDepth 100000 in
theorem parse13_any (HAT : AtOk) (s : List UInt8) (w : World) (h8 : 8 ≤ w.heap.size) (hT : TabE w) : Calls Tryz.prog 35 #[.string (asS s)] w (ParPost (parX s) w) := by
 have HP := hid (par_file s)
 have HB0 := hid ((Below.refl w.heap.size w).alloc (Nat.le_refl _) (.cells #[.string ⟨#[]⟩, .slice none 0 0, .string ⟨#[]⟩, .slice none 0 0] 25))
 have HG0 := hid (heap_alloc_new w (.cells #[.string ⟨#[]⟩, .slice none 0 0, .string ⟨#[]⟩, .slice none 0 0] 25))
 have HT0 := hid (hT.below HB0.out)
 have hsz := asS_size s
 have HXM := hid (fun W => xml_any s W)
 have HXE := hid (X_err s)
 have HLI := hid (fun (hs : s.length ≤ 65536) W hW => lines_any s (by omega) W hW)
 have HFL := hid (fun (hs : s.length ≤ 65536) R W (h1 : 7 < R) h2 h3 => file_any HAT (linE s) R W (Nat.le_trans (linE_len s) hs) (lin_13 s) h1 h2 h3)
 have H8 := hid h8
 clear HAT hT h8
 unfold ParPost
 generalize parX s = V at HP ⊢
 generalize fileX (linE s) = F at HP HFL
 by_cases h1 : 65536 < s.length
 ·rw [if_pos h1] at HP
  rw [← hsz] at h1
  have h1' : (65536 : Int) < ((asS s).size : Int) := by omega
  clear hsz HXM HXE HLI HFL h1
  generalize asS s = S at h1' ⊢
  go_enter Tryz.func35, Tryz.ntmps35
  go_wp2_with (first
   | (refine store_msg infoN rfl _ _ rfl w.heap.size _ _ _ _ rfl rfl rfl rfl rfl rfl _ HG0.out rfl ?_)
   | fail)
  intro WN hoN hrN
  have HON := hid hoN
  have HGN := hid hrN
  clear hoN hrN
  go_wp2_with fail
  refine bodyPost_ret (ret_nd2 (p := 2) (q := 3) Tryz.results35 _ _ w.heap.size _ rfl (0, 0) _ rfl rfl HGN.out) rfl ?_
  exact ⟨HB0.out.trans (HON.out.below (Nat.le_refl _)), .inr ⟨3, HP.out, by omega, rfl⟩⟩
 ·rw [if_neg h1] at HP
  have h1' : ¬ (65536 : Int) < ((asS s).size : Int) := by rw [hsz]; omega
  by_cases h2 : errX s = 0
  ·rw [HXE.out, decide_eq_true h2] at HP
   simp only [Bool.not_true, Bool.false_eq_true, if_false] at HP
   rw [h2] at HXM
   have HLI2 := hid (HLI.out (by omega))
   have HFL2 := hid (HFL.out (by omega))
   clear hsz HXE HLI HFL h1 h2
   generalize asS s = S at h1' HXM HLI2 ⊢
   obtain ⟨LS, hLS⟩ : ∃ LS, asS (linE s) = LS := ⟨_, rfl⟩
   have HLS := hid hLS
   rw [hLS] at HLI2
   clear hLS
   go_enter Tryz.func35, Tryz.ntmps35
   go_wp2_with fail
   refine (HXM.out _).mono ?_
   rintro e W1 ⟨rfl, hb1⟩
   have HB1 := hid (HB0.out.trans (hb1.mono HB0.out.size))
   have HG1 := hid (row_keep hb1 HG0.out)
   have HT1 := hid (HT0.out.below hb1)
   clear hb1
   go_wp2_with fail
   refine (HLI2.out _ HT1.out).mono ?_
   rintro e W2 ⟨rfl, hb2⟩
   have HB2 := hid (HB1.out.trans (hb2.mono HB1.out.size))
   have HG2 := hid (row_keep hb2 HG1.out)
   have HT2 := hid (HT1.out.below hb2)
   clear hb2
   go_wp2_with (first
    | (refine store_two rfl _ _ rfl W2.heap.size (.string LS) (.int .i64 0) rfl rfl rfl rfl _ (heap_alloc_new W2 _) rfl ?_)
    | fail)
   intro W3 ho3 hr3
   have hb3 := ((Below.refl _ W2).alloc (Nat.le_refl _) (.cells #[.string ⟨#[]⟩, .int .i64 0] 92)).trans (ho3.below (Nat.le_refl _))
   have HB3 := hid (HB2.out.trans (hb3.mono HB2.out.size))
   have HG3 := hid (row_keep hb3 HG2.out)
   have HT3 := hid (HT2.out.below hb3)
   have HRD : Hid (Rd W3 W2.heap.size (linE s) 0) := by show Rd _ _ _ _; unfold Rd; rw [HLS.out]; exact hr3
   have HZ2 : Hid (w.heap.size < W2.heap.size) := (Array.getElem?_eq_some_iff.1 HG2.out).1
   have HZ3 := hid hb3.size
   clear ho3 hr3 hb3
   have HFC := hid (HFL2.out W2.heap.size W3 (by have := H8.out; have := HZ2.out; omega) HT3.out HRD.out)
   go_wp2_with fail
   refine HFC.out.mono ?_
   rintro e W4 ⟨ho, (⟨t, cs, hF, rfl, hnd⟩ | ⟨er, A, B, C, D, hF, her, rfl, o1, o2, o3, o4⟩)⟩
   ·rw [hF] at HP
    have HG4 := hid (to_row ho HG3.out (by have := HZ2.out; omega))
    have HB4 := hid (HB3.out.trans (to_cut ho HB3.out.size (by have := HZ2.out; omega)))
    have HND := hid hnd
    obtain ⟨aA, ac, kA, kc, hcs, _, _⟩ := hnd.parts
    obtain ⟨A, B, C, D, hcs2, o1, o2, o3, o4⟩ : ∃ A B C D : Value, cs = #[A, B, C, D] ∧ A.oneCell' = true ∧ B.oneCell' = true ∧ C.oneCell' = true ∧ D.oneCell' = true := ⟨_, _, _, _, hcs, rfl, rfl, rfl, rfl⟩
    clear ho hnd hcs hF
    subst hcs2
    go_wp2_with (first
     | (refine store_msg infoN rfl _ _ rfl W4.heap.size A B C D o1 o2 o3 o4 rfl rfl _ (heap_alloc_new W4 _) rfl ?_)
     | fail)
    intro W5 ho5 hr5
    have hb5 := ((Below.refl _ W4).alloc (Nat.le_refl _) (.cells #[.string ⟨#[]⟩, .slice none 0 0, .string ⟨#[]⟩, .slice none 0 0] 25)).trans (ho5.below (Nat.le_refl _))
    have HG5 := hid (row_keep hb5 HG4.out)
    have HB5 := hid (HB4.out.trans (hb5.mono HB4.out.size))
    have HND5 := hid (HND.out.below hb5 (Nat.le_refl _))
    have hld5 : (loadI 25 (.pointer (some ⟨W4.heap.size, 0, none⟩))).run Tryz.prog W5 = .ok (.agg #[A, B, C, D]) W5 := loadN_run hr5 rfl
    clear ho5 hr5 hb5
    have hst5 : (storeI 25 (.pointer (some ⟨w.heap.size, 0, none⟩)) (.agg #[A, B, C, D])).run Tryz.prog W5 = .ok () (putM W5 w.heap.size #[A, B, C, D]) := storeM_row infoN _ _ _ _ o1 o2 o3 o4 HG5.out rfl
    have HP5 := hid (putM_only W5 w.heap.size #[A, B, C, D])
    have HQ5 := hid (putM_row HG5.out (cs' := #[A, B, C, D]) rfl)
    generalize putM W5 w.heap.size #[A, B, C, D] = Y at hst5 HP5 HQ5
    go_wp2_with fail
    refine bodyPost_ret (ret_nd2 (p := 2) (q := 3) Tryz.results35 _ _ w.heap.size _ rfl (0, 0) _ rfl rfl HQ5.out) rfl ?_
    refine ⟨HB5.out.trans (HP5.out.below (Nat.le_refl _)), .inl ⟨t, _, HP.out, rfl, HND5.out.frame (by rw [HP5.out.size]; exact Nat.le_refl _) fun q hq hlq => ?_⟩⟩
    have := HZ2.out
    have := HZ3.out
    exact ⟨HP5.out.block q (by omega), by omega⟩
   ·rw [hF] at HP
    have HG4 := hid (to_row ho HG3.out (by have := HZ2.out; omega))
    have HB4 := hid (HB3.out.trans (to_cut ho HB3.out.size (by have := HZ2.out; omega)))
    have HER := hid her
    have hne : ((er : Int) != 0) = true := by rw [bne_iff_ne]; omega
    clear ho hF her
    go_wp2_with (first
     | (refine store_msg infoN rfl _ _ rfl W4.heap.size A B C D o1 o2 o3 o4 rfl rfl _ (heap_alloc_new W4 _) rfl ?_)
     | fail)
    intro W5 ho5 hr5
    have hb5 := ((Below.refl _ W4).alloc (Nat.le_refl _) (.cells #[.string ⟨#[]⟩, .slice none 0 0, .string ⟨#[]⟩, .slice none 0 0] 25)).trans (ho5.below (Nat.le_refl _))
    have HG5 := hid (row_keep hb5 HG4.out)
    have HB5 := hid (HB4.out.trans (hb5.mono HB4.out.size))
    clear ho5 hr5 hb5
    go_wp2_with (first
     | (refine store_msg infoN rfl _ _ rfl w.heap.size _ _ _ _ rfl rfl rfl rfl rfl rfl _ HG5.out rfl ?_)
     | fail)
    intro WN hoN hrN
    have HON := hid hoN
    have HGN := hid hrN
    clear hoN hrN
    go_wp2_with fail
    refine bodyPost_ret (ret_nd2 (p := 2) (q := 3) Tryz.results35 _ _ w.heap.size _ rfl (0, 0) _ rfl rfl HGN.out) rfl ?_
    exact ⟨HB5.out.trans (HON.out.below (Nat.le_refl _)), .inr ⟨er, HP.out, HER.out, rfl⟩⟩
  ·rw [HXE.out, decide_eq_false h2] at HP
   simp only [Bool.not_false, if_true] at HP
   have hne : (errX s != 0) = true := by rw [bne_iff_ne]; exact h2
   generalize errX s = E at HXM hne
   clear hsz HXE HLI HFL h1 h2
   generalize asS s = S at h1' HXM ⊢
   go_enter Tryz.func35, Tryz.ntmps35
   go_wp2_with fail
   refine (HXM.out _).mono ?_
   rintro e W1 ⟨rfl, hb1⟩
   have HB1 := hid (HB0.out.trans (hb1.mono HB0.out.size))
   have HG1 := hid (row_keep hb1 HG0.out)
   clear hb1
   go_wp2_with (first
    | (refine store_msg infoN rfl _ _ rfl w.heap.size _ _ _ _ rfl rfl rfl rfl rfl rfl _ HG1.out rfl ?_)
    | fail)
   intro WN hoN hrN
   have HON := hid hoN
   have HGN := hid hrN
   clear hoN hrN
   go_wp2_with fail
   refine bodyPost_ret (ret_nd2 (p := 2) (q := 3) Tryz.results35 _ _ w.heap.size _ rfl (0, 0) _ rfl rfl HGN.out) rfl ?_
   exact ⟨HB1.out.trans (HON.out.below (Nat.le_refl _)), .inr ⟨5, HP.out, by omega, rfl⟩⟩
end Go.Proofs.YtgoiafndapemjaaGreatDoor
