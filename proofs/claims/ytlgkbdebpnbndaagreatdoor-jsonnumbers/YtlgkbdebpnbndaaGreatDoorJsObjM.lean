
/- What the reader of an object keeps: the set of its names, the names and the values in rows, the object in a variable. -/
import Derived.Test.YtlgkbdebpnbndaaGreatDoorJsList
import Derived.Maps.OwnSet
namespace Go.Proofs.YtlgkbdebpnbndaaGreatDoor
set_option linter.unusedVariables false
set_option linter.unusedSimpArgs false
open Go.RowKit Go.BigFrame

theorem str_out : ∀ (n : Nat) (out l s r : List UInt8), l.length ≤ n → strW out l = some (s, r) → s.length ≤ out.length + 4 * l.length
  | n, out, [], s, r, _, h => by cases h
  | 0, out, c :: r0, s, r, h0, h => by simp at h0
  | n + 1, out, c :: r0, s, r, h0, h => by
    simp only [List.length_cons] at h0 ⊢
    rw [strW_cons] at h
    split at h
    · injection h with h
      injection h with h _
      subst h
      omega
    · split at h
      · cases he : escJ r0 with
        | none => rw [he] at h; cases h
        | some q =>
          rw [he] at h
          have h1 := esc_len (n := q.1) (r := q.2) he
          have h2 := str_out n _ _ _ _ (by omega) h
          have h3 := enc_le q.1
          rw [List.length_append] at h2
          omega
      · split at h
        · cases h
        · have h2 := str_out n _ _ _ _ (by omega) h
          rw [List.length_append, List.length_singleton] at h2
          omega
/-- The set in block B holds these names, and is of n entries at most. -/
def SetN (w : World) (B n : Nat) (ns : List (List UInt8)) : Prop := ∃ D : DataW Unit, w.ownsMap Tryz.prog 9 unitElem B n D ∧ ∀ x : List UInt8, Maps.has D (.string x) = ns.contains x
theorem keyS : Maps.Keyed Tryz.prog 9 := Maps.string_keyed Tryz.underlying9
theorem zeroU (w : World) : (zeroValue 124).run Tryz.prog w = .ok (.agg #[]) w := by kernel_rfl
theorem keyN (x : List UInt8) (h : x.length ≤ 1000000) : keyOf Tryz.prog 9 (.string (asS x)) = some (.string x) :=
  WideMaps.keyOf_string_mk Tryz.underlying9 (s := asS x) (by rw [asS_size]; unfold maxLen; omega)
theorem SetN.made (w : World) : SetN (w.alloc (.map #[] 0)) w.heap.size 0 [] := ⟨_, World.ownsMap_made _ _ _ _, fun x => rfl⟩
theorem SetN.same {w W : World} {B n : Nat} {ns : List (List UInt8)} (h : SetN w B n ns) (hb : W.heap[B]? = w.heap[B]?) : SetN W B n ns := by
  obtain ⟨D, ⟨es, c, h1, r⟩, h2⟩ := h
  exact ⟨D, ⟨es, c, hb.trans h1, r⟩, h2⟩
theorem SetN.lt {w : World} {B n : Nat} {ns : List (List UInt8)} (h : SetN w B n ns) : B < w.heap.size := by
  obtain ⟨D, h1, h2⟩ := h
  exact h1.lt
theorem wpList_asked {w : World} {ops : Array Oper} {rest : List Oper} {o : Oper} {a : Act} {Q : Exit → Act → World → Prop} (hg : o.guard = none) (m x : Operand) (hop : o.op = Op.lookup 123 m x true)
    (B n : Nat) (ns : List (List UInt8)) (hm : a.eval m = .map (some B)) (h : SetN w B n ns) (X : ByteArray) (nm : List UInt8) (hX : X = asS nm) (hx : a.eval x = .string X) (hl : nm.length ≤ 1000000)
    (hK : wpList Tryz.prog ops Q rest (a.put o.dst (.tuple #[.agg #[], .bool (ns.contains nm)])) w) : wpList Tryz.prog ops Q (o :: rest) a w := by
  obtain ⟨D, h1, h2⟩ := h
  refine wpList_lookup_own_unit w hg m x _ hop 9 124 keyS Tryz.underlying123 (zeroU _) B n D hm h1 _ _ hx (by rw [hX]; exact keyN nm hl) ?_
  rw [h2]
  exact hK
theorem wpList_noted {w : World} {ops : Array Oper} {rest : List Oper} {o : Oper} {a : Act} {Q : Exit → Act → World → Prop} (hg : o.guard = none) (m x v : Operand) (hop : o.op = Op.mapUpdate 123 m x v)
    (B n : Nat) (ns : List (List UInt8)) (hm : a.eval m = .map (some B)) (h : SetN w B n ns) (hn : n ≤ 1000000) (X : ByteArray) (nm : List UInt8) (hX : X = asS nm) (hx : a.eval x = .string X) (hv : a.eval v = .agg #[]) (hl : nm.length ≤ 1000000)
    (hK : ∀ w', SetN w' B (n + 1) (ns ++ [nm]) → w.grownBy w' (some B) → wpList Tryz.prog ops Q rest (a.put o.dst undef) w') : wpList Tryz.prog ops Q (o :: rest) a w := by
  obtain ⟨D, h1, h2⟩ := h
  refine wpList_mapUpdate_own w hg m x v _ hop 9 124 keyS Tryz.underlying123 unitElem B n D hm h1 (by unfold maxLen; omega) _ _ _ hx hv (by rw [hX]; exact keyN nm hl) _ [] unitElem_mk ?_
  intro w' hw hgr
  refine hK w' ⟨_, hw, fun y => ?_⟩ hgr
  by_cases hy : y = nm
  · subst hy
    rw [Maps.has_put_same h1.isMap (show WideAt.IsKeyLit (Lit.string y) from trivial)]
    simp
  · rw [Maps.has_put_other (fun e => hy (by injection e)), h2]
    simp [hy]
def stvs (l : List (List UInt8)) : List Value := l.map fun s => .string (asS s)
theorem stvs_at (l : List (List UInt8)) (j : Nat) (h : j < l.length) : (stvs l)[j]? = some (.string (asS (l.getD j []))) := by
  simp [stvs, List.getD_eq_getElem?_getD, h]
theorem stvs_app (a b : List (List UInt8)) : stvs (a ++ b) = stvs a ++ stvs b := by simp [stvs]
theorem stK : KCells Tryz.prog 1 23 9 := ⟨Tryz.underlying23, by
  obtain ⟨i, h1, h2, h3, h4⟩ := info_parts (show (Tryz.prog.info? 9).map (fun i => (i.zero, i.size, i.bytes)) = some (some (.string ⟨#[]⟩), 1, 16) from by kernel_rfl)
  exact ⟨i, _, h1, h2, h3, by omega, rfl⟩⟩
theorem src_st (w : World) (g c : Nat) (x : List UInt8) (N : ByteArray) (hN : N = asS x) (hg : w.heap[g]? = some (.cells #[.string N] 9 (0, 0))) : Src Tryz.prog 1 23 (.slice (some ⟨g, 0, none⟩) 1 c) 1 [.string (asS x)] w := by
  subst hN
  exact src_litK stK w g 1 c [.string (asS x)] rfl hg (fun u hu => by
    simp only [List.mem_cons, List.not_mem_nil, or_false] at hu
    subst hu; rfl)
/-- A row of texts of one's own, or none yet, in a block for which P. -/
def OwnNm (P : Nat → Prop) (w : World) (v : Value) (l : List (List UInt8)) : Prop := (v = .slice none 0 0 ∧ l = []) ∨
  ∃ g cap, v = .slice (some ⟨g, 0, none⟩) l.length cap ∧ P g ∧ OwnK w 1 9 0 g l.length cap (stvs l)
theorem OwnNm.nil (P : Nat → Prop) (w : World) : OwnNm P w (.slice none 0 0) [] := .inl ⟨rfl, rfl⟩
theorem OwnNm.frame {P P' : Nat → Prop} {w W : World} {v : Value} {l : List (List UInt8)} (h : OwnNm P w v l) (hP : ∀ q, blk v = some q → P q → q < w.heap.size → W.heap[q]? = w.heap[q]? ∧ P' q) : OwnNm P' W v l := by
  rcases h with h | ⟨g, cap, rfl, h2, h3⟩
  · exact .inl h
  · have hg := hP g rfl h2 h3.lt
    exact .inr ⟨g, cap, rfl, hg.2, h3.kept hg.1⟩
theorem OwnNm.blk_P {P : Nat → Prop} {w : World} {v : Value} {l : List (List UInt8)} (h : OwnNm P w v l) (q : Nat) (hq : blk v = some q) : P q ∧ q < w.heap.size := by
  rcases h with ⟨rfl, _⟩ | ⟨g, cap, rfl, h2, h3⟩
  · cases hq
  · have e : g = q := by injection hq
    subst e
    exact ⟨h2, h3.lt⟩
theorem OwnNm.shape {P : Nat → Prop} {w : World} {v : Value} {l : List (List UInt8)} (h : OwnNm P w v l) : ∃ A c, v = .slice A l.length c ∧ NmsP P w A l := by
  rcases h with ⟨rfl, rfl⟩ | ⟨g, cap, rfl, h2, h3⟩
  · exact ⟨none, 0, rfl, NmsP.nil _ _ _⟩
  · exact ⟨_, cap, rfl, fun _ => ⟨g, 0, rfl, h2, h3.lt, fun j hj => by rw [Nat.zero_add]; exact h3.at _ _ (stvs_at l j hj)⟩⟩
theorem OwnNm.one {P : Nat → Prop} {w : World} {v : Value} {l : List (List UInt8)} (h : OwnNm P w v l) : v.oneCell' = true := by
  obtain ⟨A, c, rfl, _⟩ := h.shape
  rfl
theorem OwnVj.one {P : Nat → Prop} {w : World} {d : Nat} {v : Value} {l : List (VJ d)} (h : OwnVj P w d v l) : v.oneCell' = true := by
  obtain ⟨A, c, rfl, _⟩ := h.shape
  rfl
theorem OwnNm.cel {P : Nat → Prop} {w : World} {v : Value} {l : List (List UInt8)} (h : OwnNm P w v l) : v.cells = #[v] := by
  obtain ⟨A, c, rfl, _⟩ := h.shape
  rfl
theorem OwnVj.cel {P : Nat → Prop} {w : World} {d : Nat} {v : Value} {l : List (VJ d)} (h : OwnVj P w d v l) : v.cells = #[v] := by
  obtain ⟨A, c, rfl, _⟩ := h.shape
  rfl
/-- append(texts of one's own or none, another). -/
theorem run_nm (ty : TypeId) {P : Nat → Prop} {w : World} {v x : Value} {l : List (List UInt8)} {s : List UInt8} (h : OwnNm P w v l) (hs : Src Tryz.prog 1 23 x 1 [.string (asS s)] w) (hn : l.length ≤ 1000000) (hP : P w.heap.size) :
    ∃ v' w', (Builtin.append_ #[23, 23] ty #[v, x]).run Tryz.prog w = .ok v' w' ∧ OwnNm P w' v' (l ++ [s]) ∧ w.grownBy w' (blk v) ∧ (blk v' = blk v ∨ blk v' = some w.heap.size) := by
  rcases h with ⟨rfl, rfl⟩ | ⟨g, cap, rfl, h2, h3⟩
  · obtain ⟨cap, w', k1, k2, k3⟩ := run_nilK stK (b := 0) ty x hs (by decide) (by decide) (Nat.zero_le _)
    exact ⟨_, w', k1, .inr ⟨_, cap, rfl, hP, k2⟩, ⟨k3.os, k3.tape, k3.output, k3.size, fun k hk _ => k3.block k hk⟩, .inr rfl⟩
  · obtain ⟨g', cap', w', k1, k2, k3, k4⟩ := h3.run_app stK ty x hs (by omega) (Nat.zero_le _)
    refine ⟨_, w', k1, .inr ⟨g', cap', by rw [List.length_append, List.length_singleton], ?_, by rw [List.length_append, List.length_singleton, stvs_app]; exact k2⟩, k3, ?_⟩
    · rcases k4 with rfl | rfl
      · exact h2
      · exact hP
    · rcases k4 with rfl | rfl
      · exact .inl rfl
      · exact .inr rfl
theorem wpList_nm {ops : Array Oper} {rest : List Oper} {o : Oper} {a : Act} {w : World} {Q : Exit → Act → World → Prop} (hgd : o.guard = none) (s x : Operand)
    (ho : o.op = .call { callee := .builtin .append, args := #[s, x], argTypes := #[23, 23] })
    (P : Nat → Prop) (v xv : Value) (l : List (List UInt8)) (t : List UInt8) (hs : a.eval s = v) (hx : a.eval x = xv) (hown : OwnNm P w v l)
    (hA : Src Tryz.prog 1 23 xv 1 [.string (asS t)] w) (hn : l.length ≤ 1000000) (hP : P w.heap.size)
    (h : ∀ v' w', OwnNm P w' v' (l ++ [t]) → w.grownBy w' (blk v) → (blk v' = blk v ∨ blk v' = some w.heap.size) → wpList Tryz.prog ops Q rest (a.put o.dst v') w') : wpList Tryz.prog ops Q (o :: rest) a w := by
  refine wpList_plain hgd fun _ hK => ?_
  obtain ⟨v', w', hr, h2, h3, h4⟩ := run_nm o.type hown hA hn hP
  unfold Oper.wp execOp
  simp only [ho, resolve, invoke, builtin, Sem.run_bind, Sem.run_pure, Result.andThen_ok, List.map_toArray, List.map_cons, List.map_nil, hs, hx, hr]
  exact hK _ _ (h v' w' h2 h3 h4)
theorem infoO2 : (Tryz.prog.info? 86).map (·.size) = some 2 := by kernel_rfl
theorem info23 : (Tryz.prog.info? 23).map (·.size) = some 1 := by kernel_rfl
theorem info22 : (Tryz.prog.info? 22).map (·.size) = some 1 := by kernel_rfl
theorem two_one (A B : Value) (h1 : A.oneCell' = true) (h2 : B.oneCell' = true) : (#[A, B] : Array Value).all (·.oneCell') = true := by
  refine all_oneCell_toArray (cs := [A, B]) fun v hv => ?_
  simp only [List.mem_cons, List.not_mem_nil, or_false] at hv
  rcases hv with rfl | rfl
  · exact h1
  · exact h2
theorem load_two {w : World} {g : Nat} {A B : Value} {fr : Nat × Nat} (hg : w.heap[g]? = some (.cells #[A, B] 86 fr)) : (loadVar 86 ⟨g, 0, none⟩).run Tryz.prog w = .ok (.agg #[A, B]) w :=
  run_loadVar_row w g 86 86 #[A, B] fr _ hg Tryz.underlying86 rfl infoO2
theorem store_two {ops : Array Oper} {rest : List Oper} {op : Oper} {a : Act} {w : World} {Q : Exit → Act → World → Prop} (hgd : op.guard = none) (x y : Operand) (ho : op.op = .store 86 x y)
    (b : Nat) (A B : Value) (h1 : A.oneCell' = true) (h2 : B.oneCell' = true) (hx : a.eval x = .pointer (some ⟨b, 0, none⟩)) (hy : a.eval y = .agg #[A, B])
    (cs : Array Value) (hrow : w.heap[b]? = some (.cells cs 86 (0, 0))) (hz : cs.size = 2)
    (h : ∀ W, Only b w W → W.heap[b]? = some (.cells #[A, B] 86 (0, 0)) → wpList Tryz.prog ops Q rest (a.put op.dst undef) W) : wpList Tryz.prog ops Q (op :: rest) a w :=
  wpList_store_abs hgd 86 x y ho b 0 #[A, B] hx hy 86 cs hrow (by rw [hz]; exact Nat.le_refl _) infoO2 (two_one A B h1 h2)
    (fun W q1 q2 => h W q1 (by rw [q2, over_whole cs #[A, B] (by rw [hz]; rfl)]))
theorem ret_two {fn : Func} {p : Tmp} (h : fn.results = #[.cell p 86]) (tmps : Array Value) (w : World) (b : Nat) (A B : Value) (fr : Nat × Nat) (hp : tmps.getD p undef = .pointer (some ⟨b, 0, none⟩)) (hrow : w.heap[b]? = some (.cells #[A, B] 86 fr)) :
    (results fn tmps).run Tryz.prog w = .ok (.agg #[A, B]) w :=
  results_cell_row h tmps w b 86 #[A, B] fr _ hp hrow Tryz.underlying86 rfl infoO2
/-- How things stand in the reader of an object: the result's variable Q, the object's O, the set B; the names and the values in rows of their own. -/
structure OS (w : World) (d R Q O B : Nat) (nv vv : Value) (ns ss : List (List UInt8)) (ks : List (VJ d)) (W : World) : Prop where
  gto : w.grownBy W (some R)
  ord : R < w.heap.size ∧ w.heap.size ≤ Q ∧ Q < O ∧ O < B
  q : W.heap[Q]? = some (.cells #[.slice none 0 0, .slice none 0 0] 86 (0, 0))
  o : W.heap[O]? = some (.cells #[nv, vv] 86 (0, 0))
  set : SetN W B ss.length ss
  nms : OwnNm (fun q => B < q) W nv ns
  kids : OwnVj (fun q => B < q ∧ blk nv ≠ some q) W d vv ks
theorem OS.to {w : World} {d R Q O B : Nat} {nv vv : Value} {ns ss : List (List UInt8)} {ks : List (VJ d)} {W X : World} (h : OS w d R Q O B nv vv ns ss ks W) (hg : W.grownBy X (some R)) : OS w d R Q O B nv vv ns ss ks X := by
  obtain ⟨h1, h2, h3, h4⟩ := h.ord
  exact ⟨h.gto.trans hg, h.ord, to_row hg h.q (by omega), to_row hg h.o (by omega), h.set.same (hg.block B h.set.lt (fun e => by injection e with e; omega)),
    h.nms.frame (fun q _ hq hl => ⟨hg.block q hl (fun e => by injection e with e; omega), hq⟩), h.kids.to hg (fun q hq e => by omega)⟩
theorem OS.below {w : World} {d R Q O B : Nat} {nv vv : Value} {ns ss : List (List UInt8)} {ks : List (VJ d)} {W X : World} (h : OS w d R Q O B nv vv ns ss ks W) (hb : Below W.heap.size W X) : OS w d R Q O B nv vv ns ss ks X := h.to (to_below hb)
/-- Another name in the set. -/
theorem OS.note {w : World} {d R Q O B : Nat} {nv vv : Value} {ns ss ss2 : List (List UInt8)} {ks : List (VJ d)} {W X : World} (h : OS w d R Q O B nv vv ns ss ks W) (hg : W.grownBy X (some B)) (hs : SetN X B ss2.length ss2) : OS w d R Q O B nv vv ns ss2 ks X := by
  obtain ⟨h1, h2, h3, h4⟩ := h.ord
  exact ⟨grow_own h.gto hg (fun q e => by injection e with e; omega), h.ord, to_row hg h.q (by omega), to_row hg h.o (by omega), hs,
    h.nms.frame (fun q _ hq hl => ⟨hg.block q hl (fun e => by injection e with e; omega), hq⟩), h.kids.to hg (fun q hq e => by omega)⟩
/-- Another name in its row, and the row in the variable. -/
theorem OS.name {w : World} {d R Q O B : Nat} {nv vv nv2 : Value} {ns ns2 ss : List (List UInt8)} {ks : List (VJ d)} {W X Y : World} (h : OS w d R Q O B nv vv ns ss ks W) (hg : W.grownBy X (blk nv)) (hn : OwnNm (fun q => B < q) X nv2 ns2) (hbl : blk nv2 = blk nv ∨ blk nv2 = some W.heap.size)
    (ho : Only O X Y) (hr : Y.heap[O]? = some (.cells #[nv2, vv] 86 (0, 0))) : OS w d R Q O B nv2 vv ns2 ss ks Y := by
  obtain ⟨h1, h2, h3, h4⟩ := h.ord
  have hnb := fun q (e : blk nv = some q) => h.nms.blk_P q e
  have hkb := fun q (e : blk vv = some q) => h.kids.blk_P q e
  have hBW := h.set.lt
  have hXW := hg.size
  have hk : ∀ q, q < W.heap.size → q ≠ O → blk nv ≠ some q → Y.heap[q]? = W.heap[q]? := fun q hq ho2 hb => (ho.block q ho2).trans (hg.block q hq (fun e => hb e.symm))
  have hnB : ∀ q, q ≤ B → blk nv ≠ some q := fun q hq e => by have := (hnb q e).1; omega
  refine ⟨?_, h.ord, (hk Q (by omega) (by omega) (hnB Q (by omega))).trans h.q, hr, h.set.same (hk B hBW (by omega) (hnB B (Nat.le_refl _))), hn.frame (fun q _ hq hl => ⟨ho.block q (by omega), hq⟩), ?_⟩
  · refine grow_own (grow_own h.gto hg (fun q e => by have := (hnb q e).1; omega)) (grown_of_only ho) (fun q e => by injection e with e; omega)
  · refine h.kids.frame (Nat.le_trans hXW (Nat.le_of_eq ho.size.symm)) fun q hq hl => ⟨hk q hl (by omega) hq.2, hq.1, fun e => ?_⟩
    rcases hbl with hb | hb
    · exact hq.2 (by rw [← hb]; exact e)
    · rw [hb] at e
      injection e with e
      omega
/-- Another value in its row, and the row in the variable. -/
theorem OS.kid {w : World} {d R Q O B : Nat} {nv vv vv2 : Value} {ns ss : List (List UInt8)} {ks ks2 : List (VJ d)} {W X Y : World} (h : OS w d R Q O B nv vv ns ss ks W) (hg : W.grownBy X (blk vv)) (hn : OwnVj (fun q => B < q ∧ blk nv ≠ some q) X d vv2 ks2)
    (ho : Only O X Y) (hr : Y.heap[O]? = some (.cells #[nv, vv2] 86 (0, 0))) : OS w d R Q O B nv vv2 ns ss ks2 Y := by
  obtain ⟨h1, h2, h3, h4⟩ := h.ord
  have hkb := fun q (e : blk vv = some q) => h.kids.blk_P q e
  have hBW := h.set.lt
  have hXW := hg.size
  have hk : ∀ q, q < W.heap.size → q ≠ O → blk vv ≠ some q → Y.heap[q]? = W.heap[q]? := fun q hq ho2 hb => (ho.block q ho2).trans (hg.block q hq (fun e => hb e.symm))
  have hnB : ∀ q, q ≤ B → blk vv ≠ some q := fun q hq e => by have := (hkb q e).1.1; omega
  refine ⟨?_, h.ord, (hk Q (by omega) (by omega) (hnB Q (by omega))).trans h.q, hr, h.set.same (hk B hBW (by omega) (hnB B (Nat.le_refl _))), h.nms.frame (fun q e hq hl => ⟨hk q hl (by omega) (fun e2 => (hkb q e2).1.2 e), hq⟩), ?_⟩
  · refine grow_own (grow_own h.gto hg (fun q e => by have := (hkb q e).1.1; omega)) (grown_of_only ho) (fun q e => by injection e with e; omega)
  · exact hn.frame (Nat.le_of_eq ho.size.symm) fun q hq hl => ⟨ho.block q (by omega), hq⟩
end Go.Proofs.YtlgkbdebpnbndaaGreatDoor
