
/- A row of the call's own, its mark (of a conversion) or none; append onto it, of bytes, of a text; copy that ends with the room. -/
import Derived.Test.YtggbianodoneeaaDoorStore
import Derived.Test.YtggbianodoneeaaDoorRefMac
import Derived.Deep.AppendSrc
namespace Go.Proofs.YtggbianodoneeaaDoor
open Go.RowKit
set_option linter.unusedSimpArgs false
set_option linter.unusedVariables false

/-- The row g of the call's own (b: what was there before) holds the bytes l, n of them, and room for cap. -/
structure Own (w : World) (b g n cap : Nat) (l : List UInt8) : Prop where
  ge : b ≤ g
  len : l.length = n
  row : ∃ (rest : List Value) (fz : Nat × Nat), w.heap[g]? = some (.cells (bvs l ++ rest).toArray 5 fz) ∧ n + rest.length = cap ∧ (fz.2 = 0 ∨ cap ≤ fz.1)
theorem Own.le {w : World} {b g n cap : Nat} {l : List UInt8} (h : Own w b g n cap l) : n ≤ cap := by
  obtain ⟨r, fz, h1, h2, h3⟩ := h.row; omega
theorem Own.lt {w : World} {b g n cap : Nat} {l : List UInt8} (h : Own w b g n cap l) : g < w.heap.size := by
  obtain ⟨r, fz, h1, h2, h3⟩ := h.row; exact (Array.getElem?_eq_some_iff.1 h1).1
theorem Own.mono {w : World} {b b' g n cap : Nat} {l : List UInt8} (h : Own w b g n cap l) (hb : b' ≤ b) : Own w b' g n cap l := ⟨Nat.le_trans hb h.ge, h.len, h.row⟩
theorem Own.kept {w w' : World} {b g n cap : Nat} {l : List UInt8} (h : Own w b g n cap l) (hk : w'.heap[g]? = w.heap[g]?) : Own w' b g n cap l := by
  obtain ⟨r, fz, h1, h2⟩ := h.row
  exact ⟨h.ge, h.len, r, fz, hk.trans h1, h2⟩
theorem Own.below {w w' : World} {b g n cap B : Nat} {l : List UInt8} (h : Own w b g n cap l) (hb : Below B w w') (hB : w.heap.size ≤ B) : Own w' b g n cap l := h.kept (hb.block g (Nat.lt_of_lt_of_le h.lt hB))
theorem Own.alloc {w : World} {b g n cap : Nat} {l : List UInt8} (h : Own w b g n cap l) (o : Obj) : Own (w.alloc o) b g n cap l := h.kept (Below.heap_alloc w o g h.lt)
theorem Own.drew {w : World} {b g n cap : Nat} {l : List UInt8} (h : Own w b g n cap l) : Own w.drew b g n cap l := h.kept rfl
theorem Own.bytes {w : World} {b g n cap : Nat} {l : List UInt8} (h : Own w b g n cap l) : BytesAt w (some ⟨g, 0, none⟩) l := fun _ => by
  obtain ⟨r, fz, h1, h2, h3⟩ := h.row
  refine ⟨g, 0, rfl, h.lt, fun j hj => ?_⟩
  rw [cell_of_row _ _ _ _ _ _ h1, List.getElem?_toArray, List.getElem?_append_left (by rw [bvs_len]; omega)]
  simp [bvs, List.getD_eq_getElem?_getD, hj]
theorem setCells_heapF (g : Nat) (t : TypeId) (fz : Nat × Nat) : ∀ (vs : List Value) (o : Nat) (w : World) (cs : Array Value), w.heap[g]? = some (.cells cs t fz) → (w.setCells g o vs).heap[g]? = some (.cells (over cs o vs) t fz)
  | [], _, _, _, h => h
  | v :: r, o, w, cs, h => setCells_heapF g t fz r (o + 1) (w.setCell ⟨g, o, none⟩ v) (cs.setIfInBounds o v) (by simp [World.setCell, Array.getElem?_modify, h])
theorem Own.cell {w : World} {b g n cap : Nat} {l : List UInt8} (h : Own w b g n cap l) (j : Nat) (hj : j < cap) : (w.cell? ⟨g, j, none⟩).isSome = true ∧ w.frozen? ⟨g, j, none⟩ = false := by
  obtain ⟨r, fz, h1, h2, h3⟩ := h.row
  constructor
  · rw [cell_of_row _ _ _ _ _ _ h1, List.getElem?_toArray, List.getElem?_eq_getElem (by rw [List.length_append, bvs_len, h.len]; omega)]; rfl
  · simp only [World.frozen?, h1]
    rcases h3 with h3 | h3
    · simp [h3]
    · simp; omega
/-- A byte of it is set. -/
theorem Own.set {w : World} {b g n cap : Nat} {l : List UInt8} (h : Own w b g n cap l) (j : Nat) (hj : j < n) (x : UInt8) : Own (w.setCell ⟨g, j, none⟩ (.int .u8 x.toNat)) b g n cap (l.set j x) := by
  obtain ⟨r, fz, h1, h2, h3⟩ := h.row
  refine ⟨h.ge, by rw [List.length_set]; exact h.len, r, fz, ?_, h2, h3⟩
  simp only [World.setCell, Array.getElem?_modify, h1, if_true, Option.map_some]
  congr 2
  rw [List.setIfInBounds_toArray, List.set_append_left _ _ (by rw [bvs_len, h.len]; exact hj)]
  simp [bvs, List.map_set]
theorem src_bytes {w : World} {A : Option Addr} {l : List UInt8} (hA : BytesAt w A l) (c : Nat) (hz : l.length = 0 → A = none ∨ ∃ a, A = some a) : Src Tryd.prog 1 31 (.slice A l.length c) l.length (bvs l) w := by
  by_cases h0 : l.length = 0
  · obtain rfl := List.length_eq_zero_iff.1 h0
    cases A with
    | none => exact Src.ofNil w Tryd.underlying31 c
    | some a => exact Src.ofSlice w Tryd.underlying31 a 0 c [] rfl (fun j u h => by simp at h) (fun u h => by cases h)
  · obtain ⟨q, o, rfl, hq, hc⟩ := hA (by omega)
    exact Src.ofSlice w Tryd.underlying31 ⟨q, o, none⟩ l.length c (bvs l) (by rw [bvs_len, Nat.mul_one]) (fun j u hu => by
      have hj : j < l.length := by have := (List.getElem?_eq_some_iff.1 hu).1; rw [bvs_len] at this; exact this
      rw [Addr.add_mid, hc j hj, ← hu]; simp [bvs, List.getD_eq_getElem?_getD, hj]) (fun u hu => by
        simp only [bvs, List.mem_map] at hu
        obtain ⟨y, _, rfl⟩ := hu
        rfl)
theorem opt_any {α : Type} (A : Option α) : A = none ∨ ∃ a, A = some a := by cases A <;> simp
theorem src_text (w : World) (s : ByteArray) : Src Tryd.prog 1 9 (.string s) s.size (bvs s.data.toList) w := Src.ofString w Tryd.underlying9 s
theorem Own.run_app {w : World} {b g n cap m : Nat} {l l2 : List UInt8} (h : Own w b g n cap l) (tx ty : TypeId) (x : Value) (hs : Src Tryd.prog 1 tx x m (bvs l2) w) (hn : n + m ≤ 1000000000) (hb : b ≤ w.heap.size) :
    ∃ g' cap' w', (Builtin.append_ #[31, tx] ty #[.slice (some ⟨g, 0, none⟩) n cap, x]).run Tryd.prog w = .ok (.slice (some ⟨g', 0, none⟩) (n + m) cap') w' ∧ Own w' b g' (n + m) cap' (l ++ l2) ∧ w.grownBy w' (some g) ∧ (g' = g ∨ g' = w.heap.size) := by
  obtain ⟨i0, hi, hz0, hz1, hz2⟩ := info_parts info5
  have hm : l2.length = m := by have := hs.newsLen; rw [bvs_len, Nat.mul_one] at this; exact this
  have hs' : Src Tryd.prog i0.size tx x m (bvs l2) w := by rw [hz1]; exact hs
  by_cases hroom : n + m ≤ cap
  · obtain ⟨r, fz, h1, h2, h3⟩ := h.row
    have hr := run_append_room_src w 31 tx ty 5 i0 Tryd.underlying31 hi g 0 n cap x m (bvs l2) hs' hroom (fun j hj => by rw [bvs_len, hm] at hj; rw [hz1, Nat.zero_add, Nat.mul_one]; exact (h.cell (n + j) (by omega)).1) (fun j hj => by rw [bvs_len, hm] at hj; rw [hz1, Nat.zero_add, Nat.mul_one]; exact (h.cell (n + j) (by omega)).2)
    rw [hz1, Nat.zero_add, Nat.mul_one] at hr
    refine ⟨g, cap, _, hr, ⟨h.ge, by rw [List.length_append, h.len, hm], r.drop m, fz, ?_, by rw [List.length_drop]; omega, h3⟩, ?_, .inl rfl⟩
    · rw [setCells_heapF g 5 fz (bvs l2) n w _ h1]
      have := over_mid (r.take m) (bvs l2) (bvs l) (r.drop m) (by rw [bvs_len, hm, List.length_take]; omega)
      rw [List.take_append_drop, bvs_len, h.len] at this
      rw [this, bvs_app, List.append_assoc]
    · exact grown_of_only (only_setCells g (bvs l2) n w)
  · have hold : (Builtin.firstCells i0.size n (.slice (some ⟨g, 0, none⟩) n cap)).run Tryd.prog w.drew = .ok (bvs l).toArray w.drew := by
      have hbt := h.bytes
      refine run_firstCells_some w.drew i0.size n ⟨g, 0, none⟩ n cap (bvs l) (by rw [hz1, bvs_len, Nat.mul_one, h.len]) (fun j u hu => ?_)
      have hj : j < l.length := by have := (List.getElem?_eq_some_iff.1 hu).1; rw [bvs_len] at this; exact this
      obtain ⟨q, o, e, hq, hc⟩ := hbt (by omega)
      cases e
      have := hc j hj
      rw [Addr.add_mid]
      show w.cell? _ = _
      rw [this, ← hu]; simp [bvs, List.getD_eq_getElem?_getD, hj]
    have hr := run_append_grow_src w 31 tx ty 5 i0 (.int .u8 0) Tryd.underlying31 hi hz0 (some ⟨g, 0, none⟩) n cap (bvs l) hold x m (bvs l2) hs' (by omega) (by omega) (growslice_fits (by omega) (by rw [hz2]; omega))
    have hge := grownCap_ge w (n + m) cap 5
    refine ⟨w.heap.size, _, _, hr, ⟨hb, by rw [List.length_append, h.len, hm], (Builtin.zeroCells (Value.int .u8 0).cells (grownCap w (n + m) cap 5 - (n + m))).toList, (0, 0), ?_, ?_, .inl rfl⟩, ⟨rfl, rfl, rfl, by simp, fun k hk _ => Below.heap_alloc w.drew _ k hk⟩, .inr rfl⟩
    · rw [show w.heap.size = w.drew.heap.size from rfl, heap_alloc_new w.drew _, bvs_app]
      congr 2
      apply Array.ext'
      simp
    · rw [Array.length_toList, size_zeroCells]
      have : (Value.int .u8 0).cells.size = 1 := rfl
      rw [this]; omega
/-- The walk's law: append(own, bytes or a text...), in a plain region. -/
theorem wpList_own {ops : Array Oper} {rest : List Oper} {o : Oper} {a : Act} {w : World} {Q : Exit → Act → World → Prop} (hgd : o.guard = none) (s x : Operand) (tx : TypeId)
    (ho : o.op = .call { callee := .builtin .append, args := #[s, x], argTypes := #[31, tx] })
    (base g n cap m : Nat) (l l2 : List UInt8) (xv : Value) (hs : a.eval s = .slice (some ⟨g, 0, none⟩) n cap) (hx : a.eval x = xv) (hown : Own w base g n cap l)
    (hA : Src Tryd.prog 1 tx xv m (bvs l2) w) (hn : n + m ≤ 1000000000) (hbase : base ≤ w.heap.size)
    (h : ∀ g' cap' w', Own w' base g' (n + m) cap' (l ++ l2) → w.grownBy w' (some g) → (g' = g ∨ g' = w.heap.size) → wpList Tryd.prog ops Q rest (a.put o.dst (.slice (some ⟨g', 0, none⟩) (n + m) cap')) w') : wpList Tryd.prog ops Q (o :: rest) a w := by
  refine wpList_plain hgd fun _ hK => ?_
  obtain ⟨g', cap', w', hr, h2, h3, h4⟩ := hown.run_app tx o.type xv hA hn hbase
  unfold Oper.wp execOp
  simp only [ho, resolve, invoke, builtin, Sem.run_bind, Sem.run_pure, Result.andThen_ok, List.map_toArray, List.map_cons, List.map_nil, hs, hx, hr]
  exact hK _ _ (h g' cap' w' h2 h3 h4)
theorem Own.grown {B : Nat} {a w w' : World} {g n cap : Nat} {l : List UInt8} (h : Own w B g n cap l) (hb : Below B a w) (hB : B ≤ w.heap.size) (hg : w.grownBy w' (some g)) : Below B a w' :=
  hb.grown hg hB (fun k hk => by cases hk; exact h.ge)
theorem Own.of_own {w : World} {b g n cap : Nat} {l : List UInt8} (h : w.ownsRow b 5 1 (.slice (some ⟨g, 0, none⟩) n cap) n (bvs l)) : Own w b g n cap l := by
  have h1 := h.1
  rcases h.2 with ⟨h0, _⟩ | ⟨g', c', cur, e, h2, h3, h4, h5, h6, h7⟩
  · cases h0
  · cases e
    rw [bvs_len, Nat.mul_one] at h1
    rw [Nat.mul_one] at h6 h7
    refine ⟨h2, h1, cur.toList.drop n, (0, 0), ?_, by rw [List.length_drop, Array.length_toList]; omega, .inl rfl⟩
    rw [← h7, List.take_append_drop]; exact h3
theorem Own.new (w : World) (b n cap : Nat) (hb : b ≤ w.heap.size) (hn : n ≤ cap) : Own (w.alloc (.cells (bcs (zer cap)) 5)) b w.heap.size n cap (zer n) :=
  ⟨hb, zer_len n, bvs (zer (cap - n)), (0, 0), by rw [heap_alloc_new, ← bvs_app, ← zer_cut cap n hn]; rfl, by rw [bvs_len, zer_len]; omega, .inl rfl⟩
/-- []byte(s), a row of the call's own. -/
theorem conv_own (w : World) (s : ByteArray) : ∃ cap W1, (convert 9 31 (.string s)).run Tryd.prog w = .ok (.slice (some ⟨w.heap.size, 0, none⟩) s.size cap) W1 ∧ Own W1 w.heap.size w.heap.size s.size cap s.data.toList ∧ Below w.heap.size w W1 := by
  have hge := grownCap_ge w s.size 0 5
  refine ⟨_, _, Lib.run_convert_string_bytes w 9 31 5 s Tryd.underlying9 Tryd.underlying31 Tryd.underlying5, ⟨Nat.le_refl _, by simp, List.replicate (grownCap w s.size 0 5 - s.size) (.int .u8 0), ((Lib.bytesCells w 5 s).size, (Lib.bytesCells w 5 s).size + 1), ?_, by rw [List.length_replicate]; omega, .inr ?_⟩, ⟨rfl, rfl, rfl, by rw [Lib.bytesWorld_size]; omega, fun k hk => Lib.bytesWorld_at_old w 5 s k hk⟩⟩
  · rw [Lib.bytesWorld_at_new]
    congr 2
    apply Array.ext'
    simp [Lib.bytesCells, bvs]
  · simp [Lib.bytesCells]; omega
/-- copy(row[o:..], bytes): as many as have room. -/
theorem run_copy_cut (ty : TypeId) {w : World} {A : Option Addr} {l : List UInt8} {g o dLen dCap c : Nat} {t : TypeId} {cur : Array Value} (hA : BytesAt w A l) (hrow : w.heap[g]? = some (.cells cur t (0, 0))) (hfit : o + dLen ≤ cur.size) :
    ∃ W v, (Builtin.copy_ #[31, 31] ty #[.slice (some ⟨g, o, none⟩) dLen dCap, .slice A l.length c]).run Tryd.prog w = .ok v W ∧ Only g w W ∧ W.heap[g]? = some (.cells (over cur o (bvs (l.take dLen))) t (0, 0)) := by
  by_cases h0 : l.length = 0
  · obtain rfl := List.length_eq_zero_iff.1 h0
    exact ⟨w, _, run_copy_none w 31 31 ty 5 _ _ _ _ _ _ Tryd.underlying31 size5 (by simp), ⟨rfl, rfl, rfl, rfl, fun _ _ => rfl⟩, by rw [List.take_nil]; exact hrow⟩
  · obtain ⟨q, oo, rfl, hq, hc⟩ := hA (by omega)
    have hth := there_row hrow o (bvs (l.take dLen)).length (by rw [bvs_len, List.length_take]; omega)
    have := run_copy_cells w 31 31 ty 5 g o dLen dCap ⟨q, oo, none⟩ l.length c (bvs (l.take dLen)) Tryd.underlying31 size5 (by rw [bvs_len, List.length_take]; first | rfl | exact Nat.min_comm _ _) (fun j v hv => by
      have hj : j < (l.take dLen).length := by have := (List.getElem?_eq_some_iff.1 hv).1; rw [bvs_len] at this; exact this
      have hj2 : j < l.length ∧ j < dLen := by rw [List.length_take] at hj; omega
      rw [Addr.add_mid, hc j hj2.1, ← hv]
      simp [bvs, List.getD_eq_getElem?_getD, hj2.1, hj2.2]) (fun j hj => (hth j hj).1) (fun j hj => (hth j hj).2) (bvs_one' (l.take dLen))
    exact ⟨_, _, this, only_setCells g _ o w, setCells_heap g t _ o w cur hrow⟩
end Go.Proofs.YtggbianodoneeaaDoor
