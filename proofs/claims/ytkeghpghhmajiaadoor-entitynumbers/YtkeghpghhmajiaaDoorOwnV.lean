
/- A row of the call's own, of elements of one cell (numbers, texts, pointers): append onto it. -/
import Derived.Test.YtkeghpghhmajiaaDoorBase
namespace Go.Proofs.YtkeghpghhmajiaaDoor
open Go.RowKit
set_option linter.unusedSimpArgs false
set_option linter.unusedVariables false

/-- The row g of the call's own (b: what was there before) holds the elements xs, n of them, and room for cap. -/
structure OwnV (w : World) (e : TypeId) (b g n cap : Nat) (xs : List Value) : Prop where
  ge : b ≤ g
  len : xs.length = n
  row : ∃ rest : List Value, w.heap[g]? = some (.cells (xs ++ rest).toArray e (0, 0)) ∧ n + rest.length = cap
/-- What is asked of the element's type. -/
structure OneCell (P : Program) (t e : TypeId) : Prop where
  sl : P.underlying t = some (.slice e)
  info : ∃ i z, P.info? e = some i ∧ i.zero = some z ∧ i.size = 1 ∧ i.bytes ≤ 100 ∧ z.cells.size = 1
theorem OwnV.le {w : World} {e b g n cap : Nat} {xs : List Value} (h : OwnV w e b g n cap xs) : n ≤ cap := by
  obtain ⟨r, h1, h2⟩ := h.row; omega
theorem OwnV.lt {w : World} {e b g n cap : Nat} {xs : List Value} (h : OwnV w e b g n cap xs) : g < w.heap.size := by
  obtain ⟨r, h1, h2⟩ := h.row; exact (Array.getElem?_eq_some_iff.1 h1).1
theorem OwnV.mono {w : World} {e b b' g n cap : Nat} {xs : List Value} (h : OwnV w e b g n cap xs) (hb : b' ≤ b) : OwnV w e b' g n cap xs := ⟨Nat.le_trans hb h.ge, h.len, h.row⟩
theorem OwnV.kept {w w' : World} {e b g n cap : Nat} {xs : List Value} (h : OwnV w e b g n cap xs) (hk : w'.heap[g]? = w.heap[g]?) : OwnV w' e b g n cap xs := by
  obtain ⟨r, h1, h2⟩ := h.row
  exact ⟨h.ge, h.len, r, hk.trans h1, h2⟩
theorem OwnV.below {w w' : World} {e b g n cap B : Nat} {xs : List Value} (h : OwnV w e b g n cap xs) (hb : Below B w w') (hB : w.heap.size ≤ B) : OwnV w' e b g n cap xs := h.kept (hb.block g (Nat.lt_of_lt_of_le h.lt hB))
theorem OwnV.alloc {w : World} {e b g n cap : Nat} {xs : List Value} (h : OwnV w e b g n cap xs) (o : Obj) : OwnV (w.alloc o) e b g n cap xs := h.kept (Below.heap_alloc w o g h.lt)
theorem OwnV.drew {w : World} {e b g n cap : Nat} {xs : List Value} (h : OwnV w e b g n cap xs) : OwnV w.drew e b g n cap xs := h.kept rfl
theorem OwnV.other {w w' : World} {e b g g2 n cap : Nat} {xs : List Value} (h : OwnV w e b g n cap xs) (hg : w.grownBy w' (some g2)) (hne : g ≠ g2) : OwnV w' e b g n cap xs := h.kept (hg.block g h.lt (fun e => hne (by cases e; rfl)))
theorem OwnV.at {w : World} {e b g n cap : Nat} {xs : List Value} (h : OwnV w e b g n cap xs) (j : Nat) (v : Value) (hj : xs[j]? = some v) : w.cell? ⟨g, j, none⟩ = some v := by
  obtain ⟨r, h1, h2⟩ := h.row
  have hl : j < xs.length := (List.getElem?_eq_some_iff.1 hj).1
  rw [cell_of_row _ _ _ _ _ _ h1, List.getElem?_toArray, List.getElem?_append_left hl]
  exact hj
theorem OwnV.room {w : World} {e b g n cap : Nat} {xs : List Value} (h : OwnV w e b g n cap xs) (j : Nat) (hj : j < cap) : (w.cell? ⟨g, j, none⟩).isSome = true ∧ w.frozen? ⟨g, j, none⟩ = false := by
  obtain ⟨r, h1, h2⟩ := h.row
  constructor
  · rw [cell_of_row _ _ _ _ _ _ h1, List.getElem?_toArray, List.getElem?_eq_getElem (by rw [List.length_append, h.len]; omega)]; rfl
  · exact frozen_of_row _ _ _ _ _ h1
theorem OwnV.zero (w : World) (e b : Nat) (hb : b ≤ w.heap.size) : OwnV (w.alloc (.cells #[] e)) e b w.heap.size 0 0 [] :=
  ⟨hb, rfl, [], heap_alloc_new w _, rfl⟩
theorem OwnV.of_row {w : World} {e b g : Nat} {xs : List Value} (hb : b ≤ g) (h : w.heap[g]? = some (.cells xs.toArray e (0, 0))) : OwnV w e b g xs.length xs.length xs :=
  ⟨hb, rfl, [], by rw [List.append_nil]; exact h, by simp⟩
theorem OwnV.grown {B e : Nat} {a w w' : World} {g n cap : Nat} {xs : List Value} (h : OwnV w e B g n cap xs) (hb : Below B a w) (hB : B ≤ w.heap.size) (hg : w.grownBy w' (some g)) : Below B a w' :=
  hb.grown hg hB (fun k hk => by cases hk; exact h.ge)
/-- The elements of a literal, to be appended. -/
theorem src_lit {P : Program} {t e : TypeId} (ht : OneCell P t e) (w : World) (g c : Nat) (ys : List Value) (h : w.heap[g]? = some (.cells ys.toArray e (0, 0))) (h1 : ∀ u ∈ ys, u.oneCell' = true) : Src P 1 t (.slice (some ⟨g, 0, none⟩) ys.length c) ys.length ys w :=
  Src.ofSlice w ht.sl ⟨g, 0, none⟩ ys.length c ys (by rw [Nat.mul_one]) (fun j u hu => by
    rw [Addr.add_mid, Nat.zero_add, cell_of_row _ _ _ _ _ _ h, List.getElem?_toArray]; exact hu) h1
theorem OwnV.run_app {P : Program} {t e : TypeId} (ht : OneCell P t e) {w : World} {b g n cap m : Nat} {xs ys : List Value} (h : OwnV w e b g n cap xs) (ty : TypeId) (x : Value) (hs : Src P 1 t x m ys w) (hn : n + m ≤ 1000000000) (hb : b ≤ w.heap.size) :
    ∃ g' cap' w', (Builtin.append_ #[t, t] ty #[.slice (some ⟨g, 0, none⟩) n cap, x]).run P w = .ok (.slice (some ⟨g', 0, none⟩) (n + m) cap') w' ∧ OwnV w' e b g' (n + m) cap' (xs ++ ys) ∧ w.grownBy w' (some g) ∧ (g' = g ∨ g' = w.heap.size) := by
  obtain ⟨i0, z, hi, hz0, hz1, hz2, hzc⟩ := ht.info
  have hm : ys.length = m := by have := hs.newsLen; rw [Nat.mul_one] at this; exact this
  have hs' : Src P i0.size t x m ys w := by rw [hz1]; exact hs
  by_cases hroom : n + m ≤ cap
  · obtain ⟨r, h1, h2⟩ := h.row
    have hr := run_append_room_src w t t ty e i0 ht.sl hi g 0 n cap x m ys hs' hroom (fun j hj => by rw [hm] at hj; rw [hz1, Nat.zero_add, Nat.mul_one]; exact (h.room (n + j) (by omega)).1) (fun j hj => by rw [hm] at hj; rw [hz1, Nat.zero_add, Nat.mul_one]; exact (h.room (n + j) (by omega)).2)
    rw [hz1, Nat.zero_add, Nat.mul_one] at hr
    refine ⟨g, cap, _, hr, ⟨h.ge, by rw [List.length_append, h.len, hm], r.drop m, ?_, by rw [List.length_drop]; omega⟩, grown_of_only (only_setCells g ys n w), .inl rfl⟩
    rw [setCells_heapF g e (0, 0) ys n w _ h1]
    have := over_mid (r.take m) ys xs (r.drop m) (by rw [hm, List.length_take]; omega)
    rw [List.take_append_drop, h.len] at this
    rw [this, List.append_assoc]
  · have hold : (Builtin.firstCells i0.size n (.slice (some ⟨g, 0, none⟩) n cap)).run P w.drew = .ok xs.toArray w.drew :=
      run_firstCells_some w.drew i0.size n ⟨g, 0, none⟩ n cap xs (by rw [hz1, Nat.mul_one, h.len]) (fun j u hu => by
        rw [Addr.add_mid, Nat.zero_add]
        exact h.at j u hu)
    have hr := run_append_grow_src w t t ty e i0 z ht.sl hi hz0 (some ⟨g, 0, none⟩) n cap xs hold x m ys hs' (by omega) (by omega) (growslice_fits (by omega) (by
      have : (n + m) * i0.bytes ≤ 1000000000 * 100 := Nat.mul_le_mul hn hz2
      omega))
    have hge := grownCap_ge w (n + m) cap e
    refine ⟨w.heap.size, _, _, hr, ⟨hb, by rw [List.length_append, h.len, hm], (Builtin.zeroCells z.cells (grownCap w (n + m) cap e - (n + m))).toList, ?_, ?_⟩, ⟨rfl, rfl, rfl, by simp, fun k hk _ => Below.heap_alloc w.drew _ k hk⟩, .inr rfl⟩
    · rw [show w.heap.size = w.drew.heap.size from rfl, heap_alloc_new w.drew _]
      congr 2
      apply Array.ext'
      simp
    · rw [Array.length_toList, size_zeroCells, hzc]; omega
theorem wpList_ownV {P : Program} {t e : TypeId} (ht : OneCell P t e) {ops : Array Oper} {rest : List Oper} {o : Oper} {a : Act} {w : World} {Q : Exit → Act → World → Prop} (hgd : o.guard = none) (s x : Operand)
    (ho : o.op = .call { callee := .builtin .append, args := #[s, x], argTypes := #[t, t] })
    (base g n cap m : Nat) (xs ys : List Value) (xv : Value) (hs : a.eval s = .slice (some ⟨g, 0, none⟩) n cap) (hx : a.eval x = xv) (hown : OwnV w e base g n cap xs)
    (hA : Src P 1 t xv m ys w) (hn : n + m ≤ 1000000000) (hbase : base ≤ w.heap.size)
    (h : ∀ g' cap' w', OwnV w' e base g' (n + m) cap' (xs ++ ys) → w.grownBy w' (some g) → (g' = g ∨ g' = w.heap.size) → wpList P ops Q rest (a.put o.dst (.slice (some ⟨g', 0, none⟩) (n + m) cap')) w') : wpList P ops Q (o :: rest) a w := by
  refine wpList_plain hgd fun _ hK => ?_
  obtain ⟨g', cap', w', hr, h2, h3, h4⟩ := hown.run_app ht o.type xv hA hn hbase
  unfold Oper.wp execOp
  simp only [ho, resolve, invoke, builtin, Sem.run_bind, Sem.run_pure, Result.andThen_ok, List.map_toArray, List.map_cons, List.map_nil, hs, hx, hr]
  exact hK _ _ (h g' cap' w' h2 h3 h4)
theorem step_ownV {P : Program} {t e : TypeId} (ht : OneCell P t e) {ops : Array Oper} {o : Oper} {a : Act} {w : World} {K : Act → World → Prop} {Q : Exit → Act → World → Prop} {E : Prop} (hgd : o.guard = none) (s x : Operand)
    (ho : o.op = .call { callee := .builtin .append, args := #[s, x], argTypes := #[t, t] })
    (base g n cap m : Nat) (xs ys : List Value) (xv : Value) (hs : a.eval s = .slice (some ⟨g, 0, none⟩) n cap) (hx : a.eval x = xv) (hown : OwnV w e base g n cap xs)
    (hA : Src P 1 t xv m ys w) (hn : n + m ≤ 1000000000) (hbase : base ≤ w.heap.size)
    (h : ∀ g' cap' w', OwnV w' e base g' (n + m) cap' (xs ++ ys) → w.grownBy w' (some g) → (g' = g ∨ g' = w.heap.size) → K (a.put o.dst (.slice (some ⟨g', 0, none⟩) (n + m) cap')) w') :
    if Region.wanted o (yielded ops a.tmps) = true then Oper.wp P o a w K Q else E := by
  have hw : Region.wanted o (yielded ops a.tmps) = true := by simp [Region.wanted, hgd]
  rw [if_pos hw]
  obtain ⟨g', cap', w', hr, h2, h3, h4⟩ := hown.run_app ht o.type xv hA hn hbase
  unfold Oper.wp
  simp [execOp, ho, resolve, invoke, builtin, hs, hx, hr, Result.andThen]
  exact h g' cap' w' h2 h3 h4

end Go.Proofs.YtkeghpghhmajiaaDoor
