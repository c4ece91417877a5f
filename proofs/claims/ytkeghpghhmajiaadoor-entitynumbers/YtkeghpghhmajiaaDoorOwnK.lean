
/- A row of the call's own, of elements of k cells (structs): append onto it. -/
import Derived.Test.YtkeghpghhmajiaaDoorBase
namespace Go.Proofs.YtkeghpghhmajiaaDoor
open Go.RowKit
set_option linter.unusedSimpArgs false
set_option linter.unusedVariables false

/-- The row g of the call's own (b: what was there before) holds n elements of k cells, xs, and room for cap. -/
structure OwnK (w : World) (k : Nat) (e : TypeId) (b g n cap : Nat) (xs : List Value) : Prop where
  ge : b ≤ g
  len : xs.length = n * k
  row : ∃ rest : List Value, w.heap[g]? = some (.cells (xs ++ rest).toArray e (0, 0)) ∧ rest.length = (cap - n) * k ∧ n ≤ cap
/-- What is asked of the element's type. -/
structure KCells (P : Program) (k : Nat) (t e : TypeId) : Prop where
  sl : P.underlying t = some (.slice e)
  info : ∃ i z, P.info? e = some i ∧ i.zero = some z ∧ i.size = k ∧ i.bytes ≤ 100 ∧ z.cells.size = k
theorem OwnK.le {w : World} {k e b g n cap : Nat} {xs : List Value} (h : OwnK w k e b g n cap xs) : n ≤ cap := by
  obtain ⟨r, h1, h2, h3⟩ := h.row; exact h3
theorem OwnK.lt {w : World} {k e b g n cap : Nat} {xs : List Value} (h : OwnK w k e b g n cap xs) : g < w.heap.size := by
  obtain ⟨r, h1, h2⟩ := h.row; exact (Array.getElem?_eq_some_iff.1 h1).1
theorem OwnK.kept {w w' : World} {k e b g n cap : Nat} {xs : List Value} (h : OwnK w k e b g n cap xs) (hk : w'.heap[g]? = w.heap[g]?) : OwnK w' k e b g n cap xs := by
  obtain ⟨r, h1, h2⟩ := h.row
  exact ⟨h.ge, h.len, r, hk.trans h1, h2⟩
theorem OwnK.below {w w' : World} {k e b g n cap B : Nat} {xs : List Value} (h : OwnK w k e b g n cap xs) (hb : Below B w w') (hB : w.heap.size ≤ B) : OwnK w' k e b g n cap xs := h.kept (hb.block g (Nat.lt_of_lt_of_le h.lt hB))
theorem OwnK.alloc {w : World} {k e b g n cap : Nat} {xs : List Value} (h : OwnK w k e b g n cap xs) (o : Obj) : OwnK (w.alloc o) k e b g n cap xs := h.kept (Below.heap_alloc w o g h.lt)
theorem OwnK.at {w : World} {k e b g n cap : Nat} {xs : List Value} (h : OwnK w k e b g n cap xs) (j : Nat) (v : Value) (hj : xs[j]? = some v) : w.cell? ⟨g, j, none⟩ = some v := by
  obtain ⟨r, h1, h2⟩ := h.row
  have hl : j < xs.length := (List.getElem?_eq_some_iff.1 hj).1
  rw [cell_of_row _ _ _ _ _ _ h1, List.getElem?_toArray, List.getElem?_append_left hl]
  exact hj
theorem OwnK.room {w : World} {k e b g n cap : Nat} {xs : List Value} (h : OwnK w k e b g n cap xs) (j : Nat) (hj : j < cap * k) : (w.cell? ⟨g, j, none⟩).isSome = true ∧ w.frozen? ⟨g, j, none⟩ = false := by
  obtain ⟨r, h1, h2, h3⟩ := h.row
  constructor
  · have e : n * k + (cap - n) * k = cap * k := by rw [← Nat.add_mul]; congr 1; omega
    rw [cell_of_row _ _ _ _ _ _ h1, List.getElem?_toArray, List.getElem?_eq_getElem (by rw [List.length_append, h.len, h2]; omega)]; rfl
  · exact frozen_of_row _ _ _ _ _ h1
theorem OwnK.zero (w : World) (k e b : Nat) (hb : b ≤ w.heap.size) : OwnK (w.alloc (.cells #[] e)) k e b w.heap.size 0 0 [] :=
  ⟨hb, by simp, [], heap_alloc_new w _, by simp, Nat.le_refl _⟩
theorem OwnK.of_row {w : World} {k e b g n : Nat} {xs : List Value} (hb : b ≤ g) (hl : xs.length = n * k) (h : w.heap[g]? = some (.cells xs.toArray e (0, 0))) : OwnK w k e b g n n xs :=
  ⟨hb, hl, [], by rw [List.append_nil]; exact h, by simp, Nat.le_refl _⟩
theorem OwnK.grown {B k e : Nat} {a w w' : World} {g n cap : Nat} {xs : List Value} (h : OwnK w k e B g n cap xs) (hb : Below B a w) (hB : B ≤ w.heap.size) (hg : w.grownBy w' (some g)) : Below B a w' :=
  hb.grown hg hB (fun k hk => by cases hk; exact h.ge)
/-- The elements of a literal, to be appended. -/
theorem src_litK {P : Program} {k : Nat} {t e : TypeId} (ht : KCells P k t e) (w : World) (g n c : Nat) (ys : List Value) (hl : ys.length = n * k) (h : w.heap[g]? = some (.cells ys.toArray e (0, 0))) (h1 : ∀ u ∈ ys, u.oneCell' = true) : Src P k t (.slice (some ⟨g, 0, none⟩) n c) n ys w :=
  Src.ofSlice w ht.sl ⟨g, 0, none⟩ n c ys hl (fun j u hu => by
    rw [Addr.add_mid, Nat.zero_add, cell_of_row _ _ _ _ _ _ h, List.getElem?_toArray]; exact hu) h1
theorem OwnK.run_app {P : Program} {k : Nat} {t e : TypeId} (ht : KCells P k t e) {w : World} {b g n cap m : Nat} {xs ys : List Value} (h : OwnK w k e b g n cap xs) (ty : TypeId) (x : Value) (hs : Src P k t x m ys w) (hn : n + m ≤ 1000000000) (hb : b ≤ w.heap.size) :
    ∃ g' cap' w', (Builtin.append_ #[t, t] ty #[.slice (some ⟨g, 0, none⟩) n cap, x]).run P w = .ok (.slice (some ⟨g', 0, none⟩) (n + m) cap') w' ∧ OwnK w' k e b g' (n + m) cap' (xs ++ ys) ∧ w.grownBy w' (some g) ∧ (g' = g ∨ g' = w.heap.size) := by
  obtain ⟨i0, z, hi, hz0, hz1, hz2, hzc⟩ := ht.info
  have hm : ys.length = m * k := hs.newsLen
  have hs' : Src P i0.size t x m ys w := by rw [hz1]; exact hs
  have e1 : n * k + m * k = (n + m) * k := by rw [Nat.add_mul]
  by_cases hroom : n + m ≤ cap
  · obtain ⟨r, h1, h2, h3⟩ := h.row
    have e2 : (n + m) * k ≤ cap * k := Nat.mul_le_mul_right k hroom
    have hr := run_append_room_src w t t ty e i0 ht.sl hi g 0 n cap x m ys hs' hroom (fun j hj => by rw [hm] at hj; rw [hz1, Nat.zero_add]; exact (h.room (n * k + j) (by omega)).1) (fun j hj => by rw [hm] at hj; rw [hz1, Nat.zero_add]; exact (h.room (n * k + j) (by omega)).2)
    rw [hz1, Nat.zero_add] at hr
    have e3 : (cap - n) * k = m * k + (cap - (n + m)) * k := by rw [← Nat.add_mul]; congr 1; omega
    refine ⟨g, cap, _, hr, ⟨h.ge, by rw [List.length_append, h.len, hm, e1], r.drop (m * k), ?_, by rw [List.length_drop, h2, e3]; omega, hroom⟩, grown_of_only (only_setCells g ys (n * k) w), .inl rfl⟩
    rw [setCells_heapF g e (0, 0) ys (n * k) w _ h1]
    have := over_mid (r.take (m * k)) ys xs (r.drop (m * k)) (by rw [hm, List.length_take, h2, e3]; omega)
    rw [List.take_append_drop, h.len] at this
    rw [this, List.append_assoc]
  · have hold : (Builtin.firstCells i0.size n (.slice (some ⟨g, 0, none⟩) n cap)).run P w.drew = .ok xs.toArray w.drew :=
      run_firstCells_some w.drew i0.size n ⟨g, 0, none⟩ n cap xs (by rw [hz1, h.len]) (fun j u hu => by
        rw [Addr.add_mid, Nat.zero_add]
        exact h.at j u hu)
    have hr := run_append_grow_src w t t ty e i0 z ht.sl hi hz0 (some ⟨g, 0, none⟩) n cap xs hold x m ys hs' (by omega) (by omega) (growslice_fits (by omega) (by
      have : (n + m) * i0.bytes ≤ 1000000000 * 100 := Nat.mul_le_mul hn hz2
      omega))
    have hge := grownCap_ge w (n + m) cap e
    refine ⟨w.heap.size, _, _, hr, ⟨hb, by rw [List.length_append, h.len, hm, e1], (Builtin.zeroCells z.cells (grownCap w (n + m) cap e - (n + m))).toList, ?_, ?_, hge⟩, ⟨rfl, rfl, rfl, by simp, fun k hk _ => Below.heap_alloc w.drew _ k hk⟩, .inr rfl⟩
    · rw [show w.heap.size = w.drew.heap.size from rfl, heap_alloc_new w.drew _]
      congr 2
      apply Array.ext'
      simp
    · rw [Array.length_toList, size_zeroCells, hzc]
theorem wpList_ownK {P : Program} {k : Nat} {t e : TypeId} (ht : KCells P k t e) {ops : Array Oper} {rest : List Oper} {o : Oper} {a : Act} {w : World} {Q : Exit → Act → World → Prop} (hgd : o.guard = none) (s x : Operand)
    (ho : o.op = .call { callee := .builtin .append, args := #[s, x], argTypes := #[t, t] })
    (base g n cap m : Nat) (xs ys : List Value) (xv : Value) (hs : a.eval s = .slice (some ⟨g, 0, none⟩) n cap) (hx : a.eval x = xv) (hown : OwnK w k e base g n cap xs)
    (hA : Src P k t xv m ys w) (hn : n + m ≤ 1000000000) (hbase : base ≤ w.heap.size)
    (h : ∀ g' cap' w', OwnK w' k e base g' (n + m) cap' (xs ++ ys) → w.grownBy w' (some g) → (g' = g ∨ g' = w.heap.size) → wpList P ops Q rest (a.put o.dst (.slice (some ⟨g', 0, none⟩) (n + m) cap')) w') : wpList P ops Q (o :: rest) a w := by
  refine wpList_plain hgd fun _ hK => ?_
  obtain ⟨g', cap', w', hr, h2, h3, h4⟩ := hown.run_app ht o.type xv hA hn hbase
  unfold Oper.wp execOp
  simp only [ho, resolve, invoke, builtin, Sem.run_bind, Sem.run_pure, Result.andThen_ok, List.map_toArray, List.map_cons, List.map_nil, hs, hx, hr]
  exact hK _ _ (h g' cap' w' h2 h3 h4)
theorem step_ownK {P : Program} {k : Nat} {t e : TypeId} (ht : KCells P k t e) {ops : Array Oper} {o : Oper} {a : Act} {w : World} {K : Act → World → Prop} {Q : Exit → Act → World → Prop} {E : Prop} (hgd : o.guard = none) (s x : Operand)
    (ho : o.op = .call { callee := .builtin .append, args := #[s, x], argTypes := #[t, t] })
    (base g n cap m : Nat) (xs ys : List Value) (xv : Value) (hs : a.eval s = .slice (some ⟨g, 0, none⟩) n cap) (hx : a.eval x = xv) (hown : OwnK w k e base g n cap xs)
    (hA : Src P k t xv m ys w) (hn : n + m ≤ 1000000000) (hbase : base ≤ w.heap.size)
    (h : ∀ g' cap' w', OwnK w' k e base g' (n + m) cap' (xs ++ ys) → w.grownBy w' (some g) → (g' = g ∨ g' = w.heap.size) → K (a.put o.dst (.slice (some ⟨g', 0, none⟩) (n + m) cap')) w') :
    if Region.wanted o (yielded ops a.tmps) = true then Oper.wp P o a w K Q else E := by
  have hw : Region.wanted o (yielded ops a.tmps) = true := by simp [Region.wanted, hgd]
  rw [if_pos hw]
  obtain ⟨g', cap', w', hr, h2, h3, h4⟩ := hown.run_app ht o.type xv hA hn hbase
  unfold Oper.wp
  simp [execOp, ho, resolve, invoke, builtin, hs, hx, hr, Result.andThen]
  exact h g' cap' w' h2 h3 h4
end Go.Proofs.YtkeghpghhmajiaaDoor
