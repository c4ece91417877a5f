
/- append of bytes that lie anywhere (none, too) onto a row of the call's own. -/
import Derived.Test.YtggbianodoneeaaDoorIn
import Derived.Laws.OwnMore
namespace Go.Proofs.YtggbianodoneeaaDoor
open Go.RowKit
set_option linter.unusedSimpArgs false
set_option linter.unusedVariables false

/-- The bytes l lie behind A. -/
def BytesAt (w : World) (A : Option Addr) (l : List UInt8) : Prop :=
  0 < l.length → ∃ q o, A = some ⟨q, o, none⟩ ∧ q < w.heap.size ∧ ∀ j, j < l.length → w.cell? ⟨q, o + j, none⟩ = some (.int .u8 (l.getD j 0).toNat)
theorem BytesAt.below {w w' : World} {A : Option Addr} {l : List UInt8} (h : BytesAt w A l) {B : Nat} (hb : Below B w w') (hB : w.heap.size ≤ B) : BytesAt w' A l := fun h0 => by
  obtain ⟨q, o, h1, h2, h3⟩ := h h0
  exact ⟨q, o, h1, Nat.lt_of_lt_of_le h2 hb.size, fun j hj => (hb.cell (p := ⟨q, o + j, none⟩) (Nat.lt_of_lt_of_le h2 hB)).trans (h3 j hj)⟩
theorem BytesAt.of_row {w : World} {g : Nat} {l : List UInt8} {t : TypeId} {fr : Nat × Nat} (h : w.heap[g]? = some (.cells (bcs l) t fr)) : BytesAt w (some ⟨g, 0, none⟩) l := fun _ =>
  ⟨g, 0, rfl, (Array.getElem?_eq_some_iff.1 h).1, fun j hj => by rw [cell_of_row _ _ _ _ _ _ h, Nat.zero_add, bcs_at _ _ hj]⟩
theorem BytesAt.one (w : World) (x : UInt8) (v : Int) (hv : v = (x.toNat : Int)) : BytesAt (w.alloc (.cells #[.int .u8 v] 5)) (some ⟨w.heap.size, 0, none⟩) [x] := by
  subst hv
  exact BytesAt.of_row (l := [x]) (heap_alloc_new w _)
theorem BytesAt.mid {w : World} {g o : Nat} {l : List UInt8} {t : TypeId} {fr : Nat × Nat} (h : w.heap[g]? = some (.cells (bcs l) t fr)) (n : Nat) (ho : o + n ≤ l.length) : BytesAt w (some ⟨g, o, none⟩) ((l.drop o).take n) := fun _ =>
  ⟨g, o, rfl, (Array.getElem?_eq_some_iff.1 h).1, fun j hj => by
    have hj2 : j < n := by simp at hj; omega
    rw [cell_of_row _ _ _ _ _ _ h, bcs_at _ _ (by omega)]
    congr 3
    simp [List.getD_eq_getElem?_getD, hj2]⟩
/-- A row of the call's own, read as bytes. -/
theorem BytesAt.own {w : World} {b g n cap : Nat} {l : List UInt8} (h : w.ownsRow b 5 1 (.slice (some ⟨g, 0, none⟩) n cap) n (bvs l)) : BytesAt w (some ⟨g, 0, none⟩) l := fun h0 => by
  have hc := own_cells h
  have hat : ∀ j, j < l.length → w.cell? ⟨g, 0 + j, none⟩ = some (.int .u8 (l.getD j 0).toNat) := fun j hj => by
    have := hc j (.int .u8 (l.getD j 0).toNat) (by simp [bvs, List.getD_eq_getElem?_getD, hj])
    rw [Addr.add_mid] at this
    exact this
  exact ⟨g, 0, rfl, block_lt_of_cell (hat 0 h0), hat⟩
theorem run_append_no (t ty : TypeId) (base e : Nat) (i : TypeInfo) (ht : Tryd.prog.underlying t = some (.slice e)) (hi : Tryd.prog.info? e = some i) {w : World} {g n cap c size : Nat} {xs : List Value} (hown : w.ownsRow base e size (.slice (some ⟨g, 0, none⟩) n cap) n xs) :
    (Builtin.append_ #[t, t] ty #[.slice (some ⟨g, 0, none⟩) n cap, .slice none 0 c]).run Tryd.prog w = .ok (.slice (some ⟨g, 0, none⟩) n cap) w := by
  rcases hown.2 with ⟨h, _⟩ | ⟨g', cap', cur, h, _, _, hnc, _⟩
  · cases h
  · cases h
    simp [Builtin.append_, run_underlying ht, sizeOf, typeInfo, hi, Builtin.lenOf, Builtin.firstCells, hnc, storeCells]
theorem run_append_in (ty : TypeId) {w : World} {base g n cap c : Nat} {xs : List Value} {A : Option Addr} {l : List UInt8} (hown : w.ownsRow base 5 1 (.slice (some ⟨g, 0, none⟩) n cap) n xs) (hA : BytesAt w A l) (hn : n + l.length ≤ 1000000000) (hbase : base ≤ w.heap.size) :
    ∃ g' cap' w', (Builtin.append_ #[31, 31] ty #[.slice (some ⟨g, 0, none⟩) n cap, .slice A l.length c]).run Tryd.prog w = .ok (.slice (some ⟨g', 0, none⟩) (n + l.length) cap') w' ∧
      w'.ownsRow base 5 1 (.slice (some ⟨g', 0, none⟩) (n + l.length) cap') (n + l.length) (xs ++ bvs l) ∧ w.grownBy w' (some g) ∧ (g' = g ∨ g' = w.heap.size) := by
  obtain ⟨i0, hi, hz0, hz1, hz2⟩ := info_parts info5
  by_cases h0 : l.length = 0
  · obtain rfl := List.length_eq_zero_iff.1 h0
    cases A with
    | none => exact ⟨g, cap, w, run_append_no 31 ty base 5 i0 Tryd.underlying31 hi hown, by simpa [bvs] using hown, ⟨rfl, rfl, rfl, Nat.le_refl _, fun _ _ _ => rfl⟩, .inl rfl⟩
    | some a =>
      have hroom : n + 0 ≤ cap := by
        rcases hown.2 with ⟨h, _⟩ | ⟨g', cap', cur, h, _, _, hnc, _⟩
        · cases h
        · cases h; exact hnc
      obtain ⟨w', h1, h2, h3⟩ := run_append_fits w base 31 ty 5 i0 1 Tryd.underlying31 hi hz1 g n cap xs hown a 0 c [] rfl (fun j u h => by simp at h) (fun u h => by cases h) hroom
      exact ⟨g, cap, w', h1, h2, h3, .inl rfl⟩
  · obtain ⟨q, o, rfl, hq, hc⟩ := hA (by omega)
    obtain ⟨g', cap', w', h1, h2, h3, h4, _⟩ := run_append_lies w 31 ty base 5 i0 (.int .u8 0) 1 1 Tryd.underlying31 hi hz0 hz1 hz2 rfl (by decide) _ n xs hown ⟨q, o, none⟩ l.length c (bvs l) (by rw [bvs_len, Nat.mul_one]) (fun j u hu => by
      have hj : j < l.length := by have := (List.getElem?_eq_some_iff.1 hu).1; rw [bvs_len] at this; exact this
      rw [Addr.add_mid, hc j hj, ← hu]; simp [bvs, List.getD_eq_getElem?_getD, hj]) (fun u hu => by
        simp only [bvs, List.mem_map] at hu
        obtain ⟨y, _, rfl⟩ := hu
        rfl) (by omega) (by unfold maxLen; omega) (by omega) hbase _ rfl
    refine ⟨g', cap', w', h1, h2, h3, ?_⟩
    rcases h4 with h4 | h4
    · left; simpa [Value.ownBlock] using h4.symm
    · exact .inr h4
/-- The walk's law: append(own, bytes...), in a plain region. -/
theorem wpList_app {ops : Array Oper} {rest : List Oper} {o : Oper} {a : Act} {w : World} {Q : Exit → Act → World → Prop} (hgd : o.guard = none) (s x : Operand)
    (ho : o.op = .call { callee := .builtin .append, args := #[s, x], argTypes := #[31, 31] })
    (base g n cap c m : Nat) (xs : List Value) (A : Option Addr) (l : List UInt8) (hs : a.eval s = .slice (some ⟨g, 0, none⟩) n cap) (hx : a.eval x = .slice A m c) (hm : m = l.length) (hown : w.ownsRow base 5 1 (.slice (some ⟨g, 0, none⟩) n cap) n xs)
    (hA : BytesAt w A l) (hn : n + m ≤ 1000000000) (hbase : base ≤ w.heap.size)
    (h : ∀ g' cap' w', w'.ownsRow base 5 1 (.slice (some ⟨g', 0, none⟩) (n + m) cap') (n + m) (xs ++ bvs l) → w.grownBy w' (some g) → (g' = g ∨ g' = w.heap.size) → wpList Tryd.prog ops Q rest (a.put o.dst (.slice (some ⟨g', 0, none⟩) (n + m) cap')) w') : wpList Tryd.prog ops Q (o :: rest) a w := by
  subst hm
  refine wpList_plain hgd fun _ hK => ?_
  obtain ⟨g', cap', w', hr, h2, h3, h4⟩ := run_append_in o.type (c := c) hown hA hn hbase
  unfold Oper.wp execOp
  simp only [ho, resolve, invoke, builtin, Sem.run_bind, Sem.run_pure, Result.andThen_ok, List.map_toArray, List.map_cons, List.map_nil, hs, hx, hr]
  exact hK _ _ (h g' cap' w' h2 h3 h4)
theorem own_ge {w : World} {b g n cap : Nat} {xs : List Value} (h : w.ownsRow b 5 1 (.slice (some ⟨g, 0, none⟩) n cap) n xs) : b ≤ g := by
  rcases h.2 with ⟨h0, _⟩ | ⟨g', c', cur, h1, h2, _⟩
  · cases h0
  · cases h1; exact h2
theorem own_below {B : Nat} {a w w' : World} {g n cap : Nat} {xs : List Value} (h : w.ownsRow B 5 1 (.slice (some ⟨g, 0, none⟩) n cap) n xs) (hb : Below B a w) (hB : B ≤ w.heap.size) (hg : w.grownBy w' (some g)) : Below B a w' :=
  hb.grown hg hB (fun k hk => by cases hk; exact own_ge h)
theorem own_zero (w : World) (b : Nat) (hb : b ≤ w.heap.size) : (w.alloc (.cells #[] 5)).ownsRow b 5 1 (.slice (some ⟨w.heap.size, 0, none⟩) 0 0) 0 (bvs []) :=
  ⟨rfl, .inr ⟨w.heap.size, 0, #[], rfl, hb, heap_alloc_new w _, Nat.le_refl _, by unfold maxLen; omega, rfl, rfl⟩⟩

end Go.Proofs.YtggbianodoneeaaDoor
