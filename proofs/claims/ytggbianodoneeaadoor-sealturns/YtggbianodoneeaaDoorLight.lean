
/- A copy of bytes (append to no bytes); what is sealed, in a block; the fourth layer's light. -/
import Derived.Test.YtggbianodoneeaaDoorRefSeaA
import Derived.Test.YtggbianodoneeaaDoorInFour
namespace Go.Proofs.YtggbianodoneeaaDoor
open Go.RowKit
set_option linter.unusedSimpArgs false
set_option linter.unusedVariables false

/-- append([]byte{}, bytes or a text...): whoever else holds that empty row. -/
theorem run_fresh (tx ty : TypeId) {w : World} {g m : Nat} {x : Value} {l : List UInt8} (hs : Src Tryd.prog 1 tx x m (bvs l) w) (hm : m ≤ 1000000000) :
    ∃ A c w', (Builtin.append_ #[31, tx] ty #[.slice (some ⟨g, 0, none⟩) 0 0, x]).run Tryd.prog w = .ok (.slice (some A) m c) w' ∧ BytesAt w' (some A) l ∧ m ≤ c ∧ Below w.heap.size w w' := by
  obtain ⟨i0, hi, hz0, hz1, hz2⟩ := info_parts info5
  have hl : l.length = m := by have := hs.newsLen; rw [bvs_len, Nat.mul_one] at this; exact this
  have hs' : Src Tryd.prog i0.size tx x m (bvs l) w := by rw [hz1]; exact hs
  by_cases h0 : m = 0
  · subst h0
    obtain rfl := List.length_eq_zero_iff.1 hl
    have hr := run_append_room_src w 31 tx ty 5 i0 Tryd.underlying31 hi g 0 0 0 x 0 (bvs []) hs' (Nat.le_refl _) (fun j hj => absurd hj (by simp [bvs])) (fun j hj => absurd hj (by simp [bvs]))
    exact ⟨_, _, _, hr, fun h => absurd h (by simp), Nat.le_refl _, Below.refl _ _⟩
  · have hold : (Builtin.firstCells i0.size 0 (.slice (some ⟨g, 0, none⟩) 0 0)).run Tryd.prog w.drew = .ok (([] : List Value)).toArray w.drew :=
      run_firstCells_some w.drew i0.size 0 ⟨g, 0, none⟩ 0 0 [] (by simp) (fun j u hu => by simp at hu)
    have hr := run_append_grow_src w 31 tx ty 5 i0 (.int .u8 0) Tryd.underlying31 hi hz0 (some ⟨g, 0, none⟩) 0 0 [] hold x m (bvs l) hs' (by omega) (by omega) (growslice_fits (by omega) (by rw [hz2]; omega))
    rw [Nat.zero_add] at hr
    refine ⟨_, _, _, hr, fun _ => ⟨w.heap.size, 0, rfl, by simp, fun j hj => ?_⟩, grownCap_ge _ _ _ _, ((Below.refl _ _).drew).alloc (Nat.le_refl _) _⟩
    rw [Nat.zero_add, cell_of_row _ w.heap.size _ _ _ _ (show (w.drew.alloc _).heap[w.drew.heap.size]? = _ from heap_alloc_new w.drew _)]
    simp [bvs, List.getD_eq_getElem?_getD, hj, Array.getElem?_append]
theorem step_fresh {ops : Array Oper} {o : Oper} {a : Act} {w : World} {K : Act → World → Prop} {Q : Exit → Act → World → Prop} {E : Prop} (hgd : o.guard = none) (s x : Operand) (tx : TypeId)
    (ho : o.op = .call { callee := .builtin .append, args := #[s, x], argTypes := #[31, tx] })
    (g m : Nat) (l : List UInt8) (xv : Value) (hs : a.eval s = .slice (some ⟨g, 0, none⟩) 0 0) (hx : a.eval x = xv) (hA : Src Tryd.prog 1 tx xv m (bvs l) w) (hn : m ≤ 1000000000)
    (h : ∀ A c w', BytesAt w' (some A) l → m ≤ c → Below w.heap.size w w' → K (a.put o.dst (.slice (some A) m c)) w') :
    if Region.wanted o (yielded ops a.tmps) = true then Oper.wp Tryd.prog o a w K Q else E := by
  have hw : Region.wanted o (yielded ops a.tmps) = true := by simp [Region.wanted, hgd]
  rw [if_pos hw]
  obtain ⟨A, c, w', hr, h2, h3, h4⟩ := run_fresh tx o.type (g := g) hA hn
  unfold Oper.wp
  simp [execOp, ho, resolve, invoke, builtin, hs, hx, hr, Result.andThen]
  exact h A c w' h2 h3 h4
theorem wpList_fresh {ops : Array Oper} {rest : List Oper} {o : Oper} {a : Act} {w : World} {Q : Exit → Act → World → Prop} (hgd : o.guard = none) (s x : Operand) (tx : TypeId)
    (ho : o.op = .call { callee := .builtin .append, args := #[s, x], argTypes := #[31, tx] })
    (g m : Nat) (l : List UInt8) (xv : Value) (hs : a.eval s = .slice (some ⟨g, 0, none⟩) 0 0) (hx : a.eval x = xv) (hA : Src Tryd.prog 1 tx xv m (bvs l) w) (hn : m ≤ 1000000000)
    (h : ∀ A c w', BytesAt w' (some A) l → m ≤ c → Below w.heap.size w w' → wpList Tryd.prog ops Q rest (a.put o.dst (.slice (some A) m c)) w') : wpList Tryd.prog ops Q (o :: rest) a w := by
  refine wpList_plain hgd fun _ hK => ?_
  obtain ⟨A, c, w', hr, h2, h3, h4⟩ := run_fresh tx o.type (g := g) hA hn
  unfold Oper.wp execOp
  simp only [ho, resolve, invoke, builtin, Sem.run_bind, Sem.run_pure, Result.andThen_ok, List.map_toArray, List.map_cons, List.map_nil, hs, hx, hr]
  exact hK _ _ (h A c w' h2 h3 h4)

theorem sizeIn : (Tryd.prog.info? 40).map (·.size) = some 18 := by kernel_rfl
theorem sizeIn' (nonce : List UInt8) (hn : nonce.length = 16) (s : ByteArray) (v : Value) : (Tryd.prog.info? 40).map (·.size) = some (inC nonce s v).size := by rw [sizeIn, inC_size nonce hn]
theorem in_label {w : World} {g : Nat} {nonce : List UInt8} {s : ByteArray} {v : Value} (hn : nonce.length = 16) (h : w.heap[g]? = some (.cells (inC nonce s v) 40 (0, 0))) : w.cell? ⟨g, 16, none⟩ = some (.string s) := by
  rw [cell_of_row _ _ _ _ _ _ h]
  unfold inC
  rw [List.getElem?_toArray, List.getElem?_append_right (by rw [bvs_len]; omega), bvs_len, hn]
  rfl
theorem in_bytes {w : World} {g : Nat} {nonce : List UInt8} {s : ByteArray} {v : Value} (hn : nonce.length = 16) (h : w.heap[g]? = some (.cells (inC nonce s v) 40 (0, 0))) : w.cell? ⟨g, 17, none⟩ = some v := by
  rw [cell_of_row _ _ _ _ _ _ h]
  unfold inC
  rw [List.getElem?_toArray, List.getElem?_append_right (by rw [bvs_len]; omega), bvs_len, hn]
  rfl
theorem load38_eq (x : Value) : Instr.loadAt 38 x = loadI 38 x := rfl
theorem in_nonce {w : World} {g : Nat} {nonce : List UInt8} {s : ByteArray} {v : Value} (hn : nonce.length = 16) (h : w.heap[g]? = some (.cells (inC nonce s v) 40 (0, 0))) : (loadI 38 (.pointer (some ⟨g, 0, none⟩))).run Tryd.prog w = .ok (.agg (bcs nonce)) w :=
  run_loadAt_mid w g 0 38 (bvs nonce) _ (range_row (a := []) (c := [.string s, v]) (t := 40) (fr := (0, 0)) (by rw [List.nil_append]; exact h) 0 rfl) Tryd.underlying38 rfl (by rw [size44, bvs_len, hn])

theorem in_range {w : World} {g : Nat} {nonce : List UInt8} {s : ByteArray} {v : Value} (h : w.heap[g]? = some (.cells (inC nonce s v) 40 (0, 0))) : w.rangeAt g 0 (bvs nonce) :=
  range_row (a := []) (c := [.string s, v]) (t := 40) (fr := (0, 0)) (by rw [List.nil_append]; exact h) 0 rfl

set_option maxHeartbeats 1000000 in
theorem light_any (A1 : Option Addr) (m1 c1 : Nat) (nonce : List UInt8) (hn : nonce.length = 16) (s : ByteArray) (A2 : Option Addr) (m2 c2 : Nat) (w : World) (t : Bool) (ht : t = decide (m1 ≤ 500 ∧ s.size ≤ 600 ∧ m2 ≤ 6000)) :
    Calls Tryd.prog 16 #[.slice A1 m1 c1, .agg (inC nonce s (.slice A2 m2 c2))] w fun e w' => e = .returned (.bool t) ∧ Below w.heap.size w w' := by
  have HB0 : Hid (∀ o1, Below w.heap.size w (w.alloc o1)) := fun o1 => (Below.refl _ _).alloc (Nat.le_refl _) o1
  have c16 := in_label hn (heap_alloc_new w (.cells (inC nonce s (.slice A2 m2 c2)) 40))
  have c17 := in_bytes hn (heap_alloc_new w (.cells (inC nonce s (.slice A2 m2 c2)) 40))
  generalize inC nonce s (.slice A2 m2 c2) = C at c16 c17 ⊢
  by_cases h1 : m1 ≤ 500
  · by_cases h2 : s.size ≤ 600
    · by_cases h3 : m2 ≤ 6000
      · obtain rfl : t = true := by rw [ht]; simp [h1, h2, h3]
        clear ht
        have i1 : (m1 : Int) ≤ 500 := by omega
        have i2 : (s.size : Int) ≤ 600 := by omega
        have i3 : (m2 : Int) ≤ 6000 := by omega
        go_enter Tryd.func16, Tryd.ntmps16
        go_wp2_with fail
        go_ret
        exact ⟨by first | rfl | simp, HB0.out _⟩
      · obtain rfl : t = false := by rw [ht]; simp [h3]
        clear ht
        have i1 : (m1 : Int) ≤ 500 := by omega
        have i2 : (s.size : Int) ≤ 600 := by omega
        have i3 : ¬ (m2 : Int) ≤ 6000 := by omega
        go_enter Tryd.func16, Tryd.ntmps16
        go_wp2_with fail
        go_ret
        exact ⟨by first | rfl | simp, HB0.out _⟩
    · obtain rfl : t = false := by rw [ht]; simp [h2]
      clear ht
      have i1 : (m1 : Int) ≤ 500 := by omega
      have i2 : ¬ (s.size : Int) ≤ 600 := by omega
      go_enter Tryd.func16, Tryd.ntmps16
      go_wp2_with fail
      go_ret
      exact ⟨by first | rfl | simp, HB0.out _⟩
  · obtain rfl : t = false := by rw [ht]; simp [h1]
    clear ht
    have i1 : ¬ (m1 : Int) ≤ 500 := by omega
    go_enter Tryd.func16, Tryd.ntmps16
    go_wp2_with fail
    go_ret
    exact ⟨by first | rfl | simp, HB0.out _⟩

end Go.Proofs.YtggbianodoneeaaDoor
