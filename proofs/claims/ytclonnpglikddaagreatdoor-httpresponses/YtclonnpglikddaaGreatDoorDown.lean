
/- append onto nil or a row of one's own. -/
import Derived.Test.YtclonnpglikddaaGreatDoorTxBase
import Derived.Test.YtclonnpglikddaaGreatDoorHtPlain
namespace Go.Proofs.YtclonnpglikddaaGreatDoor
set_option linter.unusedVariables false
set_option linter.unusedSimpArgs false
open Go.RowKit Go.BigFrame

/-! append onto nil or a row of one's own. -/
theorem run_nilB (tx ty : TypeId) {w : World} {b m : Nat} {l2 : List UInt8} (x : Value) (hs : Src Tryz.prog 1 tx x m (bvs l2) w) (h0 : 0 < m) (hn : m ≤ 1000000000) (hb : b ≤ w.heap.size) :
    ∃ cap w', (Builtin.append_ #[23, tx] ty #[.slice none 0 0, x]).run Tryz.prog w = .ok (.slice (some ⟨w.heap.size, 0, none⟩) m cap) w' ∧ Own w' b w.heap.size m cap l2 ∧ Below w.heap.size w w' := by
  obtain ⟨i0, hi, hz0, hz1, hz2⟩ := info_parts info5
  have hl : l2.length = m := by have := hs.newsLen; rw [bvs_len, Nat.mul_one] at this; exact this
  have hs' : Src Tryz.prog i0.size tx x m (bvs l2) w := by rw [hz1]; exact hs
  have hold : (Builtin.firstCells i0.size 0 (.slice none 0 0)).run Tryz.prog w.drew = .ok (([] : List Value)).toArray w.drew := by simp [Builtin.firstCells]
  have hr := run_append_grow_src w 23 tx ty 5 i0 (.int .u8 0) Tryz.underlying23 hi hz0 none 0 0 [] hold x m (bvs l2) hs' (by omega) (by omega) (growslice_fits (by omega) (by rw [hz2]; omega))
  rw [Nat.zero_add] at hr
  have hge := grownCap_ge w m 0 5
  refine ⟨_, _, hr, ⟨hb, hl, (Builtin.zeroCells (Value.int .u8 0).cells (grownCap w m 0 5 - m)).toList, (0, 0), ?_, ?_, .inl rfl⟩, ((Below.refl _ _).drew).alloc (Nat.le_refl _) _⟩
  · rw [show w.heap.size = w.drew.heap.size from rfl, heap_alloc_new w.drew _]
    refine congrArg (fun a => some (Obj.cells a 5 (0, 0))) (Array.ext' ?_)
    simp
  · rw [Array.length_toList, size_zeroCells]
    have : (Value.int .u8 0).cells.size = 1 := rfl
    rw [this]; omega
theorem run_down (tx ty : TypeId) {w : World} {b m : Nat} {d x : Value} {o l2 : List UInt8} (h : Down w b d o) (hs : Src Tryz.prog 1 tx x m (bvs l2) w) (h0 : 0 < m) (hn : o.length + m ≤ 1000000000) (hb : b ≤ w.heap.size) :
    ∃ d' w', (Builtin.append_ #[23, tx] ty #[d, x]).run Tryz.prog w = .ok d' w' ∧ Down w' b d' (o ++ l2) ∧ Below b w w' := by
  rcases h with ⟨rfl, rfl⟩ | ⟨g, n, cap, rfl, h2⟩
  · obtain ⟨cap, w', h1, h2, h3⟩ := run_nilB tx ty x hs h0 (by simpa using hn) hb
    exact ⟨_, w', h1, .inr ⟨_, _, cap, rfl, h2⟩, h3.mono hb⟩
  · obtain ⟨g', cap', w', h1, h3, h4, _⟩ := h2.run_app tx ty x hs (by rw [← h2.len]; exact hn) hb
    exact ⟨_, w', h1, .inr ⟨g', _, cap', rfl, h3⟩, h2.grown (Below.refl _ _) hb h4⟩
theorem wpList_down {ops : Array Oper} {rest : List Oper} {o : Oper} {a : Act} {w : World} {Q : Exit → Act → World → Prop} (hgd : o.guard = none) (s x : Operand) (tx : TypeId)
    (ho : o.op = .call { callee := .builtin .append, args := #[s, x], argTypes := #[23, tx] })
    (base m : Nat) (d xv : Value) (l l2 : List UInt8) (hs : a.eval s = d) (hx : a.eval x = xv) (hown : Down w base d l)
    (hA : Src Tryz.prog 1 tx xv m (bvs l2) w) (h0 : 0 < m) (hn : l.length + m ≤ 1000000000) (hbase : base ≤ w.heap.size)
    (h : ∀ d' w', Down w' base d' (l ++ l2) → Below base w w' → wpList Tryz.prog ops Q rest (a.put o.dst d') w') : wpList Tryz.prog ops Q (o :: rest) a w := by
  refine wpList_plain hgd fun _ hK => ?_
  obtain ⟨d', w', hr, h2, h3⟩ := run_down tx o.type hown hA h0 hn hbase
  unfold Oper.wp execOp
  simp only [ho, resolve, invoke, builtin, Sem.run_bind, Sem.run_pure, Result.andThen_ok, List.map_toArray, List.map_cons, List.map_nil, hs, hx, hr]
  exact hK _ _ (h d' w' h2 h3)
theorem Down.shape {w : World} {b : Nat} {d : Value} {o : List UInt8} (h : Down w b d o) : ∃ A c, d = .slice A o.length c := by
  rcases h with ⟨rfl, rfl⟩ | ⟨g, n, cap, rfl, h2⟩
  · exact ⟨none, 0, rfl⟩
  · exact ⟨_, cap, by rw [h2.len]⟩
theorem Down.nil (w : World) (b : Nat) : Down w b (.slice none 0 0) [] := .inl ⟨rfl, rfl⟩

theorem src_two (w : World) : Src Tryz.prog 1 23 (.slice (some ⟨w.heap.size, 0, none⟩) 2 2) 2 (bvs [13, 10]) (w.alloc (.cells #[.int .u8 13, .int .u8 10] 5)) := src_bytes (l := [13, 10]) (BytesAt.of_row (heap_alloc_new w _)) 2 (fun _ => .inr ⟨_, rfl⟩)
theorem src_five (w : World) : Src Tryz.prog 1 23 (.slice (some ⟨w.heap.size, 0, none⟩) 5 5) 5 (bvs endC) (w.alloc (.cells #[.int .u8 48, .int .u8 13, .int .u8 10, .int .u8 13, .int .u8 10] 5)) := src_bytes (l := [48, 13, 10, 13, 10]) (BytesAt.of_row (heap_alloc_new w _)) 5 (fun _ => .inr ⟨_, rfl⟩)
theorem src_str (w : World) (l : List UInt8) (n : Nat) (h : l.length = n) : Src Tryz.prog 1 9 (.string (asS l)) n (bvs l) w := by
  have := src_text w (asS l)
  rw [asS_size, asS_data, h] at this
  exact this
theorem Own.down {w : World} {b g n cap : Nat} {l : List UInt8} (h : Own w b g n cap l) : Down w b (.slice (some ⟨g, 0, none⟩) n cap) l := .inr ⟨g, n, cap, rfl, h⟩
end Go.Proofs.YtclonnpglikddaaGreatDoor
