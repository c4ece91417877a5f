
/- A size written: what strconv.AppendInt does at base sixteen, and appendSize of package chunk. -/
import Derived.Test.YtlgfepaicgnkpaaDoorTxBase
import Derived.Test.YtlgfepaicgnkpaaDoorChBook
import Derived.Laws.BitsLemmas
namespace Go.Proofs.YtlgfepaicgnkpaaDoor
set_option linter.unusedVariables false
set_option linter.unusedSimpArgs false
open Go.RowKit Go.BigFrame

/-! append onto nil or a row of one's own. -/
theorem run_nilB (tx ty : TypeId) {w : World} {b m : Nat} {l2 : List UInt8} (x : Value) (hs : Src Tryd.prog 1 tx x m (bvs l2) w) (h0 : 0 < m) (hn : m ≤ 1000000000) (hb : b ≤ w.heap.size) :
    ∃ cap w', (Builtin.append_ #[23, tx] ty #[.slice none 0 0, x]).run Tryd.prog w = .ok (.slice (some ⟨w.heap.size, 0, none⟩) m cap) w' ∧ Own w' b w.heap.size m cap l2 ∧ Below w.heap.size w w' := by
  obtain ⟨i0, hi, hz0, hz1, hz2⟩ := info_parts info5
  have hl : l2.length = m := by have := hs.newsLen; rw [bvs_len, Nat.mul_one] at this; exact this
  have hs' : Src Tryd.prog i0.size tx x m (bvs l2) w := by rw [hz1]; exact hs
  have hold : (Builtin.firstCells i0.size 0 (.slice none 0 0)).run Tryd.prog w.drew = .ok (([] : List Value)).toArray w.drew := by simp [Builtin.firstCells]
  have hr := run_append_grow_src w 23 tx ty 5 i0 (.int .u8 0) Tryd.underlying23 hi hz0 none 0 0 [] hold x m (bvs l2) hs' (by omega) (by omega) (growslice_fits (by omega) (by rw [hz2]; omega))
  rw [Nat.zero_add] at hr
  have hge := grownCap_ge w m 0 5
  refine ⟨_, _, hr, ⟨hb, hl, (Builtin.zeroCells (Value.int .u8 0).cells (grownCap w m 0 5 - m)).toList, (0, 0), ?_, ?_, .inl rfl⟩, ((Below.refl _ _).drew).alloc (Nat.le_refl _) _⟩
  · rw [show w.heap.size = w.drew.heap.size from rfl, heap_alloc_new w.drew _]
    refine congrArg (fun a => some (Obj.cells a 5 (0, 0))) (Array.ext' ?_)
    simp
  · rw [Array.length_toList, size_zeroCells]
    have : (Value.int .u8 0).cells.size = 1 := rfl
    rw [this]; omega
theorem run_down (tx ty : TypeId) {w : World} {b m : Nat} {d x : Value} {o l2 : List UInt8} (h : Down w b d o) (hs : Src Tryd.prog 1 tx x m (bvs l2) w) (h0 : 0 < m) (hn : o.length + m ≤ 1000000000) (hb : b ≤ w.heap.size) :
    ∃ d' w', (Builtin.append_ #[23, tx] ty #[d, x]).run Tryd.prog w = .ok d' w' ∧ Down w' b d' (o ++ l2) ∧ Below b w w' := by
  rcases h with ⟨rfl, rfl⟩ | ⟨g, n, cap, rfl, h2⟩
  · obtain ⟨cap, w', h1, h2, h3⟩ := run_nilB tx ty x hs h0 (by simpa using hn) hb
    exact ⟨_, w', h1, .inr ⟨_, _, cap, rfl, h2⟩, h3.mono hb⟩
  · obtain ⟨g', cap', w', h1, h3, h4, _⟩ := h2.run_app tx ty x hs (by rw [← h2.len]; exact hn) hb
    exact ⟨_, w', h1, .inr ⟨g', _, cap', rfl, h3⟩, h2.grown (Below.refl _ _) hb h4⟩
theorem wpList_down {ops : Array Oper} {rest : List Oper} {o : Oper} {a : Act} {w : World} {Q : Exit → Act → World → Prop} (hgd : o.guard = none) (s x : Operand) (tx : TypeId)
    (ho : o.op = .call { callee := .builtin .append, args := #[s, x], argTypes := #[23, tx] })
    (base m : Nat) (d xv : Value) (l l2 : List UInt8) (hs : a.eval s = d) (hx : a.eval x = xv) (hown : Down w base d l)
    (hA : Src Tryd.prog 1 tx xv m (bvs l2) w) (h0 : 0 < m) (hn : l.length + m ≤ 1000000000) (hbase : base ≤ w.heap.size)
    (h : ∀ d' w', Down w' base d' (l ++ l2) → Below base w w' → wpList Tryd.prog ops Q rest (a.put o.dst d') w') : wpList Tryd.prog ops Q (o :: rest) a w := by
  refine wpList_plain hgd fun _ hK => ?_
  obtain ⟨d', w', hr, h2, h3⟩ := run_down tx o.type hown hA h0 hn hbase
  unfold Oper.wp execOp
  simp only [ho, resolve, invoke, builtin, Sem.run_bind, Sem.run_pure, Result.andThen_ok, List.map_toArray, List.map_cons, List.map_nil, hs, hx, hr]
  exact hK _ _ (h d' w' h2 h3)
theorem Down.shape {w : World} {b : Nat} {d : Value} {o : List UInt8} (h : Down w b d o) : ∃ A c, d = .slice A o.length c := by
  rcases h with ⟨rfl, rfl⟩ | ⟨g, n, cap, rfl, h2⟩
  · exact ⟨none, 0, rfl⟩
  · exact ⟨_, cap, by rw [h2.len]⟩
theorem Down.nil (w : World) (b : Nat) : Down w b (.slice none 0 0) [] := .inl ⟨rfl, rfl⟩

/-! Digits. -/
/-- The place of the bit of sixteen in the library's table. -/
def FourC (w : World) : Prop := w.cell? ⟨7, 15, none⟩ = some (.int .u8 4)
theorem FourC.lt {w : World} (h : FourC w) : 7 < w.heap.size := block_lt_of_cell h
theorem FourC.below {w w' : World} (h : FourC w) (hb : Below w.heap.size w w') : FourC w' := by
  have := h.lt
  unfold FourC
  rw [hb.cell (p := ⟨7, 15, none⟩) (by simp; omega)]; exact h
theorem tz64 (w : World) (hT : w.cell? ⟨7, 15, none⟩ = some (.int .u8 4)) : Calls Tryd.prog 108 #[.int .u64 16] w fun e w' => e = .returned (.int .i64 4) ∧ w' = w := by
  have h1 : bits .and .u64 16 (IntKind.u64.wrap (-16)) = 16 := by decide
  have h2 : IntKind.u64.wrap 4573923408821661840 = 4573923408821661840 := by decide
  go_enter Tryd.func108, Tryd.ntmps108
  go_wp2_with fail
  go_ret
  exact ⟨rfl, rfl⟩
theorem tz (w : World) (hT : w.cell? ⟨7, 15, none⟩ = some (.int .u8 4)) : Calls Tryd.prog 102 #[.int .u64 16] w fun e w' => e = .returned (.int .i64 4) ∧ w' = w := by
  have c := tz64 w hT
  go_enter Tryd.func102, Tryd.ntmps102
  go_wp2_with fail
  refine c.mono ?_
  rintro e W1 ⟨rfl, rfl⟩
  go_wp2_with fail
  go_ret
  exact ⟨rfl, rfl⟩
theorem ipow (w : World) : Calls Tryd.prog 101 #[.int .i64 16] w fun e w' => e = .returned (.bool true) ∧ w' = w := by
  have h1 : bits .and .i64 16 15 = 0 := by decide
  go_enter Tryd.func101, Tryd.ntmps101
  go_wp2_with fail
  go_ret
  exact ⟨rfl, rfl⟩
theorem bcs_set (L : List UInt8) (j : Nat) (x : UInt8) : (bcs L).setIfInBounds j (.int .u8 x.toNat) = bcs (L.set j x) := by
  unfold bcs
  rw [List.setIfInBounds_toArray, List.map_set]
theorem run_store_byte (w : World) (b o : Nat) (z : Int) (ht : w.there b o 1) : (storeVar 5 ⟨b, o, none⟩ (.int .u8 z)).run Tryd.prog w = .ok () (w.setCells b o [.int .u8 z]) := by
  have := run_storeCells_cells (P := Tryd.prog) b o [Value.int .u8 z] 0 w (fun j hj => by simpa using (ht j (by simpa using hj)).1) (fun j hj => by simpa using (ht j (by simpa using hj)).2) (fun v hv => by simp at hv; subst hv; rfl)
  obtain ⟨i, hi, _, hs, _⟩ := info_parts info5
  simp only [Nat.add_zero] at this
  simp [storeVar, sizeOf, typeInfo, hi, Value.cells, hs, this]
/-- A byte goes into a row of bytes. -/
theorem store_byteR {ops : Array Oper} {rest : List Oper} {op : Oper} {a : Act} {w : World} {Q : Exit → Act → World → Prop} (t : TypeId) (hgd : op.guard = none) (x y : Operand) (ho : op.op = .store 5 x y)
    (b o j : Nat) (B : List UInt8) (hj : j < B.length) (y8 : UInt8) (z : Int) (hx : a.eval x = .pointer (some ⟨b, o, none⟩)) (hoj : o = j) (hy : a.eval y = .int .u8 z) (hz : z = (y8.toNat : Int))
    (hrow : w.heap[b]? = some (.cells (bcs B) t (0, 0)))
    (h : ∀ W, Only b w W → W.heap[b]? = some (.cells (bcs (B.set j y8)) t (0, 0)) → wpList Tryd.prog ops Q rest (a.put op.dst undef) W) : wpList Tryd.prog ops Q (op :: rest) a w :=
  wpList_plain hgd fun _ hK => by
    have ht := there_row hrow o 1 (by rw [bcs_size]; omega)
    unfold Oper.wp execOp
    simp only [ho, hx, hy, Instr.storeAt, Instr.sureAddr, Sem.run_bind, Sem.run_pure, Result.andThen_ok, run_store_byte w b o z ht]
    refine hK _ _ (h _ (only_setCells b _ o w) ?_)
    rw [setCells_heap b t _ o w _ hrow]
    simp only [over]
    rw [hz, hoj, bcs_set]
def dg36 : ByteArray := ⟨#[48, 49, 50, 51, 52, 53, 54, 55, 56, 57, 97, 98, 99, 100, 101, 102, 103, 104, 105, 106, 107, 108, 109, 110, 111, 112, 113, 114, 115, 116, 117, 118, 119, 120, 121, 122]⟩
theorem dg_fin : ∀ n : Fin 16, dg36[n.val]? = some (digC n.val) := by decide +kernel
theorem index_dg (i : Int) (n : Nat) (hi : i = (n : Int)) (h : n < 16) (w : World) : (Instr.index 9 (.string ⟨#[48, 49, 50, 51, 52, 53, 54, 55, 56, 57, 97, 98, 99, 100, 101, 102, 103, 104, 105, 106, 107, 108, 109, 110, 111, 112, 113, 114, 115, 116, 117, 118, 119, 120, 121, 122]⟩) (.int .u64 i)).run Tryd.prog w = .ok (.int .u8 (digC n).toNat) w := by
  subst hi
  have e := dg_fin ⟨n, h⟩
  simp only [dg36] at e
  simp [Instr.index, asIntOf, run_underlying Tryd.underlying9, e]
theorem wraps_u64 (n : Int) (h₀ : 0 ≤ n) (h₁ : n < 2 ^ 64) : IntKind.u64.wrap n = n := by rw [IntKind.wrap_u64]; omega
theorem and15_64 (u : Nat) (h : u < 65536) : bits .and .u64 (u : Int) 15 = ((u % 16 : Nat) : Int) := by
  have := bits_mask .u64 64 (by decide) wraps_u64 4 (by decide) (u : Int) (by omega) (by omega)
  exact this.trans (by omega)
theorem set_drop (L : List UInt8) (j : Nat) (x : UInt8) (h : j < L.length) : (L.set j x).drop j = x :: L.drop (j + 1) := by
  apply List.ext_getElem?
  intro i
  cases i with
  | zero => simp [h]
  | succ i => simp [show j + 1 + i = j + (i + 1) from by omega]
/-- Where the loop stands: k digits written from the end, u left. -/
structure AtD (n k u : Nat) (L : List UInt8) : Prop where
  le : k ≤ 3
  len : L.length = 65
  lt : u < 16 ^ (4 - k)
  eq : hexC n = hexF (16 - k) u ++ L.drop (65 - k)
theorem AtD.zero (n : Nat) (h : n < 65536) : AtD n 0 n (zer 65) := ⟨by omega, zer_len 65, by simpa using h, by simp [hexC, zer]⟩
theorem AtD.small {n k u : Nat} {L : List UInt8} (h : AtD n k u L) : u < 65536 := by
  have h1 := h.lt
  have h2 : 16 ^ (4 - k) ≤ 16 ^ 4 := Nat.pow_le_pow_right (by omega) (by omega)
  omega
theorem AtD.step {n k u : Nat} {L : List UInt8} (h : AtD n k u L) (hu : ¬ u < 16) : AtD n (k + 1) (u / 16) (L.set (64 - k) (digC (u % 16))) := by
  have hle := h.le
  have hlt := h.lt
  have hlen := h.len
  have hk : k ≤ 2 := by
    rcases Nat.lt_or_ge k 3 with h3 | h3
    · omega
    · exfalso
      have : k = 3 := by omega
      subst this
      simp at hlt
      omega
  refine ⟨by omega, by simp [hlen], ?_, ?_⟩
  · have e : 16 ^ (4 - k) = 16 ^ (4 - (k + 1)) * 16 := by rw [← Nat.pow_succ]; congr 1; omega
    rw [e] at hlt
    exact Nat.div_lt_of_lt_mul (by rw [Nat.mul_comm]; exact hlt)
  · have e := h.eq
    rw [show 16 - k = (16 - (k + 1)) + 1 from by omega, show hexF (16 - (k + 1) + 1) u = hexF (16 - (k + 1)) (u / 16) ++ [digC (u % 16)] from by rw [hexF, if_neg hu]] at e
    rw [e, show 65 - (k + 1) = 64 - k from by omega, set_drop _ _ _ (by omega), show 64 - k + 1 = 65 - k from by omega]
    simp
theorem AtD.last {n k u : Nat} {L : List UInt8} (h : AtD n k u L) (hu : u < 16) : (L.set (64 - k) (digC u)).drop (64 - k) = hexC n := by
  have hle := h.le
  have hlen := h.len
  have e := h.eq
  rw [show 16 - k = (15 - k) + 1 from by omega, show hexF (15 - k + 1) u = [digC u] from by rw [hexF, if_pos hu]] at e
  rw [e, set_drop _ _ _ (by omega), show 64 - k + 1 = 65 - k from by omega]
  rfl
theorem zero65 : Tryd.zeroCells120 = bcs (zer 65) := by kernel_rfl
set_option maxRecDepth 100000 in
set_option maxHeartbeats 2000000 in
theorem fmtBits (n : Nat) (hn : n < 65536) (b : Nat) (d : Value) (o : List UInt8) (w : World) (hT : FourC w) (hD : Down w b d o) (hb : b ≤ w.heap.size) (ho : o.length ≤ 1000000) : Calls Tryd.prog 88 #[d, .int .u64 n, .int .i64 16, .bool false, .bool true] w fun e w' => ∃ d', e = .returned (.tuple #[d', .string ⟨#[]⟩]) ∧ Down w' b d' (o ++ hexC n) ∧ Below b w w' := by
  have hz := zero65
  obtain ⟨D, hDD⟩ : ∃ D, D = hexC n := ⟨_, rfl⟩
  rw [← hDD]
  have HDD := hid hDD
  clear hDD
  obtain ⟨Z, hZ⟩ : ∃ Z, Z = bcs (zer 65) := ⟨_, rfl⟩
  have HA := hid (AtD.zero n hn)
  obtain ⟨L0, hL0⟩ : ∃ L, L = zer 65 := ⟨_, rfl⟩
  rw [← hL0] at HA
  have HZ : Hid (Z = bcs L0) := by rw [hL0]; exact hZ
  rw [← hZ] at hz
  clear hL0 hZ
  have HT : Hid (FourC (w.alloc (.cells Z 120))) := hT.below (Below.alloc (Below.refl _ w) (Nat.le_refl _) _)
  have HDN := hid hD
  have HBB := hid hb
  clear hT hD hb
  go_enter Tryd.func88, Tryd.ntmps88
  go_wp2_with fail
  refine (ipow _).mono ?_
  rintro e W1 ⟨rfl, rfl⟩
  go_wp2_with fail
  refine (tz _ (HT.out)).mono ?_
  rintro e W1 ⟨rfl, rfl⟩
  go_wp2_with fail
  go_loopw [1, 13] (fun uv iv wx => ∃ (k u : Nat) (L : List UInt8), uv = .int .u64 (u : Int) ∧ iv = .int .i64 (65 - (k : Int)) ∧ Hid (AtD n k u L) ∧ Hid (wx.heap[w.heap.size]? = some (.cells (bcs L) 120 (0, 0))) ∧ Hid (Below w.heap.size w wx)) (fun u _ _ => (intOf u).toNat)
  case atStart =>
    refine ⟨0, n, L0, rfl, rfl, HA, ?_, alloc_below (Below.refl _ w) (Nat.le_refl _) _⟩
    rw [← HZ.out]
    exact heap_alloc_new w _
  case round =>
    obtain ⟨k, u, L, rfl, rfl, HD, HX, HB⟩ := hrel
    have hsm := HD.out.small
    have hk3 := HD.out.le
    have HLN := hid HD.out.len
    by_cases hu : (u : Int) ≥ 16
    · have ha := and15_64 u hsm
      have HS := hid (HD.out.step (by omega))
      obtain ⟨m, hm⟩ : ∃ m, m = u % 16 := ⟨_, rfl⟩
      rw [← hm] at ha
      have hi := index_dg (m : Int) m rfl (by omega)
      rw [← hm] at HS
      clear hm
      obtain ⟨y, hy⟩ : ∃ y, y = digC m := ⟨_, rfl⟩
      rw [← hy] at HS hi
      clear hy
      go_wp2_with (first
        | (refine store_byteR 120 rfl _ _ rfl w.heap.size _ (64 - k) L (by rw [HLN.out]; omega) y _ rfl ?hoj rfl rfl HX.out ?_)
        | fail)
      case hoj => omega
      intro W5 ho5 hw5
      have HX5 := hid hw5
      have HB5 : Hid (Below w.heap.size w W5) := HB.out.trans (ho5.below (Nat.le_refl _))
      clear hw5 ho5
      go_wp2_with fail
      go_roundw
      case rel => exact ⟨k + 1, u / 16, _, by go_num, by go_num, HS, HX5, HB5⟩
      case measure => simp [intOf]; omega
    · have HS := hid (HD.out.last (by omega))
      have hi := index_dg (u : Int) u rfl (by omega)
      obtain ⟨y, hy⟩ : ∃ y, y = digC u := ⟨_, rfl⟩
      rw [← hy] at HS hi
      clear hy
      go_wp2_with (first
        | (refine store_byteR 120 rfl _ _ rfl w.heap.size _ (64 - k) L (by rw [HLN.out]; omega) y _ rfl ?hoj rfl rfl HX.out ?_)
        | fail)
      case hoj => omega
      intro W5 ho5 hw5
      have HB5 : Hid (Below w.heap.size w W5) := HB.out.trans (ho5.below (Nat.le_refl _))
      have hln5 : (L.set (64 - k) y).length = 65 := by rw [List.length_set]; exact HLN.out
      have HQL : Hid (D.length = k + 1) := by
        show _ = _
        rw [HDD.out, ← HS.out, List.length_drop]; omega
      have HSR : Hid (Src Tryd.prog 1 23 (.slice (some ⟨w.heap.size, 64 - k, none⟩) (k + 1) (k + 1)) (k + 1) (bvs D) W5) := by
        have h1 : BytesAt W5 (some ⟨w.heap.size, 64 - k, none⟩) D := by
          have := BytesAt.mid (o := 64 - k) hw5 (k + 1) (by omega)
          rw [HS.out, ← HDD.out, List.take_of_length_le (by rw [HQL.out]; omega)] at this
          exact this
        have h2 := src_bytes h1 (k + 1) (fun _ => .inr ⟨_, rfl⟩)
        rw [HQL.out] at h2
        exact h2
      have HDW := hid (HDN.out.below HB5.out)
      have hsl : ∀ W, (Instr.sliceAt 120 (.pointer (some ⟨w.heap.size, 0, none⟩)) (some (.int .i64 (65 - (k : Int) - 1))) none none).run Tryd.prog W = .ok (.slice (some ⟨w.heap.size, 64 - k, none⟩) (k + 1) (k + 1)) W := fun W => by
        have := slice_from 120 65 5 Tryd.underlying120 Tryd.sizeOf5 w.heap.size 0 (64 - k) (65 - (k : Int) - 1) (by omega) (by omega) W
        rw [Nat.zero_add, show 65 - (64 - k) = k + 1 from by omega] at this
        exact this
      clear hw5 ho5 hln5 HS
      go_wp2_with (first
        | (refine wpList_down rfl _ _ 23 rfl b (k + 1) d _ o D rfl rfl HDW.out HSR.out (by omega) (by omega) (Nat.le_trans HBB.out HB5.out.size) ?_)
        | fail)
      intro d6 W6 hd6 hb6
      have HD6 := hid hd6
      have HB6 := hid ((HB5.out.mono HBB.out).trans hb6)
      clear hd6 hb6
      go_wp2_with fail
      go_ret2
      exact ⟨_, rfl, HD6.out, HB6.out⟩
theorem fmtU (n : Nat) (hn : n < 65536) (b : Nat) (d : Value) (o : List UInt8) (w : World) (hT : FourC w) (hD : Down w b d o) (hb : b ≤ w.heap.size) (ho : o.length ≤ 1000000) : Calls Tryd.prog 61 #[d, .int .u64 n, .int .i64 16] w fun e w' => ∃ d', e = .returned d' ∧ Down w' b d' (o ++ hexC n) ∧ Below b w w' := by
  have c := hid (fmtBits n hn b d o w hT hD hb ho)
  generalize o ++ hexC n = D at c ⊢
  clear hT hD hb ho
  go_enter Tryd.func61, Tryd.ntmps61
  go_wp2_with fail
  refine c.out.mono ?_
  rintro e W1 ⟨d', rfl, hd, hb⟩
  have HD := hid hd
  have HB := hid hb
  clear hd hb
  go_wp2_with fail
  go_ret
  exact ⟨_, rfl, HD.out, HB.out⟩
theorem fmtI (n : Nat) (hn : n < 65536) (b : Nat) (d : Value) (o : List UInt8) (w : World) (hT : FourC w) (hD : Down w b d o) (hb : b ≤ w.heap.size) (ho : o.length ≤ 1000000) : Calls Tryd.prog 41 #[d, .int .i64 n, .int .i64 16] w fun e w' => ∃ d', e = .returned d' ∧ Down w' b d' (o ++ hexC n) ∧ Below b w w' := by
  have c := hid (fmtU n hn b d o w hT hD hb ho)
  generalize o ++ hexC n = D at c ⊢
  clear hT hD hb ho
  go_enter Tryd.func41, Tryd.ntmps41
  go_wp2_with fail
  refine c.out.mono ?_
  rintro e W1 ⟨d', rfl, hd, hb⟩
  have HD := hid hd
  have HB := hid hb
  clear hd hb
  go_wp2_with fail
  go_ret
  exact ⟨_, rfl, HD.out, HB.out⟩
/-- strconv.AppendInt at base sixteen. -/
theorem appInt (n : Nat) (hn : n < 65536) (b : Nat) (d : Value) (o : List UInt8) (w : World) (hT : FourC w) (hD : Down w b d o) (hb : b ≤ w.heap.size) (ho : o.length ≤ 1000000) : Calls Tryd.prog 28 #[d, .int .i64 n, .int .i64 16] w fun e w' => ∃ d', e = .returned d' ∧ Down w' b d' (o ++ hexC n) ∧ Below b w w' := by
  have c := hid (fmtI n hn b d o w hT hD hb ho)
  generalize o ++ hexC n = D at c ⊢
  clear hT hD hb ho
  go_enter Tryd.func28, Tryd.ntmps28
  go_wp2_with fail
  refine c.out.mono ?_
  rintro e W1 ⟨d', rfl, hd, hb⟩
  have HD := hid hd
  have HB := hid hb
  clear hd hb
  go_wp2_with fail
  go_ret
  exact ⟨_, rfl, HD.out, HB.out⟩
theorem src_crlf (w : World) : Src Tryd.prog 1 9 (.string ⟨#[13, 10]⟩) 2 (bvs [13, 10]) w := src_text w ⟨#[13, 10]⟩
theorem appSize_any (n : Nat) (hn : n < 65536) (b : Nat) (d : Value) (o : List UInt8) (w : World) (hT : FourC w) (hD : Down w b d o) (hb : b ≤ w.heap.size) (ho : o.length ≤ 1000000) : Calls Tryd.prog 19 #[d, .int .i64 n] w fun e w' => ∃ d', e = .returned d' ∧ Down w' b d' (o ++ hexC n ++ [13, 10]) ∧ Below b w w' := by
  have c := hid (appInt n hn b d o w hT hD hb ho)
  have hl : (o ++ hexC n).length ≤ 1000008 := by
    have := (hexC_ok n (by omega)).2.2.2
    rw [List.length_append]; omega
  have HL : Hid ((o ++ hexC n).length + 2 ≤ 1000000000) := by show _ ≤ _; omega
  have HBB := hid hb
  generalize o ++ hexC n = D at c HL ⊢
  clear hT hD hb ho hl
  go_enter Tryd.func19, Tryd.ntmps19
  go_wp2_with fail
  refine c.out.mono ?_
  rintro e W1 ⟨d', rfl, hd, hb⟩
  have HD := hid hd
  have HB := hid hb
  have HSZ := hid (Nat.le_trans HBB.out hb.size)
  clear hd hb
  go_wp2_with (first
    | (refine wpList_down rfl _ _ 9 rfl b 2 _ _ D [13, 10] rfl rfl HD.out (src_crlf _) (by omega) HL.out HSZ.out ?_)
    | fail)
  intro d6 W6 hd6 hb6
  have HD6 := hid hd6
  have HB6 := hid (HB.out.trans hb6)
  clear hd6 hb6
  go_wp2_with fail
  go_ret
  exact ⟨_, rfl, HD6.out, HB6.out⟩
end Go.Proofs.YtlgfepaicgnkpaaDoor
