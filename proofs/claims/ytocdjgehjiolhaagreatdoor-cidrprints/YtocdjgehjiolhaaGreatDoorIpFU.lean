
/- What strconv.FormatUint does in base sixteen with a number of sixteen bits. -/
import Derived.Test.YtocdjgehjiolhaaGreatDoorIpDot
namespace Go.Proofs.YtocdjgehjiolhaaGreatDoor
open Go.RowKit

/-- The tables of TabS, and the place of the bit of sixteen. -/
structure TabP (w : World) : Prop where
  tab : TabS w
  four : w.cell? ⟨5, 15, none⟩ = some (.int .u8 4)
theorem TabP.below {w w' : World} (h : TabP w) (hb : Below w.heap.size w w') : TabP w' :=
  ⟨h.tab.below hb, by have := h.tab.lt; rw [hb.cell (p := ⟨5, 15, none⟩) (by simp; omega)]; exact h.four⟩

theorem tz64 (w : World) (hT : w.cell? ⟨5, 15, none⟩ = some (.int .u8 4)) : Calls Tryz.prog 111 #[.int .u64 16] w fun e w' => e = .returned (.int .i64 4) ∧ w' = w := by
  have h1 : bits .and .u64 16 (IntKind.u64.wrap (-16)) = 16 := by decide
  have h2 : IntKind.u64.wrap 4573923408821661840 = 4573923408821661840 := by decide
  go_enter Tryz.func111, Tryz.ntmps111
  go_wp2_with fail
  go_ret
  exact ⟨rfl, rfl⟩
theorem tz (w : World) (hT : w.cell? ⟨5, 15, none⟩ = some (.int .u8 4)) : Calls Tryz.prog 100 #[.int .u64 16] w fun e w' => e = .returned (.int .i64 4) ∧ w' = w := by
  have c := tz64 w hT
  go_enter Tryz.func100, Tryz.ntmps100
  go_wp2_with fail
  refine c.mono ?_
  rintro e W1 ⟨rfl, rfl⟩
  go_wp2_with fail
  go_ret
  exact ⟨rfl, rfl⟩
theorem ipow (w : World) : Calls Tryz.prog 99 #[.int .i64 16] w fun e w' => e = .returned (.bool true) ∧ w' = w := by
  have h1 : bits .and .i64 16 15 = 0 := by decide
  go_enter Tryz.func99, Tryz.ntmps99
  go_wp2_with fail
  go_ret
  exact ⟨rfl, rfl⟩

theorem bcs_set (L : List UInt8) (j : Nat) (x : UInt8) : (bcs L).setIfInBounds j (.int .u8 x.toNat) = bcs (L.set j x) := by
  unfold bcs
  rw [List.setIfInBounds_toArray, List.map_set]
/-- A byte goes into a row of bytes. -/
theorem store_byteR {ops : Array Oper} {rest : List Oper} {op : Oper} {a : Act} {w : World} {Q : Exit → Act → World → Prop} (t : TypeId) (hgd : op.guard = none) (x y : Operand) (ho : op.op = .store 5 x y)
    (b o j : Nat) (B : List UInt8) (hj : j < B.length) (y8 : UInt8) (z : Int) (hx : a.eval x = .pointer (some ⟨b, o, none⟩)) (hoj : o = j) (hy : a.eval y = .int .u8 z) (hz : z = (y8.toNat : Int))
    (hrow : w.heap[b]? = some (.cells (bcs B) t (0, 0)))
    (h : ∀ W, Only b w W → W.heap[b]? = some (.cells (bcs (B.set j y8)) t (0, 0)) → wpList Tryz.prog ops Q rest (a.put op.dst undef) W) : wpList Tryz.prog ops Q (op :: rest) a w :=
  wpList_plain hgd fun _ hK => by
    have ht := there_row hrow o 1 (by rw [bcs_size]; omega)
    unfold Oper.wp execOp
    simp only [ho, hx, hy, Instr.storeAt, Instr.sureAddr, Sem.run_bind, Sem.run_pure, Result.andThen_ok, run_store_byte w b o z ht]
    refine hK _ _ (h _ (only_setCells b _ o w) ?_)
    rw [setCells_heap b t _ o w _ hrow]
    simp only [over]
    rw [hz, hoj, bcs_set]
def dg36 : ByteArray := ⟨#[48, 49, 50, 51, 52, 53, 54, 55, 56, 57, 97, 98, 99, 100, 101, 102, 103, 104, 105, 106, 107, 108, 109, 110, 111, 112, 113, 114, 115, 116, 117, 118, 119, 120, 121, 122]⟩
theorem dg_fin : ∀ n : Fin 16, dg36[n.val]? = some (dch n.val) := by decide +kernel
theorem index_dg (i : Int) (n : Nat) (hi : i = (n : Int)) (h : n < 16) (w : World) : (Instr.index 9 (.string ⟨#[48, 49, 50, 51, 52, 53, 54, 55, 56, 57, 97, 98, 99, 100, 101, 102, 103, 104, 105, 106, 107, 108, 109, 110, 111, 112, 113, 114, 115, 116, 117, 118, 119, 120, 121, 122]⟩) (.int .u64 i)).run Tryz.prog w = .ok (.int .u8 (dch n).toNat) w := by
  subst hi
  have e := dg_fin ⟨n, h⟩
  simp only [dg36] at e
  simp [Instr.index, asIntOf, run_underlying Tryz.underlying9, e]
theorem wraps_u64 (n : Int) (h₀ : 0 ≤ n) (h₁ : n < 2 ^ 64) : IntKind.u64.wrap n = n := by rw [IntKind.wrap_u64]; omega
theorem and15_64 (u : Nat) (h : u < 65536) : bits .and .u64 (u : Int) 15 = ((u % 16 : Nat) : Int) := by
  have := bits_mask .u64 64 (by decide) wraps_u64 4 (by decide) (u : Int) (by omega) (by omega)
  exact this.trans (by omega)
theorem hexs_step (f u : Nat) (h : ¬ u < 16) : digsF 16 (f + 1) u = digsF 16 f (u / 16) ++ [dch (u % 16)] := by rw [digsF, if_neg h]
theorem hexs_last (f u : Nat) (h : u < 16) : digsF 16 (f + 1) u = [dch u] := by rw [digsF, if_pos h]
theorem set_drop (L : List UInt8) (j : Nat) (x : UInt8) (h : j < L.length) : (L.set j x).drop j = x :: L.drop (j + 1) := by
  apply List.ext_getElem?
  intro i
  cases i with
  | zero => simp [h]
  | succ i => simp [show j + 1 + i = j + (i + 1) from by omega]
/-- Where the loop stands: k digits written from the end, u left. -/
structure AtD (n k u : Nat) (L : List UInt8) : Prop where
  le : k ≤ 3
  len : L.length = 65
  lt : u < 16 ^ (4 - k)
  eq : digs 16 n = digsF 16 (20 - k) u ++ L.drop (65 - k)
theorem AtD.zero (n : Nat) (h : n < 65536) : AtD n 0 n (zer 65) := ⟨by omega, zer_len 65, by simpa using h, by simp [digs, zer]⟩
theorem AtD.small {n k u : Nat} {L : List UInt8} (h : AtD n k u L) : u < 65536 := by
  have h1 := h.lt
  have h2 : 16 ^ (4 - k) ≤ 16 ^ 4 := Nat.pow_le_pow_right (by omega) (by omega)
  omega
theorem AtD.step {n k u : Nat} {L : List UInt8} (h : AtD n k u L) (hu : ¬ u < 16) : AtD n (k + 1) (u / 16) (L.set (64 - k) (dch (u % 16))) := by
  have hle := h.le
  have hlt := h.lt
  have hlen := h.len
  have hk : k ≤ 2 := by
    rcases Nat.lt_or_ge k 3 with h3 | h3
    · omega
    · exfalso
      have : k = 3 := by omega
      subst this
      simp at hlt
      omega
  refine ⟨by omega, by simp [hlen], ?_, ?_⟩
  · have e : 16 ^ (4 - k) = 16 ^ (4 - (k + 1)) * 16 := by rw [← Nat.pow_succ]; congr 1; omega
    rw [e] at hlt
    exact Nat.div_lt_of_lt_mul (by rw [Nat.mul_comm]; exact hlt)
  · have e := h.eq
    rw [show 20 - k = (20 - (k + 1)) + 1 from by omega, hexs_step _ _ hu] at e
    rw [e, show 65 - (k + 1) = 64 - k from by omega, set_drop _ _ _ (by omega), show 64 - k + 1 = 65 - k from by omega]
    simp
theorem AtD.last {n k u : Nat} {L : List UInt8} (h : AtD n k u L) (hu : u < 16) : (L.set (64 - k) (dch u)).drop (64 - k) = digs 16 n := by
  have hle := h.le
  have hlen := h.len
  have e := h.eq
  rw [show 20 - k = (19 - k) + 1 from by omega, hexs_last _ _ hu] at e
  rw [e, set_drop _ _ _ (by omega), show 64 - k + 1 = 65 - k from by omega]
  rfl
theorem zero65 : Tryz.zeroCells131 = bcs (zer 65) := by kernel_rfl

set_option maxRecDepth 100000 in
set_option maxHeartbeats 2000000 in
theorem fmtBits (n : Nat) (hn : n < 65536) (w : World) (hT : TabP w) : Calls Tryz.prog 81 #[.slice none 0 0, .int .u64 n, .int .i64 16, .bool false, .bool false] w fun e w' => e = .returned (.tuple #[.slice none 0 0, .string (asS (digs 16 n))]) ∧ Below w.heap.size w w' := by
  have hz := zero65
  obtain ⟨D, hD⟩ : ∃ D, D = digs 16 n := ⟨_, rfl⟩
  rw [← hD]
  have HDD := hid hD
  clear hD
  obtain ⟨Z, hZ⟩ : ∃ Z, Z = bcs (zer 65) := ⟨_, rfl⟩
  have HA := hid (AtD.zero n hn)
  obtain ⟨L0, hL0⟩ : ∃ L, L = zer 65 := ⟨_, rfl⟩
  rw [← hL0] at HA
  have HZ : Hid (Z = bcs L0) := by rw [hL0]; exact hZ
  rw [← hZ] at hz
  clear hL0 hZ
  have HT : Hid (TabP (w.alloc (.cells Z 131))) := hT.below (Below.alloc (Below.refl _ w) (Nat.le_refl _) _)
  clear hT
  go_enter Tryz.func81, Tryz.ntmps81
  go_wp2_with fail
  refine (ipow _).mono ?_
  rintro e W1 ⟨rfl, rfl⟩
  go_wp2_with fail
  refine (tz _ (HT.out.four)).mono ?_
  rintro e W1 ⟨rfl, rfl⟩
  go_wp2_with fail
  go_loopw [1, 13] (fun uv iv wx => ∃ (k u : Nat) (L : List UInt8), uv = .int .u64 (u : Int) ∧ iv = .int .i64 (65 - (k : Int)) ∧ Hid (AtD n k u L) ∧ Hid (wx.heap[w.heap.size]? = some (.cells (bcs L) 131 (0, 0))) ∧ Hid (Below w.heap.size w wx)) (fun u _ _ => (intOf u).toNat)
  case atStart =>
    refine ⟨0, n, L0, rfl, rfl, HA, ?_, alloc_below (Below.refl _ w) (Nat.le_refl _) _⟩
    rw [← HZ.out]
    exact heap_alloc_new w _
  case round =>
    obtain ⟨k, u, L, rfl, rfl, HD, HX, HB⟩ := hrel
    have hsm := HD.out.small
    have hk3 := HD.out.le
    have HLN := hid HD.out.len
    by_cases hu : (u : Int) ≥ 16
    · have ha := and15_64 u hsm
      have HS := hid (HD.out.step (by omega))
      obtain ⟨m, hm⟩ : ∃ m, m = u % 16 := ⟨_, rfl⟩
      rw [← hm] at ha
      have hi := index_dg (m : Int) m rfl (by omega)
      rw [← hm] at HS
      clear hm
      obtain ⟨y, hy⟩ : ∃ y, y = dch m := ⟨_, rfl⟩
      rw [← hy] at HS hi
      clear hy
      go_wp2_with (first
        | (refine store_byteR 131 rfl _ _ rfl w.heap.size _ (64 - k) L (by rw [HLN.out]; omega) y _ rfl ?hoj rfl rfl HX.out ?_)
        | fail)
      case hoj => omega
      intro W5 ho5 hw5
      have HX5 := hid hw5
      have HB5 : Hid (Below w.heap.size w W5) := HB.out.trans (ho5.below (Nat.le_refl _))
      clear hw5 ho5
      go_wp2_with fail
      go_roundw
      case rel => exact ⟨k + 1, u / 16, _, by go_num, by go_num, HS, HX5, HB5⟩
      case measure => simp [intOf]; omega
    · have HS := hid (HD.out.last (by omega))
      have hi := index_dg (u : Int) u rfl (by omega)
      obtain ⟨y, hy⟩ : ∃ y, y = dch u := ⟨_, rfl⟩
      rw [← hy] at HS hi
      clear hy
      go_wp2_with (first
        | (refine store_byteR 131 rfl _ _ rfl w.heap.size _ (64 - k) L (by rw [HLN.out]; omega) y _ rfl ?hoj rfl rfl HX.out ?_)
        | fail)
      case hoj => omega
      intro W5 ho5 hw5
      have HB5 : Hid (Below w.heap.size w W5) := HB.out.trans (ho5.below (Nat.le_refl _))
      have hln5 : (L.set (64 - k) y).length = 65 := by rw [List.length_set]; exact HLN.out
      have HQ : Hid (BytesAt W5 (some ⟨w.heap.size, 64 - k, none⟩) (digs 16 n)) := by
        have := BytesAt.mid (o := 64 - k) hw5 (k + 1) (by omega)
        rw [HS.out, List.take_of_length_le (by rw [← HS.out, List.length_drop]; omega)] at this
        exact this
      have HQL : Hid ((digs 16 n).length = k + 1) := by
        show _ = _
        rw [← HS.out, List.length_drop]; omega
      have hsl : ∀ W, (Instr.sliceAt 131 (.pointer (some ⟨w.heap.size, 0, none⟩)) (some (.int .i64 (65 - (k : Int) - 1))) none none).run Tryz.prog W = .ok (.slice (some ⟨w.heap.size, 64 - k, none⟩) (k + 1) (k + 1)) W := fun W => by
        have := slice_from 131 65 5 Tryz.underlying131 Tryz.sizeOf5 w.heap.size 0 (64 - k) (65 - (k : Int) - 1) (by omega) (by omega) W
        rw [Nat.zero_add, show 65 - (64 - k) = k + 1 from by omega] at this
        exact this
      have hst := str_part (c := k + 1) HQ.out HQL.out
      clear hw5 ho5 hln5 HS
      rw [← HDD.out] at hst
      go_wp2_with fail
      go_ret2
      exact ⟨rfl, HB5.out⟩
theorem fmtU (n : Nat) (hn : n < 65536) (w : World) (hT : TabP w) : Calls Tryz.prog 95 #[.int .u64 n, .int .i64 16] w fun e w' => e = .returned (.string (asS (digs 16 n))) ∧ Below w.heap.size w w' := by
  have c := hid (fmtBits n hn w hT)
  generalize digs 16 n = D at c ⊢
  go_enter Tryz.func95, Tryz.ntmps95
  go_wp2_with fail
  refine c.out.mono ?_
  rintro e W1 ⟨rfl, hb⟩
  go_wp2_with fail
  go_ret
  exact ⟨rfl, hb⟩
/-- strconv.FormatUint at base sixteen. -/
theorem hexU (n : Nat) (hn : n < 65536) (w : World) (hT : TabP w) : Calls Tryz.prog 77 #[.int .u64 n, .int .i64 16] w fun e w' => e = .returned (.string (asS (digs 16 n))) ∧ Below w.heap.size w w' := by
  have c := hid (fmtU n hn w hT)
  generalize digs 16 n = D at c ⊢
  go_enter Tryz.func77, Tryz.ntmps77
  go_wp2_with fail
  refine c.out.mono ?_
  rintro e W1 ⟨rfl, hb⟩
  go_wp2_with fail
  go_ret
  exact ⟨rfl, hb⟩
end Go.Proofs.YtocdjgehjiolhaaGreatDoor
