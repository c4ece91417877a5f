
/- What strconv.FormatUint at base 16, colons, longestRun and groupsOf do. -/
import Derived.Test.YtocdjgehjiolhaaGreatDoorIpFour
namespace Go.Proofs.YtocdjgehjiolhaaGreatDoor
open Go.RowKit

/-- The tables of TabS, and the place of the bit of sixteen. -/
structure TabP (w : World) : Prop where
  tab : TabS w
  four : w.cell? ⟨5, 15, none⟩ = some (.int .u8 4)
theorem TabP.below {w w' : World} (h : TabP w) (hb : Below w.heap.size w w') : TabP w' :=
  ⟨h.tab.below hb, by have := h.tab.lt; rw [hb.cell (p := ⟨5, 15, none⟩) (by simp; omega)]; exact h.four⟩

theorem tz64 (w : World) (hT : w.cell? ⟨5, 15, none⟩ = some (.int .u8 4)) : Calls Tryz.prog 111 #[.int .u64 16] w fun e w' => e = .returned (.int .i64 4) ∧ w' = w := by
  have h1 : bits .and .u64 16 (IntKind.u64.wrap (-16)) = 16 := by decide
  have h2 : IntKind.u64.wrap 4573923408821661840 = 4573923408821661840 := by decide
  go_enter Tryz.func111, Tryz.ntmps111
  go_wp2_with fail
  go_ret
  exact ⟨rfl, rfl⟩
theorem tz (w : World) (hT : w.cell? ⟨5, 15, none⟩ = some (.int .u8 4)) : Calls Tryz.prog 100 #[.int .u64 16] w fun e w' => e = .returned (.int .i64 4) ∧ w' = w := by
  have c := tz64 w hT
  go_enter Tryz.func100, Tryz.ntmps100
  go_wp2_with fail
  refine c.mono ?_
  rintro e W1 ⟨rfl, rfl⟩
  go_wp2_with fail
  go_ret
  exact ⟨rfl, rfl⟩
theorem ipow (w : World) : Calls Tryz.prog 99 #[.int .i64 16] w fun e w' => e = .returned (.bool true) ∧ w' = w := by
  have h1 : bits .and .i64 16 15 = 0 := by decide
  go_enter Tryz.func99, Tryz.ntmps99
  go_wp2_with fail
  go_ret
  exact ⟨rfl, rfl⟩

theorem bcs_set (L : List UInt8) (j : Nat) (x : UInt8) : (bcs L).setIfInBounds j (.int .u8 x.toNat) = bcs (L.set j x) := by
  unfold bcs
  rw [List.setIfInBounds_toArray, List.map_set]
/-- A byte goes into a row of bytes. -/
theorem store_byteR {ops : Array Oper} {rest : List Oper} {op : Oper} {a : Act} {w : World} {Q : Exit → Act → World → Prop} (t : TypeId) (hgd : op.guard = none) (x y : Operand) (ho : op.op = .store 5 x y)
    (b o j : Nat) (B : List UInt8) (hj : j < B.length) (y8 : UInt8) (z : Int) (hx : a.eval x = .pointer (some ⟨b, o, none⟩)) (hoj : o = j) (hy : a.eval y = .int .u8 z) (hz : z = (y8.toNat : Int))
    (hrow : w.heap[b]? = some (.cells (bcs B) t (0, 0)))
    (h : ∀ W, Only b w W → W.heap[b]? = some (.cells (bcs (B.set j y8)) t (0, 0)) → wpList Tryz.prog ops Q rest (a.put op.dst undef) W) : wpList Tryz.prog ops Q (op :: rest) a w :=
  wpList_plain hgd fun _ hK => by
    have ht := there_row hrow o 1 (by rw [bcs_size]; omega)
    unfold Oper.wp execOp
    simp only [ho, hx, hy, Instr.storeAt, Instr.sureAddr, Sem.run_bind, Sem.run_pure, Result.andThen_ok, run_store_byte w b o z ht]
    refine hK _ _ (h _ (only_setCells b _ o w) ?_)
    rw [setCells_heap b t _ o w _ hrow]
    simp only [over]
    rw [hz, hoj, bcs_set]
def dg36 : ByteArray := ⟨#[48, 49, 50, 51, 52, 53, 54, 55, 56, 57, 97, 98, 99, 100, 101, 102, 103, 104, 105, 106, 107, 108, 109, 110, 111, 112, 113, 114, 115, 116, 117, 118, 119, 120, 121, 122]⟩
theorem dg_fin : ∀ n : Fin 16, dg36[n.val]? = some (dch n.val) := by decide +kernel
theorem index_dg (i : Int) (n : Nat) (hi : i = (n : Int)) (h : n < 16) (w : World) : (Instr.index 9 (.string ⟨#[48, 49, 50, 51, 52, 53, 54, 55, 56, 57, 97, 98, 99, 100, 101, 102, 103, 104, 105, 106, 107, 108, 109, 110, 111, 112, 113, 114, 115, 116, 117, 118, 119, 120, 121, 122]⟩) (.int .u64 i)).run Tryz.prog w = .ok (.int .u8 (dch n).toNat) w := by
  subst hi
  have e := dg_fin ⟨n, h⟩
  simp only [dg36] at e
  simp [Instr.index, asIntOf, run_underlying Tryz.underlying9, e]
theorem wraps_u64 (n : Int) (h₀ : 0 ≤ n) (h₁ : n < 2 ^ 64) : IntKind.u64.wrap n = n := by rw [IntKind.wrap_u64]; omega
theorem and15_64 (u : Nat) (h : u < 65536) : bits .and .u64 (u : Int) 15 = ((u % 16 : Nat) : Int) := by
  have := bits_mask .u64 64 (by decide) wraps_u64 4 (by decide) (u : Int) (by omega) (by omega)
  exact this.trans (by omega)
theorem hexs_step (f u : Nat) (h : ¬ u < 16) : digsF 16 (f + 1) u = digsF 16 f (u / 16) ++ [dch (u % 16)] := by rw [digsF, if_neg h]
theorem hexs_last (f u : Nat) (h : u < 16) : digsF 16 (f + 1) u = [dch u] := by rw [digsF, if_pos h]
theorem set_drop (L : List UInt8) (j : Nat) (x : UInt8) (h : j < L.length) : (L.set j x).drop j = x :: L.drop (j + 1) := by
  apply List.ext_getElem?
  intro i
  cases i with
  | zero => simp [h]
  | succ i => simp [show j + 1 + i = j + (i + 1) from by omega]
/-- Where the loop stands: k digits written from the end, u left. -/
structure AtD (n k u : Nat) (L : List UInt8) : Prop where
  le : k ≤ 3
  len : L.length = 65
  lt : u < 16 ^ (4 - k)
  eq : digs 16 n = digsF 16 (20 - k) u ++ L.drop (65 - k)
theorem AtD.zero (n : Nat) (h : n < 65536) : AtD n 0 n (zer 65) := ⟨by omega, zer_len 65, by simpa using h, by simp [digs, zer]⟩
theorem AtD.small {n k u : Nat} {L : List UInt8} (h : AtD n k u L) : u < 65536 := by
  have h1 := h.lt
  have h2 : 16 ^ (4 - k) ≤ 16 ^ 4 := Nat.pow_le_pow_right (by omega) (by omega)
  omega
theorem AtD.step {n k u : Nat} {L : List UInt8} (h : AtD n k u L) (hu : ¬ u < 16) : AtD n (k + 1) (u / 16) (L.set (64 - k) (dch (u % 16))) := by
  have hle := h.le
  have hlt := h.lt
  have hlen := h.len
  have hk : k ≤ 2 := by
    rcases Nat.lt_or_ge k 3 with h3 | h3
    · omega
    · exfalso
      have : k = 3 := by omega
      subst this
      simp at hlt
      omega
  refine ⟨by omega, by simp [hlen], ?_, ?_⟩
  · have e : 16 ^ (4 - k) = 16 ^ (4 - (k + 1)) * 16 := by rw [← Nat.pow_succ]; congr 1; omega
    rw [e] at hlt
    exact Nat.div_lt_of_lt_mul (by rw [Nat.mul_comm]; exact hlt)
  · have e := h.eq
    rw [show 20 - k = (20 - (k + 1)) + 1 from by omega, hexs_step _ _ hu] at e
    rw [e, show 65 - (k + 1) = 64 - k from by omega, set_drop _ _ _ (by omega), show 64 - k + 1 = 65 - k from by omega]
    simp
theorem AtD.last {n k u : Nat} {L : List UInt8} (h : AtD n k u L) (hu : u < 16) : (L.set (64 - k) (dch u)).drop (64 - k) = digs 16 n := by
  have hle := h.le
  have hlen := h.len
  have e := h.eq
  rw [show 20 - k = (19 - k) + 1 from by omega, hexs_last _ _ hu] at e
  rw [e, set_drop _ _ _ (by omega), show 64 - k + 1 = 65 - k from by omega]
  rfl
theorem zero65 : Tryz.zeroCells131 = bcs (zer 65) := by kernel_rfl

set_option maxRecDepth 100000 in
set_option maxHeartbeats 2000000 in
theorem fmtBits (n : Nat) (hn : n < 65536) (w : World) (hT : TabP w) : Calls Tryz.prog 81 #[.slice none 0 0, .int .u64 n, .int .i64 16, .bool false, .bool false] w fun e w' => e = .returned (.tuple #[.slice none 0 0, .string (asS (digs 16 n))]) ∧ Below w.heap.size w w' := by
  have hz := zero65
  obtain ⟨D, hD⟩ : ∃ D, D = digs 16 n := ⟨_, rfl⟩
  rw [← hD]
  have HDD := hid hD
  clear hD
  obtain ⟨Z, hZ⟩ : ∃ Z, Z = bcs (zer 65) := ⟨_, rfl⟩
  have HA := hid (AtD.zero n hn)
  obtain ⟨L0, hL0⟩ : ∃ L, L = zer 65 := ⟨_, rfl⟩
  rw [← hL0] at HA
  have HZ : Hid (Z = bcs L0) := by rw [hL0]; exact hZ
  rw [← hZ] at hz
  clear hL0 hZ
  have HT : Hid (TabP (w.alloc (.cells Z 131))) := hT.below (Below.alloc (Below.refl _ w) (Nat.le_refl _) _)
  clear hT
  go_enter Tryz.func81, Tryz.ntmps81
  go_wp2_with fail
  refine (ipow _).mono ?_
  rintro e W1 ⟨rfl, rfl⟩
  go_wp2_with fail
  refine (tz _ (HT.out.four)).mono ?_
  rintro e W1 ⟨rfl, rfl⟩
  go_wp2_with fail
  go_loopw [1, 13] (fun uv iv wx => ∃ (k u : Nat) (L : List UInt8), uv = .int .u64 (u : Int) ∧ iv = .int .i64 (65 - (k : Int)) ∧ Hid (AtD n k u L) ∧ Hid (wx.heap[w.heap.size]? = some (.cells (bcs L) 131 (0, 0))) ∧ Hid (Below w.heap.size w wx)) (fun u _ _ => (intOf u).toNat)
  case atStart =>
    refine ⟨0, n, L0, rfl, rfl, HA, ?_, alloc_below (Below.refl _ w) (Nat.le_refl _) _⟩
    rw [← HZ.out]
    exact heap_alloc_new w _
  case round =>
    obtain ⟨k, u, L, rfl, rfl, HD, HX, HB⟩ := hrel
    have hsm := HD.out.small
    have hk3 := HD.out.le
    have HLN := hid HD.out.len
    by_cases hu : (u : Int) ≥ 16
    · have ha := and15_64 u hsm
      have HS := hid (HD.out.step (by omega))
      obtain ⟨m, hm⟩ : ∃ m, m = u % 16 := ⟨_, rfl⟩
      rw [← hm] at ha
      have hi := index_dg (m : Int) m rfl (by omega)
      rw [← hm] at HS
      clear hm
      obtain ⟨y, hy⟩ : ∃ y, y = dch m := ⟨_, rfl⟩
      rw [← hy] at HS hi
      clear hy
      go_wp2_with (first
        | (refine store_byteR 131 rfl _ _ rfl w.heap.size _ (64 - k) L (by rw [HLN.out]; omega) y _ rfl ?hoj rfl rfl HX.out ?_)
        | fail)
      case hoj => omega
      intro W5 ho5 hw5
      have HX5 := hid hw5
      have HB5 : Hid (Below w.heap.size w W5) := HB.out.trans (ho5.below (Nat.le_refl _))
      clear hw5 ho5
      go_wp2_with fail
      go_roundw
      case rel => exact ⟨k + 1, u / 16, _, by go_num, by go_num, HS, HX5, HB5⟩
      case measure => simp [intOf]; omega
    · have HS := hid (HD.out.last (by omega))
      have hi := index_dg (u : Int) u rfl (by omega)
      obtain ⟨y, hy⟩ : ∃ y, y = dch u := ⟨_, rfl⟩
      rw [← hy] at HS hi
      clear hy
      go_wp2_with (first
        | (refine store_byteR 131 rfl _ _ rfl w.heap.size _ (64 - k) L (by rw [HLN.out]; omega) y _ rfl ?hoj rfl rfl HX.out ?_)
        | fail)
      case hoj => omega
      intro W5 ho5 hw5
      have HB5 : Hid (Below w.heap.size w W5) := HB.out.trans (ho5.below (Nat.le_refl _))
      have hln5 : (L.set (64 - k) y).length = 65 := by rw [List.length_set]; exact HLN.out
      have HQ : Hid (BytesAt W5 (some ⟨w.heap.size, 64 - k, none⟩) (digs 16 n)) := by
        have := BytesAt.mid (o := 64 - k) hw5 (k + 1) (by omega)
        rw [HS.out, List.take_of_length_le (by rw [← HS.out, List.length_drop]; omega)] at this
        exact this
      have HQL : Hid ((digs 16 n).length = k + 1) := by
        show _ = _
        rw [← HS.out, List.length_drop]; omega
      have hsl : ∀ W, (Instr.sliceAt 131 (.pointer (some ⟨w.heap.size, 0, none⟩)) (some (.int .i64 (65 - (k : Int) - 1))) none none).run Tryz.prog W = .ok (.slice (some ⟨w.heap.size, 64 - k, none⟩) (k + 1) (k + 1)) W := fun W => by
        have := slice_from 131 65 5 Tryz.underlying131 Tryz.sizeOf5 w.heap.size 0 (64 - k) (65 - (k : Int) - 1) (by omega) (by omega) W
        rw [Nat.zero_add, show 65 - (64 - k) = k + 1 from by omega] at this
        exact this
      have hst := str_part (c := k + 1) HQ.out HQL.out
      clear hw5 ho5 hln5 HS
      rw [← HDD.out] at hst
      go_wp2_with fail
      go_ret2
      exact ⟨rfl, HB5.out⟩
theorem fmtU (n : Nat) (hn : n < 65536) (w : World) (hT : TabP w) : Calls Tryz.prog 95 #[.int .u64 n, .int .i64 16] w fun e w' => e = .returned (.string (asS (digs 16 n))) ∧ Below w.heap.size w w' := by
  have c := hid (fmtBits n hn w hT)
  generalize digs 16 n = D at c ⊢
  go_enter Tryz.func95, Tryz.ntmps95
  go_wp2_with fail
  refine c.out.mono ?_
  rintro e W1 ⟨rfl, hb⟩
  go_wp2_with fail
  go_ret
  exact ⟨rfl, hb⟩
/-- strconv.FormatUint at base sixteen. -/
theorem hexU (n : Nat) (hn : n < 65536) (w : World) (hT : TabP w) : Calls Tryz.prog 77 #[.int .u64 n, .int .i64 16] w fun e w' => e = .returned (.string (asS (digs 16 n))) ∧ Below w.heap.size w w' := by
  have c := hid (fmtU n hn w hT)
  generalize digs 16 n = D at c ⊢
  go_enter Tryz.func77, Tryz.ntmps77
  go_wp2_with fail
  refine c.out.mono ?_
  rintro e W1 ⟨rfl, hb⟩
  go_wp2_with fail
  go_ret
  exact ⟨rfl, hb⟩
end Go.Proofs.YtocdjgehjiolhaaGreatDoor
namespace Go.Proofs.YtocdjgehjiolhaaGreatDoor
open Go.RowKit

theorem hexs_len (g : List Nat) : (hexs g).length = g.length := by simp [hexs]
theorem hexs_snoc (g : List Nat) (k : Nat) (h : k < g.length) : hexs (g.take (k + 1)) = hexs (g.take k) ++ [digs 16 (g.getD k 0)] := by
  unfold hexs
  rw [List.take_succ_eq_append_getElem h, List.map_append]
  simp [List.getD_eq_getElem?_getD, h]
theorem hexs_short (g : List Nat) : ∀ x ∈ hexs g, x.length ≤ 100 := fun x hx => by
  obtain ⟨j, _, rfl⟩ := List.mem_map.1 hx
  have := digs_short 16 j
  omega
set_option maxHeartbeats 2000000 in
theorem colons_any (g : List Nat) (hl : g.length ≤ 8) (hg : ∀ j, j < g.length → g.getD j 0 < 65536) (A : Option Addr) (q o c : Nat) (w : World) (hT : TabP w) (hA : 0 < g.length → A = some ⟨q, o, none⟩) (hq : q < w.heap.size)
    (hsrc : ∀ j, j < g.length → w.cell? ⟨q, o + j, none⟩ = some (.int .u16 (g.getD j 0 : Nat))) :
    Calls Tryz.prog 54 #[.slice A g.length c] w fun e w' => e = .returned (.string (asS (J g))) ∧ Below w.heap.size w w' := by
  have HSRC := hid hsrc
  have HA := hid hA
  have HT := hid hT
  have HG := hid hg
  obtain ⟨n, hn⟩ : ∃ n, n = g.length := ⟨_, rfl⟩
  rw [← hn] at hl HSRC HA HG ⊢
  have HN := hid hn
  clear hsrc hA hT hg hn
  have HE : Hid (hexs (g.take n) = hexs g) := by show _ = _; rw [HN.out, List.take_length]
  obtain ⟨R, hR⟩ : ∃ R, R = J g := ⟨_, rfl⟩
  rw [← hR]
  have HRE := hid hR
  clear hR
  obtain ⟨Z, hZ⟩ : ∃ Z, Z = (List.replicate n (Value.string ByteArray.empty)).toArray := ⟨_, rfl⟩
  have hmk : ∀ W, (Instr.makeSlice 69 (.int .i64 0) (.int .i64 (n : Int))).run Tryz.prog W = .ok (.slice (some ⟨W.heap.size, 0, none⟩) 0 n) (W.alloc (.cells Z 9)) := fun W => by rw [hZ]; exact make_strs 0 n (by omega) (by omega) W
  have HZ : Hid (∀ (W : World) b, b ≤ W.heap.size → OwnV (W.alloc (.cells Z 9)) 9 b W.heap.size 0 n (strs [])) := fun W b hb => by rw [hZ]; exact own_made W n b hb
  clear hZ
  go_enter Tryz.func54, Tryz.ntmps54
  go_wp2_with fail
  clear hmk
  go_loopw [3, 11] (fun pv iv wx => ∃ k g' c' : Nat, k ≤ n ∧ iv = .int .i64 (k : Int) ∧ pv = .slice (some ⟨g', 0, none⟩) k c' ∧ Hid (OwnV wx 9 w.heap.size g' k c' (strs (hexs (g.take k)))) ∧ Hid (Below w.heap.size w wx)) (fun _ i _ => n - (intOf i).toNat)
  case atStart => exact ⟨0, w.heap.size, n, by omega, rfl, rfl, HZ.out w w.heap.size (Nat.le_refl _), alloc_below (Below.refl _ w) (Nat.le_refl _) _⟩
  case round =>
    obtain ⟨k, g', c', hk, rfl, rfl, HO, HB⟩ := hrel
    have hsz := HB.out.size
    by_cases hkn : (k : Int) < n
    · obtain rfl := HA.out (by omega)
      obtain ⟨x, hx⟩ : ∃ x, x = g.getD k 0 := ⟨_, rfl⟩
      have hxl := HG.out k (by omega)
      have hc : wr.cell? ⟨q, o + k, none⟩ = some (.int .u16 (x : Nat)) := by
        rw [HB.out.cell (p := ⟨q, o + k, none⟩) hq, HSRC.out k (by omega), hx]
      rw [← hx] at hxl
      have HD : Hid (hexs (g.take (k + 1)) = hexs (g.take k) ++ [digs 16 x]) := by show _ = _; rw [hx, hexs_snoc _ _ (by rw [← HN.out]; omega)]
      have HTW : Hid (TabP wr) := HT.out.below HB.out
      clear hx
      go_wp2_with fail
      refine (hexU x hxl _ HTW.out).mono ?_
      rintro e W1 ⟨rfl, hb1⟩
      have HO1 : Hid (OwnV W1 9 w.heap.size g' k c' (strs (hexs (g.take k)))) := HO.out.below hb1 (Nat.le_refl _)
      have HB1 : Hid (Below w.heap.size w W1) := HB.out.trans (hb1.mono hsz)
      have hs1 := hb1.size
      clear hb1 hc
      generalize digs 16 x = db at HD
      go_wp2_with (first
        | (refine wpList_ownV cellS rfl _ _ rfl w.heap.size g' k c' 1 (strs (hexs (g.take k))) (strs [db]) _ rfl rfl (HO1.out.alloc _) (src_new W1 db _) (by omega) ?h3 ?_)
        | fail)
      case h3 => simp; omega
      intro g2 c2 W2 hown hgr hg'
      have HO2 : Hid (OwnV W2 9 w.heap.size g2 (k + 1) c2 (strs (hexs (g.take (k + 1))))) := by
        rw [HD.out, strs_app]; exact hown
      have HB2 : Hid (Below w.heap.size w W2) := (HO1.out.alloc _).grown (alloc_below HB1.out HB1.out.size _) (by simp; omega) hgr
      clear hown hgr hg'
      go_wp2_with fail
      go_roundw
      case rel => exact ⟨k + 1, g2, c2, by omega, by go_num, rfl, HO2, HB2⟩
      case measure => simp [intOf]; omega
    · have hk' : k = n := by omega
      subst hk'
      have hlen : (hexs g).length = k := by rw [hexs_len, HN.out]
      have HO3 := HO.out
      rw [HE.out, ← hlen] at HO3
      have HJ := hid (joinS 58 (hexs g) wr w.heap.size g' c' (by rw [hlen]; omega) (hexs_short g) HO3)
      rw [hlen, show joinL 58 (hexs g) = J g from rfl, ← HRE.out] at HJ
      clear HO3 hlen
      go_wp2_with fail
      refine HJ.out.mono ?_
      rintro e W1 ⟨rfl, hb1⟩
      go_wp2_with fail
      go_ret
      exact ⟨rfl, HB.out.trans (hb1.mono hsz)⟩
end Go.Proofs.YtocdjgehjiolhaaGreatDoor
namespace Go.Proofs.YtocdjgehjiolhaaGreatDoor
open Go.RowKit
set_option linter.unusedVariables false

/-- The longest run among those that end by i, and where the run that ends at i begins. -/
structure AtR (g : List Nat) (i a n b : Nat) : Prop where
  le : b ≤ i
  zero : ∀ m, b ≤ m → m < i → g.getD m 0 = 0
  edge : b = 0 ∨ g.getD (b - 1) 0 ≠ 0
  run : a + n ≤ i
  runz : allz g a (a + n) = true
  none : n = 0 → a = 0
  most : ∀ j k, j ≤ k → k ≤ i → allz g j k = true → k - j ≤ n
  first : ∀ j k, j ≤ k → k ≤ i → allz g j k = true → k - j = n → 0 < n → a ≤ j
theorem allz_of (g : List Nat) (i k : Nat) (h : ∀ m, i ≤ m → m < k → g.getD m 0 = 0) : allz g i k = true := by
  unfold allz
  rw [List.all_eq_true]
  intro m hm
  rw [List.mem_range] at hm
  exact decide_eq_true (h (i + m) (by omega) (by omega))
theorem AtR.start (g : List Nat) : AtR g 0 0 0 0 :=
  ⟨Nat.le_refl _, fun m h1 h2 => by omega, .inl rfl, Nat.le_refl _, allz_of _ _ _ (fun m h1 h2 => by omega), fun _ => rfl, fun j k h1 h2 _ => by omega, fun j k h1 h2 _ _ h => by omega⟩
/-- The group i is looked at: b' is where the run that ends behind it begins. -/
theorem AtR.step {g : List Nat} {i a n b : Nat} (h : AtR g i a n b) (b' : Nat) (hb : b' = if g.getD i 0 = 0 then b else i + 1) : (n < i + 1 - b' → AtR g (i + 1) b' (i + 1 - b') b') ∧ (¬ n < i + 1 - b' → AtR g (i + 1) a n b') := by
  have hle := h.le
  have hrun := h.run
  have hb1 : b' ≤ i + 1 := by rw [hb]; split <;> omega
  have hz : ∀ m, b' ≤ m → m < i + 1 → g.getD m 0 = 0 := by
    intro m h1 h2
    rw [hb] at h1
    split at h1
    · rename_i h0
      rcases Nat.lt_or_ge m i with h3 | h3
      · exact h.zero m h1 h3
      · rw [show m = i from by omega]; exact h0
    · omega
  have he : b' = 0 ∨ g.getD (b' - 1) 0 ≠ 0 := by
    rw [hb]
    split
    · exact h.edge
    · rename_i h0
      exact .inr (by rw [Nat.add_sub_cancel]; exact h0)
  have hlast : ∀ j, j ≤ i + 1 → allz g j (i + 1) = true → b' ≤ j := by
    intro j hj hzj
    rcases Nat.lt_or_ge j b' with h1 | h1
    · exfalso
      rcases he with h2 | h2
      · omega
      · exact h2 (run_zero g j (i + 1) (b' - 1) hzj (by omega) (by omega))
    · exact h1
  constructor
  · intro hn
    refine ⟨hb1, hz, he, by omega, allz_of _ _ _ (fun m h1 h2 => hz m h1 (by omega)), fun h0 => by omega, fun j k h1 h2 h3 => ?_, fun j k h1 h2 h3 h4 h5 => ?_⟩
    · rcases Nat.lt_or_ge k (i + 1) with hk | hk
      · have := h.most j k h1 (by omega) h3; omega
      · obtain rfl : k = i + 1 := by omega
        have := hlast j h1 h3; omega
    · rcases Nat.lt_or_ge k (i + 1) with hk | hk
      · have := h.most j k h1 (by omega) h3; omega
      · obtain rfl : k = i + 1 := by omega
        exact hlast j h1 h3
  · intro hn
    refine ⟨hb1, hz, he, by omega, h.runz, h.none, fun j k h1 h2 h3 => ?_, fun j k h1 h2 h3 h4 h5 => ?_⟩
    · rcases Nat.lt_or_ge k (i + 1) with hk | hk
      · exact h.most j k h1 (by omega) h3
      · obtain rfl : k = i + 1 := by omega
        have := hlast j h1 h3; omega
    · rcases Nat.lt_or_ge k (i + 1) with hk | hk
      · exact h.first j k h1 (by omega) h3 h4 h5
      · obtain rfl : k = i + 1 := by omega
        have := hlast j h1 h3; omega
theorem AtR.best {g : List Nat} {a n b : Nat} (h : AtR g 8 a n b) : best g = (a, n) := best_is g a n ⟨h.run, h.runz⟩ h.none h.most h.first
/-- Eight groups as cells. -/
def gcs (g : List Nat) : Array Value := (g.map fun (x : Nat) => Value.int .u16 x).toArray
theorem gcs_size (g : List Nat) : (gcs g).size = g.length := by simp [gcs]
theorem gcs_at (g : List Nat) (j : Nat) (h : j < g.length) : (gcs g)[j]? = some (.int .u16 (g.getD j 0 : Nat)) := by
  simp [gcs, List.getD_eq_getElem?_getD, h]
theorem gcs_one (g : List Nat) : (gcs g).all (·.oneCell') = true := by
  simp only [gcs, List.all_toArray, List.all_eq_true]
  intro v hv
  obtain ⟨x, _, rfl⟩ := List.mem_map.1 hv
  rfl
theorem gcs_info (g : List Nat) (h : g.length = 8) : (Tryz.prog.info? 60).map (·.size) = some (gcs g).size := by rw [gcs_size, h]; kernel_rfl

theorem indexG (cs : Array Value) (k : Nat) (v : Value) (hk : k < 8) (hv : cs[k]? = some v) (w : World) : (Instr.index 60 (.agg cs) (.int .i64 (k : Int))).run Tryz.prog w = .ok v w := by
  have h : Tryz.prog.underlying 60 = some (.array 8 59) := Tryz.underlying60
  simp [Instr.index, asIntOf, run_underlying h, Tryz.sizeOf59, part, Tryz.isAgg59, hv, hk]
set_option maxRecDepth 100000 in
set_option maxHeartbeats 2000000 in
theorem longest_any (g : List Nat) (hl : g.length = 8) (w : World) : Calls Tryz.prog 53 #[.agg (gcs g)] w fun e w' => e = .returned (.tuple #[.int .i64 ((best g).1 : Nat), .int .i64 ((best g).2 : Nat)]) ∧ Below w.heap.size w w' := by
  have HC : Hid (∀ k, k < 8 → (gcs g)[k]? = some (.int .u16 (g.getD k 0 : Nat))) := fun k hk => gcs_at g k (by omega)
  have HI := hid (gcs_info g hl)
  have HS := hid (gcs_size g)
  have HONE := hid (gcs_one g)
  generalize gcs g = X at HC HI HS HONE ⊢
  obtain ⟨p, hp⟩ : ∃ p, p = best g := ⟨_, rfl⟩
  rw [← hp]
  have HP := hid hp
  clear hp
  go_enter Tryz.func53, Tryz.ntmps53
  go_wp2_with (first
    | (refine wpList_load_row rfl 60 _ rfl w.heap.size rfl 60 X (0, 0) _ (heap_alloc_new w _) Tryz.underlying60 rfl HI.out ?_)
    | fail)
  go_wp2_with fail
  go_loopw [4, 5, 6, 10] (fun av nv bv iv wx => ∃ i a n b : Nat, i ≤ 8 ∧ av = .int .i64 (a : Int) ∧ nv = .int .i64 (n : Int) ∧ bv = .int .i64 (b : Int) ∧ iv = .int .i64 (i : Int) ∧ Hid (AtR g i a n b) ∧ Hid (Below w.heap.size w wx)) (fun _ _ _ i _ => 8 - (intOf i).toNat)
  case atStart => exact ⟨0, 0, 0, 0, by omega, rfl, rfl, rfl, rfl, AtR.start g, alloc_below (Below.refl _ w) (Nat.le_refl _) _⟩
  case round =>
    obtain ⟨i, a, n, b, hi, rfl, rfl, rfl, rfl, HR, HB⟩ := hrel
    have hle := HR.out.le
    have hrun := HR.out.run
    by_cases hi8 : (i : Int) < 8
    · have hx := HC.out i (by omega)
      obtain ⟨x, ex⟩ : ∃ x, x = g.getD i 0 := ⟨_, rfl⟩
      rw [← ex] at hx
      have hidx : ∀ W, (Instr.index 60 (.agg X) (.int .i64 (i : Int))).run Tryz.prog W = .ok (.int .u16 (x : Nat)) W := fun W => indexG X i _ (by omega) hx W
      clear hx
      by_cases hx0 : (x : Int) = 0
      · have hx0' : x = 0 := by omega
        subst hx0'
        have HST := hid (HR.out.step b (by rw [← ex, if_pos rfl]))
        clear ex hx0
        by_cases hn : (i : Int) + 1 - b > n
        · have HN := hid (HST.out.1 (by omega))
          go_wp2_with fail
          go_roundw
          case rel => exact ⟨i + 1, b, i + 1 - b, b, by omega, rfl, by go_num, rfl, by go_num, HN, HB⟩
          case measure => simp [intOf]; omega
        · have HN := hid (HST.out.2 (by omega))
          go_wp2_with fail
          go_roundw
          case rel => exact ⟨i + 1, a, n, b, by omega, rfl, rfl, rfl, by go_num, HN, HB⟩
          case measure => simp [intOf]; omega
      · have HST := hid (HR.out.step (i + 1) (by rw [← ex, if_neg (by omega)]))
        have HN := hid (HST.out.2 (by omega))
        clear ex
        go_wp2_with fail
        go_roundw
        case rel => exact ⟨i + 1, a, n, i + 1, by omega, rfl, rfl, by go_num, by go_num, HN, HB⟩
        case measure => simp [intOf]; omega
    · have hk' : i = 8 := by omega
      subst hk'
      have HQ := hid HR.out.best
      go_wp2_with fail
      go_ret2
      refine ⟨?_, HB.out⟩
      rw [HP.out, HQ.out]
      rfl
end Go.Proofs.YtocdjgehjiolhaaGreatDoor
namespace Go.Proofs.YtocdjgehjiolhaaGreatDoor
open Go.RowKit

theorem wraps_u16 (n : Int) (h₀ : 0 ≤ n) (h₁ : n < 2 ^ 16) : IntKind.u16.wrap n = n := by rw [IntKind.wrap_u16]; omega
theorem or16 (x y : Nat) (hx : x < 256) (hy : y < 256) : bits .or .u16 ((x : Int) * 256) (y : Int) = ((x * 256 + y : Nat) : Int) := by
  have := bits_join .u16 16 (by decide) wraps_u16 8 ((x : Int) * 256) (y : Int) (by omega) (by omega) (by omega) (by omega) (by omega) (by omega)
  exact this.trans (by omega)
/-- The first k groups, noughts behind them. -/
def gK (G : List Nat) (k : Nat) : List Nat := G.take k ++ List.replicate (8 - k) 0
theorem gK_len (G : List Nat) (h : G.length = 8) (k : Nat) (hk : k ≤ 8) : (gK G k).length = 8 := by simp [gK, h]; omega
theorem gK_set (G : List Nat) (h : G.length = 8) (k : Nat) (hk : k < 8) : (gcs (gK G k)).setIfInBounds k (.int .u16 (G.getD k 0 : Nat)) = gcs (gK G (k + 1)) := by
  have e : (gK G k).set k (G.getD k 0) = gK G (k + 1) := by
    unfold gK
    rw [List.set_append_right _ _ (by simp; omega), show 8 - k = (8 - (k + 1)) + 1 from by omega, List.replicate_succ, List.take_succ_eq_append_getElem (by omega)]
    simp only [List.length_take, h, Nat.min_eq_left (by omega : k ≤ 8), Nat.sub_self, List.set_cons_zero, List.append_assoc, List.cons_append, List.nil_append]
    rw [List.getD_eq_getElem?_getD, List.getElem?_eq_getElem (by omega)]
    rfl
  rw [← e]
  unfold gcs
  rw [List.setIfInBounds_toArray, List.map_set]
theorem gK_8 (G : List Nat) (h : G.length = 8) : gK G 8 = G := by
  unfold gK
  rw [List.take_of_length_le (by omega)]
  simp

set_option maxRecDepth 100000 in
set_option maxHeartbeats 2000000 in
theorem groups_any (v : Bool) (B : List UInt8) (hB : B.length = 16) (w : World) : Calls Tryz.prog 29 #[.agg (acs v B)] w fun e w' => e = .returned (.agg (gcs (toG B))) ∧ Below w.heap.size w w' := by
  have HC : Hid (∀ k, k < 16 → (acs v B)[k + 1]? = some (.int .u8 (B.getD k 0).toNat)) := fun k hk => acs_at v B k (by omega)
  have hGL : (toG B).length = 8 := by rw [toG_len, hB]
  have HGA : Hid (∀ k, k < 8 → (toG B).getD k 0 = (B.getD (2 * k) 0).toNat * 256 + (B.getD (2 * k + 1) 0).toNat) := fun k hk => toG_at B k (by omega)
  generalize toG B = G at hGL HGA ⊢
  have HGL := hid hGL
  have HZS : Hid ((gcs (gK G 0)).size = 8) := by show _ = _; rw [gcs_size, gK_len G hGL 0 (by omega)]
  clear hGL
  generalize acs v B = X at HC ⊢
  go_enter Tryz.func29, Tryz.ntmps29
  go_wp2_with fail
  go_loopw [5] (fun iv wx => ∃ k : Nat, k ≤ 8 ∧ iv = .int .i64 (k : Int) ∧ Hid (wx.heap[w.heap.size]? = some (.cells X 24 (0, 0))) ∧ Hid (wx.heap[w.heap.size + 1]? = some (.cells (gcs (gK G 0)) 60 (0, 0))) ∧ Hid (wx.heap[w.heap.size + 1 + 1]? = some (.cells (gcs (gK G k)) 60 (0, 0))) ∧ Hid (Below w.heap.size w wx)) (fun i _ => 8 - (intOf i).toNat)
  case atStart =>
    refine ⟨0, by omega, rfl, heap3_0 w _ _ _, heap3_1 w _ _ _, heap3_2 w _ _ _, alloc_below (alloc_below (alloc_below (Below.refl _ w) (Nat.le_refl _) _) (by simp) _) (by simp; omega) _⟩
  case round =>
    obtain ⟨k, hk, rfl, HX, HR, HG, HB⟩ := hrel
    by_cases hk8 : (k : Int) < 8
    · obtain ⟨x, hx⟩ : ∃ x, x = B.getD (2 * k) 0 := ⟨_, rfl⟩
      obtain ⟨y, hy⟩ : ∃ y, y = B.getD (2 * k + 1) 0 := ⟨_, rfl⟩
      have c1 : wr.cell? ⟨w.heap.size, 1 + 2 * k, none⟩ = some (.int .u8 x.toNat) := by
        rw [cell_of_row _ _ _ _ _ _ HX.out, Nat.add_comm, HC.out (2 * k) (by omega), hx]
      have c2 : wr.cell? ⟨w.heap.size, 1 + (2 * k + 1), none⟩ = some (.int .u8 y.toNat) := by
        rw [cell_of_row _ _ _ _ _ _ HX.out, Nat.add_comm, HC.out (2 * k + 1) (by omega), hy]
      have HV := HGA.out k (by omega)
      rw [← hx, ← hy] at HV
      have HV := hid HV
      have hx2 := x.toNat_lt
      have hy2 := y.toNat_lt
      have ho := or16 x.toNat y.toNat hx2 hy2
      obtain ⟨z, hz2⟩ : ∃ z, z = x.toNat * 256 + y.toNat := ⟨_, rfl⟩
      rw [← hz2] at ho HV
      clear hx hy hz2
      have cW : wr.cell? ⟨w.heap.size + 1 + 1, k, none⟩ = some (.int .u16 ((gK G k).getD k 0 : Nat)) := by
        rw [cell_of_row _ _ _ _ _ _ HG.out, gcs_at _ _ (by rw [gK_len G HGL.out k (by omega)]; omega)]
      have fW : wr.frozen? ⟨w.heap.size + 1 + 1, k, none⟩ = false := frozen_of_row _ _ _ _ _ HG.out
      have b1 : IntKind.i64.wrap (2 * (k : Int)) = 2 * (k : Int) := by rw [IntKind.wrap_i64]; omega
      have b2 : IntKind.i64.wrap (2 * (k : Int) + 1) = 2 * (k : Int) + 1 := by rw [IntKind.wrap_i64]; omega
      have b3 : (2 * (k : Int)).toNat = 2 * k := by omega
      have b4 : (2 * (k : Int) + 1).toNat = 2 * k + 1 := by omega
      have b5 : (2 * (k : Int)) < 16 := by omega
      have b6 : (2 * (k : Int) + 1) < 16 := by omega
      have b7 : 0 ≤ 2 * (k : Int) := by omega
      have b8 : 0 ≤ 2 * (k : Int) + 1 := by omega
      have b9 : IntKind.u16.wrap ((x.toNat : Int) * 256) = (x.toNat : Int) * 256 := wraps_u16 _ (by omega) (by omega)
      go_wp2_with fail
      go_region
      go_wp2_with fail
      go_roundw
      case rel =>
        refine ⟨k + 1, by omega, by go_num, ?_, ?_, ?_, ?_⟩
        · exact (heap_setCell_other _ _ _ _ (show w.heap.size ≠ w.heap.size + 1 + 1 by omega)).trans HX.out
        · exact (heap_setCell_other _ _ _ _ (show w.heap.size + 1 ≠ w.heap.size + 1 + 1 by omega)).trans HR.out
        · show _ = _
          rw [← gK_set G HGL.out k (by omega), HV.out]
          exact heap_setCell_same _ _ _ _ _ _ HG.out
        · exact (HB.out.trans ((only_set (w.heap.size + 1 + 1) k _ wr).below (by omega))).drew
      case measure => simp [intOf]; omega
    · have hk' : k = 8 := by omega
      subst hk'
      have hG := HG.out
      rw [gK_8 G HGL.out] at hG
      have HG8 := hid hG
      have HI := hid (gcs_info G HGL.out)
      have HONE := hid (gcs_one G)
      have HGS := hid (gcs_size G)
      clear hG HG
      go_wp2_with (first
        | (refine wpList_load_row rfl 60 _ rfl (w.heap.size + 1 + 1) rfl 60 (gcs G) (0, 0) _ HG8.out Tryz.underlying60 rfl HI.out ?_)
        | (refine wpList_store_abs rfl 60 _ _ rfl (w.heap.size + 1) 0 (gcs G) rfl rfl 60 _ HR.out (by rw [HGS.out, HZS.out, HGL.out]; exact Nat.le_refl _) HI.out HONE.out ?_)
        | fail)
      intro W hO hW
      rw [over_whole _ (gcs G) (by rw [HGS.out, HZS.out, HGL.out])] at hW
      go_wp2
      exact bodyPost_ret (results_cell_row Tryz.results29 _ _ (w.heap.size + 1) 60 (gcs G) (0, 0) _ rfl hW Tryz.underlying60 rfl HI.out) rfl ⟨rfl, HB.out.trans (hO.below (by omega))⟩
end Go.Proofs.YtocdjgehjiolhaaGreatDoor
