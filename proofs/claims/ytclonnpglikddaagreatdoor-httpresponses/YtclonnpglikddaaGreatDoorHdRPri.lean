
/- Headers put together: what the reference's Print does. -/
import Derived.Test.YtclonnpglikddaaGreatDoorHdPri
namespace Go.Proofs.YtclonnpglikddaaGreatDoor
set_option linter.unusedVariables false
set_option linter.unusedSimpArgs false
open Go.RowKit Go.BigFrame

theorem src_asS (w : World) (x : List UInt8) (S : ByteArray) (hS : S = asS x) (m : Nat) (hm : S.size = m) : Src Tryz.prog 1 9 (.string S) m (bvs x) w := by
  subst hS hm
  exact src_text w (asS x)
theorem src_pair (w : World) (a b : UInt8) (x y : Int) (hx : x = (a.toNat : Int)) (hy : y = (b.toNat : Int)) (c : Nat) : Src Tryz.prog 1 23 (.slice (some ⟨w.heap.size, 0, none⟩) 2 c) 2 (bvs [a, b]) (w.alloc (.cells #[.int .u8 x, .int .u8 y] 5)) := by
  subst hx hy
  exact src_bytes (l := [a, b]) (BytesAt.of_row (heap_alloc_new w (.cells (bcs [a, b]) 5))) c (fun _ => .inr ⟨_, rfl⟩)
set_option maxHeartbeats 4000000 in
set_option maxRecDepth 100000 in
theorem refPrint_any (l : List HdV) (A : Option Addr) (c : Nat) (hl : l.length ≤ 100) (hz : sizeH l ≤ 20000) (w : World) (hA : HdsAt w A l) : Calls Tryz.prog 63 #[.slice A l.length c] w fun e w' => ∃ g cap, e = .returned (.slice (some ⟨g, 0, none⟩) (sizeH l) cap) ∧ Own w' w.heap.size g (sizeH l) cap (printH l) ∧ Below w.heap.size w w' := by
  have HA := hid hA
  have HSP := hid (size_part l)
  have HBT := hid (body_take l)
  have HBL := hid body_len
  have HALL : Hid (l.take l.length = l) := List.take_length
  have HHL : Hid (∀ k, k < l.length → hdl (l.getD k zeroH) ≤ 20000) := fun k hk => Nat.le_trans (hdl_le l k hk) hz
  have HPR := hid (body_print l)
  have hlz : sizeH l = (bodyH l).length + 2 := (body_len l).symm
  clear hA
  generalize hn : l.length = n at hl HA HALL HHL HBT ⊢
  have HN := hid hn
  clear hn
  generalize sizeH l = sz at hz hlz HSP ⊢
  have HLZ := hid hlz
  clear hlz
  generalize printH l = PR at HPR ⊢
  go_enter Tryz.func63, Tryz.ntmps63
  go_wp2_with fail
  have HO0 := hid (Own.zero w w.heap.size (Nat.le_refl _))
  have HB0 := hid (alloc_below (Below.refl w.heap.size w) (Nat.le_refl _) (.cells #[] 5))
  go_loopw [3, 4] (fun d i wr => ∃ k : Nat, k ≤ n ∧ i = .int .i64 (k : Int) ∧ ∃ g bn cap, d = .slice (some ⟨g, 0, none⟩) bn cap ∧ Hid (Own wr w.heap.size g bn cap (bodyH (l.take k))) ∧ Hid (Below w.heap.size w wr)) (fun d i wr => n - (intOf i).toNat)
  case atStart => exact ⟨0, Nat.zero_le _, rfl, _, _, _, rfl, HO0, HB0⟩
  case round =>
    obtain ⟨k, hk, rfl, g, bn, cap, rfl, HO, HB⟩ := hrel
    by_cases hlt : k < n
    · have hi : (k : Int) < (n : Int) := by omega
      have HQ := hid (HA.out (by have := HN.out; omega))
      obtain ⟨q, o, hq, hqs, hcs⟩ := HQ.out
      have hc := hcs k (by have := HN.out; omega)
      have k1 := (HB.out.cell (p := ⟨q, o + k * 2, none⟩) hqs).trans hc.1
      have HK2 : Hid (∀ W, Below w.heap.size w W → W.cell? ⟨q, o + k * 2 + 1, none⟩ = some (.string (asS (l.getD k zeroH).value))) := fun W hb => (hb.cell (p := ⟨q, o + k * 2 + 1, none⟩) hqs).trans hc.2
      clear hcs hc hqs HQ
      subst hq
      have hhl := HHL.out k hlt
      have HBT2 := hid (HBT.out k hlt)
      have hzk : bn ≤ 20000 := by have := HBL.out (l.take k); have := HSP.out k; have := HO.out.len; omega
      unfold hdl at hhl
      unfold lineH at HBT2
      generalize (l.getD k zeroH).name = nm at k1 hhl HBT2
      generalize (l.getD k zeroH).value = vl at HK2 hhl HBT2
      have hN : (asS nm).size ≤ 20000 := by rw [asS_size]; omega
      have hV : (asS vl).size ≤ 20000 := by rw [asS_size]; omega
      have HSN := hid (fun W => src_asS W nm (asS nm) rfl _ rfl)
      have HSV := hid (fun W => src_asS W vl (asS vl) rfl _ rfl)
      generalize asS nm = N at k1 hN HSN
      generalize asS vl = V at HK2 hV HSV
      generalize N.size = m1 at hN HSN
      generalize V.size = m2 at hV HSV
      clear hhl
      generalize hbk : bodyH (l.take k) = bk at HO HBT2
      clear hbk
      go_wp2_with (first
        | (refine wpList_own rfl _ _ 9 rfl w.heap.size g bn cap m1 bk nm (.string N) rfl rfl HO.out (HSN.out _) (by omega) HB.out.size ?_)
        | fail)
      intro g1 cap1 W1 hown1 hg1 hor1
      have HB1 := hid (HO.out.grown HB.out HB.out.size hg1)
      have HO1 := hid (hown1.alloc (.cells #[.int .u8 58, .int .u8 32] 5))
      have HB2 := hid (alloc_below HB1.out HB1.out.size (.cells #[.int .u8 58, .int .u8 32] 5))
      have HS2 := hid (src_pair W1 58 32 58 32 rfl rfl 2)
      clear hown1 hg1 hor1 k1
      go_wp2_with (first
        | (refine wpList_own rfl _ _ 23 rfl w.heap.size g1 (bn + m1) cap1 2 _ [58, 32] _ rfl rfl HO1.out HS2.out (by omega) HB2.out.size ?_)
        | fail)
      intro g2 cap2 W2 hown2 hg2 hor2
      have HB3 := hid (HO1.out.grown HB2.out HB2.out.size hg2)
      have HO3 := hid hown2
      have k2 := HK2.out W2 HB3.out
      clear hown2 hg2 hor2
      go_wp2_with (first
        | (refine wpList_own rfl _ _ 9 rfl w.heap.size g2 (bn + m1 + 2) cap2 m2 _ vl (.string V) rfl rfl HO3.out (HSV.out _) (by omega) HB3.out.size ?_)
        | fail)
      intro g3 cap3 W3 hown3 hg3 hor3
      have HB4 := hid (HO3.out.grown HB3.out HB3.out.size hg3)
      have HO4 := hid (hown3.alloc (.cells #[.int .u8 13, .int .u8 10] 5))
      have HB5 := hid (alloc_below HB4.out HB4.out.size (.cells #[.int .u8 13, .int .u8 10] 5))
      have HS5 := hid (src_pair W3 13 10 13 10 rfl rfl 2)
      clear hown3 hg3 hor3 k2
      go_wp2_with (first
        | (refine wpList_own rfl _ _ 23 rfl w.heap.size g3 (bn + m1 + 2 + m2) cap3 2 _ [13, 10] _ rfl rfl HO4.out HS5.out (by omega) HB5.out.size ?_)
        | fail)
      intro g4 cap4 W4 hown4 hg4 hor4
      have HB6 := hid (HO4.out.grown HB5.out HB5.out.size hg4)
      have HO6 := hid hown4
      clear hown4 hg4 hor4
      go_wp2_with fail
      go_roundw
      case rel => exact ⟨k + 1, by omega, by go_num, _, _, _, rfl, by
        rw [HBT2.out]
        have := HO6.out
        refine hid ?_
        simpa using this, HB6⟩
      case measure => simp [intOf]; omega
    · have hi : ¬ (k : Int) < (n : Int) := by omega
      have HK : Hid (l.take k = l) := by
        show _ = _
        rw [show k = n from by omega, HALL.out]
      have HO1 : Hid (Own (wr.alloc (.cells #[.int .u8 13, .int .u8 10] 5)) w.heap.size g bn cap (bodyH l)) := by have := HO.out; rw [HK.out] at this; exact this.alloc _
      obtain rfl : sz = bn + 2 := by rw [HLZ.out, HO1.out.len]
      have HB1 := hid (alloc_below HB.out HB.out.size (.cells #[.int .u8 13, .int .u8 10] 5))
      have HS1 := hid (src_pair wr 13 10 13 10 rfl rfl 2)
      clear HLZ HO
      go_wp2_with (first
        | (refine wpList_own rfl _ _ 23 rfl w.heap.size g bn cap 2 (bodyH l) [13, 10] _ rfl rfl HO1.out HS1.out (by omega) HB1.out.size ?_)
        | fail)
      intro g2 cap2 W4 hown4 hg4 hor4
      have HB4 := hid (HO1.out.grown HB1.out HB1.out.size hg4)
      have HO4 := hid hown4
      clear hown4 hg4 hor4
      go_wp2_with fail
      go_ret
      exact ⟨_, cap2, rfl, by rw [HPR.out]; exact HO4.out, HB4.out⟩
end Go.Proofs.YtclonnpglikddaaGreatDoor
