
/- What mac.padded and mac.Of do. -/
import Derived.Test.YtggbianodoneeaaDoorMac
namespace Go.Proofs.YtggbianodoneeaaDoor
open Go.RowKit
set_option linter.unusedSimpArgs false
set_option linter.unusedVariables false

theorem mixB_len (b : List UInt8) (p : UInt8) (k : Nat) : (xorB (b.take k) p ++ b.drop k).length = b.length := by simp [xorB]; omega
theorem mixB_at (b : List UInt8) (p : UInt8) (k : Nat) (h : k < b.length) : (xorB (b.take k) p ++ b.drop k).getD k 0 = b.getD k 0 := by
  rw [List.getD_eq_getElem?_getD, List.getElem?_append_right (by simp [xorB]; omega)]
  have e : k - (xorB (b.take k) p).length = 0 := by simp [xorB]; omega
  rw [e, List.getElem?_drop, List.getD_eq_getElem?_getD, Nat.add_zero]
theorem mixB_set (b : List UInt8) (p : UInt8) (k : Nat) (h : k < b.length) (y : UInt8) (hy : y = b.getD k 0 ^^^ p) : (bcs (xorB (b.take k) p ++ b.drop k)).setIfInBounds k (.int .u8 y.toNat) = bcs (xorB (b.take (k + 1)) p ++ b.drop (k + 1)) := by
  have e : (xorB (b.take k) p ++ b.drop k).set k y = xorB (b.take (k + 1)) p ++ b.drop (k + 1) := by
    rw [List.set_append_right _ _ (by simp [xorB]; omega)]
    have e0 : k - (xorB (b.take k) p).length = 0 := by simp [xorB]; omega
    rw [e0, List.drop_eq_getElem_cons h, List.set_cons_zero, List.take_succ_eq_append_getElem h, hy, List.getD_eq_getElem?_getD, List.getElem?_eq_getElem h]
    unfold xorB
    rw [List.map_append, List.append_assoc]
    rfl
  rw [← e]
  simp [bcs, List.map_set]

set_option maxRecDepth 100000 in
set_option maxHeartbeats 2000000 in
theorem padded_any (b : List UInt8) (hb : b.length = 64) (p : UInt8) (m : List UInt8) (A : Option Addr) (cap : Nat) (w : World) (hT : TabS w) (hA : BytesAt w A m) (hcap : m.length ≤ cap) (hlen : m.length ≤ 100000) :
    Calls Tryd.prog 41 #[.agg (bcs b), .int .u8 (p.toNat : Int), .slice A m.length cap] w fun e w' => e = .returned (.agg (bcs (sha (xorB b p ++ m)))) ∧ Below w.heap.size w w' := by
  have HT := hid hT
  have hT1 := hT.lt
  have HA := hid hA
  have HBL := hid hb
  have HN := hid new_any
  have HXL : Hid ((xorB b p).length = 64) := by show _ = _; rw [xorB_len, hb]
  have HX0 : Hid (∀ k, 64 ≤ k → xorB (b.take k) p ++ b.drop k = xorB b p) := fun k hk => by rw [List.take_of_length_le (by omega), List.drop_of_length_le (by omega), List.append_nil]
  have HWR : Hid (∀ (g : Nat) (all l : List UInt8) (A : Option Addr) (c : Nat) (W : World), TabS W → 1 < g → W.heap[g]? = some (.cells (hash all).toArray 75 (0, 0)) → BytesAt W A l → (∀ x, A = some x → 0 < l.length → x.block ≠ g) → l.length ≤ c → all.length + l.length ≤ 1000000 →
      Calls Tryd.prog 38 #[.pointer (some ⟨g, 0, none⟩), .slice A l.length c] W fun e w' => e = .returned (.tuple #[]) ∧ w'.heap[g]? = some (.cells (hash (all ++ l)).toArray 75 (0, 0)) ∧ Keeps g W w') := write_at
  have HSU : Hid (∀ W g, TabS W → W.heap[g]? = some (.cells (hash (xorB b p ++ m)).toArray 75 (0, 0)) → Calls Tryd.prog 39 #[.pointer (some ⟨g, 0, none⟩)] W fun e w' => e = .returned (.agg (bcs (sha (xorB b p ++ m)))) ∧ Below W.heap.size W w') := fun W g h1 h2 => sum_hash g _ W h1 h2 (by rw [List.length_append, xorB_len, hb]; omega)
  have HSL := hid (sha_len (xorB b p ++ m))
  generalize sha (xorB b p ++ m) = D at HSU HSL ⊢
  have HH0 : Hid ((hcs H0 (zer 64) 0 true).toArray = (hash []).toArray) := rfl
  have HB2 : Hid (∀ o1 o2, Below w.heap.size w ((w.alloc o1).alloc o2)) := fun o1 o2 => ((Below.refl _ _).alloc (Nat.le_refl _) o1).alloc (by simp) o2
  have HP : Hid (∀ c : UInt8, ∃ y : UInt8, y = c ^^^ p ∧ bits .xor .u8 (c.toNat : Int) (p.toNat : Int) = (y.toNat : Int)) := fun c => ⟨_, rfl, u8_xor c p⟩
  clear hT hA hb
  go_enter Tryd.func41, Tryd.ntmps41
  go_wp2_with fail
  go_loopw [9] (fun v wr => ∃ k : Nat, k ≤ 64 ∧ v = .int .i64 k ∧ Hid (wr.heap[w.heap.size]? = some (.cells (bcs (xorB (b.take k) p ++ b.drop k)) 69 (0, 0))) ∧ Hid (wr.heap[w.heap.size + 1]? = some (.cells (bcs (zer 32)) 54 (0, 0))) ∧ Hid (Below w.heap.size w wr)) (fun v _ => 64 - (intOf v).toNat)
  case atStart => exact ⟨0, by omega, rfl, heap_alloc2_old w _ _, heap_alloc2_new w _ _, HB2.out _ _⟩
  case round =>
    obtain ⟨k, hk, rfl, HX, HZ, HB⟩ := hrel
    by_cases hlt : k < 64
    · obtain ⟨x, hx⟩ : ∃ x, Hid (x = b.getD k 0) := ⟨_, rfl⟩
      obtain ⟨y, hy, hxy⟩ := HP.out x
      have HY : Hid (y = b.getD k 0 ^^^ p) := by show _ = _; rw [hy, hx.out]
      have cx : wr.cell? ⟨w.heap.size, k, none⟩ = some (.int .u8 x.toNat) := by
        rw [cell_of_row _ _ _ _ _ _ HX.out, bcs_at _ _ (by rw [mixB_len, HBL.out]; exact hlt), mixB_at b p k (by rw [HBL.out]; exact hlt), hx.out]
      have fx : wr.frozen? ⟨w.heap.size, k, none⟩ = false := frozen_of_row _ _ _ _ _ HX.out
      clear hy
      go_wp2_with fail
      go_roundw
      case rel =>
        refine ⟨k + 1, by omega, by go_num, ?_, ?_, ?_⟩
        · show _ = _
          rw [heap_setCell_same _ _ _ _ _ _ HX.out, mixB_set b p k (by rw [HBL.out]; exact hlt) y HY.out]
        · show _ = _
          rw [heap_setCell_other _ _ _ _ (by simp)]; exact HZ.out
        · exact Below.setCell (p := ⟨w.heap.size, k, none⟩) HB.out (by simp) _
      case measure => simp [intOf]; omega
    · have hX := HX.out
      rw [HX0.out k (by omega)] at hX
      have HXX := hid hX
      have hz : w.heap.size + 1 < wr.heap.size := (Array.getElem?_eq_some_iff.1 HZ.out).1
      clear hX HX HX0 HP
      generalize xorB b p = X at HXX HXL HSU
      go_wp2_with fail
      refine (HN.out _ (HT.out.below HB.out hT1)).mono ?_
      rintro e w1 ⟨rfl, hw1⟩
      rw [HH0.out] at hw1
      have HB1 : Hid (Below w.heap.size w w1) := by rw [hw1]; exact HB.out.alloc (by omega) _
      have HR1 : Hid (w1.heap[wr.heap.size]? = some (.cells (hash []).toArray 75 (0, 0))) := by rw [hw1]; exact heap_alloc_new wr _
      have HX1 : Hid (w1.heap[w.heap.size]? = some (.cells (bcs X) 69 (0, 0))) := by show _ = _; rw [hw1, Below.heap_alloc wr _ _ (by omega)]; exact HXX.out
      have HZ1 : Hid (w1.heap[w.heap.size + 1]? = some (.cells (bcs (zer 32)) 54 (0, 0))) := by show _ = _; rw [hw1, Below.heap_alloc wr _ _ (by omega)]; exact HZ.out
      have hz1 : w1.heap.size = wr.heap.size + 1 := by rw [hw1]; simp
      clear hw1 HB HXX HZ HN HH0
      have h64 : X.length = 64 := HXL.out
      have HW1 := hid (HWR.out wr.heap.size [] X (some ⟨w.heap.size, 0, none⟩) 64 w1 (HT.out.below HB1.out hT1) (by omega) HR1.out (BytesAt.of_row HX1.out) (fun x hx _ => by cases hx; show w.heap.size ≠ _; omega) (by omega) (by simp; omega))
      rw [h64, List.nil_append] at HW1
      generalize wr.heap.size = G at HR1 hz hz1 HW1 ⊢
      clear h64
      go_wp2_with fail
      refine HW1.out.mono ?_
      rintro e w2 ⟨rfl, hr2, hk2⟩
      have hz2 : w1.heap.size ≤ w2.heap.size := hk2.size
      have HB2' : Hid (Below w.heap.size w w2) := HB1.out.trans (hk2.below (by omega) (by omega))
      have HZ2 := hid ((hk2.block (w.heap.size + 1) (by omega) (by omega)).trans HZ1.out)
      have HR2 := hid hr2
      clear hr2 hk2 HW1 HR1 HX1 HZ1 HB1
      have HW2 := hid (HWR.out G X m A cap w2 (HT.out.below HB2'.out hT1) (by omega) HR2.out (HA.out.below HB2'.out (Nat.le_refl _)) (fun x hx h0 => by
        obtain ⟨q, o, h1, h2, _⟩ := HA.out h0
        rw [h1] at hx; cases hx
        show q ≠ G; omega) hcap (by rw [HXL.out]; omega))
      go_wp2_with fail
      refine HW2.out.mono ?_
      rintro e w3 ⟨rfl, hr3, hk3⟩
      have hz3 : w2.heap.size ≤ w3.heap.size := hk3.size
      have HB3 : Hid (Below w.heap.size w w3) := HB2'.out.trans (hk3.below (by omega) (by omega))
      have HZ3 := hid ((hk3.block (w.heap.size + 1) (by omega) (by omega)).trans HZ2.out)
      have HR3 := hid hr3
      clear hr3 hk3 HW2 HR2 HZ2 HB2'
      go_wp2_with fail
      refine (HSU.out _ G (HT.out.below HB3.out hT1) HR3.out).mono ?_
      rintro e w4 ⟨rfl, hb4⟩
      have HZ4 := hid ((hb4.block (w.heap.size + 1) (by omega)).trans HZ3.out)
      have HB4 := hid (HB3.out.trans (hb4.mono (by omega)))
      clear hb4
      go_wp2_with (refine wpList_store_abs rfl 54 (.tmp 6) (.tmp 27) rfl (w.heap.size + 1) 0 (bcs D) rfl rfl 54 _ HZ4.out (by rw [bcs_size, bcs_size, HSL.out]; exact Nat.le_refl 32) (size24' D HSL.out) (bvs_one D) ?_; intro W9 hO9 hW9)
      rw [over_bytes _ D (by rw [bcs_size, HSL.out]; rfl)] at hW9
      exact bodyPost_ret (v := .agg (bcs D)) (results_cell_row (p := 6) (ty := 54) Tryd.results41 _ _ (w.heap.size + 1) 54 _ (0, 0) (.array 32 5) rfl hW9 Tryd.underlying54 rfl (size24' D HSL.out)) rfl ⟨rfl, HB4.out.trans (hO9.below (by omega))⟩

end Go.Proofs.YtggbianodoneeaaDoor
