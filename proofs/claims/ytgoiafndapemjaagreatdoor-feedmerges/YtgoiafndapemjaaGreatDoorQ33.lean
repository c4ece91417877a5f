import Derived.Test.YtgoiafndapemjaaGreatDoorQ08
import Derived.Laws.OwnMore
import Derived.Test.YtgoiafndapemjaaGreatDoorQ32
set_option linter.unusedVariables false
set_option linter.unusedSimpArgs false
set_option maxHeartbeats 1000000
namespace Go.Proofs.YtgoiafndapemjaaGreatDoor
open Go.RowKit
theorem turn_any (x : UInt32) (n : Nat) (w : World) (h1 : 1 ≤ n) (h2 : n ≤ 31) :
  Calls Tryz.prog 119 #[.int .u32 (nv x), .int .u64 (n : Int)] w fun e w' => e = .returned (.int .u32 (nv (rotr x n))) ∧ w' = w := by
 go_enter Tryz.func119, Tryz.ntmps119
 go_wp2
 go_ret
 exact ⟨by simp only [nv_rot']; rfl, rfl⟩
theorem turn2 (x : UInt32) (w : World) : Calls Tryz.prog 119 #[.int .u32 (nv x), .int .u64 2] w fun e w' => e = .returned (.int .u32 (nv (rotr x 2))) ∧ w' = w := turn_any x 2 w (by omega) (by omega)
theorem turn6 (x : UInt32) (w : World) : Calls Tryz.prog 119 #[.int .u32 (nv x), .int .u64 6] w fun e w' => e = .returned (.int .u32 (nv (rotr x 6))) ∧ w' = w := turn_any x 6 w (by omega) (by omega)
theorem turn7 (x : UInt32) (w : World) : Calls Tryz.prog 119 #[.int .u32 (nv x), .int .u64 7] w fun e w' => e = .returned (.int .u32 (nv (rotr x 7))) ∧ w' = w := turn_any x 7 w (by omega) (by omega)
theorem turn11 (x : UInt32) (w : World) : Calls Tryz.prog 119 #[.int .u32 (nv x), .int .u64 11] w fun e w' => e = .returned (.int .u32 (nv (rotr x 11))) ∧ w' = w := turn_any x 11 w (by omega) (by omega)
theorem turn13 (x : UInt32) (w : World) : Calls Tryz.prog 119 #[.int .u32 (nv x), .int .u64 13] w fun e w' => e = .returned (.int .u32 (nv (rotr x 13))) ∧ w' = w := turn_any x 13 w (by omega) (by omega)
theorem turn17 (x : UInt32) (w : World) : Calls Tryz.prog 119 #[.int .u32 (nv x), .int .u64 17] w fun e w' => e = .returned (.int .u32 (nv (rotr x 17))) ∧ w' = w := turn_any x 17 w (by omega) (by omega)
theorem turn18 (x : UInt32) (w : World) : Calls Tryz.prog 119 #[.int .u32 (nv x), .int .u64 18] w fun e w' => e = .returned (.int .u32 (nv (rotr x 18))) ∧ w' = w := turn_any x 18 w (by omega) (by omega)
theorem turn19 (x : UInt32) (w : World) : Calls Tryz.prog 119 #[.int .u32 (nv x), .int .u64 19] w fun e w' => e = .returned (.int .u32 (nv (rotr x 19))) ∧ w' = w := turn_any x 19 w (by omega) (by omega)
theorem turn22 (x : UInt32) (w : World) : Calls Tryz.prog 119 #[.int .u32 (nv x), .int .u64 22] w fun e w' => e = .returned (.int .u32 (nv (rotr x 22))) ∧ w' = w := turn_any x 22 w (by omega) (by omega)
theorem turn25 (x : UInt32) (w : World) : Calls Tryz.prog 119 #[.int .u32 (nv x), .int .u64 25] w fun e w' => e = .returned (.int .u32 (nv (rotr x 25))) ∧ w' = w := turn_any x 25 w (by omega) (by omega)
theorem be4_sum (a b c d : UInt8) : ((a.toNat : Int) % 4294967296 * 16777216 + (b.toNat : Int) % 4294967296 * 65536 + (c.toNat : Int) % 4294967296 * 256 + (d.toNat : Int)) % 4294967296 = nv (be4 a b c d) := by
 have := a.toNat_lt; have := b.toNat_lt; have := c.toNat_lt; have := d.toNat_lt
 unfold nv be4
 rw [u_of _ (by omega)]
 omega
theorem built36 : Tryz.prog.built 108 [] = some (wcs []) := by kernel_rfl
theorem wcs_one : (wcs []).all (·.oneCell') = true := by decide +kernel
theorem size36z : (Tryz.prog.info? 108).map (·.size) = some (wcs []).size := by kernel_rfl
theorem heap4_3 (w : World) (A B C D : Obj) : ((((w.alloc A).alloc B).alloc C).alloc D).heap[w.heap.size + 1 + 1 + 1]? = some D := by
 show ((((w.heap.push A).push B).push C).push D)[w.heap.size + 1 + 1 + 1]? = _
 rw [Array.getElem?_push, if_pos (by simp)]
theorem only_put {M k : Nat} {b : List UInt8} {W wr : World} (h : wr.heap[M]? = some (.cells (wcs (wl b k)) 108 (0, 0))) (ho : Only M W wr) (hk : k < 64) (x : UInt32) (hx : wl b (k + 1) = wl b k ++ [x]) (W2 : World) (h2 : W2.heap = wr.heap) (h3 : W2.os = wr.os) (h4 : W2.tape = wr.tape) (h5 : W2.output = wr.output) :
  (W2.setCell ⟨M, k, none⟩ (.int .u32 (nv x))).heap[M]? = some (.cells (wcs (wl b (k + 1))) 108 (0, 0)) ∧ Only M W (W2.setCell ⟨M, k, none⟩ (.int .u32 (nv x))) := by
 refine ⟨?_, ?_⟩
 ·rw [heap_setCell_same W2 M k _ 108 _ (by rw [h2]; exact h), hx, ← wcs_snoc _ _ (by rw [wl_len]; exact hk), wl_len]
 ·have := only_set M k (.int .u32 (nv x)) W2
  exact ⟨this.os.trans (h3.trans ho.os), this.tape.trans (h4.trans ho.tape), this.output.trans (h5.trans ho.output), this.size.trans (by rw [h2]; exact ho.size), fun j hj => (this.block j hj).trans (by rw [h2]; exact ho.block j hj)⟩
set_option maxRecDepth 100000 in
set_option maxHeartbeats 8000000 in
theorem step_any (s : St) (ks : List UInt32) (hks : ks.length = 64) (b : List UInt8) (q o cap : Nat) (w : World) (hq : q < w.heap.size)
  (hsrc : ∀ j, j < 64 → w.cell? ⟨q, o + j, none⟩ = some (.int .u8 (b.getD j 0).toNat)) :
  Calls Tryz.prog 85 #[.agg s.cs, .agg (wvs ks).toArray, .slice (some ⟨q, o, none⟩) 64 cap] w fun e w' => e = .returned (.agg (addS s (rnds ks (wl b 64) s 64)).cs) ∧ Below w.heap.size w w' := by
 have HLn : Hid ((wl b 64).length = 64) := wl_len b 64
 have HWL : Hid (∀ k, k = 64 → wl b k = wl b 64) := fun k hk => by rw [hk]
 have HTT : Hid (∀ R, R = rnds ks (wl b 64) s 64 → addS s (rnds ks (wl b 64) s 64) = addS s R) := fun R hR => by rw [hR]
 generalize addS s (rnds ks (wl b 64) s 64) = T at HTT ⊢
 generalize wl b 64 = L at HTT HLn HWL
 have HR : Hid (∀ k S, k = 64 → S = rnds ks L s k → T = addS s S) := fun k S hk hS => HTT.out S (by rw [hS, hk])
 clear HTT
 have HSRC := hid hsrc
 have HKS := hid hks
 have HBU := hid built36
 have HZ1 := hid wcs_one
 have HZ2 := hid size36z
 clear hsrc hks
 go_enter Tryz.func85, Tryz.ntmps85
 go_wp2_with (first
  | (refine wpList_built rfl 108 _ rfl (wcs []) HBU.out ?_)
  | (refine wpList_store_abs rfl 108 (.tmp 7) (.tmp 22) rfl (w.heap.size + 1 + 1 + 1) 0 (wcs []) rfl rfl 108 _ (heap4_3 _ _ _ _ _) (Nat.le_refl 64) HZ2.out HZ1.out ?_; intro W hO hW))
 have e3 := size3 w (.cells s.cs 107) (.cells (wvs ks).toArray 108) (.cells #[Value.int .u32 0, Value.int .u32 0, Value.int .u32 0, Value.int .u32 0, Value.int .u32 0, Value.int .u32 0, Value.int .u32 0, Value.int .u32 0] 107)
 have F := four_mk (w := w) (Y := wcs []) (Below.refl _ _) (by rw [e3]; exact hO) (by rw [e3]; exact hW) (by rfl)
 rw [e3] at F
 have HF := hid F
 have HB0 : Hid (∀ j, j < 64 → W.cell? ⟨q, o + j, none⟩ = some (.int .u8 (b.getD j 0).toNat)) := fun j hj => (F.bel.cell (p := ⟨q, o + j, none⟩) hq).trans (HSRC.out j hj)
 have hM : w.heap.size + 1 + 1 + 1 = w.heap.size + 3 := rfl
 clear hO hW F e3 HSRC HBU HZ1 HZ2
 obtain ⟨M, hMM⟩ : ∃ M, M = w.heap.size + 1 + 1 + 1 := ⟨_, rfl⟩
 rw [← hM, ← hMM] at HF
 rw [← hMM]
 have HMM := hid hMM
 have hqM : q ≠ M := by omega
 clear hM hMM
 go_wp2_with fail
 go_loopw [8] (fun i wr => ∃ k : Nat, k ≤ 64 ∧ i = .int .i64 k ∧ Hid (wr.heap[M]? = some (.cells (wcs (wl b k)) 108 (0, 0))) ∧ Hid (Only M W wr)) (fun i _ => 64 - (intOf i).toNat)
 case atStart => exact ⟨0, by omega, rfl, HF.out.d, rfl, rfl, rfl, rfl, fun _ _ => rfl⟩
 case round =>
  obtain ⟨k, hk, rfl, HA, HOn⟩ := hrel
  have hidc : ∀ j, j < k → wr.cell? ⟨M, j, none⟩ = some (.int .u32 (nv ((wl b k).getD j 0))) := fun j hj => by
   rw [cell_of_row _ _ _ _ _ _ HA.out, wcs_at _ _ (by rw [wl_len]; exact hj)]
  by_cases hlt : k < 64
  ·have hcW : wr.cell? ⟨M, k, none⟩ = some (.int .u32 0) := by
    rw [cell_of_row _ _ _ _ _ _ HA.out, wcs_open _ _ (by rw [wl_len]; exact Nat.le_refl _) hlt]
   have hfW : wr.frozen? ⟨M, k, none⟩ = false := frozen_of_row _ _ _ _ _ HA.out
   by_cases h16 : k < 16
   ·have hb4 : ∀ j, j < 64 → wr.cell? ⟨q, o + j, none⟩ = some (.int .u8 (b.getD j 0).toNat) := fun j hj => by
     rw [World.cell?_of_block (w := W) (HOn.out.block q hqM)]; exact HB0.out j hj
    obtain ⟨y0, e0⟩ : ∃ y, Hid (y = b.getD (4 * k) 0) := ⟨_, rfl⟩
    obtain ⟨y1, e1⟩ : ∃ y, Hid (y = b.getD (4 * k + 1) 0) := ⟨_, rfl⟩
    obtain ⟨y2, e2⟩ : ∃ y, Hid (y = b.getD (4 * k + 2) 0) := ⟨_, rfl⟩
    obtain ⟨y3, e3⟩ : ∃ y, Hid (y = b.getD (4 * k + 3) 0) := ⟨_, rfl⟩
    have c0 := hb4 (4 * k) (by omega)
    have c1 := hb4 (4 * k + 1) (by omega)
    have c2 := hb4 (4 * k + 2) (by omega)
    have c3 := hb4 (4 * k + 3) (by omega)
    rw [← e0.out] at c0
    rw [← e1.out] at c1
    rw [← e2.out] at c2
    rw [← e3.out] at c3
    have HW : Hid (wl b (k + 1) = wl b k ++ [be4 y0 y1 y2 y3]) := by show _ = _; rw [wl, if_pos h16, e0.out, e1.out, e2.out, e3.out]; rfl
    have r1 : IntKind.i64.wrap (4 * (k : Int) + 1) = 4 * (k : Int) + 1 := by rw [IntKind.wrap_i64]; omega
    have r2 : IntKind.i64.wrap (4 * (k : Int) + 2) = 4 * (k : Int) + 2 := by rw [IntKind.wrap_i64]; omega
    have r3 : IntKind.i64.wrap (4 * (k : Int) + 3) = 4 * (k : Int) + 3 := by rw [IntKind.wrap_i64]; omega
    have r4 : IntKind.i64.wrap (4 * (k : Int)) = 4 * (k : Int) := by rw [IntKind.wrap_i64]; omega
    clear hidc hb4
    go_wp2_with fail
    go_region
    go_wp2_with fail
    obtain ⟨p1, p2⟩ := only_put HA.out HOn.out hlt _ HW.out wr rfl rfl rfl rfl
    rw [be4_sum]
    go_roundw
    case rel => exact ⟨k + 1, by omega, by go_num, p1, p2.os, p2.tape, p2.output, p2.size, p2.block⟩
    case measure => simp [intOf]; omega
   ·obtain ⟨x2, e2⟩ : ∃ x, Hid (x = (wl b k).getD (k - 2) 0) := ⟨_, rfl⟩
    obtain ⟨x15, e15⟩ : ∃ x, Hid (x = (wl b k).getD (k - 15) 0) := ⟨_, rfl⟩
    obtain ⟨x7, e7⟩ : ∃ x, Hid (x = (wl b k).getD (k - 7) 0) := ⟨_, rfl⟩
    obtain ⟨x16, e16⟩ : ∃ x, Hid (x = (wl b k).getD (k - 16) 0) := ⟨_, rfl⟩
    have c2 := hidc (k - 2) (by omega)
    have c15 := hidc (k - 15) (by omega)
    have c7 := hidc (k - 7) (by omega)
    have c16 := hidc (k - 16) (by omega)
    rw [← e2.out] at c2
    rw [← e15.out] at c15
    rw [← e7.out] at c7
    rw [← e16.out] at c16
    have HW : Hid (wl b (k + 1) = wl b k ++ [((sig1 x2 + x7) + sig0 x15) + x16]) := by show _ = _; rw [wl, if_neg h16, e2.out, e7.out, e15.out, e16.out]; rfl
    have hx := nv_xor
    have ha := nv_add
    have h10 := nv_shr10
    have h3 := nv_shr3
    have b1 : (0 : Int) ≤ (k : Int) - 7 := by omega
    have b3 : (0 : Int) ≤ (k : Int) - 16 := by omega
    have b7 : IntKind.i64.wrap ((k : Int) - 7) = (k : Int) - 7 := by rw [IntKind.wrap_i64]; omega
    have b8 : IntKind.i64.wrap ((k : Int) - 16) = (k : Int) - 16 := by rw [IntKind.wrap_i64]; omega
    have b9 : ((k : Int) - 7).toNat = k - 7 := by omega
    have b10 : ((k : Int) - 16).toNat = k - 16 := by omega
    clear e2 e15 e7 e16 hidc
    go_wp2_with fail
    go_quiet ((first | (go_at_call_of 119 (Value.int .u64 7); exact Calls.quiet_of_same (turn7 _ _)) | (go_at_call_of 119 (Value.int .u64 18); exact Calls.quiet_of_same (turn18 _ _))))
    go_wp2_with fail
    have d2 : (wr.drewN nq).cell? ⟨M, k - 2, none⟩ = some (.int .u32 (nv x2)) := c2
    have d7 : (wr.drewN nq).cell? ⟨M, k - 7, none⟩ = some (.int .u32 (nv x7)) := c7
    have d16 : (wr.drewN nq).cell? ⟨M, k - 16, none⟩ = some (.int .u32 (nv x16)) := c16
    have dW : (wr.drewN nq).cell? ⟨M, k, none⟩ = some (.int .u32 0) := hcW
    have dF : (wr.drewN nq).frozen? ⟨M, k, none⟩ = false := hfW
    have hH : Hid ((wr.drewN nq).heap = wr.heap ∧ (wr.drewN nq).os = wr.os ∧ (wr.drewN nq).tape = wr.tape ∧ (wr.drewN nq).output = wr.output) := ⟨rfl, rfl, rfl, rfl⟩
    clear c2 c15 c7 c16 hcW hfW
    generalize wr.drewN nq = wd at d2 d7 d16 dW dF hH ⊢
    go_quiet ((first | (go_at_call_of 119 (Value.int .u64 17); exact Calls.quiet_of_same (turn17 _ _)) | (go_at_call_of 119 (Value.int .u64 19); exact Calls.quiet_of_same (turn19 _ _))))
    go_wp2_with fail
    go_region
    go_wp2_with fail
    obtain ⟨p1, p2⟩ := only_put HA.out HOn.out hlt _ HW.out (wd.drewN (nq + 1)) hH.out.1 hH.out.2.1 hH.out.2.2.1 hH.out.2.2.2
    exact ⟨⟨k + 1, by omega, by go_num, p1, p2⟩, by simp [intOf]; omega⟩
  ·have hrow := HA.out
   rw [HWL.out k (by omega), wcs_full L HLn.out] at hrow
   have HRW := hid hrow
   have HRK : Hid (wr.heap[w.heap.size + 1]? = some (.cells (wvs ks).toArray 108 (0, 0))) := (HOn.out.block _ (by have := HMM.out; omega)).trans HF.out.b
   have HRS : Hid (wr.heap[w.heap.size]? = some (.cells s.cs 107 (0, 0))) := (HOn.out.block _ (by have := HMM.out; omega)).trans HF.out.a
   have HRZ : Hid (wr.heap[w.heap.size + 1 + 1]? = _) := (HOn.out.block _ (by have := HMM.out; omega)).trans HF.out.c
   have HBW := hid (HF.out.bel.trans (HOn.out.below (by have := HMM.out; omega)))
   have hc : ∀ j v, s.cs[j]? = some v → wr.cell? ⟨w.heap.size, j, none⟩ = some v := fun j v hv => by
    rw [cell_of_row _ _ _ _ _ _ HRS.out]; exact hv
   have c0 : wr.cell? ⟨w.heap.size, 0, none⟩ = some (.int .u32 (nv s.a)) := hc 0 _ rfl
   have c1 : wr.cell? ⟨w.heap.size, 1, none⟩ = some (.int .u32 (nv s.b)) := hc 1 _ rfl
   have c2 : wr.cell? ⟨w.heap.size, 2, none⟩ = some (.int .u32 (nv s.c)) := hc 2 _ rfl
   have c3 : wr.cell? ⟨w.heap.size, 3, none⟩ = some (.int .u32 (nv s.d)) := hc 3 _ rfl
   have c4 : wr.cell? ⟨w.heap.size, 4, none⟩ = some (.int .u32 (nv s.e)) := hc 4 _ rfl
   have c5 : wr.cell? ⟨w.heap.size, 5, none⟩ = some (.int .u32 (nv s.f)) := hc 5 _ rfl
   have c6 : wr.cell? ⟨w.heap.size, 6, none⟩ = some (.int .u32 (nv s.g)) := hc 6 _ rfl
   have c7 : wr.cell? ⟨w.heap.size, 7, none⟩ = some (.int .u32 (nv s.h)) := hc 7 _ rfl
   clear hc hrow hidc HA HOn HF HB0 HWL
   go_wp2_with fail
   go_quiet (fail)
   go_wp2_with fail
   have HW2 : Hid (∃ n, wr.drewN nq = wr.drewN n) := ⟨_, rfl⟩
   go_loopw [11, 12, 13, 14, 15, 16, 17, 18, 19] (fun va vb vc vd ve vf vg vh i wz => ∃ (k : Nat) (S : St), k ≤ 64 ∧ i = .int .i64 k ∧ va = .int .u32 (nv S.a) ∧ vb = .int .u32 (nv S.b) ∧ vc = .int .u32 (nv S.c) ∧ vd = .int .u32 (nv S.d) ∧ ve = .int .u32 (nv S.e) ∧ vf = .int .u32 (nv S.f) ∧ vg = .int .u32 (nv S.g) ∧ vh = .int .u32 (nv S.h) ∧ Hid (S = rnds ks L s k) ∧ Hid (∃ n, wz = wr.drewN n)) (fun _ _ _ _ _ _ _ _ i _ => 64 - (intOf i).toNat)
   case atStart => exact ⟨0, s, by omega, rfl, rfl, rfl, rfl, rfl, rfl, rfl, rfl, rfl, rfl, _, rfl⟩
   case round =>
    obtain ⟨k2, S, hk2, rfl, rfl, rfl, rfl, rfl, rfl, rfl, rfl, rfl, HS, HW⟩ := hrel
    by_cases hlt : k2 < 64
    ·obtain ⟨x, ex⟩ : ∃ x, Hid (x = L.getD k2 0) := ⟨_, rfl⟩
     obtain ⟨y, ey⟩ : ∃ y, Hid (y = ks.getD k2 0) := ⟨_, rfl⟩
     have cx : wr.cell? ⟨M, k2, none⟩ = some (.int .u32 (nv x)) := by
      obtain ⟨n, hn⟩ := HW.out
      rw [hn, World.cell?_drewN, cell_of_row _ _ _ _ _ _ HRW.out, wvs_at L k2 (by rw [HLn.out]; exact hlt), ex.out]
     have cy : wr.cell? ⟨w.heap.size + 1, k2, none⟩ = some (.int .u32 (nv y)) := by
      obtain ⟨n, hn⟩ := HW.out
      rw [hn, World.cell?_drewN, cell_of_row _ _ _ _ _ _ HRK.out, wvs_at ks k2 (by rw [HKS.out]; exact hlt), ey.out]
     have hx := nv_xor
     have ha := nv_add
     have hand := nv_and
     have hnot := nv_not'
     go_wp2_with fail
     go_quiet ((first | (go_at_call_of 119 (Value.int .u64 6); exact Calls.quiet_of_same (turn6 _ _)) | (go_at_call_of 119 (Value.int .u64 11); exact Calls.quiet_of_same (turn11 _ _)) | (go_at_call_of 119 (Value.int .u64 25); exact Calls.quiet_of_same (turn25 _ _))))
     go_wp2_with (first
      | (go_at_call_of 119 (Value.int .u64 2); refine (turn2 _ _).mono ?_; rintro e w' ⟨rfl, rfl⟩)
      | (go_at_call_of 119 (Value.int .u64 13); refine (turn13 _ _).mono ?_; rintro e w' ⟨rfl, rfl⟩)
      | (go_at_call_of 119 (Value.int .u64 22); refine (turn22 _ _).mono ?_; rintro e w' ⟨rfl, rfl⟩))
     exact ⟨⟨k2 + 1, rnd S y x, by omega, by go_num, (by rw [nv_add]; exact rnd_a S y x), rnd_b S y x, rnd_c S y x, rnd_d S y x, (by rw [nv_add]; exact rnd_e S y x), rnd_f S y x, rnd_g S y x, rnd_h S y x, (by show _ = _; rw [rnds, ← HS.out, ← ex.out, ← ey.out]), (by obtain ⟨n, hn⟩ := HW.out; exact ⟨n + nq, by rw [hn, World.drewN_drewN]⟩)⟩, by simp [intOf]; omega⟩
    ·have HTT : Hid (T = addS s S) := HR.out k2 S (by omega) HS.out
     obtain ⟨n, hn⟩ := HW.out
     have HRS2 : Hid (wr.heap[w.heap.size]? = some (.cells s.cs 107 (0, 0))) := by rw [hn]; exact HRS.out
     have HRZ2 : Hid (wr.heap[w.heap.size + 1 + 1]? = some (.cells #[Value.int .u32 0, Value.int .u32 0, Value.int .u32 0, Value.int .u32 0, Value.int .u32 0, Value.int .u32 0, Value.int .u32 0, Value.int .u32 0] 107 (0, 0))) := by rw [hn]; exact HRZ.out
     have HBW2 : Hid (Below w.heap.size w wr) := by rw [hn]; exact HBW.out.trans (below_drewN _ _ _)
     have hc : ∀ j v, s.cs[j]? = some v → wr.cell? ⟨w.heap.size, j, none⟩ = some v := fun j v hv => by
      rw [cell_of_row _ _ _ _ _ _ HRS2.out]; exact hv
     have d0 : wr.cell? ⟨w.heap.size, 0, none⟩ = some (.int .u32 (nv s.a)) := hc 0 _ rfl
     have d1 : wr.cell? ⟨w.heap.size, 1, none⟩ = some (.int .u32 (nv s.b)) := hc 1 _ rfl
     have d2 : wr.cell? ⟨w.heap.size, 2, none⟩ = some (.int .u32 (nv s.c)) := hc 2 _ rfl
     have d3 : wr.cell? ⟨w.heap.size, 3, none⟩ = some (.int .u32 (nv s.d)) := hc 3 _ rfl
     have d4 : wr.cell? ⟨w.heap.size, 4, none⟩ = some (.int .u32 (nv s.e)) := hc 4 _ rfl
     have d5 : wr.cell? ⟨w.heap.size, 5, none⟩ = some (.int .u32 (nv s.f)) := hc 5 _ rfl
     have d6 : wr.cell? ⟨w.heap.size, 6, none⟩ = some (.int .u32 (nv s.g)) := hc 6 _ rfl
     have d7 : wr.cell? ⟨w.heap.size, 7, none⟩ = some (.int .u32 (nv s.h)) := hc 7 _ rfl
     have ha := nv_add
     have HOT := hid (cs_one (addS s S))
     have HI35 := hid (size35' (addS s S))
     clear hc hn HR HS HRS HRZ HRK HRW HBW HLn HKS
     go_wp2_with (refine wpList_store_abs rfl 107 (.tmp 6) (.tmp 224) rfl (w.heap.size + 1 + 1) 0 (addS s S).cs rfl rfl 107 _ HRZ2.out (Nat.le_refl 8) HI35.out HOT.out ?_; intro W2 hO2 hW2)
     rw [over8 _ (addS s S) (by rfl)] at hW2
     rw [HTT.out]
     exact bodyPost_ret (v := .agg (addS s S).cs) (results_cell_row (p := 6) (ty := 107) Tryz.results85 _ _ (w.heap.size + 1 + 1) 107 _ (0, 0) (.array 8 106) rfl hW2 Tryz.underlying107 rfl HI35.out) rfl ⟨rfl, HBW2.out.trans (hO2.below (by omega))⟩
theorem built_H0 : Tryz.prog.built 107 [(0, Value.int .u32 1779033703), (1, Value.int .u32 3144134277), (2, Value.int .u32 1013904242), (3, Value.int .u32 2773480762), (4, Value.int .u32 1359893119), (5, Value.int .u32 2600822924), (6, Value.int .u32 528734635), (7, Value.int .u32 1541459225)] = some H0.cs := by kernel_rfl
theorem built_KS : Tryz.prog.built 108 [(0, Value.int .u32 1116352408), (1, Value.int .u32 1899447441), (2, Value.int .u32 3049323471), (3, Value.int .u32 3921009573), (4, Value.int .u32 961987163), (5, Value.int .u32 1508970993), (6, Value.int .u32 2453635748), (7, Value.int .u32 2870763221), (8, Value.int .u32 3624381080), (9, Value.int .u32 310598401), (10, Value.int .u32 607225278), (11, Value.int .u32 1426881987), (12, Value.int .u32 1925078388), (13, Value.int .u32 2162078206), (14, Value.int .u32 2614888103), (15, Value.int .u32 3248222580), (16, Value.int .u32 3835390401), (17, Value.int .u32 4022224774), (18, Value.int .u32 264347078), (19, Value.int .u32 604807628), (20, Value.int .u32 770255983), (21, Value.int .u32 1249150122), (22, Value.int .u32 1555081692), (23, Value.int .u32 1996064986), (24, Value.int .u32 2554220882), (25, Value.int .u32 2821834349), (26, Value.int .u32 2952996808), (27, Value.int .u32 3210313671), (28, Value.int .u32 3336571891), (29, Value.int .u32 3584528711), (30, Value.int .u32 113926993), (31, Value.int .u32 338241895), (32, Value.int .u32 666307205), (33, Value.int .u32 773529912), (34, Value.int .u32 1294757372), (35, Value.int .u32 1396182291), (36, Value.int .u32 1695183700), (37, Value.int .u32 1986661051), (38, Value.int .u32 2177026350), (39, Value.int .u32 2456956037), (40, Value.int .u32 2730485921), (41, Value.int .u32 2820302411), (42, Value.int .u32 3259730800), (43, Value.int .u32 3345764771), (44, Value.int .u32 3516065817), (45, Value.int .u32 3600352804), (46, Value.int .u32 4094571909), (47, Value.int .u32 275423344), (48, Value.int .u32 430227734), (49, Value.int .u32 506948616), (50, Value.int .u32 659060556), (51, Value.int .u32 883997877), (52, Value.int .u32 958139571), (53, Value.int .u32 1322822218), (54, Value.int .u32 1537002063), (55, Value.int .u32 1747873779), (56, Value.int .u32 1955562222), (57, Value.int .u32 2024104815), (58, Value.int .u32 2227730452), (59, Value.int .u32 2361852424), (60, Value.int .u32 2428436474), (61, Value.int .u32 2756734187), (62, Value.int .u32 3204031479), (63, Value.int .u32 3329325298)] = some (wvs KSs).toArray := by kernel_rfl
theorem size36k : (Tryz.prog.info? 108).map (·.size) = some (wvs KSs).toArray.size := size36
theorem results_two_rows {P : Program} {fn : Func} {p p' : Tmp} {ty ty' : TypeId} (h : fn.results = #[.cell p ty, .cell p' ty']) (tmps : Array Value) (w : World) (g g' : Nat) (t t' : TypeId) (cs cs' : Array Value) (fr fr' : Nat × Nat) (d d' : TypeDesc)
  (hp : tmps[p]? = some (.pointer (some ⟨g, 0, none⟩))) (hp' : tmps[p']? = some (.pointer (some ⟨g', 0, none⟩))) (hg : w.heap[g]? = some (.cells cs t fr)) (hg' : w.heap[g']? = some (.cells cs' t' fr')) (hu : P.underlying ty = some d) (hu' : P.underlying ty' = some d') (hd : (match d with | .struct _ | .array _ _ => true | _ => false) = true) (hd' : (match d' with | .struct _ | .array _ _ => true | _ => false) = true) (hi : (P.info? ty).map (·.size) = some cs.size) (hi' : (P.info? ty').map (·.size) = some cs'.size) :
  (results fn tmps).run P w = .ok (.tuple #[.agg cs, .agg cs']) w := by
 simp [results, h, hp, hp', asAddr, run_loadVar_row w g t ty cs fr d hg hu hd hi, run_loadVar_row w g' t' ty' cs' fr' d' hg' hu' hd' hi']
set_option maxRecDepth 100000 in
theorem consts_any (w : World) :
  Calls Tryz.prog 84 #[] w fun e w' => e = .returned (.tuple #[.agg H0.cs, .agg (wvs KSs).toArray]) ∧ Below w.heap.size w w' := by
 have HB1 := hid built_H0
 have HB2 := hid built_KS
 have HS1 := hid (size35' H0)
 have HS2 := hid size36k
 have HO1 := hid (cs_one H0)
 have HO2 := hid (wvs_one KSs)
 have HZ1 : Hid (H0.cs.size = 8) := rfl
 have HZ2 : Hid ((wvs KSs).toArray.size = 64) := rfl
 have HL : Hid (wvs KSs = (wvs KSs).toArray.toList) := rfl
 generalize (wvs KSs).toArray = C2 at HB2 HS2 HO2 HZ2 HL ⊢
 generalize H0.cs = C1 at HB1 HS1 HO1 HZ1 ⊢
 go_enter Tryz.func84, Tryz.ntmps84
 go_wp2_with (first
  | (refine wpList_built rfl 107 _ rfl C1 HB1.out ?_)
  | (refine wpList_built rfl 108 _ rfl C2 HB2.out ?_)
  | (refine wpList_store_abs rfl 107 (.tmp 0) (.tmp 2) rfl w.heap.size 0 C1 rfl rfl 107 _ (heap_alloc2_old w _ _) (by rw [HZ1.out]; exact Nat.le_refl 8) HS1.out HO1.out ?_; intro W1 hO1 hW1)
  | (refine wpList_store_abs rfl 108 (.tmp 1) (.tmp 3) rfl (w.heap.size + 1) 0 C2 rfl rfl 108 _ ((hO1.block _ (by omega)).trans (heap_alloc2_new w _ _)) (by rw [HZ2.out]; exact Nat.le_refl 64) HS2.out HO2.out ?_; intro W2 hO2 hW2))
 rw [over_whole _ C1 (by rw [HZ1.out]; rfl)] at hW1
 rw [over_whole _ C2 (by rw [HZ2.out]; rfl)] at hW2
 have hW3 := (hO2.block w.heap.size (by omega)).trans hW1
 have hB : Below w.heap.size w W2 := ((((Below.refl _ _).alloc (Nat.le_refl _) _).alloc (by simp) _).trans (hO1.below (Nat.le_refl _))).trans (hO2.below (by omega))
 exact bodyPost_ret (v := .tuple #[.agg C1, .agg C2]) (results_two_rows (p := 0) (p' := 1) (ty := 107) (ty' := 108) Tryz.results84 _ _ w.heap.size (w.heap.size + 1) 107 108 C1 C2 (0, 0) (0, 0) (.array 8 106) (.array 64 106) rfl rfl hW3 hW2 Tryz.underlying107 Tryz.underlying108 rfl rfl HS1.out HS2.out) rfl ⟨rfl, hB⟩
end Go.Proofs.YtgoiafndapemjaaGreatDoor
