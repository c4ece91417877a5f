
/- What ip.groupsOf does. -/
import Derived.Test.YtocdjgehjiolhaaGreatDoorIpRun
namespace Go.Proofs.YtocdjgehjiolhaaGreatDoor
open Go.RowKit

theorem wraps_u16 (n : Int) (h₀ : 0 ≤ n) (h₁ : n < 2 ^ 16) : IntKind.u16.wrap n = n := by rw [IntKind.wrap_u16]; omega
theorem or16 (x y : Nat) (hx : x < 256) (hy : y < 256) : bits .or .u16 ((x : Int) * 256) (y : Int) = ((x * 256 + y : Nat) : Int) := by
  have := bits_join .u16 16 (by decide) wraps_u16 8 ((x : Int) * 256) (y : Int) (by omega) (by omega) (by omega) (by omega) (by omega) (by omega)
  exact this.trans (by omega)
/-- The first k groups, noughts behind them. -/
def gK (G : List Nat) (k : Nat) : List Nat := G.take k ++ List.replicate (8 - k) 0
theorem gK_len (G : List Nat) (h : G.length = 8) (k : Nat) (hk : k ≤ 8) : (gK G k).length = 8 := by simp [gK, h]; omega
theorem gK_set (G : List Nat) (h : G.length = 8) (k : Nat) (hk : k < 8) : (gcs (gK G k)).setIfInBounds k (.int .u16 (G.getD k 0 : Nat)) = gcs (gK G (k + 1)) := by
  have e : (gK G k).set k (G.getD k 0) = gK G (k + 1) := by
    unfold gK
    rw [List.set_append_right _ _ (by simp; omega), show 8 - k = (8 - (k + 1)) + 1 from by omega, List.replicate_succ, List.take_succ_eq_append_getElem (by omega)]
    simp only [List.length_take, h, Nat.min_eq_left (by omega : k ≤ 8), Nat.sub_self, List.set_cons_zero, List.append_assoc, List.cons_append, List.nil_append]
    rw [List.getD_eq_getElem?_getD, List.getElem?_eq_getElem (by omega)]
    rfl
  rw [← e]
  unfold gcs
  rw [List.setIfInBounds_toArray, List.map_set]
theorem gK_8 (G : List Nat) (h : G.length = 8) : gK G 8 = G := by
  unfold gK
  rw [List.take_of_length_le (by omega)]
  simp

set_option maxRecDepth 100000 in
set_option maxHeartbeats 2000000 in
theorem groups_any (v : Bool) (B : List UInt8) (hB : B.length = 16) (w : World) : Calls Tryz.prog 29 #[.agg (acs v B)] w fun e w' => e = .returned (.agg (gcs (toG B))) ∧ Below w.heap.size w w' := by
  have HC : Hid (∀ k, k < 16 → (acs v B)[k + 1]? = some (.int .u8 (B.getD k 0).toNat)) := fun k hk => acs_at v B k (by omega)
  have hGL : (toG B).length = 8 := by rw [toG_len, hB]
  have HGA : Hid (∀ k, k < 8 → (toG B).getD k 0 = (B.getD (2 * k) 0).toNat * 256 + (B.getD (2 * k + 1) 0).toNat) := fun k hk => toG_at B k (by omega)
  generalize toG B = G at hGL HGA ⊢
  have HGL := hid hGL
  have HZS : Hid ((gcs (gK G 0)).size = 8) := by show _ = _; rw [gcs_size, gK_len G hGL 0 (by omega)]
  clear hGL
  generalize acs v B = X at HC ⊢
  go_enter Tryz.func29, Tryz.ntmps29
  go_wp2_with fail
  go_loopw [5] (fun iv wx => ∃ k : Nat, k ≤ 8 ∧ iv = .int .i64 (k : Int) ∧ Hid (wx.heap[w.heap.size]? = some (.cells X 24 (0, 0))) ∧ Hid (wx.heap[w.heap.size + 1]? = some (.cells (gcs (gK G 0)) 60 (0, 0))) ∧ Hid (wx.heap[w.heap.size + 1 + 1]? = some (.cells (gcs (gK G k)) 60 (0, 0))) ∧ Hid (Below w.heap.size w wx)) (fun i _ => 8 - (intOf i).toNat)
  case atStart =>
    refine ⟨0, by omega, rfl, heap3_0 w _ _ _, heap3_1 w _ _ _, heap3_2 w _ _ _, alloc_below (alloc_below (alloc_below (Below.refl _ w) (Nat.le_refl _) _) (by simp) _) (by simp; omega) _⟩
  case round =>
    obtain ⟨k, hk, rfl, HX, HR, HG, HB⟩ := hrel
    by_cases hk8 : (k : Int) < 8
    · obtain ⟨x, hx⟩ : ∃ x, x = B.getD (2 * k) 0 := ⟨_, rfl⟩
      obtain ⟨y, hy⟩ : ∃ y, y = B.getD (2 * k + 1) 0 := ⟨_, rfl⟩
      have c1 : wr.cell? ⟨w.heap.size, 1 + 2 * k, none⟩ = some (.int .u8 x.toNat) := by
        rw [cell_of_row _ _ _ _ _ _ HX.out, Nat.add_comm, HC.out (2 * k) (by omega), hx]
      have c2 : wr.cell? ⟨w.heap.size, 1 + (2 * k + 1), none⟩ = some (.int .u8 y.toNat) := by
        rw [cell_of_row _ _ _ _ _ _ HX.out, Nat.add_comm, HC.out (2 * k + 1) (by omega), hy]
      have HV := HGA.out k (by omega)
      rw [← hx, ← hy] at HV
      have HV := hid HV
      have hx2 := x.toNat_lt
      have hy2 := y.toNat_lt
      have ho := or16 x.toNat y.toNat hx2 hy2
      obtain ⟨z, hz2⟩ : ∃ z, z = x.toNat * 256 + y.toNat := ⟨_, rfl⟩
      rw [← hz2] at ho HV
      clear hx hy hz2
      have cW : wr.cell? ⟨w.heap.size + 1 + 1, k, none⟩ = some (.int .u16 ((gK G k).getD k 0 : Nat)) := by
        rw [cell_of_row _ _ _ _ _ _ HG.out, gcs_at _ _ (by rw [gK_len G HGL.out k (by omega)]; omega)]
      have fW : wr.frozen? ⟨w.heap.size + 1 + 1, k, none⟩ = false := frozen_of_row _ _ _ _ _ HG.out
      have b1 : IntKind.i64.wrap (2 * (k : Int)) = 2 * (k : Int) := by rw [IntKind.wrap_i64]; omega
      have b2 : IntKind.i64.wrap (2 * (k : Int) + 1) = 2 * (k : Int) + 1 := by rw [IntKind.wrap_i64]; omega
      have b3 : (2 * (k : Int)).toNat = 2 * k := by omega
      have b4 : (2 * (k : Int) + 1).toNat = 2 * k + 1 := by omega
      have b5 : (2 * (k : Int)) < 16 := by omega
      have b6 : (2 * (k : Int) + 1) < 16 := by omega
      have b7 : 0 ≤ 2 * (k : Int) := by omega
      have b8 : 0 ≤ 2 * (k : Int) + 1 := by omega
      have b9 : IntKind.u16.wrap ((x.toNat : Int) * 256) = (x.toNat : Int) * 256 := wraps_u16 _ (by omega) (by omega)
      go_wp2_with fail
      go_region
      go_wp2_with fail
      go_roundw
      case rel =>
        refine ⟨k + 1, by omega, by go_num, ?_, ?_, ?_, ?_⟩
        · exact (heap_setCell_other _ _ _ _ (show w.heap.size ≠ w.heap.size + 1 + 1 by omega)).trans HX.out
        · exact (heap_setCell_other _ _ _ _ (show w.heap.size + 1 ≠ w.heap.size + 1 + 1 by omega)).trans HR.out
        · show _ = _
          rw [← gK_set G HGL.out k (by omega), HV.out]
          exact heap_setCell_same _ _ _ _ _ _ HG.out
        · exact (HB.out.trans ((only_set (w.heap.size + 1 + 1) k _ wr).below (by omega))).drew
      case measure => simp [intOf]; omega
    · have hk' : k = 8 := by omega
      subst hk'
      have hG := HG.out
      rw [gK_8 G HGL.out] at hG
      have HG8 := hid hG
      have HI := hid (gcs_info G HGL.out)
      have HONE := hid (gcs_one G)
      have HGS := hid (gcs_size G)
      clear hG HG
      go_wp2_with (first
        | (refine wpList_load_row rfl 60 _ rfl (w.heap.size + 1 + 1) rfl 60 (gcs G) (0, 0) _ HG8.out Tryz.underlying60 rfl HI.out ?_)
        | (refine wpList_store_abs rfl 60 _ _ rfl (w.heap.size + 1) 0 (gcs G) rfl rfl 60 _ HR.out (by rw [HGS.out, HZS.out, HGL.out]; exact Nat.le_refl _) HI.out HONE.out ?_)
        | fail)
      intro W hO hW
      rw [over_whole _ (gcs G) (by rw [HGS.out, HZS.out, HGL.out])] at hW
      go_wp2
      exact bodyPost_ret (results_cell_row Tryz.results29 _ _ (w.heap.size + 1) 60 (gcs G) (0, 0) _ rfl hW Tryz.underlying60 rfl HI.out) rfl ⟨rfl, HB.out.trans (hO.below (by omega))⟩
end Go.Proofs.YtocdjgehjiolhaaGreatDoor
