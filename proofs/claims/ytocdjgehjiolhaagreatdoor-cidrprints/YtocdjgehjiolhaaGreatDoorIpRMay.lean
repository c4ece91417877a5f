
/- What lanternref05.May does. -/
import Derived.Test.YtocdjgehjiolhaaGreatDoorIpRefE
namespace Go.Proofs.YtocdjgehjiolhaaGreatDoor
open Go.RowKit

theorem zer_getD (n k : Nat) : (zer n).getD k 0 = 0 := by
  unfold zer
  rw [List.getD_eq_getElem?_getD, List.getElem?_replicate]
  split <;> rfl
theorem may_six (B : List UInt8) (w : World) : Calls Tryz.prog 12 #[.agg (acs true B)] w fun e w' => e = .returned (.bool true) ∧ Below w.heap.size w w' := by
  have c0 := acs_zero true B
  generalize acs true B = X at c0 ⊢
  have HX0 := hid c0
  clear c0
  go_enter Tryz.func12, Tryz.ntmps12
  go_wp2_with fail
  obtain ⟨V, hV⟩ : ∃ V, V = w.alloc (Obj.cells X 24) := ⟨_, rfl⟩
  have HR : Hid (V.heap[w.heap.size]? = some (.cells X 24 (0, 0))) := by rw [hV]; exact heap_alloc_new w _
  have HB : Hid (Below w.heap.size w V) := by rw [hV]; exact alloc_below (Below.refl _ w) (Nat.le_refl _) _
  rw [← hV]
  clear hV
  have hc : V.cell? ⟨w.heap.size, 0, none⟩ = some (.bool true) := by rw [cell_of_row _ _ _ _ _ _ HR.out]; exact HX0.out
  go_loop [3] (fun iv => iv = .int .i64 0) (fun i => 12 - (intOf i).toNat)
  case atStart => rfl
  case round =>
    obtain rfl := hrel
    go_wp2_with fail
    go_ret
    exact ⟨rfl, HB.out⟩
set_option maxHeartbeats 2000000 in
theorem may_four (B : List UInt8) (hB : B.length = 16) (w : World) : Calls Tryz.prog 12 #[.agg (acs false B)] w fun e w' => e = .returned (.bool (decide (B.take 12 = zer 12))) ∧ Below w.heap.size w w' := by
  have c0 := acs_zero false B
  have HAT : Hid (∀ j, j < 16 → (acs false B)[1 + j]? = some (.int .u8 (B.getD j 0).toNat)) := fun j hj => by rw [Nat.add_comm]; exact acs_at false B j (by omega)
  generalize acs false B = X at c0 HAT ⊢
  have HX0 := hid c0
  clear c0
  obtain ⟨t, ht⟩ : ∃ t, t = decide (B.take 12 = zer 12) := ⟨_, rfl⟩
  rw [← ht]
  have HIS := hid ht
  clear ht
  go_enter Tryz.func12, Tryz.ntmps12
  go_wp2_with fail
  obtain ⟨V, hV⟩ : ∃ V, V = w.alloc (Obj.cells X 24) := ⟨_, rfl⟩
  have HR : Hid (V.heap[w.heap.size]? = some (.cells X 24 (0, 0))) := by rw [hV]; exact heap_alloc_new w _
  have HB : Hid (Below w.heap.size w V) := by rw [hV]; exact alloc_below (Below.refl _ w) (Nat.le_refl _) _
  rw [← hV]
  clear hV
  have hc0 : V.cell? ⟨w.heap.size, 0, none⟩ = some (.bool false) := by rw [cell_of_row _ _ _ _ _ _ HR.out]; exact HX0.out
  go_loop [3] (fun iv => ∃ k : Nat, k ≤ 12 ∧ iv = .int .i64 (k : Int) ∧ Hid (B.take k = (zer 12).take k)) (fun i => 12 - (intOf i).toNat)
  case atStart => exact ⟨0, by omega, rfl, rfl⟩
  case round =>
    obtain ⟨k, hk, rfl, HK⟩ := hrel
    by_cases hk12 : (k : Int) < 12
    · have hc : V.cell? ⟨w.heap.size, 1 + k, none⟩ = some (.int .u8 (B.getD k 0).toNat) := by rw [cell_of_row _ _ _ _ _ _ HR.out]; exact HAT.out k (by omega)
      have hz : (zer 12).getD k 0 = 0 := zer_getD 12 k
      have HYES : Hid (B.getD k 0 = 0 → B.take (k + 1) = (zer 12).take (k + 1)) := fun h => take_next B (zer 12) k (by omega) (by rw [zer_len]; omega) HK.out (by rw [h, hz])
      have HNO : Hid (B.getD k 0 ≠ 0 → t = false) := fun h => by
        rw [HIS.out, decide_eq_false_iff_not]
        intro h2
        exact take_ne B (zer 12) k 12 (by omega) (by rw [hz]; exact h) h2
      clear hz
      generalize B.getD k 0 = b at hc HYES HNO
      by_cases hb : b = 0
      · subst hb
        have HN := hid (HYES.out rfl)
        go_wp2_with fail
        go_round
        case rel => exact ⟨k + 1, by omega, by go_num, HN⟩
        case measure => simp [intOf]; omega
      · have HF := hid (HNO.out hb)
        have hbb : (((b.toNat : Nat) : Int) == 0) = false := by
          rw [beq_eq_false_iff_ne]; intro h; exact hb (UInt8.toNat_inj.1 (by simpa using (by omega : b.toNat = 0)))
        have hbn : ¬ b.toNat = 0 := fun h => hb (UInt8.toNat_inj.1 (by simpa using h))
        have hbi : ¬ ((b.toNat : Nat) : Int) = 0 := by omega
        have hbp : (b == 0) = false := by simpa using hb
        go_wp2_with fail
        go_ret
        exact ⟨by rw [HF.out]; rfl, HB.out⟩
    · have hk' : k = 12 := by omega
      subst hk'
      have HF : Hid (t = true) := by
        show _ = _
        rw [HIS.out]
        have : B.take 12 = zer 12 := HK.out
        simp [this]
      go_wp2_with fail
      go_ret
      exact ⟨by rw [HF.out]; rfl, HB.out⟩
end Go.Proofs.YtocdjgehjiolhaaGreatDoor
