
/- The digest of three bytes, reckoned by the kernel. -/
import Derived.Test.YtggbianodoneeaaDoorHex
import Derived.Lib.SlBytesConst
namespace Go.Proofs.YtggbianodoneeaaDoor

def ABC : List UInt8 := [98, 97, 55, 56, 49, 54, 98, 102, 56, 102, 48, 49, 99, 102, 101, 97, 52, 49, 52, 49, 52, 48, 100, 101, 53, 100, 97, 101, 50, 50, 50, 51, 98, 48, 48, 51, 54, 49, 97, 51, 57, 54, 49, 55, 55, 97, 57, 99, 98, 52, 49, 48, 102, 102, 54, 49, 102, 50, 48, 48, 49, 53, 97, 100]
set_option maxRecDepth 100000 in
theorem hex_abc : hexB (sha [97, 98, 99]) = ABC := by decide +kernel

open Go.RowKit
set_option maxRecDepth 100000 in
set_option maxHeartbeats 1000000 in
theorem awake_any (w : World) (hT : TabS w) : Calls Tryd.prog 12 #[] w fun e w' => e = .returned (.bool true) ∧ Below w.heap.size w w' := by
  have HT := hid hT
  have hT1 := hT.lt
  have HOF : Hid (∀ W, TabS W → W.heap[w.heap.size]? = some (.cells #[.int .u8 97, .int .u8 98, .int .u8 99] 5 (3, 4)) → Calls Tryd.prog 25 #[.slice (some ⟨w.heap.size, 0, none⟩) 3 3] W fun e w' => e = .returned (.agg (bcs (sha [97, 98, 99]))) ∧ Below W.heap.size W w') := fun W h1 h2 => by
    refine of_any [97, 98, 99] _ 3 w.heap.size 0 W h1 (fun _ => rfl) (Array.getElem?_eq_some_iff.1 h2).1 (fun j hj => ?_) (Nat.le_refl 3) (by decide)
    rw [cell_of_row _ _ _ _ _ _ h2]
    match j, hj with
    | 0, _ => rfl
    | 1, _ => rfl
    | 2, _ => rfl
  have HFL := hid (sha_len [97, 98, 99])
  have HHX : Hid (∀ W M, W.heap[M]? = some (.cells (bcs (sha [97, 98, 99])) 54 (0, 0)) → Calls Tryd.prog 26 #[.slice (some ⟨M, 0, none⟩) 32 32] W fun e w' => e = .returned (.string ⟨#[98, 97, 55, 56, 49, 54, 98, 102, 56, 102, 48, 49, 99, 102, 101, 97, 52, 49, 52, 49, 52, 48, 100, 101, 53, 100, 97, 101, 50, 50, 50, 51, 98, 48, 48, 51, 54, 49, 97, 51, 57, 54, 49, 55, 55, 97, 57, 99, 98, 52, 49, 48, 102, 102, 54, 49, 102, 50, 48, 48, 49, 53, 97, 100]⟩) ∧ Below W.heap.size W w') := fun W M h => by
    have := hex_any (sha [97, 98, 99]) (some ⟨M, 0, none⟩) 32 M 0 W (fun _ => rfl) (Array.getElem?_eq_some_iff.1 h).1 (fun j hj => by rw [cell_of_row _ _ _ _ _ _ h, Nat.zero_add, bcs_at _ _ hj]) (by rw [sha_len]; decide)
    rw [hex_abc, sha_len] at this
    exact this
  generalize sha [97, 98, 99] = D at HOF HHX HFL
  clear hT
  go_enter Tryd.func12, Tryd.ntmps12
  have hcv := Lib.run_convert_bytes_const (P := Tryd.prog) w 31 5 #[.int .u8 97, .int .u8 98, .int .u8 99] 3 3 Tryd.underlying31 Tryd.underlying5
  go_wp2_with fail
  refine (HOF.out _ ?_ (heap_alloc_new w _)).mono ?_
  · exact HT.out.below ((Below.refl _ _).alloc (Nat.le_refl _) _) hT1
  rintro e w1 ⟨rfl, hb1⟩
  have HB1 := hid (((Below.refl w.heap.size w).alloc (Nat.le_refl _) _).trans (hb1.mono (by simp)))
  have hz1 : w.heap.size < w1.heap.size := by have := hb1.size; simp at this; omega
  clear hb1 hcv
  have HI := hid (size24' D HFL.out)
  have HO := hid (bvs_one D)
  go_wp2_with (refine wpList_store_abs rfl 54 (.tmp 1) (.tmp 4) rfl w1.heap.size 0 (bcs D) rfl rfl 54 _ (heap_alloc_new w1 _) (by rw [bcs_size, HFL.out]; exact Nat.le_refl 32) HI.out HO.out ?_; intro W2 hO2 hW2)
  rw [over_bytes _ D (by rw [HFL.out]; rfl)] at hW2
  have HB2 := hid ((HB1.out.alloc (Nat.le_of_lt hz1) _).trans (hO2.below (Nat.le_of_lt hz1)))
  have hz2 : w.heap.size ≤ W2.heap.size := HB2.out.size
  have HW2 := hid hW2
  clear hO2 hW2
  go_wp2_with fail
  refine (HHX.out _ _ HW2.out).mono ?_
  rintro e w3 ⟨rfl, hb3⟩
  have HB3 := hid (HB2.out.trans (hb3.mono hz2))
  clear hb3
  go_wp2_with fail
  go_ret
  exact ⟨rfl, HB3.out⟩

end Go.Proofs.YtggbianodoneeaaDoor
