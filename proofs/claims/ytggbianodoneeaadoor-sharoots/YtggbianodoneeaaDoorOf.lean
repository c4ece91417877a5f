
/- What sha.Of does; Write, Sum and Len of a Hash that New did not give. -/
import Derived.Test.YtggbianodoneeaaDoorSum
namespace Go.Proofs.YtggbianodoneeaaDoor
open Go.RowKit

def sha (l : List UInt8) : List UInt8 := fin (stOf l) (restOf l) l.length
theorem fin_len (s : St) (r : List UInt8) (n : Nat) : (fin s r n).length = 32 := by
  unfold fin; split <;> exact dig_len _
theorem sha_len (l : List UInt8) : (sha l).length = 32 := fin_len _ _ _
theorem sum_hash (g : Nat) (l : List UInt8) (w : World) (hT : TabS w) (hg : w.heap[g]? = some (.cells (hash l).toArray 75 (0, 0))) (hn : l.length ≤ 1000000) :
    Calls Tryd.prog 39 #[.pointer (some ⟨g, 0, none⟩)] w fun e w' => e = .returned (.agg (bcs (sha l))) ∧ Below w.heap.size w w' :=
  sum_any g (stOf l) (restOf l) l.length w hT (rest_len l) hg hn

set_option maxRecDepth 100000 in
set_option maxHeartbeats 1000000 in
theorem of_any (l : List UInt8) (A : Option Addr) (cap q o : Nat) (w : World) (hT : TabS w) (hA : 0 < l.length → A = some ⟨q, o, none⟩) (hqs : q < w.heap.size)
    (hsrc : ∀ j, j < l.length → w.cell? ⟨q, o + j, none⟩ = some (.int .u8 (l.getD j 0).toNat)) (hcap : l.length ≤ cap) (hlen : l.length ≤ 1000000) :
    Calls Tryd.prog 25 #[.slice A l.length cap] w fun e w' => e = .returned (.agg (bcs (sha l))) ∧ Below w.heap.size w w' := by
  have HT := hid hT
  have hT1 := hT.lt
  have HN := hid new_any
  have HWR : Hid (∀ W g, TabS W → 1 < g → W.heap[g]? = some (.cells (hash []).toArray 75 (0, 0)) → q ≠ g → q < W.heap.size → (∀ j, j < l.length → W.cell? ⟨q, o + j, none⟩ = some (.int .u8 (l.getD j 0).toNat)) →
      Calls Tryd.prog 38 #[.pointer (some ⟨g, 0, none⟩), .slice A l.length cap] W fun e w' => e = .returned (.tuple #[]) ∧ w'.heap[g]? = some (.cells (hash l).toArray 75 (0, 0)) ∧ Keeps g W w') := fun W g h1 h2 h3 h4 h5 h6 =>
    write_any g [] l A cap q o W h1 h2 h3 hA h4 h5 h6 hcap (by simpa using hlen)
  have HSU : Hid (∀ W g, TabS W → W.heap[g]? = some (.cells (hash l).toArray 75 (0, 0)) → Calls Tryd.prog 39 #[.pointer (some ⟨g, 0, none⟩)] W fun e w' => e = .returned (.agg (bcs (sha l))) ∧ Below W.heap.size W w') := fun W g h1 h2 => sum_hash g l W h1 h2 hlen
  have HSRC := hid hsrc
  have HFL := hid (sha_len l)
  have HH0 : Hid ((hcs H0 (zer 64) 0 true).toArray = (hash []).toArray) := rfl
  generalize sha l = F at HSU HFL ⊢
  clear hT hsrc hA
  go_enter Tryd.func25, Tryd.ntmps25
  go_wp2_with fail
  refine (HN.out _ ?_).mono ?_
  · exact HT.out.below ((Below.refl _ _).alloc (Nat.le_refl _) _) hT1
  rintro e w1 ⟨rfl, hw1⟩
  rw [HH0.out] at hw1
  have hz1 : w1.heap.size = w.heap.size + 1 + 1 := by rw [hw1]; simp
  have hb1 : Below w.heap.size w w1 := by rw [hw1]; exact ((Below.refl _ _).alloc (Nat.le_refl _) _).alloc (by simp) _
  have hr1 : w1.heap[w.heap.size + 1]? = some (.cells (hash []).toArray 75 (0, 0)) := by rw [hw1]; exact heap_alloc2_new w _ _
  have hr0 : w1.heap[w.heap.size]? = some (.cells (bcs (zer 32)) 54 (0, 0)) := by rw [hw1]; exact heap_alloc2_old w _ _
  clear hw1
  have HB1 := hid hb1
  have HR1 := hid hr1
  have HR0 := hid hr0
  have HZ1 := hid hz1
  clear hb1 hr1 hr0 hz1
  go_wp2_with fail
  refine (HWR.out _ (w.heap.size + 1) (HT.out.below HB1.out hT1) (by omega) HR1.out (by omega) (by rw [HZ1.out]; omega) (fun j hj => (HB1.out.cell (p := ⟨q, o + j, none⟩) hqs).trans (HSRC.out j hj))).mono ?_
  rintro e w2 ⟨rfl, hr2, hk2⟩
  have HB2 := hid (HB1.out.trans (hk2.below (B := w.heap.size) (by omega) (by rw [HZ1.out]; omega)))
  have HR2 := hid hr2
  have HR3 := hid ((hk2.block w.heap.size (by rw [HZ1.out]; omega) (by omega)).trans HR0.out)
  clear hr2 hk2
  go_wp2_with fail
  refine (HSU.out _ (w.heap.size + 1) (HT.out.below HB2.out hT1) HR2.out).mono ?_
  rintro e w3 ⟨rfl, hb3⟩
  have hsz : w.heap.size < w2.heap.size := (Array.getElem?_eq_some_iff.1 HR3.out).1
  have HR4 := hid ((hb3.block _ hsz).trans HR3.out)
  have HB3 := hid (HB2.out.trans (hb3.mono (Nat.le_of_lt hsz)))
  clear hb3
  go_wp2_with (refine wpList_store_abs rfl 54 (.tmp 2) (.tmp 9) rfl w.heap.size 0 (bcs F) rfl rfl 54 _ HR4.out (by rw [bcs_size, bcs_size, HFL.out]; exact Nat.le_refl 32) (size24' F HFL.out) (bvs_one F) ?_; intro W2 hO2 hW2)
  rw [over_bytes _ F (by rw [bcs_size, HFL.out]; rfl)] at hW2
  exact bodyPost_ret (v := .agg (bcs F)) (results_cell_row (p := 2) (ty := 54) Tryd.results25 _ _ w.heap.size 54 _ (0, 0) (.array 32 5) rfl hW2 Tryd.underlying54 rfl (size24' F HFL.out)) rfl ⟨rfl, HB3.out.trans (hO2.below (Nat.le_refl _))⟩

theorem of_nil (w : World) (hT : TabS w) : Calls Tryd.prog 25 #[.slice none 0 0] w fun e w' => e = .returned (.agg (bcs (sha []))) ∧ Below w.heap.size w w' :=
  of_any [] none 0 0 0 w hT (fun h => absurd h (by simp)) (Nat.lt_trans Nat.zero_lt_one hT.lt) (fun j hj => absurd hj (by simp)) (by simp) (by simp)

set_option maxHeartbeats 1000000 in
theorem write_nil (v : Value) (w : World) : Calls Tryd.prog 38 #[.pointer none, v] w fun e w' => e = .returned (.tuple #[]) ∧ w' = w := by
  go_enter Tryd.func38, Tryd.ntmps38
  go_wp2
  exact bodyPost_ret (v := .tuple #[]) (by simp [results, Tryd.results38, go_sem]) rfl ⟨rfl, rfl⟩
set_option maxHeartbeats 1000000 in
theorem write_un (g : Nat) (s : St) (r : List UInt8) (n : Nat) (v : Value) (w : World) (hr : r.length = 64) (h : w.heap[g]? = some (.cells (hcs s r n false).toArray 75 (0, 0))) :
    Calls Tryd.prog 38 #[.pointer (some ⟨g, 0, none⟩), v] w fun e w' => e = .returned (.tuple #[]) ∧ w' = w := by
  have hm := hash_m hr h
  clear h hr
  go_enter Tryd.func38, Tryd.ntmps38
  go_wp2
  exact bodyPost_ret (v := .tuple #[]) (by simp [results, Tryd.results38, go_sem]) rfl ⟨rfl, rfl⟩

set_option maxRecDepth 100000 in
set_option maxHeartbeats 1000000 in
theorem sum_none (g : Option Nat) (w : World) (hT : TabS w) (hg : ∀ b, g = some b → w.cell? ⟨b, 73, none⟩ = some (.bool false)) :
    Calls Tryd.prog 39 #[.pointer (g.map fun b => ⟨b, 0, none⟩)] w fun e w' => e = .returned (.agg (bcs (sha []))) ∧ Below w.heap.size w w' := by
  have HT := hid hT
  have HO := hid of_nil
  have HFL := hid (sha_len [])
  generalize sha [] = F at HO HFL ⊢
  have hT1 := hT.lt
  clear hT
  have fin : ∀ w1, Below (w.alloc (.cells (bcs (zer 32)) 54)).heap.size (w.alloc (.cells (bcs (zer 32)) 54)) w1 → w1.heap[w.heap.size]? = some (.cells (bcs (zer 32)) 54 (0, 0)) ∧ Below w.heap.size w w1 := fun w1 h => by
    refine ⟨(h.block _ (by simp)).trans (heap_alloc_new w _), ((Below.refl _ _).alloc (Nat.le_refl _) _).trans (h.mono (by simp))⟩
  have HFN := hid fin
  clear fin
  cases g with
  | none =>
    clear hg
    go_enter Tryd.func39, Tryd.ntmps39
    go_wp2_with fail
    refine (HO.out _ ?_).mono ?_
    · exact HT.out.below ((Below.refl _ _).alloc (Nat.le_refl _) _) hT1
    rintro e w1 ⟨rfl, hb1⟩
    obtain ⟨hr4, hb4⟩ := HFN.out w1 hb1
    have HR4 := hid hr4
    have HB4 := hid hb4
    clear hb1 hr4 hb4
    go_wp2_with (refine wpList_store_abs rfl 54 (.tmp 2) (.tmp 16) rfl w.heap.size 0 (bcs F) rfl rfl 54 _ HR4.out (by rw [bcs_size, bcs_size, HFL.out]; exact Nat.le_refl 32) (size24' F HFL.out) (bvs_one F) ?_; intro W2 hO2 hW2)
    rw [over_bytes _ F (by rw [bcs_size, HFL.out]; rfl)] at hW2
    exact bodyPost_ret (v := .agg (bcs F)) (results_cell_row (p := 2) (ty := 54) Tryd.results39 _ _ w.heap.size 54 _ (0, 0) (.array 32 5) rfl hW2 Tryd.underlying54 rfl (size24' F HFL.out)) rfl ⟨rfl, HB4.out.trans (hO2.below (Nat.le_refl _))⟩
  | some b =>
    have hm := hg b rfl
    clear hg
    have hbl : b < w.heap.size := block_lt_of_cell hm
    go_enter Tryd.func39, Tryd.ntmps39
    go_wp2_with fail
    refine (HO.out _ ?_).mono ?_
    · exact HT.out.below ((Below.refl _ _).alloc (Nat.le_refl _) _) hT1
    rintro e w1 ⟨rfl, hb1⟩
    obtain ⟨hr4, hb4⟩ := HFN.out w1 hb1
    have HR4 := hid hr4
    have HB4 := hid hb4
    clear hb1 hr4 hb4
    go_wp2_with (refine wpList_store_abs rfl 54 (.tmp 2) (.tmp 16) rfl w.heap.size 0 (bcs F) rfl rfl 54 _ HR4.out (by rw [bcs_size, bcs_size, HFL.out]; exact Nat.le_refl 32) (size24' F HFL.out) (bvs_one F) ?_; intro W2 hO2 hW2)
    rw [over_bytes _ F (by rw [bcs_size, HFL.out]; rfl)] at hW2
    exact bodyPost_ret (v := .agg (bcs F)) (results_cell_row (p := 2) (ty := 54) Tryd.results39 _ _ w.heap.size 54 _ (0, 0) (.array 32 5) rfl hW2 Tryd.underlying54 rfl (size24' F HFL.out)) rfl ⟨rfl, HB4.out.trans (hO2.below (Nat.le_refl _))⟩

end Go.Proofs.YtggbianodoneeaaDoor
