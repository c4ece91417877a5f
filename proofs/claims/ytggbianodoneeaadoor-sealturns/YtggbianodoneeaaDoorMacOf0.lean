
/- What mac.Of does. -/
import Derived.Test.YtggbianodoneeaaDoorPadded
namespace Go.Proofs.YtggbianodoneeaaDoor
open Go.RowKit
set_option linter.unusedSimpArgs false
set_option linter.unusedVariables false

theorem store24_any {w : World} {g : Nat} {cs : Array Value} (h : w.heap[g]? = some (.cells cs 54 (0, 0))) (hs : cs.size = 32) (D : List UInt8) (hD : D.length = 32) :
    ∃ W, (storeI 54 (.pointer (some ⟨g, 0, none⟩)) (.agg (bcs D))).run Tryd.prog w = .ok () W ∧ Only g w W ∧ W.heap[g]? = some (.cells (bcs D) 54 (0, 0)) := by
  refine ⟨_, run_storeAt_mid w g 0 54 (bcs D) (there_row h 0 _ (by rw [bcs_size, hD, hs]; omega)) (size24' D hD) (bvs_one D), only_setCells g _ 0 w, ?_⟩
  rw [setCells_heap g 54 _ 0 w cs h, over_bytes _ D (by rw [hs, hD])]
theorem load56_any {w : World} {g : Nat} {b : List UInt8} (hb : b.length = 64) (h : w.heap[g]? = some (.cells (bcs b) 69 (0, 0))) : (loadI 69 (.pointer (some ⟨g, 0, none⟩))).run Tryd.prog w = .ok (.agg (bcs b)) w :=
  load49_row hb (range_row (a := []) (c := []) (t := 69) (fr := (0, 0)) (by rw [List.nil_append, List.append_nil]; exact h) 0 rfl)
attribute [local go_sem ↓] load49_eq store24_eq

set_option maxRecDepth 100000 in
set_option maxHeartbeats 2000000 in
theorem macOf_any (key b : List UInt8) (A1 A2 : Option Addr) (c1 c2 : Nat) (w : World) (hT : TabS w) (hA1 : BytesAt w A1 key) (hA2 : BytesAt w A2 b) (hc1 : key.length ≤ c1) (hc2 : b.length ≤ c2) (hl1 : key.length ≤ 100000) (hl2 : b.length ≤ 100000) :
    Calls Tryd.prog 27 #[.slice A1 key.length c1, .slice A2 b.length c2] w fun e w' => e = .returned (.agg (bcs (hmac key b))) ∧ Below w.heap.size w w' := by
  have HT := hid hT
  have hT1 := hT.lt
  have HA1 := hid hA1
  have HA2 := hid hA2
  have HKL := hid (keyB_len key)
  have HLA : Hid (∀ W, TabS W → BytesAt W A1 key → Calls Tryd.prog 40 #[.slice A1 key.length c1] W fun e w' => e = .returned (.agg (bcs (keyB key))) ∧ Below W.heap.size W w') := fun W h1 h2 => laid_any key A1 c1 W h1 h2 hc1 hl1
  have HP1 : Hid (∀ W, TabS W → BytesAt W A2 b → Calls Tryd.prog 41 #[.agg (bcs (keyB key)), .int .u8 54, .slice A2 b.length c2] W fun e w' => e = .returned (.agg (bcs (sha (xorB (keyB key) 54 ++ b)))) ∧ Below W.heap.size W w') := fun W h1 h2 => padded_any (keyB key) (keyB_len key) 54 b A2 c2 W h1 h2 hc2 hl2
  have HP2 : Hid (∀ W M, TabS W → W.heap[M]? = some (.cells (bcs (sha (xorB (keyB key) 54 ++ b))) 54 (0, 0)) → Calls Tryd.prog 41 #[.agg (bcs (keyB key)), .int .u8 92, .slice (some ⟨M, 0, none⟩) 32 32] W fun e w' => e = .returned (.agg (bcs (hmac key b))) ∧ Below W.heap.size W w') := fun W M h1 h2 => by
    have := padded_any (keyB key) (keyB_len key) 92 (sha (xorB (keyB key) 54 ++ b)) (some ⟨M, 0, none⟩) 32 W h1 (BytesAt.of_row h2) (by rw [sha_len]; omega) (by rw [sha_len]; omega)
    rw [sha_len] at this
    exact this
  have HIL := hid (sha_len (xorB (keyB key) 54 ++ b))
  have HDL := hid (hmac_len key b)
  generalize hmac key b = D at HP2 HDL ⊢
  generalize sha (xorB (keyB key) 54 ++ b) = I at HP1 HP2 HIL
  generalize keyB key = KB at HLA HP1 HP2 HKL
  have HR0 := hid (Ref.start w)
  have HB0 : Hid (∀ o1, Below w.heap.size w (w.alloc o1)) := fun o1 => (Below.refl _ _).alloc (Nat.le_refl _) o1
  have HI56 := hid (size49' KB HKL.out)
  have HO56 := hid (bvs_one KB)
  have HI24 := hid (size24' I HIL.out)
  have HO24 := hid (bvs_one I)
  clear hT hA1 hA2
  go_enter Tryd.func27, Tryd.ntmps27
  go_wp2_with fail
  refine (HLA.out _ (HT.out.below (HB0.out _) hT1) (HA1.out.below (HB0.out _) (Nat.le_refl _))).mono ?_
  rintro e W1 ⟨rfl, hb1⟩
  have HR1 : Hid (Ref w W1) := Ref.step (by exact HR0.out) (hb1.mono (by simp))
  have hz1 := HR1.out.lt
  clear hb1 HLA HB0 HR0
  go_wp2_with (first
    | (refine wpList_store_abs rfl 69 (.tmp 5) (.tmp 8) rfl W1.heap.size 0 (bcs KB) rfl rfl 69 _ (heap_alloc_new W1 _) (by rw [bcs_size, HKL.out]; exact Nat.le_refl 64) HI56.out HO56.out ?_; intro W2 hO2 hW2;
       have HK2 : Hid (W2.heap[W1.heap.size]? = some (.cells (bcs KB) 69 (0, 0))) := by rw [over_bytes _ KB (by rw [HKL.out]; rfl)] at hW2; exact hW2
       have HR2 : Hid (Ref w W2) := (HR1.out.alloc _).step (hO2.below hz1)
       have hz2 : W2.heap.size = W1.heap.size + 1 := by rw [hO2.size]; simp
       clear hO2 hW2 HR1)
    | (refine wpList_load_row rfl 69 (.tmp 5) rfl W1.heap.size rfl 69 (bcs KB) (0, 0) (.array 64 5) HK2.out Tryd.underlying69 rfl HI56.out ?_))
  refine (HP1.out _ (HT.out.below HR2.out.bel hT1) (HA2.out.below HR2.out.bel (Nat.le_refl _))).mono ?_
  rintro e W3 ⟨rfl, hb3⟩
  have HR3 : Hid (Ref w W3) := HR2.out.step (hb3.mono (by omega))
  have HK3 := hid ((hb3.block W1.heap.size (by omega)).trans HK2.out)
  have hz3 := hb3.size
  clear hb3 HK2 HR2 HP1
  go_wp2_with (refine wpList_store_abs rfl 54 (.tmp 6) (.tmp 11) rfl W3.heap.size 0 (bcs I) rfl rfl 54 _ (heap_alloc_new W3 _) (by rw [bcs_size, HIL.out]; exact Nat.le_refl 32) HI24.out HO24.out ?_; intro W4 hO4 hW4)
  rw [over_bytes _ I (by rw [HIL.out]; rfl)] at hW4
  have HI4 := hid hW4
  have HR4 : Hid (Ref w W4) := (HR3.out.alloc _).step (hO4.below (by omega))
  have HK4 : Hid (W4.heap[W1.heap.size]? = some (.cells (bcs KB) 69 (0, 0))) := by
    show _ = _
    rw [hO4.block _ (by omega), Below.heap_alloc W3 _ _ (by omega)]; exact HK3.out
  have hz4 := HR4.out.lt
  clear hO4 hW4 HK3 HR3
  have hl : (loadI 69 (.pointer (some ⟨W1.heap.size, 0, none⟩))).run Tryd.prog W4.drew = .ok (.agg (bcs KB)) W4.drew := load56_any HKL.out HK4.out
  have HTD : Hid (TabS W4.drew) := (HT.out.below HR4.out.bel hT1).below (below_drewN 2 W4 1) (by omega)
  have HID : Hid (W4.drew.heap[W3.heap.size]? = some (.cells (bcs I) 54 (0, 0))) := HI4.out
  have HSTO : Hid (∀ w1, Below W4.drew.heap.size W4.drew w1 → ∃ W, (storeI 54 (.pointer (some ⟨w.heap.size, 0, none⟩)) (.agg (bcs D))).run Tryd.prog w1 = .ok () W ∧ W.heap[w.heap.size]? = some (.cells (bcs D) 54 (0, 0)) ∧ Below w.heap.size w W) := fun w1 h1 => by
    have hr := (h1.block w.heap.size (show w.heap.size < W4.heap.size by omega)).trans HR4.out.res
    obtain ⟨W, h2, h3, h4⟩ := store24_any hr (by rw [bcs_size, zer_len]) D HDL.out
    exact ⟨W, h2, h4, ((HR4.out.bel.trans (below_drewN _ W4 1)).trans (h1.mono (show w.heap.size ≤ W4.heap.size by omega))).trans (h3.below (Nat.le_refl _))⟩
  clear HI4 HK4 HR4
  go_wp2_with fail
  go_region_with ((go_at_call 41; refine (HP2.out _ _ (by exact HTD.out) (by exact HID.out)).mono ?_; rintro e w1 ⟨rfl, hb1⟩; obtain ⟨W7, hst, h7a, h7b⟩ := HSTO.out w1 hb1; have H7a := hid h7a; have H7b := hid h7b; clear hb1 h7a h7b))
  all_goals
    go_wp2_with fail
    exact bodyPost_ret (v := .agg (bcs D)) (results_cell_row (p := 4) (ty := 54) Tryd.results27 _ _ w.heap.size 54 _ (0, 0) (.array 32 5) rfl H7a.out Tryd.underlying54 rfl (size24' D HDL.out)) rfl ⟨rfl, H7b.out⟩

end Go.Proofs.YtggbianodoneeaaDoor
