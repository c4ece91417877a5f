
/- What ShaRoots does at every input. -/
import Derived.Test.YtggbianodoneeaaDoorRoot
import Derived.Test.YtggbianodoneeaaDoorAbc
namespace Go.Proofs.YtggbianodoneeaaDoor
open Go.RowKit
set_option linter.unusedSimpArgs false
set_option linter.unusedVariables false

theorem root_K (i : Nat) (hi : i < 64) : nv (KS.getD i 0) = ((rt (PR.getD i 0) 3 : Nat) : Int) := roots_K ⟨i, hi⟩
theorem root_H (i : Nat) (hi : i < 8) : nv (H0.l.getD i 0) = ((rt (PR.getD i 0) 2 : Nat) : Int) := roots_H ⟨i, hi⟩
theorem PR_fin : ∀ k : Fin 64, PR.getD k.val 0 ≤ 311 := by decide
theorem PR_le (i : Nat) (hi : i < 64) : PR.getD i 0 ≤ 311 := PR_fin ⟨i, hi⟩
theorem prime_tab (n : Nat) (hn : n < 64) (W : World) : Calls Tryd.prog 11 #[.int .i64 (n : Int)] W fun e w' => e = .returned (.int .i64 ((PR.getD n 0 : Nat) : Int)) ∧ w' = W := by
  refine (prime_any n hn W).mono ?_
  rintro e w' ⟨⟨p, rfl, _, h1, h2⟩, rfl⟩
  rw [prime_is n hn p h1 h2]
  exact ⟨rfl, rfl⟩
theorem root_three (i : Nat) (hi : i < 64) (W : World) : Calls Tryd.prog 10 #[.int .i64 ((PR.getD i 0 : Nat) : Int), .int .i64 3] W fun e w' => e = .returned (.int .u32 (nv (KS.getD i 0))) ∧ Below W.heap.size W w' := by
  rw [root_K i hi]
  exact root_any (PR.getD i 0) 3 (by omega) (by omega) (PR_le i hi) W
theorem root_two (i : Nat) (hi : i < 8) (W : World) : Calls Tryd.prog 10 #[.int .i64 ((PR.getD i 0 : Nat) : Int), .int .i64 2] W fun e w' => e = .returned (.int .u32 (nv (H0.l.getD i 0))) ∧ Below W.heap.size W w' := by
  rw [root_H i hi]
  exact root_any (PR.getD i 0) 2 (by omega) (by omega) (PR_le i (by omega)) W

set_option maxRecDepth 100000 in
set_option maxHeartbeats 4000000 in
theorem roots_law (a : Int) (w : World) (ha : (Lit.int .u8 a).wf = true) (hT : TabS w) :
    Calls Tryd.prog 3 #[.int .u8 a] w fun e w' => e = .returned (.bool true) ∧ Below w.heap.size w w' := by
  have HAW := hid awake_any
  have HT := hid hT
  have hT1 := hT.lt
  have hab := bounds_u8 ha
  obtain ⟨N, rfl⟩ : ∃ N : Nat, a = (N : Int) := ⟨a.toNat, by omega⟩
  obtain ⟨i, hi⟩ : ∃ i, i = N % 64 := ⟨_, rfl⟩
  obtain ⟨j, hj⟩ : ∃ j, j = i % 8 := ⟨_, rfl⟩
  have hi64 : i < 64 := by omega
  have hj8 : j < 8 := by omega
  have m1 : (N : Int).tmod 64 = (i : Int) := by rw [Int.tmod_eq_emod_of_nonneg (by omega)]; omega
  have m2 : (N : Int) % 64 = (i : Int) := by omega
  have m3 : (i : Int).tmod 8 = (j : Int) := by rw [Int.tmod_eq_emod_of_nonneg (by omega)]; omega
  have m4 : (i : Int) % 8 = (j : Int) := by omega
  have m5 : IntKind.u8.wrap (i : Int) = (i : Int) := by rw [IntKind.wrap_u8]; omega
  have i1 : (i : Int) < 64 := by omega
  have i2 : (0 : Int) ≤ (i : Int) := by omega
  have i3 : (j : Int) < 8 := by omega
  have i4 : (0 : Int) ≤ (j : Int) := by omega
  clear hi hj ha hT
  have HP1 := hid (fun W => prime_tab i hi64 W)
  have HP2 := hid (fun W => prime_tab j (by omega) W)
  have HRK := hid (fun W => root_three i hi64 W)
  have HRH := hid (fun W => root_two j hj8 W)
  have HC := hid consts_any
  obtain ⟨C1, hC1⟩ : ∃ C, Hid (C = H0.cs) := ⟨_, rfl⟩
  obtain ⟨C2, hC2⟩ : ∃ C, Hid (C = (wvs KS).toArray) := ⟨_, rfl⟩
  rw [← hC1.out, ← hC2.out] at HC
  have HS1 : Hid ((Tryd.prog.info? 23).map (·.size) = some C1.size) := by rw [hC1.out]; exact size35' H0
  have HS2 : Hid ((Tryd.prog.info? 24).map (·.size) = some C2.size) := by rw [hC2.out]; exact size36k
  have HO1' : Hid (C1.all (·.oneCell') = true) := by rw [hC1.out]; exact cs_one H0
  have HO2' : Hid (C2.all (·.oneCell') = true) := by rw [hC2.out]; exact wvs_one KS
  have HZ1 : Hid (C1.size = 8) := by rw [hC1.out]; rfl
  have HZ2 : Hid (C2.size = 64) := by rw [hC2.out]; rfl
  have HE1 : Hid (C1[j]? = some (.int .u32 (nv (H0.l.getD j 0)))) := by show _ = _; rw [hC1.out]; exact wvs_at H0.l j (by exact hj8)
  have HE2 : Hid (C2[i]? = some (.int .u32 (nv (KS.getD i 0)))) := by show _ = _; rw [hC2.out]; exact wvs_at KS i (by rw [KS_len]; exact hi64)
  generalize nv (H0.l.getD j 0) = vh at HE1 HRH
  generalize nv (KS.getD i 0) = vk at HE2 HRK
  generalize PR.getD i 0 = pi at HP1 HRK
  generalize PR.getD j 0 = pj at HP2 HRH
  clear hC1 hC2
  go_enter Tryd.func3, Tryd.ntmps3
  go_wp2_with fail
  refine (HC.out _).mono ?_
  rintro e W1 ⟨rfl, hb1⟩
  have HB1 := hid hb1
  have hz1 := hb1.size
  clear hb1 HC
  go_wp2_with (first
    | (refine wpList_store_abs rfl 23 (.tmp 3) (.tmp 8) rfl W1.heap.size 0 C1 rfl rfl 23 _ (heap_alloc2_old W1 _ _) (by rw [HZ1.out]; exact Nat.le_refl 8) HS1.out HO1'.out ?_; intro W2 hO2 hW2;
       have HH2 : Hid (W2.heap[W1.heap.size]? = some (.cells C1 23 (0, 0))) := by rw [over_whole _ C1 (by rw [HZ1.out]; rfl)] at hW2; exact hW2
       have HN2 : Hid (∃ cs, W2.heap[W1.heap.size + 1]? = some (.cells cs 24 (0, 0)) ∧ cs.size = 64) := ⟨_, (hO2.block _ (by omega)).trans (heap_alloc2_new W1 _ _), rfl⟩
       have HB2 : Hid (Below w.heap.size w W2) := ((HB1.out.alloc hz1 _).alloc (by simp; omega) _).trans (hO2.below hz1)
       clear hO2 hW2)
    | (obtain ⟨cs, hcs, hcz⟩ := HN2.out;
       refine wpList_store_abs rfl 24 (.tmp 4) (.tmp 9) rfl (W1.heap.size + 1) 0 C2 rfl rfl 24 cs hcs (by rw [HZ2.out, hcz]; exact Nat.le_refl 64) HS2.out HO2'.out ?_; intro W3 hO3 hW3;
       have HK3 : Hid (W3.heap[W1.heap.size + 1]? = some (.cells C2 24 (0, 0))) := by rw [over_whole _ C2 (by rw [HZ2.out, hcz])] at hW3; exact hW3
       have HH3 : Hid (W3.heap[W1.heap.size]? = some (.cells C1 23 (0, 0))) := (hO3.block _ (by omega)).trans HH2.out
       have HB3 : Hid (Below w.heap.size w W3) := HB2.out.trans (hO3.below (by omega))
       clear hO3 hW3 hcs hcz cs))
  have HCK : Hid (∀ W, Below W3.heap.size W3 W → W.cell? ⟨W1.heap.size + 1, i, none⟩ = some (.int .u32 vk) ∧ W.cell? ⟨W1.heap.size, j, none⟩ = some (.int .u32 vh)) := fun W h => by
    have h1 : W1.heap.size + 1 < W3.heap.size := (Array.getElem?_eq_some_iff.1 HK3.out).1
    constructor
    · rw [h.cell (p := ⟨W1.heap.size + 1, i, none⟩) h1, cell_of_row _ _ _ _ _ _ HK3.out]; exact HE2.out
    · rw [h.cell (p := ⟨W1.heap.size, j, none⟩) (show W1.heap.size < W3.heap.size by omega), cell_of_row _ _ _ _ _ _ HH3.out]; exact HE1.out
  have hz3 := HB3.out.size
  obtain ⟨ck3, ch3⟩ := HCK.out W3 (Below.refl _ _)
  clear HK3 HH3 HN2 HH2 HB2 HS1 HS2 HO1' HO2' HZ1 HZ2
  go_cut [30] (fun v wx => v = .bool false ∧ Hid (Below w.heap.size w wx))
  case first =>
    go_region_with ((first
      | (go_at_call_of 11 (Value.int .i64 (i : Int)); refine (HP1.out _).mono ?_; rintro e wp ⟨rfl, rfl⟩)
      | (go_at_call_of 10 (Value.int .i64 3); refine (HRK.out _).mono ?_; rintro e w4 ⟨rfl, hb4⟩; have hB4 : Below W3.heap.size W3 w4 := (below_drewN _ W3 1).trans hb4; obtain ⟨ck4, ch4⟩ := HCK.out w4 hB4; have HB4 := hid hB4; clear hB4 hb4)
      | (go_at_call_of 11 (Value.int .i64 (j : Int)); refine (HP2.out _).mono ?_; rintro e wp ⟨rfl, rfl⟩)
      | (go_at_call_of 10 (Value.int .i64 2); refine (HRH.out _).mono ?_; rintro e w5 ⟨rfl, hb5⟩; have hB5 : Below W3.heap.size W3 w5 := HB4.out.trans (hb5.mono HB4.out.size); obtain ⟨ck5, ch5⟩ := HCK.out w5 hB5; have HB5 := hid hB5; clear hB5 hb5)))
    all_goals
      go_wp2_with fail
      go_meet
      case rel => exact ⟨by first | rfl | simp, HB3.out.trans (HB5.out.mono hz3)⟩
  case rest =>
    obtain ⟨rfl, HB⟩ := hcut
    go_wp2_with fail
    refine (HAW.out _ (HT.out.below HB.out hT1)).mono ?_
    rintro e W6 ⟨rfl, hb6⟩
    go_wp2_with fail
    go_ret
    exact ⟨rfl, HB.out.trans (hb6.mono HB.out.size)⟩

end Go.Proofs.YtggbianodoneeaaDoor
