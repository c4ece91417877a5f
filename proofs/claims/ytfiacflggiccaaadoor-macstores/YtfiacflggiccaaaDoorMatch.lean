/- What mac.Match and the reference's Secret do; two arrays, alike or not. -/
import Derived.Test.YtfiacflggiccaaaDoorStore
namespace Go.Proofs.YtfiacflggiccaaaDoor
open Go.RowKit
set_option linter.unusedSimpArgs false
set_option linter.unusedVariables false

theorem items_any (d : Nat) (F G : List UInt8) (w : World) : ∀ is : List Nat, (∀ i ∈ is, i < F.length ∧ i < G.length) → (Op.eqItems (d + 1) 5 (Tryd.prog.cellsOf 5) (bcs F) (bcs G) is).run Tryd.prog w = .ok (decide (∀ i ∈ is, F.getD i 0 = G.getD i 0)) w
  | [], _ => by simp [Op.eqItems]
  | i :: is, h => by
    have hp : (part 5 (bcs F) i).run Tryd.prog w = .ok (.int .u8 (F.getD i 0).toNat) w := by
      simp [part, Tryd.isAgg5, bcs_at F i (h i (by simp)).1]
    have hq : (part 5 (bcs G) i).run Tryd.prog w = .ok (.int .u8 (G.getD i 0).toNat) w := by
      simp [part, Tryd.isAgg5, bcs_at G i (h i (by simp)).2]
    have he := run_equalIn_int (P := Tryd.prog) w d 5 .u8 .u8 (F.getD i 0).toNat (G.getD i 0).toNat Tryd.underlying5
    have ih := items_any d F G w is (fun j hj => h j (by simp [hj]))
    simp only [Op.eqItems, Sem.run_bind]
    rw [cellsOf5, Nat.mul_one, hp]
    simp only [Result.andThen_ok]
    rw [hq]
    simp only [Result.andThen_ok]
    rw [he]
    rw [cellsOf5] at ih
    by_cases hx : F.getD i 0 = G.getD i 0
    · have e1 : (((F.getD i 0).toNat : Int) == ((G.getD i 0).toNat : Int)) = true := by rw [hx]; simp
      rw [e1]
      simp only [Result.andThen_ok, Bool.not_true, Bool.false_eq_true, if_false]
      rw [ih]
      congr 1
      apply decide_eq_decide.2
      constructor
      · intro h2 j hj
        rcases List.mem_cons.1 hj with rfl | hj
        · exact hx
        · exact h2 j hj
      · exact fun h2 j hj => h2 j (List.mem_cons_of_mem _ hj)
    · have e1 : (((F.getD i 0).toNat : Int) == ((G.getD i 0).toNat : Int)) = false := by
        apply beq_false_of_ne
        intro h2
        exact hx (UInt8.toNat_inj.1 (by omega))
      rw [e1]
      have e2 : decide (∀ j ∈ i :: is, F.getD j 0 = G.getD j 0) = false := by
        simp only [decide_eq_false_iff_not]
        exact fun h2 => hx (h2 i (by simp))
      rw [e2]
      simp
theorem eq24' (F G : List UInt8) (hF : F.length = 32) (hG : G.length = 32) (w : World) : (Op.equalIn 10000 24 (.agg (bcs F)) (.agg (bcs G))).run Tryd.prog w = .ok (decide (F = G)) w := by
  obtain ⟨i, hi, _⟩ := info_parts info5
  rw [show (10000 : Nat) = 9998 + 1 + 1 from rfl, run_equalIn_array w (9998 + 1) _ _ Tryd.underlying24 hi]
  have := items_any 9998 F G w (List.range 32) (fun i hi => by rw [List.mem_range] at hi; omega)
  refine this.trans ?_
  congr 1
  apply decide_eq_decide.2
  constructor
  · intro h
    apply List.ext_getElem (by omega)
    intro j h1 h2
    have := h j (List.mem_range.2 (by omega))
    rw [List.getD_eq_getElem?_getD, List.getD_eq_getElem?_getD, List.getElem?_eq_getElem h1, List.getElem?_eq_getElem h2] at this
    exact this
  · rintro rfl _ _; rfl

theorem err_cases (s : ByteArray) : errNo s = 0 ∨ errNo s = 1 ∨ errNo s = 3 := by
  unfold errNo
  by_cases h1 : s.size < 8
  · simp [h1]
  · by_cases h2 : 128 < s.size <;> simp [h1, h2]
set_option maxHeartbeats 400000 in
theorem secret_any (s : ByteArray) (w : World) (t : Bool) (ht : t = decide (errNo s = 0)) :
    Calls Tryd.prog 26 #[.string s] w fun e w' => e = .returned (.bool t) ∧ w' = w := by
  unfold errNo at ht
  by_cases h1 : s.size < 8
  · rw [if_pos h1] at ht
    have h2 : ¬ (8 : Int) ≤ (s.size : Int) := by omega
    have e : t = false := by rw [ht]; rfl
    subst e
    clear ht
    go_enter Tryd.func26, Tryd.ntmps26
    go_wp2_with fail
    go_ret
    exact ⟨by first | rfl | simp, rfl⟩
  · rw [if_neg h1] at ht
    have h2 : (8 : Int) ≤ (s.size : Int) := by omega
    by_cases h3 : 128 < s.size
    · rw [if_pos h3] at ht
      have h4 : ¬ (s.size : Int) ≤ 128 := by omega
      have e : t = false := by rw [ht]; rfl
      subst e
      clear ht
      go_enter Tryd.func26, Tryd.ntmps26
      go_wp2_with fail
      go_ret
      exact ⟨by first | rfl | simp, rfl⟩
    · rw [if_neg h3] at ht
      have h4 : (s.size : Int) ≤ 128 := by omega
      have e : t = true := by rw [ht]; rfl
      subst e
      clear ht
      go_enter Tryd.func26, Tryd.ntmps26
      go_wp2_with fail
      go_ret
      exact ⟨by first | rfl | simp, rfl⟩

set_option maxRecDepth 100000 in
set_option maxHeartbeats 2000000 in
theorem match_any (salt : List UInt8) (hs : salt.length = 16) (s : ByteArray) (tag : List UInt8) (ht : tag.length = 32) (w : World) (hT : TabS w) (t : Bool) (htt : t = decide (errNo s = 0 ∧ stored salt s = tag)) :
    Calls Tryd.prog 25 #[.agg (bcs salt), .string s, .agg (bcs tag)] w fun e w' => e = .returned (.bool t) ∧ Below w.heap.size w w' := by
  have HT := hid hT
  have hT1 := hT.lt
  have HS := hid hs
  have HTL := hid ht
  have HST : Hid (∀ W, TabS W → Calls Tryd.prog 23 #[.agg (bcs salt), .string s] W fun e w' => e = .returned (.tuple #[.agg (bcs (stored salt s)), .int .i64 (errNo s)]) ∧ Below W.heap.size W w') := fun W h => store_any salt hs s W h
  have HB2 : Hid (∀ o1 o2, Below w.heap.size w ((w.alloc o1).alloc o2)) := fun o1 o2 => ((Below.refl _ _).alloc (Nat.le_refl _) o1).alloc (by simp) o2
  have HDL := hid (stored_len salt s)
  have HTT := hid htt
  have HI44 := hid (size44' salt hs)
  generalize stored salt s = D at HST HDL HTT
  have HE3 := hid (err_cases s)
  generalize errNo s = E at HST HTT HE3
  have HI := hid (size24' D HDL.out)
  have HO := hid (bvs_one D)
  clear hT hs ht htt
  have HSB : Hid (∀ W (g h : Nat), W.heap[g]? = some (.cells (bcs D) 24 (0, 0)) → W.heap[h]? = some (.cells (bcs tag) 24 (0, 0)) → ∀ u, u = decide (D = tag) → Calls Tryd.prog 22 #[.slice (some ⟨g, 0, none⟩) 32 32, .slice (some ⟨h, 0, none⟩) 32 32] W fun e w' => e = .returned (.bool u) ∧ ∃ n, w' = W.drewN n) := fun W g h h1 h2 u hu => by
    have := same_any D tag (some ⟨g, 0, none⟩) (some ⟨h, 0, none⟩) 32 32 W (BytesAt.of_row h1) (BytesAt.of_row h2) (by rw [HDL.out]; omega) u hu
    rw [HDL.out, HTL.out] at this
    exact this
  by_cases hE : E = 0
  · subst hE
    obtain ⟨u, hu⟩ : ∃ u, Hid (u = decide (D = tag)) := ⟨_, rfl⟩
    obtain rfl : t = u := by rw [HTT.out, hu.out]; simp
    clear HTT
    go_enter Tryd.func25, Tryd.ntmps25
    go_wp2_with (refine wpList_load_row rfl 44 (.tmp 3) rfl w.heap.size rfl 44 (bcs salt) (0, 0) (.array 16 5) (heap_alloc2_old w _ _) Tryd.underlying44 rfl HI44.out ?_)
    refine (HST.out _ (HT.out.below (HB2.out _ _) hT1)).mono ?_
    rintro e W1 ⟨rfl, hb1⟩
    have HR1 : Hid (W1.heap[w.heap.size + 1]? = some (.cells (bcs tag) 24 (0, 0))) := (hb1.block _ (by simp)).trans (heap_alloc2_new w _ _)
    have HB1 := hid ((HB2.out _ _).trans (hb1.mono (by simp; omega)))
    have hz1 : w.heap.size + 1 < W1.heap.size := (Array.getElem?_eq_some_iff.1 HR1.out).1
    clear hb1 HST
    go_wp2_with (refine wpList_store_abs rfl 24 (.tmp 7) (.tmp 13) rfl W1.heap.size 0 (bcs D) rfl rfl 24 _ (heap_alloc_new W1 _) (by rw [bcs_size, HDL.out]; exact Nat.le_refl 32) HI.out HO.out ?_; intro W2 hO2 hW2)
    rw [over_bytes _ D (by rw [HDL.out]; rfl)] at hW2
    have HSA : Hid (Calls Tryd.prog 22 #[.slice (some ⟨W1.heap.size, 0, none⟩) 32 32, .slice (some ⟨w.heap.size + 1, 0, none⟩) 32 32] W2.drew fun e w' => e = .returned (.bool t) ∧ ∃ n, w' = W2.drew.drewN n) :=
      HSB.out W2.drew _ _ (by exact hW2) (by show W2.heap[w.heap.size + 1]? = _; rw [hO2.block _ (by omega), Below.heap_alloc W1 _ _ hz1]; exact HR1.out) t hu.out
    have HB3 : Hid (Below w.heap.size w W2) := (HB1.out.alloc (by omega) _).trans (hO2.below (by omega))
    clear hO2 hW2 HSB HB1 HR1
    go_wp2_with fail
    go_region_with ((go_at_call 22; refine HSA.out.mono ?_; rintro e w1 ⟨rfl, n, rfl⟩))
    all_goals
      go_wp2_with fail
      go_ret
      exact ⟨by first | rfl | simp, HB3.out.trans (below_drewN _ _ _)⟩
  · obtain rfl : t = false := by rw [HTT.out]; simp [hE]
    have hE4 : E = 1 ∨ E = 3 := by have := HE3.out; omega
    clear HTT HE3 hE
    rcases hE4 with rfl | rfl
    all_goals
      go_enter Tryd.func25, Tryd.ntmps25
      go_wp2_with (refine wpList_load_row rfl 44 (.tmp 3) rfl w.heap.size rfl 44 (bcs salt) (0, 0) (.array 16 5) (heap_alloc2_old w _ _) Tryd.underlying44 rfl HI44.out ?_)
      refine (HST.out _ (HT.out.below (HB2.out _ _) hT1)).mono ?_
      rintro e W1 ⟨rfl, hb1⟩
      have HB1 := hid ((HB2.out _ _).trans (hb1.mono (by simp; omega)))
      have hz1 : w.heap.size ≤ W1.heap.size := HB1.out.size
      clear hb1 HST
      go_wp2_with (refine wpList_store_abs rfl 24 (.tmp 7) (.tmp 13) rfl W1.heap.size 0 (bcs D) rfl rfl 24 _ (heap_alloc_new W1 _) (by rw [bcs_size, HDL.out]; exact Nat.le_refl 32) HI.out HO.out ?_; intro W2 hO2 hW2)
      have HB3 : Hid (Below w.heap.size w W2) := (HB1.out.alloc (by omega) _).trans (hO2.below (by omega))
      clear hO2 hW2 HSB HB1
      go_wp2_with fail
      first | go_quiet (fail) | go_region
      all_goals
        go_wp2_with fail
        go_ret
        exact ⟨by first | rfl | simp, HB3.out.trans (below_drewN _ _ _)⟩

end Go.Proofs.YtfiacflggiccaaaDoor
