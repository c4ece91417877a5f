
/- What cidr.Check and cidr.holds do. -/
import Derived.Test.YtocdjgehjiolhaaGreatDoorCiWid
import Derived.Test.YtocdjgehjiolhaaGreatDoorIpUnm
import Derived.BigQuiet
namespace Go.Proofs.YtocdjgehjiolhaaGreatDoor
open Go.RowKit Go.BigFrame
attribute [local go_sem ↓] loadA_eq

theorem loadNA_re {w : World} {g : Nat} {n : NetV} {fr : Nat × Nat} (hB : n.B.length = 16) (h : w.heap[g]? = some (.cells (ncs n) 26 fr)) : LDA w g (acs n.v n.B) := fun d os =>
  loadNA_row hB (((below_regrown w d os).block g (Array.getElem?_eq_some_iff.1 h).1).trans h)
/-- ip.Check, at either kind. -/
theorem ipcheck_any (v : Bool) (B : List UInt8) (hB : B.length = 16) (w : World) : Calls Tryz.prog 15 #[.agg (acs v B)] w fun e w' => e = .returned (.int .i64 (if mayB v B then 0 else 1)) ∧ Below w.heap.size w w' := by
  cases v
  · have : mayB false B = decide (B = lastL B) := by
      unfold mayB
      rw [Bool.false_or]
      refine decide_eq_decide.2 ?_
      obtain ⟨b0, b1, b2, b3, b4, b5, b6, b7, b8, b9, b10, b11, b12, b13, b14, b15, rfl⟩ := letters B hB
      simp [lastL, v4L, zer, List.replicate]
    rw [this]
    exact check_four B hB w _ rfl
  · have e : mayB true B = true := rfl
    rw [e, if_pos rfl]
    exact check_six B w
theorem okI (b : Bool) : (((if b = true then 0 else 1 : Int)) == 0) = b := by cases b <;> rfl
set_option maxHeartbeats 4000000 in
theorem check_net (n : NetV) (hB : n.B.length = 16) (w : World) : Calls Tryz.prog 6 #[.agg (ncs n)] w fun e w' => e = .returned (.int .i64 (if mayV n then 0 else 1)) ∧ Below w.heap.size w w' := by
  have HMF : Hid (mayV n = (mayB n.v n.B && decide (0 ≤ n.k) && decide (n.k ≤ totB n.v) && decide (n.B = firstB n.B (offB n.v + n.k.toNat)))) := mayN_first n.v n.B hB n.k
  have HC := hid (fun W => ipcheck_any n.v n.B hB W)
  have HWD := hid (fun W => width_any n.v n.B W)
  have HF : Hid (0 ≤ n.k → n.k ≤ 128 → ∀ W, Calls Tryz.prog 17 #[.agg (acs n.v n.B), .int .i64 n.k] W fun e w' => e = .returned (.agg (acs n.v (firstB n.B (offB n.v + n.k.toNat)))) ∧ Below W.heap.size W w') := fun h0 h1 W => by
    have := first_any n.v n.B hB n.k.toNat (by omega) W
    rwa [Int.toNat_of_nonneg h0] at this
  have htot := tot_le n.v
  obtain ⟨t, ht⟩ : ∃ t, t = decide (n.B = firstB n.B (offB n.v + n.k.toNat)) := ⟨_, rfl⟩
  have q1 := fun W => eqV n.v n.v n.B (firstB n.B (offB n.v + n.k.toNat)) hB (firstB_len _ _) t (by rw [ht]; simp) W
  rw [← ht] at HMF
  clear ht
  have hg := guardA
  have HLD : Hid (∀ {W : World} {g : Nat}, W.heap[g]? = some (.cells (ncs n) 26 (0, 0)) → LDA W g (acs n.v n.B)) := fun h => loadNA_re hB h
  have HBI := hid (ncs_bits n hB)
  generalize acs n.v (firstB n.B (offB n.v + n.k.toNat)) = FX at HF q1
  generalize acs n.v n.B = AX at HC HWD HF q1 HLD
  generalize mayB n.v n.B = m at HMF HC
  generalize totB n.v = tt at HMF HWD htot
  generalize mayV n = may at HMF ⊢
  generalize ncs n = X at HLD HBI ⊢
  generalize n.k = k at HMF HF HBI
  go_enter Tryz.func6, Tryz.ntmps6
  go_wp2_with fail
  obtain ⟨V, hV⟩ : ∃ V, V = w.alloc (Obj.cells X 26) := ⟨_, rfl⟩
  have HR : Hid (V.heap[w.heap.size]? = some (.cells X 26 (0, 0))) := by rw [hV]; exact heap_alloc_new w _
  have HB : Hid (Below w.heap.size w V) := by rw [hV]; exact alloc_below (Below.refl _ w) (Nat.le_refl _) _
  have hz : w.heap.size < V.heap.size := by rw [hV]; simp
  rw [← hV]
  clear hV
  have k0 := cell_regrown (w := V) (a := ⟨w.heap.size, 17, none⟩) (v := .int .i64 k) (by rw [cell_of_row _ _ _ _ _ _ HR.out]; exact HBI.out)
  have k1 := HLD.out HR.out
  have c2 : REG 16 #[.agg AX] V (.int .i64 tt) := fun d os => Calls.regrown_of (HWD.out _)
  cases m
  · have hm : may = false := by rw [HMF.out]; simp
    subst hm
    simp only [Bool.false_eq_true, if_false] at HC ⊢
    have c1 : REG 15 #[.agg AX] V (.int .i64 1) := fun d os => Calls.regrown_of (HC.out _)
    refine wp_region_quiet_below (by kernel_rfl) (by kernel_rfl) ?_
    repeat (go_big_quiet_step (first | (go_at_call 15; exact c1 _ _)))
    refine wpQuiet_nil ?_
    rintro W9 ⟨⟨dq, osq⟩, hw⟩
    have HB9 : Hid (Below V.heap.size V W9) := by rw [hw]; exact below_regrown V dq osq
    clear hw k0 k1 c1 c2 q1 hg
    go_wp2_with fail
    go_ret
    exact ⟨rfl, HB.out.trans (HB9.out.mono (by omega))⟩
  simp only [if_true] at HC
  have c1 : REG 15 #[.agg AX] V (.int .i64 0) := fun d os => Calls.regrown_of (HC.out _)
  by_cases hk0 : k < 0
  · have hm : may = false := by rw [HMF.out, decide_eq_false (by omega : ¬ 0 ≤ k)]; simp
    subst hm
    have hd : decide (k < 0) = true := decide_eq_true hk0
    refine wp_region_quiet_below (by kernel_rfl) (by kernel_rfl) ?_
    repeat (go_big_quiet_step (first | (go_at_call 15; exact c1 _ _)))
    refine wpQuiet_nil ?_
    rintro W9 ⟨⟨dq, osq⟩, hw⟩
    have HB9 : Hid (Below V.heap.size V W9) := by rw [hw]; exact below_regrown V dq osq
    clear hw k0 k1 c1 c2 q1 hg
    go_wp2_with fail
    go_ret
    exact ⟨rfl, HB.out.trans (HB9.out.mono (by omega))⟩
  have hd0 : decide (k < 0) = false := decide_eq_false hk0
  by_cases hk1 : (tt : Int) < k
  · have hm : may = false := by rw [HMF.out, decide_eq_false (by omega : ¬ k ≤ (tt : Int))]; simp
    subst hm
    have hd : decide ((tt : Int) < k) = true := decide_eq_true hk1
    refine wp_region_quiet_below (by kernel_rfl) (by kernel_rfl) ?_
    repeat (go_big_quiet_step (first | (go_at_call 15; exact c1 _ _) | (go_at_call 16; exact c2 _ _)))
    refine wpQuiet_nil ?_
    rintro W9 ⟨⟨dq, osq⟩, hw⟩
    have HB9 : Hid (Below V.heap.size V W9) := by rw [hw]; exact below_regrown V dq osq
    clear hw k0 k1 c1 c2 q1 hg
    go_wp2_with fail
    go_ret
    exact ⟨rfl, HB.out.trans (HB9.out.mono (by omega))⟩
  have hd1 : decide ((tt : Int) < k) = false := decide_eq_false hk1
  have hm : may = t := by rw [HMF.out, decide_eq_true (by omega : 0 ≤ k), decide_eq_true (by omega : k ≤ (tt : Int))]; simp
  subst hm
  have c3 : REG 17 #[.agg AX, .int .i64 k] V (.agg FX) := fun d os => Calls.regrown_of (HF.out (by omega) (by omega) _)
  cases may
  · refine wp_region_quiet_below (by kernel_rfl) (by kernel_rfl) ?_
    repeat (go_big_quiet_step (first | (go_at_call 15; exact c1 _ _) | (go_at_call 16; exact c2 _ _) | (go_at_call 17; exact c3 _ _)))
    refine wpQuiet_nil ?_
    rintro W9 ⟨⟨dq, osq⟩, hw⟩
    have HB9 : Hid (Below V.heap.size V W9) := by rw [hw]; exact below_regrown V dq osq
    clear hw k0 k1 c1 c2 c3 q1 hg
    go_wp2_with fail
    go_ret
    exact ⟨rfl, HB.out.trans (HB9.out.mono (by omega))⟩
  · refine wp_region_quiet_below (by kernel_rfl) (by kernel_rfl) ?_
    repeat (go_big_quiet_step (first | (go_at_call 15; exact c1 _ _) | (go_at_call 16; exact c2 _ _) | (go_at_call 17; exact c3 _ _)))
    refine wpQuiet_nil ?_
    rintro W9 ⟨⟨dq, osq⟩, hw⟩
    have HB9 : Hid (Below V.heap.size V W9) := by rw [hw]; exact below_regrown V dq osq
    clear hw k0 k1 c1 c2 c3 q1 hg
    go_wp2_with fail
    go_ret
    exact ⟨rfl, HB.out.trans (HB9.out.mono (by omega))⟩
end Go.Proofs.YtocdjgehjiolhaaGreatDoor
