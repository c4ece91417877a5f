
/- What ip.lastFour and Check do. -/
import Derived.Test.YtocdjgehjiolhaaGreatDoorIpV4
import Derived.Deep.QuietTactic
import Derived.BigQuiet
import Derived.Deep.RegionHeld3
import Derived.Deep.DeepCutAuto
namespace Go.Proofs.YtocdjgehjiolhaaGreatDoor
open Go.RowKit

def lastL (B : List UInt8) : List UInt8 := v4L (B.getD 12 0) (B.getD 13 0) (B.getD 14 0) (B.getD 15 0)
theorem lastL_len (B : List UInt8) : (lastL B).length = 16 := rfl
set_option maxHeartbeats 1000000 in
theorem last_any (v : Bool) (B : List UInt8) (hB : B.length = 16) (w : World) : Calls Tryz.prog 31 #[.agg (acs v B)] w fun e w' => e = .returned (.agg (acs false (lastL B))) ∧ Below w.heap.size w w' := by
  have c12 := acs_at v B 12 (by omega)
  have c13 := acs_at v B 13 (by omega)
  have c14 := acs_at v B 14 (by omega)
  have c15 := acs_at v B 15 (by omega)
  unfold lastL
  obtain ⟨a, ha⟩ : ∃ a, a = B.getD 12 0 := ⟨_, rfl⟩
  obtain ⟨b, hb⟩ : ∃ a, a = B.getD 13 0 := ⟨_, rfl⟩
  obtain ⟨c, hc⟩ : ∃ a, a = B.getD 14 0 := ⟨_, rfl⟩
  obtain ⟨d, hd⟩ : ∃ a, a = B.getD 15 0 := ⟨_, rfl⟩
  rw [← ha] at c12 ⊢
  rw [← hb] at c13 ⊢
  rw [← hc] at c14 ⊢
  rw [← hd] at c15 ⊢
  have HZ := hid (acs_size v B hB)
  obtain ⟨X, hX⟩ : ∃ X, X = acs v B := ⟨_, rfl⟩
  rw [← hX] at c12 c13 c14 c15 HZ ⊢
  clear ha hb hc hd hX
  go_enter Tryz.func31, Tryz.ntmps31
  go_wp2_with (first
    | (go_at_call 40; refine (v4_any a b c d _).mono ?_; rintro e W1 ⟨rfl, hb1⟩; have HR := hid (row2 hb1); clear hb1)
    | (refine store_addr rfl _ _ rfl (w.heap.size + 1) false (v4L a b c d) (v4L_len a b c d) rfl rfl _ HR.out.1 rfl ?_)
    | fail)
  intro W2 hO2 hW2
  go_wp2
  exact bodyPost_ret (ret_addr Tryz.results31 _ _ (w.heap.size + 1) false _ (v4L_len a b c d) (0, 0) rfl hW2) rfl ⟨rfl, HR.out.2.2.1.trans (hO2.below (by omega))⟩

theorem last_eq (B : List UInt8) (h : B.length = 16) : B = lastL B ↔ B.take 12 = zer 12 := by
  obtain ⟨b0, b1, b2, b3, b4, b5, b6, b7, b8, b9, b10, b11, b12, b13, b14, b15, rfl⟩ := letters B h
  simp [lastL, v4L, zer, List.replicate]
attribute [local go_sem ↓] loadA_eq
set_option maxHeartbeats 1000000 in
theorem check_six (B : List UInt8) (w : World) : Calls Tryz.prog 15 #[.agg (acs true B)] w fun e w' => e = .returned (.int .i64 0) ∧ Below w.heap.size w w' := by
  have c0 := acs_zero true B
  obtain ⟨X, hX⟩ : ∃ X, X = acs true B := ⟨_, rfl⟩
  rw [← hX] at c0 ⊢
  clear hX
  go_enter Tryz.func15, Tryz.ntmps15
  go_wp2_with fail
  have c1 : (w.alloc (Obj.cells X 24)).cell? ⟨w.heap.size, 0, none⟩ = some (.bool true) := by rw [cell_of_row _ _ _ X 24 (0, 0) (heap_alloc_new w _)]; exact c0
  go_quiet (fail)
  go_wp2_with fail
  go_ret
  exact ⟨rfl, (alloc_below (Below.refl _ w) (Nat.le_refl _) _).trans (below_drewN _ _ _)⟩
theorem guardA : Tryz.prog.eqGuardType Tryz.prog.depth 24 = false := by kernel_rfl
set_option maxHeartbeats 1000000 in
theorem check_four (B : List UInt8) (hB : B.length = 16) (w : World) (t : Bool) (ht : t = decide (B = lastL B)) : Calls Tryz.prog 15 #[.agg (acs false B)] w fun e w' => e = .returned (.int .i64 (if t then 0 else 1)) ∧ Below w.heap.size w w' := by
  have c0 := acs_zero false B
  have HL := hid (fun W => last_any false B hB W)
  have HQ : ∀ W, (Op.equalIn 10000 24 (.agg (acs false B)) (.agg (acs false (lastL B)))).run Tryz.prog W = .ok t W := fun W => by
    rw [eqA false false B (lastL B) hB (lastL_len B) W, ht]
    exact congrArg (fun b => Result.ok b W) (decide_eq_decide.2 (by simp))
  have hg := guardA
  have HLD : Hid (∀ {W : World} {g : Nat}, W.heap[g]? = some (.cells (acs false B) 24 (0, 0)) → ∀ d os, (loadI 24 (.pointer (some ⟨g, 0, none⟩))).run Tryz.prog (Sort.grow (redrawn W d) os) = .ok (.agg (acs false B)) (Sort.grow (redrawn W d) os)) := fun h d os => loadA_re hB h d os
  generalize acs false B = X at c0 HL HQ HLD ⊢
  generalize acs false (lastL B) = LC at HL HQ
  clear ht
  go_enter Tryz.func15, Tryz.ntmps15
  go_wp2_with fail
  obtain ⟨V, hV⟩ : ∃ V, V = w.alloc (Obj.cells X 24) := ⟨_, rfl⟩
  have HR : Hid (V.heap[w.heap.size]? = some (.cells X 24 (0, 0))) := by rw [hV]; exact heap_alloc_new w _
  have HB : Hid (Below w.heap.size w V) := by rw [hV]; exact alloc_below (Below.refl _ w) (Nat.le_refl _) _
  have hz : w.heap.size < V.heap.size := by rw [hV]; simp
  rw [← hV]
  clear hV
  have k0 := cell_regrown (w := V) (a := ⟨w.heap.size, 0, none⟩) (v := .bool false) (by rw [cell_of_row _ _ _ _ _ _ HR.out]; exact c0)
  have k1 := HLD.out HR.out
  have cL : ∀ d os, Calls Tryz.prog 31 #[.agg X] (Sort.grow (redrawn V d) os) fun e w'' => e = .returned (.agg LC) ∧ ∃ p : Regrown, w'' = Sort.grow (redrawn V p.d) p.os := fun d os => Calls.regrown_of (HL.out _)
  refine wp_region_quiet_below (by kernel_rfl) (by kernel_rfl) ?_
  repeat (quiet_step (exact cL _ _))
  refine wpQuiet_nil ?_
  rintro W9 ⟨⟨dq, osq⟩, hw⟩
  have HB9 : Hid (Below V.heap.size V W9) := by rw [hw]; exact below_regrown V dq osq
  clear hw k0 k1 cL HQ c0 hg HL HLD HR
  cases t
  · go_wp2_with fail
    go_ret
    exact ⟨rfl, HB.out.trans (HB9.out.mono (by omega))⟩
  · go_wp2_with fail
    go_ret
    exact ⟨rfl, HB.out.trans (HB9.out.mono (by omega))⟩
end Go.Proofs.YtocdjgehjiolhaaGreatDoor
