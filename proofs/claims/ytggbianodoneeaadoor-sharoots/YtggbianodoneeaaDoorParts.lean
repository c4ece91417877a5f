
/- What the reference's parts does: a number in twelve limbs of 16 bits. -/
import Derived.Test.YtggbianodoneeaaDoorOfLaw
namespace Go.Proofs.YtggbianodoneeaaDoor
open Go.RowKit
set_option linter.unusedSimpArgs false
set_option linter.unusedVariables false

def lvs (l : List Nat) : Array Value := (l.map fun n : Nat => Value.int .u64 (n : Int)).toArray
def limbsTo (x i : Nat) : List Nat := (List.range 12).map fun j => if j < i then x / 65536 ^ j % 65536 else 0
def limbs (x : Nat) : List Nat := limbsTo x 4
theorem lvs_size (l : List Nat) : (lvs l).size = l.length := by simp [lvs]
theorem limbs_len (x i : Nat) : (limbsTo x i).length = 12 := by simp [limbsTo]
theorem lvs_at (l : List Nat) (j : Nat) (h : j < l.length) : (lvs l)[j]? = some (.int .u64 ((l.getD j 0 : Nat) : Int)) := by
  simp [lvs, List.getD_eq_getElem?_getD, h]
theorem lvs_set (l : List Nat) (i v : Nat) : (lvs l).setIfInBounds i (.int .u64 (v : Int)) = lvs (l.set i v) := by
  simp [lvs, List.map_set]
theorem limbs_set (x i : Nat) (h : i < 12) : (limbsTo x i).set i (x / 65536 ^ i % 65536) = limbsTo x (i + 1) := by
  apply List.ext_getElem
  · simp [limbsTo]
  · intro j h1 h2
    have hj : j < 12 := by simpa [limbsTo] using h2
    rw [List.getElem_set]
    by_cases hij : i = j
    · subst hij; simp [limbsTo]
    · rw [if_neg hij]
      simp only [limbsTo, List.getElem_map, List.getElem_range]
      by_cases hlt : j < i
      · rw [if_pos hlt, if_pos (by omega)]
      · rw [if_neg hlt, if_neg (by omega)]

theorem info53 : (Tryd.prog.info? 52).map (fun i => (i.zero, i.size, i.bytes)) = some (some (.int .u64 0), 1, 8) := by kernel_rfl
theorem make68 (n : Nat) (w : World) (hn : n ≤ 1000) (hm : madeCells #[Value.int .u64 0] n = lvs (List.replicate n 0)) : (Instr.makeSlice 62 (.int .i64 (n : Int)) (.int .i64 (n : Int))).run Tryd.prog w = .ok (.slice (some ⟨w.heap.size, 0, none⟩) n n) (w.alloc (.cells (lvs (List.replicate n 0)) 52)) := by
  obtain ⟨i, hi, hz0, hz1, hz2⟩ := info_parts info53
  rw [run_makeSlice w 62 52 i (.int .u64 0) Tryd.underlying62 hi hz0 .i64 .i64 (n : Int) (n : Int) (by omega) (by omega) (by rw [hz1]; omega) (by rw [hz2]; omega) (by omega), hz1, Int.toNat_natCast, Nat.mul_one, ← hm]
  rfl

set_option maxRecDepth 100000 in
set_option maxHeartbeats 1000000 in
theorem parts_any (x : Nat) (hx : x < 18446744073709551616) (w : World) :
    Calls Tryd.prog 35 #[.int .u64 (x : Int)] w fun e w' => e = .returned (.slice (some ⟨w.heap.size, 0, none⟩) 12 12) ∧ w'.heap[w.heap.size]? = some (.cells (lvs (limbs x)) 52 (0, 0)) ∧ Below w.heap.size w w' := by
  have HB0 : Hid (∀ o, Below w.heap.size w (w.alloc o)) := fun o => (Below.refl _ _).alloc (Nat.le_refl _) o
  go_enter Tryd.func35, Tryd.ntmps35
  have hmk : (Instr.makeSlice 62 (.int .i64 12) (.int .i64 12)).run Tryd.prog w = .ok (.slice (some ⟨w.heap.size, 0, none⟩) 12 12) (w.alloc (.cells (lvs (List.replicate 12 0)) 52)) := make68 12 w (by omega) (by first | kernel_rfl | (simp [madeCells, lvs]))
  go_wp2_with fail
  go_loopw [0, 4] (fun xv iv wx => ∃ (i y : Nat), i ≤ 4 ∧ iv = .int .i64 (i : Int) ∧ xv = .int .u64 (y : Int) ∧ y < 18446744073709551616 ∧ Hid (y = x / 65536 ^ i) ∧ Hid (wx.heap[w.heap.size]? = some (.cells (lvs (limbsTo x i)) 52 (0, 0))) ∧ Hid (Below w.heap.size w wx)) (fun _ iv _ => 4 - (intOf iv).toNat)
  case atStart => exact ⟨0, x, by omega, rfl, rfl, hx, (by show _ = _; simp), heap_alloc_new w _, HB0.out _⟩
  case round =>
    obtain ⟨i, y, hi, rfl, rfl, hy, HY, HR, HB⟩ := hrel
    by_cases hlt : i < 4
    · obtain ⟨z, cz⟩ : ∃ z, wr.cell? ⟨w.heap.size, i, none⟩ = some z := by
        rw [cell_of_row _ _ _ _ _ _ HR.out]
        exact ⟨_, lvs_at _ i (by rw [limbs_len]; omega)⟩
      have fz : wr.frozen? ⟨w.heap.size, i, none⟩ = false := frozen_of_row _ _ _ _ _ HR.out
      have e1 : (y : Int) % 65536 = ((y % 65536 : Nat) : Int) := by simp
      have e2 : (y : Int) / 65536 = ((y / 65536 : Nat) : Int) := by simp
      have HE1 := hid e1
      have HE2 := hid e2
      clear e1 e2
      go_wp2_with fail
      go_roundw
      case rel =>
        refine ⟨i + 1, y / 65536, by omega, by go_num, (by first | rfl | simp), by omega, ?_, ?_, ?_⟩
        · show _ = _
          rw [HY.out, Nat.div_div_eq_div_mul, ← Nat.pow_succ]
        · show _ = _
          rw [HE1.out, heap_setCell_same _ _ _ _ _ _ HR.out, lvs_set, HY.out, limbs_set x i (by omega)]
        · exact Below.setCell (p := ⟨w.heap.size, i, none⟩) HB.out (by simp) _
      case measure => simp [intOf]; omega
    · obtain rfl : i = 4 := by omega
      go_wp2_with fail
      go_ret
      exact ⟨rfl, HR.out, HB.out⟩

end Go.Proofs.YtggbianodoneeaaDoor
