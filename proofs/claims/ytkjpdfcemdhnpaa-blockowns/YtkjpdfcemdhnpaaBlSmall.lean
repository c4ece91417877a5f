
/- Is a file one that New or Load gave; has it a block; how many blocks and writes. -/
import Derived.Test.YtkjpdfcemdhnpaaBlMem
import Derived.LaidEqlPtr
namespace Go.Proofs.Ytkjpdfcemdhnpaa
set_option linter.unusedVariables false
set_option linter.unusedSimpArgs false
open Go.RowKit Go.BigFrame

theorem eqPP (a : Addr) (w : World) : (binOp .eql 24 (.pointer (some a)) (.pointer (some a))).run Try.prog w = .ok (.bool true) w := by
  obtain ⟨j, hj⟩ : ∃ j, Try.prog.info? 61 = some j := Option.isSome_iff_exists.1 (by kernel_rfl)
  exact run_eql_ptr_same w a Try.underlying24 hj
theorem eqPN (a : Addr) (w : World) : (binOp .eql 24 (.pointer none) (.pointer (some a))).run Try.prog w = .ok (.bool false) w := by
  kernel_rfl
attribute [local go_sem] eqPP eqPN
theorem cell_lt {w : World} {F i : Nat} {v : Value} (h : w.cell? ⟨F, i, none⟩ = some v) : F < w.heap.size := by
  by_cases hl : F < w.heap.size
  · exact hl
  · exfalso
    unfold World.cell? at h
    have e : w.heap[F]? = none := Array.getElem?_eq_none (by omega)
    simp [e] at h
theorem keep_cell {w W : World} {F i : Nat} {v : Value} (hb : Below w.heap.size w W) (h : w.cell? ⟨F, i, none⟩ = some v) : W.cell? ⟨F, i, none⟩ = some v := (cell_same (hb.block F (cell_lt h)) i).trans h
theorem given_at (F : Nat) (w : World) (h : w.cell? ⟨F, 0, none⟩ = some (.pointer (some ⟨F, 0, none⟩))) : Calls Try.prog 25 #[.pointer (some ⟨F, 0, none⟩)] w fun x w' => x = .returned (.bool true) ∧ Below w.heap.size w w' := by
  go_enter Try.func25, Try.ntmps25
  go_wp2_with fail
  go_ret
  exact ⟨rfl, Below.refl _ _⟩
/-- Nobody's file: none, or one that nobody gave. -/
def NoP (v : Value) (w : World) : Prop := v = .pointer none ∨ ∃ F, v = .pointer (some ⟨F, 0, none⟩) ∧ w.cell? ⟨F, 0, none⟩ = some (.pointer none)
theorem given_no (v : Value) (w : World) (h : NoP v w) : Calls Try.prog 25 #[v] w fun x w' => x = .returned (.bool false) ∧ Below w.heap.size w w' := by
  rcases h with rfl | ⟨F, rfl, h⟩
  · go_enter Try.func25, Try.ntmps25
    go_wp2_with fail
    go_ret
    exact ⟨rfl, Below.refl _ _⟩
  · go_enter Try.func25, Try.ntmps25
    go_wp2_with fail
    go_ret
    exact ⟨rfl, Below.refl _ _⟩
theorem has_at (F N n : Nat) (i : Int) (w : World) (h : w.cell? ⟨F, 0, none⟩ = some (.pointer (some ⟨F, 0, none⟩))) (h1 : w.cell? ⟨F, 1, none⟩ = some (.slice (some ⟨N, 0, none⟩) n n)) : Calls Try.prog 28 #[.pointer (some ⟨F, 0, none⟩), .int .i64 i] w fun x w' => x = .returned (.bool (decide (0 ≤ i ∧ i < (n : Int)))) ∧ Below w.heap.size w w' := by
  have HG := hid (given_at F w h)
  have HC := hid h1
  clear h1 h
  by_cases hi : 0 ≤ i
  · by_cases hn : i < (n : Int)
    · have hd : decide (0 ≤ i ∧ i < (n : Int)) = true := decide_eq_true ⟨hi, hn⟩
      rw [hd]
      clear hd
      go_enter Try.func28, Try.ntmps28
      go_wp2_with fail
      refine HG.out.mono ?_
      rintro e W ⟨rfl, hb⟩
      have HB := hid hb
      have hc : W.cell? ⟨F, 1, none⟩ = some (.slice (some ⟨N, 0, none⟩) n n) := keep_cell hb HC.out
      clear hb
      go_wp2_with fail
      go_ret
      exact ⟨by simp [hi, hn], HB.out⟩
    · have hd : decide (0 ≤ i ∧ i < (n : Int)) = false := decide_eq_false (fun h => hn h.2)
      rw [hd]
      clear hd
      go_enter Try.func28, Try.ntmps28
      go_wp2_with fail
      refine HG.out.mono ?_
      rintro e W ⟨rfl, hb⟩
      have HB := hid hb
      have hc : W.cell? ⟨F, 1, none⟩ = some (.slice (some ⟨N, 0, none⟩) n n) := keep_cell hb HC.out
      clear hb
      go_wp2_with fail
      go_ret
      exact ⟨by simp [hi, hn], HB.out⟩
  · have hd : decide (0 ≤ i ∧ i < (n : Int)) = false := decide_eq_false (fun h => hi h.1)
    rw [hd]
    clear hd
    go_enter Try.func28, Try.ntmps28
    go_wp2_with fail
    refine HG.out.mono ?_
    rintro e W ⟨rfl, hb⟩
    have HB := hid hb
    clear hb
    go_wp2_with fail
    go_ret
    exact ⟨by simp [hi], HB.out⟩
theorem has_no (v : Value) (i : Int) (w : World) (h : NoP v w) : Calls Try.prog 28 #[v, .int .i64 i] w fun x w' => x = .returned (.bool false) ∧ Below w.heap.size w w' := by
  have HG := hid (given_no v w h)
  clear h
  go_enter Try.func28, Try.ntmps28
  go_wp2_with fail
  refine HG.out.mono ?_
  rintro e W ⟨rfl, hb⟩
  have HB := hid hb
  clear hb
  go_wp2_with fail
  go_ret
  exact ⟨rfl, HB.out⟩
theorem blocks_at (F N n : Nat) (w : World) (h : w.cell? ⟨F, 0, none⟩ = some (.pointer (some ⟨F, 0, none⟩))) (h1 : w.cell? ⟨F, 1, none⟩ = some (.slice (some ⟨N, 0, none⟩) n n)) : Calls Try.prog 10 #[.pointer (some ⟨F, 0, none⟩)] w fun x w' => x = .returned (.int .i64 (n : Int)) ∧ Below w.heap.size w w' := by
  have HG := hid (given_at F w h)
  have HC := hid h1
  clear h1 h
  go_enter Try.func10, Try.ntmps10
  go_wp2_with fail
  refine HG.out.mono ?_
  rintro e W ⟨rfl, hb⟩
  have HB := hid hb
  have hc : W.cell? ⟨F, 1, none⟩ = some (.slice (some ⟨N, 0, none⟩) n n) := keep_cell hb HC.out
  clear hb
  go_wp2_with fail
  go_ret
  exact ⟨rfl, HB.out⟩
theorem blocks_no (v : Value) (w : World) (h : NoP v w) : Calls Try.prog 10 #[v] w fun x w' => x = .returned (.int .i64 0) ∧ Below w.heap.size w w' := by
  have HG := hid (given_no v w h)
  clear h
  go_enter Try.func10, Try.ntmps10
  go_wp2_with fail
  refine HG.out.mono ?_
  rintro e W ⟨rfl, hb⟩
  have HB := hid hb
  clear hb
  go_wp2_with fail
  go_ret
  exact ⟨rfl, HB.out⟩
theorem pending_at (F m c : Nat) (A : Option Addr) (w : World) (h : w.cell? ⟨F, 0, none⟩ = some (.pointer (some ⟨F, 0, none⟩))) (h1 : w.cell? ⟨F, 3, none⟩ = some (.slice A m c)) : Calls Try.prog 12 #[.pointer (some ⟨F, 0, none⟩)] w fun x w' => x = .returned (.int .i64 (m : Int)) ∧ Below w.heap.size w w' := by
  have HG := hid (given_at F w h)
  have HC := hid h1
  clear h1 h
  go_enter Try.func12, Try.ntmps12
  go_wp2_with fail
  refine HG.out.mono ?_
  rintro e W ⟨rfl, hb⟩
  have HB := hid hb
  have hc : W.cell? ⟨F, 3, none⟩ = some (.slice A m c) := keep_cell hb HC.out
  clear hb
  go_wp2_with fail
  go_ret
  exact ⟨rfl, HB.out⟩
theorem pending_no (v : Value) (w : World) (h : NoP v w) : Calls Try.prog 12 #[v] w fun x w' => x = .returned (.int .i64 0) ∧ Below w.heap.size w w' := by
  have HG := hid (given_no v w h)
  clear h
  go_enter Try.func12, Try.ntmps12
  go_wp2_with fail
  refine HG.out.mono ?_
  rintro e W ⟨rfl, hb⟩
  have HB := hid hb
  clear hb
  go_wp2_with fail
  go_ret
  exact ⟨rfl, HB.out⟩
end Go.Proofs.Ytkjpdfcemdhnpaa
