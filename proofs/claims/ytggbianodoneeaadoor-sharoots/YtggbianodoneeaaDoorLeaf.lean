
/- What sha's small functions do: right, mixed, readWord, putWord. -/
import Derived.Test.YtggbianodoneeaaDoorProg
import Derived.Test.YtggbianodoneeaaDoorMath
import Derived.WalkKit
import Derived.Below
import Derived.Deep.QuietTactic
import Derived.BigQuiet
namespace Go.Proofs.YtggbianodoneeaaDoor
open Go.RowKit

theorem neg_and_fin : ∀ n : Fin 32, 1 ≤ n.val → bits .and .u64 (IntKind.u64.wrap (-(n.val : Int))) 31 = 32 - (n.val : Int) := by decide +kernel
theorem neg_and (n : Nat) (h1 : 1 ≤ n) (h2 : n ≤ 31) : bits .and .u64 (IntKind.u64.wrap (-(n : Int))) 31 = 32 - (n : Int) := neg_and_fin ⟨n, by omega⟩ h1

set_option maxHeartbeats 400000 in
theorem rotl_any (x : UInt32) (n : Nat) (w : World) (h1 : 1 ≤ n) (h2 : n ≤ 31) :
    Calls Tryd.prog 54 #[.int .u32 (nv x), .int .i64 (-(n : Int))] w fun e w' => e = .returned (.int .u32 (nv (rotr x n))) ∧ w' = w := by
  have hn := neg_and n h1 h2
  go_enter Tryd.func54, Tryd.ntmps54
  go_wp2
  go_ret
  exact ⟨by simp only [show 32 - (32 - n) = n from by omega, nv_rot]; rfl, rfl⟩

theorem right_any (x : UInt32) (n : Nat) (w : World) (h1 : 1 ≤ n) (h2 : n ≤ 31) :
    Calls Tryd.prog 53 #[.int .u32 (nv x), .int .i64 (n : Int)] w fun e w' => e = .returned (.int .u32 (nv (rotr x n))) ∧ w' = w := by
  go_enter Tryd.func53, Tryd.ntmps53
  go_wp2_with (go_at_call 54; refine (rotl_any x n _ h1 h2).mono ?_; rintro e w' ⟨rfl, rfl⟩)
  go_ret
  exact ⟨rfl, rfl⟩

theorem mixed_any (x : UInt32) (i j k : Nat) (w : World) (hi : 1 ≤ i ∧ i ≤ 31) (hj : 1 ≤ j ∧ j ≤ 31) (hk : 1 ≤ k ∧ k ≤ 31) :
    Calls Tryd.prog 50 #[.int .u32 (nv x), .int .i64 (i : Int), .int .i64 (j : Int), .int .i64 (k : Int)] w fun e w' => e = .returned (.int .u32 (nv ((rotr x i ^^^ rotr x j) ^^^ rotr x k))) ∧ w' = w := by
  have hx := nv_xor
  go_enter Tryd.func50, Tryd.ntmps50
  go_wp2_with fail
  refine (right_any x i _ hi.1 hi.2).mono ?_
  rintro e w' ⟨rfl, rfl⟩
  go_wp2_with fail
  refine (right_any x j _ hj.1 hj.2).mono ?_
  rintro e w' ⟨rfl, rfl⟩
  go_wp2_with fail
  refine (right_any x k _ hk.1 hk.2).mono ?_
  rintro e w' ⟨rfl, rfl⟩
  go_wp2_with fail
  go_ret
  exact ⟨rfl, rfl⟩

set_option maxHeartbeats 400000 in
theorem readWord_any (g o len cap : Nat) (b0 b1 b2 b3 : UInt8) (w : World) (hl : 4 ≤ len)
    (c0 : w.cell? ⟨g, o, none⟩ = some (.int .u8 b0.toNat)) (c1 : w.cell? ⟨g, o + 1, none⟩ = some (.int .u8 b1.toNat)) (c2 : w.cell? ⟨g, o + 2, none⟩ = some (.int .u8 b2.toNat)) (c3 : w.cell? ⟨g, o + 3, none⟩ = some (.int .u8 b3.toNat)) :
    Calls Tryd.prog 52 #[.slice (some ⟨g, o, none⟩) len cap] w fun e w' => e = .returned (.int .u32 (nv (be4 b0 b1 b2 b3))) ∧ ∃ n, w' = w.drewN n := by
  go_enter Tryd.func52, Tryd.ntmps52
  go_wp2
  go_quiet (fail)
  go_wp2
  go_ret
  exact ⟨by simp only [nv_be4]; rfl, nq, rfl⟩

/-- Four bytes laid down from o on in block g. -/
def put4 (w : World) (g o : Nat) (x : UInt32) : World :=
  (((w.setCell ⟨g, o, none⟩ (.int .u8 (nv x / 16777216 % 256))).setCell ⟨g, o + 1, none⟩ (.int .u8 (nv x / 65536 % 256))).setCell ⟨g, o + 2, none⟩ (.int .u8 (nv x / 256 % 256))).setCell ⟨g, o + 3, none⟩ (.int .u8 (nv x % 256))

set_option maxHeartbeats 400000 in
theorem putWord_any (g o len cap : Nat) (x : UInt32) (w : World) (hl : 4 ≤ len) (cs : Array Value) (t : TypeId) (hg : w.heap[g]? = some (.cells cs t (0, 0))) (hn : o + 4 ≤ cs.size) :
    Calls Tryd.prog 46 #[.slice (some ⟨g, o, none⟩) len cap, .int .u32 (nv x)] w fun e w' => e = .returned (.tuple #[]) ∧ w' = put4 w g o x := by
  have hc : ∀ j, j < cs.size → ∃ v, w.cell? ⟨g, j, none⟩ = some v := fun j hj => ⟨cs[j], by rw [cell_of_row w g j cs t (0, 0) hg]; simp [hj]⟩
  have hf : ∀ j, w.frozen? ⟨g, j, none⟩ = false := fun j => frozen_of_row w g j cs t hg
  obtain ⟨v0, c0⟩ := hc o (by omega)
  obtain ⟨v1, c1⟩ := hc (o + 1) (by omega)
  obtain ⟨v2, c2⟩ := hc (o + 2) (by omega)
  obtain ⟨v3, c3⟩ := hc (o + 3) (by omega)
  clear hc
  have f0 := hf o
  have f1 := hf (o + 1)
  have f2 := hf (o + 2)
  have f3 := hf (o + 3)
  clear hf hg hn
  go_enter Tryd.func46, Tryd.ntmps46
  go_wp2
  go_end0
  exact ⟨rfl, rfl⟩

end Go.Proofs.YtggbianodoneeaaDoor
