import Derived.Test.YtgoiafndapemjaaGreatDoorQ08
import Derived.Deep.DeepCutAuto
set_option linter.unusedVariables false
set_option linter.unusedSimpArgs false
set_option maxHeartbeats 1000000
namespace Go.Proofs.YtgoiafndapemjaaGreatDoor
open Go.RowKit
def hiW (n : Nat) : UInt32 := UInt32.ofNat (n * 8 / 4294967296)
def loW (n : Nat) : UInt32 := UInt32.ofNat (n * 8)
def lastOf (r : List UInt8) (n : Nat) : List UInt8 := r.take 56 ++ (bytesOf (hiW n) ++ bytesOf (loW n))
def fin (s : St) (r : List UInt8) (n : Nat) : List UInt8 :=
 if 56 ≤ n % 64 then digS (turnS (turnS s (r.set (n % 64) 128)) (lastOf (zer 64) n)) else digS (turnS s (lastOf (r.set (n % 64) 128) n))
def SumAt (w : World) (s : St) (r : List UInt8) (wx : World) (b3 b4 : Nat) : Prop :=
 wx.heap[b3]? = some (.cells s.cs 107 (0, 0)) ∧ wx.heap[b4]? = some (.cells (bcs r) 159 (0, 0)) ∧ wx.heap[w.heap.size]? = some (.cells (bcs (zer 32)) 74 (0, 0)) ∧ w.heap.size < b3 ∧ w.heap.size < b4 ∧ b3 ≠ b4 ∧ Below w.heap.size w wx
theorem range_alloc {w : World} {b o : Nat} {cs : List Value} (h : w.rangeAt b o cs) (ob : Obj) : (w.alloc ob).rangeAt b o cs := World.rangeAt_alloc h ob
theorem sumA (w : World) (s : St) (r : List UInt8) (hr : r.length = 64) : ∃ W1 W2, (storeI 107 (.pointer (some ⟨w.heap.size + 1, 0, none⟩)) (.agg s.cs)).run Tryz.prog ((((w.alloc (.cells #[Value.int .u8 0, Value.int .u8 0, Value.int .u8 0, Value.int .u8 0, Value.int .u8 0, Value.int .u8 0, Value.int .u8 0, Value.int .u8 0, Value.int .u8 0, Value.int .u8 0, Value.int .u8 0, Value.int .u8 0, Value.int .u8 0, Value.int .u8 0, Value.int .u8 0, Value.int .u8 0, Value.int .u8 0, Value.int .u8 0, Value.int .u8 0, Value.int .u8 0, Value.int .u8 0, Value.int .u8 0, Value.int .u8 0, Value.int .u8 0, Value.int .u8 0, Value.int .u8 0, Value.int .u8 0, Value.int .u8 0, Value.int .u8 0, Value.int .u8 0, Value.int .u8 0, Value.int .u8 0] 74)).alloc (.cells #[Value.int .u32 0, Value.int .u32 0, Value.int .u32 0, Value.int .u32 0, Value.int .u32 0, Value.int .u32 0, Value.int .u32 0, Value.int .u32 0] 107)).alloc (.cells #[Value.int .u8 0, Value.int .u8 0, Value.int .u8 0, Value.int .u8 0, Value.int .u8 0, Value.int .u8 0, Value.int .u8 0, Value.int .u8 0, Value.int .u8 0, Value.int .u8 0, Value.int .u8 0, Value.int .u8 0, Value.int .u8 0, Value.int .u8 0, Value.int .u8 0, Value.int .u8 0, Value.int .u8 0, Value.int .u8 0, Value.int .u8 0, Value.int .u8 0, Value.int .u8 0, Value.int .u8 0, Value.int .u8 0, Value.int .u8 0, Value.int .u8 0, Value.int .u8 0, Value.int .u8 0, Value.int .u8 0, Value.int .u8 0, Value.int .u8 0, Value.int .u8 0, Value.int .u8 0, Value.int .u8 0, Value.int .u8 0, Value.int .u8 0, Value.int .u8 0, Value.int .u8 0, Value.int .u8 0, Value.int .u8 0, Value.int .u8 0, Value.int .u8 0, Value.int .u8 0, Value.int .u8 0, Value.int .u8 0, Value.int .u8 0, Value.int .u8 0, Value.int .u8 0, Value.int .u8 0, Value.int .u8 0, Value.int .u8 0, Value.int .u8 0, Value.int .u8 0, Value.int .u8 0, Value.int .u8 0, Value.int .u8 0, Value.int .u8 0, Value.int .u8 0, Value.int .u8 0, Value.int .u8 0, Value.int .u8 0, Value.int .u8 0, Value.int .u8 0, Value.int .u8 0, Value.int .u8 0] 159)).drew) = .ok () W1
  ∧ (storeI 159 (.pointer (some ⟨w.heap.size + 1 + 1, 0, none⟩)) (.agg (bcs r))).run Tryz.prog W1 = .ok () W2 ∧ Below w.heap.size w W1 ∧ SumAt w s r W2 (w.heap.size + 1) (w.heap.size + 1 + 1) := by
 have h0 : ((((w.alloc (.cells #[Value.int .u8 0, Value.int .u8 0, Value.int .u8 0, Value.int .u8 0, Value.int .u8 0, Value.int .u8 0, Value.int .u8 0, Value.int .u8 0, Value.int .u8 0, Value.int .u8 0, Value.int .u8 0, Value.int .u8 0, Value.int .u8 0, Value.int .u8 0, Value.int .u8 0, Value.int .u8 0, Value.int .u8 0, Value.int .u8 0, Value.int .u8 0, Value.int .u8 0, Value.int .u8 0, Value.int .u8 0, Value.int .u8 0, Value.int .u8 0, Value.int .u8 0, Value.int .u8 0, Value.int .u8 0, Value.int .u8 0, Value.int .u8 0, Value.int .u8 0, Value.int .u8 0, Value.int .u8 0] 74)).alloc (.cells #[Value.int .u32 0, Value.int .u32 0, Value.int .u32 0, Value.int .u32 0, Value.int .u32 0, Value.int .u32 0, Value.int .u32 0, Value.int .u32 0] 107)).alloc (.cells #[Value.int .u8 0, Value.int .u8 0, Value.int .u8 0, Value.int .u8 0, Value.int .u8 0, Value.int .u8 0, Value.int .u8 0, Value.int .u8 0, Value.int .u8 0, Value.int .u8 0, Value.int .u8 0, Value.int .u8 0, Value.int .u8 0, Value.int .u8 0, Value.int .u8 0, Value.int .u8 0, Value.int .u8 0, Value.int .u8 0, Value.int .u8 0, Value.int .u8 0, Value.int .u8 0, Value.int .u8 0, Value.int .u8 0, Value.int .u8 0, Value.int .u8 0, Value.int .u8 0, Value.int .u8 0, Value.int .u8 0, Value.int .u8 0, Value.int .u8 0, Value.int .u8 0, Value.int .u8 0, Value.int .u8 0, Value.int .u8 0, Value.int .u8 0, Value.int .u8 0, Value.int .u8 0, Value.int .u8 0, Value.int .u8 0, Value.int .u8 0, Value.int .u8 0, Value.int .u8 0, Value.int .u8 0, Value.int .u8 0, Value.int .u8 0, Value.int .u8 0, Value.int .u8 0, Value.int .u8 0, Value.int .u8 0, Value.int .u8 0, Value.int .u8 0, Value.int .u8 0, Value.int .u8 0, Value.int .u8 0, Value.int .u8 0, Value.int .u8 0, Value.int .u8 0, Value.int .u8 0, Value.int .u8 0, Value.int .u8 0, Value.int .u8 0, Value.int .u8 0, Value.int .u8 0, Value.int .u8 0] 159)).drew).heap[w.heap.size]? = some (.cells (bcs (zer 32)) 74 (0, 0)) := heap3_0 w _ _ _
 have h1 : ((((w.alloc (.cells #[Value.int .u8 0, Value.int .u8 0, Value.int .u8 0, Value.int .u8 0, Value.int .u8 0, Value.int .u8 0, Value.int .u8 0, Value.int .u8 0, Value.int .u8 0, Value.int .u8 0, Value.int .u8 0, Value.int .u8 0, Value.int .u8 0, Value.int .u8 0, Value.int .u8 0, Value.int .u8 0, Value.int .u8 0, Value.int .u8 0, Value.int .u8 0, Value.int .u8 0, Value.int .u8 0, Value.int .u8 0, Value.int .u8 0, Value.int .u8 0, Value.int .u8 0, Value.int .u8 0, Value.int .u8 0, Value.int .u8 0, Value.int .u8 0, Value.int .u8 0, Value.int .u8 0, Value.int .u8 0] 74)).alloc (.cells #[Value.int .u32 0, Value.int .u32 0, Value.int .u32 0, Value.int .u32 0, Value.int .u32 0, Value.int .u32 0, Value.int .u32 0, Value.int .u32 0] 107)).alloc (.cells #[Value.int .u8 0, Value.int .u8 0, Value.int .u8 0, Value.int .u8 0, Value.int .u8 0, Value.int .u8 0, Value.int .u8 0, Value.int .u8 0, Value.int .u8 0, Value.int .u8 0, Value.int .u8 0, Value.int .u8 0, Value.int .u8 0, Value.int .u8 0, Value.int .u8 0, Value.int .u8 0, Value.int .u8 0, Value.int .u8 0, Value.int .u8 0, Value.int .u8 0, Value.int .u8 0, Value.int .u8 0, Value.int .u8 0, Value.int .u8 0, Value.int .u8 0, Value.int .u8 0, Value.int .u8 0, Value.int .u8 0, Value.int .u8 0, Value.int .u8 0, Value.int .u8 0, Value.int .u8 0, Value.int .u8 0, Value.int .u8 0, Value.int .u8 0, Value.int .u8 0, Value.int .u8 0, Value.int .u8 0, Value.int .u8 0, Value.int .u8 0, Value.int .u8 0, Value.int .u8 0, Value.int .u8 0, Value.int .u8 0, Value.int .u8 0, Value.int .u8 0, Value.int .u8 0, Value.int .u8 0, Value.int .u8 0, Value.int .u8 0, Value.int .u8 0, Value.int .u8 0, Value.int .u8 0, Value.int .u8 0, Value.int .u8 0, Value.int .u8 0, Value.int .u8 0, Value.int .u8 0, Value.int .u8 0, Value.int .u8 0, Value.int .u8 0, Value.int .u8 0, Value.int .u8 0, Value.int .u8 0] 159)).drew).heap[w.heap.size + 1]? = some (.cells #[Value.int .u32 0, Value.int .u32 0, Value.int .u32 0, Value.int .u32 0, Value.int .u32 0, Value.int .u32 0, Value.int .u32 0, Value.int .u32 0] 107 (0, 0)) := heap3_1 w _ _ _
 have h2 : ((((w.alloc (.cells #[Value.int .u8 0, Value.int .u8 0, Value.int .u8 0, Value.int .u8 0, Value.int .u8 0, Value.int .u8 0, Value.int .u8 0, Value.int .u8 0, Value.int .u8 0, Value.int .u8 0, Value.int .u8 0, Value.int .u8 0, Value.int .u8 0, Value.int .u8 0, Value.int .u8 0, Value.int .u8 0, Value.int .u8 0, Value.int .u8 0, Value.int .u8 0, Value.int .u8 0, Value.int .u8 0, Value.int .u8 0, Value.int .u8 0, Value.int .u8 0, Value.int .u8 0, Value.int .u8 0, Value.int .u8 0, Value.int .u8 0, Value.int .u8 0, Value.int .u8 0, Value.int .u8 0, Value.int .u8 0] 74)).alloc (.cells #[Value.int .u32 0, Value.int .u32 0, Value.int .u32 0, Value.int .u32 0, Value.int .u32 0, Value.int .u32 0, Value.int .u32 0, Value.int .u32 0] 107)).alloc (.cells #[Value.int .u8 0, Value.int .u8 0, Value.int .u8 0, Value.int .u8 0, Value.int .u8 0, Value.int .u8 0, Value.int .u8 0, Value.int .u8 0, Value.int .u8 0, Value.int .u8 0, Value.int .u8 0, Value.int .u8 0, Value.int .u8 0, Value.int .u8 0, Value.int .u8 0, Value.int .u8 0, Value.int .u8 0, Value.int .u8 0, Value.int .u8 0, Value.int .u8 0, Value.int .u8 0, Value.int .u8 0, Value.int .u8 0, Value.int .u8 0, Value.int .u8 0, Value.int .u8 0, Value.int .u8 0, Value.int .u8 0, Value.int .u8 0, Value.int .u8 0, Value.int .u8 0, Value.int .u8 0, Value.int .u8 0, Value.int .u8 0, Value.int .u8 0, Value.int .u8 0, Value.int .u8 0, Value.int .u8 0, Value.int .u8 0, Value.int .u8 0, Value.int .u8 0, Value.int .u8 0, Value.int .u8 0, Value.int .u8 0, Value.int .u8 0, Value.int .u8 0, Value.int .u8 0, Value.int .u8 0, Value.int .u8 0, Value.int .u8 0, Value.int .u8 0, Value.int .u8 0, Value.int .u8 0, Value.int .u8 0, Value.int .u8 0, Value.int .u8 0, Value.int .u8 0, Value.int .u8 0, Value.int .u8 0, Value.int .u8 0, Value.int .u8 0, Value.int .u8 0, Value.int .u8 0, Value.int .u8 0] 159)).drew).heap[w.heap.size + 1 + 1]? = some (.cells (bcs (zer 64)) 159 (0, 0)) := heap3_2 w _ _ _
 have hb : Below w.heap.size w ((((w.alloc (.cells #[Value.int .u8 0, Value.int .u8 0, Value.int .u8 0, Value.int .u8 0, Value.int .u8 0, Value.int .u8 0, Value.int .u8 0, Value.int .u8 0, Value.int .u8 0, Value.int .u8 0, Value.int .u8 0, Value.int .u8 0, Value.int .u8 0, Value.int .u8 0, Value.int .u8 0, Value.int .u8 0, Value.int .u8 0, Value.int .u8 0, Value.int .u8 0, Value.int .u8 0, Value.int .u8 0, Value.int .u8 0, Value.int .u8 0, Value.int .u8 0, Value.int .u8 0, Value.int .u8 0, Value.int .u8 0, Value.int .u8 0, Value.int .u8 0, Value.int .u8 0, Value.int .u8 0, Value.int .u8 0] 74)).alloc (.cells #[Value.int .u32 0, Value.int .u32 0, Value.int .u32 0, Value.int .u32 0, Value.int .u32 0, Value.int .u32 0, Value.int .u32 0, Value.int .u32 0] 107)).alloc (.cells #[Value.int .u8 0, Value.int .u8 0, Value.int .u8 0, Value.int .u8 0, Value.int .u8 0, Value.int .u8 0, Value.int .u8 0, Value.int .u8 0, Value.int .u8 0, Value.int .u8 0, Value.int .u8 0, Value.int .u8 0, Value.int .u8 0, Value.int .u8 0, Value.int .u8 0, Value.int .u8 0, Value.int .u8 0, Value.int .u8 0, Value.int .u8 0, Value.int .u8 0, Value.int .u8 0, Value.int .u8 0, Value.int .u8 0, Value.int .u8 0, Value.int .u8 0, Value.int .u8 0, Value.int .u8 0, Value.int .u8 0, Value.int .u8 0, Value.int .u8 0, Value.int .u8 0, Value.int .u8 0, Value.int .u8 0, Value.int .u8 0, Value.int .u8 0, Value.int .u8 0, Value.int .u8 0, Value.int .u8 0, Value.int .u8 0, Value.int .u8 0, Value.int .u8 0, Value.int .u8 0, Value.int .u8 0, Value.int .u8 0, Value.int .u8 0, Value.int .u8 0, Value.int .u8 0, Value.int .u8 0, Value.int .u8 0, Value.int .u8 0, Value.int .u8 0, Value.int .u8 0, Value.int .u8 0, Value.int .u8 0, Value.int .u8 0, Value.int .u8 0, Value.int .u8 0, Value.int .u8 0, Value.int .u8 0, Value.int .u8 0, Value.int .u8 0, Value.int .u8 0, Value.int .u8 0, Value.int .u8 0] 159)).drew) := by
  have := below3 w (.cells #[Value.int .u8 0, Value.int .u8 0, Value.int .u8 0, Value.int .u8 0, Value.int .u8 0, Value.int .u8 0, Value.int .u8 0, Value.int .u8 0, Value.int .u8 0, Value.int .u8 0, Value.int .u8 0, Value.int .u8 0, Value.int .u8 0, Value.int .u8 0, Value.int .u8 0, Value.int .u8 0, Value.int .u8 0, Value.int .u8 0, Value.int .u8 0, Value.int .u8 0, Value.int .u8 0, Value.int .u8 0, Value.int .u8 0, Value.int .u8 0, Value.int .u8 0, Value.int .u8 0, Value.int .u8 0, Value.int .u8 0, Value.int .u8 0, Value.int .u8 0, Value.int .u8 0, Value.int .u8 0] 74) (.cells #[Value.int .u32 0, Value.int .u32 0, Value.int .u32 0, Value.int .u32 0, Value.int .u32 0, Value.int .u32 0, Value.int .u32 0, Value.int .u32 0] 107) (.cells #[Value.int .u8 0, Value.int .u8 0, Value.int .u8 0, Value.int .u8 0, Value.int .u8 0, Value.int .u8 0, Value.int .u8 0, Value.int .u8 0, Value.int .u8 0, Value.int .u8 0, Value.int .u8 0, Value.int .u8 0, Value.int .u8 0, Value.int .u8 0, Value.int .u8 0, Value.int .u8 0, Value.int .u8 0, Value.int .u8 0, Value.int .u8 0, Value.int .u8 0, Value.int .u8 0, Value.int .u8 0, Value.int .u8 0, Value.int .u8 0, Value.int .u8 0, Value.int .u8 0, Value.int .u8 0, Value.int .u8 0, Value.int .u8 0, Value.int .u8 0, Value.int .u8 0, Value.int .u8 0, Value.int .u8 0, Value.int .u8 0, Value.int .u8 0, Value.int .u8 0, Value.int .u8 0, Value.int .u8 0, Value.int .u8 0, Value.int .u8 0, Value.int .u8 0, Value.int .u8 0, Value.int .u8 0, Value.int .u8 0, Value.int .u8 0, Value.int .u8 0, Value.int .u8 0, Value.int .u8 0, Value.int .u8 0, Value.int .u8 0, Value.int .u8 0, Value.int .u8 0, Value.int .u8 0, Value.int .u8 0, Value.int .u8 0, Value.int .u8 0, Value.int .u8 0, Value.int .u8 0, Value.int .u8 0, Value.int .u8 0, Value.int .u8 0, Value.int .u8 0, Value.int .u8 0, Value.int .u8 0] 159)
  exact ⟨this.os, this.tape, this.output, this.size, this.block⟩
 generalize (((w.alloc (.cells #[Value.int .u8 0, Value.int .u8 0, Value.int .u8 0, Value.int .u8 0, Value.int .u8 0, Value.int .u8 0, Value.int .u8 0, Value.int .u8 0, Value.int .u8 0, Value.int .u8 0, Value.int .u8 0, Value.int .u8 0, Value.int .u8 0, Value.int .u8 0, Value.int .u8 0, Value.int .u8 0, Value.int .u8 0, Value.int .u8 0, Value.int .u8 0, Value.int .u8 0, Value.int .u8 0, Value.int .u8 0, Value.int .u8 0, Value.int .u8 0, Value.int .u8 0, Value.int .u8 0, Value.int .u8 0, Value.int .u8 0, Value.int .u8 0, Value.int .u8 0, Value.int .u8 0, Value.int .u8 0] 74)).alloc (.cells #[Value.int .u32 0, Value.int .u32 0, Value.int .u32 0, Value.int .u32 0, Value.int .u32 0, Value.int .u32 0, Value.int .u32 0, Value.int .u32 0] 107)).alloc (.cells #[Value.int .u8 0, Value.int .u8 0, Value.int .u8 0, Value.int .u8 0, Value.int .u8 0, Value.int .u8 0, Value.int .u8 0, Value.int .u8 0, Value.int .u8 0, Value.int .u8 0, Value.int .u8 0, Value.int .u8 0, Value.int .u8 0, Value.int .u8 0, Value.int .u8 0, Value.int .u8 0, Value.int .u8 0, Value.int .u8 0, Value.int .u8 0, Value.int .u8 0, Value.int .u8 0, Value.int .u8 0, Value.int .u8 0, Value.int .u8 0, Value.int .u8 0, Value.int .u8 0, Value.int .u8 0, Value.int .u8 0, Value.int .u8 0, Value.int .u8 0, Value.int .u8 0, Value.int .u8 0, Value.int .u8 0, Value.int .u8 0, Value.int .u8 0, Value.int .u8 0, Value.int .u8 0, Value.int .u8 0, Value.int .u8 0, Value.int .u8 0, Value.int .u8 0, Value.int .u8 0, Value.int .u8 0, Value.int .u8 0, Value.int .u8 0, Value.int .u8 0, Value.int .u8 0, Value.int .u8 0, Value.int .u8 0, Value.int .u8 0, Value.int .u8 0, Value.int .u8 0, Value.int .u8 0, Value.int .u8 0, Value.int .u8 0, Value.int .u8 0, Value.int .u8 0, Value.int .u8 0, Value.int .u8 0, Value.int .u8 0, Value.int .u8 0, Value.int .u8 0, Value.int .u8 0, Value.int .u8 0] 159)).drew = W at *
 obtain ⟨W1, e1, o1, r1⟩ := store35_row h1 (o := 0) (Nat.le_refl 8) s
 obtain ⟨W2, e2, o2, r2⟩ := store49_row ((o1.block _ (by omega)).trans h2) (o := 0) (by rw [bcs_size, zer_len]; omega) r hr
 refine ⟨W1, W2, e1, e2, hb.trans (o1.below (by omega)), ?_, ?_, ?_, by omega, by omega, by omega, (hb.trans (o1.below (by omega))).trans (o2.below (by omega))⟩
 ·rw [o2.block _ (by omega), r1, show over #[Value.int .u32 0, Value.int .u32 0, Value.int .u32 0, Value.int .u32 0, Value.int .u32 0, Value.int .u32 0, Value.int .u32 0, Value.int .u32 0] 0 (wvs s.l) = s.cs from over8 _ s rfl]
 ·rw [r2, show over (bcs (zer 64)) 0 (bvs r) = bcs r from over_bytes _ r (by rw [bcs_size, zer_len, hr])]
 ·rw [o2.block _ (by omega), o1.block _ (by omega)]; exact h0
theorem sumB (w : World) (s : St) (r : List UInt8) (hr : r.length = 64) : ∃ W1 W2, (storeI 107 (.pointer (some ⟨w.heap.size + 1 + 1, 0, none⟩)) (.agg s.cs)).run Tryz.prog ((((w.alloc (.cells #[Value.int .u8 0, Value.int .u8 0, Value.int .u8 0, Value.int .u8 0, Value.int .u8 0, Value.int .u8 0, Value.int .u8 0, Value.int .u8 0, Value.int .u8 0, Value.int .u8 0, Value.int .u8 0, Value.int .u8 0, Value.int .u8 0, Value.int .u8 0, Value.int .u8 0, Value.int .u8 0, Value.int .u8 0, Value.int .u8 0, Value.int .u8 0, Value.int .u8 0, Value.int .u8 0, Value.int .u8 0, Value.int .u8 0, Value.int .u8 0, Value.int .u8 0, Value.int .u8 0, Value.int .u8 0, Value.int .u8 0, Value.int .u8 0, Value.int .u8 0, Value.int .u8 0, Value.int .u8 0] 74)).alloc (.cells #[Value.int .u8 0, Value.int .u8 0, Value.int .u8 0, Value.int .u8 0, Value.int .u8 0, Value.int .u8 0, Value.int .u8 0, Value.int .u8 0, Value.int .u8 0, Value.int .u8 0, Value.int .u8 0, Value.int .u8 0, Value.int .u8 0, Value.int .u8 0, Value.int .u8 0, Value.int .u8 0, Value.int .u8 0, Value.int .u8 0, Value.int .u8 0, Value.int .u8 0, Value.int .u8 0, Value.int .u8 0, Value.int .u8 0, Value.int .u8 0, Value.int .u8 0, Value.int .u8 0, Value.int .u8 0, Value.int .u8 0, Value.int .u8 0, Value.int .u8 0, Value.int .u8 0, Value.int .u8 0, Value.int .u8 0, Value.int .u8 0, Value.int .u8 0, Value.int .u8 0, Value.int .u8 0, Value.int .u8 0, Value.int .u8 0, Value.int .u8 0, Value.int .u8 0, Value.int .u8 0, Value.int .u8 0, Value.int .u8 0, Value.int .u8 0, Value.int .u8 0, Value.int .u8 0, Value.int .u8 0, Value.int .u8 0, Value.int .u8 0, Value.int .u8 0, Value.int .u8 0, Value.int .u8 0, Value.int .u8 0, Value.int .u8 0, Value.int .u8 0, Value.int .u8 0, Value.int .u8 0, Value.int .u8 0, Value.int .u8 0, Value.int .u8 0, Value.int .u8 0, Value.int .u8 0, Value.int .u8 0] 159)).alloc (.cells #[Value.int .u32 0, Value.int .u32 0, Value.int .u32 0, Value.int .u32 0, Value.int .u32 0, Value.int .u32 0, Value.int .u32 0, Value.int .u32 0] 107)).drew) = .ok () W1
  ∧ (storeI 159 (.pointer (some ⟨w.heap.size + 1, 0, none⟩)) (.agg (bcs r))).run Tryz.prog W1 = .ok () W2 ∧ Below w.heap.size w W1 ∧ SumAt w s r W2 (w.heap.size + 1 + 1) (w.heap.size + 1) := by
 have h0 : ((((w.alloc (.cells #[Value.int .u8 0, Value.int .u8 0, Value.int .u8 0, Value.int .u8 0, Value.int .u8 0, Value.int .u8 0, Value.int .u8 0, Value.int .u8 0, Value.int .u8 0, Value.int .u8 0, Value.int .u8 0, Value.int .u8 0, Value.int .u8 0, Value.int .u8 0, Value.int .u8 0, Value.int .u8 0, Value.int .u8 0, Value.int .u8 0, Value.int .u8 0, Value.int .u8 0, Value.int .u8 0, Value.int .u8 0, Value.int .u8 0, Value.int .u8 0, Value.int .u8 0, Value.int .u8 0, Value.int .u8 0, Value.int .u8 0, Value.int .u8 0, Value.int .u8 0, Value.int .u8 0, Value.int .u8 0] 74)).alloc (.cells #[Value.int .u8 0, Value.int .u8 0, Value.int .u8 0, Value.int .u8 0, Value.int .u8 0, Value.int .u8 0, Value.int .u8 0, Value.int .u8 0, Value.int .u8 0, Value.int .u8 0, Value.int .u8 0, Value.int .u8 0, Value.int .u8 0, Value.int .u8 0, Value.int .u8 0, Value.int .u8 0, Value.int .u8 0, Value.int .u8 0, Value.int .u8 0, Value.int .u8 0, Value.int .u8 0, Value.int .u8 0, Value.int .u8 0, Value.int .u8 0, Value.int .u8 0, Value.int .u8 0, Value.int .u8 0, Value.int .u8 0, Value.int .u8 0, Value.int .u8 0, Value.int .u8 0, Value.int .u8 0, Value.int .u8 0, Value.int .u8 0, Value.int .u8 0, Value.int .u8 0, Value.int .u8 0, Value.int .u8 0, Value.int .u8 0, Value.int .u8 0, Value.int .u8 0, Value.int .u8 0, Value.int .u8 0, Value.int .u8 0, Value.int .u8 0, Value.int .u8 0, Value.int .u8 0, Value.int .u8 0, Value.int .u8 0, Value.int .u8 0, Value.int .u8 0, Value.int .u8 0, Value.int .u8 0, Value.int .u8 0, Value.int .u8 0, Value.int .u8 0, Value.int .u8 0, Value.int .u8 0, Value.int .u8 0, Value.int .u8 0, Value.int .u8 0, Value.int .u8 0, Value.int .u8 0, Value.int .u8 0] 159)).alloc (.cells #[Value.int .u32 0, Value.int .u32 0, Value.int .u32 0, Value.int .u32 0, Value.int .u32 0, Value.int .u32 0, Value.int .u32 0, Value.int .u32 0] 107)).drew).heap[w.heap.size]? = some (.cells (bcs (zer 32)) 74 (0, 0)) := heap3_0 w _ _ _
 have h1 : ((((w.alloc (.cells #[Value.int .u8 0, Value.int .u8 0, Value.int .u8 0, Value.int .u8 0, Value.int .u8 0, Value.int .u8 0, Value.int .u8 0, Value.int .u8 0, Value.int .u8 0, Value.int .u8 0, Value.int .u8 0, Value.int .u8 0, Value.int .u8 0, Value.int .u8 0, Value.int .u8 0, Value.int .u8 0, Value.int .u8 0, Value.int .u8 0, Value.int .u8 0, Value.int .u8 0, Value.int .u8 0, Value.int .u8 0, Value.int .u8 0, Value.int .u8 0, Value.int .u8 0, Value.int .u8 0, Value.int .u8 0, Value.int .u8 0, Value.int .u8 0, Value.int .u8 0, Value.int .u8 0, Value.int .u8 0] 74)).alloc (.cells #[Value.int .u8 0, Value.int .u8 0, Value.int .u8 0, Value.int .u8 0, Value.int .u8 0, Value.int .u8 0, Value.int .u8 0, Value.int .u8 0, Value.int .u8 0, Value.int .u8 0, Value.int .u8 0, Value.int .u8 0, Value.int .u8 0, Value.int .u8 0, Value.int .u8 0, Value.int .u8 0, Value.int .u8 0, Value.int .u8 0, Value.int .u8 0, Value.int .u8 0, Value.int .u8 0, Value.int .u8 0, Value.int .u8 0, Value.int .u8 0, Value.int .u8 0, Value.int .u8 0, Value.int .u8 0, Value.int .u8 0, Value.int .u8 0, Value.int .u8 0, Value.int .u8 0, Value.int .u8 0, Value.int .u8 0, Value.int .u8 0, Value.int .u8 0, Value.int .u8 0, Value.int .u8 0, Value.int .u8 0, Value.int .u8 0, Value.int .u8 0, Value.int .u8 0, Value.int .u8 0, Value.int .u8 0, Value.int .u8 0, Value.int .u8 0, Value.int .u8 0, Value.int .u8 0, Value.int .u8 0, Value.int .u8 0, Value.int .u8 0, Value.int .u8 0, Value.int .u8 0, Value.int .u8 0, Value.int .u8 0, Value.int .u8 0, Value.int .u8 0, Value.int .u8 0, Value.int .u8 0, Value.int .u8 0, Value.int .u8 0, Value.int .u8 0, Value.int .u8 0, Value.int .u8 0, Value.int .u8 0] 159)).alloc (.cells #[Value.int .u32 0, Value.int .u32 0, Value.int .u32 0, Value.int .u32 0, Value.int .u32 0, Value.int .u32 0, Value.int .u32 0, Value.int .u32 0] 107)).drew).heap[w.heap.size + 1 + 1]? = some (.cells #[Value.int .u32 0, Value.int .u32 0, Value.int .u32 0, Value.int .u32 0, Value.int .u32 0, Value.int .u32 0, Value.int .u32 0, Value.int .u32 0] 107 (0, 0)) := heap3_2 w _ _ _
 have h2 : ((((w.alloc (.cells #[Value.int .u8 0, Value.int .u8 0, Value.int .u8 0, Value.int .u8 0, Value.int .u8 0, Value.int .u8 0, Value.int .u8 0, Value.int .u8 0, Value.int .u8 0, Value.int .u8 0, Value.int .u8 0, Value.int .u8 0, Value.int .u8 0, Value.int .u8 0, Value.int .u8 0, Value.int .u8 0, Value.int .u8 0, Value.int .u8 0, Value.int .u8 0, Value.int .u8 0, Value.int .u8 0, Value.int .u8 0, Value.int .u8 0, Value.int .u8 0, Value.int .u8 0, Value.int .u8 0, Value.int .u8 0, Value.int .u8 0, Value.int .u8 0, Value.int .u8 0, Value.int .u8 0, Value.int .u8 0] 74)).alloc (.cells #[Value.int .u8 0, Value.int .u8 0, Value.int .u8 0, Value.int .u8 0, Value.int .u8 0, Value.int .u8 0, Value.int .u8 0, Value.int .u8 0, Value.int .u8 0, Value.int .u8 0, Value.int .u8 0, Value.int .u8 0, Value.int .u8 0, Value.int .u8 0, Value.int .u8 0, Value.int .u8 0, Value.int .u8 0, Value.int .u8 0, Value.int .u8 0, Value.int .u8 0, Value.int .u8 0, Value.int .u8 0, Value.int .u8 0, Value.int .u8 0, Value.int .u8 0, Value.int .u8 0, Value.int .u8 0, Value.int .u8 0, Value.int .u8 0, Value.int .u8 0, Value.int .u8 0, Value.int .u8 0, Value.int .u8 0, Value.int .u8 0, Value.int .u8 0, Value.int .u8 0, Value.int .u8 0, Value.int .u8 0, Value.int .u8 0, Value.int .u8 0, Value.int .u8 0, Value.int .u8 0, Value.int .u8 0, Value.int .u8 0, Value.int .u8 0, Value.int .u8 0, Value.int .u8 0, Value.int .u8 0, Value.int .u8 0, Value.int .u8 0, Value.int .u8 0, Value.int .u8 0, Value.int .u8 0, Value.int .u8 0, Value.int .u8 0, Value.int .u8 0, Value.int .u8 0, Value.int .u8 0, Value.int .u8 0, Value.int .u8 0, Value.int .u8 0, Value.int .u8 0, Value.int .u8 0, Value.int .u8 0] 159)).alloc (.cells #[Value.int .u32 0, Value.int .u32 0, Value.int .u32 0, Value.int .u32 0, Value.int .u32 0, Value.int .u32 0, Value.int .u32 0, Value.int .u32 0] 107)).drew).heap[w.heap.size + 1]? = some (.cells (bcs (zer 64)) 159 (0, 0)) := heap3_1 w _ _ _
 have hb : Below w.heap.size w ((((w.alloc (.cells #[Value.int .u8 0, Value.int .u8 0, Value.int .u8 0, Value.int .u8 0, Value.int .u8 0, Value.int .u8 0, Value.int .u8 0, Value.int .u8 0, Value.int .u8 0, Value.int .u8 0, Value.int .u8 0, Value.int .u8 0, Value.int .u8 0, Value.int .u8 0, Value.int .u8 0, Value.int .u8 0, Value.int .u8 0, Value.int .u8 0, Value.int .u8 0, Value.int .u8 0, Value.int .u8 0, Value.int .u8 0, Value.int .u8 0, Value.int .u8 0, Value.int .u8 0, Value.int .u8 0, Value.int .u8 0, Value.int .u8 0, Value.int .u8 0, Value.int .u8 0, Value.int .u8 0, Value.int .u8 0] 74)).alloc (.cells #[Value.int .u8 0, Value.int .u8 0, Value.int .u8 0, Value.int .u8 0, Value.int .u8 0, Value.int .u8 0, Value.int .u8 0, Value.int .u8 0, Value.int .u8 0, Value.int .u8 0, Value.int .u8 0, Value.int .u8 0, Value.int .u8 0, Value.int .u8 0, Value.int .u8 0, Value.int .u8 0, Value.int .u8 0, Value.int .u8 0, Value.int .u8 0, Value.int .u8 0, Value.int .u8 0, Value.int .u8 0, Value.int .u8 0, Value.int .u8 0, Value.int .u8 0, Value.int .u8 0, Value.int .u8 0, Value.int .u8 0, Value.int .u8 0, Value.int .u8 0, Value.int .u8 0, Value.int .u8 0, Value.int .u8 0, Value.int .u8 0, Value.int .u8 0, Value.int .u8 0, Value.int .u8 0, Value.int .u8 0, Value.int .u8 0, Value.int .u8 0, Value.int .u8 0, Value.int .u8 0, Value.int .u8 0, Value.int .u8 0, Value.int .u8 0, Value.int .u8 0, Value.int .u8 0, Value.int .u8 0, Value.int .u8 0, Value.int .u8 0, Value.int .u8 0, Value.int .u8 0, Value.int .u8 0, Value.int .u8 0, Value.int .u8 0, Value.int .u8 0, Value.int .u8 0, Value.int .u8 0, Value.int .u8 0, Value.int .u8 0, Value.int .u8 0, Value.int .u8 0, Value.int .u8 0, Value.int .u8 0] 159)).alloc (.cells #[Value.int .u32 0, Value.int .u32 0, Value.int .u32 0, Value.int .u32 0, Value.int .u32 0, Value.int .u32 0, Value.int .u32 0, Value.int .u32 0] 107)).drew) := by
  have := below3 w (.cells #[Value.int .u8 0, Value.int .u8 0, Value.int .u8 0, Value.int .u8 0, Value.int .u8 0, Value.int .u8 0, Value.int .u8 0, Value.int .u8 0, Value.int .u8 0, Value.int .u8 0, Value.int .u8 0, Value.int .u8 0, Value.int .u8 0, Value.int .u8 0, Value.int .u8 0, Value.int .u8 0, Value.int .u8 0, Value.int .u8 0, Value.int .u8 0, Value.int .u8 0, Value.int .u8 0, Value.int .u8 0, Value.int .u8 0, Value.int .u8 0, Value.int .u8 0, Value.int .u8 0, Value.int .u8 0, Value.int .u8 0, Value.int .u8 0, Value.int .u8 0, Value.int .u8 0, Value.int .u8 0] 74) (.cells #[Value.int .u8 0, Value.int .u8 0, Value.int .u8 0, Value.int .u8 0, Value.int .u8 0, Value.int .u8 0, Value.int .u8 0, Value.int .u8 0, Value.int .u8 0, Value.int .u8 0, Value.int .u8 0, Value.int .u8 0, Value.int .u8 0, Value.int .u8 0, Value.int .u8 0, Value.int .u8 0, Value.int .u8 0, Value.int .u8 0, Value.int .u8 0, Value.int .u8 0, Value.int .u8 0, Value.int .u8 0, Value.int .u8 0, Value.int .u8 0, Value.int .u8 0, Value.int .u8 0, Value.int .u8 0, Value.int .u8 0, Value.int .u8 0, Value.int .u8 0, Value.int .u8 0, Value.int .u8 0, Value.int .u8 0, Value.int .u8 0, Value.int .u8 0, Value.int .u8 0, Value.int .u8 0, Value.int .u8 0, Value.int .u8 0, Value.int .u8 0, Value.int .u8 0, Value.int .u8 0, Value.int .u8 0, Value.int .u8 0, Value.int .u8 0, Value.int .u8 0, Value.int .u8 0, Value.int .u8 0, Value.int .u8 0, Value.int .u8 0, Value.int .u8 0, Value.int .u8 0, Value.int .u8 0, Value.int .u8 0, Value.int .u8 0, Value.int .u8 0, Value.int .u8 0, Value.int .u8 0, Value.int .u8 0, Value.int .u8 0, Value.int .u8 0, Value.int .u8 0, Value.int .u8 0, Value.int .u8 0] 159) (.cells #[Value.int .u32 0, Value.int .u32 0, Value.int .u32 0, Value.int .u32 0, Value.int .u32 0, Value.int .u32 0, Value.int .u32 0, Value.int .u32 0] 107)
  exact ⟨this.os, this.tape, this.output, this.size, this.block⟩
 generalize (((w.alloc (.cells #[Value.int .u8 0, Value.int .u8 0, Value.int .u8 0, Value.int .u8 0, Value.int .u8 0, Value.int .u8 0, Value.int .u8 0, Value.int .u8 0, Value.int .u8 0, Value.int .u8 0, Value.int .u8 0, Value.int .u8 0, Value.int .u8 0, Value.int .u8 0, Value.int .u8 0, Value.int .u8 0, Value.int .u8 0, Value.int .u8 0, Value.int .u8 0, Value.int .u8 0, Value.int .u8 0, Value.int .u8 0, Value.int .u8 0, Value.int .u8 0, Value.int .u8 0, Value.int .u8 0, Value.int .u8 0, Value.int .u8 0, Value.int .u8 0, Value.int .u8 0, Value.int .u8 0, Value.int .u8 0] 74)).alloc (.cells #[Value.int .u8 0, Value.int .u8 0, Value.int .u8 0, Value.int .u8 0, Value.int .u8 0, Value.int .u8 0, Value.int .u8 0, Value.int .u8 0, Value.int .u8 0, Value.int .u8 0, Value.int .u8 0, Value.int .u8 0, Value.int .u8 0, Value.int .u8 0, Value.int .u8 0, Value.int .u8 0, Value.int .u8 0, Value.int .u8 0, Value.int .u8 0, Value.int .u8 0, Value.int .u8 0, Value.int .u8 0, Value.int .u8 0, Value.int .u8 0, Value.int .u8 0, Value.int .u8 0, Value.int .u8 0, Value.int .u8 0, Value.int .u8 0, Value.int .u8 0, Value.int .u8 0, Value.int .u8 0, Value.int .u8 0, Value.int .u8 0, Value.int .u8 0, Value.int .u8 0, Value.int .u8 0, Value.int .u8 0, Value.int .u8 0, Value.int .u8 0, Value.int .u8 0, Value.int .u8 0, Value.int .u8 0, Value.int .u8 0, Value.int .u8 0, Value.int .u8 0, Value.int .u8 0, Value.int .u8 0, Value.int .u8 0, Value.int .u8 0, Value.int .u8 0, Value.int .u8 0, Value.int .u8 0, Value.int .u8 0, Value.int .u8 0, Value.int .u8 0, Value.int .u8 0, Value.int .u8 0, Value.int .u8 0, Value.int .u8 0, Value.int .u8 0, Value.int .u8 0, Value.int .u8 0, Value.int .u8 0] 159)).alloc (.cells #[Value.int .u32 0, Value.int .u32 0, Value.int .u32 0, Value.int .u32 0, Value.int .u32 0, Value.int .u32 0, Value.int .u32 0, Value.int .u32 0] 107)).drew = W at *
 obtain ⟨W1, e1, o1, r1⟩ := store35_row h1 (o := 0) (Nat.le_refl 8) s
 obtain ⟨W2, e2, o2, r2⟩ := store49_row ((o1.block _ (by omega)).trans h2) (o := 0) (by rw [bcs_size, zer_len]; omega) r hr
 refine ⟨W1, W2, e1, e2, hb.trans (o1.below (by omega)), ?_, ?_, ?_, by omega, by omega, by omega, (hb.trans (o1.below (by omega))).trans (o2.below (by omega))⟩
 ·rw [o2.block _ (by omega), r1, show over #[Value.int .u32 0, Value.int .u32 0, Value.int .u32 0, Value.int .u32 0, Value.int .u32 0, Value.int .u32 0, Value.int .u32 0, Value.int .u32 0] 0 (wvs s.l) = s.cs from over8 _ s rfl]
 ·rw [r2, show over (bcs (zer 64)) 0 (bvs r) = bcs r from over_bytes _ r (by rw [bcs_size, zer_len, hr])]
 ·rw [o2.block _ (by omega), o1.block _ (by omega)]; exact h0
theorem bcs_set (r : List UInt8) (i : Nat) (c : UInt8) : (bcs r).setIfInBounds i (.int .u8 c.toNat) = bcs (r.set i c) := by
 simp [bcs, List.map_set]
theorem SumAt.set {w wx : World} {s : St} {r : List UInt8} {b3 b4 : Nat} (h : SumAt w s r wx b3 b4) (i : Nat) (c : UInt8) : SumAt w s (r.set i c) (wx.setCell ⟨b4, i, none⟩ (.int .u8 c.toNat)) b3 b4 := by
 obtain ⟨h1, h2, h3, h4, h5, h6, h7⟩ := h
 refine ⟨?_, ?_, ?_, h4, h5, h6, ?_⟩
 ·rw [heap_setCell_other _ _ _ _ h6]; exact h1
 ·rw [heap_setCell_same _ _ _ _ _ _ h2, bcs_set]
 ·rw [heap_setCell_other _ _ _ _ (by simp; omega)]; exact h3
 ·exact h7.setCell (p := ⟨b4, i, none⟩) (by simp; omega) _
theorem SumAt.l35 {w wx : World} {s : St} {r : List UInt8} {b3 b4 : Nat} (h : SumAt w s r wx b3 b4) : (loadI 107 (.pointer (some ⟨b3, 0, none⟩))).run Tryz.prog wx = .ok (.agg s.cs) wx :=
 load35_row (range_row (a := []) (c := []) (t := 107) (fr := (0, 0)) (by rw [h.1, St.cs_eq]; simp) 0 rfl)
theorem SumAt.l49 {w wx : World} {s : St} {r : List UInt8} {b3 b4 : Nat} (h : SumAt w s r wx b3 b4) (hr : r.length = 64) : (loadI 159 (.pointer (some ⟨b4, 0, none⟩))).run Tryz.prog wx = .ok (.agg (bcs r)) wx :=
 load49_row hr (range_row (a := []) (c := []) (t := 159) (fr := (0, 0)) (by rw [h.2.1, bcs_eq]; simp) 0 rfl)
theorem SumAt.call {w wx w1 : World} {s : St} {r : List UInt8} {b3 b4 : Nat} (h : SumAt w s r wx b3 b4) (hb : Below wx.heap.size wx w1) : SumAt w s r w1 b3 b4 := by
 obtain ⟨h1, h2, h3, h4, h5, h6, h7⟩ := h
 have l3 := (Array.getElem?_eq_some_iff.1 h1).1
 have l4 := (Array.getElem?_eq_some_iff.1 h2).1
 exact ⟨(hb.block _ l3).trans h1, (hb.block _ l4).trans h2, (hb.block _ (by omega)).trans h3, h4, h5, h6, h7.trans (hb.mono h7.size)⟩
theorem SumAt.s35 {w wx : World} {s : St} {r : List UInt8} {b3 b4 : Nat} (h : SumAt w s r wx b3 b4) (t : St) : ∃ W, (storeI 107 (.pointer (some ⟨b3, 0, none⟩)) (.agg t.cs)).run Tryz.prog wx = .ok () W ∧ SumAt w t r W b3 b4 := by
 obtain ⟨h1, h2, h3, h4, h5, h6, h7⟩ := h
 obtain ⟨W, e, o, r1⟩ := store35_row h1 (o := 0) (Nat.le_refl 8) t
 exact ⟨W, e, by rw [r1, show over s.cs 0 (wvs t.l) = t.cs from over8 _ t rfl], by rw [o.block _ (by omega)]; exact h2, by rw [o.block _ (by omega)]; exact h3, h4, h5, h6, h7.trans (o.below (by omega))⟩
theorem SumAt.s49 {w wx : World} {s : St} {r : List UInt8} {b3 b4 : Nat} (h : SumAt w s r wx b3 b4) (hr : r.length = 64) (q : List UInt8) (hq : q.length = 64) : ∃ W, (storeI 159 (.pointer (some ⟨b4, 0, none⟩)) (.agg (bcs q))).run Tryz.prog wx = .ok () W ∧ SumAt w s q W b3 b4 := by
 obtain ⟨h1, h2, h3, h4, h5, h6, h7⟩ := h
 obtain ⟨W, e, o, r1⟩ := store49_row h2 (o := 0) (by rw [bcs_size, hr]; omega) q hq
 exact ⟨W, e, by rw [o.block _ (by omega)]; exact h1, by rw [r1, show over (bcs r) 0 (bvs q) = bcs q from over_bytes _ q (by rw [bcs_size, hr, hq])], by rw [o.block _ (by omega)]; exact h3, h4, h5, h6, h7.trans (o.below (by omega))⟩
theorem SumAt.tabs {w wx : World} {s : St} {r : List UInt8} {b3 b4 : Nat} (h : SumAt w s r wx b3 b4) (hT : TabS w) : TabS wx := hT.below h.2.2.2.2.2.2 hT.lt
theorem SumAt.put {w wx : World} {s : St} {a z c : List UInt8} {b3 b4 : Nat} (h : SumAt w s (a ++ (z ++ c)) wx b3 b4) (x : UInt32) (hz : z.length = 4) (o : Nat) (ho : o = a.length) : SumAt w s (a ++ (bytesOf x ++ c)) (put4 wx b4 o x) b3 b4 := by
 obtain ⟨h1, h2, h3, h4, h5, h6, h7⟩ := h
 obtain ⟨r1, o1⟩ := put4_row a z c x hz h2 o ho
 exact ⟨by rw [o1.block _ (by omega)]; exact h1, r1, by rw [o1.block _ (by omega)]; exact h3, h4, h5, h6, h7.trans (o1.below (by omega))⟩
theorem hi_eq (n : Nat) (h : n ≤ 1000000) : ((n : Int) * 8) / 4294967296 = nv (hiW n) ∧ ((n : Int) * 8) = nv (loW n) := by
 unfold nv hiW loW
 rw [u_of _ (by omega), u_of _ (by omega)]
 omega
theorem last_len (r : List UInt8) (n : Nat) (h : r.length = 64) : (lastOf r n).length = 64 := by
 unfold lastOf
 rw [List.length_append, List.length_append, List.length_take, h]
 rfl
theorem split64 (r : List UInt8) : r = r.take 56 ++ ((r.drop 56).take 4 ++ r.drop 60) := by
 have e : r.drop 60 = (r.drop 56).drop 4 := by rw [List.drop_drop]
 rw [e, List.take_append_drop, List.take_append_drop]
attribute [local go_sem ↓] load35_eq load49_eq load24_eq store35_eq store49_eq store24_eq
set_option maxRecDepth 100000 in
theorem sum_any (g : Nat) (s : St) (r : List UInt8) (n : Nat) (w : World) (hT : TabS w) (hr : r.length = 64) (hg : w.heap[g]? = some (.cells (hcsS s r n true).toArray 161 (0, 0))) (hn : n ≤ 1000000) :
  Calls Tryz.prog 118 #[.pointer (some ⟨g, 0, none⟩)] w fun e w' => e = .returned (.agg (bcs (fin s r n))) ∧ Below w.heap.size w w' := by
 have hgl : g < w.heap.size := (Array.getElem?_eq_some_iff.1 hg).1
 have hm := hash_m hr hg
 have hnn := hash_n hr hg
 have q1 := hash_range_state hg
 have q2 := hash_range_rest hg
 have HNN : Hid (∀ wx, Below w.heap.size w wx → wx.cell? ⟨g, 72, none⟩ = some (.int .i64 n)) := fun wx hb => (hb.cell (p := ⟨g, 72, none⟩) hgl).trans hnn
 have a0 : ∀ o, (loadI 107 (.pointer (some ⟨g, 0, none⟩))).run Tryz.prog (w.alloc o).drew = .ok (.agg s.cs) (w.alloc o).drew := fun o => load35_row (range_alloc q1 o)
 have a1 : ∀ o o1, (loadI 107 (.pointer (some ⟨g, 0, none⟩))).run Tryz.prog (((w.alloc o).alloc o1).drew) = .ok (.agg s.cs) (((w.alloc o).alloc o1).drew) := fun o o1 => load35_row (range_alloc (range_alloc q1 o) o1)
 have a2 : ∀ o o1 o2, (loadI 107 (.pointer (some ⟨g, 0, none⟩))).run Tryz.prog ((((w.alloc o).alloc o1).alloc o2).drew) = .ok (.agg s.cs) ((((w.alloc o).alloc o1).alloc o2).drew) := fun o o1 o2 => load35_row (range_alloc (range_alloc (range_alloc q1 o) o1) o2)
 have d0 : ∀ o, (loadI 159 (.pointer (some ⟨g, 8, none⟩))).run Tryz.prog (w.alloc o).drew = .ok (.agg (bcs r)) (w.alloc o).drew := fun o => load49_row hr (range_alloc q2 o)
 have d1 : ∀ o o1, (loadI 159 (.pointer (some ⟨g, 8, none⟩))).run Tryz.prog (((w.alloc o).alloc o1).drew) = .ok (.agg (bcs r)) (((w.alloc o).alloc o1).drew) := fun o o1 => load49_row hr (range_alloc (range_alloc q2 o) o1)
 have d2 : ∀ o o1 o2, (loadI 159 (.pointer (some ⟨g, 8, none⟩))).run Tryz.prog ((((w.alloc o).alloc o1).alloc o2).drew) = .ok (.agg (bcs r)) ((((w.alloc o).alloc o1).alloc o2).drew) := fun o o1 o2 => load49_row hr (range_alloc (range_alloc (range_alloc q2 o) o1) o2)
 obtain ⟨A1, A2, sa1, sa2, sab, saS⟩ := sumA w s r hr
 obtain ⟨B1, B2, sb1, sb2, sbb, sbS⟩ := sumB w s r hr
 have rng : ∀ W, Below w.heap.size w W → W.rangeAt g 8 (bvs r) := fun W hb j v hv => by rw [hb.cell (p := ⟨g, 8 + j, none⟩) hgl]; exact q2 j v hv
 have d3 := load49_row hr (rng A1 sab)
 have d4 := load49_row hr (rng B1 sbb)
 have HSA := hid saS
 have HSB := hid sbS
 have HG := hid hg
 have HT := hid hT
 have HR := hid hr
 have HF : Hid (fin s r n = if 56 ≤ n % 64 then digS (turnS (turnS s (r.set (n % 64) 128)) (lastOf (zer 64) n)) else digS (turnS s (lastOf (r.set (n % 64) 128) n))) := rfl
 generalize fin s r n = F at HF ⊢
 clear hg hT hr saS sbS sab sbb rng q1 q2 hnn
 go_enter Tryz.func118, Tryz.ntmps118
 go_wp2_with fail
 go_cut [3, 4] (fun v3 v4 wx => ∃ b3 b4, v3 = .pointer (some ⟨b3, 0, none⟩) ∧ v4 = .pointer (some ⟨b4, 0, none⟩) ∧ Hid (SumAt w s r wx b3 b4))
 case first =>
  go_region
  all_goals
   go_wp2_with fail
   go_meet
   case rel => first | exact ⟨_, _, rfl, rfl, HSA⟩ | exact ⟨_, _, rfl, rfl, HSB⟩
 case rest =>
  obtain ⟨b3, b4, rfl, rfl, HS⟩ := hcut
  clear a0 a1 a2 d0 d1 d2 d3 d4 sa1 sa2 sb1 sb2 HSA HSB hm
  obtain ⟨p, hp⟩ : ∃ p, Hid (p = n % 64) := ⟨_, rfl⟩
  have hp64 : p < 64 := by rw [hp.out]; omega
  have htm : (n : Int).tmod 64 = (p : Int) := by rw [hp.out]; simp [Int.tmod_eq_emod_of_nonneg]
  have hem : (n : Int) % 64 = (p : Int) := by rw [hp.out]; omega
  have hnx : wc.cell? ⟨g, 72, none⟩ = some (.int .i64 n) := HNN.out _ HS.out.2.2.2.2.2.2
  have hcp : wc.cell? ⟨b4, p, none⟩ = some (.int .u8 (r.getD p 0).toNat) := by
   rw [cell_of_row _ _ _ _ _ _ HS.out.2.1, bcs_at _ _ (by rw [HR.out]; exact hp64)]
  have hfp : wc.frozen? ⟨b4, p, none⟩ = false := frozen_of_row _ _ _ _ _ HS.out.2.1
  rw [← hp.out] at HF
  go_upto_if 33 with fail
  have hs1 : SumAt w s (r.set p 128) (wc.setCell ⟨b4, p, none⟩ (.int .u8 128)) b3 b4 := HS.out.set p 128
  have hr1 : (r.set p 128).length = 64 := by rw [List.length_set, HR.out]
  generalize wc.setCell ⟨b4, p, none⟩ (.int .u8 128) = wx at hs1 ⊢
  generalize r.set p 128 = r1 at hs1 hr1 HF
  have HS1 := hid hs1
  have HR1 := hid hr1
  clear hcp hfp hs1 hr1 hnx HS HR htm hem
  go_cut [] (fun wy => ∃ S R, R.length = 64 ∧ Hid (F = digS (turnS S (lastOf R n))) ∧ Hid (SumAt w S R wy b3 b4))
  case first =>
   by_cases h56 : 56 ≤ p
   ·have H24 := hid (fun W (hW : TabS W) => turned_any s r1 HR1.out W hW)
    have HF1 : Hid (F = digS (turnS (turnS s r1) (lastOf (zer 64) n))) := by show _ = _; rw [HF.out, if_pos h56]
    generalize turnS s r1 = T at H24 HF1
    have HBR := hid built_rest
    have l1 := HS1.out.l35
    have l2 := HS1.out.l49 HR1.out
    have HSTO : Hid (∀ w1, Below wx.heap.size wx w1 → ∃ W, (storeI 107 (.pointer (some ⟨b3, 0, none⟩)) (.agg T.cs)).run Tryz.prog w1 = .ok () W ∧ ∃ W', (storeI 159 (.pointer (some ⟨b4, 0, none⟩)) (.agg (bcs (zer 64)))).run Tryz.prog W = .ok () W' ∧ SumAt w T (zer 64) W' b3 b4) := fun w1 h1 => by
     obtain ⟨W, e1, s1⟩ := (HS1.out.call h1).s35 T
     obtain ⟨W', e2, s2⟩ := s1.s49 HR1.out (zer 64) (zer_len 64)
     exact ⟨W, e1, W', e2, s2⟩
    have HT2 := hid (HS1.out.tabs HT.out)
    have HZL := hid (zer_len 64)
    generalize bcs (zer 64) = Z at HSTO HBR
    generalize zer 64 = z64 at HSTO HF1 HZL
    go_wp2_with (first
     | (refine wpList_built rfl 159 _ rfl Z HBR.out ?_)
     | (go_at_call 147; refine (H24.out _ HT2.out).mono ?_; rintro e w1 ⟨rfl, hb1⟩; obtain ⟨W4, hst, W5, hst5, hS5⟩ := HSTO.out w1 hb1; have HS5 := hid hS5; clear hb1 hS5))
    go_meet
    case rel => exact ⟨T, z64, HZL.out, HF1, HS5⟩
   ·have HF1 : Hid (F = digS (turnS s (lastOf r1 n))) := by show _ = _; rw [HF.out, if_neg h56]
    go_wp2_with fail
    go_meet
    case rel => exact ⟨s, r1, HR1.out, HF1, HS1⟩
  case rest =>
   obtain ⟨S, R, hRl, HF1, HS2⟩ := hcut
   clear HS1 HR1 HF
   have hnx : wc.cell? ⟨g, 72, none⟩ = some (.int .i64 n) := HNN.out _ HS2.out.2.2.2.2.2.2
   have hs56 := slice_from (P := Tryz.prog) 159 64 5 Tryz.underlying159 Tryz.sizeOf5 b4 0 56 56 rfl (by omega)
   have hs60 := slice_from (P := Tryz.prog) 159 64 5 Tryz.underlying159 Tryz.sizeOf5 b4 0 60 60 rfl (by omega)
   simp only [Nat.zero_add, Nat.reduceSub] at hs56 hs60
   have HHI := hid (hi_eq n hn).1
   have HLO := hid (hi_eq n hn).2
   have hi8 : IntKind.u64.wrap ((n : Int)) = (n : Int) := by rw [IntKind.wrap_u64]; omega
   have hn0 : (0 : Int) ≤ (n : Int) := by omega
   have hn1 : (n : Int) ≤ 1000000 := by omega
   have HA : Hid (R = R.take 56 ++ ((R.drop 56).take 4 ++ R.drop 60)) := split64 R
   have hA1 : (R.take 56).length = 56 := by rw [List.length_take, hRl]; rfl
   have hA2 : ((R.drop 56).take 4).length = 4 := by rw [List.length_take, List.length_drop, hRl]; rfl
   have hA3 : (R.drop 60).length = 4 := by rw [List.length_drop, hRl]
   have HLL := hid (last_len R n hRl)
   have HLD : Hid (lastOf R n = (R.take 56 ++ bytesOf (hiW n)) ++ (bytesOf (loW n) ++ [])) := by show _ = _; unfold lastOf; rw [List.append_nil, List.append_assoc]
   have hs2 := HS2.out
   rw [HA.out] at hs2
   generalize lastOf R n = LR at HLL HLD HF1
   generalize R.take 56 = ra at *
   generalize (R.drop 56).take 4 = rz at *
   generalize R.drop 60 = rc at *
   have HS3 := hid hs2
   have HS4 := hid (hs2.put (hiW n) hA2 56 hA1.symm)
   have hs4 := HS4.out
   rw [show ra ++ (bytesOf (hiW n) ++ rc) = (ra ++ bytesOf (hiW n)) ++ (rc ++ []) from by simp] at hs4
   have HS5 := hid (hs4.put (loW n) hA3 60 (by rw [List.length_append, hA1]; rfl))
   have hs5 := HS5.out
   rw [← HLD.out] at hs5
   have HS6 := hid hs5
   have HZ1 : Hid (56 + 4 ≤ (bcs (ra ++ (rz ++ rc))).size) := by show _ ≤ _; rw [bcs_size, List.length_append, List.length_append, hA1, hA2]; omega
   have HZ2 : Hid (60 + 4 ≤ (bcs (ra ++ bytesOf (hiW n) ++ (rc ++ []))).size) := by show _ ≤ _; rw [bcs_size, List.length_append, List.length_append, List.length_append, hA1, hA3]; show 60 + 4 ≤ 56 + 4 + (4 + 0); omega
   have HS4' := hid hs4
   have h35 := hs5.l35
   have h49 := hs5.l49 HLL.out
   have H24 := hid (fun W (hW : TabS W) => turned_any S LR HLL.out W hW)
   have HT5 := hid (hs5.tabs HT.out)
   clear hs2 hs4 hs5 hA1 hA2 hA3 HA HS2 HS4 HS5 HLD
   generalize turnS S LR = T at H24 HF1
   have H26 := hid (fun W => digest_any T W)
   rw [← HF1.out] at H26
   have HFL : Hid (F.length = 32) := by show _ = _; rw [HF1.out, dig_lenS]
   clear HF1
   go_wp2_with fail
   rw [HHI.out]
   refine (putWord_any b4 56 8 8 (hiW n) wc (by omega) _ 159 HS3.out.2.1 HZ1.out).mono ?_
   rintro e w' ⟨rfl, rfl⟩
   generalize put4 wc b4 56 (hiW n) = wd at *
   go_wp2_with fail
   rw [HLO.out]
   refine (putWord_any b4 60 4 4 (loW n) wd (by omega) _ 159 HS4'.out.2.1 HZ2.out).mono ?_
   rintro e w' ⟨rfl, rfl⟩
   generalize put4 wd b4 60 (loW n) = we at *
   clear HS3 HS4' HZ1 HZ2 HHI HLO hnx hs56 hs60
   go_wp2_with fail
   refine (H24.out _ HT5.out).mono ?_
   rintro e w1 ⟨rfl, hb1⟩
   have HC1 := hid (HS6.out.call hb1)
   clear hb1 h35 h49
   go_wp2_with fail
   refine (H26.out _).mono ?_
   rintro e w2 ⟨rfl, hb2⟩
   have HC2 := hid (HC1.out.call hb2)
   clear hb2
   go_wp2_with (refine wpList_store_abs rfl 74 (.tmp 2) (.tmp 56) rfl w.heap.size 0 (bcs F) rfl rfl 74 _ HC2.out.2.2.1 (by rw [bcs_size, bcs_size, HFL.out]; exact Nat.le_refl 32) (size24' F HFL.out) (bvs_one F) ?_; intro W2 hO2 hW2)
   rw [over_bytes _ F (by rw [bcs_size, HFL.out]; rfl)] at hW2
   exact bodyPost_ret (v := .agg (bcs F)) (results_cell_row (p := 2) (ty := 74) Tryz.results118 _ _ w.heap.size 74 _ (0, 0) (.array 32 5) rfl hW2 Tryz.underlying74 rfl (size24' F HFL.out)) rfl ⟨rfl, HC2.out.2.2.2.2.2.2.trans (hO2.below (Nat.le_refl _))⟩
end Go.Proofs.YtgoiafndapemjaaGreatDoor
