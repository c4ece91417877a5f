
/- What ip.V4, lastFour, behind, mapped, nat64 and compatible do. -/
import Derived.Test.YtlblefcmilfjdaaGreatDoorAddr
import Derived.WalkKit
namespace Go.Proofs.YtlblefcmilfjdaaGreatDoor
open Go.RowKit

theorem sz_alloc (w : World) (A : Obj) : (w.alloc A).heap.size = w.heap.size + 1 := by simp
theorem row1 {w W : World} {A : Obj} (hb : Below (w.alloc A).heap.size (w.alloc A) W) : W.heap[w.heap.size]? = some A ∧ Below w.heap.size w W ∧ w.heap.size + 1 ≤ W.heap.size := by
  have hs := hb.size
  rw [sz_alloc] at hs
  exact ⟨(hb.block _ (by simp)).trans (heap_alloc_new w A), (alloc_below (Below.refl _ w) (Nat.le_refl _) A).trans (hb.mono (by simp)), hs⟩
theorem row2 {w W : World} {A B : Obj} (hb : Below ((w.alloc A).alloc B).heap.size ((w.alloc A).alloc B) W) : W.heap[w.heap.size + 1]? = some B ∧ W.heap[w.heap.size]? = some A ∧ Below w.heap.size w W ∧ w.heap.size + 2 ≤ W.heap.size := by
  obtain ⟨h1, h2, h3⟩ := row1 (w := w.alloc A) hb
  simp only [sz_alloc] at h1 h2 h3
  have h4 : W.heap[w.heap.size]? = some A := (h2.block _ (by simp)).trans (heap_alloc_new w A)
  exact ⟨h1, h4, (alloc_below (Below.refl _ w) (Nat.le_refl _) A).trans (h2.mono (by simp)), h3⟩
theorem row3 {w W : World} {A B C : Obj} (hb : Below (((w.alloc A).alloc B).alloc C).heap.size (((w.alloc A).alloc B).alloc C) W) : W.heap[w.heap.size + 2]? = some C ∧ W.heap[w.heap.size + 1]? = some B ∧ W.heap[w.heap.size]? = some A ∧ Below w.heap.size w W ∧ w.heap.size + 3 ≤ W.heap.size := by
  obtain ⟨h1, h2, h3⟩ := row1 (w := (w.alloc A).alloc B) hb
  obtain ⟨g1, g2, g3, _⟩ := row2 (w := w) (A := A) (B := B) h2
  simp only [sz_alloc] at h1 h3
  exact ⟨h1, g1, g2, g3, h3⟩
def v4L (a b c d : UInt8) : List UInt8 := zer 12 ++ [a, b, c, d]
theorem v4L_len (a b c d : UInt8) : (v4L a b c d).length = 16 := rfl
theorem acs_v4 (a b c d : UInt8) : acs false (v4L a b c d) = #[.bool false, .int .u8 0, .int .u8 0, .int .u8 0, .int .u8 0, .int .u8 0, .int .u8 0, .int .u8 0, .int .u8 0, .int .u8 0, .int .u8 0, .int .u8 0, .int .u8 0, .int .u8 a.toNat, .int .u8 b.toNat, .int .u8 c.toNat, .int .u8 d.toNat] := rfl
end Go.Proofs.YtlblefcmilfjdaaGreatDoor
