
/- A write built of its parts; a row of one write. -/
import Derived.Test.YtkjpdfcemdhnpaaBlSet
import Derived.Great.BuildSlice
import Derived.Great.FillDense
namespace Go.Proofs.Ytkjpdfcemdhnpaa
set_option linter.unusedVariables false
set_option linter.unusedSimpArgs false
open Go.RowKit Go.BigFrame

set_option maxRecDepth 100000 in
theorem cut8 : ∀ (B : List UInt8) (n : Nat), B.length = n + 8 → ∃ a b c d e f g h r, B = a :: b :: c :: d :: e :: f :: g :: h :: r ∧ r.length = n
  | a :: b :: c :: d :: e :: f :: g :: h :: r, n, hl => ⟨a, b, c, d, e, f, g, h, r, rfl, by simp only [List.length_cons] at hl; omega⟩
  | [], n, hl => by simp at hl
  | [_], n, hl => by simp at hl
  | [_, _], n, hl => by simp at hl
  | [_, _, _], n, hl => by simp at hl
  | [_, _, _, _], n, hl => by simp at hl
  | [_, _, _, _, _], n, hl => by simp at hl
  | [_, _, _, _, _, _], n, hl => by simp at hl
  | [_, _, _, _, _, _, _], n, hl => by simp at hl
set_option maxRecDepth 100000 in
theorem built_w (a : Int) (B : List UInt8) (h : B.length = 64) : Try.prog.built 71 [(0, .int .i64 a), (1, .int .i64 64), (2, .agg (bcs B))] = some ((Value.int .i64 a :: Value.int .i64 64 :: bvs B).toArray) := by
  obtain ⟨x0_0, x0_1, x0_2, x0_3, x0_4, x0_5, x0_6, x0_7, r0, rfl, h0⟩ := cut8 B 56 h
  obtain ⟨x1_0, x1_1, x1_2, x1_3, x1_4, x1_5, x1_6, x1_7, r1, rfl, h1⟩ := cut8 r0 48 h0
  obtain ⟨x2_0, x2_1, x2_2, x2_3, x2_4, x2_5, x2_6, x2_7, r2, rfl, h2⟩ := cut8 r1 40 h1
  obtain ⟨x3_0, x3_1, x3_2, x3_3, x3_4, x3_5, x3_6, x3_7, r3, rfl, h3⟩ := cut8 r2 32 h2
  obtain ⟨x4_0, x4_1, x4_2, x4_3, x4_4, x4_5, x4_6, x4_7, r4, rfl, h4⟩ := cut8 r3 24 h3
  obtain ⟨x5_0, x5_1, x5_2, x5_3, x5_4, x5_5, x5_6, x5_7, r5, rfl, h5⟩ := cut8 r4 16 h4
  obtain ⟨x6_0, x6_1, x6_2, x6_3, x6_4, x6_5, x6_6, x6_7, r6, rfl, h6⟩ := cut8 r5 8 h5
  obtain ⟨x7_0, x7_1, x7_2, x7_3, x7_4, x7_5, x7_6, x7_7, r7, rfl, h7⟩ := cut8 r6 0 h6
  obtain rfl := List.length_eq_zero_iff.1 h7
  kernel_rfl
theorem fill_one (q : TB) (hq : q.2.2.length = 64) (cs : Array Value) (hcs : cs.size = 66) : Instr.fill (fun i => some (i * 66, 66)) cs [(0, .agg (wcs q))] = some (wcs q) := by
  have := Great.fill_whole (s := 66) (by omega) [.agg (wcs q)] cs (fun v hv => by rw [List.mem_singleton] at hv; subst hv; exact wcs_size hq) (by rw [hcs]; rfl)
  simpa [Value.cells] using this
def bsI (t : TypeId) (n : Nat) (ps : Array (Nat × Value)) := Instr.buildSlice t n ps
theorem bsW_eq (ps : Array (Nat × Value)) : Instr.buildSlice 57 1 ps = bsI 57 1 ps := rfl
theorem run_bsW (q : TB) (h : q.2.2.length = 64) (W : World) : (bsI 57 1 #[(0, .agg (wcs q))]).run Try.prog W = .ok (.slice (some ⟨W.heap.size, 0, none⟩) 1 1) (W.alloc (.cells (wcs q) 71)) := by
  obtain ⟨i, hi, hz0, hz1, hz2⟩ := info_parts (show (Try.prog.info? 71).map (fun i => (i.zero, i.size, i.bytes)) = some (some (.agg (wcs (0, 0, zer 64))), 66, 80) by kernel_rfl)
  refine run_buildSlice W 57 71 1 #[(0, .agg (wcs q))] (wcs q) i _ Try.underlying57 hi hz0 (by rw [hz1]; decide) (by rw [hz1]; decide) ?_
  rw [hz1]
  exact fill_one q h _ (by simp)
def buildI (t : TypeId) (ps : Array (Nat × Value)) := Instr.build t ps
theorem buildW_eq (ps : Array (Nat × Value)) : Instr.build 71 ps = buildI 71 ps := rfl
theorem run_buildW (a : Nat) (B : List UInt8) (h : B.length = 64) (W : World) : (buildI 71 #[(0, .int .i64 (a : Int)), (1, .int .i64 64), (2, .agg (bcs B))]).run Try.prog W = .ok (.agg (wcs (a, 64, B))) W := run_build W _ _ _ (built_w (a : Int) B h)
end Go.Proofs.Ytkjpdfcemdhnpaa
