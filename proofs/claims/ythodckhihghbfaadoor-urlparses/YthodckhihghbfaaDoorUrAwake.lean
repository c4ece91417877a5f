
/- The law's awake. -/
import Derived.Test.YthodckhihghbfaaDoorUrPar
namespace Go.Proofs.YthodckhihghbfaaDoor
set_option linter.unusedVariables false
set_option linter.unusedSimpArgs false
open Go.RowKit Go.BigFrame

def awU : UrlV := ⟨[104, 116, 116, 112], [117], true, [104], [56, 48], true, true, [47, 112], [113], true, [102], true⟩
theorem awk1 : puV [104, 116, 116, 112, 58, 47, 47, 117, 64, 104, 58, 56, 48, 47, 112, 63, 113, 35, 102] = awU := by kernel_rfl
theorem awk2 : puE [104, 116, 116, 112, 58, 47, 47, 117, 64, 104, 58, 56, 48, 47, 112, 63, 113, 35, 102] = 0 := by kernel_rfl
theorem awk3 : puV [49, 58, 98] = zeroU := by kernel_rfl
theorem awk4 : puE [49, 58, 98] = 5 := by kernel_rfl
set_option maxHeartbeats 4000000 in
set_option maxRecDepth 100000 in
theorem awake7 (w : World) (hT : TabS w) : Calls Tryd.prog 8 #[] w fun e w' => e = .returned (.bool true) ∧ Below w.heap.size w w' := by
  have HP1 : Hid (∀ W, TabS W → Calls Tryd.prog 7 #[.string ⟨#[104, 116, 116, 112, 58, 47, 47, 117, 64, 104, 58, 56, 48, 47, 112, 63, 113, 35, 102]⟩] W fun e w' => e = .returned (.tuple #[.agg (ucs awU), .int .i64 0]) ∧ Below W.heap.size W w') := fun W h => by
    have := parseUrl_any [104, 116, 116, 112, 58, 47, 47, 117, 64, 104, 58, 56, 48, 47, 112, 63, 113, 35, 102] (by simp) W h
    rw [awk1, awk2] at this
    exact this
  have HP2 : Hid (∀ W, TabS W → Calls Tryd.prog 7 #[.string ⟨#[49, 58, 98]⟩] W fun e w' => e = .returned (.tuple #[.agg (ucs zeroU), .int .i64 5]) ∧ Below W.heap.size W w') := fun W h => by
    have := parseUrl_any [49, 58, 98] (by simp) W h
    rw [awk3, awk4] at this
    exact this
  have HT := hid hT
  clear hT
  go_enter Tryd.func8, Tryd.ntmps8
  go_wp2_with fail
  refine (HP1.out _ HT.out).mono ?_
  rintro e W1 ⟨rfl, hb1⟩
  have HB1 := hid hb1
  clear hb1
  go_wp2_with (first
    | (refine store_url rfl _ _ rfl W1.heap.size awU rfl rfl _ (heap_alloc_new W1 _) rfl ?_)
    | fail)
  intro W2 hO2 hW2
  have HB2 : Hid (Below w.heap.size w W2) := (alloc_below HB1.out HB1.out.size _).trans (hO2.below HB1.out.size)
  have HW2 := hid hW2
  clear hO2 hW2
  go_wp2_with fail
  refine (HP2.out _ (HT.out.below HB2.out)).mono ?_
  rintro e W3 ⟨rfl, hb3⟩
  have HB3 : Hid (Below w.heap.size w W3) := HB2.out.trans (hb3.mono HB2.out.size)
  have HW3 := hid (row_keep hb3 HW2.out)
  clear hb3
  go_wp2_with (first
    | (refine store_url rfl _ _ rfl W3.heap.size zeroU rfl rfl _ (heap_alloc_new W3 _) rfl ?_)
    | fail)
  intro W4 hO4 hW4
  have HB4 : Hid (Below w.heap.size w W4) := (alloc_below HB3.out HB3.out.size _).trans (hO4.below HB3.out.size)
  have HW4 : W4.heap[W1.heap.size]? = some (.cells (ucs awU) 23 (0, 0)) := (hO4.block _ (by have := row_lt HW3.out; omega)).trans ((Below.heap_alloc _ _ _ (row_lt HW3.out)).trans HW3.out)
  have c0 := cellU HW4 0 (.string ⟨#[104, 116, 116, 112]⟩) rfl
  have c1 := cellU HW4 1 (.string ⟨#[117]⟩) rfl
  have c3 := cellU HW4 3 (.string ⟨#[104]⟩) rfl
  have c4 := cellU HW4 4 (.string ⟨#[56, 48]⟩) rfl
  have c7 := cellU HW4 7 (.string ⟨#[47, 112]⟩) rfl
  have c8 := cellU HW4 8 (.string ⟨#[113]⟩) rfl
  have c10 := cellU HW4 10 (.string ⟨#[102]⟩) rfl
  clear hO4 hW4 HW4
  go_wp2_with fail
  go_ret
  exact ⟨rfl, HB4.out⟩
end Go.Proofs.YthodckhihghbfaaDoor
