
/- Messages that are alike: what SameRequest and SameResponse of the reference do. -/
import Derived.Test.YtclonnpglikddaaGreatDoorHtMsg
namespace Go.Proofs.YtclonnpglikddaaGreatDoor
set_option linter.unusedVariables false
set_option linter.unusedSimpArgs false
open Go.RowKit Go.BigFrame

set_option maxHeartbeats 2000000 in
set_option maxRecDepth 100000 in
theorem sameReq_any (S1 : ByteArray) (S2 : ByteArray) (l : List HdV) (d : List UInt8) (vh1 vb1 vh2 vb2 : Value) (hl : l.length ≤ 1000000) (w : World) (h1 : HdsV w vh1 l) (h2 : HdsV w vh2 l) (b1 : BtV w vb1 d) (b2 : BtV w vb2 d) : Calls Tryz.prog 15 #[.agg #[.string S1, .string S2, vh1, vb1], .agg #[.string S1, .string S2, vh2, vb2]] w fun e w' => e = .returned (.bool true) ∧ Below w.heap.size w w' := by
  obtain ⟨A1, c1, rfl, hat1⟩ := h1
  obtain ⟨A2, c2, rfl, hat2⟩ := h2
  obtain ⟨B1, e1, rfl, hbt1, hz1⟩ := b1
  obtain ⟨B2, e2, rfl, hbt2, hz2⟩ := b2
  have HSM : Hid (∀ W, HdsAt W A1 l → HdsAt W A2 l → Calls Tryz.prog 41 #[.slice A1 l.length c1, .slice A2 l.length c2] W fun e w' => e = .returned (.bool true) ∧ Below W.heap.size W w') := fun W h1 h2 => by
    have := same_any l l A1 A2 c1 c2 hl W h1 h2
    rwa [same_refl] at this
  have HS1 : Hid (∀ W, BytesAt W B1 d → (convert 23 9 (.slice B1 d.length e1)).run Tryz.prog W = .ok (.string (asS d)) W) := fun W h => str_at h hz1
  have HS2 : Hid (∀ W, BytesAt W B2 d → (convert 23 9 (.slice B2 d.length e2)).run Tryz.prog W = .ok (.string (asS d)) W) := fun W h => str_at h hz2
  have HA1 := hid hat1
  have HA2 := hid hat2
  have HT1 := hid hbt1
  have HT2 := hid hbt2
  clear hat1 hat2 hbt1 hbt2 hz1 hz2 hl
  generalize l.length = n at HSM ⊢
  generalize d.length = m at HS1 HS2 ⊢
  generalize asS d = D at HS1 HS2
  have HB0 := hid (alloc_below (alloc_below (Below.refl w.heap.size w) (Nat.le_refl _) (.cells #[.string S1, .string S2, .slice A1 n c1, .slice B1 m e1] 25)) (by simp) (.cells #[.string S1, .string S2, .slice A2 n c2, .slice B2 m e2] 25))
  have HR1 := hid (heap_first w (.cells #[.string S1, .string S2, .slice A1 n c1, .slice B1 m e1] 25) (.cells #[.string S1, .string S2, .slice A2 n c2, .slice B2 m e2] 25))
  have HR2 := hid (heap_second w (.cells #[.string S1, .string S2, .slice A1 n c1, .slice B1 m e1] 25) (.cells #[.string S1, .string S2, .slice A2 n c2, .slice B2 m e2] 25))
  go_enter Tryz.func15, Tryz.ntmps15
  go_wp2_with fail
  refine (HSM.out _ (HA1.out.below HB0.out (Nat.le_refl _)) (HA2.out.below HB0.out (Nat.le_refl _))).mono ?_
  rintro e W1 ⟨rfl, hb1⟩
  have HB1 := hid (HB0.out.trans (hb1.mono HB0.out.size))
  have f1 : W1.cell? ⟨w.heap.size, 3, none⟩ = some (.slice B1 m e1) := by rw [cell_of_row _ _ _ _ _ _ (row_keep hb1 HR1.out)]; rfl
  have f2 : W1.cell? ⟨w.heap.size + 1, 3, none⟩ = some (.slice B2 m e2) := by rw [cell_of_row _ _ _ _ _ _ (row_keep hb1 HR2.out)]; rfl
  have s1 := HS1.out W1 (HT1.out.below HB1.out (Nat.le_refl _))
  have s2 := HS2.out W1 (HT2.out.below HB1.out (Nat.le_refl _))
  clear hb1
  go_wp2_with fail
  go_ret
  exact ⟨rfl, HB1.out⟩

set_option maxHeartbeats 2000000 in
set_option maxRecDepth 100000 in
theorem sameRes_any (st : Int) (S2 : ByteArray) (l : List HdV) (d : List UInt8) (vh1 vb1 vh2 vb2 : Value) (hl : l.length ≤ 1000000) (w : World) (h1 : HdsV w vh1 l) (h2 : HdsV w vh2 l) (b1 : BtV w vb1 d) (b2 : BtV w vb2 d) : Calls Tryz.prog 22 #[.agg #[.int .i64 st, .string S2, vh1, vb1], .agg #[.int .i64 st, .string S2, vh2, vb2]] w fun e w' => e = .returned (.bool true) ∧ Below w.heap.size w w' := by
  obtain ⟨A1, c1, rfl, hat1⟩ := h1
  obtain ⟨A2, c2, rfl, hat2⟩ := h2
  obtain ⟨B1, e1, rfl, hbt1, hz1⟩ := b1
  obtain ⟨B2, e2, rfl, hbt2, hz2⟩ := b2
  have HSM : Hid (∀ W, HdsAt W A1 l → HdsAt W A2 l → Calls Tryz.prog 41 #[.slice A1 l.length c1, .slice A2 l.length c2] W fun e w' => e = .returned (.bool true) ∧ Below W.heap.size W w') := fun W h1 h2 => by
    have := same_any l l A1 A2 c1 c2 hl W h1 h2
    rwa [same_refl] at this
  have HS1 : Hid (∀ W, BytesAt W B1 d → (convert 23 9 (.slice B1 d.length e1)).run Tryz.prog W = .ok (.string (asS d)) W) := fun W h => str_at h hz1
  have HS2 : Hid (∀ W, BytesAt W B2 d → (convert 23 9 (.slice B2 d.length e2)).run Tryz.prog W = .ok (.string (asS d)) W) := fun W h => str_at h hz2
  have HA1 := hid hat1
  have HA2 := hid hat2
  have HT1 := hid hbt1
  have HT2 := hid hbt2
  clear hat1 hat2 hbt1 hbt2 hz1 hz2 hl
  generalize l.length = n at HSM ⊢
  generalize d.length = m at HS1 HS2 ⊢
  generalize asS d = D at HS1 HS2
  have HB0 := hid (alloc_below (alloc_below (Below.refl w.heap.size w) (Nat.le_refl _) (.cells #[.int .i64 st, .string S2, .slice A1 n c1, .slice B1 m e1] 40)) (by simp) (.cells #[.int .i64 st, .string S2, .slice A2 n c2, .slice B2 m e2] 40))
  have HR1 := hid (heap_first w (.cells #[.int .i64 st, .string S2, .slice A1 n c1, .slice B1 m e1] 40) (.cells #[.int .i64 st, .string S2, .slice A2 n c2, .slice B2 m e2] 40))
  have HR2 := hid (heap_second w (.cells #[.int .i64 st, .string S2, .slice A1 n c1, .slice B1 m e1] 40) (.cells #[.int .i64 st, .string S2, .slice A2 n c2, .slice B2 m e2] 40))
  go_enter Tryz.func22, Tryz.ntmps22
  go_wp2_with fail
  refine (HSM.out _ (HA1.out.below HB0.out (Nat.le_refl _)) (HA2.out.below HB0.out (Nat.le_refl _))).mono ?_
  rintro e W1 ⟨rfl, hb1⟩
  have HB1 := hid (HB0.out.trans (hb1.mono HB0.out.size))
  have f1 : W1.cell? ⟨w.heap.size, 3, none⟩ = some (.slice B1 m e1) := by rw [cell_of_row _ _ _ _ _ _ (row_keep hb1 HR1.out)]; rfl
  have f2 : W1.cell? ⟨w.heap.size + 1, 3, none⟩ = some (.slice B2 m e2) := by rw [cell_of_row _ _ _ _ _ _ (row_keep hb1 HR2.out)]; rfl
  have s1 := HS1.out W1 (HT1.out.below HB1.out (Nat.le_refl _))
  have s2 := HS2.out W1 (HT2.out.below HB1.out (Nat.le_refl _))
  clear hb1
  go_wp2_with fail
  go_ret
  exact ⟨rfl, HB1.out⟩
end Go.Proofs.YtclonnpglikddaaGreatDoor
