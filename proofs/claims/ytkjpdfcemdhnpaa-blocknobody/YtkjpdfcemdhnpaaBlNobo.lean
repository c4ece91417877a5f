
/- The law BlockNobody. -/
import Derived.Test.YtkjpdfcemdhnpaaBlOpen
namespace Go.Proofs.Ytkjpdfcemdhnpaa
set_option linter.unusedVariables false
set_option linter.unusedSimpArgs false
open Go.RowKit Go.BigFrame
theorem built_f0 : Try.prog.built 61 [] = some #[.pointer none, .slice none 0 0, .slice none 0 0, .slice none 0 0, .bool false, .int .i64 0, .int .i64 0, .bool false] := by kernel_rfl
attribute [local go_sem ↓] buildFl_eq
set_option maxHeartbeats 8000000 in
set_option maxRecDepth 100000 in
theorem nobody_law (D I : Int) (b : UInt8) (K T : Int) (w : World) : Calls Try.prog 7 #[.agg (actB D I b K T)] w fun e w' => e = .returned (.bool true) ∧ Below w.heap.size w w' := by
  have hbf : ∀ W, (buildI 61 #[]).run Try.prog W = .ok (.agg #[.pointer none, .slice none 0 0, .slice none 0 0, .slice none 0 0, .bool false, .int .i64 0, .int .i64 0, .bool false]) W := fun W => run_build W 61 _ _ built_f0
  have HB0 := hid ((Below.refl w.heap.size w).alloc (Nat.le_refl _) (.cells (actB D I b K T) 36))
  have HX0 := hid (heap_alloc_new w (.cells (actB D I b K T) 36 (0, 0)))
  have HFL := hid (fun W => filled_any b W)
  have HE20 := hid (enters_of Try.func20 (by kernel_rfl) rfl)
  have HE22 := hid (enters_of Try.func22 (by kernel_rfl) rfl)
  have HE10 := hid (enters_of Try.func10 (by kernel_rfl) rfl)
  have HE12 := hid (enters_of Try.func12 (by kernel_rfl) rfl)
  have HE15 := hid (enters_of Try.func15 (by kernel_rfl) rfl)
  unfold actB at HB0 HX0 ⊢
  obtain ⟨X, hX⟩ : ∃ X : Int, X = (b.toNat : Int) := ⟨_, rfl⟩
  rw [← hX] at HB0 HX0 HFL ⊢
  clear hX
  go_enter Try.func7, Try.ntmps7
  go_wp2_with fail
  go_loopw [3] (fun a3 wr => ∃ j : Nat, a3 = .int .i64 (j : Int) ∧ j ≤ 2 ∧ Hid (wr.heap[w.heap.size]? = some (.cells #[.int .i64 D, .int .i64 I, .int .u8 X, .int .i64 K, .int .i64 T] 36 (0, 0))) ∧ Hid (Below w.heap.size w wr)) (fun a3 wr => 2 - (intOf a3).toNat)
  case atStart => exact ⟨0, rfl, by decide, HX0, HB0⟩
  case round =>
    obtain ⟨j, rfl, hj, HX, HB⟩ := hrel
    clear HX0 HB0
    rcases (show j = 0 ∨ j = 1 ∨ j = 2 by omega) with rfl | rfl | rfl
    · have HZ0 : Hid (NoP (.pointer none) wr) := .inl rfl
      have HN1 := hid (sync_no (.pointer none) wr HZ0.out)
      go_wp2_with fail
      refine HN1.out.mono ?_
      rintro x W1 ⟨rfl, hb⟩
      have HX1 := hid (row_keep hb HX.out)
      have HB1 := hid (HB.out.trans (hb.mono HB.out.size))
      have HZa := hid (HZ0.out.below hb)
      have a3 : W1.cell? ⟨w.heap.size, 3, none⟩ = some (.int .i64 K) := cell_of_row _ _ _ _ _ _ HX1.out
      have a4 : W1.cell? ⟨w.heap.size, 4, none⟩ = some (.int .i64 T) := cell_of_row _ _ _ _ _ _ HX1.out
      have HN2 := hid (crash_no (.pointer none) K T W1 HZa.out)
      clear hb HN1 HX HB
      go_wp2_with fail
      refine HN2.out.mono ?_
      rintro x W2 ⟨rfl, hb⟩
      have HX2 := hid (row_keep hb HX1.out)
      have HB2 := hid (HB1.out.trans (hb.mono HB1.out.size))
      have HZb := hid (HZa.out.below hb)
      have b3 : W2.cell? ⟨w.heap.size, 3, none⟩ = some (.int .i64 K) := cell_of_row _ _ _ _ _ _ HX2.out
      have b4 : W2.cell? ⟨w.heap.size, 4, none⟩ = some (.int .i64 T) := cell_of_row _ _ _ _ _ _ HX2.out
      have HN3 := hid (fuse_no (.pointer none) K T W2 HZb.out)
      clear hb HN2 HX1 HB1 a3 a4
      go_wp2_with fail
      refine HN3.out.mono ?_
      rintro x W3 ⟨rfl, hb⟩
      have HX3 := hid (row_keep hb HX2.out)
      have HB3 := hid (HB2.out.trans (hb.mono HB2.out.size))
      have HZc := hid (HZb.out.below hb)
      have c1 : W3.cell? ⟨w.heap.size, 1, none⟩ = some (.int .i64 I) := cell_of_row _ _ _ _ _ _ HX3.out
      have HN4 := hid (read_no (.pointer none) I W3 HZc.out)
      clear hb HN3 HX2 HB2 b3 b4
      go_wp2_with fail
      refine HN4.out.mono ?_
      rintro x W4 ⟨rfl, hb⟩
      have HX4 := hid (row_keep hb HX3.out)
      have HB4 := hid (HB3.out.trans (hb.mono HB3.out.size))
      have HB4d : Hid (Below w.heap.size w W4.drew) := HB4.out.trans ((Below.refl _ _).drew)
      have e1 : W4.drew.cell? ⟨w.heap.size, 1, none⟩ = some (.int .i64 I) := cell_of_row _ _ _ _ _ _ HX4.out
      have e2 : W4.drew.cell? ⟨w.heap.size, 2, none⟩ = some (.int .u8 X) := cell_of_row _ _ _ _ _ _ HX4.out
      have HZ4 := hid (HZc.out.below hb)
      have HCF : Hid (∀ W, Below W4.heap.size W4 W → Calls Try.prog 20 #[.int .u8 X] W fun x w' => (∃ g, x = .returned (.slice (some ⟨g, 0, none⟩) 64 64)) ∧ Below W.heap.size W w') := fun W _ => (HFL.out W).mono (fun x w' hh => by obtain ⟨g, h1, -, -, h4⟩ := hh; exact ⟨⟨g, h1⟩, h4⟩)
      have HCW : Hid (∀ v W, Below W4.heap.size W4 W → Calls Try.prog 22 #[.pointer none, .int .i64 I, v] W fun x w' => x = .returned (.int .i64 4) ∧ Below W.heap.size W w') := fun v W h => write_no _ I v W (HZ4.out.below h)
      have HCB : Hid (∀ W, Below W4.heap.size W4 W → Calls Try.prog 10 #[.pointer none] W fun x w' => x = .returned (.int .i64 0) ∧ Below W.heap.size W w') := fun W h => blocks_no _ W (HZ4.out.below h)
      have HCP : Hid (∀ W, Below W4.heap.size W4 W → Calls Try.prog 12 #[.pointer none] W fun x w' => x = .returned (.int .i64 0) ∧ Below W.heap.size W w') := fun W h => pending_no _ W (HZ4.out.below h)
      have HCD : Hid (∀ W, Below W4.heap.size W4 W → Calls Try.prog 15 #[.pointer none] W fun x w' => x = .returned (.slice none 0 0) ∧ Below W.heap.size W w') := fun W h => dump_no _ W (HZ4.out.below h)
      have HSK : Hid (∀ W, Below W4.heap.size W4 W → W.cell? ⟨w.heap.size, 1, none⟩ = some (.int .i64 I) ∧ W.cell? ⟨w.heap.size, 2, none⟩ = some (.int .u8 X) ∧ Hid (Below W4.heap.size W4 W)) := fun W h => ⟨cell_of_row _ _ _ _ _ _ (row_keep h HX4.out), cell_of_row _ _ _ _ _ _ (row_keep h HX4.out), h⟩
      clear hb HN4 HX3 HB3 c1 HZ0 HZa HZb HZc HZ4
      go_wp2_with fail
      go_region_held3 (fun W => W.cell? ⟨w.heap.size, 1, none⟩ = some (.int .i64 I) ∧ W.cell? ⟨w.heap.size, 2, none⟩ = some (.int .u8 X) ∧ Hid (Below W4.heap.size W4 W))
        (first
          | exact HSK.out _ (below_drewN _ _ 1)
          | (go_split_ands
             refine HSK.out _ ?_
             first
               | exact Below.trans (Hid.out (by assumption)) (hbD.mono (Below.size (Hid.out (by assumption))))
               | exact Below.trans (Hid.out (by assumption)) (hbP.mono (Below.size (Hid.out (by assumption))))
               | exact Below.trans (Hid.out (by assumption)) (hbB.mono (Below.size (Hid.out (by assumption))))
               | exact Below.trans (Hid.out (by assumption)) (hbW.mono (Below.size (Hid.out (by assumption))))
               | exact Below.trans (Hid.out (by assumption)) (hbF.mono (Below.size (Hid.out (by assumption))))))
        ((first
          | (go_at_call 20; go_split_ands; refine (HCF.out _ (Hid.out (by assumption))).mono ?_; rintro e wF ⟨⟨g, rfl⟩, hbF⟩)
          | (go_at_call 22; go_split_ands; refine (HCW.out _ _ (Hid.out (by assumption))).mono ?_; rintro e wW ⟨rfl, hbW⟩)
          | (go_at_call 10; go_split_ands; refine (HCB.out _ (Hid.out (by assumption))).mono ?_; rintro e wB ⟨rfl, hbB⟩)
          | (go_at_call 12; go_split_ands; refine (HCP.out _ (Hid.out (by assumption))).mono ?_; rintro e wP ⟨rfl, hbP⟩)
          | (go_at_call 15; go_split_ands; refine (HCD.out _ (Hid.out (by assumption))).mono ?_; rintro e wD ⟨rfl, hbD⟩)))
      all_goals
        go_wp2_with fail
        go_split_ands
        have HBD : Hid (Below W4.heap.size W4 wD) := by assumption
        have HXD := hid (row_keep HBD.out HX4.out)
        have HB9 := hid (HB4.out.trans (HBD.out.mono HB4.out.size))
        go_roundw
        case rel => exact ⟨1, rfl, by decide, HXD, HB9⟩
        case measure => simp [intOf]
    · have HRF := hid (heap_alloc_new wr (.cells #[.pointer none, .slice none 0 0, .slice none 0 0, .slice none 0 0, .bool false, .int .i64 0, .int .i64 0, .bool false] 61 (0, 0)))
      have HBA := hid ((Below.refl wr.heap.size wr).alloc (Nat.le_refl _) (.cells #[.pointer none, .slice none 0 0, .slice none 0 0, .slice none 0 0, .bool false, .int .i64 0, .int .i64 0, .bool false] 61))
      obtain ⟨W0, hW0⟩ : ∃ W0, wr.alloc (.cells #[.pointer none, .slice none 0 0, .slice none 0 0, .slice none 0 0, .bool false, .int .i64 0, .int .i64 0, .bool false] 61) = W0 := ⟨_, rfl⟩
      rw [hW0] at HRF HBA
      have HZ0 : Hid (NoP (.pointer (some ⟨wr.heap.size, 0, none⟩)) W0) := .inr ⟨wr.heap.size, rfl, cell_of_row _ _ _ _ _ _ HRF.out⟩
      have HX' := hid (row_keep HBA.out HX.out)
      have HB' := hid (HB.out.trans (HBA.out.mono HB.out.size))
      clear HX HB HRF HBA
      have HN1 := hid (sync_no (.pointer (some ⟨wr.heap.size, 0, none⟩)) W0 HZ0.out)
      go_wp2_with fail
      refine HN1.out.mono ?_
      rintro x W1 ⟨rfl, hb⟩
      have HX1 := hid (row_keep hb HX'.out)
      have HB1 := hid (HB'.out.trans (hb.mono HB'.out.size))
      have HZa := hid (HZ0.out.below hb)
      have a3 : W1.cell? ⟨w.heap.size, 3, none⟩ = some (.int .i64 K) := cell_of_row _ _ _ _ _ _ HX1.out
      have a4 : W1.cell? ⟨w.heap.size, 4, none⟩ = some (.int .i64 T) := cell_of_row _ _ _ _ _ _ HX1.out
      have HN2 := hid (crash_no (.pointer (some ⟨wr.heap.size, 0, none⟩)) K T W1 HZa.out)
      clear hb HN1 HX' HB' hW0
      go_wp2_with fail
      refine HN2.out.mono ?_
      rintro x W2 ⟨rfl, hb⟩
      have HX2 := hid (row_keep hb HX1.out)
      have HB2 := hid (HB1.out.trans (hb.mono HB1.out.size))
      have HZb := hid (HZa.out.below hb)
      have b3 : W2.cell? ⟨w.heap.size, 3, none⟩ = some (.int .i64 K) := cell_of_row _ _ _ _ _ _ HX2.out
      have b4 : W2.cell? ⟨w.heap.size, 4, none⟩ = some (.int .i64 T) := cell_of_row _ _ _ _ _ _ HX2.out
      have HN3 := hid (fuse_no (.pointer (some ⟨wr.heap.size, 0, none⟩)) K T W2 HZb.out)
      clear hb HN2 HX1 HB1 a3 a4
      go_wp2_with fail
      refine HN3.out.mono ?_
      rintro x W3 ⟨rfl, hb⟩
      have HX3 := hid (row_keep hb HX2.out)
      have HB3 := hid (HB2.out.trans (hb.mono HB2.out.size))
      have HZc := hid (HZb.out.below hb)
      have c1 : W3.cell? ⟨w.heap.size, 1, none⟩ = some (.int .i64 I) := cell_of_row _ _ _ _ _ _ HX3.out
      have HN4 := hid (read_no (.pointer (some ⟨wr.heap.size, 0, none⟩)) I W3 HZc.out)
      clear hb HN3 HX2 HB2 b3 b4
      go_wp2_with fail
      refine HN4.out.mono ?_
      rintro x W4 ⟨rfl, hb⟩
      have HX4 := hid (row_keep hb HX3.out)
      have HB4 := hid (HB3.out.trans (hb.mono HB3.out.size))
      have HB4d : Hid (Below w.heap.size w W4.drew) := HB4.out.trans ((Below.refl _ _).drew)
      have e1 : W4.drew.cell? ⟨w.heap.size, 1, none⟩ = some (.int .i64 I) := cell_of_row _ _ _ _ _ _ HX4.out
      have e2 : W4.drew.cell? ⟨w.heap.size, 2, none⟩ = some (.int .u8 X) := cell_of_row _ _ _ _ _ _ HX4.out
      have HZ4 := hid (HZc.out.below hb)
      have HCF : Hid (∀ W, Below W4.heap.size W4 W → Calls Try.prog 20 #[.int .u8 X] W fun x w' => (∃ g, x = .returned (.slice (some ⟨g, 0, none⟩) 64 64)) ∧ Below W.heap.size W w') := fun W _ => (HFL.out W).mono (fun x w' hh => by obtain ⟨g, h1, -, -, h4⟩ := hh; exact ⟨⟨g, h1⟩, h4⟩)
      have HCW : Hid (∀ v W, Below W4.heap.size W4 W → Calls Try.prog 22 #[.pointer (some ⟨wr.heap.size, 0, none⟩), .int .i64 I, v] W fun x w' => x = .returned (.int .i64 4) ∧ Below W.heap.size W w') := fun v W h => write_no _ I v W (HZ4.out.below h)
      have HCB : Hid (∀ W, Below W4.heap.size W4 W → Calls Try.prog 10 #[.pointer (some ⟨wr.heap.size, 0, none⟩)] W fun x w' => x = .returned (.int .i64 0) ∧ Below W.heap.size W w') := fun W h => blocks_no _ W (HZ4.out.below h)
      have HCP : Hid (∀ W, Below W4.heap.size W4 W → Calls Try.prog 12 #[.pointer (some ⟨wr.heap.size, 0, none⟩)] W fun x w' => x = .returned (.int .i64 0) ∧ Below W.heap.size W w') := fun W h => pending_no _ W (HZ4.out.below h)
      have HCD : Hid (∀ W, Below W4.heap.size W4 W → Calls Try.prog 15 #[.pointer (some ⟨wr.heap.size, 0, none⟩)] W fun x w' => x = .returned (.slice none 0 0) ∧ Below W.heap.size W w') := fun W h => dump_no _ W (HZ4.out.below h)
      have HSK : Hid (∀ W, Below W4.heap.size W4 W → W.cell? ⟨w.heap.size, 1, none⟩ = some (.int .i64 I) ∧ W.cell? ⟨w.heap.size, 2, none⟩ = some (.int .u8 X) ∧ Hid (Below W4.heap.size W4 W)) := fun W h => ⟨cell_of_row _ _ _ _ _ _ (row_keep h HX4.out), cell_of_row _ _ _ _ _ _ (row_keep h HX4.out), h⟩
      clear hb HN4 HX3 HB3 c1 HZ0 HZa HZb HZc HZ4
      go_wp2_with fail
      go_region_held3 (fun W => W.cell? ⟨w.heap.size, 1, none⟩ = some (.int .i64 I) ∧ W.cell? ⟨w.heap.size, 2, none⟩ = some (.int .u8 X) ∧ Hid (Below W4.heap.size W4 W))
        (first
          | exact HSK.out _ (below_drewN _ _ 1)
          | (go_split_ands
             refine HSK.out _ ?_
             first
               | exact Below.trans (Hid.out (by assumption)) (hbD.mono (Below.size (Hid.out (by assumption))))
               | exact Below.trans (Hid.out (by assumption)) (hbP.mono (Below.size (Hid.out (by assumption))))
               | exact Below.trans (Hid.out (by assumption)) (hbB.mono (Below.size (Hid.out (by assumption))))
               | exact Below.trans (Hid.out (by assumption)) (hbW.mono (Below.size (Hid.out (by assumption))))
               | exact Below.trans (Hid.out (by assumption)) (hbF.mono (Below.size (Hid.out (by assumption))))))
        ((first
          | (go_at_call 20; go_split_ands; refine (HCF.out _ (Hid.out (by assumption))).mono ?_; rintro e wF ⟨⟨g, rfl⟩, hbF⟩)
          | (go_at_call 22; go_split_ands; refine (HCW.out _ _ (Hid.out (by assumption))).mono ?_; rintro e wW ⟨rfl, hbW⟩)
          | (go_at_call 10; go_split_ands; refine (HCB.out _ (Hid.out (by assumption))).mono ?_; rintro e wB ⟨rfl, hbB⟩)
          | (go_at_call 12; go_split_ands; refine (HCP.out _ (Hid.out (by assumption))).mono ?_; rintro e wP ⟨rfl, hbP⟩)
          | (go_at_call 15; go_split_ands; refine (HCD.out _ (Hid.out (by assumption))).mono ?_; rintro e wD ⟨rfl, hbD⟩)))
      all_goals
        go_wp2_with fail
        go_split_ands
        have HBD : Hid (Below W4.heap.size W4 wD) := by assumption
        have HXD := hid (row_keep HBD.out HX4.out)
        have HB9 := hid (HB4.out.trans (HBD.out.mono HB4.out.size))
        go_roundw
        case rel => exact ⟨2, rfl, by decide, HXD, HB9⟩
        case measure => simp [intOf]
    · have HA := hid (awake_any wr)
      go_wp2_with fail
      refine HA.out.mono ?_
      rintro x W1 ⟨rfl, hb⟩
      have HB1 := hid (HB.out.trans (hb.mono HB.out.size))
      clear hb HA
      go_wp2_with fail
      go_ret
      exact ⟨rfl, HB1.out⟩
end Go.Proofs.Ytkjpdfcemdhnpaa
