
/- The small fixed question of layer 11: what awake does. -/
import Derived.Test.YtclonnpglikddaaGreatDoorHtPReq
namespace Go.Proofs.YtclonnpglikddaaGreatDoor
set_option linter.unusedVariables false
set_option linter.unusedSimpArgs false
open Go.RowKit Go.BigFrame

def awB1 : List UInt8 := [71, 69, 84, 32, 47, 32, 72, 84, 84, 80, 47, 49, 46, 49, 13, 10, 72, 111, 115, 116, 58, 32, 97, 13, 10, 13, 10]
def awB2 : List UInt8 := [71, 69, 84, 32, 47, 32, 72, 84, 84, 80, 47, 49, 46, 49, 13, 10, 67, 111, 110, 116, 101, 110, 116, 45, 76, 101, 110, 103, 116, 104, 58, 32, 49, 13, 10, 67, 111, 110, 116, 101, 110, 116, 45, 76, 101, 110, 103, 116, 104, 58, 32, 50, 13, 10, 13, 10, 97, 98]
theorem awM1 : parseReq awB1 = (⟨[71, 69, 84], [47], [⟨[72, 111, 115, 116], [97]⟩], []⟩, 27, 0) := by kernel_rfl
theorem awM2 : parseReq awB2 = (noReq, 0, 5) := by kernel_rfl
set_option maxHeartbeats 4000000 in
set_option maxRecDepth 100000 in
theorem awake11 (w : World) (hT : TabC w) : Calls Tryz.prog 8 #[] w fun e w' => e = .returned (.bool true) ∧ Below w.heap.size w w' := by
  have HT := hid hT
  have HP1 : Hid (∀ W X, TabC W → BytesAt W (some X) awB1 → Calls Tryz.prog 13 #[.slice (some X) 27 27] W fun e w' => ∃ vh vb, e = .returned (.tuple #[.agg #[.string ⟨#[71, 69, 84]⟩, .string ⟨#[47]⟩, vh, vb], .int .i64 27, .int .i64 0]) ∧ HdsV w' vh [⟨[72, 111, 115, 116], [97]⟩] ∧ BtV w' vb [] ∧ Below W.heap.size W w') := fun W X h1 h2 => by
    have := parseReq_any awB1 X 27 (by decide) (by decide) W h1 h2
    rw [awM1] at this
    exact this
  have HP2 : Hid (∀ W X, TabC W → BytesAt W (some X) awB2 → Calls Tryz.prog 13 #[.slice (some X) 58 58] W fun e w' => ∃ vh vb, e = .returned (.tuple #[.agg #[.string ⟨#[]⟩, .string ⟨#[]⟩, vh, vb], .int .i64 0, .int .i64 5]) ∧ HdsV w' vh [] ∧ BtV w' vb [] ∧ Below W.heap.size W w') := fun W X h1 h2 => by
    have := parseReq_any awB2 X 58 (by decide) (by decide) W h1 h2
    rw [awM2] at this
    exact this
  have HC2 : Hid (∀ W : World, (convert 23 23 (.slice (some ⟨W.heap.size, 0, none⟩) 58 58)).run Tryz.prog (W.alloc (.cells (bcs awB2) 5)) = .ok (.slice (some ⟨W.heap.size, 0, none⟩) 58 58) (W.alloc (.cells (bcs awB2) 5 (58, 59)))) := fun W => Lib.run_convert_bytes_const (P := Tryz.prog) W 23 5 (bcs awB2) 58 58 Tryz.underlying23 Tryz.underlying5
  have hcv := Lib.run_convert_bytes_const (P := Tryz.prog) w 23 5 (bcs awB1) 27 27 Tryz.underlying23 Tryz.underlying5
  rw [show (bcs awB1).size = 27 from rfl] at hcv
  have HB1 := hid (alloc_below (Below.refl w.heap.size w) (Nat.le_refl _) (.cells (bcs awB1) 5 (27, 28)))
  have HA1 := hid (BytesAt.of_row (l := awB1) (heap_alloc_new w (.cells (bcs awB1) 5 (27, 28))))
  have hbc : bcs awB1 = #[.int .u8 71, .int .u8 69, .int .u8 84, .int .u8 32, .int .u8 47, .int .u8 32, .int .u8 72, .int .u8 84, .int .u8 84, .int .u8 80, .int .u8 47, .int .u8 49, .int .u8 46, .int .u8 49, .int .u8 13, .int .u8 10, .int .u8 72, .int .u8 111, .int .u8 115, .int .u8 116, .int .u8 58, .int .u8 32, .int .u8 97, .int .u8 13, .int .u8 10, .int .u8 13, .int .u8 10] := rfl
  have hbc2 : bcs awB2 = #[.int .u8 71, .int .u8 69, .int .u8 84, .int .u8 32, .int .u8 47, .int .u8 32, .int .u8 72, .int .u8 84, .int .u8 84, .int .u8 80, .int .u8 47, .int .u8 49, .int .u8 46, .int .u8 49, .int .u8 13, .int .u8 10, .int .u8 67, .int .u8 111, .int .u8 110, .int .u8 116, .int .u8 101, .int .u8 110, .int .u8 116, .int .u8 45, .int .u8 76, .int .u8 101, .int .u8 110, .int .u8 103, .int .u8 116, .int .u8 104, .int .u8 58, .int .u8 32, .int .u8 49, .int .u8 13, .int .u8 10, .int .u8 67, .int .u8 111, .int .u8 110, .int .u8 116, .int .u8 101, .int .u8 110, .int .u8 116, .int .u8 45, .int .u8 76, .int .u8 101, .int .u8 110, .int .u8 103, .int .u8 116, .int .u8 104, .int .u8 58, .int .u8 32, .int .u8 50, .int .u8 13, .int .u8 10, .int .u8 13, .int .u8 10, .int .u8 97, .int .u8 98] := rfl
  rw [hbc] at hcv HB1 HA1
  rw [hbc2] at HC2
  have HA2 : Hid (∀ W : World, BytesAt (W.alloc (.cells #[.int .u8 71, .int .u8 69, .int .u8 84, .int .u8 32, .int .u8 47, .int .u8 32, .int .u8 72, .int .u8 84, .int .u8 84, .int .u8 80, .int .u8 47, .int .u8 49, .int .u8 46, .int .u8 49, .int .u8 13, .int .u8 10, .int .u8 67, .int .u8 111, .int .u8 110, .int .u8 116, .int .u8 101, .int .u8 110, .int .u8 116, .int .u8 45, .int .u8 76, .int .u8 101, .int .u8 110, .int .u8 103, .int .u8 116, .int .u8 104, .int .u8 58, .int .u8 32, .int .u8 49, .int .u8 13, .int .u8 10, .int .u8 67, .int .u8 111, .int .u8 110, .int .u8 116, .int .u8 101, .int .u8 110, .int .u8 116, .int .u8 45, .int .u8 76, .int .u8 101, .int .u8 110, .int .u8 103, .int .u8 116, .int .u8 104, .int .u8 58, .int .u8 32, .int .u8 50, .int .u8 13, .int .u8 10, .int .u8 13, .int .u8 10, .int .u8 97, .int .u8 98] 5 (58, 59))) (some ⟨W.heap.size, 0, none⟩) awB2) := fun W => BytesAt.of_row (l := awB2) (heap_alloc_new W (.cells (bcs awB2) 5 (58, 59)))
  clear hT hbc hbc2
  generalize awB1 = LB1 at HP1 HA1
  generalize awB2 = LB2 at HP2 HA2
  go_enter Tryz.func8, Tryz.ntmps8
  go_wp2_with fail
  refine (HP1.out _ _ (HT.out.below HB1.out) HA1.out).mono ?_
  rintro e W1 ⟨vh, vb, rfl, hh, hbv, hb⟩
  obtain ⟨Ah, ch, rfl, _⟩ := hh
  obtain ⟨Ab, cb, rfl, _, _⟩ := hbv
  rw [show ([⟨[72, 111, 115, 116], [97]⟩] : List HdV).length = 1 from rfl, show ([] : List UInt8).length = 0 from rfl]
  have HB2 := hid (HB1.out.trans (hb.mono HB1.out.size))
  have HR2 := hid (heap_alloc_new W1 (.cells #[.string ⟨#[71, 69, 84]⟩, .string ⟨#[47]⟩, .slice Ah 1 ch, .slice Ab 0 cb] 25))
  have HB3 := hid (alloc_below HB2.out HB2.out.size (.cells #[.string ⟨#[71, 69, 84]⟩, .string ⟨#[47]⟩, .slice Ah 1 ch, .slice Ab 0 cb] 25))
  have hz3 : (W1.alloc (.cells #[.string ⟨#[71, 69, 84]⟩, .string ⟨#[47]⟩, .slice Ah 1 ch, .slice Ab 0 cb] 25)).heap.size = W1.heap.size + 1 := by simp
  have HC3 := hid (HC2.out (W1.alloc (.cells #[.string ⟨#[71, 69, 84]⟩, .string ⟨#[47]⟩, .slice Ah 1 ch, .slice Ab 0 cb] 25)))
  have HA3 := hid (HA2.out (W1.alloc (.cells #[.string ⟨#[71, 69, 84]⟩, .string ⟨#[47]⟩, .slice Ah 1 ch, .slice Ab 0 cb] 25)))
  have HB4 := hid (alloc_below HB3.out HB3.out.size (.cells #[.int .u8 71, .int .u8 69, .int .u8 84, .int .u8 32, .int .u8 47, .int .u8 32, .int .u8 72, .int .u8 84, .int .u8 84, .int .u8 80, .int .u8 47, .int .u8 49, .int .u8 46, .int .u8 49, .int .u8 13, .int .u8 10, .int .u8 67, .int .u8 111, .int .u8 110, .int .u8 116, .int .u8 101, .int .u8 110, .int .u8 116, .int .u8 45, .int .u8 76, .int .u8 101, .int .u8 110, .int .u8 103, .int .u8 116, .int .u8 104, .int .u8 58, .int .u8 32, .int .u8 49, .int .u8 13, .int .u8 10, .int .u8 67, .int .u8 111, .int .u8 110, .int .u8 116, .int .u8 101, .int .u8 110, .int .u8 116, .int .u8 45, .int .u8 76, .int .u8 101, .int .u8 110, .int .u8 103, .int .u8 116, .int .u8 104, .int .u8 58, .int .u8 32, .int .u8 50, .int .u8 13, .int .u8 10, .int .u8 13, .int .u8 10, .int .u8 97, .int .u8 98] 5 (58, 59)))
  have HR4 := hid ((Below.heap_alloc (W1.alloc (.cells #[.string ⟨#[71, 69, 84]⟩, .string ⟨#[47]⟩, .slice Ah 1 ch, .slice Ab 0 cb] 25)) (.cells #[.int .u8 71, .int .u8 69, .int .u8 84, .int .u8 32, .int .u8 47, .int .u8 32, .int .u8 72, .int .u8 84, .int .u8 84, .int .u8 80, .int .u8 47, .int .u8 49, .int .u8 46, .int .u8 49, .int .u8 13, .int .u8 10, .int .u8 67, .int .u8 111, .int .u8 110, .int .u8 116, .int .u8 101, .int .u8 110, .int .u8 116, .int .u8 45, .int .u8 76, .int .u8 101, .int .u8 110, .int .u8 103, .int .u8 116, .int .u8 104, .int .u8 58, .int .u8 32, .int .u8 49, .int .u8 13, .int .u8 10, .int .u8 67, .int .u8 111, .int .u8 110, .int .u8 116, .int .u8 101, .int .u8 110, .int .u8 116, .int .u8 45, .int .u8 76, .int .u8 101, .int .u8 110, .int .u8 103, .int .u8 116, .int .u8 104, .int .u8 58, .int .u8 32, .int .u8 50, .int .u8 13, .int .u8 10, .int .u8 13, .int .u8 10, .int .u8 97, .int .u8 98] 5 (58, 59)) W1.heap.size (by rw [hz3]; omega)).trans HR2.out)
  rw [hz3] at HC3 HA3
  clear hb hcv HA1 HP1 hz3 HC2 HA2
  have hc3 := HC3.out
  go_wp2_with fail
  refine (HP2.out _ _ (HT.out.below HB4.out) HA3.out).mono ?_
  rintro e W2 ⟨vh2, vb2, rfl, hh2, hbv2, hb2⟩
  obtain ⟨Ah2, ch2, rfl, _⟩ := hh2
  obtain ⟨Ab2, cb2, rfl, _, _⟩ := hbv2
  have HB5 := hid (HB4.out.trans (hb2.mono HB4.out.size))
  have hr5 := row_keep hb2 HR4.out
  have f0 : W2.cell? ⟨W1.heap.size, 0, none⟩ = some (.string ⟨#[71, 69, 84]⟩) := by rw [cell_of_row _ _ _ _ _ _ hr5]; rfl
  have f1 : W2.cell? ⟨W1.heap.size, 1, none⟩ = some (.string ⟨#[47]⟩) := by rw [cell_of_row _ _ _ _ _ _ hr5]; rfl
  have f2 : W2.cell? ⟨W1.heap.size, 2, none⟩ = some (.slice Ah 1 ch) := by rw [cell_of_row _ _ _ _ _ _ hr5]; rfl
  have hlt : W1.heap.size < W2.heap.size := (Array.getElem?_eq_some_iff.1 hr5).1
  have HB6 := hid (alloc_below HB5.out HB5.out.size (.cells #[.string ⟨#[]⟩, .string ⟨#[]⟩, .slice Ah2 0 ch2, .slice Ab2 0 cb2] 25))
  have g0 : (W2.alloc (.cells #[.string ⟨#[]⟩, .string ⟨#[]⟩, .slice Ah2 0 ch2, .slice Ab2 0 cb2] 25)).cell? ⟨W1.heap.size, 0, none⟩ = some (.string ⟨#[71, 69, 84]⟩) := ((alloc_below (Below.refl _ W2) (Nat.le_refl _) _).cell (p := ⟨W1.heap.size, 0, none⟩) hlt).trans f0
  have g1 : (W2.alloc (.cells #[.string ⟨#[]⟩, .string ⟨#[]⟩, .slice Ah2 0 ch2, .slice Ab2 0 cb2] 25)).cell? ⟨W1.heap.size, 1, none⟩ = some (.string ⟨#[47]⟩) := ((alloc_below (Below.refl _ W2) (Nat.le_refl _) _).cell (p := ⟨W1.heap.size, 1, none⟩) hlt).trans f1
  have g2 : (W2.alloc (.cells #[.string ⟨#[]⟩, .string ⟨#[]⟩, .slice Ah2 0 ch2, .slice Ab2 0 cb2] 25)).cell? ⟨W1.heap.size, 2, none⟩ = some (.slice Ah 1 ch) := ((alloc_below (Below.refl _ W2) (Nat.le_refl _) _).cell (p := ⟨W1.heap.size, 2, none⟩) hlt).trans f2
  clear hb2 hr5 hc3 f0 f1 f2 hlt
  rw [show ([] : List HdV).length = 0 from rfl, show ([] : List UInt8).length = 0 from rfl]
  go_wp2_with fail
  go_ret
  exact ⟨rfl, HB6.out⟩
end Go.Proofs.YtclonnpglikddaaGreatDoor
