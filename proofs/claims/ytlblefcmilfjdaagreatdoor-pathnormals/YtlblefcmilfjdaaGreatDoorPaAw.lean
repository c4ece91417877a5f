
/- The law's awake. -/
import Derived.Test.YtlblefcmilfjdaaGreatDoorPaNr
namespace Go.Proofs.YtlblefcmilfjdaaGreatDoor
set_option linter.unusedVariables false
set_option linter.unusedSimpArgs false
open Go.RowKit Go.BigFrame
attribute [local go_sem ↓] loadU_eq

set_option maxRecDepth 100000 in
theorem at_any (l : List UInt8) (hl : l.length ≤ 100000) (w : World) : Calls Tryz.prog 21 #[.string (asS l)] w fun e w' => e = .returned (.agg (ucs ((parseU l).getD zeroU))) ∧ Below w.heap.size w w' := by
  have HP := hid (fun W => refParse7_any l hl W)
  have HZ : Hid ((w.alloc (.cells (ucs zeroU) 26)).heap[w.heap.size]? = some (.cells (ucs zeroU) 26 (0, 0))) := heap_alloc_new w _
  have HB0 := hid (alloc_below (Below.refl _ w) (Nat.le_refl _) (.cells (ucs zeroU) 26))
  generalize (parseU l).getD zeroU = U at HP ⊢
  generalize (parseU l).isSome = b at HP
  generalize asS l = S at HP ⊢
  clear hl
  go_enter Tryz.func21, Tryz.ntmps21
  go_upto_region 1 with (fail)
  show Code.wp Tryz.prog _ _ _ (w.alloc (.cells (ucs zeroU) 26))
  generalize w.alloc (.cells (ucs zeroU) 26) = V at HZ HB0 ⊢
  go_wp2_with fail
  refine (HP.out _).mono ?_
  rintro e W1 ⟨rfl, hb1⟩
  have HZ1 := hid (row_keep hb1 HZ.out)
  have HB1 := hid (HB0.out.trans (hb1.mono HB0.out.size))
  clear hb1
  go_wp2_with (first
    | (refine store_url rfl _ _ rfl W1.heap.size U rfl rfl _ (heap_alloc_new W1 _) rfl ?_)
    | fail)
  intro W2 hO2 hW2
  have hzl := row_lt HZ1.out
  have HZ2 : Hid (W2.heap[w.heap.size]? = some (.cells (ucs zeroU) 26 (0, 0))) := (hO2.block _ (by omega)).trans (heap_old HZ1.out)
  have HB2 : Hid (Below w.heap.size w W2) := (alloc_below HB1.out HB1.out.size _).trans (hO2.below (by omega))
  have ld := loadU_row hW2
  clear hO2 hW2
  go_wp2_with (first
    | (refine store_url rfl _ _ rfl w.heap.size U rfl rfl _ HZ2.out rfl ?_)
    | fail)
  intro W3 hO3 hW3
  have HB3 := hid (HB2.out.trans (hO3.below (B := w.heap.size) (Nat.le_refl _)))
  have HW3 := hid hW3
  clear hO3 hW3
  go_wp2_with fail
  exact bodyPost_ret (results_cell_row Tryz.results21 _ _ w.heap.size 26 (ucs U) (0, 0) _ rfl HW3.out Tryz.underlying26 rfl (ucs_info U)) rfl ⟨rfl, HB3.out⟩
def w1L : List UInt8 := [104, 116, 116, 112, 58, 47, 47, 97, 47, 98, 47, 99, 47, 100, 59, 112, 63, 113]
def w2L : List UInt8 := [46, 46, 47, 103]
def w3L : List UInt8 := [72, 84, 84, 80, 58, 47, 47, 69, 88, 46, 99, 111, 109, 58, 48, 56, 48, 47, 37, 55, 101, 97, 47, 46, 47, 98, 37, 50, 102]
def A1 : UrlV := (parseU w1L).getD zeroU
def A2 : UrlV := (parseU w2L).getD zeroU
def A4 : UrlV := (parseU w3L).getD zeroU
theorem a1_some : parseU w1L = some A1 := by kernel_rfl
theorem a2_some : parseU w2L = some A2 := by kernel_rfl
theorem a4_some : parseU w3L = some A4 := by kernel_rfl
theorem a3_e : (resU A1 A2).2 = 0 := by kernel_rfl
theorem a3_j : joinU (resU A1 A2).1 = [104, 116, 116, 112, 58, 47, 47, 97, 47, 98, 47, 103] := by kernel_rfl
theorem a4_p : portU A4 = 80 := by kernel_rfl
theorem a4_s : standsU A4.host = true ∧ standsU A4.path = true ∧ standsU A4.query = true := ⟨by kernel_rfl, by kernel_rfl, by kernel_rfl⟩
theorem a5_j : joinU (normU A4) = [104, 116, 116, 112, 58, 47, 47, 101, 120, 46, 99, 111, 109, 47, 126, 97, 47, 98, 37, 50, 70] := by kernel_rfl
theorem a6_d : dotsU [47, 97, 47, 46, 47, 98] = [47, 97, 47, 98] := by kernel_rfl
theorem a3_len : LenU 100000 (resU A1 A2).1 := by
  have h : parseU [104, 116, 116, 112, 58, 47, 47, 97, 47, 98, 47, 103] = some (resU A1 A2).1 := by kernel_rfl
  exact parse_len _ _ 100000 (by simp) h
theorem a5_len : LenU 100000 (normU A4) := by
  have h : parseU [104, 116, 116, 112, 58, 47, 47, 101, 120, 46, 99, 111, 109, 47, 126, 97, 47, 98, 37, 50, 70] = some (normU A4) := by kernel_rfl
  exact parse_len _ _ 100000 (by simp) h
set_option maxHeartbeats 4000000 in
set_option maxRecDepth 100000 in
theorem awake8 (w : World) (hT : TabX w) : Calls Tryz.prog 7 #[] w fun e w' => e = .returned (.bool true) ∧ Below w.heap.size w w' := by
  have H1 : Hid (∀ W, Calls Tryz.prog 21 #[.string ⟨#[104, 116, 116, 112, 58, 47, 47, 97, 47, 98, 47, 99, 47, 100, 59, 112, 63, 113]⟩] W fun e w' => e = .returned (.agg (ucs A1)) ∧ Below W.heap.size W w') := fun W => at_any w1L (by decide) W
  have H2 : Hid (∀ W, Calls Tryz.prog 21 #[.string ⟨#[46, 46, 47, 103]⟩] W fun e w' => e = .returned (.agg (ucs A2)) ∧ Below W.heap.size W w') := fun W => at_any w2L (by decide) W
  have H4 : Hid (∀ W, Calls Tryz.prog 21 #[.string ⟨#[72, 84, 84, 80, 58, 47, 47, 69, 88, 46, 99, 111, 109, 58, 48, 56, 48, 47, 37, 55, 101, 97, 47, 46, 47, 98, 37, 50, 102]⟩] W fun e w' => e = .returned (.agg (ucs A4)) ∧ Below W.heap.size W w') := fun W => at_any w3L (by decide) W
  have HRE := hid (fun W h => resolve_any A1 A2 (parse_len w1L A1 40000 (by decide) a1_some) (parse_len w2L A2 40000 (by decide) a2_some) W h)
  rw [a3_e] at HRE
  have l4 := parse_len w3L A4 100 (by decide) a4_some
  have HNO : Hid (∀ W, TabX W → Calls Tryz.prog 10 #[.agg (ucs A4)] W fun e w' => e = .returned (.tuple #[.agg (ucs (normU A4)), .int .i64 0]) ∧ Below W.heap.size W w') := fun W h => by
    have := normal_any A4 (l4.more (by omega)) (fun _ => ⟨.of a4_s.1, .of a4_s.2.1, .of a4_s.2.2, Nat.le_trans l4.path (by omega)⟩) W h
    rw [a4_p, if_neg (by omega)] at this
    rw [show portE A4 = 0 from by unfold portE; rw [a4_p]; rfl] at this
    exact this
  have HJ3 := hid (fun W => refJoin_any (resU A1 A2).1 a3_len W)
  rw [a3_j] at HJ3
  have HJ5 := hid (fun W => refJoin_any (normU A4) a5_len W)
  rw [a5_j] at HJ5
  have HDO : Hid (∀ W, TabS W → Calls Tryz.prog 6 #[.string ⟨#[47, 97, 47, 46, 47, 98]⟩] W fun e w' => e = .returned (.string ⟨#[47, 97, 47, 98]⟩) ∧ Below W.heap.size W w') := fun W h => by
    have := Dots_any [47, 97, 47, 46, 47, 98] (by simp) W h
    rw [a6_d] at this
    exact this
  have HJ3' : Hid (∀ W, Calls Tryz.prog 22 #[.agg (ucs (resU A1 A2).1)] W fun e w' => e = .returned (.string ⟨#[104, 116, 116, 112, 58, 47, 47, 97, 47, 98, 47, 103]⟩) ∧ Below W.heap.size W w') := HJ3
  have HJ5' : Hid (∀ W, Calls Tryz.prog 22 #[.agg (ucs (normU A4))] W fun e w' => e = .returned (.string ⟨#[104, 116, 116, 112, 58, 47, 47, 101, 120, 46, 99, 111, 109, 47, 126, 97, 47, 98, 37, 50, 70]⟩) ∧ Below W.heap.size W w') := HJ5
  have HT := hid hT
  clear hT l4 HJ3 HJ5
  generalize (resU A1 A2).1 = U3 at HRE HJ3'
  generalize normU A4 = U5 at HNO HJ5'
  generalize A1 = U1 at H1 HRE
  generalize A2 = U2 at H2 HRE
  generalize A4 = U4 at H4 HNO
  go_enter Tryz.func7, Tryz.ntmps7
  go_wp2_with fail
  refine (H1.out _).mono ?_
  rintro e W1 ⟨rfl, hb1⟩
  have HB1 := hid hb1
  clear hb1
  go_wp2_with fail
  refine (H2.out _).mono ?_
  rintro e W2 ⟨rfl, hb2⟩
  have HB2 := hid (HB1.out.trans (hb2.mono HB1.out.size))
  clear hb2
  go_wp2_with fail
  refine (HRE.out _ (HT.out.below HB2.out).tab).mono ?_
  rintro e W3 ⟨rfl, hb3⟩
  have HB3 := hid (HB2.out.trans (hb3.mono HB2.out.size))
  clear hb3
  go_wp2_with (first
    | (refine store_url rfl _ _ rfl W3.heap.size U3 rfl rfl _ (heap_alloc_new W3 _) rfl ?_)
    | fail)
  intro W4 hO4 hW4
  have HB4 : Hid (Below w.heap.size w W4) := (alloc_below HB3.out HB3.out.size _).trans (hO4.below HB3.out.size)
  have HR4 := hid hW4
  clear hO4 hW4
  go_wp2_with fail
  refine (H4.out _).mono ?_
  rintro e W5 ⟨rfl, hb5⟩
  have HB5 := hid (HB4.out.trans (hb5.mono HB4.out.size))
  have HR5 := hid (row_keep hb5 HR4.out)
  clear hb5
  go_wp2_with fail
  refine (HNO.out _ (HT.out.below HB5.out)).mono ?_
  rintro e W6 ⟨rfl, hb6⟩
  have HB6 := hid (HB5.out.trans (hb6.mono HB5.out.size))
  have HR6 := hid (row_keep hb6 HR5.out)
  clear hb6
  go_wp2_with (first
    | (refine store_url rfl _ _ rfl W6.heap.size U5 rfl rfl _ (heap_alloc_new W6 _) rfl ?_)
    | fail)
  intro W7 hO7 hW7
  have hl6 := row_lt HR6.out
  have HB7 : Hid (Below w.heap.size w W7) := (alloc_below HB6.out HB6.out.size _).trans (hO7.below HB6.out.size)
  have HR7 : Hid (W7.heap[W3.heap.size]? = some (.cells (ucs U3) 26 (0, 0))) := (hO7.block _ (by omega)).trans (heap_old HR6.out)
  have HN7 := hid hW7
  have ld7 := loadU_row HR7.out
  clear hO7 hW7
  go_wp2_with fail
  refine (HJ3'.out _).mono ?_
  rintro e W8 ⟨rfl, hb8⟩
  have HB8 := hid (HB7.out.trans (hb8.mono HB7.out.size))
  have ld8 := loadU_row (row_keep hb8 HN7.out)
  clear hb8 ld7
  go_wp2_with fail
  refine (HJ5'.out _).mono ?_
  rintro e W9 ⟨rfl, hb9⟩
  have HB9 := hid (HB8.out.trans (hb9.mono HB8.out.size))
  clear hb9 ld8
  go_wp2_with fail
  refine (HDO.out _ (HT.out.below HB9.out).tab).mono ?_
  rintro e W10 ⟨rfl, hb10⟩
  have HB10 := hid (HB9.out.trans (hb10.mono HB9.out.size))
  clear hb10
  go_wp2_with fail
  go_ret
  exact ⟨rfl, HB10.out⟩
end Go.Proofs.YtlblefcmilfjdaaGreatDoor
