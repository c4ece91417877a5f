
/- What ip.short does. -/
import Derived.Test.YtocdjgehjiolhaaGreatDoorIpHex
import Derived.Test.YtocdjgehjiolhaaGreatDoorIpUnm
import Derived.Test.YtocdjgehjiolhaaGreatDoorIpForm
namespace Go.Proofs.YtocdjgehjiolhaaGreatDoor
open Go.RowKit

theorem get_take (g : List Nat) (a j : Nat) (h : j < a) : (g.take a).getD j 0 = g.getD j 0 := by simp [List.getD_eq_getElem?_getD, h]
theorem get_drop (g : List Nat) (a j : Nat) : (g.drop a).getD j 0 = g.getD (a + j) 0 := by simp [List.getD_eq_getElem?_getD]
theorem J_len (g : List Nat) (h : g.length ≤ 8) : (J g).length ≤ 168 := by
  have := joinL_len 58 20 (hexs g) (fun x hx => by obtain ⟨j, _, rfl⟩ := List.mem_map.1 hx; exact digs_short 16 j)
  rw [hexs_len] at this
  unfold J
  omega
theorem lenG : Tryz.prog.arrayLen 60 = 8 := by simp [Program.arrayLen, Tryz.underlying60]
theorem elemG : Tryz.prog.elem 60 = 59 := by simp [Program.elem, Tryz.underlying60]
theorem sliceG_all (g : Nat) (W : World) : (Instr.sliceAt 60 (.pointer (some ⟨g, 0, none⟩)) none none none).run Tryz.prog W = .ok (.slice (some ⟨g, 0, none⟩) 8 8) W := by
  rw [run_sliceAt_array_all W 60 ⟨g, 0, none⟩ (by rw [lenG, elemG]; exact Tryz.underlying60), lenG, elemG, Tryz.sizeOf59]
  rfl
theorem sliceG_h (g a : Nat) (ha : a ≤ 8) (W : World) : (Instr.sliceAt 60 (.pointer (some ⟨g, 0, none⟩)) none (some (.int .i64 (a : Int))) none).run Tryz.prog W = .ok (.slice (some ⟨g, 0, none⟩) a 8) W := by
  rw [run_sliceAt_array_h W 60 ⟨g, 0, none⟩ (by rw [lenG, elemG]; exact Tryz.underlying60) .i64 (a : Int) (by omega) (by rw [lenG]; omega), lenG, elemG, Tryz.sizeOf59]
  rfl
theorem sliceG_l (g l : Nat) (i : Int) (hi : i = (l : Int)) (hl : l ≤ 8) : ∃ A : Option Addr, (l < 8 → A = some ⟨g, l, none⟩) ∧ ∀ W, (Instr.sliceAt 60 (.pointer (some ⟨g, 0, none⟩)) (some (.int .i64 i)) none none).run Tryz.prog W = .ok (.slice A (8 - l) (8 - l)) W := by
  subst hi
  refine ⟨some (if 8 = l then ⟨g, 0, none⟩ else (⟨g, 0, none⟩ : Addr).add (l * 1)), fun h => ?_, fun W => ?_⟩
  · rw [if_neg (by omega)]
    by_cases h0 : l = 0
    · subst h0; rfl
    · simp [Addr.add, h0]
  · rw [run_sliceAt_array_l W 60 ⟨g, 0, none⟩ (by rw [lenG, elemG]; exact Tryz.underlying60) .i64 (l : Int) (by omega) (by rw [lenG]; omega), lenG, elemG, Tryz.sizeOf59]
    rfl
set_option maxRecDepth 100000 in
set_option maxHeartbeats 2000000 in
theorem short_any (g : List Nat) (hl : g.length = 8) (hg : ∀ j, j < 8 → g.getD j 0 < 65536) (w : World) (hT : TabP w) : Calls Tryz.prog 28 #[.agg (gcs g)] w fun e w' => e = .returned (.string (asS (shortB g (best g).1 (best g).2))) ∧ Below w.heap.size w w' := by
  have HL := hid (fun W => longest_any g hl W)
  have hr := best_run g
  obtain ⟨p, hp⟩ : ∃ p, p = best g := ⟨_, rfl⟩
  rw [← hp] at hr HL ⊢
  clear hp
  obtain ⟨a, n⟩ := p
  have han : a + n ≤ 8 := hr.1
  simp only at HL ⊢
  have HI := hid (gcs_info g hl)
  have HCA : Hid (∀ (W : World) (b : Nat), b < W.heap.size → W.heap[b]? = some (.cells (gcs g) 60 (0, 0)) → ∀ j, j < 8 → W.cell? ⟨b, j, none⟩ = some (.int .u16 (g.getD j 0 : Nat))) := fun W b _ h j hj => by
    rw [cell_of_row _ _ _ _ _ _ h, gcs_at g j (by omega)]
  have HC1 : Hid (∀ (W : World) (b c : Nat), TabP W → W.heap[b]? = some (.cells (gcs g) 60 (0, 0)) → Calls Tryz.prog 54 #[.slice (some ⟨b, 0, none⟩) 8 c] W fun e w' => e = .returned (.string (asS (J g))) ∧ Below W.heap.size W w') := fun W b c hT h => by
    have hb := (Array.getElem?_eq_some_iff.1 h).1
    have := colons_any g (by omega) (fun j hj => hg j (by omega)) (some ⟨b, 0, none⟩) b 0 c W hT (fun _ => rfl) hb (fun j hj => by rw [Nat.zero_add]; exact HCA.out W b hb h j (by omega))
    rw [hl] at this
    exact this
  have HC2 : Hid (∀ (W : World) (b c : Nat), TabP W → W.heap[b]? = some (.cells (gcs g) 60 (0, 0)) → Calls Tryz.prog 54 #[.slice (some ⟨b, 0, none⟩) a c] W fun e w' => e = .returned (.string (asS (J (g.take a)))) ∧ Below W.heap.size W w') := fun W b c hT h => by
    have hb := (Array.getElem?_eq_some_iff.1 h).1
    have hle : (g.take a).length = a := by rw [List.length_take]; omega
    have := colons_any (g.take a) (by omega) (fun j hj => by rw [get_take g a j (by omega)]; exact hg j (by omega)) (some ⟨b, 0, none⟩) b 0 c W hT (fun _ => rfl) hb (fun j hj => by rw [Nat.zero_add, get_take g a j (by omega)]; exact HCA.out W b hb h j (by omega))
    rw [hle] at this
    exact this
  have HC3 : Hid (∀ (W : World) (b c : Nat) (A : Option Addr), (a + n < 8 → A = some ⟨b, a + n, none⟩) → TabP W → W.heap[b]? = some (.cells (gcs g) 60 (0, 0)) → Calls Tryz.prog 54 #[.slice A (8 - (a + n)) c] W fun e w' => e = .returned (.string (asS (J (g.drop (a + n))))) ∧ Below W.heap.size W w') := fun W b c A hA hT h => by
    have hb := (Array.getElem?_eq_some_iff.1 h).1
    have hle : (g.drop (a + n)).length = 8 - (a + n) := by rw [List.length_drop, hl]
    have := colons_any (g.drop (a + n)) (by omega) (fun j hj => by rw [get_drop]; exact hg _ (by omega)) A b (a + n) c W hT (fun h0 => hA (by omega)) hb (fun j hj => by rw [get_drop]; exact HCA.out W b hb h _ (by omega))
    rw [hle] at this
    exact this
  have HT := hid hT
  have hsh : shortB g a n = if 2 ≤ n then J (g.take a) ++ [58, 58] ++ J (g.drop (a + n)) else J g := rfl
  rw [hsh]
  clear hT hr hg hsh HCA
  have hj1 := J_len (g.take a) (by rw [List.length_take]; omega)
  have hj2 := J_len (g.drop (a + n)) (by rw [List.length_drop]; omega)
  generalize J (g.take a) = J1 at HC2 hj1 ⊢
  generalize J (g.drop (a + n)) = J2 at HC3 hj2 ⊢
  generalize J g = J0 at HC1 ⊢
  generalize gcs g = X at HL HI HC1 HC2 HC3 ⊢
  have hsn := fun W => sliceG_all w.heap.size W
  have hsh := fun W => sliceG_h w.heap.size a (by omega) W
  obtain ⟨A, hA, hsl⟩ := sliceG_l w.heap.size (a + n) ((a : Int) + (n : Int)) (by omega) han
  have HA := hid hA
  clear hA
  generalize 8 - (a + n) = m at HC3 hsl
  go_enter Tryz.func28, Tryz.ntmps28
  go_wp2_with (first
    | (refine wpList_load_row rfl 60 _ rfl w.heap.size rfl 60 X (0, 0) _ (heap_alloc_new w _) Tryz.underlying60 rfl HI.out ?_)
    | fail)
  refine (HL.out _).mono ?_
  rintro e W1 ⟨rfl, hb1⟩
  have HR := hid (row1 hb1)
  have hz1 : w.heap.size + 1 ≤ W1.heap.size := HR.out.2.2
  clear hb1
  have HX1 := hid HR.out.1
  have HB1 := hid HR.out.2.1
  have HT1 : Hid (TabP W1) := HT.out.below HB1.out
  by_cases hn : (n : Int) < 2
  · have c0 := hid (HC1.out W1 w.heap.size 8 HT1.out HX1.out)
    go_wp2_with fail
    refine c0.out.mono ?_
    rintro e W2 ⟨rfl, hb2⟩
    go_wp2_with fail
    go_ret
    try rw [if_neg (by omega)]
    exact ⟨rfl, HB1.out.trans (hb2.mono HB1.out.size)⟩
  · have a1 : asS J1 ++ ⟨#[58, 58]⟩ = asS (J1 ++ [58, 58]) := asS_app J1 [58, 58]
    have a2 := asS_app (J1 ++ [58, 58]) J2
    have s1 : (asS J1).size ≤ 168 := by rw [asS_size]; exact hj1
    have s2 : (asS (J1 ++ [58, 58])).size ≤ 170 := by rw [asS_size, List.length_append]; simp; omega
    have s3 : (asS J2).size ≤ 168 := by rw [asS_size]; exact hj2
    have n1 : ¬ (9223372036854775807 < (asS J1).size + 2) := by omega
    have n2 : ¬ (9223372036854775807 < (asS (J1 ++ [58, 58])).size + (asS J2).size) := by omega
    have bw : IntKind.i64.wrap ((a : Int) + (n : Int)) = (a : Int) + (n : Int) := by rw [IntKind.wrap_i64]; omega
    clear s1 s2 s3
    have c2 : REG 54 #[.slice (some ⟨w.heap.size, 0, none⟩) a 8] W1 (.string (asS J1)) := fun d os => Calls.regrown_of (HC2.out _ w.heap.size 8 (HT1.out.below (below_regrown W1 d os)) (((below_regrown W1 d os).block _ (by omega)).trans HX1.out))
    have c3 : REG 54 #[.slice A m m] W1 (.string (asS J2)) := fun d os => Calls.regrown_of (HC3.out _ w.heap.size m A HA.out (HT1.out.below (below_regrown W1 d os)) (((below_regrown W1 d os).block _ (by omega)).trans HX1.out))
    go_wp2_with fail
    refine wp_region_quiet_below (by kernel_rfl) (by kernel_rfl) ?_
    repeat (quiet_step (first | (go_at_call_of 54 (Value.slice A m m); exact c3 _ _) | (go_at_call_of 54 (Value.slice (some ⟨w.heap.size, 0, none⟩) a 8); exact c2 _ _)))
    refine wpQuiet_nil ?_
    rintro W9 ⟨⟨dqW9, osqW9⟩, hwW9⟩
    have HQW9 : Hid (Below W1.heap.size W1 W9) := by rw [hwW9]; exact below_regrown W1 dqW9 osqW9
    clear hwW9 c2 c3
    go_wp2_with fail
    go_ret
    try rw [if_pos (by omega)]
    refine ⟨?_, HB1.out.trans (HQW9.out.mono HB1.out.size)⟩
    rfl
end Go.Proofs.YtocdjgehjiolhaaGreatDoor
