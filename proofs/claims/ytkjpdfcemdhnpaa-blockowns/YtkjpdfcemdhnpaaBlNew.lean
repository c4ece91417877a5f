
/- New: a file of noughts. -/
import Derived.Test.YtkjpdfcemdhnpaaBlBurn
namespace Go.Proofs.Ytkjpdfcemdhnpaa
set_option linter.unusedVariables false
set_option linter.unusedSimpArgs false
open Go.RowKit Go.BigFrame

theorem made_blks (n : Nat) : madeCells (bcs (zer 64)) (n * 64) = bcs (zer (64 * n)) := by
  apply Array.ext
  · rw [size_madeCells, bcs_size, zer_len, Nat.mul_comm]
  · intro i h1 h2
    have hm : i % 64 < (bcs (zer 64)).size := by rw [bcs_size, zer_len]; omega
    have hz : (bcs (zer 64)).size = 64 := by rw [bcs_size, zer_len]
    have z0 : ∀ k j, (zer k).getD j 0 = 0 := fun k j => by
      unfold zer
      rw [List.getD_eq_getElem?_getD, List.getElem?_replicate]
      split <;> rfl
    have e1 := bcs_at (zer 64) (i % 64) (by rw [zer_len]; omega)
    have e2 := bcs_at (zer (64 * n)) i (by rw [bcs_size] at h2; exact h2)
    rw [z0] at e1 e2
    rw [Array.getElem?_eq_getElem hm] at e1
    rw [Array.getElem?_eq_getElem h2] at e2
    injection e1 with e1
    injection e2 with e2
    rw [e2]
    simp only [madeCells, Array.getElem_map, Array.getElem_range, hz]
    rw [getElem!_pos (bcs (zer 64)) (i % 64) hm]
    exact e1
theorem info64 : (Try.prog.info? 64).map (fun i => (i.zero, i.size, i.bytes)) = some (some (.agg (bcs (zer 64))), 64, 64) := by kernel_rfl
def mkI (t : TypeId) (a b : Value) := Instr.makeSlice t a b
theorem mkB_eq (a b : Value) : Instr.makeSlice 56 a b = mkI 56 a b := rfl
theorem mkB_run (n : Nat) (hn : n ≤ 4096) (w : World) : (mkI 56 (.int .i64 (n : Int)) (.int .i64 (n : Int))).run Try.prog w = .ok (.slice (some ⟨w.heap.size, 0, none⟩) n n) (w.alloc (.cells (bcs (zer (64 * n))) 64)) := by
  obtain ⟨i, hi, hz0, hz1, hz2⟩ := info_parts info64
  unfold mkI
  rw [run_makeSlice w 56 64 i (.agg (bcs (zer 64))) Try.underlying56 hi hz0 .i64 .i64 (n : Int) (n : Int) (by omega) (by omega) (by rw [hz1]; omega) (by rw [hz2]; omega) (by omega), hz1, Int.toNat_natCast]
  show Result.ok _ (w.alloc (.cells (madeCells (bcs (zer 64)) (n * 64)) _)) = _
  rw [made_blks]
theorem built_file (N L n m : Nat) : Try.prog.built 61 [(1, .slice (some ⟨N, 0, none⟩) n n), (2, .slice (some ⟨L, 0, none⟩) m m)] = some #[.pointer none, .slice (some ⟨N, 0, none⟩) n n, .slice (some ⟨L, 0, none⟩) m m, .slice none 0 0, .bool false, .int .i64 0, .int .i64 0, .bool false] := by kernel_rfl
theorem buildFl_eq (ps : Array (Nat × Value)) : Instr.build 61 ps = buildI 61 ps := rfl
theorem info24 : (Try.prog.info? 24).map (·.size) = some 1 := by kernel_rfl
/-- What New answers. -/
def NewP (n : Int) (w : World) (x : Ending) (w' : World) : Prop :=
  (¬ (1 ≤ n ∧ n ≤ 4096) → x = .returned (.tuple #[.pointer none, .int .i64 1])) ∧ ((1 ≤ n ∧ n ≤ 4096) → ∃ F N L, x = .returned (.tuple #[.pointer (some ⟨F, 0, none⟩), .int .i64 0]) ∧ Fil F N L n.toNat (.slice none 0 0) false 0 0 false (zer (64 * n.toNat)) [] w' ∧ w.heap.size ≤ F ∧ w.heap.size ≤ N ∧ w.heap.size ≤ L) ∧ Below w.heap.size w w'
theorem fil_new {F N L n : Nat} {w : World} (hF : w.heap[F]? = some (.cells (fcs F N L n (.slice none 0 0) false 0 0 false) 61 (0, 0))) (hN : w.heap[N]? = some (.cells (bcs (zer (64 * n))) 64 (0, 0))) (hL : w.heap[L]? = some (.cells (bcs (zer (64 * n))) 64 (0, 0))) (h1 : F ≠ N) (h2 : F ≠ L) (h3 : N ≠ L) (hn : 1 ≤ n) (hn2 : n ≤ 4096) : Fil F N L n (.slice none 0 0) false 0 0 false (zer (64 * n)) [] w :=
  ⟨hF, hN, hL, OwnW.nil _ _, h1, h2, h3, zer_len _, zer_len _, hn, hn2, fun q hq => by cases hq⟩
attribute [local go_sem ↓] mkB_eq buildFl_eq
set_option maxHeartbeats 8000000 in
set_option maxRecDepth 100000 in
theorem new_any (n : Int) (w : World) : Calls Try.prog 17 #[.int .i64 n] w fun x w' => NewP n w x w' := by
  by_cases h1 : 1 ≤ n
  · by_cases h2 : n ≤ 4096
    · obtain ⟨m, rfl⟩ : ∃ m : Nat, n = (m : Int) := ⟨n.toNat, by omega⟩
      have i1 : ¬ (m : Int) < 1 := by omega
      have i2 : ¬ (4096 : Int) < (m : Int) := by omega
      have hmk := mkB_run m (by omega)
      have hbf : ∀ (N L : Nat) W, (buildI 61 #[(1, .slice (some ⟨N, 0, none⟩) m m), (2, .slice (some ⟨L, 0, none⟩) m m)]).run Try.prog W = .ok (.agg #[.pointer none, .slice (some ⟨N, 0, none⟩) m m, .slice (some ⟨L, 0, none⟩) m m, .slice none 0 0, .bool false, .int .i64 0, .int .i64 0, .bool false]) W := fun N L W => run_build W 61 _ _ (built_file N L m m)
      have HOK : Hid (∀ F N L w', Fil F N L m (.slice none 0 0) false 0 0 false (zer (64 * m)) [] w' → w.heap.size ≤ F → w.heap.size ≤ N → w.heap.size ≤ L → Below w.heap.size w w' → NewP (m : Int) w (.returned (.tuple #[.pointer (some ⟨F, 0, none⟩), .int .i64 0])) w') := fun F N L w' a b c d e => ⟨fun hn => absurd ⟨by omega, by omega⟩ hn, fun _ => ⟨F, N, L, rfl, a, b, c, d⟩, e⟩
      have hm1 : 1 ≤ m := by omega
      have hm2 : m ≤ 4096 := by omega
      clear h1 h2
      go_enter Try.func17, Try.ntmps17
      go_wp2_with fail
      go_region
      · have hB : Below w.heap.size w (((w.alloc (Obj.cells (bcs (zer (64 * m))) 64)).alloc (Obj.cells (bcs (zer (64 * m))) 64)).alloc (Obj.cells #[.pointer none, .slice (some ⟨w.heap.size, 0, none⟩) m m, .slice (some ⟨w.heap.size + 1, 0, none⟩) m m, .slice none 0 0, .bool false, .int .i64 0, .int .i64 0, .bool false] 61)).drew := ((((Below.refl w.heap.size w).alloc (Nat.le_refl _) _).alloc (by simp) _).alloc (by simp <;> omega) _).drew
        have hN := heap3_0 w (Obj.cells (bcs (zer (64 * m))) 64 (0, 0)) (Obj.cells (bcs (zer (64 * m))) 64 (0, 0)) (Obj.cells #[.pointer none, .slice (some ⟨w.heap.size, 0, none⟩) m m, .slice (some ⟨w.heap.size + 1, 0, none⟩) m m, .slice none 0 0, .bool false, .int .i64 0, .int .i64 0, .bool false] 61 (0, 0))
        have hL := heap3_1 w (Obj.cells (bcs (zer (64 * m))) 64 (0, 0)) (Obj.cells (bcs (zer (64 * m))) 64 (0, 0)) (Obj.cells #[.pointer none, .slice (some ⟨w.heap.size, 0, none⟩) m m, .slice (some ⟨w.heap.size + 1, 0, none⟩) m m, .slice none 0 0, .bool false, .int .i64 0, .int .i64 0, .bool false] 61 (0, 0))
        have hF := heap3_2 w (Obj.cells (bcs (zer (64 * m))) 64 (0, 0)) (Obj.cells (bcs (zer (64 * m))) 64 (0, 0)) (Obj.cells #[.pointer none, .slice (some ⟨w.heap.size, 0, none⟩) m m, .slice (some ⟨w.heap.size + 1, 0, none⟩) m m, .slice none 0 0, .bool false, .int .i64 0, .int .i64 0, .bool false] 61 (0, 0))
        have HB := hid hB
        have HF : Hid ((((w.alloc (Obj.cells (bcs (zer (64 * m))) 64)).alloc (Obj.cells (bcs (zer (64 * m))) 64)).alloc (Obj.cells #[.pointer none, .slice (some ⟨w.heap.size, 0, none⟩) m m, .slice (some ⟨w.heap.size + 1, 0, none⟩) m m, .slice none 0 0, .bool false, .int .i64 0, .int .i64 0, .bool false] 61)).drew.heap[w.heap.size + 1 + 1]? = _) := hF
        have HN : Hid ((((w.alloc (Obj.cells (bcs (zer (64 * m))) 64)).alloc (Obj.cells (bcs (zer (64 * m))) 64)).alloc (Obj.cells #[.pointer none, .slice (some ⟨w.heap.size, 0, none⟩) m m, .slice (some ⟨w.heap.size + 1, 0, none⟩) m m, .slice none 0 0, .bool false, .int .i64 0, .int .i64 0, .bool false] 61)).drew.heap[w.heap.size]? = _) := hN
        have HL : Hid ((((w.alloc (Obj.cells (bcs (zer (64 * m))) 64)).alloc (Obj.cells (bcs (zer (64 * m))) 64)).alloc (Obj.cells #[.pointer none, .slice (some ⟨w.heap.size, 0, none⟩) m m, .slice (some ⟨w.heap.size + 1, 0, none⟩) m m, .slice none 0 0, .bool false, .int .i64 0, .int .i64 0, .bool false] 61)).drew.heap[w.heap.size + 1]? = _) := hL
        clear hB hN hL hF hmk hbf
        generalize (((w.alloc (Obj.cells (bcs (zer (64 * m))) 64)).alloc (Obj.cells (bcs (zer (64 * m))) 64)).alloc (Obj.cells #[.pointer none, .slice (some ⟨w.heap.size, 0, none⟩) m m, .slice (some ⟨w.heap.size + 1, 0, none⟩) m m, .slice none 0 0, .bool false, .int .i64 0, .int .i64 0, .bool false] 61)).drew = V at HB HF HN HL ⊢
        go_wp2_with (first
          | (refine store_part rfl 24 _ _ rfl (w.heap.size + 1 + 1) 0 (.pointer (some ⟨w.heap.size + 1 + 1, 0, none⟩)) _ _ (fcs (w.heap.size + 1 + 1) w.heap.size (w.heap.size + 1) m (.slice none 0 0) false 0 0 false) rfl rfl info24 (by simp) rfl rfl HF.out rfl ?_; intro W1 ho hr; have HO := hid ho; have HR := hid hr; clear ho hr)
          | fail)
        go_ret2
        exact HOK.out _ _ _ _ (fil_new HR.out ((HO.out.block _ (by omega)).trans HN.out) ((HO.out.block _ (by omega)).trans HL.out) (by omega) (by omega) (by omega) hm1 hm2) (by omega) (by omega) (by omega) (HB.out.trans (HO.out.below (by omega)))
      · have hB : Below w.heap.size w (((w.alloc (Obj.cells (bcs (zer (64 * m))) 64)).alloc (Obj.cells (bcs (zer (64 * m))) 64)).alloc (Obj.cells #[.pointer none, .slice (some ⟨w.heap.size + 1, 0, none⟩) m m, .slice (some ⟨w.heap.size, 0, none⟩) m m, .slice none 0 0, .bool false, .int .i64 0, .int .i64 0, .bool false] 61)).drew := ((((Below.refl w.heap.size w).alloc (Nat.le_refl _) _).alloc (by simp) _).alloc (by simp <;> omega) _).drew
        have hN := heap3_0 w (Obj.cells (bcs (zer (64 * m))) 64 (0, 0)) (Obj.cells (bcs (zer (64 * m))) 64 (0, 0)) (Obj.cells #[.pointer none, .slice (some ⟨w.heap.size + 1, 0, none⟩) m m, .slice (some ⟨w.heap.size, 0, none⟩) m m, .slice none 0 0, .bool false, .int .i64 0, .int .i64 0, .bool false] 61 (0, 0))
        have hL := heap3_1 w (Obj.cells (bcs (zer (64 * m))) 64 (0, 0)) (Obj.cells (bcs (zer (64 * m))) 64 (0, 0)) (Obj.cells #[.pointer none, .slice (some ⟨w.heap.size + 1, 0, none⟩) m m, .slice (some ⟨w.heap.size, 0, none⟩) m m, .slice none 0 0, .bool false, .int .i64 0, .int .i64 0, .bool false] 61 (0, 0))
        have hF := heap3_2 w (Obj.cells (bcs (zer (64 * m))) 64 (0, 0)) (Obj.cells (bcs (zer (64 * m))) 64 (0, 0)) (Obj.cells #[.pointer none, .slice (some ⟨w.heap.size + 1, 0, none⟩) m m, .slice (some ⟨w.heap.size, 0, none⟩) m m, .slice none 0 0, .bool false, .int .i64 0, .int .i64 0, .bool false] 61 (0, 0))
        have HB := hid hB
        have HF : Hid ((((w.alloc (Obj.cells (bcs (zer (64 * m))) 64)).alloc (Obj.cells (bcs (zer (64 * m))) 64)).alloc (Obj.cells #[.pointer none, .slice (some ⟨w.heap.size + 1, 0, none⟩) m m, .slice (some ⟨w.heap.size, 0, none⟩) m m, .slice none 0 0, .bool false, .int .i64 0, .int .i64 0, .bool false] 61)).drew.heap[w.heap.size + 1 + 1]? = _) := hF
        have HN : Hid ((((w.alloc (Obj.cells (bcs (zer (64 * m))) 64)).alloc (Obj.cells (bcs (zer (64 * m))) 64)).alloc (Obj.cells #[.pointer none, .slice (some ⟨w.heap.size + 1, 0, none⟩) m m, .slice (some ⟨w.heap.size, 0, none⟩) m m, .slice none 0 0, .bool false, .int .i64 0, .int .i64 0, .bool false] 61)).drew.heap[w.heap.size]? = _) := hN
        have HL : Hid ((((w.alloc (Obj.cells (bcs (zer (64 * m))) 64)).alloc (Obj.cells (bcs (zer (64 * m))) 64)).alloc (Obj.cells #[.pointer none, .slice (some ⟨w.heap.size + 1, 0, none⟩) m m, .slice (some ⟨w.heap.size, 0, none⟩) m m, .slice none 0 0, .bool false, .int .i64 0, .int .i64 0, .bool false] 61)).drew.heap[w.heap.size + 1]? = _) := hL
        clear hB hN hL hF hmk hbf
        generalize (((w.alloc (Obj.cells (bcs (zer (64 * m))) 64)).alloc (Obj.cells (bcs (zer (64 * m))) 64)).alloc (Obj.cells #[.pointer none, .slice (some ⟨w.heap.size + 1, 0, none⟩) m m, .slice (some ⟨w.heap.size, 0, none⟩) m m, .slice none 0 0, .bool false, .int .i64 0, .int .i64 0, .bool false] 61)).drew = V at HB HF HN HL ⊢
        go_wp2_with (first
          | (refine store_part rfl 24 _ _ rfl (w.heap.size + 1 + 1) 0 (.pointer (some ⟨w.heap.size + 1 + 1, 0, none⟩)) _ _ (fcs (w.heap.size + 1 + 1) (w.heap.size + 1) w.heap.size m (.slice none 0 0) false 0 0 false) rfl rfl info24 (by simp) rfl rfl HF.out rfl ?_; intro W1 ho hr; have HO := hid ho; have HR := hid hr; clear ho hr)
          | fail)
        go_ret2
        exact HOK.out _ _ _ _ (fil_new HR.out ((HO.out.block _ (by omega)).trans HL.out) ((HO.out.block _ (by omega)).trans HN.out) (by omega) (by omega) (by omega) hm1 hm2) (by omega) (by omega) (by omega) (HB.out.trans (HO.out.below (by omega)))
    · have i1 : ¬ n < 1 := by omega
      have i2 : (4096 : Int) < n := by omega
      go_enter Try.func17, Try.ntmps17
      go_wp2_with fail
      go_ret2
      exact ⟨fun _ => rfl, fun h => absurd h.2 (by omega), Below.refl _ _⟩
  · have i1 : n < 1 := by omega
    go_enter Try.func17, Try.ntmps17
    go_wp2_with fail
    go_ret2
    exact ⟨fun _ => rfl, fun h => absurd h.1 (by omega), Below.refl _ _⟩
end Go.Proofs.Ytkjpdfcemdhnpaa
