
/- A block of one byte; the file awake: a torn write. -/
import Derived.Test.YtkjpdfcemdhnpaaBlActs
namespace Go.Proofs.Ytkjpdfcemdhnpaa
set_option linter.unusedVariables false
set_option linter.unusedSimpArgs false
open Go.RowKit Go.BigFrame

def filB (c : UInt8) : List UInt8 := List.replicate 64 c
theorem filB_len (c : UInt8) : (filB c).length = 64 := by simp [filB]
theorem fil_step (c : UInt8) (j : Nat) (hj : j < 64) : (bcs (List.replicate j c ++ zer (64 - j))).setIfInBounds j (.int .u8 c.toNat) = bcs (List.replicate (j + 1) c ++ zer (64 - (j + 1))) := by
  have := put_byteN (filB c) 64 j c (by rw [filB_len]; exact hj) hj (by unfold filB; rw [List.getD_eq_getElem?_getD, List.getElem?_replicate, if_pos hj]; rfl)
  unfold filB at this
  rw [List.take_replicate, List.take_replicate, Nat.min_eq_left (by omega), Nat.min_eq_left (by omega)] at this
  exact this
set_option maxHeartbeats 4000000 in
set_option maxRecDepth 100000 in
theorem filled_any (c : UInt8) (w : World) : Calls Try.prog 20 #[.int .u8 c.toNat] w fun x w' => ∃ g, x = .returned (.slice (some ⟨g, 0, none⟩) 64 64) ∧ w.heap.size ≤ g ∧ w'.heap[g]? = some (.cells (bcs (filB c)) 5 (0, 0)) ∧ Below w.heap.size w w' := by
  have hmk := make64_eq
  have HB0 := hid ((Below.refl w.heap.size w).alloc (Nat.le_refl _) (.cells (bcs (zer 64)) 5))
  have HN0 := hid (heap_alloc_new w (.cells (bcs (zer 64)) 5 (0, 0)))
  have HST := hid (fil_step c)
  obtain ⟨X, hX⟩ : ∃ X : Int, X = (c.toNat : Int) := ⟨_, rfl⟩
  rw [← hX] at HST ⊢
  clear hX
  go_enter Try.func20, Try.ntmps20
  go_wp2_with fail
  go_loopw [4] (fun a4 wr => ∃ j : Nat, a4 = .int .i64 (j : Int) ∧ j ≤ 64 ∧ Hid (wr.heap[w.heap.size]? = some (.cells (bcs (List.replicate j c ++ zer (64 - j))) 5 (0, 0))) ∧ Hid (Below w.heap.size w wr)) (fun a4 wr => 64 - (intOf a4).toNat)
  case atStart => exact ⟨0, rfl, by decide, HN0.out, HB0.out⟩
  case round =>
    obtain ⟨j, rfl, hj, HR, HB⟩ := hrel
    clear HN0 HB0 hmk
    by_cases hlt : j < 64
    · have hi : (j : Int) < 64 := by omega
      have hst := HST.out j hlt
      have HS2 := hid hst
      clear hst
      go_wp2_with (first
        | (refine store_part rfl 5 _ _ rfl w.heap.size j (.int .u8 X) _ _ _ rfl rfl size5 (by rw [bcs_size, List.length_append, List.length_replicate, zer_len]; omega) rfl rfl HR.out HS2.out ?_; intro W1 ho hr; have HR1 := hid hr; have HB1 : Hid (Below w.heap.size w W1) := HB.out.trans (ho.below (Nat.le_refl _)); clear ho hr)
        | fail)
      go_roundw
      case rel => exact ⟨j + 1, by go_num, by omega, HR1, HB1⟩
      case measure => simp [intOf]; omega
    · have hi : ¬ (j : Int) < 64 := by omega
      obtain rfl : j = 64 := by omega
      go_wp2_with fail
      go_ret
      refine ⟨_, rfl, Nat.le_refl _, ?_, HB.out⟩
      have := HR.out
      rw [Nat.sub_self, show zer 0 = [] from rfl, List.append_nil] at this
      exact this
end Go.Proofs.Ytkjpdfcemdhnpaa
