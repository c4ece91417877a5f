
/- What ip.looseNumber does. -/
import Derived.Test.YtocdjgehjiolhaaGreatDoorIpTab
namespace Go.Proofs.YtocdjgehjiolhaaGreatDoor
open Go.RowKit

def pV (e : Nat) (x : List UInt8) : Nat := if partOk e x then (partA x).toNat else 0
theorem part_of (e : Nat) (he : e ≤ 4294967296) (x y : List UInt8) (base : Nat) (hy : y ≠ []) (h : partA x = num base y) : partOk e x = numOk base e y ∧ pV e x = numV base e y := by
  have h1 : partOk e x = numOk base e y := by unfold partOk; rw [numOk_iff base e y hy he, h]
  refine ⟨h1, ?_⟩
  unfold pV numV
  rw [h1]
  split
  · rename_i ho
    rw [h, (num_of_ok base e y hy he ho).1]; rfl
  · rfl
theorem part_hexs (e : Nat) (he1 : 1 ≤ e) (he : e ≤ 4294967296) (c : UInt8) (hc : c = 120 ∨ c = 88) (r : List UInt8) : partOk e (48 :: c :: r) = numOk 16 e r ∧ pV e (48 :: c :: r) = numV 16 e r := by
  by_cases hr : r = []
  · subst hr
    have h0 := part_hex0 c hc
    have h1 : partOk e [48, c] = true := by unfold partOk; rw [h0]; simp; omega
    have h2 : numOk 16 e [] = true := by
      unfold numOk; rw [show valB 16 [] = 0 from rfl, List.all_nil, Bool.true_and, decide_eq_true_eq]; omega
    exact ⟨by rw [h1, h2], by unfold pV numV; rw [h1, h2, h0]; rfl⟩
  · exact part_of e he _ r 16 hr (part_hex c hc r hr)
theorem part_octs (e : Nat) (he1 : 1 ≤ e) (he : e ≤ 4294967296) (r : List UInt8) (h : r.headD 0 ≠ 120 ∧ r.headD 0 ≠ 88) : partOk e (48 :: r) = numOk 8 e (48 :: r) ∧ pV e (48 :: r) = numV 8 e (48 :: r) := by
  by_cases hr : r = []
  · subst hr
    have h1 : partOk e [48] = true := by unfold partOk; rw [part_zero]; simp; omega
    have h0 : valB 8 [48] = 0 := by decide
    have h2 : numOk 8 e [48] = true := by
      unfold numOk; rw [h0]
      have : dig 48 < 8 := by decide
      simp [this]; omega
    exact ⟨by rw [h1, h2], by unfold pV numV; rw [h1, h2, part_zero, h0]; rfl⟩
  · exact part_of e he _ _ 8 (by simp) (part_oct r hr h)
theorem drop2_size (s : ByteArray) : (s.extract 2 s.size).size ≤ s.size := by simp
theorem list_two (s : ByteArray) (h : 2 ≤ s.size) : s.data.toList = s[0] :: s[1] :: (s.extract 2 s.size).data.toList := by
  rw [drop2]
  have e0 := byte_at s 0 (by omega)
  have e1 := byte_at s 1 (by omega)
  have hl : s.data.toList.length = s.size := (Lib.size_eq s).symm
  cases hq : s.data.toList with
  | nil => rw [hq] at hl; simp at hl; omega
  | cons a r =>
    cases r with
    | nil => rw [hq] at hl; simp at hl; omega
    | cons b t => rw [hq] at e0 e1; simp at e0 e1; simp [e0, e1]

end Go.Proofs.YtocdjgehjiolhaaGreatDoor
