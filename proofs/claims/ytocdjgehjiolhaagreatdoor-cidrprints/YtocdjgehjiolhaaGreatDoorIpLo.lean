
/- What ip.Loose does. -/
import Derived.Test.YtocdjgehjiolhaaGreatDoorIpP4
namespace Go.Proofs.YtocdjgehjiolhaaGreatDoor
open Go.RowKit

theorem trim_size (l : List UInt8) : (⟨(trimDot l).toArray⟩ : ByteArray).size ≤ l.length := by
  show (trimDot l).toArray.size ≤ _
  unfold trimDot
  split <;> simp
theorem u8wrap (n : Nat) : IntKind.u8.wrap (n : Int) = ((b8 n).toNat : Int) := by
  rw [IntKind.wrap_u8]; simp [b8]
theorem v4L_B (n : Nat) : v4L (b8 (n / 16777216)) (b8 (n / 65536)) (b8 (n / 256)) (b8 n) = v4B n := rfl
theorem u64muladd (A E p : Nat) (h : A * E + p < 4294967296) : IntKind.u64.wrap ((A : Int) * (E : Int)) = ((A * E : Nat) : Int) ∧ IntKind.u64.wrap (((A * E : Nat) : Int) + (p : Int)) = ((A * E + p : Nat) : Int) := by
  obtain ⟨m, hm⟩ : ∃ m, m = A * E := ⟨_, rfl⟩
  have e : (A : Int) * (E : Int) = (m : Int) := by rw [hm]; exact (Int.natCast_mul A E).symm
  rw [e, ← hm]
  rw [← hm] at h
  constructor
  · rw [IntKind.wrap_u64]; omega
  · rw [IntKind.wrap_u64]; omega
theorem pV_part (e : Nat) (x : List UInt8) (h : partOk e x = true) : pV e x = (partA x).toNat := by unfold pV; rw [if_pos h]
theorem acc_step (P : List (List UInt8)) (k A E : Nat) (x : List UInt8) (hE : E = endL P.length k) (hx : P.getD k [] = x) (h : accL P k = some A) (hp : partOk E x = true) : accL P (k + 1) = some (A * E + pV E x) := by
  rw [accL, h]
  simp only
  rw [hx, ← hE, if_pos hp, pV_part E x hp]
theorem acc_stop (P : List (List UInt8)) (k A E : Nat) (x : List UInt8) (hE : E = endL P.length k) (hk : k < P.length) (hx : P.getD k [] = x) (h : accL P k = some A) (hp : partOk E x = false) : accL P P.length = none := by
  have : accL P (k + 1) = none := by
    rw [accL, h]
    simp only
    rw [hx, ← hE, hp]; rfl
  have h2 := acc_none P (k + 1) (P.length - (k + 1)) this
  rw [show k + 1 + (P.length - (k + 1)) = P.length from by omega] at h2
  exact h2
theorem acc_small (P : List (List UInt8)) (k A E : Nat) (x : List UInt8) (h4 : P.length ≤ 4) (hk : k < P.length) (h : accL P (k + 1) = some (A * E + pV E x)) : A * E + pV E x < 4294967296 := by
  by_cases hl : k + 1 = P.length
  · rw [hl] at h; exact acc_full P (by omega) h4 _ h
  · have h1 := acc_lt P (k + 1) _ (by omega) h
    have h2 : 256 ^ (k + 1) ≤ 256 ^ 4 := Nat.pow_le_pow_right (by omega) (by omega)
    have h3 : (256 : Nat) ^ 4 = 4294967296 := by decide
    omega

end Go.Proofs.YtocdjgehjiolhaaGreatDoor
