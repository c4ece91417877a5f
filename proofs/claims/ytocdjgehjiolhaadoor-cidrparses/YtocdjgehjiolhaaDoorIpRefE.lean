
/- What the reference's Mapped, Tail and Embeds do. -/
import Derived.Test.YtocdjgehjiolhaaDoorIpEmb
import Derived.Test.YtocdjgehjiolhaaDoorIpRefLo
import Derived.Test.YtocdjgehjiolhaaDoorIpLLaw
namespace Go.Proofs.YtocdjgehjiolhaaDoor
open Go.RowKit

theorem beh_iff (h B : List UInt8) (hh : h.length = 12) (hB : B.length = 16) : B = behL h (lastL B) ↔ B.take 12 = h := by
  obtain ⟨b0, b1, b2, b3, b4, b5, b6, b7, b8, b9, b10, b11, b12, b13, b14, b15, rfl⟩ := letters B hB
  have e : behL h (lastL [b0, b1, b2, b3, b4, b5, b6, b7, b8, b9, b10, b11, b12, b13, b14, b15]) = h ++ [b12, b13, b14, b15] := rfl
  rw [e]
  have e2 : [b0, b1, b2, b3, b4, b5, b6, b7, b8, b9, b10, b11, b12, b13, b14, b15] = [b0, b1, b2, b3, b4, b5, b6, b7, b8, b9, b10, b11] ++ [b12, b13, b14, b15] := rfl
  rw [e2]
  constructor
  · intro h1
    have := List.append_inj_left h1 (by rw [hh]; rfl)
    rw [← this]; rfl
  · intro h1
    rw [← h1]; rfl
theorem isH_take (h : List UInt8) (hh : h.length = 12) (v : Bool) (B : List UInt8) (hB : B.length = 16) : isH h v B = decide (v = true ∧ B.take 12 = h) := by
  unfold isH
  exact decide_eq_decide.2 (by rw [beh_iff h B hh hB])
theorem map_getD (k : Nat) (hk : k < 12) : mapH.getD k 0 = if k < 10 then 0 else 255 := by
  rcases (show k = 0 ∨ k = 1 ∨ k = 2 ∨ k = 3 ∨ k = 4 ∨ k = 5 ∨ k = 6 ∨ k = 7 ∨ k = 8 ∨ k = 9 ∨ k = 10 ∨ k = 11 by omega) with rfl | rfl | rfl | rfl | rfl | rfl | rfl | rfl | rfl | rfl | rfl | rfl <;> rfl
theorem take_next (B h : List UInt8) (k : Nat) (hB : k < B.length) (hh : k < h.length) (h1 : B.take k = h.take k) (h2 : B.getD k 0 = h.getD k 0) : B.take (k + 1) = h.take (k + 1) := by
  rw [take_snoc B k hB, take_snoc h k hh, h1, h2]
theorem take_ne (B h : List UInt8) (k n : Nat) (hk : k < n) (h2 : B.getD k 0 ≠ h.getD k 0) : B.take n ≠ h.take n := fun e => by
  apply h2
  have : (B.take n)[k]? = (h.take n)[k]? := by rw [e]
  rw [List.getElem?_take, List.getElem?_take, if_pos hk, if_pos hk] at this
  rw [List.getD_eq_getElem?_getD, List.getD_eq_getElem?_getD, this]
/-- The first k bytes from at on, as a number. -/
def tailN (B : List UInt8) (at_ : Nat) : Nat → Nat
  | 0 => 0
  | k + 1 => tailN B at_ k * 256 + (B.getD (at_ + k) 0).toNat
theorem tailN_lt (B : List UInt8) (a : Nat) : ∀ k, tailN B a k < 256 ^ k
  | 0 => by simp [tailN]
  | k + 1 => by
    have ih := tailN_lt B a k
    have := (B.getD (a + k) 0).toNat_lt
    rw [tailN, Nat.pow_succ]; omega
def tailL (B : List UInt8) (a : Nat) : List UInt8 := v4L (B.getD a 0) (B.getD (a + 1) 0) (B.getD (a + 2) 0) (B.getD (a + 3) 0)
theorem tail_v4 (B : List UInt8) (a : Nat) : v4B (tailN B a 4) = tailL B a := by
  have := v4_bytes (B.getD a 0) (B.getD (a + 1) 0) (B.getD (a + 2) 0) (B.getD (a + 3) 0)
  have e : tailN B a 4 = ((((B.getD a 0).toNat * 256 + (B.getD (a + 1) 0).toNat) * 256 + (B.getD (a + 2) 0).toNat) * 256 + (B.getD (a + 3) 0).toNat) := by simp [tailN]
  rw [e, this]; rfl
end Go.Proofs.YtocdjgehjiolhaaDoor
