
/- A number in parts, each written in its own way, is read loosely: for one to four parts: plain mathematics. -/
import Derived.Test.YtggjblnbjigjmaaDoorIpDev2
namespace Go.Proofs.YtggjblnbjigjmaaDoor
set_option linter.unusedSimpArgs false
set_option linter.unusedVariables false

/-- What stands in part i of k. -/
def fvs (n k i : Nat) : Nat := if i = k - 1 then n % 256 ^ (4 - i) else n / 256 ^ (3 - i) % 256
def fps (n k : Nat) (ks : List UInt8) (i : Nat) : List UInt8 := formB (ks.getD i 0).toNat (fvs n k i)
/-- The first j parts, dots between. -/
def fjn (n k : Nat) (ks : List UInt8) : Nat → List UInt8
  | 0 => []
  | 1 => fps n k ks 0
  | j + 2 => fjn n k ks (j + 1) ++ 46 :: fps n k ks (j + 1)
theorem fjn_zero (n k : Nat) (ks : List UInt8) : fjn n k ks 0 = [] := rfl
theorem fjn_one (n k : Nat) (ks : List UInt8) : fjn n k ks 1 = fps n k ks 0 := rfl
theorem fjn_more (n k : Nat) (ks : List UInt8) (j : Nat) (h : 0 < j) : fjn n k ks (j + 1) = fjn n k ks j ++ 46 :: fps n k ks j := by
  match j, h with
  | j + 1, _ => rfl
theorem fps_46 (n k : Nat) (ks : List UInt8) (i : Nat) : (46 : UInt8) ∉ fps n k ks i := form_46 _ _
theorem fps_ne (n k : Nat) (ks : List UInt8) (i : Nat) : fps n k ks i ≠ [] := form_ne _ _
theorem loose_list (P : List (List UInt8)) (h0 : P ≠ []) (n k : Nat) (ks : List UInt8) (h : ∀ x ∈ P, ∃ i, x = fps n k ks i) : looseA (joinL 46 P) = looseP P :=
  loose_join P h0 (fun x hx => by obtain ⟨i, rfl⟩ := h x hx; exact fps_46 n k ks i) (fun x hx => by obtain ⟨i, rfl⟩ := h x hx; exact fps_ne n k ks i)
theorem forms_all (n k : Nat) (ks : List UInt8) (hn : n < 4294967296) (h1 : 1 ≤ k) (h4 : k ≤ 4) : looseA (fjn n k ks k) = some (v4B n) := by
  rcases (show k = 1 ∨ k = 2 ∨ k = 3 ∨ k = 4 by omega) with rfl | rfl | rfl | rfl
  · have e : fjn n 1 ks 1 = joinL 46 [fps n 1 ks 0] := by simp [fjn, joinL]
    rw [e, loose_list _ (by simp) n 1 ks (by simp; exact ⟨0, rfl⟩)]
    have e2 : fvs n 1 0 = n := by simp [fvs]; omega
    have := forms_one (ks.getD 0 0).toNat n hn
    unfold fps
    rw [e2]; exact this
  · have e : fjn n 2 ks 2 = joinL 46 [fps n 2 ks 0, fps n 2 ks 1] := by simp [fjn, joinL]
    rw [e, loose_list _ (by simp) n 2 ks (by simp; exact ⟨⟨0, rfl⟩, ⟨1, rfl⟩⟩)]
    have e0 : fvs n 2 0 = n / 16777216 := by simp [fvs]; omega
    have e1 : fvs n 2 1 = n % 16777216 := by simp [fvs]
    have := forms_two (ks.getD 0 0).toNat (ks.getD 1 0).toNat (n / 16777216) (n % 16777216) (by omega) (by omega)
    unfold fps
    rw [e0, e1, this]
    congr 2; omega
  · have e : fjn n 3 ks 3 = joinL 46 [fps n 3 ks 0, fps n 3 ks 1, fps n 3 ks 2] := by simp [fjn, joinL]
    rw [e, loose_list _ (by simp) n 3 ks (by simp; exact ⟨⟨0, rfl⟩, ⟨1, rfl⟩, ⟨2, rfl⟩⟩)]
    have e0 : fvs n 3 0 = n / 16777216 := by simp [fvs]; omega
    have e1 : fvs n 3 1 = n / 65536 % 256 := by simp [fvs]
    have e2 : fvs n 3 2 = n % 65536 := by simp [fvs]
    have := forms_three (ks.getD 0 0).toNat (ks.getD 1 0).toNat (ks.getD 2 0).toNat (n / 16777216) (n / 65536 % 256) (n % 65536) (by omega) (by omega) (by omega)
    unfold fps
    rw [e0, e1, e2, this]
    congr 2; omega
  · have e : fjn n 4 ks 4 = joinL 46 [fps n 4 ks 0, fps n 4 ks 1, fps n 4 ks 2, fps n 4 ks 3] := by simp [fjn, joinL]
    rw [e, loose_list _ (by simp) n 4 ks (by simp; exact ⟨⟨0, rfl⟩, ⟨1, rfl⟩, ⟨2, rfl⟩, ⟨3, rfl⟩⟩)]
    have e0 : fvs n 4 0 = n / 16777216 := by simp [fvs]; omega
    have e1 : fvs n 4 1 = n / 65536 % 256 := by simp [fvs]
    have e2 : fvs n 4 2 = n / 256 % 256 := by simp [fvs]
    have e3 : fvs n 4 3 = n % 256 := by simp [fvs]
    have := forms_four (ks.getD 0 0).toNat (ks.getD 1 0).toNat (ks.getD 2 0).toNat (ks.getD 3 0).toNat (n / 16777216) (n / 65536 % 256) (n / 256 % 256) (n % 256) (by omega) (by omega) (by omega) (by omega)
    unfold fps
    rw [e0, e1, e2, e3, this]
    congr 2; omega
theorem fvs_lt (n k i : Nat) (hn : n < 4294967296) : fvs n k i < 4294967296 := by
  unfold fvs
  split
  · have := Nat.mod_le n (256 ^ (4 - i)); omega
  · omega
end Go.Proofs.YtggjblnbjigjmaaDoor
