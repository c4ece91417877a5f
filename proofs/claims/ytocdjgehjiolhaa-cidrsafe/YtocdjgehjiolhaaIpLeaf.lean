
/- What ip's digit, number, strictNumber and groupNumber do, and the reference's digit and number. -/
import Derived.Test.YtocdjgehjiolhaaProg
import Derived.Test.YtocdjgehjiolhaaIpBook
import Derived.Test.YtocdjgehjiolhaaMem
import Derived.WalkKit
import Derived.Below
import Derived.Deep.QuietTactic
import Derived.BigQuiet
namespace Go.Proofs.Ytocdjgehjiolhaa
open Go.RowKit

def dgN (c : UInt8) : Nat := if dig c < 16 then dig c else 16
theorem dgN_lt (c : UInt8) (base : Nat) (hb : base ≤ 16) : dgN c < base ↔ dig c < base := by unfold dgN; split <;> omega
theorem dgN_eq (c : UInt8) (base : Nat) (hb : base ≤ 16) (h : dig c < base) : dgN c = dig c := by unfold dgN; rw [if_pos (by omega)]
theorem dgN_le (c : UInt8) : dgN c ≤ 16 := by unfold dgN; split <;> omega
theorem dgN_a (c : UInt8) (h1 : 48 ≤ c.toNat) (h2 : c.toNat ≤ 57) : dgN c = c.toNat - 48 := by
  have e : dig c = c.toNat - 48 := by unfold dig; rw [if_pos ⟨h1, h2⟩]
  unfold dgN; rw [e, if_pos (by omega)]
theorem dgN_b (c : UInt8) (h1 : 97 ≤ c.toNat) (h2 : c.toNat ≤ 102) : dgN c = c.toNat - 87 := by
  have e : dig c = c.toNat - 87 := by unfold dig; rw [if_neg (by omega), if_pos ⟨h1, h2⟩]
  unfold dgN; rw [e, if_pos (by omega)]
theorem dgN_c (c : UInt8) (h1 : 65 ≤ c.toNat) (h2 : c.toNat ≤ 70) : dgN c = c.toNat - 55 := by
  have e : dig c = c.toNat - 55 := by unfold dig; rw [if_neg (by omega), if_neg (by omega), if_pos ⟨h1, h2⟩]
  unfold dgN; rw [e, if_pos (by omega)]
theorem dgN_d (c : UInt8) (h1 : ¬ (48 ≤ c.toNat ∧ c.toNat ≤ 57)) (h2 : ¬ (97 ≤ c.toNat ∧ c.toNat ≤ 102)) (h3 : ¬ (65 ≤ c.toNat ∧ c.toNat ≤ 70)) : dgN c = 16 := by
  have e : dig c = 99 := by unfold dig; rw [if_neg h1, if_neg h2, if_neg h3]
  unfold dgN; rw [e, if_neg (by omega)]

theorem byte_at (s : ByteArray) (p : Nat) (h : p < s.size) : s.data.toList.getD p 0 = s[p] := by
  rw [List.getD_eq_getElem?_getD, List.getElem?_eq_getElem (by simpa using h)]; simp; rfl
theorem take_at (s : ByteArray) (p : Nat) (h : p < s.size) : s.data.toList.take (p + 1) = s.data.toList.take p ++ [s[p]] := by
  rw [List.take_add_one, List.getElem?_eq_getElem (by simpa using h)]; simp; rfl
theorem split_at (s : ByteArray) (p : Nat) (h : p < s.size) : s.data.toList = s.data.toList.take p ++ s[p] :: s.data.toList.drop (p + 1) := by
  conv => lhs; rw [← List.take_append_drop p s.data.toList]
  rw [List.drop_eq_getElem_cons (by simpa using h)]; simp; rfl
theorem wrap_muladd (n d base e : Nat) (h : n < e) (hb : base ≤ 16) (he : e ≤ 4294967296) (hd : d ≤ 16) : ∃ m q : Nat, m = n * base ∧ q = m + d ∧ IntKind.u64.wrap ((n : Int) * (base : Int)) = (m : Int) ∧ IntKind.u64.wrap ((m : Int) + (d : Int)) = (q : Int) := by
  have h1 : n * base ≤ n * 16 := Nat.mul_le_mul_left n hb
  obtain ⟨m, hm⟩ : ∃ m, m = n * base := ⟨_, rfl⟩
  rw [← hm] at h1
  refine ⟨m, m + d, hm, rfl, ?_, ?_⟩
  · rw [show (n : Int) * (base : Int) = (m : Int) from by rw [hm]; exact (Int.natCast_mul n base).symm, IntKind.wrap_u64]; omega
  · rw [IntKind.wrap_u64]; omega
theorem mul_lt (n d base e : Nat) (h : n < e) (hb : base ≤ 16) (he : e ≤ 4294967296) (hd : d ≤ 16) : n * base + d < 18446744073709551616 := by
  have : n * base ≤ n * 16 := Nat.mul_le_mul_left n hb
  omega

def numV (base e : Nat) (l : List UInt8) : Nat := if numOk base e l then valB base l else 0
end Go.Proofs.Ytocdjgehjiolhaa
