
/- The padded bytes of the reference, and that their digest is sha: plain mathematics. -/
import Derived.Test.YtggbianodoneeaaDoorOf
namespace Go.Proofs.YtggbianodoneeaaDoor
open Go.RowKit

def sizeB (n : Nat) : List UInt8 := bytesOf (hiW n) ++ bytesOf (loW n)
theorem sizeB_len (n : Nat) : (sizeB n).length = 8 := rfl
def padZ (n : Nat) : Nat := (119 - n % 64) % 64
def padTo (l : List UInt8) (k : Nat) : List UInt8 := l ++ (128 :: zer k)
def pad (l : List UInt8) : List UInt8 := padTo l (padZ l.length) ++ sizeB l.length
theorem padTo_len (l : List UInt8) (k : Nat) : (padTo l k).length = l.length + 1 + k := by
  simp [padTo, zer]; omega
theorem padTo_succ (l : List UInt8) (k : Nat) : padTo l (k + 1) = padTo l k ++ [0] := by
  unfold padTo zer
  rw [List.replicate_succ']
  simp
theorem pad_len (l : List UInt8) : (pad l).length = l.length + 9 + padZ l.length := by
  unfold pad; rw [List.length_append, padTo_len, sizeB_len]; omega
theorem pad_mod (l : List UInt8) : (pad l).length % 64 = 0 := by rw [pad_len]; unfold padZ; omega
theorem set_rest (t : List UInt8) (r : Nat) (hr : t.length = r) (h : r < 64) : (t ++ zer (64 - r)).set r 128 = t ++ (128 :: zer (63 - r)) := by
  rw [List.set_append_right _ _ (by omega), hr, Nat.sub_self]
  obtain ⟨m, hm⟩ : ∃ m, 64 - r = m + 1 := ⟨63 - r, by omega⟩
  rw [hm, show 63 - r = m from by omega]
  rfl
theorem zer_take (a b : Nat) (h : b ≤ a) : (zer a).take b = zer b := by
  unfold zer; rw [List.take_replicate]; congr 1; omega
theorem zer_cut (a b : Nat) (h : b ≤ a) : zer a = zer b ++ zer (a - b) := by
  unfold zer; rw [List.replicate_append_replicate]; congr 1; omega
/-- The padded bytes, block by block, end in Sum's digest. -/
theorem pad_sha (l : List UInt8) (k : Nat) (hk : k = (pad l).length / 64) : dig (stTo (pad l) k) = sha l := by
  subst hk
  have hp : pad l = l ++ ((128 :: zer (padZ l.length)) ++ sizeB l.length) := by simp [pad, padTo]
  have ht := tail_len l
  have hd : (pad l).drop (64 * (l.length / 64)) = tailOf l ++ ((128 :: zer (padZ l.length)) ++ sizeB l.length) := by
    rw [hp, List.drop_append_of_le_length (by omega)]; rfl
  have hs : stTo (pad l) (l.length / 64) = stOf l := by rw [hp, stTo_app l _ _ (by omega)]; rfl
  unfold sha fin
  by_cases h : 56 ≤ l.length % 64
  · rw [if_pos h]
    have hz : padZ l.length = 119 - l.length % 64 := by unfold padZ; omega
    have hn : (pad l).length / 64 = l.length / 64 + 1 + 1 := by rw [pad_len, hz]; omega
    have e : tailOf l ++ ((128 :: zer (padZ l.length)) ++ sizeB l.length) = (tailOf l ++ (128 :: zer (63 - l.length % 64))) ++ (zer 56 ++ sizeB l.length) := by
      rw [hz, zer_cut (119 - l.length % 64) (63 - l.length % 64) (by omega), show 119 - l.length % 64 - (63 - l.length % 64) = 56 from by omega]
      simp
    have hl : (tailOf l ++ (128 :: zer (63 - l.length % 64))).length = 64 := by simp [zer]; omega
    have b1 : blk (pad l) (l.length / 64) = tailOf l ++ (128 :: zer (63 - l.length % 64)) := by
      unfold blk; rw [hd, e, List.take_append_of_le_length (by omega), List.take_of_length_le (by omega)]
    have b2 : blk (pad l) (l.length / 64 + 1) = zer 56 ++ sizeB l.length := by
      unfold blk
      rw [Nat.mul_add, ← List.drop_drop, hd, e, show 64 * 1 = (tailOf l ++ (128 :: zer (63 - l.length % 64))).length from hl.symm, List.drop_left]
      exact List.take_of_length_le (by rw [List.length_append, zer_len, sizeB_len]; omega)
    rw [hn, stTo, stTo, hs, b1, b2]
    unfold restOf lastOf
    rw [set_rest (tailOf l) _ ht (by omega), zer_take 64 56 (by omega)]
    rfl
  · rw [if_neg h]
    have hz : padZ l.length = 55 - l.length % 64 := by unfold padZ; omega
    have hn : (pad l).length / 64 = l.length / 64 + 1 := by rw [pad_len, hz]; omega
    have b1 : blk (pad l) (l.length / 64) = (tailOf l ++ (128 :: zer (55 - l.length % 64))) ++ sizeB l.length := by
      unfold blk
      rw [hd, hz, List.take_of_length_le (by simp [zer, sizeB_len]; omega)]
      simp
    rw [hn, stTo, hs, b1]
    unfold restOf lastOf
    rw [set_rest (tailOf l) _ ht (by omega)]
    have e : (tailOf l ++ (128 :: zer (63 - l.length % 64))).take 56 = tailOf l ++ (128 :: zer (55 - l.length % 64)) := by
      rw [zer_cut (63 - l.length % 64) (55 - l.length % 64) (by omega), show tailOf l ++ (128 :: (zer (55 - l.length % 64) ++ zer (63 - l.length % 64 - (55 - l.length % 64)))) = (tailOf l ++ (128 :: zer (55 - l.length % 64))) ++ zer (63 - l.length % 64 - (55 - l.length % 64)) from by simp]
      have hl : (tailOf l ++ (128 :: zer (55 - l.length % 64))).length = 56 := by simp [zer]; omega
      rw [List.take_append_of_le_length (by omega), List.take_of_length_le (by omega)]
    rw [e]
    rfl
/-- The size's bytes, the highest first. -/
theorem sizeB_at (n j : Nat) (hj : j < 8) (hn : n ≤ 1000000) : ((sizeB n).getD j 0).toNat = n * 8 / 2 ^ (8 * (7 - j)) % 256 := by
  have h1 : (hiW n).toNat = n * 8 / 4294967296 := by unfold hiW; rw [u_of _ (by omega)]
  have h2 : (loW n).toNat = n * 8 := by unfold loW; rw [u_of _ (by omega)]
  match j, hj with
  | 0, _ => show (UInt8.ofNat ((hiW n).toNat / 16777216)).toNat = _; rw [h1, UInt8.toNat_ofNat']; simp; omega
  | 1, _ => show (UInt8.ofNat ((hiW n).toNat / 65536)).toNat = _; rw [h1, UInt8.toNat_ofNat']; simp; omega
  | 2, _ => show (UInt8.ofNat ((hiW n).toNat / 256)).toNat = _; rw [h1, UInt8.toNat_ofNat']; simp; omega
  | 3, _ => show (UInt8.ofNat ((hiW n).toNat)).toNat = _; rw [h1, UInt8.toNat_ofNat']; try simp
  | 4, _ => show (UInt8.ofNat ((loW n).toNat / 16777216)).toNat = _; rw [h2, UInt8.toNat_ofNat']; try simp
  | 5, _ => show (UInt8.ofNat ((loW n).toNat / 65536)).toNat = _; rw [h2, UInt8.toNat_ofNat']; try simp
  | 6, _ => show (UInt8.ofNat ((loW n).toNat / 256)).toNat = _; rw [h2, UInt8.toNat_ofNat']; try simp
  | 7, _ => show (UInt8.ofNat ((loW n).toNat)).toNat = _; rw [h2, UInt8.toNat_ofNat']; simp
end Go.Proofs.YtggbianodoneeaaDoor
