import Derived.Test.YtgoiafndapemjaaGreatDoorP05
set_option linter.unusedVariables false
set_option linter.unusedSimpArgs false
set_option maxHeartbeats 1000000
namespace Go.Proofs.YtgoiafndapemjaaGreatDoor
open Go.RowKit
theorem fin_bad {s : ByteArray} {p : Nat} (h : Utf8.decode s p = (65533, 1)) :
  Ending.returned (.tuple #[.int .i64 0, .int .i64 0]) = .returned (.tuple #[.int .i64 ((refR s p).1 : Nat), .int .i64 ((refR s p).2 : Nat)]) := by
 rw [refR_bad h]; rfl
theorem fin_ok {s : ByteArray} {p v k : Nat} {x y : Int} (h : Utf8.decode s p = (v, k)) (hk : v ≠ 65533 ∨ k ≠ 1) (hx : x = (v : Int)) (hy : y = (k : Int)) :
  Ending.returned (.tuple #[.int .i64 x, .int .i64 y]) = .returned (.tuple #[.int .i64 ((refR s p).1 : Nat), .int .i64 ((refR s p).2 : Nat)]) := by
 rw [refR_ok h hk, hx, hy]
def accF (s : ByteArray) (p v0 : Nat) : Nat → Nat
 | 0 => v0
 | j + 1 => accF s p v0 j * 64 + (s.get! (p + (j + 1))).toNat % 64
theorem accF_lt (s : ByteArray) (p v0 : Nat) (h : v0 < 32) : ∀ j, j ≤ 3 → accF s p v0 j < 8388608
 | 0, _ => by simp only [accF]; omega
 | 1, _ => by simp only [accF]; omega
 | 2, _ => by simp only [accF]; omega
 | 3, _ => by simp only [accF]; omega
 | j + 4, h => by omega
theorem sure_byte (s : ByteArray) (p k : Nat) (h : p + k < s.size) : (s.get! (p + k)).toNat = s[p + k].toNat := by rw [get_at s (p + k) h]
set_option maxRecDepth 1000000 in
theorem rune_ascii (s : ByteArray) (p : Nat) (w : World) (hp : p < s.size) (h : (s[p].toNat : Int) < 128) :
  Calls Tryz.prog 44 #[.string s, .int .i64 p] w fun e w' => e = .returned (.tuple #[.int .i64 ((refR s p).1 : Nat), .int .i64 ((refR s p).2 : Nat)]) ∧ w' = w := by
 have HD : Hid (Utf8.decode s p = (s[p].toNat, 1)) := by
  show _ = _
  rw [Lib.decode_at, get_at s p hp]; exact dNT_ascii _ _ _ _ _ (by omega)
 go_enter Tryz.func44, Tryz.ntmps44
 go_wp2
 go_ret2
 exact ⟨fin_ok HD.out (by omega) rfl rfl, rfl⟩
set_option maxRecDepth 1000000 in
theorem rune_lead (s : ByteArray) (p : Nat) (w : World) (hp : p < s.size) (h0 : (s[p].toNat : Int) < 256) (h1 : ¬ (s[p].toNat : Int) < 128) (h2 : (s[p].toNat : Int) < 194 ∨ 245 ≤ (s[p].toNat : Int)) :
  Calls Tryz.prog 44 #[.string s, .int .i64 p] w fun e w' => e = .returned (.tuple #[.int .i64 ((refR s p).1 : Nat), .int .i64 ((refR s p).2 : Nat)]) ∧ w' = w := by
 have HD : Hid (Utf8.decode s p = (65533, 1)) := by
  show _ = _
  rw [Lib.decode_at, get_at s p hp]; exact dN_lead _ _ _ _ _ (by omega) (by omega) (by omega)
 rcases h2 with h2 | h2
 ·go_enter Tryz.func44, Tryz.ntmps44
  go_wp2
  go_ret2
  exact ⟨fin_bad HD.out, rfl⟩
 ·go_enter Tryz.func44, Tryz.ntmps44
  go_wp2
  go_ret2
  exact ⟨fin_bad HD.out, rfl⟩
theorem dec_2_no (s : ByteArray) (p : Nat) (hp : p < s.size) (h1 : 194 ≤ (s[p].toNat : Int)) (h2 : (s[p].toNat : Int) < 224) (h : s.size < p + 2 ∨ ∃ j, 1 ≤ j ∧ j < 2 ∧ ¬ (128 ≤ (s.get! (p + j)).toNat ∧ (s.get! (p + j)).toNat < 192)) : Utf8.decode s p = (65533, 1) := by
 rw [Lib.decode_at, get_at s p hp]
 apply dN_2no _ _ _ _ _ (by omega) (by omega)
 rcases h with h | ⟨j, j1, j2, h⟩
 ·left; omega
 ·right
  match j, j1, j2, h with
  | 1, _, _, h => exact h
  | j + 2, _, j2, _ => omega
theorem dec_2_bad (s : ByteArray) (p : Nat) (hp : p < s.size) (h1 : 194 ≤ (s[p].toNat : Int)) (h2 : (s[p].toNat : Int) < 224) (h : accF s p (s[p].toNat % 32) 1 < 128 ∨ 1114111 < accF s p (s[p].toNat % 32) 1 ∨ (55296 ≤ accF s p (s[p].toNat % 32) 1 ∧ accF s p (s[p].toNat % 32) 1 < 57344)) : Utf8.decode s p = (65533, 1) := by
 rw [Lib.decode_at, get_at s p hp]
 simp only [accF, Nat.zero_add] at h
 exfalso; omega
theorem dec_2_ok (s : ByteArray) (p : Nat) (hp : p < s.size) (h1 : 194 ≤ (s[p].toNat : Int)) (h2 : (s[p].toNat : Int) < 224) (hl : p + 2 ≤ s.size) (hc : ∀ j, 1 ≤ j → j < 2 → 128 ≤ (s.get! (p + j)).toNat ∧ (s.get! (p + j)).toNat < 192)
  (_ha : ¬ accF s p (s[p].toNat % 32) 1 < 128) (_hb : ¬ 1114111 < accF s p (s[p].toNat % 32) 1) (_hd : ¬ (55296 ≤ accF s p (s[p].toNat % 32) 1 ∧ accF s p (s[p].toNat % 32) 1 < 57344)) : Utf8.decode s p = (accF s p (s[p].toNat % 32) 1, 2) := by
 rw [Lib.decode_at, get_at s p hp]
 simp only [accF, Nat.zero_add]
 exact dN_2ok _ _ _ _ _ (by omega) (by omega) (by omega) (hc 1 (by omega) (by omega))
set_option maxRecDepth 1000000 in
theorem rune_2short (s : ByteArray) (p : Nat) (w : World) (hp : p < s.size) (_hs : s.size ≤ 1000000) (h1 : 194 ≤ (s[p].toNat : Int)) (h2 : (s[p].toNat : Int) < 224) (hl : (s.size : Int) < (p : Int) + 2) :
  Calls Tryz.prog 44 #[.string s, .int .i64 p] w fun e w' => e = .returned (.tuple #[.int .i64 ((refR s p).1 : Nat), .int .i64 ((refR s p).2 : Nat)]) ∧ w' = w := by
 have HD := Lib.hid (dec_2_no s p hp h1 h2 (Or.inl (by omega)))
 go_enter Tryz.func44, Tryz.ntmps44
 go_wp2
 go_ret2
 exact ⟨fin_bad HD.out, rfl⟩
set_option maxHeartbeats 2000000 in
set_option maxRecDepth 1000000 in
theorem rune_2long (s : ByteArray) (p : Nat) (w : World) (hp : p < s.size) (hs : s.size ≤ 1000000) (h1 : 194 ≤ (s[p].toNat : Int)) (h2 : (s[p].toNat : Int) < 224) (hl : (p : Int) + 2 ≤ (s.size : Int)) :
  Calls Tryz.prog 44 #[.string s, .int .i64 p] w fun e w' => e = .returned (.tuple #[.int .i64 ((refR s p).1 : Nat), .int .i64 ((refR s p).2 : Nat)]) ∧ w' = w := by
 have d1 : decide ((s[p].toNat : Int) < 128) = false := by simp; omega
 go_enter Tryz.func44, Tryz.ntmps44
 go_wp2
 go_loop [9, 10] (fun t i => ∃ k : Nat, 1 ≤ k ∧ k ≤ 2 ∧ i = .int .i64 k ∧ t = .int .i64 (accF s p (s[p].toNat % 32) (k - 1) : Nat) ∧ Hid (∀ j, 1 ≤ j → j < k → 128 ≤ (s.get! (p + j)).toNat ∧ (s.get! (p + j)).toNat < 192)) (fun _ i => 2 - (intOf i).toNat)
 case atStart => exact ⟨1, Nat.le_refl _, by omega, rfl, by simp [accF], fun j a b => by omega⟩
 case round =>
  obtain ⟨k, hk1, hk2, rfl, rfl, hco⟩ := hrel
  have hx0 := accF_lt s p (s[p].toNat % 32) (by omega) (k - 1) (by omega)
  by_cases hlt : k < 2
  ·have hpk : p + k < s.size := by omega
   have hd0 : (s[p + k].toNat : Int) < 256 := by have := s[p + k].toNat_lt; omega
   have HG := Lib.hid (sure_byte s p k hpk)
   have HA : Hid (accF s p (s[p].toNat % 32) k = accF s p (s[p].toNat % 32) (k - 1) * 64 + s[p + k].toNat % 64) := by
    obtain ⟨j, rfl⟩ : ∃ j, k = j + 1 := ⟨k - 1, by omega⟩
    show _ = _
    rw [Nat.add_sub_cancel]
    simp only [accF]
    rw [HG.out]
   generalize accF s p (s[p].toNat % 32) (k - 1) = x at hx0 HA ⊢
   by_cases hb1 : (s[p + k].toNat : Int) < 128
   ·have HD := Lib.hid (dec_2_no s p hp h1 h2 (Or.inr ⟨k, hk1, hlt, by rw [HG.out]; omega⟩))
    go_wp2
    go_ret2
    exact ⟨fin_bad HD.out, rfl⟩
   ·by_cases hb2 : 192 ≤ (s[p + k].toNat : Int)
    ·have HD := Lib.hid (dec_2_no s p hp h1 h2 (Or.inr ⟨k, hk1, hlt, by rw [HG.out]; omega⟩))
     go_wp2
     go_ret2
     exact ⟨fin_bad HD.out, rfl⟩
    ·go_wp2
     go_round
     case rel =>
      refine ⟨k + 1, by omega, by omega, by go_num, ?_, ?_⟩
      ·rw [Nat.add_sub_cancel, HA.out]; go_num
      ·intro j a b
       by_cases e : j = k
       ·subst e; rw [HG.out]; omega
       ·exact hco.out j a (by omega)
     case measure => simp [intOf]; omega
  ·obtain rfl : k = 2 := by omega
   simp only [Nat.reduceSub] at hx0 ⊢
   have HN := Lib.hid (dec_2_bad s p hp h1 h2)
   have HO := Lib.hid (dec_2_ok s p hp h1 h2 (by omega) hco.out)
   generalize accF s p (s[p].toNat % 32) 1 = x at hx0 HN HO ⊢
   by_cases c1 : (x : Int) < 128
   ·go_wp2
    go_ret2
    exact ⟨fin_bad (HN.out (by omega)), rfl⟩
   ·by_cases c2 : 1114111 < (x : Int)
    ·go_wp2
     go_ret2
     exact ⟨fin_bad (HN.out (by omega)), rfl⟩
    ·by_cases c3 : 55296 ≤ (x : Int)
     ·by_cases c4 : (x : Int) < 57344
      ·go_wp2
       go_ret2
       exact ⟨fin_bad (HN.out (by omega)), rfl⟩
      ·go_wp2
       go_ret2
       exact ⟨fin_ok (HO.out (by omega) (by omega) (by omega)) (by omega) rfl rfl, rfl⟩
     ·go_wp2
      go_ret2
      exact ⟨fin_ok (HO.out (by omega) (by omega) (by omega)) (by omega) rfl rfl, rfl⟩
theorem dec_3_no (s : ByteArray) (p : Nat) (hp : p < s.size) (h1 : 224 ≤ (s[p].toNat : Int)) (h2 : (s[p].toNat : Int) < 240) (h : s.size < p + 3 ∨ ∃ j, 1 ≤ j ∧ j < 3 ∧ ¬ (128 ≤ (s.get! (p + j)).toNat ∧ (s.get! (p + j)).toNat < 192)) : Utf8.decode s p = (65533, 1) := by
 rw [Lib.decode_at, get_at s p hp]
 apply dN_3no _ _ _ _ _ (by omega) (by omega)
 rcases h with h | ⟨j, j1, j2, h⟩
 ·left; omega
 ·right
  match j, j1, j2, h with
  | 1, _, _, h => exact Or.inl h
  | 2, _, _, h => exact Or.inr h
  | j + 3, _, j2, _ => omega
theorem dec_3_bad (s : ByteArray) (p : Nat) (hp : p < s.size) (h1 : 224 ≤ (s[p].toNat : Int)) (h2 : (s[p].toNat : Int) < 240) (h : accF s p (s[p].toNat % 16) 2 < 2048 ∨ 1114111 < accF s p (s[p].toNat % 16) 2 ∨ (55296 ≤ accF s p (s[p].toNat % 16) 2 ∧ accF s p (s[p].toNat % 16) 2 < 57344)) : Utf8.decode s p = (65533, 1) := by
 rw [Lib.decode_at, get_at s p hp]
 simp only [accF, Nat.zero_add, Nat.reduceAdd] at h
 exact dN_3bad _ _ _ _ _ (by omega) (by omega) (by omega)
theorem dec_3_ok (s : ByteArray) (p : Nat) (hp : p < s.size) (h1 : 224 ≤ (s[p].toNat : Int)) (h2 : (s[p].toNat : Int) < 240) (hl : p + 3 ≤ s.size) (hc : ∀ j, 1 ≤ j → j < 3 → 128 ≤ (s.get! (p + j)).toNat ∧ (s.get! (p + j)).toNat < 192)
  (ha : ¬ accF s p (s[p].toNat % 16) 2 < 2048) (_hb : ¬ 1114111 < accF s p (s[p].toNat % 16) 2) (hd : ¬ (55296 ≤ accF s p (s[p].toNat % 16) 2 ∧ accF s p (s[p].toNat % 16) 2 < 57344)) : Utf8.decode s p = (accF s p (s[p].toNat % 16) 2, 3) := by
 rw [Lib.decode_at, get_at s p hp]
 simp only [accF, Nat.zero_add, Nat.reduceAdd] at ha hd ⊢
 exact dN_3ok _ _ _ _ _ (by omega) (by omega) (by omega) (hc 1 (by omega) (by omega)) (hc 2 (by omega) (by omega)) ha hd
set_option maxRecDepth 1000000 in
theorem rune_3short (s : ByteArray) (p : Nat) (w : World) (hp : p < s.size) (_hs : s.size ≤ 1000000) (h1 : 224 ≤ (s[p].toNat : Int)) (h2 : (s[p].toNat : Int) < 240) (hl : (s.size : Int) < (p : Int) + 3) :
  Calls Tryz.prog 44 #[.string s, .int .i64 p] w fun e w' => e = .returned (.tuple #[.int .i64 ((refR s p).1 : Nat), .int .i64 ((refR s p).2 : Nat)]) ∧ w' = w := by
 have HD := Lib.hid (dec_3_no s p hp h1 h2 (Or.inl (by omega)))
 go_enter Tryz.func44, Tryz.ntmps44
 go_wp2
 go_ret2
 exact ⟨fin_bad HD.out, rfl⟩
set_option maxHeartbeats 2000000 in
set_option maxRecDepth 1000000 in
theorem rune_3long (s : ByteArray) (p : Nat) (w : World) (hp : p < s.size) (hs : s.size ≤ 1000000) (h1 : 224 ≤ (s[p].toNat : Int)) (h2 : (s[p].toNat : Int) < 240) (hl : (p : Int) + 3 ≤ (s.size : Int)) :
  Calls Tryz.prog 44 #[.string s, .int .i64 p] w fun e w' => e = .returned (.tuple #[.int .i64 ((refR s p).1 : Nat), .int .i64 ((refR s p).2 : Nat)]) ∧ w' = w := by
 have d1 : decide ((s[p].toNat : Int) < 128) = false := by simp; omega
 have d2 : decide ((s[p].toNat : Int) < 224) = false := by simp; omega
 go_enter Tryz.func44, Tryz.ntmps44
 go_wp2
 go_loop [9, 10] (fun t i => ∃ k : Nat, 1 ≤ k ∧ k ≤ 3 ∧ i = .int .i64 k ∧ t = .int .i64 (accF s p (s[p].toNat % 16) (k - 1) : Nat) ∧ Hid (∀ j, 1 ≤ j → j < k → 128 ≤ (s.get! (p + j)).toNat ∧ (s.get! (p + j)).toNat < 192)) (fun _ i => 3 - (intOf i).toNat)
 case atStart => exact ⟨1, Nat.le_refl _, by omega, rfl, by simp [accF], fun j a b => by omega⟩
 case round =>
  obtain ⟨k, hk1, hk2, rfl, rfl, hco⟩ := hrel
  have hx0 := accF_lt s p (s[p].toNat % 16) (by omega) (k - 1) (by omega)
  by_cases hlt : k < 3
  ·have hpk : p + k < s.size := by omega
   have hd0 : (s[p + k].toNat : Int) < 256 := by have := s[p + k].toNat_lt; omega
   have HG := Lib.hid (sure_byte s p k hpk)
   have HA : Hid (accF s p (s[p].toNat % 16) k = accF s p (s[p].toNat % 16) (k - 1) * 64 + s[p + k].toNat % 64) := by
    obtain ⟨j, rfl⟩ : ∃ j, k = j + 1 := ⟨k - 1, by omega⟩
    show _ = _
    rw [Nat.add_sub_cancel]
    simp only [accF]
    rw [HG.out]
   generalize accF s p (s[p].toNat % 16) (k - 1) = x at hx0 HA ⊢
   by_cases hb1 : (s[p + k].toNat : Int) < 128
   ·have HD := Lib.hid (dec_3_no s p hp h1 h2 (Or.inr ⟨k, hk1, hlt, by rw [HG.out]; omega⟩))
    go_wp2
    go_ret2
    exact ⟨fin_bad HD.out, rfl⟩
   ·by_cases hb2 : 192 ≤ (s[p + k].toNat : Int)
    ·have HD := Lib.hid (dec_3_no s p hp h1 h2 (Or.inr ⟨k, hk1, hlt, by rw [HG.out]; omega⟩))
     go_wp2
     go_ret2
     exact ⟨fin_bad HD.out, rfl⟩
    ·go_wp2
     go_round
     case rel =>
      refine ⟨k + 1, by omega, by omega, by go_num, ?_, ?_⟩
      ·rw [Nat.add_sub_cancel, HA.out]; go_num
      ·intro j a b
       by_cases e : j = k
       ·subst e; rw [HG.out]; omega
       ·exact hco.out j a (by omega)
     case measure => simp [intOf]; omega
  ·obtain rfl : k = 3 := by omega
   simp only [Nat.reduceSub] at hx0 ⊢
   have HN := Lib.hid (dec_3_bad s p hp h1 h2)
   have HO := Lib.hid (dec_3_ok s p hp h1 h2 (by omega) hco.out)
   generalize accF s p (s[p].toNat % 16) 2 = x at hx0 HN HO ⊢
   by_cases c1 : (x : Int) < 2048
   ·go_wp2
    go_ret2
    exact ⟨fin_bad (HN.out (by omega)), rfl⟩
   ·by_cases c2 : 1114111 < (x : Int)
    ·go_wp2
     go_ret2
     exact ⟨fin_bad (HN.out (by omega)), rfl⟩
    ·by_cases c3 : 55296 ≤ (x : Int)
     ·by_cases c4 : (x : Int) < 57344
      ·go_wp2
       go_ret2
       exact ⟨fin_bad (HN.out (by omega)), rfl⟩
      ·go_wp2
       go_ret2
       exact ⟨fin_ok (HO.out (by omega) (by omega) (by omega)) (by omega) rfl rfl, rfl⟩
     ·go_wp2
      go_ret2
      exact ⟨fin_ok (HO.out (by omega) (by omega) (by omega)) (by omega) rfl rfl, rfl⟩
theorem dec_4_no (s : ByteArray) (p : Nat) (hp : p < s.size) (h1 : 240 ≤ (s[p].toNat : Int)) (h2 : (s[p].toNat : Int) < 245) (h : s.size < p + 4 ∨ ∃ j, 1 ≤ j ∧ j < 4 ∧ ¬ (128 ≤ (s.get! (p + j)).toNat ∧ (s.get! (p + j)).toNat < 192)) : Utf8.decode s p = (65533, 1) := by
 rw [Lib.decode_at, get_at s p hp]
 apply dN_4no _ _ _ _ _ (by omega) (by omega)
 rcases h with h | ⟨j, j1, j2, h⟩
 ·left; omega
 ·right
  match j, j1, j2, h with
  | 1, _, _, h => exact Or.inl h
  | 2, _, _, h => exact Or.inr (Or.inl h)
  | 3, _, _, h => exact Or.inr (Or.inr h)
  | j + 4, _, j2, _ => omega
theorem dec_4_bad (s : ByteArray) (p : Nat) (hp : p < s.size) (h1 : 240 ≤ (s[p].toNat : Int)) (h2 : (s[p].toNat : Int) < 245) (h : accF s p (s[p].toNat % 8) 3 < 65536 ∨ 1114111 < accF s p (s[p].toNat % 8) 3 ∨ (55296 ≤ accF s p (s[p].toNat % 8) 3 ∧ accF s p (s[p].toNat % 8) 3 < 57344)) : Utf8.decode s p = (65533, 1) := by
 rw [Lib.decode_at, get_at s p hp]
 simp only [accF, Nat.zero_add, Nat.reduceAdd] at h
 exact dN_4bad _ _ _ _ _ (by omega) (by omega) (by omega)
theorem dec_4_ok (s : ByteArray) (p : Nat) (hp : p < s.size) (h1 : 240 ≤ (s[p].toNat : Int)) (h2 : (s[p].toNat : Int) < 245) (hl : p + 4 ≤ s.size) (hc : ∀ j, 1 ≤ j → j < 4 → 128 ≤ (s.get! (p + j)).toNat ∧ (s.get! (p + j)).toNat < 192)
  (ha : ¬ accF s p (s[p].toNat % 8) 3 < 65536) (hb : ¬ 1114111 < accF s p (s[p].toNat % 8) 3) (_hd : ¬ (55296 ≤ accF s p (s[p].toNat % 8) 3 ∧ accF s p (s[p].toNat % 8) 3 < 57344)) : Utf8.decode s p = (accF s p (s[p].toNat % 8) 3, 4) := by
 rw [Lib.decode_at, get_at s p hp]
 simp only [accF, Nat.zero_add, Nat.reduceAdd] at ha hb ⊢
 exact dN_4ok _ _ _ _ _ (by omega) (by omega) (by omega) (hc 1 (by omega) (by omega)) (hc 2 (by omega) (by omega)) (hc 3 (by omega) (by omega)) ha hb
set_option maxRecDepth 1000000 in
theorem rune_4short (s : ByteArray) (p : Nat) (w : World) (hp : p < s.size) (_hs : s.size ≤ 1000000) (h1 : 240 ≤ (s[p].toNat : Int)) (h2 : (s[p].toNat : Int) < 245) (hl : (s.size : Int) < (p : Int) + 4) :
  Calls Tryz.prog 44 #[.string s, .int .i64 p] w fun e w' => e = .returned (.tuple #[.int .i64 ((refR s p).1 : Nat), .int .i64 ((refR s p).2 : Nat)]) ∧ w' = w := by
 have HD := Lib.hid (dec_4_no s p hp h1 h2 (Or.inl (by omega)))
 go_enter Tryz.func44, Tryz.ntmps44
 go_wp2
 go_ret2
 exact ⟨fin_bad HD.out, rfl⟩
set_option maxHeartbeats 2000000 in
set_option maxRecDepth 1000000 in
theorem rune_4long (s : ByteArray) (p : Nat) (w : World) (hp : p < s.size) (hs : s.size ≤ 1000000) (h1 : 240 ≤ (s[p].toNat : Int)) (h2 : (s[p].toNat : Int) < 245) (hl : (p : Int) + 4 ≤ (s.size : Int)) :
  Calls Tryz.prog 44 #[.string s, .int .i64 p] w fun e w' => e = .returned (.tuple #[.int .i64 ((refR s p).1 : Nat), .int .i64 ((refR s p).2 : Nat)]) ∧ w' = w := by
 have d1 : decide ((s[p].toNat : Int) < 128) = false := by simp; omega
 have d2 : decide ((s[p].toNat : Int) < 224) = false := by simp; omega
 have d3 : decide ((s[p].toNat : Int) < 240) = false := by simp; omega
 go_enter Tryz.func44, Tryz.ntmps44
 go_wp2
 go_loop [9, 10] (fun t i => ∃ k : Nat, 1 ≤ k ∧ k ≤ 4 ∧ i = .int .i64 k ∧ t = .int .i64 (accF s p (s[p].toNat % 8) (k - 1) : Nat) ∧ Hid (∀ j, 1 ≤ j → j < k → 128 ≤ (s.get! (p + j)).toNat ∧ (s.get! (p + j)).toNat < 192)) (fun _ i => 4 - (intOf i).toNat)
 case atStart => exact ⟨1, Nat.le_refl _, by omega, rfl, by simp [accF], fun j a b => by omega⟩
 case round =>
  obtain ⟨k, hk1, hk2, rfl, rfl, hco⟩ := hrel
  have hx0 := accF_lt s p (s[p].toNat % 8) (by omega) (k - 1) (by omega)
  by_cases hlt : k < 4
  ·have hpk : p + k < s.size := by omega
   have hd0 : (s[p + k].toNat : Int) < 256 := by have := s[p + k].toNat_lt; omega
   have HG := Lib.hid (sure_byte s p k hpk)
   have HA : Hid (accF s p (s[p].toNat % 8) k = accF s p (s[p].toNat % 8) (k - 1) * 64 + s[p + k].toNat % 64) := by
    obtain ⟨j, rfl⟩ : ∃ j, k = j + 1 := ⟨k - 1, by omega⟩
    show _ = _
    rw [Nat.add_sub_cancel]
    simp only [accF]
    rw [HG.out]
   generalize accF s p (s[p].toNat % 8) (k - 1) = x at hx0 HA ⊢
   by_cases hb1 : (s[p + k].toNat : Int) < 128
   ·have HD := Lib.hid (dec_4_no s p hp h1 h2 (Or.inr ⟨k, hk1, hlt, by rw [HG.out]; omega⟩))
    go_wp2
    go_ret2
    exact ⟨fin_bad HD.out, rfl⟩
   ·by_cases hb2 : 192 ≤ (s[p + k].toNat : Int)
    ·have HD := Lib.hid (dec_4_no s p hp h1 h2 (Or.inr ⟨k, hk1, hlt, by rw [HG.out]; omega⟩))
     go_wp2
     go_ret2
     exact ⟨fin_bad HD.out, rfl⟩
    ·go_wp2
     go_round
     case rel =>
      refine ⟨k + 1, by omega, by omega, by go_num, ?_, ?_⟩
      ·rw [Nat.add_sub_cancel, HA.out]; go_num
      ·intro j a b
       by_cases e : j = k
       ·subst e; rw [HG.out]; omega
       ·exact hco.out j a (by omega)
     case measure => simp [intOf]; omega
  ·obtain rfl : k = 4 := by omega
   simp only [Nat.reduceSub] at hx0 ⊢
   have HN := Lib.hid (dec_4_bad s p hp h1 h2)
   have HO := Lib.hid (dec_4_ok s p hp h1 h2 (by omega) hco.out)
   generalize accF s p (s[p].toNat % 8) 3 = x at hx0 HN HO ⊢
   by_cases c1 : (x : Int) < 65536
   ·go_wp2
    go_ret2
    exact ⟨fin_bad (HN.out (by omega)), rfl⟩
   ·by_cases c2 : 1114111 < (x : Int)
    ·go_wp2
     go_ret2
     exact ⟨fin_bad (HN.out (by omega)), rfl⟩
    ·by_cases c3 : 55296 ≤ (x : Int)
     ·by_cases c4 : (x : Int) < 57344
      ·go_wp2
       go_ret2
       exact ⟨fin_bad (HN.out (by omega)), rfl⟩
      ·go_wp2
       go_ret2
       exact ⟨fin_ok (HO.out (by omega) (by omega) (by omega)) (by omega) rfl rfl, rfl⟩
     ·go_wp2
      go_ret2
      exact ⟨fin_ok (HO.out (by omega) (by omega) (by omega)) (by omega) rfl rfl, rfl⟩
theorem rune_any (s : ByteArray) (p : Nat) (w : World) (hp : p < s.size) (hs : s.size ≤ 1000000) :
  Calls Tryz.prog 44 #[.string s, .int .i64 p] w fun e w' => e = .returned (.tuple #[.int .i64 ((refR s p).1 : Nat), .int .i64 ((refR s p).2 : Nat)]) ∧ w' = w := by
 have h0 : (s[p].toNat : Int) < 256 := by have := s[p].toNat_lt; omega
 by_cases h1 : (s[p].toNat : Int) < 128
 ·exact rune_ascii s p w hp h1
 ·by_cases h2 : (s[p].toNat : Int) < 194
  ·exact rune_lead s p w hp h0 h1 (Or.inl h2)
  ·by_cases h3 : (s[p].toNat : Int) < 224
   ·by_cases hl : (p : Int) + 2 ≤ (s.size : Int)
    ·exact rune_2long s p w hp hs (by omega) h3 hl
    ·exact rune_2short s p w hp hs (by omega) h3 (by omega)
   ·by_cases h4 : (s[p].toNat : Int) < 240
    ·by_cases hl : (p : Int) + 3 ≤ (s.size : Int)
     ·exact rune_3long s p w hp hs (by omega) h4 hl
     ·exact rune_3short s p w hp hs (by omega) h4 (by omega)
    ·by_cases h5 : (s[p].toNat : Int) < 245
     ·by_cases hl : (p : Int) + 4 ≤ (s.size : Int)
      ·exact rune_4long s p w hp hs (by omega) h5 hl
      ·exact rune_4short s p w hp hs (by omega) h5 (by omega)
     ·exact rune_lead s p w hp h0 h1 (Or.inr (by omega))
theorem below_of_grown {w0 w w' : World} {B base : Nat} {e : TypeId} {k n : Nat} {v : Value} {xs : List Value} (hb : Below B w0 w) (hown : w.ownsRow base e k v n xs) (hB : B ≤ base) (hs : B ≤ w.heap.size) (hg : w.grownBy w' v.ownBlock) : Below B w0 w' := by
 refine hb.grown hg hs fun j hj => ?_
 rcases hown.2 with ⟨rfl, _⟩ | ⟨g, cap, cur, rfl, hg', _⟩
 ·simp [Value.ownBlock] at hj
 ·simp [Value.ownBlock] at hj; omega
theorem rune_no (s : ByteArray) (p : Nat) (w : World) (hp : p < s.size) (hs : s.size ≤ 1000000) (h : badAt s p = true) :
  Calls Tryz.prog 44 #[.string s, .int .i64 p] w fun e w' => e = .returned (.tuple #[.int .i64 0, .int .i64 0]) ∧ w' = w := by
 have := rune_any s p w hp hs
 rw [refR_of_bad h] at this; exact this
theorem rune_ok (s : ByteArray) (p : Nat) (w : World) (hp : p < s.size) (hs : s.size ≤ 1000000) (h : badAt s p = false) :
  Calls Tryz.prog 44 #[.string s, .int .i64 p] w fun e w' => e = .returned (.tuple #[.int .i64 ((Utf8.decode s p).1 : Nat), .int .i64 ((Utf8.decode s p).2 : Nat)]) ∧ w' = w := by
 have := rune_any s p w hp hs
 rw [refR_of_ok h] at this; exact this
theorem info3 : (Tryz.prog.info? 3).map (fun i => (i.zero, i.size, i.bytes)) = some (some (.int .i64 0), 1, 8) := by kernel_rfl
def nums (l : List Nat) : List Value := l.map fun r => .int .i64 (r : Nat)
set_option maxHeartbeats 2000000 in
set_option maxRecDepth 1000000 in
theorem runes_any (s : ByteArray) (w : World) (hs : s.size ≤ 1000000) :
  Calls Tryz.prog 17 #[.string s] w fun e w' => (vld s = false ∧ e = .returned (.tuple #[.slice none 0 0, .bool false]) ∧ Below w.heap.size w w') ∨ (vld s = true ∧ ∃ v, e = .returned (.tuple #[v, .bool true]) ∧ w'.ownsRow w.heap.size 3 1 v (runesOf s).length (nums (runesOf s)) ∧ Below w.heap.size w w') := by
 obtain ⟨i0, hi, hz0, hz1, hz2⟩ := info_parts info3
 go_enter Tryz.func17, Tryz.ntmps17
 go_wp2
 go_loopw [4, 5] (fun v i wr => ∃ (pos b : Nat) (acc : List Nat), i = .int .i64 pos ∧ wr.ownsRow w.heap.size 3 1 v acc.length (nums acc) ∧ Below w.heap.size w wr ∧ Hid (vldFrom s b pos = vld s) ∧ Hid (acc ++ runesFrom s b pos = runesOf s) ∧ s.size ≤ pos + b ∧ acc.length ≤ pos ∧ pos ≤ s.size) (fun _ i _ => s.size - (intOf i).toNat)
 case atStart => exact ⟨0, s.size, [], rfl, ⟨rfl, Or.inr ⟨w.heap.size, 0, #[], rfl, Nat.le_refl _, heap_alloc_new w _, Nat.le_refl _, Nat.zero_le _, rfl, rfl⟩⟩, (Below.refl _ _).alloc (Nat.le_refl _) _, rfl, rfl, by omega, Nat.le_refl _, Nat.zero_le _⟩
 case round =>
  obtain ⟨pos, b, acc, rfl, hown, hbl, hv, hr, hb, ha, hps⟩ := hrel
  by_cases hp : pos < s.size
  ·obtain ⟨b, rfl⟩ : ∃ b', b = b' + 1 := ⟨b - 1, by omega⟩
   have hwd := Lib.decode_width_pos s pos hp
   have hft := decode_fits s pos hp
   have hle := decode_le s pos
   have hsz := hbl.size
   have HO := Lib.hid hown; have HB := Lib.hid hbl
   clear hown hbl
   cases hbd : badAt s pos with
   | true =>
    have HV : Hid (vld s = false) := by show _ = _; rw [← hv.out, vldFrom_bad s b pos hp hbd]
    have HD := Lib.hid hbd
    clear hbd
    go_wp2_with (go_at_call 44; refine (rune_no s pos _ hp hs HD.out).mono ?_; rintro e w' ⟨rfl, rfl⟩)
    go_ret2
    exact Or.inl ⟨HV.out, rfl, HB.out⟩
   | false =>
    have HV : Hid (vldFrom s b (pos + (Utf8.decode s pos).2) = vld s) := by show _ = _; rw [← hv.out, vldFrom_step s b pos hp hbd]
    have HR : Hid ((acc ++ [(Utf8.decode s pos).1]) ++ runesFrom s b (pos + (Utf8.decode s pos).2) = runesOf s) := by
     show _ = _; rw [← hr.out, runesFrom_step s b pos hp, List.append_assoc]; rfl
    have HD := Lib.hid hbd
    have hne : (((Utf8.decode s pos).2 : Int) == 0) = false := by rw [beq_eq_false_iff_ne]; omega
    clear hbd hv hr
    go_wp2_with (first
     | (go_at_call 44; refine (rune_ok s pos _ hp hs HD.out).mono ?_; rintro e wr ⟨rfl, rfl⟩)
     | (at_builtin; refine wpList_append_own _ rfl _ _ 48 rfl w.heap.size 3 i0 (.int .i64 0) 1 8 Tryz.underlying48 hi hz0 hz1 hz2 rfl (by decide) _ _ _ rfl (HO.out.alloc _) ⟨wr.heap.size, 0, none⟩ 1 1 [.int .i64 ((Utf8.decode s pos).1 : Nat)] rfl rfl (cell_one_new _ _ _) ?c2 ?c3 ?c4 ?c5 ?_))
    case c2 => intro u hu; simp at hu; subst hu; rfl
    case c3 => unfold maxLen; omega
    case c4 => omega
    case c5 => simp; omega
    intro v' w3 hown' hgrow _
    have hb3 : Hid (Below w.heap.size w w3) := below_of_grown (HB.out.alloc (by omega) _) (HO.out.alloc _) (Nat.le_refl _) (by simp; omega) hgrow
    have ho3 : Hid (w3.ownsRow w.heap.size 3 1 v' (acc ++ [(Utf8.decode s pos).1]).length (nums (acc ++ [(Utf8.decode s pos).1]))) := by
     show World.ownsRow _ _ _ _ _ _ _
     simpa [nums] using hown'
    clear hown' hgrow HO HB
    go_wp2
    go_roundw
    case rel =>
     refine ⟨pos + (Utf8.decode s pos).2, b, acc ++ [(Utf8.decode s pos).1], by go_num, ho3.out, hb3.out, HV, HR, by omega, ?_, by omega⟩
     rw [List.length_append]; simp; omega
    case measure => simp [intOf]; omega
  ·have HO := Lib.hid hown; have HB := Lib.hid hbl
   clear hown hbl
   go_wp2
   go_ret2
   have hv2 := hv.out
   rw [vldFrom_end s b pos hp] at hv2
   have hr2 := hr.out
   rw [runesFrom_end s b pos hp, List.append_nil] at hr2
   refine Or.inr ⟨hv2.symm, _, rfl, ?_, HB.out⟩
   rw [← hr2]; exact HO.out
theorem runes_no (s : ByteArray) (w : World) (hs : s.size ≤ 1000000) (h : vld s = false) :
  Calls Tryz.prog 17 #[.string s] w fun e w' => e = .returned (.tuple #[.slice none 0 0, .bool false]) ∧ Below w.heap.size w w' := by
 refine (runes_any s w hs).mono ?_
 rintro e w' (⟨_, he, hb⟩ | ⟨hv, _⟩)
 ·exact ⟨he, hb⟩
 ·rw [h] at hv; simp at hv
theorem runes_ok (s : ByteArray) (w : World) (hs : s.size ≤ 1000000) (h : vld s = true) :
  Calls Tryz.prog 17 #[.string s] w fun e w' => ∃ v, e = .returned (.tuple #[v, .bool true]) ∧ w'.ownsRow w.heap.size 3 1 v (runesOf s).length (nums (runesOf s)) ∧ Below w.heap.size w w' := by
 refine (runes_any s w hs).mono ?_
 rintro e w' (⟨hv, _⟩ | ⟨_, hx⟩)
 ·rw [h] at hv; simp at hv
 ·exact hx
end Go.Proofs.YtgoiafndapemjaaGreatDoor
