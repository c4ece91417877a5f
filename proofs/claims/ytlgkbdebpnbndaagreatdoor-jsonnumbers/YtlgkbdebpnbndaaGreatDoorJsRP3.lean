
/- Runes of a text; the reference's words and Parse; a list that is too deep. -/
import Derived.Test.YtlgkbdebpnbndaaGreatDoorTxCheck
import Derived.Test.YtlgkbdebpnbndaaGreatDoorJsRP2
import Derived.Test.YtlgkbdebpnbndaaGreatDoorJsParse
import Derived.Deep.RegionLaw
namespace Go.Proofs.YtlgkbdebpnbndaaGreatDoor
set_option linter.unusedVariables false
set_option linter.unusedSimpArgs false
open Go.RowKit

theorem fin_bad {s : ByteArray} {p : Nat} (h : Utf8.decode s p = (65533, 1)) :
    Ending.returned (.tuple #[.int .i64 0, .int .i64 0]) = .returned (.tuple #[.int .i64 ((refR s p).1 : Nat), .int .i64 ((refR s p).2 : Nat)]) := by
  rw [refR_bad h]; rfl
theorem fin_ok {s : ByteArray} {p v k : Nat} {x y : Int} (h : Utf8.decode s p = (v, k)) (hk : v ≠ 65533 ∨ k ≠ 1) (hx : x = (v : Int)) (hy : y = (k : Int)) :
    Ending.returned (.tuple #[.int .i64 x, .int .i64 y]) = .returned (.tuple #[.int .i64 ((refR s p).1 : Nat), .int .i64 ((refR s p).2 : Nat)]) := by
  rw [refR_ok h hk, hx, hy]

/-- The value behind so many bytes more. -/
def accF (s : ByteArray) (p v0 : Nat) : Nat → Nat
  | 0 => v0
  | j + 1 => accF s p v0 j * 64 + (s.get! (p + (j + 1))).toNat % 64
theorem accF_lt (s : ByteArray) (p v0 : Nat) (h : v0 < 32) : ∀ j, j ≤ 3 → accF s p v0 j < 8388608
  | 0, _ => by simp only [accF]; omega
  | 1, _ => by simp only [accF]; omega
  | 2, _ => by simp only [accF]; omega
  | 3, _ => by simp only [accF]; omega
  | j + 4, h => by omega
theorem sure_byte (s : ByteArray) (p k : Nat) (h : p + k < s.size) : (s.get! (p + k)).toNat = s[p + k].toNat := by rw [get_at s (p + k) h]

set_option maxHeartbeats 1000000 in
set_option maxRecDepth 1000000 in
theorem rune_ascii (s : ByteArray) (p : Nat) (w : World) (hp : p < s.size) (h : (s[p].toNat : Int) < 128) :
    Calls Tryz.prog 95 #[.string s, .int .i64 p] w fun e w' => e = .returned (.tuple #[.int .i64 ((refR s p).1 : Nat), .int .i64 ((refR s p).2 : Nat)]) ∧ w' = w := by
  have HD : Hid (Utf8.decode s p = (s[p].toNat, 1)) := by
    show _ = _
    rw [Lib.decode_at, get_at s p hp]; exact dNT_ascii _ _ _ _ _ (by omega)
  go_enter Tryz.func95, Tryz.ntmps95
  go_wp2
  go_ret2
  exact ⟨fin_ok HD.out (by omega) rfl rfl, rfl⟩

set_option maxHeartbeats 1000000 in
set_option maxRecDepth 1000000 in
theorem rune_lead (s : ByteArray) (p : Nat) (w : World) (hp : p < s.size) (h0 : (s[p].toNat : Int) < 256) (h1 : ¬ (s[p].toNat : Int) < 128) (h2 : (s[p].toNat : Int) < 194 ∨ 245 ≤ (s[p].toNat : Int)) :
    Calls Tryz.prog 95 #[.string s, .int .i64 p] w fun e w' => e = .returned (.tuple #[.int .i64 ((refR s p).1 : Nat), .int .i64 ((refR s p).2 : Nat)]) ∧ w' = w := by
  have HD : Hid (Utf8.decode s p = (65533, 1)) := by
    show _ = _
    rw [Lib.decode_at, get_at s p hp]; exact dN_lead _ _ _ _ _ (by omega) (by omega) (by omega)
  rcases h2 with h2 | h2
  · go_enter Tryz.func95, Tryz.ntmps95
    go_wp2
    go_ret2
    exact ⟨fin_bad HD.out, rfl⟩
  · go_enter Tryz.func95, Tryz.ntmps95
    go_wp2
    go_ret2
    exact ⟨fin_bad HD.out, rfl⟩

theorem dec_2_no (s : ByteArray) (p : Nat) (hp : p < s.size) (h1 : 194 ≤ (s[p].toNat : Int)) (h2 : (s[p].toNat : Int) < 224) (h : s.size < p + 2 ∨ ∃ j, 1 ≤ j ∧ j < 2 ∧ ¬ (128 ≤ (s.get! (p + j)).toNat ∧ (s.get! (p + j)).toNat < 192)) : Utf8.decode s p = (65533, 1) := by
  rw [Lib.decode_at, get_at s p hp]
  apply dN_2no _ _ _ _ _ (by omega) (by omega)
  rcases h with h | ⟨j, j1, j2, h⟩
  · left; omega
  · right
    match j, j1, j2, h with
    | 1, _, _, h => exact h
    | j + 2, _, j2, _ => omega
theorem dec_2_bad (s : ByteArray) (p : Nat) (hp : p < s.size) (h1 : 194 ≤ (s[p].toNat : Int)) (h2 : (s[p].toNat : Int) < 224) (h : accF s p (s[p].toNat % 32) 1 < 128 ∨ 1114111 < accF s p (s[p].toNat % 32) 1 ∨ (55296 ≤ accF s p (s[p].toNat % 32) 1 ∧ accF s p (s[p].toNat % 32) 1 < 57344)) : Utf8.decode s p = (65533, 1) := by
  rw [Lib.decode_at, get_at s p hp]
  simp only [accF, Nat.zero_add] at h
  exfalso; omega
theorem dec_2_ok (s : ByteArray) (p : Nat) (hp : p < s.size) (h1 : 194 ≤ (s[p].toNat : Int)) (h2 : (s[p].toNat : Int) < 224) (hl : p + 2 ≤ s.size) (hc : ∀ j, 1 ≤ j → j < 2 → 128 ≤ (s.get! (p + j)).toNat ∧ (s.get! (p + j)).toNat < 192)
    (_ha : ¬ accF s p (s[p].toNat % 32) 1 < 128) (_hb : ¬ 1114111 < accF s p (s[p].toNat % 32) 1) (_hd : ¬ (55296 ≤ accF s p (s[p].toNat % 32) 1 ∧ accF s p (s[p].toNat % 32) 1 < 57344)) : Utf8.decode s p = (accF s p (s[p].toNat % 32) 1, 2) := by
  rw [Lib.decode_at, get_at s p hp]
  simp only [accF, Nat.zero_add]
  exact dN_2ok _ _ _ _ _ (by omega) (by omega) (by omega) (hc 1 (by omega) (by omega))

set_option maxHeartbeats 1000000 in
set_option maxRecDepth 1000000 in
theorem rune_2short (s : ByteArray) (p : Nat) (w : World) (hp : p < s.size) (_hs : s.size ≤ 1000000) (h1 : 194 ≤ (s[p].toNat : Int)) (h2 : (s[p].toNat : Int) < 224) (hl : (s.size : Int) < (p : Int) + 2) :
    Calls Tryz.prog 95 #[.string s, .int .i64 p] w fun e w' => e = .returned (.tuple #[.int .i64 ((refR s p).1 : Nat), .int .i64 ((refR s p).2 : Nat)]) ∧ w' = w := by
  have HD := Lib.hid (dec_2_no s p hp h1 h2 (Or.inl (by omega)))
  go_enter Tryz.func95, Tryz.ntmps95
  go_wp2
  go_ret2
  exact ⟨fin_bad HD.out, rfl⟩

set_option maxHeartbeats 2000000 in
set_option maxRecDepth 1000000 in
theorem rune_2long (s : ByteArray) (p : Nat) (w : World) (hp : p < s.size) (hs : s.size ≤ 1000000) (h1 : 194 ≤ (s[p].toNat : Int)) (h2 : (s[p].toNat : Int) < 224) (hl : (p : Int) + 2 ≤ (s.size : Int)) :
    Calls Tryz.prog 95 #[.string s, .int .i64 p] w fun e w' => e = .returned (.tuple #[.int .i64 ((refR s p).1 : Nat), .int .i64 ((refR s p).2 : Nat)]) ∧ w' = w := by
  have d1 : decide ((s[p].toNat : Int) < 128) = false := by simp; omega
  go_enter Tryz.func95, Tryz.ntmps95
  go_wp2
  go_loop [9, 10] (fun t i => ∃ k : Nat, 1 ≤ k ∧ k ≤ 2 ∧ i = .int .i64 k ∧ t = .int .i64 (accF s p (s[p].toNat % 32) (k - 1) : Nat) ∧ Hid (∀ j, 1 ≤ j → j < k → 128 ≤ (s.get! (p + j)).toNat ∧ (s.get! (p + j)).toNat < 192)) (fun _ i => 2 - (intOf i).toNat)
  case atStart => exact ⟨1, Nat.le_refl _, by omega, rfl, by simp [accF], fun j a b => by omega⟩
  case round =>
    obtain ⟨k, hk1, hk2, rfl, rfl, hco⟩ := hrel
    have hx0 := accF_lt s p (s[p].toNat % 32) (by omega) (k - 1) (by omega)
    by_cases hlt : k < 2
    · have hpk : p + k < s.size := by omega
      have hd0 : (s[p + k].toNat : Int) < 256 := by have := s[p + k].toNat_lt; omega
      have HG := Lib.hid (sure_byte s p k hpk)
      have HA : Hid (accF s p (s[p].toNat % 32) k = accF s p (s[p].toNat % 32) (k - 1) * 64 + s[p + k].toNat % 64) := by
        obtain ⟨j, rfl⟩ : ∃ j, k = j + 1 := ⟨k - 1, by omega⟩
        show _ = _
        rw [Nat.add_sub_cancel]
        simp only [accF]
        rw [HG.out]
      generalize accF s p (s[p].toNat % 32) (k - 1) = x at hx0 HA ⊢
      by_cases hb1 : (s[p + k].toNat : Int) < 128
      · have HD := Lib.hid (dec_2_no s p hp h1 h2 (Or.inr ⟨k, hk1, hlt, by rw [HG.out]; omega⟩))
        go_wp2
        go_ret2
        exact ⟨fin_bad HD.out, rfl⟩
      · by_cases hb2 : 192 ≤ (s[p + k].toNat : Int)
        · have HD := Lib.hid (dec_2_no s p hp h1 h2 (Or.inr ⟨k, hk1, hlt, by rw [HG.out]; omega⟩))
          go_wp2
          go_ret2
          exact ⟨fin_bad HD.out, rfl⟩
        · go_wp2
          go_round
          case rel =>
            refine ⟨k + 1, by omega, by omega, by go_num, ?_, ?_⟩
            · rw [Nat.add_sub_cancel, HA.out]; go_num
            · intro j a b
              by_cases e : j = k
              · subst e; rw [HG.out]; omega
              · exact hco.out j a (by omega)
          case measure => simp [intOf]; omega
    · obtain rfl : k = 2 := by omega
      simp only [Nat.reduceSub] at hx0 ⊢
      have HN := Lib.hid (dec_2_bad s p hp h1 h2)
      have HO := Lib.hid (dec_2_ok s p hp h1 h2 (by omega) hco.out)
      generalize accF s p (s[p].toNat % 32) 1 = x at hx0 HN HO ⊢
      by_cases c1 : (x : Int) < 128
      · go_wp2
        go_ret2
        exact ⟨fin_bad (HN.out (by omega)), rfl⟩
      · by_cases c2 : 1114111 < (x : Int)
        · go_wp2
          go_ret2
          exact ⟨fin_bad (HN.out (by omega)), rfl⟩
        · by_cases c3 : 55296 ≤ (x : Int)
          · by_cases c4 : (x : Int) < 57344
            · go_wp2
              go_ret2
              exact ⟨fin_bad (HN.out (by omega)), rfl⟩
            · go_wp2
              go_ret2
              exact ⟨fin_ok (HO.out (by omega) (by omega) (by omega)) (by omega) rfl rfl, rfl⟩
          · go_wp2
            go_ret2
            exact ⟨fin_ok (HO.out (by omega) (by omega) (by omega)) (by omega) rfl rfl, rfl⟩

theorem dec_3_no (s : ByteArray) (p : Nat) (hp : p < s.size) (h1 : 224 ≤ (s[p].toNat : Int)) (h2 : (s[p].toNat : Int) < 240) (h : s.size < p + 3 ∨ ∃ j, 1 ≤ j ∧ j < 3 ∧ ¬ (128 ≤ (s.get! (p + j)).toNat ∧ (s.get! (p + j)).toNat < 192)) : Utf8.decode s p = (65533, 1) := by
  rw [Lib.decode_at, get_at s p hp]
  apply dN_3no _ _ _ _ _ (by omega) (by omega)
  rcases h with h | ⟨j, j1, j2, h⟩
  · left; omega
  · right
    match j, j1, j2, h with
    | 1, _, _, h => exact Or.inl h
    | 2, _, _, h => exact Or.inr h
    | j + 3, _, j2, _ => omega
theorem dec_3_bad (s : ByteArray) (p : Nat) (hp : p < s.size) (h1 : 224 ≤ (s[p].toNat : Int)) (h2 : (s[p].toNat : Int) < 240) (h : accF s p (s[p].toNat % 16) 2 < 2048 ∨ 1114111 < accF s p (s[p].toNat % 16) 2 ∨ (55296 ≤ accF s p (s[p].toNat % 16) 2 ∧ accF s p (s[p].toNat % 16) 2 < 57344)) : Utf8.decode s p = (65533, 1) := by
  rw [Lib.decode_at, get_at s p hp]
  simp only [accF, Nat.zero_add, Nat.reduceAdd] at h
  exact dN_3bad _ _ _ _ _ (by omega) (by omega) (by omega)
theorem dec_3_ok (s : ByteArray) (p : Nat) (hp : p < s.size) (h1 : 224 ≤ (s[p].toNat : Int)) (h2 : (s[p].toNat : Int) < 240) (hl : p + 3 ≤ s.size) (hc : ∀ j, 1 ≤ j → j < 3 → 128 ≤ (s.get! (p + j)).toNat ∧ (s.get! (p + j)).toNat < 192)
    (ha : ¬ accF s p (s[p].toNat % 16) 2 < 2048) (_hb : ¬ 1114111 < accF s p (s[p].toNat % 16) 2) (hd : ¬ (55296 ≤ accF s p (s[p].toNat % 16) 2 ∧ accF s p (s[p].toNat % 16) 2 < 57344)) : Utf8.decode s p = (accF s p (s[p].toNat % 16) 2, 3) := by
  rw [Lib.decode_at, get_at s p hp]
  simp only [accF, Nat.zero_add, Nat.reduceAdd] at ha hd ⊢
  exact dN_3ok _ _ _ _ _ (by omega) (by omega) (by omega) (hc 1 (by omega) (by omega)) (hc 2 (by omega) (by omega)) ha hd

set_option maxHeartbeats 1000000 in
set_option maxRecDepth 1000000 in
theorem rune_3short (s : ByteArray) (p : Nat) (w : World) (hp : p < s.size) (_hs : s.size ≤ 1000000) (h1 : 224 ≤ (s[p].toNat : Int)) (h2 : (s[p].toNat : Int) < 240) (hl : (s.size : Int) < (p : Int) + 3) :
    Calls Tryz.prog 95 #[.string s, .int .i64 p] w fun e w' => e = .returned (.tuple #[.int .i64 ((refR s p).1 : Nat), .int .i64 ((refR s p).2 : Nat)]) ∧ w' = w := by
  have HD := Lib.hid (dec_3_no s p hp h1 h2 (Or.inl (by omega)))
  go_enter Tryz.func95, Tryz.ntmps95
  go_wp2
  go_ret2
  exact ⟨fin_bad HD.out, rfl⟩

set_option maxHeartbeats 2000000 in
set_option maxRecDepth 1000000 in
theorem rune_3long (s : ByteArray) (p : Nat) (w : World) (hp : p < s.size) (hs : s.size ≤ 1000000) (h1 : 224 ≤ (s[p].toNat : Int)) (h2 : (s[p].toNat : Int) < 240) (hl : (p : Int) + 3 ≤ (s.size : Int)) :
    Calls Tryz.prog 95 #[.string s, .int .i64 p] w fun e w' => e = .returned (.tuple #[.int .i64 ((refR s p).1 : Nat), .int .i64 ((refR s p).2 : Nat)]) ∧ w' = w := by
  have d1 : decide ((s[p].toNat : Int) < 128) = false := by simp; omega
  have d2 : decide ((s[p].toNat : Int) < 224) = false := by simp; omega
  go_enter Tryz.func95, Tryz.ntmps95
  go_wp2
  go_loop [9, 10] (fun t i => ∃ k : Nat, 1 ≤ k ∧ k ≤ 3 ∧ i = .int .i64 k ∧ t = .int .i64 (accF s p (s[p].toNat % 16) (k - 1) : Nat) ∧ Hid (∀ j, 1 ≤ j → j < k → 128 ≤ (s.get! (p + j)).toNat ∧ (s.get! (p + j)).toNat < 192)) (fun _ i => 3 - (intOf i).toNat)
  case atStart => exact ⟨1, Nat.le_refl _, by omega, rfl, by simp [accF], fun j a b => by omega⟩
  case round =>
    obtain ⟨k, hk1, hk2, rfl, rfl, hco⟩ := hrel
    have hx0 := accF_lt s p (s[p].toNat % 16) (by omega) (k - 1) (by omega)
    by_cases hlt : k < 3
    · have hpk : p + k < s.size := by omega
      have hd0 : (s[p + k].toNat : Int) < 256 := by have := s[p + k].toNat_lt; omega
      have HG := Lib.hid (sure_byte s p k hpk)
      have HA : Hid (accF s p (s[p].toNat % 16) k = accF s p (s[p].toNat % 16) (k - 1) * 64 + s[p + k].toNat % 64) := by
        obtain ⟨j, rfl⟩ : ∃ j, k = j + 1 := ⟨k - 1, by omega⟩
        show _ = _
        rw [Nat.add_sub_cancel]
        simp only [accF]
        rw [HG.out]
      generalize accF s p (s[p].toNat % 16) (k - 1) = x at hx0 HA ⊢
      by_cases hb1 : (s[p + k].toNat : Int) < 128
      · have HD := Lib.hid (dec_3_no s p hp h1 h2 (Or.inr ⟨k, hk1, hlt, by rw [HG.out]; omega⟩))
        go_wp2
        go_ret2
        exact ⟨fin_bad HD.out, rfl⟩
      · by_cases hb2 : 192 ≤ (s[p + k].toNat : Int)
        · have HD := Lib.hid (dec_3_no s p hp h1 h2 (Or.inr ⟨k, hk1, hlt, by rw [HG.out]; omega⟩))
          go_wp2
          go_ret2
          exact ⟨fin_bad HD.out, rfl⟩
        · go_wp2
          go_round
          case rel =>
            refine ⟨k + 1, by omega, by omega, by go_num, ?_, ?_⟩
            · rw [Nat.add_sub_cancel, HA.out]; go_num
            · intro j a b
              by_cases e : j = k
              · subst e; rw [HG.out]; omega
              · exact hco.out j a (by omega)
          case measure => simp [intOf]; omega
    · obtain rfl : k = 3 := by omega
      simp only [Nat.reduceSub] at hx0 ⊢
      have HN := Lib.hid (dec_3_bad s p hp h1 h2)
      have HO := Lib.hid (dec_3_ok s p hp h1 h2 (by omega) hco.out)
      generalize accF s p (s[p].toNat % 16) 2 = x at hx0 HN HO ⊢
      by_cases c1 : (x : Int) < 2048
      · go_wp2
        go_ret2
        exact ⟨fin_bad (HN.out (by omega)), rfl⟩
      · by_cases c2 : 1114111 < (x : Int)
        · go_wp2
          go_ret2
          exact ⟨fin_bad (HN.out (by omega)), rfl⟩
        · by_cases c3 : 55296 ≤ (x : Int)
          · by_cases c4 : (x : Int) < 57344
            · go_wp2
              go_ret2
              exact ⟨fin_bad (HN.out (by omega)), rfl⟩
            · go_wp2
              go_ret2
              exact ⟨fin_ok (HO.out (by omega) (by omega) (by omega)) (by omega) rfl rfl, rfl⟩
          · go_wp2
            go_ret2
            exact ⟨fin_ok (HO.out (by omega) (by omega) (by omega)) (by omega) rfl rfl, rfl⟩

theorem dec_4_no (s : ByteArray) (p : Nat) (hp : p < s.size) (h1 : 240 ≤ (s[p].toNat : Int)) (h2 : (s[p].toNat : Int) < 245) (h : s.size < p + 4 ∨ ∃ j, 1 ≤ j ∧ j < 4 ∧ ¬ (128 ≤ (s.get! (p + j)).toNat ∧ (s.get! (p + j)).toNat < 192)) : Utf8.decode s p = (65533, 1) := by
  rw [Lib.decode_at, get_at s p hp]
  apply dN_4no _ _ _ _ _ (by omega) (by omega)
  rcases h with h | ⟨j, j1, j2, h⟩
  · left; omega
  · right
    match j, j1, j2, h with
    | 1, _, _, h => exact Or.inl h
    | 2, _, _, h => exact Or.inr (Or.inl h)
    | 3, _, _, h => exact Or.inr (Or.inr h)
    | j + 4, _, j2, _ => omega
theorem dec_4_bad (s : ByteArray) (p : Nat) (hp : p < s.size) (h1 : 240 ≤ (s[p].toNat : Int)) (h2 : (s[p].toNat : Int) < 245) (h : accF s p (s[p].toNat % 8) 3 < 65536 ∨ 1114111 < accF s p (s[p].toNat % 8) 3 ∨ (55296 ≤ accF s p (s[p].toNat % 8) 3 ∧ accF s p (s[p].toNat % 8) 3 < 57344)) : Utf8.decode s p = (65533, 1) := by
  rw [Lib.decode_at, get_at s p hp]
  simp only [accF, Nat.zero_add, Nat.reduceAdd] at h
  exact dN_4bad _ _ _ _ _ (by omega) (by omega) (by omega)
theorem dec_4_ok (s : ByteArray) (p : Nat) (hp : p < s.size) (h1 : 240 ≤ (s[p].toNat : Int)) (h2 : (s[p].toNat : Int) < 245) (hl : p + 4 ≤ s.size) (hc : ∀ j, 1 ≤ j → j < 4 → 128 ≤ (s.get! (p + j)).toNat ∧ (s.get! (p + j)).toNat < 192)
    (ha : ¬ accF s p (s[p].toNat % 8) 3 < 65536) (hb : ¬ 1114111 < accF s p (s[p].toNat % 8) 3) (_hd : ¬ (55296 ≤ accF s p (s[p].toNat % 8) 3 ∧ accF s p (s[p].toNat % 8) 3 < 57344)) : Utf8.decode s p = (accF s p (s[p].toNat % 8) 3, 4) := by
  rw [Lib.decode_at, get_at s p hp]
  simp only [accF, Nat.zero_add, Nat.reduceAdd] at ha hb ⊢
  exact dN_4ok _ _ _ _ _ (by omega) (by omega) (by omega) (hc 1 (by omega) (by omega)) (hc 2 (by omega) (by omega)) (hc 3 (by omega) (by omega)) ha hb

set_option maxHeartbeats 1000000 in
set_option maxRecDepth 1000000 in
theorem rune_4short (s : ByteArray) (p : Nat) (w : World) (hp : p < s.size) (_hs : s.size ≤ 1000000) (h1 : 240 ≤ (s[p].toNat : Int)) (h2 : (s[p].toNat : Int) < 245) (hl : (s.size : Int) < (p : Int) + 4) :
    Calls Tryz.prog 95 #[.string s, .int .i64 p] w fun e w' => e = .returned (.tuple #[.int .i64 ((refR s p).1 : Nat), .int .i64 ((refR s p).2 : Nat)]) ∧ w' = w := by
  have HD := Lib.hid (dec_4_no s p hp h1 h2 (Or.inl (by omega)))
  go_enter Tryz.func95, Tryz.ntmps95
  go_wp2
  go_ret2
  exact ⟨fin_bad HD.out, rfl⟩

set_option maxHeartbeats 2000000 in
set_option maxRecDepth 1000000 in
theorem rune_4long (s : ByteArray) (p : Nat) (w : World) (hp : p < s.size) (hs : s.size ≤ 1000000) (h1 : 240 ≤ (s[p].toNat : Int)) (h2 : (s[p].toNat : Int) < 245) (hl : (p : Int) + 4 ≤ (s.size : Int)) :
    Calls Tryz.prog 95 #[.string s, .int .i64 p] w fun e w' => e = .returned (.tuple #[.int .i64 ((refR s p).1 : Nat), .int .i64 ((refR s p).2 : Nat)]) ∧ w' = w := by
  have d1 : decide ((s[p].toNat : Int) < 128) = false := by simp; omega
  have d2 : decide ((s[p].toNat : Int) < 224) = false := by simp; omega
  have d3 : decide ((s[p].toNat : Int) < 240) = false := by simp; omega
  go_enter Tryz.func95, Tryz.ntmps95
  go_wp2
  go_loop [9, 10] (fun t i => ∃ k : Nat, 1 ≤ k ∧ k ≤ 4 ∧ i = .int .i64 k ∧ t = .int .i64 (accF s p (s[p].toNat % 8) (k - 1) : Nat) ∧ Hid (∀ j, 1 ≤ j → j < k → 128 ≤ (s.get! (p + j)).toNat ∧ (s.get! (p + j)).toNat < 192)) (fun _ i => 4 - (intOf i).toNat)
  case atStart => exact ⟨1, Nat.le_refl _, by omega, rfl, by simp [accF], fun j a b => by omega⟩
  case round =>
    obtain ⟨k, hk1, hk2, rfl, rfl, hco⟩ := hrel
    have hx0 := accF_lt s p (s[p].toNat % 8) (by omega) (k - 1) (by omega)
    by_cases hlt : k < 4
    · have hpk : p + k < s.size := by omega
      have hd0 : (s[p + k].toNat : Int) < 256 := by have := s[p + k].toNat_lt; omega
      have HG := Lib.hid (sure_byte s p k hpk)
      have HA : Hid (accF s p (s[p].toNat % 8) k = accF s p (s[p].toNat % 8) (k - 1) * 64 + s[p + k].toNat % 64) := by
        obtain ⟨j, rfl⟩ : ∃ j, k = j + 1 := ⟨k - 1, by omega⟩
        show _ = _
        rw [Nat.add_sub_cancel]
        simp only [accF]
        rw [HG.out]
      generalize accF s p (s[p].toNat % 8) (k - 1) = x at hx0 HA ⊢
      by_cases hb1 : (s[p + k].toNat : Int) < 128
      · have HD := Lib.hid (dec_4_no s p hp h1 h2 (Or.inr ⟨k, hk1, hlt, by rw [HG.out]; omega⟩))
        go_wp2
        go_ret2
        exact ⟨fin_bad HD.out, rfl⟩
      · by_cases hb2 : 192 ≤ (s[p + k].toNat : Int)
        · have HD := Lib.hid (dec_4_no s p hp h1 h2 (Or.inr ⟨k, hk1, hlt, by rw [HG.out]; omega⟩))
          go_wp2
          go_ret2
          exact ⟨fin_bad HD.out, rfl⟩
        · go_wp2
          go_round
          case rel =>
            refine ⟨k + 1, by omega, by omega, by go_num, ?_, ?_⟩
            · rw [Nat.add_sub_cancel, HA.out]; go_num
            · intro j a b
              by_cases e : j = k
              · subst e; rw [HG.out]; omega
              · exact hco.out j a (by omega)
          case measure => simp [intOf]; omega
    · obtain rfl : k = 4 := by omega
      simp only [Nat.reduceSub] at hx0 ⊢
      have HN := Lib.hid (dec_4_bad s p hp h1 h2)
      have HO := Lib.hid (dec_4_ok s p hp h1 h2 (by omega) hco.out)
      generalize accF s p (s[p].toNat % 8) 3 = x at hx0 HN HO ⊢
      by_cases c1 : (x : Int) < 65536
      · go_wp2
        go_ret2
        exact ⟨fin_bad (HN.out (by omega)), rfl⟩
      · by_cases c2 : 1114111 < (x : Int)
        · go_wp2
          go_ret2
          exact ⟨fin_bad (HN.out (by omega)), rfl⟩
        · by_cases c3 : 55296 ≤ (x : Int)
          · by_cases c4 : (x : Int) < 57344
            · go_wp2
              go_ret2
              exact ⟨fin_bad (HN.out (by omega)), rfl⟩
            · go_wp2
              go_ret2
              exact ⟨fin_ok (HO.out (by omega) (by omega) (by omega)) (by omega) rfl rfl, rfl⟩
          · go_wp2
            go_ret2
            exact ⟨fin_ok (HO.out (by omega) (by omega) (by omega)) (by omega) rfl rfl, rfl⟩

theorem rune_any (s : ByteArray) (p : Nat) (w : World) (hp : p < s.size) (hs : s.size ≤ 1000000) :
    Calls Tryz.prog 95 #[.string s, .int .i64 p] w fun e w' => e = .returned (.tuple #[.int .i64 ((refR s p).1 : Nat), .int .i64 ((refR s p).2 : Nat)]) ∧ w' = w := by
  have h0 : (s[p].toNat : Int) < 256 := by have := s[p].toNat_lt; omega
  by_cases h1 : (s[p].toNat : Int) < 128
  · exact rune_ascii s p w hp h1
  · by_cases h2 : (s[p].toNat : Int) < 194
    · exact rune_lead s p w hp h0 h1 (Or.inl h2)
    · by_cases h3 : (s[p].toNat : Int) < 224
      · by_cases hl : (p : Int) + 2 ≤ (s.size : Int)
        · exact rune_2long s p w hp hs (by omega) h3 hl
        · exact rune_2short s p w hp hs (by omega) h3 (by omega)
      · by_cases h4 : (s[p].toNat : Int) < 240
        · by_cases hl : (p : Int) + 3 ≤ (s.size : Int)
          · exact rune_3long s p w hp hs (by omega) h4 hl
          · exact rune_3short s p w hp hs (by omega) h4 (by omega)
        · by_cases h5 : (s[p].toNat : Int) < 245
          · by_cases hl : (p : Int) + 4 ≤ (s.size : Int)
            · exact rune_4long s p w hp hs (by omega) h5 hl
            · exact rune_4short s p w hp hs (by omega) h5 (by omega)
          · exact rune_lead s p w hp h0 h1 (Or.inr (by omega))
end Go.Proofs.YtlgkbdebpnbndaaGreatDoor
namespace Go.Proofs.YtlgkbdebpnbndaaGreatDoor
set_option linter.unusedVariables false
set_option linter.unusedSimpArgs false
open Go.RowKit

theorem below_of_grown {w0 w w' : World} {B base : Nat} {e : TypeId} {k n : Nat} {v : Value} {xs : List Value} (hb : Below B w0 w) (hown : w.ownsRow base e k v n xs) (hB : B ≤ base) (hs : B ≤ w.heap.size) (hg : w.grownBy w' v.ownBlock) : Below B w0 w' := by
  refine hb.grown hg hs fun j hj => ?_
  rcases hown.2 with ⟨rfl, _⟩ | ⟨g, cap, cur, rfl, hg', _⟩
  · simp [Value.ownBlock] at hj
  · simp [Value.ownBlock] at hj; omega
theorem rune_no (s : ByteArray) (p : Nat) (w : World) (hp : p < s.size) (hs : s.size ≤ 1000000) (h : badAt s p = true) :
    Calls Tryz.prog 95 #[.string s, .int .i64 p] w fun e w' => e = .returned (.tuple #[.int .i64 0, .int .i64 0]) ∧ w' = w := by
  have := rune_any s p w hp hs
  rw [refR_of_bad h] at this; exact this
theorem rune_ok (s : ByteArray) (p : Nat) (w : World) (hp : p < s.size) (hs : s.size ≤ 1000000) (h : badAt s p = false) :
    Calls Tryz.prog 95 #[.string s, .int .i64 p] w fun e w' => e = .returned (.tuple #[.int .i64 ((Utf8.decode s p).1 : Nat), .int .i64 ((Utf8.decode s p).2 : Nat)]) ∧ w' = w := by
  have := rune_any s p w hp hs
  rw [refR_of_ok h] at this; exact this

theorem info3 : (Tryz.prog.info? 3).map (fun i => (i.zero, i.size, i.bytes)) = some (some (.int .i64 0), 1, 8) := by kernel_rfl
def nums (l : List Nat) : List Value := l.map fun r => .int .i64 (r : Nat)

set_option maxHeartbeats 2000000 in
set_option maxRecDepth 1000000 in
theorem runes_any (s : ByteArray) (w : World) (hs : s.size ≤ 1000000) :
    Calls Tryz.prog 67 #[.string s] w fun e w' => (vld s = false ∧ e = .returned (.tuple #[.slice none 0 0, .bool false]) ∧ Below w.heap.size w w') ∨ (vld s = true ∧ ∃ v, e = .returned (.tuple #[v, .bool true]) ∧ w'.ownsRow w.heap.size 3 1 v (runesOf s).length (nums (runesOf s)) ∧ Below w.heap.size w w') := by
  obtain ⟨i0, hi, hz0, hz1, hz2⟩ := info_parts info3
  go_enter Tryz.func67, Tryz.ntmps67
  go_wp2
  go_loopw [4, 5] (fun v i wr => ∃ (pos b : Nat) (acc : List Nat), i = .int .i64 pos ∧ wr.ownsRow w.heap.size 3 1 v acc.length (nums acc) ∧ Below w.heap.size w wr ∧ Hid (vldFrom s b pos = vld s) ∧ Hid (acc ++ runesFrom s b pos = runesOf s) ∧ s.size ≤ pos + b ∧ acc.length ≤ pos ∧ pos ≤ s.size) (fun _ i _ => s.size - (intOf i).toNat)
  case atStart => exact ⟨0, s.size, [], rfl, ⟨rfl, Or.inr ⟨w.heap.size, 0, #[], rfl, Nat.le_refl _, heap_alloc_new w _, Nat.le_refl _, Nat.zero_le _, rfl, rfl⟩⟩, (Below.refl _ _).alloc (Nat.le_refl _) _, rfl, rfl, by omega, Nat.le_refl _, Nat.zero_le _⟩
  case round =>
    obtain ⟨pos, b, acc, rfl, hown, hbl, hv, hr, hb, ha, hps⟩ := hrel
    by_cases hp : pos < s.size
    · obtain ⟨b, rfl⟩ : ∃ b', b = b' + 1 := ⟨b - 1, by omega⟩
      have hwd := Lib.decode_width_pos s pos hp
      have hft := decode_fits s pos hp
      have hle := decode_le s pos
      have hsz := hbl.size
      have HO := Lib.hid hown; have HB := Lib.hid hbl
      clear hown hbl
      cases hbd : badAt s pos with
      | true =>
        have HV : Hid (vld s = false) := by show _ = _; rw [← hv.out, vldFrom_bad s b pos hp hbd]
        have HD := Lib.hid hbd
        clear hbd
        go_wp2_with (go_at_call 95; refine (rune_no s pos _ hp hs HD.out).mono ?_; rintro e w' ⟨rfl, rfl⟩)
        go_ret2
        exact Or.inl ⟨HV.out, rfl, HB.out⟩
      | false =>
        have HV : Hid (vldFrom s b (pos + (Utf8.decode s pos).2) = vld s) := by show _ = _; rw [← hv.out, vldFrom_step s b pos hp hbd]
        have HR : Hid ((acc ++ [(Utf8.decode s pos).1]) ++ runesFrom s b (pos + (Utf8.decode s pos).2) = runesOf s) := by
          show _ = _; rw [← hr.out, runesFrom_step s b pos hp, List.append_assoc]; rfl
        have HD := Lib.hid hbd
        have hne : (((Utf8.decode s pos).2 : Int) == 0) = false := by rw [beq_eq_false_iff_ne]; omega
        clear hbd hv hr
        go_wp2_with (first
          | (go_at_call 95; refine (rune_ok s pos _ hp hs HD.out).mono ?_; rintro e wr ⟨rfl, rfl⟩)
          | (at_builtin; refine wpList_append_own _ rfl _ _ 93 rfl w.heap.size 3 i0 (.int .i64 0) 1 8 Tryz.underlying93 hi hz0 hz1 hz2 rfl (by decide) _ _ _ rfl (HO.out.alloc _) ⟨wr.heap.size, 0, none⟩ 1 1 [.int .i64 ((Utf8.decode s pos).1 : Nat)] rfl rfl (cell_one_new _ _ _) ?c2 ?c3 ?c4 ?c5 ?_))
        case c2 => intro u hu; simp at hu; subst hu; rfl
        case c3 => unfold maxLen; omega
        case c4 => omega
        case c5 => simp; omega
        intro v' w3 hown' hgrow _
        have hb3 : Hid (Below w.heap.size w w3) := below_of_grown (HB.out.alloc (by omega) _) (HO.out.alloc _) (Nat.le_refl _) (by simp; omega) hgrow
        have ho3 : Hid (w3.ownsRow w.heap.size 3 1 v' (acc ++ [(Utf8.decode s pos).1]).length (nums (acc ++ [(Utf8.decode s pos).1]))) := by
          show World.ownsRow _ _ _ _ _ _ _
          simpa [nums] using hown'
        clear hown' hgrow HO HB
        go_wp2
        go_roundw
        case rel =>
          refine ⟨pos + (Utf8.decode s pos).2, b, acc ++ [(Utf8.decode s pos).1], by go_num, ho3.out, hb3.out, HV, HR, by omega, ?_, by omega⟩
          rw [List.length_append]; simp; omega
        case measure => simp [intOf]; omega
    · have HO := Lib.hid hown; have HB := Lib.hid hbl
      clear hown hbl
      go_wp2
      go_ret2
      have hv2 := hv.out
      rw [vldFrom_end s b pos hp] at hv2
      have hr2 := hr.out
      rw [runesFrom_end s b pos hp, List.append_nil] at hr2
      refine Or.inr ⟨hv2.symm, _, rfl, ?_, HB.out⟩
      rw [← hr2]; exact HO.out
theorem drop_all (l : List Nat) (k : Nat) (h : k < l.length) : (l.drop k).all xmlN = (xmlN l[k] && (l.drop (k + 1)).all xmlN) := by
  rw [List.drop_eq_getElem_cons h, List.all_cons]

theorem runesOf_le (s : ByteArray) (hs : s.size ≤ 1000000) : (runesOf s).length ≤ 1000000 := by
  rw [runesOf_length]; have := Lib.runeCount_le s; omega

theorem runes_no (s : ByteArray) (w : World) (hs : s.size ≤ 1000000) (h : vld s = false) :
    Calls Tryz.prog 67 #[.string s] w fun e w' => e = .returned (.tuple #[.slice none 0 0, .bool false]) ∧ Below w.heap.size w w' := by
  refine (runes_any s w hs).mono ?_
  rintro e w' (⟨_, he, hb⟩ | ⟨hv, _⟩)
  · exact ⟨he, hb⟩
  · rw [h] at hv; simp at hv
theorem runes_ok (s : ByteArray) (w : World) (hs : s.size ≤ 1000000) (h : vld s = true) :
    Calls Tryz.prog 67 #[.string s] w fun e w' => ∃ v, e = .returned (.tuple #[v, .bool true]) ∧ w'.ownsRow w.heap.size 3 1 v (runesOf s).length (nums (runesOf s)) ∧ Below w.heap.size w w' := by
  refine (runes_any s w hs).mono ?_
  rintro e w' (⟨hv, _⟩ | ⟨_, hx⟩)
  · rw [h] at hv; simp at hv
  · exact hx

end Go.Proofs.YtlgkbdebpnbndaaGreatDoor
namespace Go.Proofs.YtlgkbdebpnbndaaGreatDoor
set_option linter.unusedVariables false
set_option linter.unusedSimpArgs false
open Go.RowKit Go.BigFrame

theorem pre_takeQ (t l : List UInt8) : preX t l = (decide (t.length ≤ l.length) && decide (l.take t.length = t)) := by
  unfold preX
  cases h : t.isPrefixOf l with
  | true =>
    have h1 := List.isPrefixOf_iff_prefix.1 h
    rw [decide_eq_true h1.length_le, decide_eq_true (List.prefix_iff_eq_take.1 h1).symm]
    rfl
  | false =>
    symm
    rw [Bool.and_eq_false_iff]
    by_cases hl : t.length ≤ l.length
    · refine .inr (decide_eq_false fun e => ?_)
      have : t <+: l := by rw [← e]; exact List.take_prefix _ _
      rw [List.isPrefixOf_iff_prefix.2 this] at h
      cases h
    · exact .inl (decide_eq_false hl)
set_option maxHeartbeats 4000000 in
set_option maxRecDepth 100000 in
theorem wordQ (l s t : List UInt8) (R m : Nat) (hs : s.length ≤ 1000000) (ht : t.length ≤ 1000) (w : World) (h : Rl w R s l m) : Calls Tryz.prog 71 #[.pointer (some ⟨R, 0, none⟩), .string (asS t)] w fun x w' => x = .returned (.tuple #[]) ∧ (preX t l = true → Rl w' R s (l.drop t.length) m) ∧ (preX t l = false → Re w' R s m 5) ∧ w.grownBy w' (some R) := by
  have hrow := h.row5.1
  have hdr := h.row5.2
  have hll := h.len
  have HW5 : Hid (∀ W, Rl W R s l m → Calls Tryz.prog 42 #[.pointer (some ⟨R, 0, none⟩), .int .i64 5] W fun x w' => x = .returned (.tuple #[]) ∧ Re w' R s m 5 ∧ W.grownBy w' (some R)) := fun W hW => hW.wrong 5
  have HR := hid h
  have hpt := pre_takeQ t l
  have hx : (asS s).extract (s.length - l.length) (s.length - l.length + t.length) = asS (l.take t.length) := by
    rw [ext_asS, asS_data, hdr]
    congr 2
    omega
  have hq : ((asS (l.take t.length)).toList == (asS t).toList) = decide (l.take t.length = t) := tl_two _ _
  have hpl : s.length - l.length + l.length = s.length := by omega
  have HYES : Hid (∀ w', t.length ≤ l.length → Rq w' R s (s.length - l.length + t.length) m 0 → Rl w' R s (l.drop t.length) m) := fun w' hl h2 => ⟨_, by rw [← List.drop_drop, hdr], by omega, h2⟩
  obtain ⟨d0, d1, _, _⟩ := hrow.cells
  have HROW := hid hrow
  have z1 := asS_size s
  have z2 := asS_size t
  clear h hdr hrow
  generalize hpp : s.length - l.length = p at *
  have hpb : p ≤ 1000000 := by omega
  generalize hsn : s.length = sn at *
  generalize htn : t.length = tn at *
  obtain ⟨S, hS⟩ : ∃ S, asS s = S := ⟨_, rfl⟩
  have HSS := hid hS
  rw [hS] at d0 hx z1
  clear hS
  generalize asS t = T at hq z2 ⊢
  by_cases hl : tn ≤ l.length
  · have hge : ¬ (sn : Int) < (p : Int) + (tn : Int) := by omega
    have hge' : decide ((sn : Int) < (p : Int) + (tn : Int)) = false := decide_eq_false hge
    rw [decide_eq_true hl, Bool.true_and] at hpt
    generalize asS (l.take tn) = X at hx hq
    have hpi : (p : Int) ≤ (p : Int) + (tn : Int) := by omega
    have hpi2 : (p : Int) + (tn : Int) ≤ (sn : Int) := by omega
    by_cases he : l.take tn = t
    · rw [decide_eq_true he] at hpt hq
      have hq' : (X.toList != T.toList) = false := by
        show (!(X.toList == T.toList)) = false
        rw [hq]; rfl
      rw [hpt]
      have HL := hid hl
      clear he hl
      have HR2 := hid HROW.out
      unfold Rq at HR2
      rw [HSS.out] at HR2
      go_enter Tryz.func71, Tryz.ntmps71
      go_wp2_with fail
      go_quiet (fail)
      go_wp2_with (first
        | (refine store_part rfl 3 _ _ rfl R 1 (.int .i64 ((p : Int) + (tn : Int))) _ _ #[.string S, .int .i64 ((p : Int) + (tn : Int)), .int .i64 m, .int .i64 ((0 : Nat) : Int)] rfl rfl info3q (by simp) rfl rfl HR2.out rfl ?_)
        | fail)
      intro W2 ho hr
      have HRN := hid (HYES.out W2 HL.out (by unfold Rq; rw [HSS.out, show ((p + tn : Nat) : Int) = (p : Int) + (tn : Int) from by omega]; exact hr))
      have HO := hid ho
      clear ho hr
      go_wp2_with fail
      exact ⟨by simp, _, results_none rfl _ _ _, rfl, fun _ => HRN.out, (fun h => by cases h), (to_below (below_drewN _ _ _)).trans (to_only HO.out)⟩
    · rw [decide_eq_false he] at hpt hq
      have hq' : (X.toList != T.toList) = true := by
        show (!(X.toList == T.toList)) = true
        rw [hq]; rfl
      rw [hpt]
      clear he hl
      go_enter Tryz.func71, Tryz.ntmps71
      go_wp2_with fail
      go_quiet (fail)
      go_wp2_with fail
      refine (HW5.out _ (HR.out.below (below_drewN _ _ _))).mono ?_
      rintro e W2 ⟨rfl, hr, hg⟩
      have HRE := hid hr
      have HG := hid hg
      clear hr hg
      go_wp2_with fail
      exact ⟨by simp, _, results_none rfl _ _ _, rfl, (fun h => by cases h), fun _ => HRE.out, (to_below (below_drewN _ _ _)).trans HG.out⟩
  · have hge : (sn : Int) < (p : Int) + (tn : Int) := by omega
    have hge' : decide ((sn : Int) < (p : Int) + (tn : Int)) = true := decide_eq_true hge
    rw [decide_eq_false hl, Bool.false_and] at hpt
    rw [hpt]
    clear hl hx hq
    go_enter Tryz.func71, Tryz.ntmps71
    go_wp2_with fail
    go_quiet (fail)
    go_wp2_with fail
    refine (HW5.out _ (HR.out.below (below_drewN _ _ _))).mono ?_
    rintro e W2 ⟨rfl, hr, hg⟩
    have HRE := hid hr
    have HG := hid hg
    clear hr hg
    go_wp2_with fail
    exact ⟨by simp, _, results_none rfl _ _ _, rfl, (fun h => by cases h), fun _ => HRE.out, (to_below (below_drewN _ _ _)).trans HG.out⟩
end Go.Proofs.YtlgkbdebpnbndaaGreatDoor
namespace Go.Proofs.YtlgkbdebpnbndaaGreatDoor
set_option linter.unusedVariables false
set_option linter.unusedSimpArgs false
open Go.RowKit Go.BigFrame
attribute [local go_sem ↓] buildV_eq

theorem refText16 (l : List UInt8) (hl : l.length ≤ 1000000) (w : World) : Calls Tryz.prog 39 #[.string (asS l)] w fun x w' => x = .returned (.bool (V l)) ∧ Below w.heap.size w w' := by
  have hz : (asS l).size ≤ 1000000 := by rw [asS_size]; exact hl
  cases hv : V l with
  | true =>
    have HC := hid (runes_ok (asS l) w hz (by rw [vld_V, asS_data]; exact hv))
    clear hv
    generalize asS l = S at HC ⊢
    go_enter Tryz.func39, Tryz.ntmps39
    go_wp2_with fail
    refine HC.out.mono ?_
    rintro e W ⟨v, rfl, _, hb⟩
    have HB := hid hb
    clear hb
    go_wp2_with fail
    go_ret
    exact ⟨rfl, HB.out⟩
  | false =>
    have HC := hid (runes_no (asS l) w hz (by rw [vld_V, asS_data]; exact hv))
    clear hv
    generalize asS l = S at HC ⊢
    go_enter Tryz.func39, Tryz.ntmps39
    go_wp2_with fail
    refine HC.out.mono ?_
    rintro e W ⟨rfl, hb⟩
    have HB := hid hb
    clear hb
    go_wp2_with fail
    go_ret
    exact ⟨rfl, HB.out⟩
theorem storeV_eq9 (x v : Value) : Instr.storeAt 25 x v = storeI 25 x v := rfl
theorem storeV_row9 {w : World} {g : Nat} {cs cs2 : Array Value} (hz2 : cs2.size = 5) (h1 : cs2.all (·.oneCell') = true) (hrow : w.heap[g]? = some (.cells cs 25 (0, 0))) (hz : cs.size = 5) : (storeI 25 (.pointer (some ⟨g, 0, none⟩)) (.agg cs2)).run Tryz.prog w = .ok () (putM w g cs2) :=
  run_storeAt_mid w g 0 25 cs2 (there_row hrow 0 cs2.size (by rw [hz, hz2]; exact Nat.le_refl _)) (by rw [hz2]; exact infoVj) h1
/-- What the reference's value does. -/
def ValQ (d lev : Nat) (l : List UInt8) (n : Nat) (s : List UInt8) (R : Nat) (w : World) (x : Ending) (w' : World) : Prop :=
  (∀ t r m, valJ d lev l n = .ok (t, r, m) → ∃ cs, x = .returned (.agg cs) ∧ VAt (fun q => w.heap.size ≤ q) d w' cs t ∧ Rl w' R s r m) ∧ (∀ k, valJ d lev l n = .error k → ∃ cs m, x = .returned (.agg cs) ∧ cs.size = 5 ∧ (cs.all (·.oneCell') = true) ∧ k ≠ 0 ∧ Re w' R s m k) ∧ w.grownBy w' (some R)
def ValQOk (d lev : Nat) : Prop := ∀ (l : List UInt8) (n : Nat) (s : List UInt8) (R : Nat) (w : World), s.length ≤ 100000 → n ≤ 8192 → Rl w R s l n → Calls Tryz.prog 40 #[.pointer (some ⟨R, 0, none⟩), .int .i64 (lev : Int)] w fun x w' => ValQ d lev l n s R w x w'
set_option maxHeartbeats 4000000 in
set_option maxRecDepth 100000 in
theorem refParse_no (l : List UInt8) (k : Nat) (w : World) (hl : l.length ≤ 1000000) (h : parJ l = .error k) (hk : (65536 < l.length ∧ k = 3) ∨ (¬ 65536 < l.length ∧ V l = false ∧ k = 5)) : Calls Tryz.prog 17 #[.string (asS l)] w (ParP l w) := by
  have hz : (asS l).size = l.length := asS_size l
  have HE := hid h
  have HCK : Hid (V l = false → ∀ W, Calls Tryz.prog 39 #[.string (asS l)] W fun e w' => e = .returned (.bool false) ∧ Below W.heap.size W w') := fun hv W => (refText16 l hl W).mono fun e w' hh => ⟨by rw [hh.1, hv], hh.2⟩
  clear h
  generalize asS l = S at hz HCK ⊢
  have hbu : ∀ W, (buildI 25 #[]).run Tryz.prog W = .ok (.agg #[.int .i64 0, .int .i64 0, .string ⟨#[]⟩, .slice none 0 0, .slice none 0 0]) W := fun W => run_build W 25 _ _ built_vz
  have HB := hid ((Below.refl w.heap.size w).alloc (Nat.le_refl _) (.cells #[.int .i64 0, .int .i64 0, .string ⟨#[]⟩, .slice none 0 0, .slice none 0 0] 25))
  have HQ := hid (heap_alloc_new w (.cells #[.int .i64 0, .int .i64 0, .string ⟨#[]⟩, .slice none 0 0, .slice none 0 0] 25 (0, 0)))
  rcases hk with ⟨h1, rfl⟩ | ⟨h1, h2, rfl⟩
  · have hi : (65536 : Int) < (l.length : Int) := by omega
    go_enter Tryz.func17, Tryz.ntmps17
    go_wp2_with (first
      | (refine wpList_store_abs rfl 25 (.tmp 2) (.tmp 9) rfl w.heap.size 0 #[.int .i64 0, .int .i64 0, .string ⟨#[]⟩, .slice none 0 0, .slice none 0 0] rfl rfl 25 _ HQ.out (Nat.le_refl 5) infoVj (vcs_all _ _ _ _ _ _ _ _ _) ?_; intro W9 hO9 hW9)
      | fail)
    rw [over_whole #[.int .i64 0, .int .i64 0, .string ⟨#[]⟩, .slice none 0 0, .slice none 0 0] #[.int .i64 0, .int .i64 0, .string ⟨#[]⟩, .slice none 0 0, .slice none 0 0] rfl] at hW9
    exact bodyPost_ret (ret_v2 (p := 2) (q := 3) Tryz.results17 _ _ w.heap.size _ rfl (0, 0) _ rfl rfl hW9) rfl (ParP.err HE.out (HB.out.trans (hO9.below (by omega))))
  · have hi : ¬ (65536 : Int) < (l.length : Int) := by omega
    have HC := hid (HCK.out h2)
    clear HCK
    go_enter Tryz.func17, Tryz.ntmps17
    go_wp2_with fail
    refine (HC.out _).mono ?_
    rintro e W2 ⟨rfl, hb⟩
    have HB2 := hid (HB.out.trans (hb.mono HB.out.size))
    have HQ2 := hid (row_keep hb HQ.out)
    clear hb HQ
    go_wp2_with (first
      | (refine wpList_store_abs rfl 25 (.tmp 2) (.tmp 13) rfl w.heap.size 0 #[.int .i64 0, .int .i64 0, .string ⟨#[]⟩, .slice none 0 0, .slice none 0 0] rfl rfl 25 _ HQ2.out (Nat.le_refl 5) infoVj (vcs_all _ _ _ _ _ _ _ _ _) ?_; intro W9 hO9 hW9)
      | fail)
    rw [over_whole #[.int .i64 0, .int .i64 0, .string ⟨#[]⟩, .slice none 0 0, .slice none 0 0] #[.int .i64 0, .int .i64 0, .string ⟨#[]⟩, .slice none 0 0, .slice none 0 0] rfl] at hW9
    exact bodyPost_ret (ret_v2 (p := 2) (q := 3) Tryz.results17 _ _ w.heap.size _ rfl (0, 0) _ rfl rfl hW9) rfl (ParP.err HE.out (HB2.out.trans (hO9.below (by omega))))
attribute [local go_sem ↓] storeV_eq9
set_option maxHeartbeats 16000000 in
set_option maxRecDepth 100000 in
theorem refParse_yes (HVAL : ValQOk 40 0) (l : List UInt8) (w : World) (hl : l.length ≤ 65536) (hv : V l = true) : Calls Tryz.prog 17 #[.string (asS l)] w (ParP l w) := by
  have hz : (asS l).size = l.length := asS_size l
  have HC : Hid (∀ W, Calls Tryz.prog 39 #[.string (asS l)] W fun e w' => e = .returned (.bool true) ∧ Below W.heap.size W w') := fun W => (refText16 l (by omega) W).mono fun e w' hh => ⟨by rw [hh.1, hv], hh.2⟩
  have HPE : Hid (∀ k, valJ 40 0 l 0 = .error k → parJ l = .error k) := fun k h => by
    unfold parJ
    rw [if_neg (by omega), hv, if_neg (by decide), h]
  have HPO : Hid (∀ t r m, valJ 40 0 l 0 = .ok (t, r, m) → parJ l = if (r.dropWhile whX).isEmpty then .ok t else .error 5) := fun t r m h => by
    unfold parJ
    rw [if_neg (by omega), hv, if_neg (by decide), h]
  have HVV := hid (fun (R : Nat) (W : World) (hr : W.heap[R]? = some (.cells #[.string (asS l), .int .i64 0, .int .i64 0, .int .i64 0] 68 (0, 0))) => HVAL l 0 l R W (by omega) (by omega) ⟨0, rfl, Nat.zero_le _, hr⟩)
  have hi : ¬ (65536 : Int) < (l.length : Int) := by omega
  have HLS := hid hl
  obtain ⟨S, hS⟩ : ∃ S, asS l = S := ⟨_, rfl⟩
  have HSS := hid hS
  rw [hS] at HC HVV hz ⊢
  clear hS hv hl HVAL
  have hbu : ∀ W, (buildI 25 #[]).run Tryz.prog W = .ok (.agg #[.int .i64 0, .int .i64 0, .string ⟨#[]⟩, .slice none 0 0, .slice none 0 0]) W := fun W => run_build W 25 _ _ built_vz
  have hbr : ∀ W, (buildI 68 #[(0, .string S)]).run Tryz.prog W = .ok (.agg #[.string S, .int .i64 0, .int .i64 0, .int .i64 0]) W := fun W => run_build W 68 _ _ (by kernel_rfl)
  have HB := hid ((Below.refl w.heap.size w).alloc (Nat.le_refl _) (.cells #[.int .i64 0, .int .i64 0, .string ⟨#[]⟩, .slice none 0 0, .slice none 0 0] 25))
  have HQ := hid (heap_alloc_new w (.cells #[.int .i64 0, .int .i64 0, .string ⟨#[]⟩, .slice none 0 0, .slice none 0 0] 25 (0, 0)))
  have hw1 : (w.alloc (.cells #[.int .i64 0, .int .i64 0, .string ⟨#[]⟩, .slice none 0 0, .slice none 0 0] 25)).heap.size = w.heap.size + 1 := by simp
  have HW1 := hid hw1
  clear hw1
  go_enter Tryz.func17, Tryz.ntmps17
  go_wp2_with fail
  refine (HC.out _).mono ?_
  rintro e W2 ⟨rfl, hb⟩
  have HB2 := hid (HB.out.trans (hb.mono HB.out.size))
  have HQ2 := hid (row_keep hb HQ.out)
  have hs2 : w.heap.size + 1 ≤ W2.heap.size := by have := hb.size; have := HW1.out; omega
  clear hb HQ HC HB HW1
  have HRW := hid (heap_alloc_new W2 (.cells #[.string S, .int .i64 0, .int .i64 0, .int .i64 0] 68 (0, 0)))
  have HAL := hid ((Below.refl W2.heap.size W2).alloc (Nat.le_refl _) (.cells #[.string S, .int .i64 0, .int .i64 0, .int .i64 0] 68))
  obtain ⟨W3, hW3⟩ : ∃ W3, W2.alloc (.cells #[.string S, .int .i64 0, .int .i64 0, .int .i64 0] 68) = W3 := ⟨_, rfl⟩
  rw [hW3] at HRW HAL
  have HV3 := hid (HVV.out W2.heap.size W3 HRW.out)
  have HB3 := hid (HB2.out.trans (HAL.out.mono HB2.out.size))
  have HQ3 := hid (row_keep HAL.out HQ2.out)
  have hs3 : W2.heap.size < W3.heap.size := (Array.getElem?_eq_some_iff.1 HRW.out).1
  clear HVV HRW HAL HB2 HQ2
  cases hvj : valJ 40 0 l 0 with
  | error k =>
    have HER : Hid (parJ l = .error k) := HPE.out k hvj
    have HC : Hid (Calls Tryz.prog 40 #[.pointer (some ⟨W2.heap.size, 0, none⟩), .int .i64 0] W3 fun x w' => (∃ cs, x = .returned (.agg cs) ∧ Hid (cs.size = 5 ∧ (cs.all (·.oneCell') = true)) ∧ ∃ m, k ≠ 0 ∧ Hid (Re w' W2.heap.size l m k)) ∧ W3.grownBy w' (some W2.heap.size)) := HV3.out.mono fun x w' hh => by
      obtain ⟨cs, m, h1, h2, h3, h4, h5⟩ := hh.2.1 k hvj
      exact ⟨⟨cs, h1, ⟨h2, h3⟩, m, h4, h5⟩, hh.2.2⟩
    clear HPE HPO HV3 hvj
    go_wp2_with fail
    refine HC.out.mono ?_
    rintro e W4 ⟨⟨cs, rfl, HCS, m, hk0, HR4⟩, hg⟩
    have hg4 := hg.size
    have HQ4 := hid (to_row hg HQ3.out (by omega))
    have HB4 := hid (HB3.out.grown hg HB3.out.size (fun q e => by injection e with e; omega))
    have HN4 := hid (heap_alloc_new W4 (.cells #[.int .i64 0, .int .i64 0, .string ⟨#[]⟩, .slice none 0 0, .slice none 0 0] 25 (0, 0)))
    have HA4 := hid ((Below.refl W4.heap.size W4).alloc (Nat.le_refl _) (.cells #[.int .i64 0, .int .i64 0, .string ⟨#[]⟩, .slice none 0 0, .slice none 0 0] 25))
    clear hg HC HQ3 HB3 hW3
    go_wp2_with (first
      | (refine wpList_store_abs rfl 25 (.tmp 5) (.tmp 18) rfl W4.heap.size 0 cs rfl rfl 25 _ HN4.out (by rw [HCS.out.1]; exact Nat.le_refl _) (by rw [HCS.out.1]; exact infoVj) HCS.out.2 ?_; intro V4 hO hW; have hBW : Below W4.heap.size W4 V4 := HA4.out.trans (hO.below (Nat.le_refl _)); have HBV : Hid (Below w.heap.size w V4) := HB4.out.trans (hBW.mono HB4.out.size); have HQV := hid (row_keep hBW HQ4.out); have HRV := hid (HR4.out.below hBW); have hsv := hBW.size; clear hO hW hBW)
      | fail)
    have HWH := hid (HRV.out.white (by have := HLS.out; omega))
    clear HN4 HA4 HB4 HQ4 HR4 HRV
    refine HWH.out.mono ?_
    rintro e W5 ⟨rfl, hr, hg⟩
    have hg5 := hg.size
    have HQ5 := hid (to_row hg HQV.out (by omega))
    have HB5 := hid (HBV.out.grown hg HBV.out.size (fun q e => by injection e with e; omega))
    obtain ⟨p5, hp5, hr5⟩ := hr
    obtain ⟨_, f1, _, f3⟩ := hr5.cells
    have hke : ((k : Int) == 0) = false := by rw [beq_eq_false_iff_ne]; omega
    have hkn : ((k : Int) != 0) = true := by rw [bne_iff_ne]; omega
    clear hg hr5 hp5 HWH HQV HBV
    go_wp2_with fail
    go_quiet (fail)
    go_wp2_with fail
    rename_i nq K8 HK8 K9 HK9
    have HQ6 : Hid ((W5.drewN nq).heap[w.heap.size]? = some (.cells #[.int .i64 0, .int .i64 0, .string ⟨#[]⟩, .slice none 0 0, .slice none 0 0] 25 (0, 0))) := HQ5.out
    have f6 : (W5.drewN nq).cell? ⟨W2.heap.size, 3, none⟩ = some (.int .i64 k) := f3
    have HB6 : Hid (Below w.heap.size w (W5.drewN nq)) := HB5.out.trans (below_drewN _ _ _)
    generalize W5.drewN nq = W6 at HQ6 f6 HB6 ⊢
    have hstv := storeV_row9 (w := W6.drew) (cs2 := #[.int .i64 0, .int .i64 0, .string ⟨#[]⟩, .slice none 0 0, .slice none 0 0]) rfl (vcs_all _ _ _ _ _ _ _ _ _) HQ6.out rfl
    have g3 : (putM W6.drew w.heap.size #[.int .i64 0, .int .i64 0, .string ⟨#[]⟩, .slice none 0 0, .slice none 0 0]).cell? ⟨W2.heap.size, 3, none⟩ = some (.int .i64 k) := by rw [cell_same ((putM_only _ _ _).block W2.heap.size (by omega))]; exact f6
    go_region
    all_goals
      go_wp2_with fail
      exact bodyPost_ret (ret_v2 (p := 2) (q := 3) Tryz.results17 _ _ w.heap.size _ rfl (0, 0) _ rfl rfl (putM_row HQ6.out rfl)) rfl (ParP.err HER.out (HB6.out.trans (((below_drewQ W6).mono HB6.out.size).trans ((putM_only W6.drew w.heap.size _).below (Nat.le_refl _)))))
  | ok q =>
    obtain ⟨t, r, m⟩ := q
    have HPR : Hid (parJ l = if (r.dropWhile whX).isEmpty then .ok t else .error 5) := HPO.out t r m hvj
    have HC : Hid (Calls Tryz.prog 40 #[.pointer (some ⟨W2.heap.size, 0, none⟩), .int .i64 0] W3 fun x w' => (∃ cs, x = .returned (.agg cs) ∧ Hid (VAt (fun q => W3.heap.size ≤ q) 40 w' cs t) ∧ Hid (Rl w' W2.heap.size l r m)) ∧ W3.grownBy w' (some W2.heap.size)) := HV3.out.mono fun x w' hh => by
      obtain ⟨cs, h1, h2, h3⟩ := hh.1 t r m hvj
      exact ⟨⟨cs, h1, h2, h3⟩, hh.2.2⟩
    clear HPE HPO HV3 hvj
    go_wp2_with fail
    refine HC.out.mono ?_
    rintro e W4 ⟨⟨cs, rfl, HVA, HR4⟩, hg⟩
    have hg4 := hg.size
    have HQ4 := hid (to_row hg HQ3.out (by omega))
    have HB4 := hid (HB3.out.grown hg HB3.out.size (fun q e => by injection e with e; omega))
    have HN4 := hid (heap_alloc_new W4 (.cells #[.int .i64 0, .int .i64 0, .string ⟨#[]⟩, .slice none 0 0, .slice none 0 0] 25 (0, 0)))
    have HA4 := hid ((Below.refl W4.heap.size W4).alloc (Nat.le_refl _) (.cells #[.int .i64 0, .int .i64 0, .string ⟨#[]⟩, .slice none 0 0, .slice none 0 0] 25))
    clear hg HC HQ3 HB3 hW3
    go_wp2_with (first
      | (refine wpList_store_abs rfl 25 (.tmp 5) (.tmp 18) rfl W4.heap.size 0 cs rfl rfl 25 _ HN4.out (by rw [HVA.out.size]; exact Nat.le_refl _) (by rw [HVA.out.size]; exact infoVj) (vcs_one HVA.out) ?_; intro V4 hO hW; rw [over_whole #[.int .i64 0, .int .i64 0, .string ⟨#[]⟩, .slice none 0 0, .slice none 0 0] cs (by rw [HVA.out.size]; rfl)] at hW; have hBW : Below W4.heap.size W4 V4 := HA4.out.trans (hO.below (Nat.le_refl _)); have HBV : Hid (Below w.heap.size w V4) := HB4.out.trans (hBW.mono HB4.out.size); have HQV := hid (row_keep hBW HQ4.out); have HRV := hid (HR4.out.below hBW); have HVV4 := hid (HVA.out.below hBW (Nat.le_refl _)); have HXV := hid hW; have hsv := hBW.size; clear hO hW hBW)
      | fail)
    have HWH := hid (HRV.out.white (by have := HLS.out; omega))
    have hs4 : W4.heap.size < V4.heap.size := (Array.getElem?_eq_some_iff.1 HXV.out).1
    clear HN4 HA4 HB4 HQ4 HR4 HRV HVA
    refine HWH.out.mono ?_
    rintro e W5 ⟨rfl, hr, hg⟩
    have hg5 := hg.size
    have HQ5 := hid (to_row hg HQV.out (by omega))
    have HX5 := hid (to_row hg HXV.out (by omega))
    have HV5 := hid (HVV4.out.to hg (fun q hq => by omega))
    have HB5 := hid (HBV.out.grown hg HBV.out.size (fun q e => by injection e with e; omega))
    have HR5 := hid hr
    have hrow := hr.row5.1
    have hlr := hr.len
    obtain ⟨f0, f1, _, f3⟩ := hrow.cells
    have z1 : (asS l).size = l.length := asS_size l
    rw [HSS.out] at f0 z1
    clear hg hr hrow HWH HQV HBV HXV HVV4
    have HQ5d : Hid (∀ n, (W5.drewN n).heap[w.heap.size]? = some (.cells #[.int .i64 0, .int .i64 0, .string ⟨#[]⟩, .slice none 0 0, .slice none 0 0] 25 (0, 0))) := fun n => HQ5.out
    have HX5d : Hid (∀ n, (W5.drewN n).heap[W4.heap.size]? = some (.cells cs 25 (0, 0))) := fun n => HX5.out
    have HB5d : Hid (∀ n, Below w.heap.size w (W5.drewN n)) := fun n => HB5.out.trans (below_drewN _ _ _)
    have HR5d : Hid (∀ n, Rl (W5.drewN n) W2.heap.size l (r.dropWhile whX) m) := fun n => HR5.out.below (below_drewN _ _ _)
    have HV5d : Hid (∀ n, VAt (fun q => W3.heap.size ≤ q) 40 (W5.drewN n) cs t) := fun n => HV5.out.below (below_drewN W5.heap.size W5 n) (Nat.le_refl _)
    have HZ := hid HV5.out.size
    clear HQ5 HX5 HB5 HR5 HV5
    cases hl : r.dropWhile whX with
    | nil =>
      rw [hl] at f1
      rw [List.length_nil, Nat.sub_zero] at f1
      have HOK : Hid (parJ l = .ok t) := HPR.out.trans (by rw [hl]; rfl)
      have hlt : decide ((l.length : Int) < (l.length : Int)) = false := decide_eq_false (by omega)
      clear HPR hl HR5d
      go_wp2_with fail
      go_quiet (fail)
      go_wp2_with (first
        | (refine load_msg rfl _ rfl W4.heap.size cs rfl (load_v5 (HX5d.out _) HZ.out) ?_)
        | (refine wpList_store_abs rfl 25 (.tmp 2) (.tmp 50) rfl w.heap.size 0 cs rfl rfl 25 _ (HQ5d.out _) (by rw [HZ.out]; exact Nat.le_refl _) (by rw [HZ.out]; exact infoVj) (vcs_one (HV5d.out 0)) ?_; intro W9 hO9 hW9)
        | fail)
      rw [over_whole #[.int .i64 0, .int .i64 0, .string ⟨#[]⟩, .slice none 0 0, .slice none 0 0] cs (by rw [HZ.out]; rfl)] at hW9
      have hbd : Below w.heap.size w W9 := (HB5d.out _).trans (hO9.below (Nat.le_refl _))
      refine bodyPost_ret (ret_v2 (p := 2) (q := 3) Tryz.results17 _ _ w.heap.size cs HZ.out (0, 0) _ rfl rfl hW9) rfl ⟨(fun t2 h2 => ?_), (fun k2 h2 => by rw [HOK.out] at h2; cases h2), hbd⟩
      rw [HOK.out] at h2
      injection h2 with h2
      subst h2
      refine ⟨cs, rfl, (HV5d.out _).frame (Nat.le_of_eq hO9.size.symm) fun q hq hl => ⟨hO9.block q (by omega), by omega⟩⟩
    | cons c r2 =>
      have HER : Hid (parJ l = .error 5) := HPR.out.trans (by rw [hl]; rfl)
      have hll : (c :: r2).length ≤ l.length := by rw [← hl]; exact hlr
      have hlt : ((l.length - (c :: r2).length : Nat) : Int) < (l.length : Int) := by rw [List.length_cons] at hll ⊢; omega
      rw [hl] at f1 HR5d
      generalize hpp : l.length - (c :: r2).length = pp at f1 hlt
      clear HPR hpp HX5d HV5d
      go_wp2_with fail
      go_quiet (fail)
      go_wp2_with fail
      refine ((HR5d.out _).wrong 5).mono ?_
      rintro e W6 ⟨rfl, hr, hg⟩
      have hg6 := hg.size
      have hs6 : W5.heap.size ≤ W6.heap.size := hg.size
      have HQ6 : Hid (W6.heap[w.heap.size]? = some (.cells #[.int .i64 0, .int .i64 0, .string ⟨#[]⟩, .slice none 0 0, .slice none 0 0] 25 (0, 0))) := to_row hg (HQ5d.out _) (by omega)
      have HB6 : Hid (Below w.heap.size w W6) := (HB5d.out _).grown hg (HB5d.out _).size (fun q e => by injection e with e; omega)
      obtain ⟨p6, hp6, hr6⟩ := hr
      obtain ⟨_, _, _, f6⟩ := hr6.cells
      have hstv := storeV_row9 (w := W6.drew) (cs2 := #[.int .i64 0, .int .i64 0, .string ⟨#[]⟩, .slice none 0 0, .slice none 0 0]) rfl (vcs_all _ _ _ _ _ _ _ _ _) HQ6.out rfl
      have g3 : (putM W6.drew w.heap.size #[.int .i64 0, .int .i64 0, .string ⟨#[]⟩, .slice none 0 0, .slice none 0 0]).cell? ⟨W2.heap.size, 3, none⟩ = some (.int .i64 ((5 : Nat) : Int)) := by rw [cell_same ((putM_only _ _ _).block W2.heap.size (by omega))]; exact f6
      clear hg hr6 hp6 f0 f1 f3
      go_wp2_with fail
      go_region
      all_goals
        go_wp2_with fail
        exact bodyPost_ret (ret_v2 (p := 2) (q := 3) Tryz.results17 _ _ w.heap.size _ rfl (0, 0) _ rfl rfl (putM_row HQ6.out rfl)) rfl (ParP.err HER.out (HB6.out.trans (((below_drewQ W6).mono HB6.out.size).trans ((putM_only W6.drew w.heap.size _).below (Nat.le_refl _)))))
end Go.Proofs.YtlgkbdebpnbndaaGreatDoor
namespace Go.Proofs.YtlgkbdebpnbndaaGreatDoor
set_option linter.unusedVariables false
set_option linter.unusedSimpArgs false
open Go.RowKit Go.BigFrame
attribute [local go_sem ↓] loadV_eq

/-- append(values of one's own or none, whatever): where it lies, no more. -/
theorem run_vjAny (ty : TypeId) {P : Nat → Prop} {w : World} {d : Nat} {v x : Value} {l : List (VJ d)} {cs : Array Value} (h : OwnVj P w d v l) (hs : Src Tryz.prog 5 22 x 1 cs.toList w) (hn : l.length ≤ 1000000) :
    ∃ v' w', (Builtin.append_ #[22, 22] ty #[v, x]).run Tryz.prog w = .ok v' w' ∧ v'.oneCell' = true ∧ w.grownBy w' (blk v) := by
  rcases h with ⟨rfl, rfl⟩ | ⟨g, cap, css, rfl, h2, h3, h4, h5, h6⟩
  · obtain ⟨cap, w', k1, k2, k3⟩ := run_nilK vjK (b := 0) ty x hs (by decide) (by decide) (Nat.zero_le _)
    exact ⟨_, w', k1, rfl, ⟨k3.os, k3.tape, k3.output, k3.size, fun k hk _ => k3.block k hk⟩⟩
  · obtain ⟨g', cap', w', k1, k2, k3, k4⟩ := h4.run_app vjK ty x hs (by omega) (Nat.zero_le _)
    exact ⟨_, w', k1, rfl, k3⟩
theorem step_vjAny {ops : Array Oper} {o : Oper} {a : Act} {w : World} {K : Act → World → Prop} {Q : Exit → Act → World → Prop} {E : Prop} (hgd : o.guard = none) (s x : Operand)
    (ho : o.op = .call { callee := .builtin .append, args := #[s, x], argTypes := #[22, 22] })
    (P : Nat → Prop) (d : Nat) (v xv : Value) (l : List (VJ d)) (cs : Array Value) (hs : a.eval s = v) (hx : a.eval x = xv) (hown : OwnVj P w d v l)
    (hA : Src Tryz.prog 5 22 xv 1 cs.toList w) (hn : l.length ≤ 1000000)
    (h : ∀ v' w', v'.oneCell' = true → w.grownBy w' (blk v) → K (a.put o.dst v') w') :
    if Region.wanted o (yielded ops a.tmps) = true then Oper.wp Tryz.prog o a w K Q else E := by
  have hw : Region.wanted o (yielded ops a.tmps) = true := by simp [Region.wanted, hgd]
  rw [if_pos hw]
  obtain ⟨v', w', hr, h2, h3⟩ := run_vjAny o.type hown hA hn
  unfold Oper.wp
  simp [execOp, ho, resolve, invoke, builtin, hs, hx, hr, Result.andThen]
  exact h v' w' h2 h3
/-- What the reference's list does, behind a bracket. -/
def LstQ (d lev : Nat) (l : List UInt8) (n : Nat) (s : List UInt8) (R : Nat) (w : World) (x : Ending) (w' : World) : Prop :=
  (∀ ks r m, lstJ (valJ d (lev + 1)) l n = .ok (ks, r, m) → ∃ A c, x = .returned (.agg #[.int .i64 4, .int .i64 0, .string ⟨#[]⟩, .slice A ks.length c, .slice none 0 0]) ∧ ks.length ≤ c ∧ VsAt (fun q => w.heap.size ≤ q) d w' A ks ∧ Rl w' R s r m) ∧ (∀ k, lstJ (valJ d (lev + 1)) l n = .error k → ∃ cs m, x = .returned (.agg cs) ∧ cs.size = 5 ∧ (cs.all (·.oneCell') = true) ∧ k ≠ 0 ∧ Re w' R s m k) ∧ w.grownBy w' (some R)
set_option maxHeartbeats 4000000 in
set_option maxRecDepth 100000 in
/-- Too deep: whatever the value that came, and whatever the bracket. -/
theorem listQ_deep (cs : Array Value) (l : List UInt8) (n : Nat) (s : List UInt8) (R : Nat) (e : UInt8) (dp : Nat) (hd : 16 < dp) (hd2 : dp ≤ 1000) (w : World) (a b c f g : Value) (hcs : cs = #[a, b, c, f, g]) (ho : cs.all (·.oneCell') = true) (h : Rl w R s l n) :
    Calls Tryz.prog 69 #[.pointer (some ⟨R, 0, none⟩), .agg cs, .int .u8 (e.toNat : Int), .int .i64 (dp : Int)] w fun x w' => x = .returned (.agg cs) ∧ Re w' R s n 9 ∧ w.grownBy w' (some R) := by
  have hRl := h.lt
  have HW : Hid (∀ W, Below w.heap.size w W → Calls Tryz.prog 42 #[.pointer (some ⟨R, 0, none⟩), .int .i64 9] W fun x w' => x = .returned (.tuple #[]) ∧ Re w' R s n 9 ∧ W.grownBy w' (some R)) := fun W hb => (h.below hb).wrong 9
  have hi : (16 : Int) < (dp : Int) := by omega
  have HO := hid ho
  subst hcs
  have HB := hid ((((Below.refl w.heap.size w).alloc (Nat.le_refl _) (.cells #[a, b, c, f, g] 25)).alloc (by show _ ≤ (Array.push _ _).size; rw [Array.size_push]; omega) (.cells #[.int .i64 0, .int .i64 0, .string ⟨#[]⟩, .slice none 0 0, .slice none 0 0] 25)))
  have HX := hid (heap_first w (.cells #[a, b, c, f, g] 25 (0, 0)) (.cells #[.int .i64 0, .int .i64 0, .string ⟨#[]⟩, .slice none 0 0, .slice none 0 0] 25 (0, 0)))
  have HQ := hid (heap_second w (.cells #[a, b, c, f, g] 25 (0, 0)) (.cells #[.int .i64 0, .int .i64 0, .string ⟨#[]⟩, .slice none 0 0, .slice none 0 0] 25 (0, 0)))
  clear h ho
  go_enter Tryz.func69, Tryz.ntmps69
  go_wp2_with fail
  refine (HW.out _ HB.out).mono ?_
  rintro x W2 ⟨rfl, hr, hg⟩
  have HR2 := hid hr
  have hx2 := to_row hg HX.out (by omega)
  have hq2 := to_row hg HQ.out (by omega)
  have HQ2 := hid hq2
  have HG2 := hid ((to_below (R := R) HB.out).trans hg)
  have hld := loadV_run hx2 rfl
  clear hr hg hx2 hq2 HX HQ HB HW
  go_wp2_with (first
    | (refine wpList_store_abs rfl 25 (.tmp 8) (.tmp 15) rfl (w.heap.size + 1) 0 #[a, b, c, f, g] rfl rfl 25 _ HQ2.out (Nat.le_refl 5) infoVj HO.out ?_; intro W9 hO9 hW9)
    | fail)
  rw [over_whole #[.int .i64 0, .int .i64 0, .string ⟨#[]⟩, .slice none 0 0, .slice none 0 0] #[a, b, c, f, g] rfl] at hW9
  refine bodyPost_ret (ret_v (p := 8) Tryz.results69 _ _ (w.heap.size + 1) _ rfl (0, 0) rfl hW9) rfl ⟨rfl, HR2.out.to (to_only hO9) (by omega), ?_⟩
  exact grow_own HG2.out (to_only hO9) (fun q e => by injection e with e; omega)
end Go.Proofs.YtlgkbdebpnbndaaGreatDoor
