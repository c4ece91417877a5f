
/- What the reference's Rune does at every place of a text. -/
import Derived.Test.YtlgkbdebpnbndaaGreatDoorTxCheck
namespace Go.Proofs.YtlgkbdebpnbndaaGreatDoor
set_option linter.unusedVariables false
set_option linter.unusedSimpArgs false
open Go.RowKit

theorem fin_bad {s : ByteArray} {p : Nat} (h : Utf8.decode s p = (65533, 1)) :
    Ending.returned (.tuple #[.int .i64 0, .int .i64 0]) = .returned (.tuple #[.int .i64 ((refR s p).1 : Nat), .int .i64 ((refR s p).2 : Nat)]) := by
  rw [refR_bad h]; rfl
theorem fin_ok {s : ByteArray} {p v k : Nat} {x y : Int} (h : Utf8.decode s p = (v, k)) (hk : v ≠ 65533 ∨ k ≠ 1) (hx : x = (v : Int)) (hy : y = (k : Int)) :
    Ending.returned (.tuple #[.int .i64 x, .int .i64 y]) = .returned (.tuple #[.int .i64 ((refR s p).1 : Nat), .int .i64 ((refR s p).2 : Nat)]) := by
  rw [refR_ok h hk, hx, hy]

/-- The value behind so many bytes more. -/
def accF (s : ByteArray) (p v0 : Nat) : Nat → Nat
  | 0 => v0
  | j + 1 => accF s p v0 j * 64 + (s.get! (p + (j + 1))).toNat % 64
theorem accF_lt (s : ByteArray) (p v0 : Nat) (h : v0 < 32) : ∀ j, j ≤ 3 → accF s p v0 j < 8388608
  | 0, _ => by simp only [accF]; omega
  | 1, _ => by simp only [accF]; omega
  | 2, _ => by simp only [accF]; omega
  | 3, _ => by simp only [accF]; omega
  | j + 4, h => by omega
theorem sure_byte (s : ByteArray) (p k : Nat) (h : p + k < s.size) : (s.get! (p + k)).toNat = s[p + k].toNat := by rw [get_at s (p + k) h]

set_option maxHeartbeats 1000000 in
set_option maxRecDepth 1000000 in
theorem rune_ascii (s : ByteArray) (p : Nat) (w : World) (hp : p < s.size) (h : (s[p].toNat : Int) < 128) :
    Calls Tryz.prog 95 #[.string s, .int .i64 p] w fun e w' => e = .returned (.tuple #[.int .i64 ((refR s p).1 : Nat), .int .i64 ((refR s p).2 : Nat)]) ∧ w' = w := by
  have HD : Hid (Utf8.decode s p = (s[p].toNat, 1)) := by
    show _ = _
    rw [Lib.decode_at, get_at s p hp]; exact dNT_ascii _ _ _ _ _ (by omega)
  go_enter Tryz.func95, Tryz.ntmps95
  go_wp2
  go_ret2
  exact ⟨fin_ok HD.out (by omega) rfl rfl, rfl⟩

set_option maxHeartbeats 1000000 in
set_option maxRecDepth 1000000 in
theorem rune_lead (s : ByteArray) (p : Nat) (w : World) (hp : p < s.size) (h0 : (s[p].toNat : Int) < 256) (h1 : ¬ (s[p].toNat : Int) < 128) (h2 : (s[p].toNat : Int) < 194 ∨ 245 ≤ (s[p].toNat : Int)) :
    Calls Tryz.prog 95 #[.string s, .int .i64 p] w fun e w' => e = .returned (.tuple #[.int .i64 ((refR s p).1 : Nat), .int .i64 ((refR s p).2 : Nat)]) ∧ w' = w := by
  have HD : Hid (Utf8.decode s p = (65533, 1)) := by
    show _ = _
    rw [Lib.decode_at, get_at s p hp]; exact dN_lead _ _ _ _ _ (by omega) (by omega) (by omega)
  rcases h2 with h2 | h2
  · go_enter Tryz.func95, Tryz.ntmps95
    go_wp2
    go_ret2
    exact ⟨fin_bad HD.out, rfl⟩
  · go_enter Tryz.func95, Tryz.ntmps95
    go_wp2
    go_ret2
    exact ⟨fin_bad HD.out, rfl⟩

theorem dec_2_no (s : ByteArray) (p : Nat) (hp : p < s.size) (h1 : 194 ≤ (s[p].toNat : Int)) (h2 : (s[p].toNat : Int) < 224) (h : s.size < p + 2 ∨ ∃ j, 1 ≤ j ∧ j < 2 ∧ ¬ (128 ≤ (s.get! (p + j)).toNat ∧ (s.get! (p + j)).toNat < 192)) : Utf8.decode s p = (65533, 1) := by
  rw [Lib.decode_at, get_at s p hp]
  apply dN_2no _ _ _ _ _ (by omega) (by omega)
  rcases h with h | ⟨j, j1, j2, h⟩
  · left; omega
  · right
    match j, j1, j2, h with
    | 1, _, _, h => exact h
    | j + 2, _, j2, _ => omega
theorem dec_2_bad (s : ByteArray) (p : Nat) (hp : p < s.size) (h1 : 194 ≤ (s[p].toNat : Int)) (h2 : (s[p].toNat : Int) < 224) (h : accF s p (s[p].toNat % 32) 1 < 128 ∨ 1114111 < accF s p (s[p].toNat % 32) 1 ∨ (55296 ≤ accF s p (s[p].toNat % 32) 1 ∧ accF s p (s[p].toNat % 32) 1 < 57344)) : Utf8.decode s p = (65533, 1) := by
  rw [Lib.decode_at, get_at s p hp]
  simp only [accF, Nat.zero_add] at h
  exfalso; omega
theorem dec_2_ok (s : ByteArray) (p : Nat) (hp : p < s.size) (h1 : 194 ≤ (s[p].toNat : Int)) (h2 : (s[p].toNat : Int) < 224) (hl : p + 2 ≤ s.size) (hc : ∀ j, 1 ≤ j → j < 2 → 128 ≤ (s.get! (p + j)).toNat ∧ (s.get! (p + j)).toNat < 192)
    (_ha : ¬ accF s p (s[p].toNat % 32) 1 < 128) (_hb : ¬ 1114111 < accF s p (s[p].toNat % 32) 1) (_hd : ¬ (55296 ≤ accF s p (s[p].toNat % 32) 1 ∧ accF s p (s[p].toNat % 32) 1 < 57344)) : Utf8.decode s p = (accF s p (s[p].toNat % 32) 1, 2) := by
  rw [Lib.decode_at, get_at s p hp]
  simp only [accF, Nat.zero_add]
  exact dN_2ok _ _ _ _ _ (by omega) (by omega) (by omega) (hc 1 (by omega) (by omega))

set_option maxHeartbeats 1000000 in
set_option maxRecDepth 1000000 in
theorem rune_2short (s : ByteArray) (p : Nat) (w : World) (hp : p < s.size) (_hs : s.size ≤ 1000000) (h1 : 194 ≤ (s[p].toNat : Int)) (h2 : (s[p].toNat : Int) < 224) (hl : (s.size : Int) < (p : Int) + 2) :
    Calls Tryz.prog 95 #[.string s, .int .i64 p] w fun e w' => e = .returned (.tuple #[.int .i64 ((refR s p).1 : Nat), .int .i64 ((refR s p).2 : Nat)]) ∧ w' = w := by
  have HD := Lib.hid (dec_2_no s p hp h1 h2 (Or.inl (by omega)))
  go_enter Tryz.func95, Tryz.ntmps95
  go_wp2
  go_ret2
  exact ⟨fin_bad HD.out, rfl⟩

set_option maxHeartbeats 2000000 in
set_option maxRecDepth 1000000 in
theorem rune_2long (s : ByteArray) (p : Nat) (w : World) (hp : p < s.size) (hs : s.size ≤ 1000000) (h1 : 194 ≤ (s[p].toNat : Int)) (h2 : (s[p].toNat : Int) < 224) (hl : (p : Int) + 2 ≤ (s.size : Int)) :
    Calls Tryz.prog 95 #[.string s, .int .i64 p] w fun e w' => e = .returned (.tuple #[.int .i64 ((refR s p).1 : Nat), .int .i64 ((refR s p).2 : Nat)]) ∧ w' = w := by
  have d1 : decide ((s[p].toNat : Int) < 128) = false := by simp; omega
  go_enter Tryz.func95, Tryz.ntmps95
  go_wp2
  go_loop [9, 10] (fun t i => ∃ k : Nat, 1 ≤ k ∧ k ≤ 2 ∧ i = .int .i64 k ∧ t = .int .i64 (accF s p (s[p].toNat % 32) (k - 1) : Nat) ∧ Hid (∀ j, 1 ≤ j → j < k → 128 ≤ (s.get! (p + j)).toNat ∧ (s.get! (p + j)).toNat < 192)) (fun _ i => 2 - (intOf i).toNat)
  case atStart => exact ⟨1, Nat.le_refl _, by omega, rfl, by simp [accF], fun j a b => by omega⟩
  case round =>
    obtain ⟨k, hk1, hk2, rfl, rfl, hco⟩ := hrel
    have hx0 := accF_lt s p (s[p].toNat % 32) (by omega) (k - 1) (by omega)
    by_cases hlt : k < 2
    · have hpk : p + k < s.size := by omega
      have hd0 : (s[p + k].toNat : Int) < 256 := by have := s[p + k].toNat_lt; omega
      have HG := Lib.hid (sure_byte s p k hpk)
      have HA : Hid (accF s p (s[p].toNat % 32) k = accF s p (s[p].toNat % 32) (k - 1) * 64 + s[p + k].toNat % 64) := by
        obtain ⟨j, rfl⟩ : ∃ j, k = j + 1 := ⟨k - 1, by omega⟩
        show _ = _
        rw [Nat.add_sub_cancel]
        simp only [accF]
        rw [HG.out]
      generalize accF s p (s[p].toNat % 32) (k - 1) = x at hx0 HA ⊢
      by_cases hb1 : (s[p + k].toNat : Int) < 128
      · have HD := Lib.hid (dec_2_no s p hp h1 h2 (Or.inr ⟨k, hk1, hlt, by rw [HG.out]; omega⟩))
        go_wp2
        go_ret2
        exact ⟨fin_bad HD.out, rfl⟩
      · by_cases hb2 : 192 ≤ (s[p + k].toNat : Int)
        · have HD := Lib.hid (dec_2_no s p hp h1 h2 (Or.inr ⟨k, hk1, hlt, by rw [HG.out]; omega⟩))
          go_wp2
          go_ret2
          exact ⟨fin_bad HD.out, rfl⟩
        · go_wp2
          go_round
          case rel =>
            refine ⟨k + 1, by omega, by omega, by go_num, ?_, ?_⟩
            · rw [Nat.add_sub_cancel, HA.out]; go_num
            · intro j a b
              by_cases e : j = k
              · subst e; rw [HG.out]; omega
              · exact hco.out j a (by omega)
          case measure => simp [intOf]; omega
    · obtain rfl : k = 2 := by omega
      simp only [Nat.reduceSub] at hx0 ⊢
      have HN := Lib.hid (dec_2_bad s p hp h1 h2)
      have HO := Lib.hid (dec_2_ok s p hp h1 h2 (by omega) hco.out)
      generalize accF s p (s[p].toNat % 32) 1 = x at hx0 HN HO ⊢
      by_cases c1 : (x : Int) < 128
      · go_wp2
        go_ret2
        exact ⟨fin_bad (HN.out (by omega)), rfl⟩
      · by_cases c2 : 1114111 < (x : Int)
        · go_wp2
          go_ret2
          exact ⟨fin_bad (HN.out (by omega)), rfl⟩
        · by_cases c3 : 55296 ≤ (x : Int)
          · by_cases c4 : (x : Int) < 57344
            · go_wp2
              go_ret2
              exact ⟨fin_bad (HN.out (by omega)), rfl⟩
            · go_wp2
              go_ret2
              exact ⟨fin_ok (HO.out (by omega) (by omega) (by omega)) (by omega) rfl rfl, rfl⟩
          · go_wp2
            go_ret2
            exact ⟨fin_ok (HO.out (by omega) (by omega) (by omega)) (by omega) rfl rfl, rfl⟩

theorem dec_3_no (s : ByteArray) (p : Nat) (hp : p < s.size) (h1 : 224 ≤ (s[p].toNat : Int)) (h2 : (s[p].toNat : Int) < 240) (h : s.size < p + 3 ∨ ∃ j, 1 ≤ j ∧ j < 3 ∧ ¬ (128 ≤ (s.get! (p + j)).toNat ∧ (s.get! (p + j)).toNat < 192)) : Utf8.decode s p = (65533, 1) := by
  rw [Lib.decode_at, get_at s p hp]
  apply dN_3no _ _ _ _ _ (by omega) (by omega)
  rcases h with h | ⟨j, j1, j2, h⟩
  · left; omega
  · right
    match j, j1, j2, h with
    | 1, _, _, h => exact Or.inl h
    | 2, _, _, h => exact Or.inr h
    | j + 3, _, j2, _ => omega
theorem dec_3_bad (s : ByteArray) (p : Nat) (hp : p < s.size) (h1 : 224 ≤ (s[p].toNat : Int)) (h2 : (s[p].toNat : Int) < 240) (h : accF s p (s[p].toNat % 16) 2 < 2048 ∨ 1114111 < accF s p (s[p].toNat % 16) 2 ∨ (55296 ≤ accF s p (s[p].toNat % 16) 2 ∧ accF s p (s[p].toNat % 16) 2 < 57344)) : Utf8.decode s p = (65533, 1) := by
  rw [Lib.decode_at, get_at s p hp]
  simp only [accF, Nat.zero_add, Nat.reduceAdd] at h
  exact dN_3bad _ _ _ _ _ (by omega) (by omega) (by omega)
theorem dec_3_ok (s : ByteArray) (p : Nat) (hp : p < s.size) (h1 : 224 ≤ (s[p].toNat : Int)) (h2 : (s[p].toNat : Int) < 240) (hl : p + 3 ≤ s.size) (hc : ∀ j, 1 ≤ j → j < 3 → 128 ≤ (s.get! (p + j)).toNat ∧ (s.get! (p + j)).toNat < 192)
    (ha : ¬ accF s p (s[p].toNat % 16) 2 < 2048) (_hb : ¬ 1114111 < accF s p (s[p].toNat % 16) 2) (hd : ¬ (55296 ≤ accF s p (s[p].toNat % 16) 2 ∧ accF s p (s[p].toNat % 16) 2 < 57344)) : Utf8.decode s p = (accF s p (s[p].toNat % 16) 2, 3) := by
  rw [Lib.decode_at, get_at s p hp]
  simp only [accF, Nat.zero_add, Nat.reduceAdd] at ha hd ⊢
  exact dN_3ok _ _ _ _ _ (by omega) (by omega) (by omega) (hc 1 (by omega) (by omega)) (hc 2 (by omega) (by omega)) ha hd

set_option maxHeartbeats 1000000 in
set_option maxRecDepth 1000000 in
theorem rune_3short (s : ByteArray) (p : Nat) (w : World) (hp : p < s.size) (_hs : s.size ≤ 1000000) (h1 : 224 ≤ (s[p].toNat : Int)) (h2 : (s[p].toNat : Int) < 240) (hl : (s.size : Int) < (p : Int) + 3) :
    Calls Tryz.prog 95 #[.string s, .int .i64 p] w fun e w' => e = .returned (.tuple #[.int .i64 ((refR s p).1 : Nat), .int .i64 ((refR s p).2 : Nat)]) ∧ w' = w := by
  have HD := Lib.hid (dec_3_no s p hp h1 h2 (Or.inl (by omega)))
  go_enter Tryz.func95, Tryz.ntmps95
  go_wp2
  go_ret2
  exact ⟨fin_bad HD.out, rfl⟩

set_option maxHeartbeats 2000000 in
set_option maxRecDepth 1000000 in
theorem rune_3long (s : ByteArray) (p : Nat) (w : World) (hp : p < s.size) (hs : s.size ≤ 1000000) (h1 : 224 ≤ (s[p].toNat : Int)) (h2 : (s[p].toNat : Int) < 240) (hl : (p : Int) + 3 ≤ (s.size : Int)) :
    Calls Tryz.prog 95 #[.string s, .int .i64 p] w fun e w' => e = .returned (.tuple #[.int .i64 ((refR s p).1 : Nat), .int .i64 ((refR s p).2 : Nat)]) ∧ w' = w := by
  have d1 : decide ((s[p].toNat : Int) < 128) = false := by simp; omega
  have d2 : decide ((s[p].toNat : Int) < 224) = false := by simp; omega
  go_enter Tryz.func95, Tryz.ntmps95
  go_wp2
  go_loop [9, 10] (fun t i => ∃ k : Nat, 1 ≤ k ∧ k ≤ 3 ∧ i = .int .i64 k ∧ t = .int .i64 (accF s p (s[p].toNat % 16) (k - 1) : Nat) ∧ Hid (∀ j, 1 ≤ j → j < k → 128 ≤ (s.get! (p + j)).toNat ∧ (s.get! (p + j)).toNat < 192)) (fun _ i => 3 - (intOf i).toNat)
  case atStart => exact ⟨1, Nat.le_refl _, by omega, rfl, by simp [accF], fun j a b => by omega⟩
  case round =>
    obtain ⟨k, hk1, hk2, rfl, rfl, hco⟩ := hrel
    have hx0 := accF_lt s p (s[p].toNat % 16) (by omega) (k - 1) (by omega)
    by_cases hlt : k < 3
    · have hpk : p + k < s.size := by omega
      have hd0 : (s[p + k].toNat : Int) < 256 := by have := s[p + k].toNat_lt; omega
      have HG := Lib.hid (sure_byte s p k hpk)
      have HA : Hid (accF s p (s[p].toNat % 16) k = accF s p (s[p].toNat % 16) (k - 1) * 64 + s[p + k].toNat % 64) := by
        obtain ⟨j, rfl⟩ : ∃ j, k = j + 1 := ⟨k - 1, by omega⟩
        show _ = _
        rw [Nat.add_sub_cancel]
        simp only [accF]
        rw [HG.out]
      generalize accF s p (s[p].toNat % 16) (k - 1) = x at hx0 HA ⊢
      by_cases hb1 : (s[p + k].toNat : Int) < 128
      · have HD := Lib.hid (dec_3_no s p hp h1 h2 (Or.inr ⟨k, hk1, hlt, by rw [HG.out]; omega⟩))
        go_wp2
        go_ret2
        exact ⟨fin_bad HD.out, rfl⟩
      · by_cases hb2 : 192 ≤ (s[p + k].toNat : Int)
        · have HD := Lib.hid (dec_3_no s p hp h1 h2 (Or.inr ⟨k, hk1, hlt, by rw [HG.out]; omega⟩))
          go_wp2
          go_ret2
          exact ⟨fin_bad HD.out, rfl⟩
        · go_wp2
          go_round
          case rel =>
            refine ⟨k + 1, by omega, by omega, by go_num, ?_, ?_⟩
            · rw [Nat.add_sub_cancel, HA.out]; go_num
            · intro j a b
              by_cases e : j = k
              · subst e; rw [HG.out]; omega
              · exact hco.out j a (by omega)
          case measure => simp [intOf]; omega
    · obtain rfl : k = 3 := by omega
      simp only [Nat.reduceSub] at hx0 ⊢
      have HN := Lib.hid (dec_3_bad s p hp h1 h2)
      have HO := Lib.hid (dec_3_ok s p hp h1 h2 (by omega) hco.out)
      generalize accF s p (s[p].toNat % 16) 2 = x at hx0 HN HO ⊢
      by_cases c1 : (x : Int) < 2048
      · go_wp2
        go_ret2
        exact ⟨fin_bad (HN.out (by omega)), rfl⟩
      · by_cases c2 : 1114111 < (x : Int)
        · go_wp2
          go_ret2
          exact ⟨fin_bad (HN.out (by omega)), rfl⟩
        · by_cases c3 : 55296 ≤ (x : Int)
          · by_cases c4 : (x : Int) < 57344
            · go_wp2
              go_ret2
              exact ⟨fin_bad (HN.out (by omega)), rfl⟩
            · go_wp2
              go_ret2
              exact ⟨fin_ok (HO.out (by omega) (by omega) (by omega)) (by omega) rfl rfl, rfl⟩
          · go_wp2
            go_ret2
            exact ⟨fin_ok (HO.out (by omega) (by omega) (by omega)) (by omega) rfl rfl, rfl⟩

theorem dec_4_no (s : ByteArray) (p : Nat) (hp : p < s.size) (h1 : 240 ≤ (s[p].toNat : Int)) (h2 : (s[p].toNat : Int) < 245) (h : s.size < p + 4 ∨ ∃ j, 1 ≤ j ∧ j < 4 ∧ ¬ (128 ≤ (s.get! (p + j)).toNat ∧ (s.get! (p + j)).toNat < 192)) : Utf8.decode s p = (65533, 1) := by
  rw [Lib.decode_at, get_at s p hp]
  apply dN_4no _ _ _ _ _ (by omega) (by omega)
  rcases h with h | ⟨j, j1, j2, h⟩
  · left; omega
  · right
    match j, j1, j2, h with
    | 1, _, _, h => exact Or.inl h
    | 2, _, _, h => exact Or.inr (Or.inl h)
    | 3, _, _, h => exact Or.inr (Or.inr h)
    | j + 4, _, j2, _ => omega
theorem dec_4_bad (s : ByteArray) (p : Nat) (hp : p < s.size) (h1 : 240 ≤ (s[p].toNat : Int)) (h2 : (s[p].toNat : Int) < 245) (h : accF s p (s[p].toNat % 8) 3 < 65536 ∨ 1114111 < accF s p (s[p].toNat % 8) 3 ∨ (55296 ≤ accF s p (s[p].toNat % 8) 3 ∧ accF s p (s[p].toNat % 8) 3 < 57344)) : Utf8.decode s p = (65533, 1) := by
  rw [Lib.decode_at, get_at s p hp]
  simp only [accF, Nat.zero_add, Nat.reduceAdd] at h
  exact dN_4bad _ _ _ _ _ (by omega) (by omega) (by omega)
theorem dec_4_ok (s : ByteArray) (p : Nat) (hp : p < s.size) (h1 : 240 ≤ (s[p].toNat : Int)) (h2 : (s[p].toNat : Int) < 245) (hl : p + 4 ≤ s.size) (hc : ∀ j, 1 ≤ j → j < 4 → 128 ≤ (s.get! (p + j)).toNat ∧ (s.get! (p + j)).toNat < 192)
    (ha : ¬ accF s p (s[p].toNat % 8) 3 < 65536) (hb : ¬ 1114111 < accF s p (s[p].toNat % 8) 3) (_hd : ¬ (55296 ≤ accF s p (s[p].toNat % 8) 3 ∧ accF s p (s[p].toNat % 8) 3 < 57344)) : Utf8.decode s p = (accF s p (s[p].toNat % 8) 3, 4) := by
  rw [Lib.decode_at, get_at s p hp]
  simp only [accF, Nat.zero_add, Nat.reduceAdd] at ha hb ⊢
  exact dN_4ok _ _ _ _ _ (by omega) (by omega) (by omega) (hc 1 (by omega) (by omega)) (hc 2 (by omega) (by omega)) (hc 3 (by omega) (by omega)) ha hb

set_option maxHeartbeats 1000000 in
set_option maxRecDepth 1000000 in
theorem rune_4short (s : ByteArray) (p : Nat) (w : World) (hp : p < s.size) (_hs : s.size ≤ 1000000) (h1 : 240 ≤ (s[p].toNat : Int)) (h2 : (s[p].toNat : Int) < 245) (hl : (s.size : Int) < (p : Int) + 4) :
    Calls Tryz.prog 95 #[.string s, .int .i64 p] w fun e w' => e = .returned (.tuple #[.int .i64 ((refR s p).1 : Nat), .int .i64 ((refR s p).2 : Nat)]) ∧ w' = w := by
  have HD := Lib.hid (dec_4_no s p hp h1 h2 (Or.inl (by omega)))
  go_enter Tryz.func95, Tryz.ntmps95
  go_wp2
  go_ret2
  exact ⟨fin_bad HD.out, rfl⟩

set_option maxHeartbeats 2000000 in
set_option maxRecDepth 1000000 in
theorem rune_4long (s : ByteArray) (p : Nat) (w : World) (hp : p < s.size) (hs : s.size ≤ 1000000) (h1 : 240 ≤ (s[p].toNat : Int)) (h2 : (s[p].toNat : Int) < 245) (hl : (p : Int) + 4 ≤ (s.size : Int)) :
    Calls Tryz.prog 95 #[.string s, .int .i64 p] w fun e w' => e = .returned (.tuple #[.int .i64 ((refR s p).1 : Nat), .int .i64 ((refR s p).2 : Nat)]) ∧ w' = w := by
  have d1 : decide ((s[p].toNat : Int) < 128) = false := by simp; omega
  have d2 : decide ((s[p].toNat : Int) < 224) = false := by simp; omega
  have d3 : decide ((s[p].toNat : Int) < 240) = false := by simp; omega
  go_enter Tryz.func95, Tryz.ntmps95
  go_wp2
  go_loop [9, 10] (fun t i => ∃ k : Nat, 1 ≤ k ∧ k ≤ 4 ∧ i = .int .i64 k ∧ t = .int .i64 (accF s p (s[p].toNat % 8) (k - 1) : Nat) ∧ Hid (∀ j, 1 ≤ j → j < k → 128 ≤ (s.get! (p + j)).toNat ∧ (s.get! (p + j)).toNat < 192)) (fun _ i => 4 - (intOf i).toNat)
  case atStart => exact ⟨1, Nat.le_refl _, by omega, rfl, by simp [accF], fun j a b => by omega⟩
  case round =>
    obtain ⟨k, hk1, hk2, rfl, rfl, hco⟩ := hrel
    have hx0 := accF_lt s p (s[p].toNat % 8) (by omega) (k - 1) (by omega)
    by_cases hlt : k < 4
    · have hpk : p + k < s.size := by omega
      have hd0 : (s[p + k].toNat : Int) < 256 := by have := s[p + k].toNat_lt; omega
      have HG := Lib.hid (sure_byte s p k hpk)
      have HA : Hid (accF s p (s[p].toNat % 8) k = accF s p (s[p].toNat % 8) (k - 1) * 64 + s[p + k].toNat % 64) := by
        obtain ⟨j, rfl⟩ : ∃ j, k = j + 1 := ⟨k - 1, by omega⟩
        show _ = _
        rw [Nat.add_sub_cancel]
        simp only [accF]
        rw [HG.out]
      generalize accF s p (s[p].toNat % 8) (k - 1) = x at hx0 HA ⊢
      by_cases hb1 : (s[p + k].toNat : Int) < 128
      · have HD := Lib.hid (dec_4_no s p hp h1 h2 (Or.inr ⟨k, hk1, hlt, by rw [HG.out]; omega⟩))
        go_wp2
        go_ret2
        exact ⟨fin_bad HD.out, rfl⟩
      · by_cases hb2 : 192 ≤ (s[p + k].toNat : Int)
        · have HD := Lib.hid (dec_4_no s p hp h1 h2 (Or.inr ⟨k, hk1, hlt, by rw [HG.out]; omega⟩))
          go_wp2
          go_ret2
          exact ⟨fin_bad HD.out, rfl⟩
        · go_wp2
          go_round
          case rel =>
            refine ⟨k + 1, by omega, by omega, by go_num, ?_, ?_⟩
            · rw [Nat.add_sub_cancel, HA.out]; go_num
            · intro j a b
              by_cases e : j = k
              · subst e; rw [HG.out]; omega
              · exact hco.out j a (by omega)
          case measure => simp [intOf]; omega
    · obtain rfl : k = 4 := by omega
      simp only [Nat.reduceSub] at hx0 ⊢
      have HN := Lib.hid (dec_4_bad s p hp h1 h2)
      have HO := Lib.hid (dec_4_ok s p hp h1 h2 (by omega) hco.out)
      generalize accF s p (s[p].toNat % 8) 3 = x at hx0 HN HO ⊢
      by_cases c1 : (x : Int) < 65536
      · go_wp2
        go_ret2
        exact ⟨fin_bad (HN.out (by omega)), rfl⟩
      · by_cases c2 : 1114111 < (x : Int)
        · go_wp2
          go_ret2
          exact ⟨fin_bad (HN.out (by omega)), rfl⟩
        · by_cases c3 : 55296 ≤ (x : Int)
          · by_cases c4 : (x : Int) < 57344
            · go_wp2
              go_ret2
              exact ⟨fin_bad (HN.out (by omega)), rfl⟩
            · go_wp2
              go_ret2
              exact ⟨fin_ok (HO.out (by omega) (by omega) (by omega)) (by omega) rfl rfl, rfl⟩
          · go_wp2
            go_ret2
            exact ⟨fin_ok (HO.out (by omega) (by omega) (by omega)) (by omega) rfl rfl, rfl⟩

theorem rune_any (s : ByteArray) (p : Nat) (w : World) (hp : p < s.size) (hs : s.size ≤ 1000000) :
    Calls Tryz.prog 95 #[.string s, .int .i64 p] w fun e w' => e = .returned (.tuple #[.int .i64 ((refR s p).1 : Nat), .int .i64 ((refR s p).2 : Nat)]) ∧ w' = w := by
  have h0 : (s[p].toNat : Int) < 256 := by have := s[p].toNat_lt; omega
  by_cases h1 : (s[p].toNat : Int) < 128
  · exact rune_ascii s p w hp h1
  · by_cases h2 : (s[p].toNat : Int) < 194
    · exact rune_lead s p w hp h0 h1 (Or.inl h2)
    · by_cases h3 : (s[p].toNat : Int) < 224
      · by_cases hl : (p : Int) + 2 ≤ (s.size : Int)
        · exact rune_2long s p w hp hs (by omega) h3 hl
        · exact rune_2short s p w hp hs (by omega) h3 (by omega)
      · by_cases h4 : (s[p].toNat : Int) < 240
        · by_cases hl : (p : Int) + 3 ≤ (s.size : Int)
          · exact rune_3long s p w hp hs (by omega) h4 hl
          · exact rune_3short s p w hp hs (by omega) h4 (by omega)
        · by_cases h5 : (s[p].toNat : Int) < 245
          · by_cases hl : (p : Int) + 4 ≤ (s.size : Int)
            · exact rune_4long s p w hp hs (by omega) h5 hl
            · exact rune_4short s p w hp hs (by omega) h5 (by omega)
          · exact rune_lead s p w hp h0 h1 (Or.inr (by omega))
end Go.Proofs.YtlgkbdebpnbndaaGreatDoor
