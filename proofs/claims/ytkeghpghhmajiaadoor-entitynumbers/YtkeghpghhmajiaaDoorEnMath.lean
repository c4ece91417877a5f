
/- Signs that stand for runes: plain mathematics (no program in it). -/
import Derived.Test.YtkeghpghhmajiaaDoorTxUtf
import Derived.Lib.RuneBytes
namespace Go.Proofs.YtkeghpghhmajiaaDoor
set_option linter.unusedVariables false
set_option linter.unusedSimpArgs false

/-- Is it a rune's number? -/
def validR (v : Nat) : Bool := decide (v < 55296 ∨ (57344 ≤ v ∧ v ≤ 1114111))
theorem validR_iff {v : Nat} : validR v = true ↔ (v < 55296 ∨ (57344 ≤ v ∧ v ≤ 1114111)) := by simp [validR]
/-- A rune's bytes. -/
def encL (v : Nat) : List UInt8 := Lib.encodeRune (v : Int)
def bt (n : Nat) : UInt8 := n.toUInt8
theorem bt_nat {n : Nat} (h : n < 256) : (bt n).toNat = n := by simp [bt]; omega
theorem enc1 {v : Nat} (h : v < 128) : encL v = [bt v] := by
  unfold encL Lib.encodeRune
  rw [Lib.encodeRuneZ_one (by omega) (by omega)]; simp [bt]
theorem enc2 {v : Nat} (h : 128 ≤ v) (h' : v ≤ 2047) : encL v = [bt (192 + v / 64), bt (128 + v % 64)] := by
  unfold encL Lib.encodeRune
  rw [Lib.encodeRuneZ_two (by omega) (by omega)]
  simp only [List.map_cons, List.map_nil, bt]
  rw [show ((192 : Int) + (v : Int) / 64).toNat = 192 + v / 64 from by omega, show ((128 : Int) + (v : Int) % 64).toNat = 128 + v % 64 from by omega]
theorem enc3 {v : Nat} (h : (2048 ≤ v ∧ v < 55296) ∨ (57344 ≤ v ∧ v ≤ 65535)) : encL v = [bt (224 + v / 4096), bt (128 + v / 64 % 64), bt (128 + v % 64)] := by
  unfold encL Lib.encodeRune
  rw [Lib.encodeRuneZ_three (by omega)]
  simp only [List.map_cons, List.map_nil, bt]
  rw [show ((224 : Int) + (v : Int) / 4096).toNat = 224 + v / 4096 from by omega, show ((128 : Int) + (v : Int) / 64 % 64).toNat = 128 + v / 64 % 64 from by omega, show ((128 : Int) + (v : Int) % 64).toNat = 128 + v % 64 from by omega]
theorem enc4 {v : Nat} (h : 65536 ≤ v) (h' : v ≤ 1114111) : encL v = [bt (240 + v / 262144), bt (128 + v / 4096 % 64), bt (128 + v / 64 % 64), bt (128 + v % 64)] := by
  unfold encL Lib.encodeRune
  rw [Lib.encodeRuneZ_four (by omega) (by omega)]
  simp only [List.map_cons, List.map_nil, bt]
  rw [show ((240 : Int) + (v : Int) / 262144).toNat = 240 + v / 262144 from by omega, show ((128 : Int) + (v : Int) / 4096 % 64).toNat = 128 + v / 4096 % 64 from by omega, show ((128 : Int) + (v : Int) / 64 % 64).toNat = 128 + v / 64 % 64 from by omega, show ((128 : Int) + (v : Int) % 64).toNat = 128 + v % 64 from by omega]
theorem encL_len (v : Nat) : 1 ≤ (encL v).length ∧ (encL v).length ≤ 4 := by
  have := Lib.encodeRuneZ_length (v : Int)
  simpa [encL, Lib.encodeRune] using this

/-- The rune that bytes begin with, and how many bytes it has. -/
def decL (l : List UInt8) : Nat × Nat := Lib.decodeN l.length (l.getD 0 0).toNat (l.getD 1 0).toNat (l.getD 2 0).toNat (l.getD 3 0).toNat
theorem decL_at (s : ByteArray) (p : Nat) : Utf8.decode s p = decL (s.data.toList.drop p) := by
  rw [Lib.decode_at]
  unfold decL
  rw [List.length_drop, drop_getD, drop_getD, drop_getD, drop_getD, ← get_eqT, ← get_eqT, ← get_eqT, ← get_eqT, ← Lib.size_eq]
  rfl
theorem dn_back2 (n b2 b3 v : Nat) (hn : 2 ≤ n) (h : 128 ≤ v) (h' : v ≤ 2047) : Lib.decodeN n (192 + v / 64) (128 + v % 64) b2 b3 = (v, 2) := by
  unfold Lib.decodeN
  repeat' split
  all_goals first | (exfalso; omega) | (apply Prod.ext <;> simp only <;> omega)
theorem dn_back3 (n b3 v : Nat) (hn : 3 ≤ n) (h : (2048 ≤ v ∧ v < 55296) ∨ (57344 ≤ v ∧ v ≤ 65535)) : Lib.decodeN n (224 + v / 4096) (128 + v / 64 % 64) (128 + v % 64) b3 = (v, 3) := by
  unfold Lib.decodeN
  repeat' split
  all_goals first | (exfalso; omega) | (apply Prod.ext <;> simp only <;> omega)
theorem dn_back4 (n v : Nat) (hn : 4 ≤ n) (h : 65536 ≤ v) (h' : v ≤ 1114111) : Lib.decodeN n (240 + v / 262144) (128 + v / 4096 % 64) (128 + v / 64 % 64) (128 + v % 64) = (v, 4) := by
  unfold Lib.decodeN
  repeat' split
  all_goals first | (exfalso; omega) | (apply Prod.ext <;> simp only <;> omega)
/-- A rune's bytes are read as that rune, whatever stands behind. -/
theorem encL_dec (v : Nat) (hv : validR v = true) (t : List UInt8) : decL (encL v ++ t) = (v, (encL v).length) := by
  have hv' := validR_iff.1 hv
  by_cases h1 : v < 128
  · rw [enc1 h1]; unfold decL
    simp only [List.cons_append, List.nil_append, List.getD_cons_zero, List.length_cons, List.length_nil]
    rw [bt_nat (by omega)]; exact dNT_ascii _ _ _ _ _ h1
  · by_cases h2 : v ≤ 2047
    · rw [enc2 (by omega) h2]; unfold decL
      simp only [List.cons_append, List.nil_append, List.getD_cons_zero, List.getD_cons_succ, List.length_cons, List.length_nil]
      rw [bt_nat (by omega), bt_nat (by omega)]; exact dn_back2 _ _ _ _ (by omega) (by omega) h2
    · by_cases h3 : v ≤ 65535
      · rw [enc3 (by omega)]; unfold decL
        simp only [List.cons_append, List.nil_append, List.getD_cons_zero, List.getD_cons_succ, List.length_cons, List.length_nil]
        rw [bt_nat (by omega), bt_nat (by omega), bt_nat (by omega)]; exact dn_back3 _ _ _ (by omega) (by omega)
      · rw [enc4 (by omega) (by omega)]; unfold decL
        simp only [List.cons_append, List.nil_append, List.getD_cons_zero, List.getD_cons_succ, List.length_cons, List.length_nil]
        rw [bt_nat (by omega), bt_nat (by omega), bt_nat (by omega), bt_nat (by omega)]; exact dn_back4 _ _ (by omega) (by omega) (by omega)
theorem dn_cases (n b0 b1 b2 b3 : Nat) (h0 : b0 < 256) (h1 : b1 < 256) (h2 : b2 < 256) (h3 : b3 < 256) (hb : Lib.decodeN n b0 b1 b2 b3 ≠ (65533, 1)) :
    b0 < 128 ∨ (∃ v, 2 ≤ n ∧ 128 ≤ v ∧ v ≤ 2047 ∧ b0 = 192 + v / 64 ∧ b1 = 128 + v % 64) ∨
    (∃ v, 3 ≤ n ∧ ((2048 ≤ v ∧ v < 55296) ∨ (57344 ≤ v ∧ v ≤ 65535)) ∧ b0 = 224 + v / 4096 ∧ b1 = 128 + v / 64 % 64 ∧ b2 = 128 + v % 64) ∨
    (∃ v, 4 ≤ n ∧ 65536 ≤ v ∧ v ≤ 1114111 ∧ b0 = 240 + v / 262144 ∧ b1 = 128 + v / 4096 % 64 ∧ b2 = 128 + v / 64 % 64 ∧ b3 = 128 + v % 64) := by
  revert hb
  unfold Lib.decodeN
  split
  · intro _; left; assumption
  split
  · split
    · intro _; right; left; exact ⟨b0 % 32 * 64 + b1 % 64, by omega⟩
    · intro h; exact absurd rfl h
  split
  · split
    · intro _; right; right; left; exact ⟨b0 % 16 * 4096 + b1 % 64 * 64 + b2 % 64, by omega⟩
    · intro h; exact absurd rfl h
  split
  · split
    · intro _; right; right; right; exact ⟨b0 % 8 * 262144 + b1 % 64 * 4096 + b2 % 64 * 64 + b3 % 64, by omega⟩
    · intro h; exact absurd rfl h
  · intro h; exact absurd rfl h
theorem bt_of {c : UInt8} {n : Nat} (h : c.toNat = n) : c = bt n := by subst h; simp [bt]
/-- Where no fault is met, bytes begin with a rune's bytes. -/
theorem decL_enc (l : List UInt8) (hl : l ≠ []) (hb : decL l ≠ (65533, 1)) : ∃ v t, validR v = true ∧ l = encL v ++ t := by
  unfold decL at hb
  rcases dn_cases _ _ _ _ _ (UInt8.toNat_lt _) (UInt8.toNat_lt _) (UInt8.toNat_lt _) (UInt8.toNat_lt _) hb with h | ⟨v, h⟩ | ⟨v, h⟩ | ⟨v, h⟩
  · match l, hl with
    | c :: t, _ =>
      simp only [List.getD_cons_zero] at h
      exact ⟨c.toNat, t, validR_iff.2 (by omega), by rw [enc1 h, ← bt_of rfl]; rfl⟩
  · match l, h with
    | c :: d :: t, h =>
      simp only [List.getD_cons_zero, List.getD_cons_succ] at h
      obtain ⟨_, a, b, e0, e1⟩ := h
      exact ⟨v, t, validR_iff.2 (by omega), by rw [enc2 a b, ← bt_of e0, ← bt_of e1]; rfl⟩
    | [c], h => simp at h
    | [], h => simp at h
  · match l, h with
    | c :: d :: e :: t, h =>
      simp only [List.getD_cons_zero, List.getD_cons_succ] at h
      obtain ⟨_, a, e0, e1, e2⟩ := h
      exact ⟨v, t, validR_iff.2 (by omega), by rw [enc3 a, ← bt_of e0, ← bt_of e1, ← bt_of e2]; rfl⟩
    | [c, d], h => simp at h
    | [c], h => simp at h
    | [], h => simp at h
  · match l, h with
    | c :: d :: e :: f :: t, h =>
      simp only [List.getD_cons_zero, List.getD_cons_succ] at h
      obtain ⟨_, a, b, e0, e1, e2, e3⟩ := h
      exact ⟨v, t, validR_iff.2 (by omega), by rw [enc4 a b, ← bt_of e0, ← bt_of e1, ← bt_of e2, ← bt_of e3]; rfl⟩
    | [c, d, e], h => simp at h
    | [c, d], h => simp at h
    | [c], h => simp at h
    | [], h => simp at h
/-- A rune's bytes: one below 128, or all from 128 on. -/
theorem encL_high (v : Nat) (hv : validR v = true) (h : 128 ≤ v) : ∀ c ∈ encL v, 128 ≤ c.toNat := by
  have hv' := validR_iff.1 hv
  intro c hc
  by_cases h2 : v ≤ 2047
  · rw [enc2 h h2] at hc
    simp only [List.mem_cons, List.not_mem_nil, or_false] at hc
    rcases hc with rfl | rfl <;> rw [bt_nat (by omega)] <;> omega
  · by_cases h3 : v ≤ 65535
    · rw [enc3 (by omega)] at hc
      simp only [List.mem_cons, List.not_mem_nil, or_false] at hc
      rcases hc with rfl | rfl | rfl <;> rw [bt_nat (by omega)] <;> omega
    · rw [enc4 (by omega) (by omega)] at hc
      simp only [List.mem_cons, List.not_mem_nil, or_false] at hc
      rcases hc with rfl | rfl | rfl | rfl <;> rw [bt_nat (by omega)] <;> omega
theorem enc_ne (v : Nat) : encL v ≠ [] := fun h => by have := (encL_len v).1; rw [h] at this; simp at this
theorem enc_byte (c : UInt8) (h : c.toNat < 128) : encL c.toNat = [c] := by rw [enc1 h, ← bt_of rfl]
/-- The rune's bytes are not those of a fault. -/
theorem enc_fine (v : Nat) (hv : validR v = true) (t : List UInt8) : decL (encL v ++ t) ≠ (65533, 1) := by
  rw [encL_dec v hv t]
  intro h
  have h1 := congrArg Prod.fst h
  have h2 := congrArg Prod.snd h
  simp only at h1 h2
  subst h1
  rw [enc3 (by omega)] at h2
  simp at h2

/-- Are bytes runes' bytes, one behind the other? -/
def vldL : Nat → List UInt8 → Bool
  | 0, _ => true
  | f + 1, l => if l = [] then true else if decL l = (65533, 1) then false else vldL f (l.drop (decL l).2)
theorem vldL_nil (f : Nat) : vldL f [] = true := by cases f <;> rfl
theorem vldL_enc (f v : Nat) (hv : validR v = true) (t : List UInt8) : vldL (f + 1) (encL v ++ t) = vldL f t := by
  have h0 : encL v ++ t ≠ [] := by simp [enc_ne v]
  rw [vldL, if_neg h0, if_neg (enc_fine v hv t), encL_dec v hv t]
  simp
theorem vldL_bad (f : Nat) (l : List UInt8) (hl : l ≠ []) (hb : decL l = (65533, 1)) : vldL (f + 1) l = false := by
  rw [vldL, if_neg hl, if_pos hb]
theorem vldL_fuel : ∀ (f g : Nat) (l : List UInt8), l.length ≤ f → l.length ≤ g → vldL f l = vldL g l
  | 0, g, l, hf, _ => by
    obtain rfl : l = [] := List.length_eq_zero_iff.1 (by omega)
    rw [vldL_nil, vldL_nil]
  | f + 1, 0, l, _, hg => by
    obtain rfl : l = [] := List.length_eq_zero_iff.1 (by omega)
    rw [vldL_nil, vldL_nil]
  | f + 1, g + 1, l, hf, hg => by
    by_cases hl : l = []
    · subst hl; rw [vldL_nil, vldL_nil]
    · by_cases hb : decL l = (65533, 1)
      · rw [vldL_bad f l hl hb, vldL_bad g l hl hb]
      · obtain ⟨v, t, hv, rfl⟩ := decL_enc l hl hb
        rw [vldL_enc f v hv, vldL_enc g v hv]
        have := (encL_len v).1
        simp only [List.length_append] at hf hg
        exact vldL_fuel f g t (by omega) (by omega)
def V (l : List UInt8) : Bool := vldL l.length l
theorem V_nil : V [] = true := rfl
theorem V_enc (v : Nat) (hv : validR v = true) (t : List UInt8) : V (encL v ++ t) = V t := by
  have h1 := (encL_len v).1
  unfold V
  rw [vldL_fuel (encL v ++ t).length (t.length + (encL v).length - 1 + 1) _ (Nat.le_refl _) (by simp; omega), vldL_enc _ v hv]
  exact vldL_fuel _ _ t (by omega) (Nat.le_refl _)
theorem V_bad (l : List UInt8) (hl : l ≠ []) (hb : decL l = (65533, 1)) : V l = false := by
  unfold V
  rw [vldL_fuel l.length (l.length + 1) l (Nat.le_refl _) (by omega)]
  exact vldL_bad _ l hl hb
/-- A text that may be and is not empty begins with a rune's bytes. -/
theorem V_open {l : List UInt8} (h : V l = true) (hl : l ≠ []) : ∃ v t, validR v = true ∧ l = encL v ++ t ∧ V t = true := by
  have hb : decL l ≠ (65533, 1) := fun hb => by rw [V_bad l hl hb] at h; cases h
  obtain ⟨v, t, hv, rfl⟩ := decL_enc l hl hb
  exact ⟨v, t, hv, rfl, by rwa [V_enc v hv t] at h⟩
theorem V_ind {P : List UInt8 → Prop} (h0 : P []) (h1 : ∀ v t, validR v = true → V t = true → P t → P (encL v ++ t)) : ∀ (n : Nat) (l : List UInt8), l.length ≤ n → V l = true → P l
  | 0, l, hn, _ => by
    obtain rfl : l = [] := List.length_eq_zero_iff.1 (by omega)
    exact h0
  | n + 1, l, hn, h => by
    by_cases hl : l = []
    · subst hl; exact h0
    · obtain ⟨v, t, hv, rfl, ht⟩ := V_open h hl
      have := (encL_len v).1
      rw [List.length_append] at hn
      exact h1 v t hv ht (V_ind h0 h1 n t (by omega) ht)
theorem V_byte (c : UInt8) (h : c.toNat < 128) (t : List UInt8) : V (c :: t) = V t := by
  have := V_enc c.toNat (validR_iff.2 (by omega)) t
  rwa [enc_byte c h] at this
theorem V_ascii : ∀ (a t : List UInt8), (∀ c ∈ a, c.toNat < 128) → V (a ++ t) = V t
  | [], t, _ => rfl
  | c :: a, t, h => by
    rw [List.cons_append, V_byte c (h c (by simp)), V_ascii a t (fun d hd => h d (by simp [hd]))]
/-- The program's check of a text is this one. -/
theorem vldFrom_L (s : ByteArray) : ∀ f pos, vldFrom s f pos = vldL f (s.data.toList.drop pos)
  | 0, pos => rfl
  | f + 1, pos => by
    have hlen : s.data.toList.length = s.size := by rw [← Lib.size_eq]
    by_cases hp : pos < s.size
    · have hne : s.data.toList.drop pos ≠ [] := fun h => by
        have := congrArg List.length h
        rw [List.length_drop, hlen] at this; simp at this; omega
      cases hb : badAt s pos with
      | true =>
        rw [vldFrom_bad s f pos hp hb]
        have := (bad_iff s pos).1 hb
        rw [decL_at] at this
        rw [vldL_bad f _ hne this]
      | false =>
        have hd : decL (s.data.toList.drop pos) ≠ (65533, 1) := fun h => by
          rw [← decL_at] at h
          have := (bad_iff s pos).2 h
          rw [hb] at this; cases this
        rw [vldFrom_step s f pos hp hb, vldFrom_L s f, vldL, if_neg hne, if_neg hd, List.drop_drop, decL_at]
    · rw [vldFrom_end s (f + 1) pos hp, List.drop_of_length_le (by omega), vldL_nil]
theorem vld_V (s : ByteArray) : vld s = V s.data.toList := by
  unfold vld V
  rw [vldFrom_L, List.drop_zero, ← Lib.size_eq]
/-- The runes of a text. -/
theorem runesFrom_enc (s : ByteArray) (f pos v : Nat) (t : List UInt8) (hv : validR v = true) (h : s.data.toList.drop pos = encL v ++ t) : runesFrom s (f + 1) pos = v :: runesFrom s f (pos + (encL v).length) := by
  have hlen : s.data.toList.length = s.size := by rw [← Lib.size_eq]
  have hp : pos < s.size := by
    have := congrArg List.length h
    rw [List.length_drop, hlen, List.length_append] at this
    have := (encL_len v).1
    omega
  rw [runesFrom_step s f pos hp, decL_at, h, encL_dec v hv]
theorem runes_one (v : Nat) (hv : validR v = true) : runesOf ⟨(encL v).toArray⟩ = [v] := by
  have h1 := (encL_len v).1
  have hd : (⟨(encL v).toArray⟩ : ByteArray).data.toList = encL v := rfl
  have hs : (⟨(encL v).toArray⟩ : ByteArray).size = (encL v).length := by rw [Lib.size_eq]
  unfold runesOf
  rw [hs]
  obtain ⟨k, hk⟩ : ∃ k, (encL v).length = k + 1 := ⟨(encL v).length - 1, by omega⟩
  rw [hk, runesFrom_enc _ k 0 v [] hv (by rw [hd]; simp), runesFrom_end]
  rw [hs]; omega
end Go.Proofs.YtkeghpghhmajiaaDoor
