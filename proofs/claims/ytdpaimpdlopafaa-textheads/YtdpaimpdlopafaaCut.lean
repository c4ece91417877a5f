/- Plain facts: the beginning of a text that may be, cut behind so many runes, may be, and has so many runes. -/
import Derived.Test.YtdpaimpdlopafaaUtfMore
namespace Go.Proofs.Ytdpaimpdlopafaa

theorem dN_cut (n n' b0 b1 b2 b3 c1 c2 c3 v k : Nat) (hb : b0 < 256) (e1 : 1 < n' → c1 = b1) (e2 : 2 < n' → c2 = b2) (e3 : 3 < n' → c3 = b3)
    (h : Lib.decodeN n b0 b1 b2 b3 = (v, k)) (hok : (v, k) ≠ (65533, 1)) (hk : k ≤ n') : Lib.decodeN n' b0 c1 c2 c3 = (v, k) := by
  by_cases h0 : b0 < 128
  · rw [dN_ascii _ _ _ _ _ h0] at h ⊢; exact h
  by_cases h1 : b0 < 194 ∨ 245 ≤ b0
  · rw [dN_lead _ _ _ _ _ hb h0 h1] at h; exact absurd h.symm hok
  by_cases h2 : b0 < 224
  · by_cases hx : n < 2 ∨ ¬ (128 ≤ b1 ∧ b1 < 192)
    · rw [dN_2no _ _ _ _ _ (by omega) h2 hx] at h; exact absurd h.symm hok
    · rw [dN_2ok _ _ _ _ _ (by omega) h2 (by omega) (by omega)] at h
      have hk2 : k = 2 := (congrArg Prod.snd h).symm
      rw [dN_2ok _ _ _ _ _ (by omega) h2 (by omega) (by rw [e1 (by omega)]; omega), e1 (by omega)]; exact h
  by_cases h3 : b0 < 240
  · by_cases hx : n < 3 ∨ ¬ (128 ≤ b1 ∧ b1 < 192) ∨ ¬ (128 ≤ b2 ∧ b2 < 192)
    · rw [dN_3no _ _ _ _ _ (by omega) h3 hx] at h; exact absurd h.symm hok
    · by_cases hy : (b0 % 16 * 64 + b1 % 64) * 64 + b2 % 64 < 2048 ∨ (55296 ≤ (b0 % 16 * 64 + b1 % 64) * 64 + b2 % 64 ∧ (b0 % 16 * 64 + b1 % 64) * 64 + b2 % 64 < 57344)
      · rw [dN_3bad _ _ _ _ _ (by omega) h3 hy] at h; exact absurd h.symm hok
      · rw [dN_3ok _ _ _ _ _ (by omega) h3 (by omega) (by omega) (by omega) (by omega) (by omega)] at h
        have hk2 : k = 3 := (congrArg Prod.snd h).symm
        rw [e1 (by omega), e2 (by omega), dN_3ok _ _ _ _ _ (by omega) h3 (by omega) (by omega) (by omega) (by omega) (by omega)]; exact h
  · by_cases hx : n < 4 ∨ ¬ (128 ≤ b1 ∧ b1 < 192) ∨ ¬ (128 ≤ b2 ∧ b2 < 192) ∨ ¬ (128 ≤ b3 ∧ b3 < 192)
    · rw [dN_4no _ _ _ _ _ (by omega) (by omega) hx] at h; exact absurd h.symm hok
    · by_cases hy : ((b0 % 8 * 64 + b1 % 64) * 64 + b2 % 64) * 64 + b3 % 64 < 65536 ∨ 1114111 < ((b0 % 8 * 64 + b1 % 64) * 64 + b2 % 64) * 64 + b3 % 64
      · rw [dN_4bad _ _ _ _ _ (by omega) (by omega) hy] at h; exact absurd h.symm hok
      · rw [dN_4ok _ _ _ _ _ (by omega) (by omega) (by omega) (by omega) (by omega) (by omega) (by omega) (by omega)] at h
        have hk2 : k = 4 := (congrArg Prod.snd h).symm
        rw [e1 (by omega), e2 (by omega), e3 (by omega), dN_4ok _ _ _ _ _ (by omega) (by omega) (by omega) (by omega) (by omega) (by omega) (by omega) (by omega)]; exact h

theorem cut_size (s : ByteArray) (q : Nat) (h : q ≤ s.size) : (s.extract 0 q).size = q := by
  rw [ByteArray.size_extract]; omega
theorem cut_get (s : ByteArray) (q i : Nat) (h : i < q) : (s.extract 0 q).get! i = s.get! i := by
  rw [get_eq, get_eq, Lib.extract_data, List.drop_zero, Nat.sub_zero, List.getD_eq_getElem?_getD, List.getD_eq_getElem?_getD, List.getElem?_take, if_pos h]
theorem cut_decode (s : ByteArray) (q pos : Nat) (hq : q ≤ s.size) (hb : badAt s pos = false) (hw : pos + (Utf8.decode s pos).2 ≤ q) (hp : pos < q) : Utf8.decode (s.extract 0 q) pos = Utf8.decode s pos := by
  have hok : Utf8.decode s pos ≠ (65533, 1) := fun h => by
    have := (bad_iff s pos).2 h
    rw [hb] at this; simp at this
  generalize hd : Utf8.decode s pos = d at hok hw ⊢
  obtain ⟨v, k⟩ := d
  rw [Lib.decode_at] at hd
  rw [Lib.decode_at, cut_size s q hq, cut_get s q pos hp]
  refine dN_cut _ _ _ _ _ _ _ _ _ v k (byte_lt s pos) (fun h => ?_) (fun h => ?_) (fun h => ?_) hd hok (by simp only at hw; omega)
  · rw [cut_get s q _ (by omega)]
  · rw [cut_get s q _ (by omega)]
  · rw [cut_get s q _ (by omega)]
theorem cut_good (s : ByteArray) (q pos : Nat) (hq : q ≤ s.size) (hb : badAt s pos = false) (hw : pos + (Utf8.decode s pos).2 ≤ q) (hp : pos < q) : badAt (s.extract 0 q) pos = false := by
  cases h : badAt (s.extract 0 q) pos with
  | false => rfl
  | true =>
    have h1 := (bad_iff _ _).1 h
    rw [cut_decode s q pos hq hb hw hp] at h1
    have := (bad_iff s pos).2 h1
    rw [hb] at this; simp at this

theorem place_ge (s : ByteArray) : ∀ m pos, pos ≤ placeFrom s m pos
  | 0, pos => Nat.le_refl _
  | m + 1, pos => by
    have := place_ge s m (pos + (Utf8.decode s pos).2)
    simp only [placeFrom]
    split
    · omega
    · exact Nat.le_refl _
theorem place_le (s : ByteArray) : ∀ m pos, pos ≤ s.size → placeFrom s m pos ≤ s.size
  | 0, pos, h => h
  | m + 1, pos, h => by
    simp only [placeFrom]
    split
    · next hp => exact place_le s m _ (decode_fits s pos hp)
    · exact h

theorem goodC (s : ByteArray) (b pos : Nat) (hp : pos < s.size) (hb : s.size ≤ pos + b) (h : vldFrom s b pos = true) : badAt s pos = false ∧ vldFrom s (b - 1) (pos + (Utf8.decode s pos).2) = true := by
  obtain ⟨b, rfl⟩ : ∃ b', b = b' + 1 := ⟨b - 1, by omega⟩
  cases hq : badAt s pos with
  | true => rw [vldFrom_bad s b pos hp hq] at h; simp at h
  | false => rw [vldFrom_step s b pos hp hq] at h; exact ⟨rfl, h⟩

theorem cut_vld (s : ByteArray) (q : Nat) (hq : q ≤ s.size) : ∀ m b pos f, pos ≤ s.size → s.size ≤ pos + b → vldFrom s b pos = true → placeFrom s m pos = q → vldFrom (s.extract 0 q) f pos = true
  | 0, b, pos, f, _, _, _, h => by
    have e : pos = q := h
    exact vldFrom_end _ _ _ (by rw [cut_size s q hq]; omega)
  | m + 1, b, pos, f, hps, hb, hv, h => by
    by_cases hp : pos < s.size
    · simp only [placeFrom, hp, if_true] at h
      obtain ⟨hg, hn⟩ := goodC s b pos hp hb hv
      have hwd := Lib.decode_width_pos s pos hp
      have hge := place_ge s m (pos + (Utf8.decode s pos).2)
      have hcd := cut_decode s q pos hq hg (by omega) (by omega)
      cases f with
      | zero => rfl
      | succ f =>
        rw [vldFrom_step _ f pos (by rw [cut_size s q hq]; omega) (cut_good s q pos hq hg (by omega) (by omega)), hcd]
        exact cut_vld s q hq m (b - 1) _ f (decode_fits s pos hp) (by omega) hn h
    · simp only [placeFrom, hp, if_false] at h
      exact vldFrom_end _ _ _ (by rw [cut_size s q hq]; omega)

theorem cut_count (s : ByteArray) (q : Nat) (hq : q ≤ s.size) : ∀ m b pos f, pos ≤ s.size → s.size ≤ pos + b → vldFrom s b pos = true → placeFrom s m pos = q → m ≤ Lib.runeCountFrom s b pos → q ≤ pos + f → Lib.runeCountFrom (s.extract 0 q) f pos = m
  | 0, b, pos, f, _, _, _, h, _, _ => by
    have e : pos = q := h
    exact Lib.runeCountFrom_end _ _ _ (by rw [cut_size s q hq]; omega)
  | m + 1, b, pos, f, hps, hb, hv, h, hm, hf => by
    by_cases hp : pos < s.size
    · simp only [placeFrom, hp, if_true] at h
      obtain ⟨hg, hn⟩ := goodC s b pos hp hb hv
      have hwd := Lib.decode_width_pos s pos hp
      have hge := place_ge s m (pos + (Utf8.decode s pos).2)
      have hcd := cut_decode s q pos hq hg (by omega) (by omega)
      obtain ⟨f, rfl⟩ : ∃ f', f = f' + 1 := ⟨f - 1, by omega⟩
      obtain ⟨b, rfl⟩ : ∃ b', b = b' + 1 := ⟨b - 1, by omega⟩
      have hlt : pos < (s.extract 0 q).size := by rw [cut_size s q hq]; omega
      simp only [Lib.runeCountFrom, hp, if_true] at hm
      simp only [Lib.runeCountFrom, hlt, if_true, hcd]
      rw [cut_count s q hq m b _ f (decode_fits s pos hp) (by omega) hn h (by omega) (by omega)]
      omega
    · rw [Lib.runeCountFrom_end s b pos hp] at hm; omega

theorem head_vld (s : ByteArray) (n : Nat) (h : vld s = true) : vld (s.extract 0 (placeFrom s n 0)) = true :=
  cut_vld s _ (place_le s n 0 (Nat.zero_le _)) n s.size 0 _ (Nat.zero_le _) (by omega) h rfl
theorem head_count (s : ByteArray) (n : Nat) (h : vld s = true) (hn : n ≤ Lib.runeCount s) : Lib.runeCount (s.extract 0 (placeFrom s n 0)) = n :=
  cut_count s _ (place_le s n 0 (Nat.zero_le _)) n s.size 0 _ (Nat.zero_le _) (by omega) h rfl hn (by rw [cut_size s _ (place_le s n 0 (Nat.zero_le _))]; omega)

end Go.Proofs.Ytdpaimpdlopafaa
