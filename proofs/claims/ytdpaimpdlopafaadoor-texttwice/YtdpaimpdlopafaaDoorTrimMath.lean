/- Plain facts: what a text is without white at its ends, byte by byte and rune by rune: both are one. -/
import Derived.Test.YtdpaimpdlopafaaDoorUtf
import Derived.Lib.TrimUEq
import Derived.Shelf.GgClosure.StringsTrimFunc
namespace Go.Proofs.YtdpaimpdlopafaaDoor

/-- Is a byte white? -/
def whB (c : UInt8) : Bool := c == 32 || c == 9 || c == 10 || c == 13
def whN (r : Nat) : Bool := whiteR (r : Int)
theorem whN_eq (c : UInt8) : whN c.toNat = whB c := by
  unfold whN whiteR whB
  rw [Bool.eq_iff_iff]
  simp only [Bool.or_eq_true, beq_iff_eq]
  have h : ∀ (k : UInt8), ((c.toNat : Int) = (k.toNat : Int) ↔ c = k) := fun k => ⟨fun h => UInt8.toNat_inj.1 (by omega), fun h => by rw [h]⟩
  have h1 := h 32; have h2 := h 9; have h3 := h 10; have h4 := h 13
  simp only [show UInt8.toNat 32 = 32 from rfl, show UInt8.toNat 9 = 9 from rfl, show UInt8.toNat 10 = 10 from rfl, show UInt8.toNat 13 = 13 from rfl] at h1 h2 h3 h4
  have e1 : ((c.toNat : Int) = 32 ↔ c = 32) := h1
  have e2 : ((c.toNat : Int) = 9 ↔ c = 9) := h2
  have e3 : ((c.toNat : Int) = 10 ↔ c = 10) := h3
  have e4 : ((c.toNat : Int) = 13 ↔ c = 13) := h4
  rw [e1, e2, e3, e4]
theorem whN_lt {r : Nat} (h : whN r = true) : r < 128 := by
  unfold whN whiteR at h
  simp only [Bool.or_eq_true, beq_iff_eq] at h
  omega
theorem whN_big {r : Nat} (h : 128 ≤ r) : whN r = false := by
  cases hw : whN r with
  | false => rfl
  | true => have := whN_lt hw; omega
theorem whB_lt {c : UInt8} (h : whB c = true) : c.toNat < 128 := whN_lt (by rw [whN_eq]; exact h)
theorem whB_big {c : UInt8} (h : 128 ≤ c.toNat) : whB c = false := by rw [← whN_eq]; exact whN_big h

theorem dN_small (n b0 b1 b2 b3 : Nat) (h : (Lib.decodeN n b0 b1 b2 b3).1 < 128) : b0 < 128 := by
  revert h
  unfold Lib.decodeN
  repeat' split
  all_goals (intro h; simp only at h; omega)
theorem dN_conts (n b0 b1 b2 b3 : Nat) : (1 < (Lib.decodeN n b0 b1 b2 b3).2 → 128 ≤ b1) ∧ (2 < (Lib.decodeN n b0 b1 b2 b3).2 → 128 ≤ b2) ∧ (3 < (Lib.decodeN n b0 b1 b2 b3).2 → 128 ≤ b3) ∧ (Lib.decodeN n b0 b1 b2 b3).2 ≤ 4 := by
  unfold Lib.decodeN
  repeat' split
  all_goals (simp only; refine ⟨fun _ => ?_, fun _ => ?_, fun _ => ?_, ?_⟩ <;> omega)

/-- A rune is white just where its first byte is; then it is that byte alone. -/
theorem white_at (s : ByteArray) (p : Nat) : whN (Utf8.decode s p).1 = whB (s.data.toList.getD p 0) := by
  rw [Lib.decode_at, get_eq]
  by_cases h : (s.data.toList.getD p 0).toNat < 128
  · rw [dN_ascii _ _ _ _ _ h]; exact whN_eq _
  · rw [whB_big (by omega)]
    cases hw : whN (Lib.decodeN (s.size - p) (s.data.toList.getD p 0).toNat (s.get! (p + 1)).toNat (s.get! (p + 2)).toNat (s.get! (p + 3)).toNat).1 with
    | false => rfl
    | true => exact absurd (dN_small _ _ _ _ _ (whN_lt hw)) h
theorem white_width (s : ByteArray) (p : Nat) (h : whB (s.data.toList.getD p 0) = true) : (Utf8.decode s p).2 = 1 := by
  rw [Lib.decode_at, get_eq, dN_ascii _ _ _ _ _ (whB_lt h)]
/-- Of a rune that is not white no byte is. -/
theorem rest_plain (s : ByteArray) (p j : Nat) (h0 : whB (s.data.toList.getD p 0) = false) (hj : j < (Utf8.decode s p).2) : whB (s.data.toList.getD (p + j) 0) = false := by
  rw [Lib.decode_at, get_eq, get_eq, get_eq, get_eq] at hj
  obtain ⟨c1, c2, c3, c4⟩ := dN_conts (s.size - p) (s.data.toList.getD p 0).toNat (s.data.toList.getD (p + 1) 0).toNat (s.data.toList.getD (p + 2) 0).toNat (s.data.toList.getD (p + 3) 0).toNat
  match j, hj with
  | 0, _ => exact h0
  | 1, hj => exact whB_big (c1 hj)
  | 2, hj => exact whB_big (c2 hj)
  | 3, hj => exact whB_big (c3 hj)
  | j + 4, hj => omega

/-- From a to b there is what is left without white at the ends. -/
def IsTrim (l : List UInt8) (a b : Nat) : Prop :=
  a ≤ b ∧ b ≤ l.length ∧ (∀ j, j < a → whB (l.getD j 0) = true) ∧ (∀ j, b ≤ j → j < l.length → whB (l.getD j 0) = true) ∧ (a < b → whB (l.getD a 0) = false ∧ whB (l.getD (b - 1) 0) = false)
theorem isTrim_one {l : List UInt8} {a b a' b' : Nat} (h : IsTrim l a b) (h' : IsTrim l a' b') : (l.drop a).take (b - a) = (l.drop a').take (b' - a') := by
  obtain ⟨h1, h2, h3, h4, h5⟩ := h
  obtain ⟨g1, g2, g3, g4, g5⟩ := h'
  by_cases e : a < b
  · obtain ⟨w1, w2⟩ := h5 e
    have ha' : a' ≤ a := by
      rcases Nat.lt_or_ge a a' with h | h
      · have := g3 a h; rw [w1] at this; simp at this
      · exact h
    have hb' : b ≤ b' := by
      rcases Nat.lt_or_ge (b - 1) b' with h | h
      · omega
      · have := g4 (b - 1) h (by omega); rw [w2] at this; simp at this
    obtain ⟨v1, v2⟩ := g5 (by omega)
    have ha : a ≤ a' := by
      rcases Nat.lt_or_ge a' a with h | h
      · have := h3 a' h; rw [v1] at this; simp at this
      · exact h
    have hb : b' ≤ b := by
      rcases Nat.lt_or_ge (b' - 1) b with h | h
      · omega
      · have := h4 (b' - 1) h (by omega); rw [v2] at this; simp at this
    rw [show a = a' by omega, show b = b' by omega]
  · have e' : ¬ a' < b' := fun e' => by
      obtain ⟨v1, _⟩ := g5 e'
      rcases Nat.lt_or_ge a' a with h | h
      · have := h3 a' h; rw [v1] at this; simp at this
      · have := h4 a' (by omega) (by omega); rw [v1] at this; simp at this
    rw [show b - a = 0 by omega, show b' - a' = 0 by omega]; simp

/-- The text without white at its ends. -/
def trimB (l : List UInt8) (a b : Nat) : List UInt8 := (l.drop a).take (b - a)
theorem trimB_again {l : List UInt8} {a b : Nat} (h : IsTrim l a b) : IsTrim (trimB l a b) 0 (b - a) := by
  obtain ⟨h1, h2, h3, h4, h5⟩ := h
  have hl : (trimB l a b).length = b - a := by unfold trimB; rw [List.length_take, List.length_drop]; omega
  have hg : ∀ j, j < b - a → (trimB l a b).getD j 0 = l.getD (a + j) 0 := fun j hj => by
    unfold trimB
    rw [List.getD_eq_getElem?_getD, List.getElem?_take, if_pos hj, List.getElem?_drop, List.getD_eq_getElem?_getD]
  refine ⟨Nat.zero_le _, by omega, fun j hj => by omega, fun j hj hj' => by omega, fun hlt => ?_⟩
  obtain ⟨w1, w2⟩ := h5 (by omega)
  refine ⟨by rw [hg 0 (by omega)]; exact w1, ?_⟩
  rw [hg (b - a - 1) (by omega), show a + (b - a - 1) = b - 1 by omega]; exact w2

/-! ### from the front -/
theorem front (s : ByteArray) : ∀ f pos, s.size ≤ pos + f → (Lib.idxFuncFrom whN false s f pos = -1 ∧ ∀ j, pos ≤ j → j < s.size → whB (s.data.toList.getD j 0) = true) ∨
    (∃ i : Nat, Lib.idxFuncFrom whN false s f pos = (i : Int) ∧ pos ≤ i ∧ i < s.size ∧ (∀ j, pos ≤ j → j < i → whB (s.data.toList.getD j 0) = true) ∧ whB (s.data.toList.getD i 0) = false)
  | 0, pos, h => .inl ⟨rfl, fun j h1 h2 => by omega⟩
  | f + 1, pos, h => by
    by_cases hp : pos < s.size
    · simp only [Lib.idxFuncFrom, if_pos hp, white_at]
      cases hw : whB (s.data.toList.getD pos 0) with
      | false => exact .inr ⟨pos, by simp, Nat.le_refl _, hp, fun j h1 h2 => by omega, hw⟩
      | true =>
        rw [white_width s pos hw]
        simp only [Bool.true_eq_false, if_false]
        rcases front s f (pos + 1) (by omega) with ⟨h1, h2⟩ | ⟨i, h1, h2, h3, h4, h5⟩
        · refine .inl ⟨h1, fun j a b => ?_⟩
          by_cases e : j = pos
          · rw [e]; exact hw
          · exact h2 j (by omega) b
        · refine .inr ⟨i, h1, by omega, h3, fun j a b => ?_, h5⟩
          by_cases e : j = pos
          · rw [e]; exact hw
          · exact h4 j (by omega) b
    · rw [Lib.idxFuncFrom_end _ _ _ _ _ hp]
      exact .inl ⟨rfl, fun j h1 h2 => by omega⟩

/-! ### from the end -/
theorem back (s : ByteArray) : ∀ f i, i ≤ f → i ≤ s.size → (∀ j, i ≤ j → j < s.size → whB (s.data.toList.getD j 0) = true) →
    (Lib.lastIdxFuncFrom whN false s f i = -1 ∧ ∀ j, j < s.size → whB (s.data.toList.getD j 0) = true) ∨
    (∃ st e : Nat, Lib.lastIdxFuncFrom whN false s f i = (st : Int) ∧ st + (Utf8.decode s st).2 = e ∧ st < e ∧ e ≤ s.size ∧ (∀ j, e ≤ j → j < s.size → whB (s.data.toList.getD j 0) = true) ∧ whB (s.data.toList.getD (e - 1) 0) = false)
  | 0, i, h, _, hw => .inl ⟨rfl, fun j hj => hw j (by omega) hj⟩
  | f + 1, i, h, hi, hw => by
    by_cases h0 : 0 < i
    · have hil : i ≤ s.data.toList.length := by rw [← Lib.size_eq]; exact hi
      have ho : Lib.OpenAt s.data.toList i := by
        by_cases e : i = s.data.toList.length
        · exact .inl e
        · right
          have := whB_lt (hw i (Nat.le_refl _) (by rw [Lib.size_eq]; omega))
          omega
      have hfw := Lib.fw_width s.data.toList i h0 hil ho
      rw [Lib.decodeL_drop] at hfw
      simp only [Lib.lastIdxFuncFrom, if_pos h0]
      have big : ∀ x, 128 ≤ (s.data.toList.getD (i - 1) 0).toNat → (Lib.decodeLastL (s.data.toList.take i)).2 = x → 1 ≤ x → x ≤ i → whN (Lib.decodeLastL (s.data.toList.take i)).1 = false →
          (∃ st e : Nat, ((i - x : Nat) : Int) = (st : Int) ∧ st + (Utf8.decode s st).2 = e ∧ st < e ∧ e ≤ s.size ∧ (∀ j, e ≤ j → j < s.size → whB (s.data.toList.getD j 0) = true) ∧ whB (s.data.toList.getD (e - 1) 0) = false) := by
        intro x hb hx h1 h2 _
        rw [hx] at hfw
        exact ⟨i - x, i, rfl, by rw [hfw]; omega, by omega, hi, hw, whB_big hb⟩
      rcases Lib.last_cases s.data.toList i h0 hil with ⟨ha, hd⟩ | ⟨ha, hd⟩ | ⟨ha, st, hst, hd, hsum⟩
      · rw [hd]
        simp only [whN_eq]
        cases hq : whB (s.data.toList.getD (i - 1) 0) with
        | true =>
          simp only [Bool.true_eq_false, if_false]
          refine back s f (i - 1) (by omega) (by omega) fun j a b => ?_
          by_cases e : j = i - 1
          · rw [e]; exact hq
          · exact hw j (by omega) b
        | false =>
          simp only [if_true]
          rw [hd] at hfw
          refine .inr ⟨i - 1, i, rfl, ?_, by omega, hi, hw, hq⟩
          simp only at hfw
          rw [hfw]; omega
      · have hn : whN (Lib.decodeLastL (s.data.toList.take i)).1 = false := by rw [hd]; exact whN_big (by omega)
        rw [if_pos hn]
        exact .inr (big 1 ha (by rw [hd]) (by omega) (by omega) hn |> fun h => by rw [hd]; exact h)
      · have hlen : ((s.data.toList.take i).drop st).length = i - st := by rw [List.length_drop, List.length_take]; omega
        have hn : whN (Lib.decodeLastL (s.data.toList.take i)).1 = false := by
          cases hq : whN (Lib.decodeLastL (s.data.toList.take i)).1 with
          | false => rfl
          | true =>
            exfalso
            have hq' := whN_lt hq
            rw [hd, Lib.decodeL_N] at hq'
            have hs0 := dN_small _ _ _ _ _ hq'
            rw [Lib.decodeL_N, dN_ascii _ _ _ _ _ hs0] at hsum
            simp only at hsum
            rw [Lib.getD_dropU, Nat.add_zero, Lib.getD_takeU _ _ _ hst, show st = i - 1 by omega] at hs0
            omega
        rw [if_pos hn]
        have hx : (Lib.decodeLastL (s.data.toList.take i)).2 = i - st := by rw [hd]; omega
        rw [hx]
        exact .inr (big (i - st) ha hx (by omega) (by omega) hn)
    · have e : i = 0 := by omega
      subst e
      rw [Lib.lastIdxFuncFrom_zero]
      exact .inl ⟨rfl, fun j hj => hw j (Nat.zero_le _) hj⟩

theorem decode_rest (s : ByteArray) (st : Nat) : Utf8.decode (s.extract st s.size) 0 = Utf8.decode s st := by
  rw [← Lib.decodeL_drop s st]
  unfold Lib.decodeL
  congr 1
  apply ByteArray.ext
  apply Array.toList_inj.1
  rw [Lib.extract_data, List.take_of_length_le (by rw [List.length_drop, ← Lib.size_eq]; exact Nat.le_refl _)]

theorem right_end (s : ByteArray) : Lib.rightEndF whN s ≤ s.size ∧ (∀ j, Lib.rightEndF whN s ≤ j → j < s.size → whB (s.data.toList.getD j 0) = true) ∧ (0 < Lib.rightEndF whN s → whB (s.data.toList.getD (Lib.rightEndF whN s - 1) 0) = false) := by
  unfold Lib.rightEndF Lib.lastIdxFunc
  rcases back s s.size s.size (Nat.le_refl _) (Nat.le_refl _) (fun j a b => by omega) with ⟨h1, h2⟩ | ⟨st, e, h1, h2, h3, h4, h5, h6⟩
  · rw [h1, if_neg (by omega)]
    exact ⟨Nat.zero_le _, fun j _ hj => h2 j hj, fun h => by omega⟩
  · rw [h1, if_pos (by omega), Int.toNat_natCast]
    have hsz : ¬ (s.extract st s.size).size = 0 := by rw [ByteArray.size_extract]; omega
    have hd : (Lib.decodeGoB (s.extract st s.size)).2 = (Utf8.decode s st).2 := by
      unfold Lib.decodeGoB
      rw [if_neg hsz, decode_rest]
    rw [hd, h2]
    exact ⟨h4, h5, fun _ => h6⟩

/-- strings.TrimFunc by the white: what is left without white at the ends. -/
theorem trimF_is (s : ByteArray) : ∃ a b, IsTrim s.data.toList a b ∧ Lib.trimF whN s = ⟨(trimB s.data.toList a b).toArray⟩ := by
  have hl : s.data.toList.length = s.size := (Lib.size_eq s).symm
  rcases front s s.size 0 (by omega) with ⟨h1, h2⟩ | ⟨i, h1, _, h3, h4, h5⟩
  · refine ⟨0, 0, ⟨Nat.le_refl _, Nat.zero_le _, fun j hj => by omega, fun j _ hj => h2 j (Nat.zero_le _) (by omega), fun h => by omega⟩, ?_⟩
    have hz : Lib.trimLeftF whN s = ⟨#[]⟩ := by
      unfold Lib.trimLeftF Lib.idxFunc
      rw [if_pos h1]
    unfold Lib.trimF
    have e0 : trimB s.data.toList 0 0 = [] := by simp [trimB]
    rw [hz, e0]
    decide +kernel
  · have hz : Lib.trimLeftF whN s = s.extract i s.size := by
      unfold Lib.trimLeftF Lib.idxFunc
      rw [h1, if_neg (by omega), Int.toNat_natCast]
    obtain ⟨r1, r2, r3⟩ := right_end (s.extract i s.size)
    have hts : (s.extract i s.size).size = s.size - i := by rw [ByteArray.size_extract]; omega
    have hd : (s.extract i s.size).data.toList = s.data.toList.drop i := Lib.extract_to_end s i
    have hg : ∀ j, (s.extract i s.size).data.toList.getD j 0 = s.data.toList.getD (i + j) 0 := fun j => by rw [hd, Lib.getD_dropU]
    refine ⟨i, i + Lib.rightEndF whN (s.extract i s.size), ⟨by omega, by omega, fun j hj => h4 j (Nat.zero_le _) hj, fun j a b => ?_, fun hlt => ⟨h5, ?_⟩⟩, ?_⟩
    · have := r2 (j - i) (by omega) (by omega)
      rw [hg, show i + (j - i) = j by omega] at this; exact this
    · have := r3 (by omega)
      rw [hg] at this
      rw [show i + Lib.rightEndF whN (s.extract i s.size) - 1 = i + (Lib.rightEndF whN (s.extract i s.size) - 1) by omega]; exact this
    · unfold Lib.trimF Lib.trimRightF
      rw [hz]
      apply ByteArray.ext
      apply Array.toList_inj.1
      rw [Lib.extract_data, hd, List.drop_zero, Nat.sub_zero]
      unfold trimB
      rw [Nat.add_sub_cancel_left]

end Go.Proofs.YtdpaimpdlopafaaDoor
