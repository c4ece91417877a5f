
/- A text's words and a text without white at its ends: rune by rune it is the same as byte by byte. -/
import Derived.Test.YthpplcadpngdiaaDoorTxBase
import Derived.Lib.TrimUEq
import Derived.Shelf.GgClosure.StringsTrimFunc
namespace Go.Proofs.YthpplcadpngdiaaDoor
set_option linter.unusedVariables false
set_option linter.unusedSimpArgs false
open Go.RowKit

/-- A word as it is added: none, where it is empty. -/
def addW (x : ByteArray) : List ByteArray := if x.size = 0 then [] else [x]
def whiteR (r : Int) : Bool := r == 32 || r == 9 || r == 10 || r == 13
/-- What Words adds from a place on, the word's beginning in hand. -/
def wordsFrom (s : ByteArray) : Nat → Nat → Nat → List ByteArray
  | 0, _, beg => addW (s.extract beg s.size)
  | f + 1, pos, beg => if pos < s.size then (if whiteR (Utf8.decode s pos).1 then addW (s.extract beg pos) ++ wordsFrom s f (pos + (Utf8.decode s pos).2) (pos + 1) else wordsFrom s f (pos + (Utf8.decode s pos).2) beg) else addW (s.extract beg s.size)
def wordsOf (s : ByteArray) : List ByteArray := wordsFrom s s.size 0 0
theorem wordsFrom_end (s : ByteArray) (f pos beg : Nat) (h : ¬ pos < s.size) : wordsFrom s f pos beg = addW (s.extract beg s.size) := by
  cases f <;> simp [wordsFrom, h]
theorem wordsFrom_white (s : ByteArray) (f pos beg : Nat) (h : pos < s.size) (hw : whiteR (Utf8.decode s pos).1 = true) : wordsFrom s (f + 1) pos beg = addW (s.extract beg pos) ++ wordsFrom s f (pos + (Utf8.decode s pos).2) (pos + 1) := by
  simp [wordsFrom, h, hw]
theorem wordsFrom_plain (s : ByteArray) (f pos beg : Nat) (h : pos < s.size) (hw : whiteR (Utf8.decode s pos).1 = false) : wordsFrom s (f + 1) pos beg = wordsFrom s f (pos + (Utf8.decode s pos).2) beg := by
  simp [wordsFrom, h, hw]
theorem addW_le (x : ByteArray) : (addW x).length ≤ 1 := by unfold addW; split <;> simp

theorem addW_mem {x y : ByteArray} (h : y ∈ addW x) : y = x := by
  unfold addW at h
  split at h
  · simp at h
  · simpa using h
theorem wordsFrom_len (s : ByteArray) : ∀ f pos beg, (wordsFrom s f pos beg).length ≤ f + 1
  | 0, pos, beg => by have := addW_le (s.extract beg s.size); simp only [wordsFrom]; omega
  | f + 1, pos, beg => by
    have a1 := addW_le (s.extract beg s.size)
    have a2 := addW_le (s.extract beg pos)
    have i1 := wordsFrom_len s f (pos + (Utf8.decode s pos).2) (pos + 1)
    have i2 := wordsFrom_len s f (pos + (Utf8.decode s pos).2) beg
    simp only [wordsFrom]
    repeat' split
    all_goals (try rw [List.length_append]) <;> omega
theorem cut_le (s : ByteArray) (a b : Nat) : (s.extract a b).size ≤ s.size := by rw [ByteArray.size_extract]; omega
theorem wordsFrom_mem (s x : ByteArray) : ∀ f pos beg, x ∈ wordsFrom s f pos beg → x.size ≤ s.size
  | 0, pos, beg => fun h => by simp only [wordsFrom] at h; rw [addW_mem h]; exact cut_le _ _ _
  | f + 1, pos, beg => fun h => by
    simp only [wordsFrom] at h
    split at h
    · split at h
      · rcases List.mem_append.1 h with h | h
        · rw [addW_mem h]; exact cut_le _ _ _
        · exact wordsFrom_mem s x f _ _ h
      · exact wordsFrom_mem s x f _ _ h
    · rw [addW_mem h]; exact cut_le _ _ _
theorem get_eq (s : ByteArray) (i : Nat) : s.get! i = s.data.toList.getD i 0 := by
  obtain ⟨⟨l⟩⟩ := s
  show (l.toArray)[i]! = _
  rw [List.getElem!_toArray, List.getD_eq_getElem?_getD, List.getElem!_eq_getElem?_getD]
  rfl
theorem dN_ascii (n b0 b1 b2 b3 : Nat) (h : b0 < 128) : Lib.decodeN n b0 b1 b2 b3 = (b0, 1) := by simp [Lib.decodeN, h]
/-- Is a byte white? -/
def whB (c : UInt8) : Bool := c == 32 || c == 9 || c == 10 || c == 13
def whN (r : Nat) : Bool := whiteR (r : Int)
theorem whN_eq (c : UInt8) : whN c.toNat = whB c := by
  unfold whN whiteR whB
  rw [Bool.eq_iff_iff]
  simp only [Bool.or_eq_true, beq_iff_eq]
  have h : ∀ (k : UInt8), ((c.toNat : Int) = (k.toNat : Int) ↔ c = k) := fun k => ⟨fun h => UInt8.toNat_inj.1 (by omega), fun h => by rw [h]⟩
  have h1 := h 32; have h2 := h 9; have h3 := h 10; have h4 := h 13
  simp only [show UInt8.toNat 32 = 32 from rfl, show UInt8.toNat 9 = 9 from rfl, show UInt8.toNat 10 = 10 from rfl, show UInt8.toNat 13 = 13 from rfl] at h1 h2 h3 h4
  have e1 : ((c.toNat : Int) = 32 ↔ c = 32) := h1
  have e2 : ((c.toNat : Int) = 9 ↔ c = 9) := h2
  have e3 : ((c.toNat : Int) = 10 ↔ c = 10) := h3
  have e4 : ((c.toNat : Int) = 13 ↔ c = 13) := h4
  rw [e1, e2, e3, e4]
theorem whN_lt {r : Nat} (h : whN r = true) : r < 128 := by
  unfold whN whiteR at h
  simp only [Bool.or_eq_true, beq_iff_eq] at h
  omega
theorem whN_big {r : Nat} (h : 128 ≤ r) : whN r = false := by
  cases hw : whN r with
  | false => rfl
  | true => have := whN_lt hw; omega
theorem whB_lt {c : UInt8} (h : whB c = true) : c.toNat < 128 := whN_lt (by rw [whN_eq]; exact h)
theorem whB_big {c : UInt8} (h : 128 ≤ c.toNat) : whB c = false := by rw [← whN_eq]; exact whN_big h

theorem dN_small (n b0 b1 b2 b3 : Nat) (h : (Lib.decodeN n b0 b1 b2 b3).1 < 128) : b0 < 128 := by
  revert h
  unfold Lib.decodeN
  repeat' split
  all_goals (intro h; simp only at h; omega)
theorem dN_conts (n b0 b1 b2 b3 : Nat) : (1 < (Lib.decodeN n b0 b1 b2 b3).2 → 128 ≤ b1) ∧ (2 < (Lib.decodeN n b0 b1 b2 b3).2 → 128 ≤ b2) ∧ (3 < (Lib.decodeN n b0 b1 b2 b3).2 → 128 ≤ b3) ∧ (Lib.decodeN n b0 b1 b2 b3).2 ≤ 4 := by
  unfold Lib.decodeN
  repeat' split
  all_goals (simp only; refine ⟨fun _ => ?_, fun _ => ?_, fun _ => ?_, ?_⟩ <;> omega)

/-- A rune is white just where its first byte is; then it is that byte alone. -/
theorem white_at (s : ByteArray) (p : Nat) : whN (Utf8.decode s p).1 = whB (s.data.toList.getD p 0) := by
  rw [Lib.decode_at, get_eq]
  by_cases h : (s.data.toList.getD p 0).toNat < 128
  · rw [dN_ascii _ _ _ _ _ h]; exact whN_eq _
  · rw [whB_big (by omega)]
    cases hw : whN (Lib.decodeN (s.size - p) (s.data.toList.getD p 0).toNat (s.get! (p + 1)).toNat (s.get! (p + 2)).toNat (s.get! (p + 3)).toNat).1 with
    | false => rfl
    | true => exact absurd (dN_small _ _ _ _ _ (whN_lt hw)) h
theorem white_width (s : ByteArray) (p : Nat) (h : whB (s.data.toList.getD p 0) = true) : (Utf8.decode s p).2 = 1 := by
  rw [Lib.decode_at, get_eq, dN_ascii _ _ _ _ _ (whB_lt h)]
/-- Of a rune that is not white no byte is. -/
theorem rest_plain (s : ByteArray) (p j : Nat) (h0 : whB (s.data.toList.getD p 0) = false) (hj : j < (Utf8.decode s p).2) : whB (s.data.toList.getD (p + j) 0) = false := by
  rw [Lib.decode_at, get_eq, get_eq, get_eq, get_eq] at hj
  obtain ⟨c1, c2, c3, c4⟩ := dN_conts (s.size - p) (s.data.toList.getD p 0).toNat (s.data.toList.getD (p + 1) 0).toNat (s.data.toList.getD (p + 2) 0).toNat (s.data.toList.getD (p + 3) 0).toNat
  match j, hj with
  | 0, _ => exact h0
  | 1, hj => exact whB_big (c1 hj)
  | 2, hj => exact whB_big (c2 hj)
  | 3, hj => exact whB_big (c3 hj)
  | j + 4, hj => omega

/-- From a to b there is what is left without white at the ends. -/
def IsTrim (l : List UInt8) (a b : Nat) : Prop :=
  a ≤ b ∧ b ≤ l.length ∧ (∀ j, j < a → whB (l.getD j 0) = true) ∧ (∀ j, b ≤ j → j < l.length → whB (l.getD j 0) = true) ∧ (a < b → whB (l.getD a 0) = false ∧ whB (l.getD (b - 1) 0) = false)
theorem isTrim_one {l : List UInt8} {a b a' b' : Nat} (h : IsTrim l a b) (h' : IsTrim l a' b') : (l.drop a).take (b - a) = (l.drop a').take (b' - a') := by
  obtain ⟨h1, h2, h3, h4, h5⟩ := h
  obtain ⟨g1, g2, g3, g4, g5⟩ := h'
  by_cases e : a < b
  · obtain ⟨w1, w2⟩ := h5 e
    have ha' : a' ≤ a := by
      rcases Nat.lt_or_ge a a' with h | h
      · have := g3 a h; rw [w1] at this; simp at this
      · exact h
    have hb' : b ≤ b' := by
      rcases Nat.lt_or_ge (b - 1) b' with h | h
      · omega
      · have := g4 (b - 1) h (by omega); rw [w2] at this; simp at this
    obtain ⟨v1, v2⟩ := g5 (by omega)
    have ha : a ≤ a' := by
      rcases Nat.lt_or_ge a' a with h | h
      · have := h3 a' h; rw [v1] at this; simp at this
      · exact h
    have hb : b' ≤ b := by
      rcases Nat.lt_or_ge (b' - 1) b with h | h
      · omega
      · have := h4 (b' - 1) h (by omega); rw [v2] at this; simp at this
    rw [show a = a' by omega, show b = b' by omega]
  · have e' : ¬ a' < b' := fun e' => by
      obtain ⟨v1, _⟩ := g5 e'
      rcases Nat.lt_or_ge a' a with h | h
      · have := h3 a' h; rw [v1] at this; simp at this
      · have := h4 a' (by omega) (by omega); rw [v1] at this; simp at this
    rw [show b - a = 0 by omega, show b' - a' = 0 by omega]; simp

/-- The text without white at its ends. -/
def trimB (l : List UInt8) (a b : Nat) : List UInt8 := (l.drop a).take (b - a)
theorem front (s : ByteArray) : ∀ f pos, s.size ≤ pos + f → (Lib.idxFuncFrom whN false s f pos = -1 ∧ ∀ j, pos ≤ j → j < s.size → whB (s.data.toList.getD j 0) = true) ∨
    (∃ i : Nat, Lib.idxFuncFrom whN false s f pos = (i : Int) ∧ pos ≤ i ∧ i < s.size ∧ (∀ j, pos ≤ j → j < i → whB (s.data.toList.getD j 0) = true) ∧ whB (s.data.toList.getD i 0) = false)
  | 0, pos, h => .inl ⟨rfl, fun j h1 h2 => by omega⟩
  | f + 1, pos, h => by
    by_cases hp : pos < s.size
    · simp only [Lib.idxFuncFrom, if_pos hp, white_at]
      cases hw : whB (s.data.toList.getD pos 0) with
      | false => exact .inr ⟨pos, by simp, Nat.le_refl _, hp, fun j h1 h2 => by omega, hw⟩
      | true =>
        rw [white_width s pos hw]
        simp only [Bool.true_eq_false, if_false]
        rcases front s f (pos + 1) (by omega) with ⟨h1, h2⟩ | ⟨i, h1, h2, h3, h4, h5⟩
        · refine .inl ⟨h1, fun j a b => ?_⟩
          by_cases e : j = pos
          · rw [e]; exact hw
          · exact h2 j (by omega) b
        · refine .inr ⟨i, h1, by omega, h3, fun j a b => ?_, h5⟩
          by_cases e : j = pos
          · rw [e]; exact hw
          · exact h4 j (by omega) b
    · rw [Lib.idxFuncFrom_end _ _ _ _ _ hp]
      exact .inl ⟨rfl, fun j h1 h2 => by omega⟩

theorem back (s : ByteArray) : ∀ f i, i ≤ f → i ≤ s.size → (∀ j, i ≤ j → j < s.size → whB (s.data.toList.getD j 0) = true) →
    (Lib.lastIdxFuncFrom whN false s f i = -1 ∧ ∀ j, j < s.size → whB (s.data.toList.getD j 0) = true) ∨
    (∃ st e : Nat, Lib.lastIdxFuncFrom whN false s f i = (st : Int) ∧ st + (Utf8.decode s st).2 = e ∧ st < e ∧ e ≤ s.size ∧ (∀ j, e ≤ j → j < s.size → whB (s.data.toList.getD j 0) = true) ∧ whB (s.data.toList.getD (e - 1) 0) = false)
  | 0, i, h, _, hw => .inl ⟨rfl, fun j hj => hw j (by omega) hj⟩
  | f + 1, i, h, hi, hw => by
    by_cases h0 : 0 < i
    · have hil : i ≤ s.data.toList.length := by rw [← Lib.size_eq]; exact hi
      have ho : Lib.OpenAt s.data.toList i := by
        by_cases e : i = s.data.toList.length
        · exact .inl e
        · right
          have := whB_lt (hw i (Nat.le_refl _) (by rw [Lib.size_eq]; omega))
          omega
      have hfw := Lib.fw_width s.data.toList i h0 hil ho
      rw [Lib.decodeL_drop] at hfw
      simp only [Lib.lastIdxFuncFrom, if_pos h0]
      have big : ∀ x, 128 ≤ (s.data.toList.getD (i - 1) 0).toNat → (Lib.decodeLastL (s.data.toList.take i)).2 = x → 1 ≤ x → x ≤ i → whN (Lib.decodeLastL (s.data.toList.take i)).1 = false →
          (∃ st e : Nat, ((i - x : Nat) : Int) = (st : Int) ∧ st + (Utf8.decode s st).2 = e ∧ st < e ∧ e ≤ s.size ∧ (∀ j, e ≤ j → j < s.size → whB (s.data.toList.getD j 0) = true) ∧ whB (s.data.toList.getD (e - 1) 0) = false) := by
        intro x hb hx h1 h2 _
        rw [hx] at hfw
        exact ⟨i - x, i, rfl, by rw [hfw]; omega, by omega, hi, hw, whB_big hb⟩
      rcases Lib.last_cases s.data.toList i h0 hil with ⟨ha, hd⟩ | ⟨ha, hd⟩ | ⟨ha, st, hst, hd, hsum⟩
      · rw [hd]
        simp only [whN_eq]
        cases hq : whB (s.data.toList.getD (i - 1) 0) with
        | true =>
          simp only [Bool.true_eq_false, if_false]
          refine back s f (i - 1) (by omega) (by omega) fun j a b => ?_
          by_cases e : j = i - 1
          · rw [e]; exact hq
          · exact hw j (by omega) b
        | false =>
          simp only [if_true]
          rw [hd] at hfw
          refine .inr ⟨i - 1, i, rfl, ?_, by omega, hi, hw, hq⟩
          simp only at hfw
          rw [hfw]; omega
      · have hn : whN (Lib.decodeLastL (s.data.toList.take i)).1 = false := by rw [hd]; exact whN_big (by omega)
        rw [if_pos hn]
        exact .inr (big 1 ha (by rw [hd]) (by omega) (by omega) hn |> fun h => by rw [hd]; exact h)
      · have hlen : ((s.data.toList.take i).drop st).length = i - st := by rw [List.length_drop, List.length_take]; omega
        have hn : whN (Lib.decodeLastL (s.data.toList.take i)).1 = false := by
          cases hq : whN (Lib.decodeLastL (s.data.toList.take i)).1 with
          | false => rfl
          | true =>
            exfalso
            have hq' := whN_lt hq
            rw [hd, Lib.decodeL_N] at hq'
            have hs0 := dN_small _ _ _ _ _ hq'
            rw [Lib.decodeL_N, dN_ascii _ _ _ _ _ hs0] at hsum
            simp only at hsum
            rw [Lib.getD_dropU, Nat.add_zero, Lib.getD_takeU _ _ _ hst, show st = i - 1 by omega] at hs0
            omega
        rw [if_pos hn]
        have hx : (Lib.decodeLastL (s.data.toList.take i)).2 = i - st := by rw [hd]; omega
        rw [hx]
        exact .inr (big (i - st) ha hx (by omega) (by omega) hn)
    · have e : i = 0 := by omega
      subst e
      rw [Lib.lastIdxFuncFrom_zero]
      exact .inl ⟨rfl, fun j hj => hw j (Nat.zero_le _) hj⟩

theorem decode_rest (s : ByteArray) (st : Nat) : Utf8.decode (s.extract st s.size) 0 = Utf8.decode s st := by
  rw [← Lib.decodeL_drop s st]
  unfold Lib.decodeL
  congr 1
  apply ByteArray.ext
  apply Array.toList_inj.1
  rw [Lib.extract_data, List.take_of_length_le (by rw [List.length_drop, ← Lib.size_eq]; exact Nat.le_refl _)]

theorem right_end (s : ByteArray) : Lib.rightEndF whN s ≤ s.size ∧ (∀ j, Lib.rightEndF whN s ≤ j → j < s.size → whB (s.data.toList.getD j 0) = true) ∧ (0 < Lib.rightEndF whN s → whB (s.data.toList.getD (Lib.rightEndF whN s - 1) 0) = false) := by
  unfold Lib.rightEndF Lib.lastIdxFunc
  rcases back s s.size s.size (Nat.le_refl _) (Nat.le_refl _) (fun j a b => by omega) with ⟨h1, h2⟩ | ⟨st, e, h1, h2, h3, h4, h5, h6⟩
  · rw [h1, if_neg (by omega)]
    exact ⟨Nat.zero_le _, fun j _ hj => h2 j hj, fun h => by omega⟩
  · rw [h1, if_pos (by omega), Int.toNat_natCast]
    have hsz : ¬ (s.extract st s.size).size = 0 := by rw [ByteArray.size_extract]; omega
    have hd : (Lib.decodeGoB (s.extract st s.size)).2 = (Utf8.decode s st).2 := by
      unfold Lib.decodeGoB
      rw [if_neg hsz, decode_rest]
    rw [hd, h2]
    exact ⟨h4, h5, fun _ => h6⟩

/-- strings.TrimFunc by the white: what is left without white at the ends. -/
theorem trimF_is (s : ByteArray) : ∃ a b, IsTrim s.data.toList a b ∧ Lib.trimF whN s = ⟨(trimB s.data.toList a b).toArray⟩ := by
  have hl : s.data.toList.length = s.size := (Lib.size_eq s).symm
  rcases front s s.size 0 (by omega) with ⟨h1, h2⟩ | ⟨i, h1, _, h3, h4, h5⟩
  · refine ⟨0, 0, ⟨Nat.le_refl _, Nat.zero_le _, fun j hj => by omega, fun j _ hj => h2 j (Nat.zero_le _) (by omega), fun h => by omega⟩, ?_⟩
    have hz : Lib.trimLeftF whN s = ⟨#[]⟩ := by
      unfold Lib.trimLeftF Lib.idxFunc
      rw [if_pos h1]
    unfold Lib.trimF
    have e0 : trimB s.data.toList 0 0 = [] := by simp [trimB]
    rw [hz, e0]
    decide +kernel
  · have hz : Lib.trimLeftF whN s = s.extract i s.size := by
      unfold Lib.trimLeftF Lib.idxFunc
      rw [h1, if_neg (by omega), Int.toNat_natCast]
    obtain ⟨r1, r2, r3⟩ := right_end (s.extract i s.size)
    have hts : (s.extract i s.size).size = s.size - i := by rw [ByteArray.size_extract]; omega
    have hd : (s.extract i s.size).data.toList = s.data.toList.drop i := Lib.extract_to_end s i
    have hg : ∀ j, (s.extract i s.size).data.toList.getD j 0 = s.data.toList.getD (i + j) 0 := fun j => by rw [hd, Lib.getD_dropU]
    refine ⟨i, i + Lib.rightEndF whN (s.extract i s.size), ⟨by omega, by omega, fun j hj => h4 j (Nat.zero_le _) hj, fun j a b => ?_, fun hlt => ⟨h5, ?_⟩⟩, ?_⟩
    · have := r2 (j - i) (by omega) (by omega)
      rw [hg, show i + (j - i) = j by omega] at this; exact this
    · have := r3 (by omega)
      rw [hg] at this
      rw [show i + Lib.rightEndF whN (s.extract i s.size) - 1 = i + (Lib.rightEndF whN (s.extract i s.size) - 1) by omega]; exact this
    · unfold Lib.trimF Lib.trimRightF
      rw [hz]
      apply ByteArray.ext
      apply Array.toList_inj.1
      rw [Lib.extract_data, hd, List.drop_zero, Nat.sub_zero]
      unfold trimB
      rw [Nat.add_sub_cancel_left]

def addL (cur : List UInt8) : List (List UInt8) := if cur = [] then [] else [cur]
/-- The words of what is left, the word's beginning in hand. -/
def splitW : List UInt8 → List UInt8 → List (List UInt8)
  | [], cur => addL cur
  | c :: t, cur => if whB c then addL cur ++ splitW t [] else splitW t (cur ++ [c])
theorem addW_eq (x : ByteArray) : addW x = (addL x.data.toList).map asS := by
  unfold addW addL
  by_cases h : x.size = 0
  · rw [if_pos h, if_pos (by rw [Lib.size_eq] at h; exact List.length_eq_zero_iff.1 h)]; rfl
  · rw [if_neg h, if_neg (fun e => h (by rw [Lib.size_eq, e]; rfl))]
    rfl
theorem splitW_skip : ∀ (a t cur : List UInt8), (∀ c ∈ a, whB c = false) → splitW (a ++ t) cur = splitW t (cur ++ a)
  | [], t, cur, _ => by simp
  | c :: a, t, cur, h => by
    have hc := h c (by simp)
    rw [List.cons_append, splitW, hc, if_neg (by simp), splitW_skip a t (cur ++ [c]) (fun x hx => h x (by simp [hx]))]
    simp

theorem mem_take_getD (l : List UInt8) (p w : Nat) (c : UInt8) (h : c ∈ (l.drop p).take w) : ∃ j, j < w ∧ p + j < l.length ∧ l.getD (p + j) 0 = c := by
  obtain ⟨j, hj⟩ := List.mem_iff_getElem?.1 h
  rw [List.getElem?_take] at hj
  split at hj
  · next hlt =>
    rw [List.getElem?_drop] at hj
    refine ⟨j, hlt, (List.getElem?_eq_some_iff.1 hj).1, ?_⟩
    rw [List.getD_eq_getElem?_getD, hj]; rfl
  · simp at hj

/-- Rune by rune and byte by byte the words are the same. -/
theorem wordsFrom_eq (s : ByteArray) : ∀ f pos beg, s.size ≤ pos + f → beg ≤ pos → pos ≤ s.size → wordsFrom s f pos beg = (splitW (s.data.toList.drop pos) ((s.data.toList.drop beg).take (pos - beg))).map asS
  | 0, pos, beg, h, hb, hp => by
    have hd : s.data.toList.drop pos = [] := List.drop_eq_nil_of_le (by rw [← Lib.size_eq]; omega)
    rw [hd]
    show addW _ = _
    rw [addW_eq, cut_list, show s.size = pos by omega]
    rfl
  | f + 1, pos, beg, h, hb, hp => by
    by_cases hlt : pos < s.size
    · have hll : pos < s.data.toList.length := by rw [← Lib.size_eq]; exact hlt
      have hg : s.data.toList.getD pos 0 = s.data.toList[pos] := by rw [List.getD_eq_getElem?_getD, List.getElem?_eq_getElem hll]; rfl
      have hwn : whiteR ((Utf8.decode s pos).1 : Nat) = whB (s.data.toList.getD pos 0) := white_at s pos
      cases hw : whB (s.data.toList.getD pos 0) with
      | true =>
        rw [wordsFrom_white s f pos beg hlt (by rw [hwn]; exact hw), white_width s pos hw]
        rw [wordsFrom_eq s f (pos + 1) (pos + 1) (by omega) (Nat.le_refl _) (by omega)]
        rw [List.drop_eq_getElem_cons hll, splitW, ← hg, hw, if_pos rfl, List.map_append, addW_eq, cut_list, Nat.sub_self, List.take_zero]
      | false =>
        rw [wordsFrom_plain s f pos beg hlt (by rw [hwn]; exact hw)]
        have hwd := Lib.decode_width_pos s pos hlt
        have hft := decode_fits s pos hlt
        rw [wordsFrom_eq s f (pos + (Utf8.decode s pos).2) beg (by omega) (by omega) hft]
        have hcut : s.data.toList.drop pos = (s.data.toList.drop pos).take (Utf8.decode s pos).2 ++ s.data.toList.drop (pos + (Utf8.decode s pos).2) := by
          rw [← List.drop_drop, List.take_append_drop]
        rw [hcut, splitW_skip _ _ _ (fun c hc => ?_)]
        · congr 2
          have e1 : (s.data.toList.drop beg).take (pos - beg) ++ (s.data.toList.drop pos).take (Utf8.decode s pos).2 = (s.data.toList.drop beg).take (pos + (Utf8.decode s pos).2 - beg) := by
            rw [show pos + (Utf8.decode s pos).2 - beg = (pos - beg) + (Utf8.decode s pos).2 by omega, List.take_add, List.drop_drop, show beg + (pos - beg) = pos by omega]
          exact e1.symm
        · obtain ⟨j, hj, _, rfl⟩ := mem_take_getD _ _ _ _ hc
          exact rest_plain s pos j hw hj
    · rw [wordsFrom_end s _ pos beg hlt]
      have hd : s.data.toList.drop pos = [] := List.drop_eq_nil_of_le (by rw [← Lib.size_eq]; omega)
      rw [hd, addW_eq, cut_list, show s.size = pos by omega]
      rfl

/-- A text's words, as lists of bytes. -/
def wds (s : ByteArray) : List (List UInt8) := splitW s.data.toList []
theorem wordsOf_eq (s : ByteArray) : wordsOf s = (wds s).map asS := by
  have := wordsFrom_eq s s.size 0 0 (by omega) (Nat.le_refl _) (Nat.zero_le _)
  rw [List.drop_zero] at this
  exact this
/-- Each word has signs, none of them white. -/
theorem splitW_good : ∀ (l cur : List UInt8), (∀ c ∈ cur, whB c = false) → ∀ x ∈ splitW l cur, x ≠ [] ∧ ∀ c ∈ x, whB c = false
  | [], cur, h, x, hx => by
    rw [splitW, addL] at hx
    split at hx
    · simp at hx
    · next hne => rw [List.mem_singleton.1 hx]; exact ⟨hne, h⟩
  | c :: t, cur, h, x, hx => by
    rw [splitW] at hx
    split at hx
    · rcases List.mem_append.1 hx with hx | hx
      · unfold addL at hx
        split at hx
        · simp at hx
        · next hne => rw [List.mem_singleton.1 hx]; exact ⟨hne, h⟩
      · exact splitW_good t [] (by simp) x hx
    · next hc =>
      refine splitW_good t (cur ++ [c]) (fun y hy => ?_) x hx
      rcases List.mem_append.1 hy with hy | hy
      · exact h y hy
      · rw [List.mem_singleton.1 hy]; simpa using hc

end Go.Proofs.YthpplcadpngdiaaDoor
