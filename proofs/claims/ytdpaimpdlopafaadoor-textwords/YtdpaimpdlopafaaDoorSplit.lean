/- Plain facts about a text's words: rune by rune they are the same as byte by byte, and the words of the words, one blank between, are the words; what was trimmed stays so. -/
import Derived.Test.YtdpaimpdlopafaaDoorTrimMath
namespace Go.Proofs.YtdpaimpdlopafaaDoor

def addL (cur : List UInt8) : List (List UInt8) := if cur = [] then [] else [cur]
/-- The words of what is left, the word's beginning in hand. -/
def splitW : List UInt8 → List UInt8 → List (List UInt8)
  | [], cur => addL cur
  | c :: t, cur => if whB c then addL cur ++ splitW t [] else splitW t (cur ++ [c])
def asS (l : List UInt8) : ByteArray := ⟨l.toArray⟩

theorem addW_eq (x : ByteArray) : addW x = (addL x.data.toList).map asS := by
  unfold addW addL
  by_cases h : x.size = 0
  · rw [if_pos h, if_pos (by rw [Lib.size_eq] at h; exact List.length_eq_zero_iff.1 h)]; rfl
  · rw [if_neg h, if_neg (fun e => h (by rw [Lib.size_eq, e]; rfl))]
    rfl
theorem splitW_skip : ∀ (a t cur : List UInt8), (∀ c ∈ a, whB c = false) → splitW (a ++ t) cur = splitW t (cur ++ a)
  | [], t, cur, _ => by simp
  | c :: a, t, cur, h => by
    have hc := h c (by simp)
    rw [List.cons_append, splitW, hc, if_neg (by simp), splitW_skip a t (cur ++ [c]) (fun x hx => h x (by simp [hx]))]
    simp

theorem cut_list (s : ByteArray) (a b : Nat) : (s.extract a b).data.toList = (s.data.toList.drop a).take (b - a) := Lib.extract_data s a b

theorem mem_take_getD (l : List UInt8) (p w : Nat) (c : UInt8) (h : c ∈ (l.drop p).take w) : ∃ j, j < w ∧ p + j < l.length ∧ l.getD (p + j) 0 = c := by
  obtain ⟨j, hj⟩ := List.mem_iff_getElem?.1 h
  rw [List.getElem?_take] at hj
  split at hj
  · next hlt =>
    rw [List.getElem?_drop] at hj
    refine ⟨j, hlt, (List.getElem?_eq_some_iff.1 hj).1, ?_⟩
    rw [List.getD_eq_getElem?_getD, hj]; rfl
  · simp at hj

/-- Rune by rune and byte by byte the words are the same. -/
theorem wordsFrom_eq (s : ByteArray) : ∀ f pos beg, s.size ≤ pos + f → beg ≤ pos → pos ≤ s.size → wordsFrom s f pos beg = (splitW (s.data.toList.drop pos) ((s.data.toList.drop beg).take (pos - beg))).map asS
  | 0, pos, beg, h, hb, hp => by
    have hd : s.data.toList.drop pos = [] := List.drop_eq_nil_of_le (by rw [← Lib.size_eq]; omega)
    rw [hd]
    show addW _ = _
    rw [addW_eq, cut_list, show s.size = pos by omega]
    rfl
  | f + 1, pos, beg, h, hb, hp => by
    by_cases hlt : pos < s.size
    · have hll : pos < s.data.toList.length := by rw [← Lib.size_eq]; exact hlt
      have hg : s.data.toList.getD pos 0 = s.data.toList[pos] := by rw [List.getD_eq_getElem?_getD, List.getElem?_eq_getElem hll]; rfl
      have hwn : whiteR ((Utf8.decode s pos).1 : Nat) = whB (s.data.toList.getD pos 0) := white_at s pos
      cases hw : whB (s.data.toList.getD pos 0) with
      | true =>
        rw [wordsFrom_white s f pos beg hlt (by rw [hwn]; exact hw), white_width s pos hw]
        rw [wordsFrom_eq s f (pos + 1) (pos + 1) (by omega) (Nat.le_refl _) (by omega)]
        rw [List.drop_eq_getElem_cons hll, splitW, ← hg, hw, if_pos rfl, List.map_append, addW_eq, cut_list, Nat.sub_self, List.take_zero]
      | false =>
        rw [wordsFrom_plain s f pos beg hlt (by rw [hwn]; exact hw)]
        have hwd := Lib.decode_width_pos s pos hlt
        have hft := decode_fits s pos hlt
        rw [wordsFrom_eq s f (pos + (Utf8.decode s pos).2) beg (by omega) (by omega) hft]
        have hcut : s.data.toList.drop pos = (s.data.toList.drop pos).take (Utf8.decode s pos).2 ++ s.data.toList.drop (pos + (Utf8.decode s pos).2) := by
          rw [← List.drop_drop, List.take_append_drop]
        rw [hcut, splitW_skip _ _ _ (fun c hc => ?_)]
        · congr 2
          have e1 : (s.data.toList.drop beg).take (pos - beg) ++ (s.data.toList.drop pos).take (Utf8.decode s pos).2 = (s.data.toList.drop beg).take (pos + (Utf8.decode s pos).2 - beg) := by
            rw [show pos + (Utf8.decode s pos).2 - beg = (pos - beg) + (Utf8.decode s pos).2 by omega, List.take_add, List.drop_drop, show beg + (pos - beg) = pos by omega]
          exact e1.symm
        · obtain ⟨j, hj, _, rfl⟩ := mem_take_getD _ _ _ _ hc
          exact rest_plain s pos j hw hj
    · rw [wordsFrom_end s _ pos beg hlt]
      have hd : s.data.toList.drop pos = [] := List.drop_eq_nil_of_le (by rw [← Lib.size_eq]; omega)
      rw [hd, addW_eq, cut_list, show s.size = pos by omega]
      rfl

/-- A text's words, as lists of bytes. -/
def wds (s : ByteArray) : List (List UInt8) := splitW s.data.toList []
theorem wordsOf_eq (s : ByteArray) : wordsOf s = (wds s).map asS := by
  have := wordsFrom_eq s s.size 0 0 (by omega) (Nat.le_refl _) (Nat.zero_le _)
  rw [List.drop_zero] at this
  exact this
theorem sqz_eq (s : ByteArray) : sqz s = Lib.join (wds s) [32] := by
  unfold sqz
  rw [wordsOf_eq, List.map_map]
  congr 1
  conv => rhs; rw [← List.map_id (wds s)]
  apply List.map_congr_left
  intro x _
  simp [asS]

/-- Each word has signs, none of them white. -/
theorem splitW_good : ∀ (l cur : List UInt8), (∀ c ∈ cur, whB c = false) → ∀ x ∈ splitW l cur, x ≠ [] ∧ ∀ c ∈ x, whB c = false
  | [], cur, h, x, hx => by
    rw [splitW, addL] at hx
    split at hx
    · simp at hx
    · next hne => rw [List.mem_singleton.1 hx]; exact ⟨hne, h⟩
  | c :: t, cur, h, x, hx => by
    rw [splitW] at hx
    split at hx
    · rcases List.mem_append.1 hx with hx | hx
      · unfold addL at hx
        split at hx
        · simp at hx
        · next hne => rw [List.mem_singleton.1 hx]; exact ⟨hne, h⟩
      · exact splitW_good t [] (by simp) x hx
    · next hc =>
      refine splitW_good t (cur ++ [c]) (fun y hy => ?_) x hx
      rcases List.mem_append.1 hy with hy | hy
      · exact h y hy
      · rw [List.mem_singleton.1 hy]; simpa using hc

theorem split_tail : ∀ (r : List (List UInt8)) (cur : List UInt8), cur ≠ [] → (∀ x ∈ r, x ≠ [] ∧ ∀ c ∈ x, whB c = false) → splitW (Lib.joinTail [32] r) cur = cur :: r
  | [], cur, hc, _ => by simp [Lib.joinTail, splitW, addL, hc]
  | x :: r, cur, hc, h => by
    have hx := h x (by simp)
    have e : Lib.joinTail [32] (x :: r) = 32 :: (x ++ Lib.joinTail [32] r) := by simp [Lib.joinTail]
    rw [e, splitW, show whB 32 = true from by decide, if_pos rfl, splitW_skip _ _ _ hx.2, List.nil_append, split_tail r x hx.1 (fun y hy => h y (by simp [hy]))]
    simp [addL, hc]
theorem split_join (ws : List (List UInt8)) (h : ∀ x ∈ ws, x ≠ [] ∧ ∀ c ∈ x, whB c = false) : splitW (Lib.join ws [32]) [] = ws := by
  cases ws with
  | nil => rfl
  | cons x r =>
    have hx := h x (by simp)
    rw [Lib.join_cons, splitW_skip _ _ _ hx.2, List.nil_append, split_tail r x hx.1 (fun y hy => h y (by simp [hy]))]
theorem wds_sqz (s : ByteArray) : wds ⟨(sqz s).toArray⟩ = wds s := by
  rw [sqz_eq]
  show splitW (Lib.join (wds s) [32]) [] = wds s
  exact split_join _ (splitW_good _ [] (by simp))
theorem sqz_sqz (s : ByteArray) : sqz ⟨(sqz s).toArray⟩ = sqz s := by rw [sqz_eq, wds_sqz, sqz_eq]

/-- How long the words, one blank between, are. -/
theorem split_len : ∀ (l cur : List UInt8), Lib.lens (splitW l cur) + (splitW l cur).length ≤ cur.length + l.length + 1
  | [], cur => by
    rw [splitW, addL]
    split
    · simp [Lib.lens]
    · simp [Lib.lens]
  | c :: t, cur => by
    rw [splitW]
    split
    · have := split_len t []
      unfold addL
      split
      · simp only [List.nil_append, List.length_cons, List.length_nil] at this ⊢; omega
      · simp only [List.cons_append, List.nil_append, List.length_cons, List.length_nil, Lib.lens, List.map_cons, List.sum_cons] at this ⊢; omega
    · have := split_len t (cur ++ [c])
      simp only [List.length_append, List.length_cons, List.length_nil] at this ⊢; omega
theorem sqz_le (s : ByteArray) : (sqz s).length ≤ s.size := by
  rw [sqz_eq]
  have h := split_len s.data.toList []
  rw [List.length_nil, ← Lib.size_eq] at h
  change Lib.lens (wds s) + (wds s).length ≤ _ at h
  cases hw : wds s with
  | nil => simp [Lib.join_nil]
  | cons x r =>
    rw [hw] at h
    rw [Lib.join_length]
    simp only [List.length_cons, List.length_nil] at h ⊢
    omega

end Go.Proofs.YtdpaimpdlopafaaDoor
