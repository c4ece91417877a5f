
/- What the program's own reading of addresses computes, and that it is the reading by definition: plain mathematics. -/
import Derived.Test.YtocdjgehjiolhaaIpMore
import Derived.Lib.Split
import Derived.Lib.Join
namespace Go.Proofs.Ytocdjgehjiolhaa
set_option linter.unusedSimpArgs false
set_option linter.unusedVariables false

/-! Numbers. -/
theorem valB_app (base : Nat) (l r : List UInt8) : valB base (l ++ r) = r.foldl (fun n c => n * base + dig c) (valB base l) := by simp [valB]
theorem fold_ge (base : Nat) (hb : 1 ≤ base) : ∀ (r : List UInt8) (n : Nat), n ≤ r.foldl (fun n c => n * base + dig c) n
  | [], n => Nat.le_refl _
  | c :: r, n => by
    have h1 := fold_ge base hb r (n * base + dig c)
    have h2 : n ≤ n * base := Nat.le_mul_of_pos_right n hb
    simp only [List.foldl_cons]
    omega
theorem valB_mono (base : Nat) (hb : 1 ≤ base) (l r : List UInt8) : valB base l ≤ valB base (l ++ r) := by
  rw [valB_app]; exact fold_ge base hb r _
/-- The digits are digits of the base, and the worth is below e. -/
def numOk (base e : Nat) (l : List UInt8) : Bool := (l.all fun c => decide (dig c < base)) && decide (valB base l < e)
theorem numOk_stop (base e : Nat) (hb : 1 ≤ base) (l r : List UInt8) (c : UInt8) (h : ¬ dig c < base ∨ e ≤ valB base (l ++ [c])) : numOk base e (l ++ c :: r) = false := by
  unfold numOk
  rw [Bool.and_eq_false_iff]
  rcases h with h | h
  · exact Or.inl (by rw [List.all_eq_false]; exact ⟨c, by simp, by simpa using h⟩)
  · refine Or.inr ?_
    have := valB_mono base hb (l ++ [c]) r
    rw [decide_eq_false_iff_not]
    rw [List.append_assoc, List.singleton_append] at this
    omega
theorem num_of_ok (base e : Nat) (x : List UInt8) (hx : x ≠ []) (he : e ≤ 4294967296) (h : numOk base e x = true) : num base x = (valB base x : Int) ∧ valB base x < e := by
  unfold numOk at h
  rw [Bool.and_eq_true, decide_eq_true_eq] at h
  unfold num isNum
  have h1 : (!x.isEmpty && x.all fun c => decide (dig c < base)) = true := by rw [h.1, Bool.and_true]; simpa using hx
  rw [if_pos h1]
  exact ⟨by have := h.2; omega, h.2⟩
theorem num_not_ok (base e : Nat) (x : List UInt8) (he : e ≤ 4294967296) (h : numOk base e x = false) : num base x < 0 ∨ (e : Int) ≤ num base x := by
  unfold numOk at h
  rw [Bool.and_eq_false_iff, decide_eq_false_iff_not] at h
  unfold num isNum
  rcases h with h | h
  · rw [h, Bool.and_false]; simp
  · split
    · right; omega
    · left; decide
theorem numOk_iff (base e : Nat) (x : List UInt8) (hx : x ≠ []) (he : e ≤ 4294967296) : numOk base e x = decide (0 ≤ num base x ∧ num base x < e) := by
  cases h : numOk base e x
  · have := num_not_ok base e x he h
    symm; rw [decide_eq_false_iff_not]; omega
  · have := num_of_ok base e x hx he h
    symm; rw [decide_eq_true_eq]; omega

/-- A part that is written loosely, below e. -/
def partOk (e : Nat) (x : List UInt8) : Bool := decide (0 ≤ partA x ∧ partA x < e)
theorem part_nil : partA [] = -1 := by decide
theorem part_hex0 (c : UInt8) (hc : c = 120 ∨ c = 88) : partA [48, c] = 0 := by
  unfold partA; rw [if_pos ⟨by simp, rfl, hc⟩]; simp
theorem part_hex (c : UInt8) (hc : c = 120 ∨ c = 88) (r : List UInt8) (hr : r ≠ []) : partA (48 :: c :: r) = num 16 r := by
  unfold partA
  rw [if_pos ⟨by simp, rfl, hc⟩, if_neg (by have := List.length_pos_iff.2 hr; simp; omega)]
  rfl
theorem part_oct (r : List UInt8) (hr : r ≠ []) (h : r.headD 0 ≠ 120 ∧ r.headD 0 ≠ 88) : partA (48 :: r) = num 8 (48 :: r) := by
  unfold partA
  cases r with
  | nil => exact absurd rfl hr
  | cons c t =>
    simp only [List.headD_cons] at h
    rw [if_neg (by simp [h.1, h.2]), if_pos (by simp)]
theorem part_zero : partA [48] = 0 := by decide
theorem part_dec (c : UInt8) (r : List UInt8) (h : c ≠ 48) : partA (c :: r) = num 10 (c :: r) := by
  unfold partA
  rw [if_neg (by simp [h]), if_neg (by simp [h])]

/-! Parts. -/
theorem index_at (b : UInt8) (r : List UInt8) : ∀ x : List UInt8, b ∉ x → Lib.index (x ++ b :: r) [b] = x.length
  | [], _ => by simp [Lib.index]
  | c :: y, h => by
    have h1 : c ≠ b := fun e => h (by simp [e])
    have ih := index_at b r y (fun e => h (by simp [e]))
    have h2 : List.isPrefixOf [b] (c :: (y ++ b :: r)) = false := by
      simp [List.isPrefixOf, h1.symm]
    rw [List.cons_append, Lib.index, h2, ih]
    have h3 : ((y.length : Int) == -1) = false := by rw [beq_eq_false_iff_ne]; omega
    simp [h3]
theorem index_no (b : UInt8) : ∀ x : List UInt8, b ∉ x → Lib.index x [b] = -1
  | [], _ => by simp [Lib.index]
  | c :: y, h => by
    have h1 : c ≠ b := fun e => h (by simp [e])
    have ih := index_no b y (fun e => h (by simp [e]))
    have h2 : List.isPrefixOf [b] (c :: y) = false := by simp [List.isPrefixOf, h1.symm]
    rw [Lib.index, h2, ih]
    simp
theorem indexByte_mem (b : UInt8) : ∀ l : List UInt8, decide (0 ≤ Lib.indexByte l b) = decide (b ∈ l)
  | [] => by simp [Lib.indexByte]
  | c :: r => by
    have ih := indexByte_mem b r
    have hge := Lib.indexByte_ge r b
    rw [Lib.indexByte]
    by_cases hc : c = b
    · simp [hc]
    · have h1 : (c == b) = false := by simpa using hc
      rw [h1]
      by_cases hr : b ∈ r
      · have : 0 ≤ Lib.indexByte r b := by simpa [hr] using ih
        have h2 : (Lib.indexByte r b == -1) = false := by rw [beq_eq_false_iff_ne]; omega
        simp [h2, hr]; omega
      · have : ¬ 0 ≤ Lib.indexByte r b := by simpa [hr] using ih
        have h2 : (Lib.indexByte r b == -1) = true := by rw [beq_iff_eq]; omega
        simp [h2, hr, Ne.symm hc]
theorem cut_len (b : UInt8) : ∀ l : List UInt8, (cutL b l).length ≤ l.length + 1
  | [] => by simp [cutL]
  | c :: r => by
    have ih := cut_len b r
    have hp := cutL_pos b r
    unfold cutL
    split
    · simp; omega
    · simp; omega
theorem join_cut (b : UInt8) : ∀ l : List UInt8, joinL b (cutL b l) = l
  | [] => by simp [cutL, joinL]
  | c :: r => by
    have ih := join_cut b r
    have hp := cutL_pos b r
    cases hq : cutL b r with
    | nil => rw [hq] at hp; simp at hp
    | cons y t =>
      rw [hq] at ih
      unfold cutL
      rw [hq]
      split
      · rename_i hc
        rw [joinL, ih, hc]; rfl
      · cases t with
        | nil => simp [joinL] at ih ⊢; exact ih
        | cons z t => simp [joinL] at ih ⊢; exact ih
/-- Cut at most k times. -/
def cutK (b : UInt8) (k : Nat) (s : List UInt8) : List (List UInt8) := if (cutL b s).length ≤ k + 1 then cutL b s else (cutL b s).take k ++ [joinL b ((cutL b s).drop k)]
theorem splitK_cut (b : UInt8) : ∀ k s, Lib.splitK [b] 0 k s = cutK b k s
  | 0, s => by
    have hp := cutL_pos b s
    unfold cutK
    rw [Lib.splitK]
    split
    · rename_i h
      have hj := join_cut b s
      match hq : cutL b s, h, hp, hj with
      | [x], _, _, hj => rw [joinL] at hj; rw [hj]
    · rw [List.take_zero, List.drop_zero, join_cut]; rfl
  | k + 1, s => by
    rw [Lib.splitK]
    by_cases hb : b ∈ s
    · obtain ⟨x, r, rfl, hx⟩ := List.eq_append_cons_of_mem hb
      have h1 := index_at b r x hx
      have h2 : ((x.length : Int) == -1) = false := by rw [beq_eq_false_iff_ne]; omega
      rw [h1, h2]
      simp only [Bool.false_eq_true, if_false, Int.toNat_natCast, Nat.add_zero, List.length_cons, List.length_nil, Nat.zero_add]
      rw [splitK_cut b k, List.take_left, show (x ++ b :: r).drop (x.length + 1) = r from by rw [← List.drop_drop, List.drop_left]; rfl]
      unfold cutK
      rw [cut_app b r x hx]
      by_cases hl : (cutL b r).length ≤ k + 1
      · rw [if_pos hl, if_pos (by simp; omega)]
      · rw [if_neg hl, if_neg (by simp; omega)]
        simp
    · rw [index_no b s hb]
      unfold cutK
      rw [cut_none b s hb]
      simp
theorem splitN_cut (b : UInt8) (n : Nat) (hn : 1 ≤ n) (s : List UInt8) : Lib.splitN s [b] n = cutK b (n - 1) s := by
  unfold Lib.splitN
  rw [splitK_cut]
  have h := cut_len b s
  by_cases h1 : n ≤ s.length + 1
  · rw [Nat.min_eq_left h1]
  · rw [Nat.min_eq_right (by omega)]
    unfold cutK
    rw [if_pos (by omega), if_pos (by omega)]
theorem cutK_len (b : UInt8) (k : Nat) (s : List UInt8) : (cutK b k s).length = min (cutL b s).length (k + 1) := by
  unfold cutK
  split
  · omega
  · simp; omega
theorem cutK_same (b : UInt8) (k : Nat) (s : List UInt8) (h : (cutK b k s).length ≤ k) : cutK b k s = cutL b s := by
  rw [cutK_len] at h
  unfold cutK
  rw [if_pos (by omega)]

/-! IPv4, strictly. -/
/-- Four parts as a number; -1: they are none. -/
def fourP (P : List (List UInt8)) : Int := match P with
  | [a, b, c, d] => if okFour a && okFour b && okFour c && okFour d then ((num 10 a * 256 + num 10 b) * 256 + num 10 c) * 256 + num 10 d else -1
  | _ => -1
theorem four_parts (l : List UInt8) : four l = fourP (cutK 46 4 l) := by
  by_cases h : (cutL 46 l).length ≤ 5
  · unfold four fourP cutK
    rw [if_pos h]
    rfl
  · have h5 : (cutK 46 4 l).length = 5 := by rw [cutK_len]; omega
    unfold four fourP
    split
    · rename_i hq; rw [hq] at h; simp at h
    · split
      · rename_i hq; rw [hq] at h5; simp at h5
      · rfl
/-- A strict number: the digits below 256, no nought ahead. -/
theorem okFour_eq (x : List UInt8) (hx : x ≠ []) : okFour x = (numOk 10 256 x && !(decide (1 < x.length) && decide (x.headD 0 = 48))) := by
  unfold okFour
  rw [numOk_iff 10 256 x hx (by omega)]
  congr 1
  by_cases h1 : 0 ≤ num 10 x
  · by_cases h2 : num 10 x ≤ 255
    · simp [h1, h2]; omega
    · simp [h1, h2]; omega
  · simp [h1]
theorem okFour_nil : okFour [] = false := by decide
theorem okFour_num (x : List UInt8) (h : okFour x = true) : num 10 x = (valB 10 x : Int) ∧ valB 10 x < 256 := by
  have hx : x ≠ [] := fun e => by rw [e] at h; exact absurd h (by decide)
  rw [okFour_eq x hx, Bool.and_eq_true] at h
  exact num_of_ok 10 256 x hx (by omega) h.1
theorem four_colon (l : List UInt8) (h : (58 : UInt8) ∈ l) : four l < 0 := by
  rcases Int.lt_or_le (four l) 0 with h1 | h1
  · exact h1
  · have h2 := loose_four l h1
    rw [loose_colon l h] at h2
    cases h2
theorem parse_noColon (l : List UInt8) (h : (58 : UInt8) ∉ l) : parseA l = if 0 ≤ four l then some (false, v4B (four l).toNat) else none := by
  unfold parseA
  split
  · rfl
  · rw [cut_none 58 l h]
    split
    · rfl
    · simp
end Go.Proofs.Ytocdjgehjiolhaa
