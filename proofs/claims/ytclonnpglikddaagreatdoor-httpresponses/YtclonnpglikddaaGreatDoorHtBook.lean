
/- Messages of HTTP: how the program takes first lines, numbers and bodies apart, against the document's way (no program in it). -/
import Derived.Test.YtclonnpglikddaaGreatDoorHtMath
import Derived.Lib.SplitLaws
import Derived.Lib.CountLaws
import Derived.Lib.ParseIntB
namespace Go.Proofs.YtclonnpglikddaaGreatDoor
set_option linter.unusedVariables false
set_option linter.unusedSimpArgs false

/-! Blanks. -/
theorem cnt_no (s : List UInt8) (h : (32 : UInt8) ∉ s) : Lib.count s [32] = 0 := Lib.count_miss (index_no 32 s h)
theorem cnt_at (a x : List UInt8) (h : (32 : UInt8) ∉ a) : Lib.count (a ++ 32 :: x) [32] = 1 + Lib.count x [32] := by
  have := Lib.count_hit (s := a ++ 32 :: x) (sub := [32]) (i := a.length) (by simp) (index_at 32 x a h)
  rw [this]
  congr 2
  simp
theorem split_cut : ∀ (k : Nat) (s : List UInt8), Lib.splitK [32] 0 k s = cutM k s
  | 0, s => rfl
  | k + 1, s => by
    rcases first_dec 32 s with h | ⟨a, x, rfl, h⟩
    · rw [cut_end _ s h]
      unfold Lib.splitK
      rw [index_no 32 s h]
      rfl
    · rw [cut_step k a x h]
      unfold Lib.splitK
      rw [index_at 32 x a h, if_neg (by simp <;> omega), split_cut k]
      congr 1
      · simp
      · congr 1
        simp
theorem cut_len : ∀ (k : Nat) (s : List UInt8), (cutM k s).length = min k (Lib.count s [32]) + 1
  | 0, s => by simp [cutM]
  | k + 1, s => by
    rcases first_dec 32 s with h | ⟨a, x, rfl, h⟩
    · rw [cut_end _ s h, cnt_no s h]; simp
    · rw [cut_step k a x h, cnt_at a x h, List.length_cons, cut_len k x]; omega
theorem cut_all : ∀ (k : Nat) (s : List UInt8), Lib.count s [32] ≤ k → cutM k s = cutM (Lib.count s [32]) s
  | 0, s, h => by rw [show Lib.count s [32] = 0 from by omega]
  | k + 1, s, hk => by
    rcases first_dec 32 s with h | ⟨a, x, rfl, h⟩
    · rw [cut_end _ s h, cut_end _ s h]
    · rw [cnt_at a x h] at hk ⊢
      rw [cut_step k a x h, Nat.add_comm 1, cut_step _ a x h, cut_all k x (by omega)]
/-- Cut at every blank or at eight of them: the same are a request's first line. -/
theorem req_full (s : List UInt8) : okReq (Lib.split s [32]) = okReq (cutM 8 s) ∧ (okReq (cutM 8 s) = true → Lib.split s [32] = cutM 8 s) := by
  unfold Lib.split
  rw [split_cut]
  by_cases h : Lib.count s [32] ≤ 8
  · rw [cut_all 8 s h]; exact ⟨rfl, fun _ => rfl⟩
  · have l1 := cut_len 8 s
    have l2 := cut_len (Lib.count s [32]) s
    have e1 : okReq (cutM 8 s) = false := by
      unfold okReq
      rw [decide_eq_false (by omega)]; rfl
    have e2 : okReq (cutM (Lib.count s [32]) s) = false := by
      unfold okReq
      rw [decide_eq_false (by omega)]; rfl
    rw [e1, e2]
    exact ⟨rfl, fun h => by cases h⟩
/-! Numbers. -/
def numB (most : Nat) (s : List UInt8) : Bool := decide (1 ≤ s.length ∧ s.length ≤ most) && btw 48 57 s
theorem btw_cons (a b : Nat) (c : UInt8) (r : List UInt8) : btw a b (c :: r) = (decide (a ≤ c.toNat ∧ c.toNat ≤ b) && btw a b r) := rfl
theorem pum_ok : ∀ (s : List UInt8) (acc u : Nat), Lib.parseUintM 4294967295 acc s = .ok u → btw 48 57 s = true ∧ u = s.foldl (fun n c => n * 10 + (c.toNat - 48)) acc
  | [], acc, u, h => by
    simp only [Lib.parseUintM] at h
    cases h
    exact ⟨rfl, rfl⟩
  | c :: r, acc, u, h => by
    simp only [Lib.parseUintM] at h
    split at h
    · rename_i hc
      split at h
      · cases h
      · split at h
        · cases h
        · obtain ⟨h1, h2⟩ := pum_ok r _ u h
          refine ⟨?_, h2⟩
          rw [btw_cons, h1, decide_eq_true hc]; rfl
    · cases h
theorem pum_small : ∀ (s : List UInt8) (acc k : Nat), s.length ≤ k → acc < 10 ^ (8 - k) → k ≤ 8 → btw 48 57 s = true → Lib.parseUintM 4294967295 acc s = .ok (s.foldl (fun n c => n * 10 + (c.toNat - 48)) acc)
  | [], acc, k, _, _, _, _ => rfl
  | c :: r, acc, 0, hl, _, _, _ => by simp at hl
  | c :: r, acc, k + 1, hl, ha, hk, hb => by
    rw [btw_cons, Bool.and_eq_true] at hb
    have hc := of_decide_eq_true hb.1
    have e : 8 - k = (8 - (k + 1)) + 1 := by omega
    have h1 : acc * 10 + (c.toNat - 48) < 10 ^ (8 - k) := by rw [e, Nat.pow_succ]; omega
    have h2 : 10 ^ (8 - k) ≤ 10 ^ 8 := Nat.pow_le_pow_right (by decide) (by omega)
    simp only [Lib.parseUintM]
    rw [if_pos hc, if_neg (by omega), if_neg (by omega)]
    exact pum_small r _ k (by simpa using hl) h1 (by omega) hb.2
theorem pum_val (s : List UInt8) (h : numB 8 s = true) : Lib.parseUintM 4294967295 0 s = .ok (valD s) := by
  unfold numB at h
  rw [Bool.and_eq_true] at h
  have := of_decide_eq_true h.1
  exact pum_small s 0 8 this.2 (by decide) (by decide) h.2
theorem num_le (a b : Nat) (h : a ≤ b) (s : List UInt8) (hs : numB a s = true) : numB b s = true := by
  unfold numB at hs ⊢
  rw [Bool.and_eq_true] at hs ⊢
  have := of_decide_eq_true hs.1
  exact ⟨decide_eq_true ⟨this.1, by omega⟩, hs.2⟩
theorem num_not (most : Nat) (s : List UInt8) (h : numB most s = false) (hs : s ≠ []) (hl : s.length ≤ most) : ∀ u, Lib.parseUintM 4294967295 0 s ≠ .ok u := fun u hu => by
  have h1 := (pum_ok s 0 u hu).1
  unfold numB at h
  rw [h1, decide_eq_true ⟨by have : s.length ≠ 0 := fun e => hs (List.length_eq_zero_iff.1 e); omega, hl⟩] at h
  cases h
theorem val_ten : ∀ (s : List UInt8) (acc : Nat), btw 48 57 s = true → s.foldl (fun n c => n * 10 + (c.toNat - 48)) acc < (acc + 1) * 10 ^ s.length
  | [], acc, _ => by simp
  | c :: r, acc, hb => by
    rw [btw_cons, Bool.and_eq_true] at hb
    have hc := of_decide_eq_true hb.1
    have := val_ten r (acc * 10 + (c.toNat - 48)) hb.2
    rw [List.foldl_cons, List.length_cons, Nat.pow_succ]
    refine Nat.lt_of_lt_of_le this ?_
    rw [Nat.mul_comm (10 ^ r.length) 10, ← Nat.mul_assoc]
    exact Nat.mul_le_mul_right _ (by omega)
theorem val_lt8 (s : List UInt8) (h : numB 8 s = true) : valD s < 100000000 := by
  unfold numB at h
  rw [Bool.and_eq_true] at h
  have h1 := of_decide_eq_true h.1
  have := val_ten s 0 h.2
  have h2 : 10 ^ s.length ≤ 10 ^ 8 := Nat.pow_le_pow_right (by decide) h1.2
  unfold valD
  omega
/-! A response's first line. -/
def restM (s : List UInt8) : List UInt8 := Lib.trimPrefix s (verM ++ [32])
def versB (s : List UInt8) : Bool := Lib.hasPrefix s (verM ++ [32])
def digM (s : List UInt8) : List UInt8 := (Lib.cut (restM s) [32]).1
def reaM (s : List UInt8) : List UInt8 := (Lib.cut (restM s) [32]).2.1
def lineB (s : List UInt8) : Bool := versB s && numB 3 (digM s) && decide (100 ≤ valD (digM s) ∧ valD (digM s) ≤ 599) && (decide ((reaM s).length ≤ 128) && btw 32 126 (reaM s))
theorem pre_dec (p s : List UInt8) : Lib.hasPrefix s p = true ↔ ∃ r, s = p ++ r := by
  unfold Lib.hasPrefix
  rw [List.isPrefixOf_iff_prefix]
  exact ⟨fun ⟨r, h⟩ => ⟨r, h.symm⟩, fun ⟨r, h⟩ => ⟨r, h.symm⟩⟩
theorem cut_parts (r : List UInt8) : (cutM 1 r).getD 0 [] = (Lib.cut r [32]).1 ∧ (cutM 1 r).getD 1 [] = (Lib.cut r [32]).2.1 ∧ 1 ≤ (cutM 1 r).length := by
  rcases first_dec 32 r with h | ⟨a, x, rfl, h⟩
  · rw [cut_end _ r h]
    unfold Lib.cut
    rw [index_no 32 r h]
    exact ⟨rfl, rfl, by simp⟩
  · rw [cut_step 0 a x h]
    unfold Lib.cut
    rw [index_at 32 x a h, if_pos (by omega)]
    refine ⟨by simp, ?_, by simp⟩
    show x = _
    simp
theorem stat_val (d : List UInt8) (h3 : d.length = 3) (hb : btw 48 57 d = true) : valD d = statV d ∧ (decide (49 ≤ (d.getD 0 0).toNat ∧ (d.getD 0 0).toNat ≤ 53) = decide (100 ≤ valD d ∧ valD d ≤ 599)) := by
  match d, h3 with
  | [a, b, c], _ =>
    simp only [btw, List.all_cons, List.all_nil, Bool.and_true, Bool.and_eq_true, decide_eq_true_eq] at hb
    obtain ⟨ha, hbb, hc⟩ := hb
    have e : valD [a, b, c] = statV [a, b, c] := by
      show ((0 * 10 + (a.toNat - 48)) * 10 + (b.toNat - 48)) * 10 + (c.toNat - 48) = (a.toNat - 48) * 100 + (b.toNat - 48) * 10 + (c.toNat - 48)
      omega
    refine ⟨e, ?_⟩
    rw [e]
    show decide (49 ≤ a.toNat ∧ a.toNat ≤ 53) = decide (100 ≤ (a.toNat - 48) * 100 + (b.toNat - 48) * 10 + (c.toNat - 48) ∧ (a.toNat - 48) * 100 + (b.toNat - 48) * 10 + (c.toNat - 48) ≤ 599)
    exact decide_eq_decide.2 ⟨fun h => ⟨by omega, by omega⟩, fun h => ⟨by omega, by omega⟩⟩
theorem resp_line (s : List UInt8) : lineB s = okResp (cutM 2 s) ∧ (lineB s = true → valD (digM s) = statV ((cutM 2 s).getD 1 []) ∧ reaM s = (cutM 2 s).getD 2 []) := by
  cases hv : versB s with
  | true =>
    obtain ⟨r, hr⟩ := (pre_dec _ _).1 hv
    have e1 : restM s = r := by
      unfold restM Lib.trimPrefix
      rw [show Lib.hasPrefix s (verM ++ [32]) = true from hv, if_pos rfl, hr, List.drop_left]
    have e2 : cutM 2 s = verM :: cutM 1 r := by
      rw [hr, List.append_assoc]
      exact cut_step 1 verM r (by decide)
    obtain ⟨c1, c2, c3⟩ := cut_parts r
    have f1 : (cutM 2 s).getD 1 [] = digM s := by rw [e2, List.getD_cons_succ, c1]; unfold digM; rw [e1]
    have f2 : (cutM 2 s).getD 2 [] = reaM s := by rw [e2, List.getD_cons_succ, c2]; unfold reaM; rw [e1]
    have f0 : (cutM 2 s).getD 0 [] = verM := by rw [e2]; rfl
    have fl : 2 ≤ (cutM 2 s).length := by rw [e2, List.length_cons]; omega
    rw [f1, f2]
    generalize hd : digM s = d
    have hA : okResp (cutM 2 s) = (decide (d.length = 3) && btw 48 57 d && decide (49 ≤ (d.getD 0 0).toNat ∧ (d.getD 0 0).toNat ≤ 53) && decide ((reaM s).length ≤ 128) && btw 32 126 (reaM s)) := by
      unfold okResp
      rw [f0, f1, f2, hd, decide_eq_true fl]
      simp
    have hB : lineB s = (numB 3 d && decide (100 ≤ valD d ∧ valD d ≤ 599) && (decide ((reaM s).length ≤ 128) && btw 32 126 (reaM s))) := by
      unfold lineB
      rw [hv, hd, Bool.true_and]
    rw [hA, hB]
    by_cases h3 : d.length = 3
    · cases hb : btw 48 57 d with
      | false =>
        unfold numB
        rw [hb]
        simp
      | true =>
        obtain ⟨s1, s2⟩ := stat_val d h3 hb
        refine ⟨?_, fun _ => ⟨s1, rfl⟩⟩
        unfold numB
        rw [s2, hb, decide_eq_true h3, decide_eq_true (⟨by omega, by omega⟩ : 1 ≤ d.length ∧ d.length ≤ 3)]
        simp [Bool.and_assoc]
    · have hn : (numB 3 d && decide (100 ≤ valD d ∧ valD d ≤ 599)) = false := by
        cases hq : numB 3 d with
        | false => rfl
        | true =>
          have hq' := hq
          unfold numB at hq'
          rw [Bool.and_eq_true] at hq'
          have hl := of_decide_eq_true hq'.1
          have := val_ten d 0 hq'.2
          have h2 : 10 ^ d.length ≤ 10 ^ 2 := Nat.pow_le_pow_right (by decide) (by omega)
          rw [Bool.true_and]
          refine decide_eq_false ?_
          unfold valD
          omega
      rw [hn, decide_eq_false h3]
      simp
  | false =>
    have hA : okResp (cutM 2 s) = false := by
      cases hq : okResp (cutM 2 s) with
      | false => rfl
      | true =>
        exfalso
        rw [Bool.eq_false_iff] at hv
        refine hv ((pre_dec _ _).2 ?_)
        unfold okResp at hq
        simp only [Bool.and_eq_true, decide_eq_true_eq] at hq
        obtain ⟨⟨⟨⟨⟨⟨q1, q2⟩, _⟩, _⟩, _⟩, _⟩, _⟩ := hq
        rcases first_dec 32 s with h | ⟨a, x, rfl, h⟩
        · rw [cut_end _ s h] at q1
          simp at q1
        · rw [cut_step 1 a x h] at q2
          exact ⟨x, by rw [show a = verM from q2]; simp⟩
    have hB : lineB s = false := by unfold lineB; rw [hv]; rfl
    rw [hA, hB]
    exact ⟨rfl, fun h => by cases h⟩
/-! Lengths. -/
def teM : List UInt8 := [84, 114, 97, 110, 115, 102, 101, 114, 45, 69, 110, 99, 111, 100, 105, 110, 103]
theorem all_low (l : List HdV) (a b : List UInt8) (h : a.map lowB = b.map lowB) : allH l a = allH l b := by
  unfold allH likeH
  rw [h]
theorem all_cl (l : List HdV) : allH l clM = allH l clLow := all_low l _ _ (by decide)
theorem all_te (l : List HdV) : allH l teM = allH l teLow := all_low l _ _ (by decide)
def sameB (s : List (List UInt8)) : Bool := s.all fun x => decide (x = s.headD [])
theorem nums_eq (s : List (List UInt8)) (h : s ≠ []) : numsOk s = (sameB s && numB 8 (s.headD [])) := by
  have hm : s.headD [] ∈ s := by
    cases s with
    | nil => exact absurd rfl h
    | cons x r => simp
  rw [Bool.eq_iff_iff]
  unfold numsOk sameB numB
  rw [Bool.and_eq_true, Bool.and_eq_true, List.all_eq_true, List.all_eq_true]
  generalize s.headD [] = d at hm
  constructor
  · intro H
    have h1 := H d hm
    rw [Bool.and_eq_true] at h1
    refine ⟨fun y hy => ?_, decide_eq_true (of_decide_eq_true h1.1).2, h1.2⟩
    have h2 := H y hy
    rw [Bool.and_eq_true] at h2
    exact decide_eq_true (of_decide_eq_true h2.1).1
  · rintro ⟨h1, h2, h3⟩ y hy
    have h4 := of_decide_eq_true (h1 y hy)
    subst h4
    rw [Bool.and_eq_true]
    exact ⟨decide_eq_true ⟨rfl, of_decide_eq_true h2⟩, h3⟩
end Go.Proofs.YtclonnpglikddaaGreatDoor
