
/- Numbers: what ParseInt answers of digits (mathematics). -/
import Derived.Test.YtlgkbdebpnbndaaGreatDoorJsVal
import Derived.Lib.ParseIntB
namespace Go.Proofs.YtlgkbdebpnbndaaGreatDoor
set_option linter.unusedVariables false
set_option linter.unusedSimpArgs false
open Go.RowKit Go.BigFrame

theorem decJ_foldl (l : List UInt8) : ∀ a, l.foldl (fun a c => a * 10 + (c.toNat - 48)) a = a * 10 ^ l.length + decJ l := by
  induction l with
  | nil => intro a; simp [decJ]
  | cons c r ih =>
    intro a
    show r.foldl _ (a * 10 + (c.toNat - 48)) = _
    rw [ih]
    have h2 : decJ (c :: r) = (0 * 10 + (c.toNat - 48)) * 10 ^ r.length + decJ r := ih _
    rw [h2, List.length_cons, Nat.pow_succ, Nat.zero_mul, Nat.zero_add, Nat.add_mul, Nat.mul_assoc, Nat.mul_comm 10 (10 ^ r.length), Nat.add_assoc]
theorem decJ_cons (c : UInt8) (r : List UInt8) : decJ (c :: r) = (c.toNat - 48) * 10 ^ r.length + decJ r := by
  have h2 : decJ (c :: r) = (0 * 10 + (c.toNat - 48)) * 10 ^ r.length + decJ r := decJ_foldl r _
  rw [h2]
  simp
theorem uintM_dec : ∀ (l : List UInt8) (acc : Nat), (∀ c ∈ l, digJ c = true) → acc ≤ 18446744073709551615 → Lib.parseUintM 18446744073709551615 acc l = if acc * 10 ^ l.length + decJ l ≤ 18446744073709551615 then .ok (acc * 10 ^ l.length + decJ l) else .range
  | [], acc, _, h => by
    have e : acc * 10 ^ ([] : List UInt8).length + decJ [] = acc := by simp [decJ]
    rw [e, if_pos h]
    rfl
  | c :: r, acc, hd, h => by
    have hc : 48 ≤ c.toNat ∧ c.toNat ≤ 57 := of_decide_eq_true (hd c (by simp))
    have e : acc * 10 ^ (c :: r).length + decJ (c :: r) = (acc * 10 + (c.toNat - 48)) * 10 ^ r.length + decJ r := by
      rw [decJ_cons, List.length_cons, Nat.pow_succ, Nat.add_mul, Nat.mul_assoc, Nat.mul_comm 10 (10 ^ r.length), Nat.add_assoc]
    have hp : 1 ≤ 10 ^ r.length := Nat.one_le_pow _ _ (by decide)
    have hge : acc * 10 + (c.toNat - 48) ≤ (acc * 10 + (c.toNat - 48)) * 10 ^ r.length + decJ r := Nat.le_trans (Nat.le_mul_of_pos_right _ hp) (Nat.le_add_right _ _)
    rw [e, Lib.parseUintM, if_pos hc]
    by_cases h1 : 1844674407370955162 ≤ acc
    · rw [if_pos h1, if_neg (by omega)]
    · rw [if_neg h1]
      by_cases h2 : 18446744073709551615 < acc * 10 + (c.toNat - 48)
      · rw [if_pos h2, if_neg (by omega)]
      · rw [if_neg h2, uintM_dec r _ (fun x hx => hd x (by simp [hx])) (by omega)]
theorem uintB_dec (l : List UInt8) (hd : ∀ c ∈ l, digJ c = true) (h0 : l ≠ []) : Lib.parseUintB 64 l = if decJ l ≤ 18446744073709551615 then .ok (decJ l) else .range := by
  unfold Lib.parseUintB
  rw [if_neg h0]
  have h := uintM_dec l 0 hd (by omega)
  rw [Nat.zero_mul, Nat.zero_add] at h
  exact h
theorem intB_minus (l : List UInt8) (hd : ∀ c ∈ l, digJ c = true) (h0 : l ≠ []) : Lib.parseIntB 64 (45 :: l) = if fitsJ (-(decJ l : Int)) then .ok (-(decJ l : Int)) else .range := by
  have hu := uintB_dec l hd h0
  unfold Lib.parseIntB
  have e : (if ((45 : UInt8).toNat = 43 ∨ (45 : UInt8).toNat = 45) then l else 45 :: l) = l := if_pos (.inr rfl)
  simp only [e, hu]
  have hp : (2 : Nat) ^ (64 - 1) = 9223372036854775808 := by decide
  generalize decJ l = v
  by_cases h1 : v ≤ 18446744073709551615
  · rw [if_pos h1]
    simp only [hp]
    rw [if_neg (by rintro ⟨h, _⟩; exact h rfl)]
    by_cases h2 : 9223372036854775808 < v
    · rw [if_pos ⟨rfl, h2⟩, if_neg (by unfold fitsJ; rw [decide_eq_true_iff]; omega)]
    · have hf : fitsJ (-(v : Int)) = true := by unfold fitsJ; rw [decide_eq_true_iff]; omega
      rw [if_neg (by rintro ⟨_, h⟩; exact h2 h), hf]
      rfl
  · rw [if_neg h1, if_neg (by unfold fitsJ; rw [decide_eq_true_iff]; omega)]
theorem intB_plain (l : List UInt8) (hd : ∀ c ∈ l, digJ c = true) (h0 : l ≠ []) : Lib.parseIntB 64 l = if fitsJ (decJ l : Int) then .ok (decJ l : Int) else .range := by
  have hu := uintB_dec l hd h0
  cases l with
  | nil => exact absurd rfl h0
  | cons c r =>
    have hc : 48 ≤ c.toNat ∧ c.toNat ≤ 57 := of_decide_eq_true (hd c (by simp))
    unfold Lib.parseIntB
    have e : (if (c.toNat = 43 ∨ c.toNat = 45) then r else c :: r) = c :: r := if_neg (by omega)
    simp only [e, hu]
    have hp : (2 : Nat) ^ (64 - 1) = 9223372036854775808 := by decide
    generalize decJ (c :: r) = v
    have hn : ¬ c.toNat = 45 := by omega
    by_cases h1 : v ≤ 18446744073709551615
    · rw [if_pos h1]
      simp only [hp]
      by_cases h2 : 9223372036854775808 ≤ v
      · rw [if_pos ⟨hn, h2⟩, if_neg (by unfold fitsJ; rw [decide_eq_true_iff]; omega)]
      · have hf : fitsJ (v : Int) = true := by unfold fitsJ; rw [decide_eq_true_iff]; omega
        rw [if_neg (by rintro ⟨_, h⟩; exact h2 h), if_neg (by rintro ⟨h, _⟩; exact hn h), if_neg hn, hf]
        rfl
    · rw [if_neg h1, if_neg (by unfold fitsJ; rw [decide_eq_true_iff]; omega)]
/-- The digits of a whole number stand there. -/
theorem int_parts {l ds r : List UInt8} (h : intJ l = some (ds, r)) : l = ds ++ r ∧ ds ≠ [] ∧ ∀ c ∈ ds, digJ c = true := by
  unfold intJ at h
  split at h
  · rename_i hp
    injection h with h
    injection h with h1 h2
    subst h1 h2
    exact ⟨pre_one hp, by simp, fun c hc => by rw [List.mem_singleton.1 hc]; rfl⟩
  · split at h
    · cases h
    · rename_i hn
      injection h with h
      injection h with h1 h2
      subst h1 h2
      exact ⟨List.takeWhile_append_dropWhile.symm, by simpa using hn, tw_all digJ l⟩
theorem min_parts (l : List UInt8) : l = (if preX [45] l then [45] else []) ++ minJ l := by
  unfold minJ
  cases hp : preX [45] l with
  | true => exact pre_one hp
  | false => rfl
/-- What ParseInt answers of the sign and the digits. -/
theorem intB_num (l ds r : List UInt8) (h : intJ (minJ l) = some (ds, r)) : l = ((if preX [45] l then [45] else []) ++ ds) ++ r ∧ ((if preX [45] l then [45] else []) ++ ds) ≠ [] ∧ Lib.parseIntB 64 ((if preX [45] l then [45] else []) ++ ds) = if fitsJ (if preX [45] l then -(decJ ds : Int) else decJ ds) then .ok (if preX [45] l then -(decJ ds : Int) else decJ ds) else .range := by
  obtain ⟨h1, h2, h3⟩ := int_parts h
  have hm := min_parts l
  refine ⟨by rw [List.append_assoc, ← h1]; exact hm, fun e => h2 (List.append_eq_nil_iff.1 e).2, ?_⟩
  cases hp : preX [45] l with
  | true => exact intB_minus ds h3 h2
  | false => exact intB_plain ds h3 h2
end Go.Proofs.YtlgkbdebpnbndaaGreatDoor
