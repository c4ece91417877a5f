
/- The program's own loops over parts: what they add up, and that it is what the definitions say: plain mathematics. -/
import Derived.Test.YtocdjgehjiolhaaIpDev
namespace Go.Proofs.Ytocdjgehjiolhaa
set_option linter.unusedSimpArgs false
set_option linter.unusedVariables false

theorem splitB_small (sep : ByteArray) : ∀ (k : Nat) (s x : ByteArray), x ∈ Lib.splitB sep 0 k s → x.size ≤ s.size
  | 0, s, x, h => by
    rw [Lib.splitB_zero, List.mem_singleton] at h
    rw [h]; exact Nat.le_refl _
  | k + 1, s, x, h => by
    unfold Lib.splitB at h
    split at h
    · rw [List.mem_singleton] at h; rw [h]; exact Nat.le_refl _
    · rcases List.mem_cons.1 h with rfl | h
      · simp; omega
      · have := splitB_small sep k _ x h
        simp at this; omega

/-- How much the last part may be worth. -/
def endL (n k : Nat) : Nat := if k = n - 1 then 256 ^ (4 - k) else 256
def accL (P : List (List UInt8)) : Nat → Option Nat
  | 0 => some 0
  | k + 1 => match accL P k with
    | none => none
    | some A => if partOk (endL P.length k) (P.getD k []) then some (A * endL P.length k + (partA (P.getD k [])).toNat) else none
theorem acc_all (P : List (List UInt8)) : ∀ k, k ≤ P.length - 1 → allTo P k = (accL P k).map (fun A : Nat => (A : Int))
  | 0, _ => rfl
  | k + 1, h => by
    have ih := acc_all P k (by omega)
    rw [allTo, accL, ih]
    cases hA : accL P k with
    | none => rfl
    | some A =>
      simp only [Option.map_some]
      have e : endL P.length k = 256 := by unfold endL; rw [if_neg (by omega)]
      rw [e]
      unfold partOk
      by_cases h1 : partA (P.getD k []) < 0 ∨ 255 < partA (P.getD k [])
      · rw [if_pos h1, if_neg (by rw [decide_eq_true_eq]; omega)]; rfl
      · rw [if_neg h1, if_pos (by rw [decide_eq_true_eq]; omega)]
        simp only [Option.map_some, Option.some.injEq]
        omega
theorem acc_lt (P : List (List UInt8)) : ∀ k A, k ≤ P.length - 1 → accL P k = some A → A < 256 ^ k
  | 0, A, _, h => by simp [accL] at h; subst h; decide
  | k + 1, A, hk, h => by
    rw [accL] at h
    cases hA : accL P k with
    | none => rw [hA] at h; cases h
    | some A' =>
      rw [hA] at h
      simp only at h
      have e : endL P.length k = 256 := by unfold endL; rw [if_neg (by omega)]
      rw [e] at h
      have ih := acc_lt P k A' (by omega) hA
      split at h
      · rename_i hp
        unfold partOk at hp
        rw [decide_eq_true_eq] at hp
        cases h
        rw [Nat.pow_succ]
        omega
      · cases h
theorem acc_none (P : List (List UInt8)) (k j : Nat) (h : accL P k = none) : accL P (k + j) = none := by
  induction j with
  | zero => exact h
  | succ j ih => rw [← Nat.add_assoc, accL, ih]
theorem loose_acc (P : List (List UInt8)) (h0 : 0 < P.length) (h4 : P.length ≤ 4) : looseP P = (accL P P.length).map v4B := by
  unfold looseP
  rw [if_neg (by omega), acc_all P (P.length - 1) (Nat.le_refl _)]
  obtain ⟨m, hm⟩ : ∃ m, P.length = m + 1 := ⟨P.length - 1, by omega⟩
  rw [hm, Nat.add_sub_cancel, show accL P (m + 1) = _ from rfl]
  rw [accL]
  cases hA : accL P m with
  | none => rfl
  | some A =>
    simp only [Option.map_some]
    have e : endL P.length m = 256 ^ (5 - (m + 1)) := by unfold endL; rw [hm, if_pos (by omega), show 5 - (m + 1) = 4 - m from by omega]
    rw [e]
    obtain ⟨E, hE⟩ : ∃ E, E = 256 ^ (5 - (m + 1)) := ⟨_, rfl⟩
    have hE' : ((256 : Int) ^ (5 - (m + 1))) = (E : Int) := by rw [hE]; exact (Int.natCast_pow 256 _).symm
    rw [← hE, hE']
    unfold partOk
    by_cases h1 : partA (P.getD m []) < 0 ∨ (E : Int) ≤ partA (P.getD m [])
    · rw [if_pos h1, if_neg (by rw [decide_eq_true_eq]; omega)]; rfl
    · rw [if_neg h1, if_pos (by rw [decide_eq_true_eq]; omega)]
      simp only [Option.map_some, Option.some.injEq]
      congr 1
      have : (A : Int) * E = ((A * E : Nat) : Int) := (Int.natCast_mul A E).symm
      rw [this]
      omega
theorem acc_full (P : List (List UInt8)) (h0 : 0 < P.length) (h4 : P.length ≤ 4) (A : Nat) (h : accL P P.length = some A) : A < 4294967296 := by
  obtain ⟨m, hm⟩ : ∃ m, P.length = m + 1 := ⟨P.length - 1, by omega⟩
  rw [hm, accL] at h
  cases hA : accL P m with
  | none => rw [hA] at h; cases h
  | some A' =>
    rw [hA] at h
    simp only at h
    have hl := acc_lt P m A' (by omega) hA
    have e : endL P.length m = 256 ^ (4 - m) := by unfold endL; rw [hm, if_pos (by omega)]
    rw [e] at h
    split at h
    · rename_i hp
      unfold partOk at hp
      rw [decide_eq_true_eq] at hp
      cases h
      have hm4 : m < 4 := by omega
      match m, hm4 with
      | 0, _ => omega
      | 1, _ => omega
      | 2, _ => omega
      | 3, _ => omega
    · cases h
/-- The program's parts are the reference's, unless there are too many. -/
theorem loose_parts (l : List UInt8) : looseA l = if 4 < (cutK 46 4 (trimDot l)).length then none else (accL (cutK 46 4 (trimDot l)) (cutK 46 4 (trimDot l)).length).map v4B := by
  unfold looseA
  have hl := cutK_len 46 4 (trimDot l)
  by_cases h : 4 < (cutK 46 4 (trimDot l)).length
  · rw [if_pos h]
    unfold looseP
    rw [if_pos (by omega)]
  · rw [if_neg h, cutK_same 46 4 _ (by omega)]
    rw [cutK_same 46 4 _ (by omega)] at h
    exact loose_acc _ (cutL_pos 46 _) (by omega)
theorem trim_lib (l : List UInt8) : Lib.trimSuffix l [46] = trimDot l := by
  unfold Lib.trimSuffix trimDot Lib.hasSuffix
  by_cases h : l.getLast? = some 46
  · obtain ⟨ys, rfl⟩ := List.getLast?_eq_some_iff.1 h
    rw [if_pos h, if_pos (by simp)]
    simp
  · rw [if_neg h, if_neg]
    intro h2
    rw [List.isSuffixOf_iff_suffix] at h2
    obtain ⟨ys, rfl⟩ := h2
    exact h (by simp)

/-! IPv4, strictly: the bytes, one by one. -/
def fV (P : List (List UInt8)) (k : Nat) : List UInt8 := List.replicate 12 0 ++ ((P.take k).map fun x => b8 (valB 10 x)) ++ List.replicate (4 - k) 0
theorem fV_len (P : List (List UInt8)) (hP : P.length = 4) (k : Nat) (hk : k ≤ 4) : (fV P k).length = 16 := by simp [fV]; omega
theorem fV_set (P : List (List UInt8)) (hP : P.length = 4) (k : Nat) (hk : k < 4) : (fV P k).set (12 + k) (b8 (valB 10 (P.getD k []))) = fV P (k + 1) := by
  match P, hP with
  | [a, b, c, d], _ =>
    match k, hk with
    | 0, _ => rfl
    | 1, _ => rfl
    | 2, _ => rfl
    | 3, _ => rfl
theorem fV_zero (P : List (List UInt8)) : fV P 0 = List.replicate 16 0 := by simp [fV]
theorem b8_toNat (n : Nat) (h : n < 256) : (b8 n).toNat = n := by simp [b8]; omega
theorem b8_mod (n : Nat) : b8 n = b8 (n % 256) := by apply UInt8.toNat_inj.1; simp [b8]
theorem four_ok (P : List (List UInt8)) (hP : P.length = 4) (h : ∀ j, j < 4 → okFour (P.getD j []) = true) : 0 ≤ fourP P ∧ fV P 4 = v4B (fourP P).toNat := by
  match P, hP with
  | [a, b, c, d], _ =>
    have ha := h 0 (by omega)
    have hb := h 1 (by omega)
    have hc := h 2 (by omega)
    have hd := h 3 (by omega)
    simp only [List.getD_cons_zero, List.getD_cons_succ] at ha hb hc hd
    obtain ⟨na, la⟩ := okFour_num a ha
    obtain ⟨nb, lb⟩ := okFour_num b hb
    obtain ⟨nc, lc⟩ := okFour_num c hc
    obtain ⟨nd, ld⟩ := okFour_num d hd
    have e : fourP [a, b, c, d] = ((((valB 10 a * 256 + valB 10 b) * 256 + valB 10 c) * 256 + valB 10 d : Nat) : Int) := by
      unfold fourP
      simp only [ha, hb, hc, hd, Bool.and_self, if_true]
      rw [na, nb, nc, nd]
      omega
    rw [e]
    refine ⟨by omega, ?_⟩
    rw [Int.toNat_natCast]
    obtain ⟨A, hA⟩ : ∃ A, A = valB 10 a := ⟨_, rfl⟩
    obtain ⟨B, hB⟩ : ∃ A, A = valB 10 b := ⟨_, rfl⟩
    obtain ⟨C, hC⟩ : ∃ A, A = valB 10 c := ⟨_, rfl⟩
    obtain ⟨D, hD⟩ : ∃ A, A = valB 10 d := ⟨_, rfl⟩
    rw [← hA] at la; rw [← hB] at lb; rw [← hC] at lc; rw [← hD] at ld
    simp only [fV, v4B, List.take_succ_cons, List.take_zero, List.map_cons, List.map_nil, Nat.sub_self, List.replicate_zero, List.append_nil]
    rw [← hA, ← hB, ← hC, ← hD]
    rw [show (((A * 256 + B) * 256 + C) * 256 + D) / 16777216 = A from by omega]
    rw [b8_mod ((((A * 256 + B) * 256 + C) * 256 + D) / 65536), show (((A * 256 + B) * 256 + C) * 256 + D) / 65536 % 256 = B from by omega]
    rw [b8_mod ((((A * 256 + B) * 256 + C) * 256 + D) / 256), show (((A * 256 + B) * 256 + C) * 256 + D) / 256 % 256 = C from by omega]
    rw [b8_mod (((A * 256 + B) * 256 + C) * 256 + D), show (((A * 256 + B) * 256 + C) * 256 + D) % 256 = D from by omega]
theorem four_bad (P : List (List UInt8)) (j : Nat) (hj : j < 4) (h : okFour (P.getD j []) = false) : fourP P = -1 := by
  unfold fourP
  split
  · rename_i a b c d
    match j, hj with
    | 0, _ => simp only [List.getD_cons_zero] at h; simp [h]
    | 1, _ => simp only [List.getD_cons_zero, List.getD_cons_succ] at h; simp [h]
    | 2, _ => simp only [List.getD_cons_zero, List.getD_cons_succ] at h; simp [h]
    | 3, _ => simp only [List.getD_cons_zero, List.getD_cons_succ] at h; simp [h]
  · rfl
theorem four_len (P : List (List UInt8)) (h : P.length ≠ 4) : fourP P = -1 := by
  unfold fourP
  split
  · simp at h
  · rfl
end Go.Proofs.Ytocdjgehjiolhaa
