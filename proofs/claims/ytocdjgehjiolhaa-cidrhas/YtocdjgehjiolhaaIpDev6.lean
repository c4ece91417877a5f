
/- The program's own reading of IPv6 is the reading by definition: plain mathematics. -/
import Derived.Test.YtocdjgehjiolhaaIpDev2
namespace Go.Proofs.Ytocdjgehjiolhaa
set_option linter.unusedSimpArgs false
set_option linter.unusedVariables false

/-- A group. -/
def okH (x : List UInt8) : Bool := decide (x ≠ []) && decide (x.length ≤ 4) && numOk 16 65536 x
theorem okH_46 (x : List UInt8) (h : (46 : UInt8) ∈ x) : okH x = false := by
  unfold okH numOk
  have : (x.all fun c => decide (dig c < 16)) = false := by
    rw [List.all_eq_false]; exact ⟨46, h, by decide⟩
  rw [this]; simp
theorem okH_58 (x : List UInt8) (h : (58 : UInt8) ∈ x) : okH x = false := by
  unfold okH numOk
  have : (x.all fun c => decide (dig c < 16)) = false := by
    rw [List.all_eq_false]; exact ⟨58, h, by decide⟩
  rw [this]; simp
theorem fold_lt (base : Nat) (hb : 1 ≤ base) : ∀ (r : List UInt8) (n : Nat), (∀ c ∈ r, dig c < base) → r.foldl (fun n c => n * base + dig c) n < (n + 1) * base ^ r.length
  | [], n, _ => by simp
  | c :: t, n, h => by
    have ih := fold_lt base hb t (n * base + dig c) (fun d hd => h d (by simp [hd]))
    have hc := h c (by simp)
    simp only [List.foldl_cons, List.length_cons, Nat.pow_succ]
    have h1 : (n * base + dig c + 1) * base ^ t.length ≤ ((n + 1) * base) * base ^ t.length := Nat.mul_le_mul_right _ (by rw [Nat.add_mul]; omega)
    have h2 : ((n + 1) * base) * base ^ t.length = (n + 1) * (base ^ t.length * base) := by rw [Nat.mul_assoc, Nat.mul_comm base]
    omega
theorem valB_pow (base : Nat) (hb : 1 ≤ base) (x : List UInt8) (h : ∀ c ∈ x, dig c < base) : valB base x < base ^ x.length := by
  have := fold_lt base hb x 0 h
  simpa [valB] using this
theorem okH_num (x : List UInt8) (hx : x ≠ []) : okH x = true ↔ ¬ (num 16 x < 0 ∨ 4 < x.length) := by
  constructor
  · intro h
    unfold okH at h
    rw [Bool.and_eq_true, Bool.and_eq_true, decide_eq_true_eq, decide_eq_true_eq] at h
    have := num_of_ok 16 65536 x hx (by omega) h.2
    omega
  · intro h
    have h1 : 0 ≤ num 16 x := by omega
    have h2 : x.length ≤ 4 := by omega
    have h3 : isNum 16 x = true := by
      unfold num at h1
      split at h1
      · assumption
      · omega
    unfold isNum at h3
    rw [Bool.and_eq_true] at h3
    unfold okH numOk
    rw [h3.2]
    have h4 : valB 16 x < 16 ^ x.length := valB_pow 16 (by omega) x (fun c hc => by have := List.all_eq_true.1 h3.2 c hc; simpa using this)
    have h5 : 16 ^ x.length ≤ 16 ^ 4 := Nat.pow_le_pow_right (by omega) h2
    have h6 : (16 : Nat) ^ 4 = 65536 := by decide
    simp [hx, h2]; omega
theorem okH_val (x : List UInt8) (h : okH x = true) : num 16 x = (valB 16 x : Int) ∧ valB 16 x < 65536 := by
  unfold okH at h
  rw [Bool.and_eq_true, Bool.and_eq_true, decide_eq_true_eq] at h
  exact num_of_ok 16 65536 x h.1.1 (by omega) h.2

/-- The numbers of the first k parts. -/
def segTo (e : Bool) (Q : List (List UInt8)) : Nat → Option (List Int)
  | 0 => some []
  | k + 1 => match segTo e Q k with
    | none => none
    | some v => if e = true ∧ k = Q.length - 1 ∧ 0 ≤ four (Q.getD k []) then some (v ++ [four (Q.getD k []) / 65536, four (Q.getD k []) % 65536]) else if okH (Q.getD k []) then some (v ++ [(valB 16 (Q.getD k []) : Int)]) else none
/-- The bytes of the first k parts. -/
def rgTo (e : Bool) (Q : List (List UInt8)) : Nat → Option (List UInt8)
  | 0 => some []
  | k + 1 => match rgTo e Q k with
    | none => none
    | some b => if e = true ∧ k = Q.length - 1 ∧ (46 : UInt8) ∈ Q.getD k [] then (if 0 ≤ four (Q.getD k []) then some (b ++ (v4B (four (Q.getD k [])).toNat).drop 12) else none) else if okH (Q.getD k []) then some (b ++ [b8 (valB 16 (Q.getD k []) / 256), b8 (valB 16 (Q.getD k []))]) else none
theorem fill_app (u v : List Int) (n : Nat) : fillG (u ++ v) n = fillG u n ++ fillG v n := by simp [fillG]
theorem b8_mod256 (n : Nat) : b8 (n % 256) = b8 n := (b8_mod n).symm
theorem fill_two (n : Nat) (h : n < 4294967296) : fillG [(n : Int) / 65536, (n : Int) % 65536] 0 = (v4B n).drop 12 := by
  have e1 : (n : Int) / 65536 = ((n / 65536 : Nat) : Int) := by omega
  have e2 : (n : Int) % 65536 = ((n % 65536 : Nat) : Int) := by omega
  rw [e1, e2]
  have : (v4B n).drop 12 = [b8 (n / 16777216), b8 (n / 65536), b8 (n / 256), b8 n] := rfl
  rw [this]
  unfold fillG
  simp only [List.flatMap_cons, List.flatMap_nil, List.append_nil]
  rw [if_neg (by omega), if_neg (by omega)]
  have a1 : ((((n / 65536 : Nat) : Int)) / 256).toNat = n / 16777216 := by omega
  have a2 : ((((n / 65536 : Nat) : Int)) % 256).toNat = n / 65536 % 256 := by omega
  have a3 : ((((n % 65536 : Nat) : Int)) / 256).toNat = n % 65536 / 256 := by omega
  have a4 : ((((n % 65536 : Nat) : Int)) % 256).toNat = n % 65536 % 256 := by omega
  rw [a1, a2, a3, a4, b8_mod256, b8_mod (n % 65536 / 256), show n % 65536 / 256 % 256 = n / 256 % 256 from by omega, b8_mod256, show n % 65536 % 256 = n % 256 from by omega, b8_mod256]
  rfl
theorem fill_one (n : Nat) (h : n < 65536) : fillG [(n : Int)] 0 = [b8 (n / 256), b8 n] := by
  unfold fillG
  simp only [List.flatMap_cons, List.flatMap_nil, List.append_nil]
  rw [if_neg (by omega), show ((n : Int) / 256).toNat = n / 256 from by omega, show ((n : Int) % 256).toNat = n % 256 from by omega, b8_mod256]
theorem four_lt (l : List UInt8) (h : 0 ≤ four l) : four l < 4294967296 := by
  rw [four_parts] at h ⊢
  unfold fourP at h ⊢
  split
  · rename_i a b c d hq
    rw [hq] at h
    simp only at h
    split
    · rename_i hok
      simp only [Bool.and_eq_true] at hok
      have h1 := okFour_num a hok.1.1.1
      have h2 := okFour_num b hok.1.1.2
      have h3 := okFour_num c hok.1.2
      have h4 := okFour_num d hok.2
      omega
    · omega
  · omega
theorem rg_seg (e : Bool) (Q : List (List UInt8)) : ∀ k, rgTo e Q k = (segTo e Q k).map (fun v => fillG v 0)
  | 0 => rfl
  | k + 1 => by
    rw [rgTo, segTo, rg_seg e Q k]
    cases hS : segTo e Q k with
    | none => rfl
    | some v =>
      simp only [Option.map_some]
      obtain ⟨x, hx⟩ : ∃ x, x = Q.getD k [] := ⟨_, rfl⟩
      rw [← hx]
      by_cases h46 : (46 : UInt8) ∈ x
      · rw [okH_46 x h46]
        by_cases he : e = true ∧ k = Q.length - 1
        · rw [if_pos ⟨he.1, he.2, h46⟩]
          by_cases h4 : 0 ≤ four x
          · rw [if_pos h4, if_pos ⟨he.1, he.2, h4⟩]
            obtain ⟨n, hn⟩ : ∃ n : Nat, four x = (n : Int) := ⟨(four x).toNat, by omega⟩
            have := four_lt x h4
            rw [hn, Int.toNat_natCast, Option.map_some, fill_app, fill_two n (by omega)]
          · rw [if_neg h4, if_neg (fun h => h4 h.2.2)]; rfl
        · have n1 : ¬ (e = true ∧ k = Q.length - 1 ∧ (46 : UInt8) ∈ x) := fun h => he ⟨h.1, h.2.1⟩
          have n2 : ¬ (e = true ∧ k = Q.length - 1 ∧ 0 ≤ four x) := fun h => he ⟨h.1, h.2.1⟩
          rw [if_neg n1, if_neg n2]; rfl
      · have h4 : four x = -1 := four_no x h46
        have n1 : ¬ (e = true ∧ k = Q.length - 1 ∧ (46 : UInt8) ∈ x) := fun h => h46 h.2.2
        have n2 : ¬ (e = true ∧ k = Q.length - 1 ∧ 0 ≤ four x) := fun h => by have := h.2.2; omega
        rw [if_neg n1, if_neg n2]
        by_cases hg : okH x = true
        · rw [if_pos hg, if_pos hg, Option.map_some, fill_app, fill_one _ (okH_val x hg).2]
        · rw [if_neg hg, if_neg hg]; rfl
theorem seg_pos (e : Bool) (Q : List (List UInt8)) : ∀ k v, segTo e Q k = some v → (∀ x ∈ v, 0 ≤ x) ∧ k ≤ v.length ∧ ∀ j, j < k → Q.getD j [] ≠ []
  | 0, v, h => by simp [segTo] at h; subst h; simp
  | k + 1, v, h => by
    rw [segTo] at h
    cases hS : segTo e Q k with
    | none => rw [hS] at h; cases h
    | some u =>
      rw [hS] at h
      simp only at h
      have ih := seg_pos e Q k u hS
      obtain ⟨x, hx⟩ : ∃ x, x = Q.getD k [] := ⟨_, rfl⟩
      rw [← hx] at h
      have key : x ≠ [] ∧ (∀ y ∈ v, 0 ≤ y) ∧ k + 1 ≤ v.length := by
        split at h
        · rename_i hc
          cases h
          refine ⟨fun e => ?_, fun y hy => ?_, by simp; omega⟩
          · have := hc.2.2; rw [e] at this; exact absurd this (by decide)
          · rcases List.mem_append.1 hy with hy | hy
            · exact ih.1 y hy
            · simp at hy; have := hc.2.2; rcases hy with rfl | rfl <;> omega
        · split at h
          · rename_i hg
            cases h
            refine ⟨fun e => ?_, fun y hy => ?_, by simp; omega⟩
            · rw [e] at hg; exact absurd hg (by decide)
            · rcases List.mem_append.1 hy with hy | hy
              · exact ih.1 y hy
              · simp at hy; omega
          · cases h
      refine ⟨key.2.1, key.2.2, fun j hj => ?_⟩
      by_cases hjk : j < k
      · exact ih.2.2 j hjk
      · rw [show j = k from by omega, ← hx]; exact key.1
theorem seg_none (e : Bool) (Q : List (List UInt8)) (k j : Nat) (h : segTo e Q k = none) : segTo e Q (k + j) = none := by
  induction j with
  | zero => exact h
  | succ j ih => rw [← Nat.add_assoc, segTo, ih]
theorem grp_none (l : List (List UInt8)) (k j : Nat) (h : grpTo l k = none) : grpTo l (k + j) = none := by
  induction j with
  | zero => exact h
  | succ j ih => rw [← Nat.add_assoc, grpTo, ih]
/-- A segment of parts, read by the reference. -/
theorem seg_run (l pre Q post : List (List UInt8)) (hl : l = pre ++ Q ++ post) (e : Bool) (he : e = true ↔ post = []) (out : List Int) (gap : Bool) (h0 : grpTo l pre.length = some (out, gap))
    (H : ∀ k, k < Q.length → Q.getD k [] = [] → (∀ j, j < k → Q.getD j [] ≠ []) → ∀ o, grpTo l (pre.length + k) = some (o, gap) → grpTo l (pre.length + k + 1) = none) :
    ∀ k, k ≤ Q.length → grpTo l (pre.length + k) = (segTo e Q k).map (fun v => (out ++ v, gap))
  | 0, _ => by simpa [segTo] using h0
  | k + 1, hk => by
    have ih := seg_run l pre Q post hl e he out gap h0 H k (by omega)
    cases hS : segTo e Q k with
    | none =>
      rw [hS] at ih
      have := grp_none l (pre.length + k) 1 ih
      rw [show pre.length + (k + 1) = pre.length + k + 1 from rfl, this, segTo, hS]; rfl
    | some v =>
      rw [hS, Option.map_some] at ih
      have hP := seg_pos e Q k v hS
      have hget : l.getD (pre.length + k) [] = Q.getD k [] := by
        rw [hl, List.append_assoc, getD_right pre (Q ++ post) k, getD_left Q post k (by omega)]
      have hlast : (pre.length + k = l.length - 1) ↔ (k = Q.length - 1 ∧ e = true) := by
        have hlen : l.length = pre.length + Q.length + post.length := by rw [hl]; simp; omega
        constructor
        · intro h
          refine ⟨by omega, he.2 (List.eq_nil_of_length_eq_zero (by omega))⟩
        · rintro ⟨h1, h2⟩
          have := he.1 h2
          rw [this] at hlen
          simp at hlen
          omega
      rw [show pre.length + (k + 1) = pre.length + k + 1 from rfl, segTo, hS]
      simp only
      by_cases hx : Q.getD k [] = []
      · rw [H k (by omega) hx hP.2.2 _ ih, hx]
        have h4 : ¬ 0 ≤ four [] := by decide
        have hg : okH [] = false := by decide
        rw [if_neg (fun h => h4 h.2.2), hg]; rfl
      · rw [grpTo, ih]
        simp only
        rw [hget, if_neg hx]
        by_cases h4 : 0 ≤ four (Q.getD k []) ∧ pre.length + k = l.length - 1
        · have h5 := hlast.1 h4.2
          rw [if_pos h4, if_pos ⟨h5.2, h5.1, h4.1⟩, Option.map_some, List.append_assoc]
        · have n2 : ¬ (e = true ∧ k = Q.length - 1 ∧ 0 ≤ four (Q.getD k [])) := fun h => h4 ⟨h.2.2, hlast.2 ⟨h.2.1, h.1⟩⟩
          rw [if_neg h4, if_neg n2]
          by_cases hg : okH (Q.getD k []) = true
          · rw [if_neg ((okH_num _ hx).1 hg), if_pos hg, (okH_val _ hg).1, Option.map_some, List.append_assoc]
          · rw [if_neg hg]
            have : num 16 (Q.getD k []) < 0 ∨ 4 < (Q.getD k []).length := Classical.byContradiction fun h => hg ((okH_num _ hx).2 h)
            rw [if_pos this]; rfl
end Go.Proofs.Ytocdjgehjiolhaa
