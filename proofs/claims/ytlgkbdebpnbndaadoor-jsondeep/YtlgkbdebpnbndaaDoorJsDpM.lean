
/- Lists within lists: what is read of them, how deep they are and how many (no program in it). -/
import Derived.Test.YtlgkbdebpnbndaaDoorJsWt
namespace Go.Proofs.YtlgkbdebpnbndaaDoor
set_option linter.unusedVariables false
set_option linter.unusedSimpArgs false

def oneL : LabJ := (2, 1, [], [])
def listL : LabJ := (4, 0, [], [])
def comF : Nat → List UInt8
  | 0 => []
  | m + 1 => 44 :: 49 :: comF m
def onesF : Nat → List UInt8
  | 0 => []
  | m + 1 => 49 :: comF m
theorem com_snoc : ∀ m, comF (m + 1) = comF m ++ [44, 49]
  | 0 => rfl
  | m + 1 => by
    show 44 :: 49 :: comF (m + 1) = 44 :: 49 :: comF m ++ [44, 49]
    rw [com_snoc m]
    rfl
theorem com_len : ∀ m, (comF m).length = 2 * m
  | 0 => rfl
  | m + 1 => by
    show (comF m).length + 1 + 1 = _
    rw [com_len m]
    omega
theorem onesD_len (m : Nat) : (onesF m).length ≤ 2 * m := by
  cases m with
  | zero => exact Nat.le_refl _
  | succ m =>
    show (comF m).length + 1 ≤ _
    rw [com_len]
    omega
theorem num_com (r : List UInt8) : numJ (49 :: 44 :: r) = .ok (1, 44 :: r) := rfl
theorem num_end (r : List UInt8) : numJ (49 :: 93 :: r) = .ok (1, 93 :: r) := rfl
theorem num_at (x : UInt8) (r : List UInt8) (hx : x = 44 ∨ x = 93) : numJ (49 :: x :: r) = .ok (1, x :: r) := by
  rcases hx with rfl | rfl
  · exact num_com r
  · exact num_end r
section
variable {α : Type}
theorem one_top (leaf : LabJ → α) (nest : Bool → List UInt8 → Nat → Except Nat (α × List UInt8 × Nat)) (x : UInt8) (r : List UInt8) (n : Nat) (hx : x = 44 ∨ x = 93) :
    topJ leaf nest (49 :: x :: r) n = if n + 1 ≤ 8192 then .ok (leaf oneL, x :: r, n + 1) else .error 3 := by
  have e1 : (49 :: x :: r).dropWhile whX = 49 :: x :: r := rfl
  have e2 : cntJ (49 :: x :: r) n = if n + 1 ≤ 8192 then .ok (n + 1) else .error 3 := rfl
  have e3 : ∀ m, atomJ leaf nest (49 :: x :: r) m = (match numJ (49 :: x :: r) with
    | .error e => .error e
    | .ok (v, r) => .ok (leaf (2, v, [], []), r, m)) := fun m => rfl
  unfold topJ
  rw [e1, e2]
  by_cases h : n + 1 ≤ 8192
  · rw [if_pos h, if_pos h]
    simp only
    rw [e3, num_at x r hx]
    rfl
  · rw [if_neg h, if_neg h]
theorem open_top (leaf : LabJ → α) (nest : Bool → List UInt8 → Nat → Except Nat (α × List UInt8 × Nat)) (l : List UInt8) (n : Nat) (hn : n + 1 ≤ 8192) :
    topJ leaf nest (91 :: l) n = nest false l (n + 1) := by
  have e1 : (91 :: l).dropWhile whX = 91 :: l := rfl
  have e2 : cntJ (91 :: l) n = if n + 1 ≤ 8192 then .ok (n + 1) else .error 3 := rfl
  have e3 : ∀ m, atomJ leaf nest (91 :: l) m = nest false l m := fun m => rfl
  unfold topJ
  rw [e1, e2, if_pos hn]
  simp only
  rw [e3]
end
theorem one_val : ∀ (d lev : Nat) (x : UInt8) (r : List UInt8) (n : Nat), x = 44 ∨ x = 93 → valJ d lev (49 :: x :: r) n = if n + 1 ≤ 8192 then .ok (leafJ d oneL, x :: r, n + 1) else .error 3
  | 0, lev, x, r, n, hx => one_top _ _ x r n hx
  | d + 1, lev, x, r, n, hx => one_top _ _ x r n hx
theorem ones_lst (d lev : Nat) (r : List UInt8) : ∀ (m n : Nat) (ks : List (VJ d)), n ≤ 8192 → lstW (valJ d lev) ks (49 :: comF m ++ 93 :: r) n = if n + m + 1 ≤ 8192 then .ok (ks ++ List.replicate (m + 1) (leafJ d oneL), r, n + m + 1) else .error 3
  | 0, n, ks, hn => by
    have e0 : (49 :: comF 0 ++ 93 :: r : List UInt8) = 49 :: 93 :: r := rfl
    rw [lstW_step (val_shr d lev) _ _ _ hn, e0, one_val d lev 93 r n (.inr rfl)]
    by_cases h : n + 1 ≤ 8192
    · rw [if_pos h, if_pos h]
      rfl
    · rw [if_neg h, if_neg h]
  | m + 1, n, ks, hn => by
    have e0 : (49 :: comF (m + 1) ++ 93 :: r : List UInt8) = 49 :: 44 :: (49 :: comF m ++ 93 :: r) := rfl
    rw [lstW_step (val_shr d lev) _ _ _ hn, e0, one_val d lev 44 _ n (.inl rfl)]
    by_cases h : n + 1 ≤ 8192
    · rw [if_pos h]
      show lstW (valJ d lev) (ks ++ [leafJ d oneL]) (49 :: comF m ++ 93 :: r) (n + 1) = _
      rw [ones_lst d lev r m (n + 1) _ h]
      have e : n + 1 + m + 1 = n + (m + 1) + 1 := by omega
      rw [e, List.append_assoc]
      rfl
    · rw [if_neg h, if_neg (by omega)]
/-- So many lists, each in the other; in the innermost so many ones. -/
def nestT : (d k m : Nat) → VJ d
  | 0, _, _ => listL
  | d + 1, 0, m => (listL, List.replicate m (leafJ d oneL))
  | d + 1, k + 1, m => (listL, [nestT d k m])
def nestS : (k m : Nat) → List UInt8 → List UInt8
  | 0, m, r => 91 :: (onesF m ++ 93 :: r)
  | k + 1, m, r => 91 :: nestS k m (93 :: r)
theorem nestS_head (k m : Nat) (r : List UInt8) : ∃ l, nestS k m r = 91 :: l := by cases k <;> exact ⟨_, rfl⟩
theorem nest_false (d lev : Nat) (l : List UInt8) (n : Nat) (h : lev + 1 ≤ 16) : nestJ d lev (valJ d (lev + 1)) false l n = (match lstJ (valJ d (lev + 1)) l n with
    | .error e => .error e
    | .ok (ks, r, m2) => .ok (((4, 0, [], []), ks), r, m2)) := by
  unfold nestJ
  rw [if_neg (by omega)]
  rfl
theorem nest_val (m : Nat) : ∀ (k d lev n : Nat) (r : List UInt8), lev + k + 1 ≤ 16 → k < d → n + k + 1 ≤ 8192 → valJ d lev (nestS k m r) n = if n + k + 1 + m ≤ 8192 then .ok (nestT d k m, r, n + k + 1 + m) else .error 3
  | k, 0, lev, n, r, h1, h2, h3 => absurd h2 (Nat.not_lt_zero _)
  | 0, d + 1, lev, n, r, h1, h2, h3 => by
    rw [val_step]
    show topJ _ _ (91 :: (onesF m ++ 93 :: r)) n = _
    rw [open_top _ _ _ _ (by omega), nest_false d lev _ _ (by omega)]
    cases m with
    | zero =>
      rw [if_pos (by omega)]
      rfl
    | succ m =>
      have e1 : lstJ (valJ d (lev + 1)) (onesF (m + 1) ++ 93 :: r) (n + 1) = lstW (valJ d (lev + 1)) [] (49 :: comF m ++ 93 :: r) (n + 1) := rfl
      rw [e1, ones_lst d (lev + 1) r m (n + 1) [] (by omega)]
      by_cases h : n + 1 + m + 1 ≤ 8192
      · rw [if_pos h, if_pos (by omega)]
        have e : n + 1 + m + 1 = n + 0 + 1 + (m + 1) := by omega
        rw [e]
        rfl
      · rw [if_neg h, if_neg (by omega)]
  | k + 1, d + 1, lev, n, r, h1, h2, h3 => by
    rw [val_step]
    show topJ _ _ (91 :: nestS k m (93 :: r)) n = _
    rw [open_top _ _ _ _ (by omega), nest_false d lev _ _ (by omega)]
    have e1 : lstJ (valJ d (lev + 1)) (nestS k m (93 :: r)) (n + 1) = lstW (valJ d (lev + 1)) [] (nestS k m (93 :: r)) (n + 1) := by
      obtain ⟨l, hl⟩ := nestS_head k m (93 :: r)
      rw [hl]
      rfl
    rw [e1, lstW_step (val_shr d (lev + 1)) _ _ _ (by omega), nest_val m k d (lev + 1) (n + 1) (93 :: r) (by omega) (by omega) (by omega)]
    by_cases h : n + 1 + k + 1 + m ≤ 8192
    · rw [if_pos h, if_pos (by omega)]
      have e : n + 1 + k + 1 + m = n + (k + 1) + 1 + m := by omega
      rw [e]
      rfl
    · rw [if_neg h, if_neg (by omega)]
theorem deep_val (l : List UInt8) : ∀ (j d lev n : Nat), lev + j = 16 → j < d → n + j + 1 ≤ 8192 → valJ d lev (List.replicate (j + 1) 91 ++ l) n = .error 9
  | j, 0, lev, n, h1, h2, h3 => absurd h2 (Nat.not_lt_zero _)
  | 0, d + 1, lev, n, h1, h2, h3 => by
    rw [val_step]
    show topJ _ _ (91 :: l) n = _
    rw [open_top _ _ _ _ (by omega)]
    unfold nestJ
    rw [if_pos (by omega)]
  | j + 1, d + 1, lev, n, h1, h2, h3 => by
    rw [val_step]
    show topJ _ _ (91 :: (List.replicate (j + 1) 91 ++ l)) n = _
    rw [open_top _ _ _ _ (by omega), nest_false d lev _ _ (by omega)]
    have e1 : lstJ (valJ d (lev + 1)) (List.replicate (j + 1) 91 ++ l) (n + 1) = lstW (valJ d (lev + 1)) [] (List.replicate (j + 1) 91 ++ l) (n + 1) := rfl
    rw [e1, lstW_step (val_shr d (lev + 1)) _ _ _ (by omega), deep_val l j d (lev + 1) (n + 1) (by omega) (by omega) (by omega)]
theorem rep_snoc {α : Type} (a : α) : ∀ (n : Nat) (r : List α), List.replicate n a ++ a :: r = List.replicate (n + 1) a ++ r
  | 0, r => rfl
  | n + 1, r => by
    show a :: (List.replicate n a ++ a :: r) = a :: (List.replicate (n + 1) a ++ r)
    rw [rep_snoc a n r]
theorem nestS_eq (m : Nat) : ∀ (k : Nat) (r : List UInt8), nestS k m r = List.replicate (k + 1) 91 ++ (onesF m ++ (List.replicate (k + 1) 93 ++ r))
  | 0, r => rfl
  | k + 1, r => by
    show 91 :: nestS k m (93 :: r) = _
    rw [nestS_eq m k (93 :: r), rep_snoc 93 (k + 1) r]
    rfl
theorem com_ascii : ∀ m, ∀ c ∈ comF m, c.toNat < 128
  | 0, c, h => by cases h
  | m + 1, c, h => by
    rcases List.mem_cons.1 h with rfl | h
    · decide
    · rcases List.mem_cons.1 h with rfl | h
      · decide
      · exact com_ascii m c h
theorem ones_ascii : ∀ m, ∀ c ∈ onesF m, c.toNat < 128
  | 0, c, h => by cases h
  | m + 1, c, h => by
    rcases List.mem_cons.1 h with rfl | h
    · decide
    · exact com_ascii m c h
def deepS (n m : Nat) : List UInt8 := List.replicate n 91 ++ (onesF m ++ List.replicate n 93)
theorem deepS_len (n m : Nat) : (deepS n m).length ≤ 2 * n + 2 * m := by
  unfold deepS
  rw [List.length_append, List.length_append, List.length_replicate, List.length_replicate]
  have := onesD_len m
  omega
theorem V_all (l : List UInt8) (h : ∀ c ∈ l, c.toNat < 128) : V l = true := by
  have := V_ascii l [] h
  rw [List.append_nil] at this
  rw [this]
  rfl
theorem deepS_V (n m : Nat) : V (deepS n m) = true := V_all _ fun c h => by
  unfold deepS at h
  rcases List.mem_append.1 h with h | h
  · rw [List.eq_of_mem_replicate h]; decide
  · rcases List.mem_append.1 h with h | h
    · exact ones_ascii m c h
    · rw [List.eq_of_mem_replicate h]; decide
theorem par_deepS (n m : Nat) (h1 : 1 ≤ n) (h2 : n ≤ 20) (h3 : m ≤ 9000) : parJ (deepS n m) = if 16 < n then .error 9 else if 8192 < n + m then .error 3 else .ok (nestT 40 (n - 1) m) := by
  have hl := deepS_len n m
  unfold parJ
  rw [if_neg (by omega), deepS_V, if_neg (by decide)]
  by_cases h : 16 < n
  · rw [if_pos h]
    have e : deepS n m = List.replicate (16 + 1) 91 ++ (List.replicate (n - 17) 91 ++ (onesF m ++ List.replicate n 93)) := by
      unfold deepS
      rw [← List.append_assoc (List.replicate (16 + 1) 91), List.replicate_append_replicate]
      have : 16 + 1 + (n - 17) = n := by omega
      rw [this]
    rw [e, deep_val _ 16 40 0 0 (by omega) (by omega) (by omega)]
  · rw [if_neg h]
    have e : deepS n m = nestS (n - 1) m [] := by
      rw [nestS_eq]
      have : n - 1 + 1 = n := by omega
      rw [this, List.append_nil]
      rfl
    rw [e, nest_val m (n - 1) 40 0 0 [] (by omega) (by omega) (by omega)]
    by_cases h8 : 8192 < n + m
    · rw [if_pos h8, if_neg (by omega)]
    · rw [if_neg h8, if_pos (by omega)]
      rfl

/-! ### How deep, how many -/
def maxF (l : List Nat) : Nat := l.foldl max 0
def topD (l : LabJ) : Nat := if l.1 = 4 ∨ l.1 = 5 then 1 else 0
def deepJ : (d : Nat) → VJ d → Nat
  | 0, t => topD t
  | d + 1, t => maxF (t.2.map (deepJ d)) + topD t.1
theorem deepJ_eq : ∀ (d : Nat) (t : VJ d), deepJ d t = maxF ((kidsJ d t).map (deepJ (d - 1))) + topD (labJ d t)
  | 0, t => by show topD t = 0 + topD t; omega
  | _ + 1, _ => rfl
theorem fold_le (B : Nat) : ∀ (l : List Nat) (a : Nat), a ≤ B → (∀ x ∈ l, x ≤ B) → l.foldl max a ≤ B
  | [], a, h, _ => h
  | x :: l, a, h, hl => fold_le B l (max a x) (by have := hl x (by simp); omega) fun y hy => hl y (by simp [hy])
theorem deepJ_le : ∀ (d : Nat) (t : VJ d), deepJ d t ≤ d + 1
  | 0, t => by
    show topD t ≤ 1
    unfold topD
    split <;> omega
  | d + 1, t => by
    show maxF (t.2.map (deepJ d)) + topD t.1 ≤ _
    have h1 : maxF (t.2.map (deepJ d)) ≤ d + 1 := fold_le (d + 1) _ 0 (by omega) fun x hx => by
      obtain ⟨k, hk, rfl⟩ := List.mem_map.1 hx
      exact deepJ_le d k
    have h2 : topD t.1 ≤ 1 := by unfold topD; split <;> omega
    omega
def manyJ : (d : Nat) → VJ d → Nat
  | 0, t => 1
  | d + 1, t => 1 + (t.2.map (manyJ d)).sum
theorem manyJ_eq : ∀ (d : Nat) (t : VJ d), manyJ d t = 1 + ((kidsJ d t).map (manyJ (d - 1))).sum
  | 0, t => rfl
  | _ + 1, _ => rfl
theorem sum_le9 {α : Type} (f g : α → Nat) : ∀ l : List α, (∀ x ∈ l, f x ≤ g x) → (l.map f).sum ≤ (l.map g).sum
  | [], _ => Nat.le_refl _
  | a :: l, h => by
    rw [List.map_cons, List.map_cons, List.sum_cons, List.sum_cons]
    have := h a (by simp)
    have := sum_le9 f g l fun x hx => h x (by simp [hx])
    omega
theorem manyJ_le : ∀ (d : Nat) (t : VJ d), manyJ d t ≤ wtJ d t
  | 0, t => wtJ_pos 0 t
  | d + 1, t => by
    rw [wtJ_eq]
    show 1 + (t.2.map (manyJ d)).sum ≤ _
    have := sum_le9 (manyJ d) (wtJ d) t.2 fun k _ => manyJ_le d k
    show _ ≤ 1 + t.1.2.2.1.length + nmsW t.1.2.2.2 + (t.2.map (wtJ d)).sum
    omega
theorem fold_take (l : List Nat) (k : Nat) (h : k < l.length) : maxF (l.take (k + 1)) = max (maxF (l.take k)) (l.getD k 0) := by
  unfold maxF
  rw [take_getD l 0 k h, List.foldl_append]
  rfl
theorem sum_take (l : List Nat) (k : Nat) (h : k < l.length) : (l.take (k + 1)).sum = (l.take k).sum + l.getD k 0 := by
  rw [take_getD l 0 k h, List.sum_append, List.sum_cons, List.sum_nil, Nat.add_zero]
theorem map_getD9 {α : Type} (f : α → Nat) (z : α) (l : List α) (k : Nat) (h : k < l.length) : (l.map f).getD k 0 = f (l.getD k z) := by
  rw [List.getD_eq_getElem?_getD, List.getD_eq_getElem?_getD, List.getElem?_map, List.getElem?_eq_getElem h]
  rfl
theorem leaf_deep (d : Nat) : deepJ d (leafJ d oneL) = 0 := by cases d <;> rfl
theorem leaf_many (d : Nat) : manyJ d (leafJ d oneL) = 1 := by cases d <;> rfl
theorem leaf_wt (d : Nat) : wtJ d (leafJ d oneL) = 1 := by cases d <;> rfl
theorem max_zero : ∀ m : Nat, maxF (List.replicate m 0) = 0
  | 0 => rfl
  | m + 1 => max_zero m
theorem nestT_deep (m : Nat) : ∀ (d k : Nat), k < d → deepJ d (nestT d k m) = k + 1
  | 0, k, h => absurd h (Nat.not_lt_zero _)
  | d + 1, 0, h => by
    show maxF ((List.replicate m (leafJ d oneL)).map (deepJ d)) + 1 = _
    rw [List.map_replicate, leaf_deep, max_zero]
  | d + 1, k + 1, h => by
    show maxF [deepJ d (nestT d k m)] + 1 = _
    rw [nestT_deep m d k (by omega)]
    show max 0 (k + 1) + 1 = _
    omega
theorem nestT_many (m : Nat) : ∀ (d k : Nat), k < d → manyJ d (nestT d k m) = k + 1 + m
  | 0, k, h => absurd h (Nat.not_lt_zero _)
  | d + 1, 0, h => by
    show 1 + ((List.replicate m (leafJ d oneL)).map (manyJ d)).sum = _
    rw [List.map_replicate, leaf_many, List.sum_replicate_nat]
    omega
  | d + 1, k + 1, h => by
    show 1 + (manyJ d (nestT d k m) + 0) = _
    rw [nestT_many m d k (by omega)]
    omega
theorem nestT_wt (m : Nat) : ∀ (d k : Nat), k < d → wtJ d (nestT d k m) = k + 1 + m
  | 0, k, h => absurd h (Nat.not_lt_zero _)
  | d + 1, 0, h => by
    show 1 + 0 + 0 + ((List.replicate m (leafJ d oneL)).map (wtJ d)).sum = _
    rw [List.map_replicate, leaf_wt, List.sum_replicate_nat]
    omega
  | d + 1, k + 1, h => by
    show 1 + 0 + 0 + (wtJ d (nestT d k m) + 0) = _
    rw [nestT_wt m d k (by omega)]
    omega
end Go.Proofs.YtlgkbdebpnbndaaDoor
