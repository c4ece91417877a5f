
/- Addresses in short are read back: plain mathematics. -/
import Derived.Test.YtocdjgehjiolhaaIpMath
namespace Go.Proofs.Ytocdjgehjiolhaa
set_option linter.unusedSimpArgs false
set_option linter.unusedVariables false

def hexs (g : List Nat) : List (List UInt8) := g.map (digs 16)
def J (g : List Nat) : List UInt8 := joinL 58 (hexs g)
/-- Is every group from i up to k nought? -/
def allz (g : List Nat) (i k : Nat) : Bool := (List.range (k - i)).all fun m => decide (g.getD (i + m) 0 = 0)
def stepB (g : List Nat) (i k : Nat) (p : Nat × Nat) : Nat × Nat := if allz g i k && decide (p.2 < k - i) then (i, k - i) else p
def innerB (g : List Nat) (i : Nat) : Nat → Nat × Nat → Nat × Nat
  | 0, p => p
  | t + 1, p => stepB g i (8 - t) (innerB g i t p)
def outerB (g : List Nat) : Nat → Nat × Nat
  | 0 => (0, 0)
  | i + 1 => innerB g i (8 - i) (outerB g i)
def best (g : List Nat) : Nat × Nat := outerB g 8
def Run (g : List Nat) (p : Nat × Nat) : Prop := p.1 + p.2 ≤ 8 ∧ allz g p.1 (p.1 + p.2) = true
theorem stepB_run (g : List Nat) (i k : Nat) (p : Nat × Nat) (h : Run g p) (hk : k ≤ 8) (hi : i ≤ k) : Run g (stepB g i k p) := by
  unfold stepB
  split
  · rename_i hc
    simp only [Bool.and_eq_true] at hc
    exact ⟨by simp; omega, by show allz g i (i + (k - i)) = true; rw [show i + (k - i) = k from by omega]; exact hc.1⟩
  · exact h
theorem innerB_run (g : List Nat) (i : Nat) (p : Nat × Nat) (h : Run g p) : ∀ t, t ≤ 8 - i → Run g (innerB g i t p)
  | 0, _ => h
  | t + 1, ht => stepB_run g i (8 - t) _ (innerB_run g i p h t (by omega)) (by omega) (by omega)
theorem outerB_run (g : List Nat) : ∀ i, i ≤ 8 → Run g (outerB g i)
  | 0, _ => ⟨by simp [outerB], by simp [outerB, allz]⟩
  | i + 1, h => innerB_run g i _ (outerB_run g i (by omega)) _ (Nat.le_refl _)
theorem best_run (g : List Nat) : Run g (best g) := outerB_run g 8 (Nat.le_refl _)
theorem run_zero (g : List Nat) (i k m : Nat) (h : allz g i k = true) (h1 : i ≤ m) (h2 : m < k) : g.getD m 0 = 0 := by
  unfold allz at h
  rw [List.all_eq_true] at h
  have := h (m - i) (List.mem_range.2 (by omega))
  rw [show i + (m - i) = m from by omega] at this
  exact of_decide_eq_true this
/-- Groups in short, but for the mapped ones. -/
def shortB (g : List Nat) (at_ n : Nat) : List UInt8 := if 2 ≤ n then J (g.take at_) ++ [58, 58] ++ J (g.drop (at_ + n)) else J g
def bytesG (g : List Nat) : List UInt8 := g.flatMap fun x => [b8 (x / 256), b8 (x % 256)]

theorem join_app (b : UInt8) : ∀ (X Y : List (List UInt8)), X ≠ [] → Y ≠ [] → joinL b (X ++ Y) = joinL b X ++ b :: joinL b Y
  | [], _, h, _ => absurd rfl h
  | [x], y :: r, _, _ => by simp [joinL]
  | [x], [], _, h => absurd rfl h
  | x :: x2 :: r, Y, _, hY => by
    have ih := join_app b (x2 :: r) Y (by simp) hY
    simp only [List.cons_append] at ih ⊢
    rw [joinL, ih, joinL]
    simp
/-- Parts, or one that is empty. -/
def ne1 (X : List (List UInt8)) : List (List UInt8) := if X = [] then [[]] else X
theorem ne1_ne (X : List (List UInt8)) : ne1 X ≠ [] := by unfold ne1; split <;> simp_all
theorem join_ne1 (X : List (List UInt8)) : joinL 58 (ne1 X) = joinL 58 X := by unfold ne1; split <;> simp_all [joinL]
def partsL (A C : List Nat) : List (List UInt8) := ne1 (hexs A) ++ ([[]] ++ ne1 (hexs C))
theorem join_parts (A C : List Nat) : joinL 58 (partsL A C) = J A ++ [58, 58] ++ J C := by
  unfold partsL
  rw [join_app 58 _ _ (ne1_ne _) (by simp), join_app 58 _ _ (by simp) (ne1_ne _), join_ne1, join_ne1]
  simp [J, joinL]
theorem hexs_58 (g : List Nat) : ∀ x ∈ hexs g, (58 : UInt8) ∉ x := fun x hx => by
  obtain ⟨n, _, rfl⟩ := List.mem_map.1 hx
  exact digs_58 16 n (by omega) (by omega)
theorem ne1_58 (g : List Nat) : ∀ x ∈ ne1 (hexs g), (58 : UInt8) ∉ x := fun x hx => by
  unfold ne1 at hx
  split at hx
  · simp only [List.mem_cons, List.not_mem_nil, or_false] at hx; subst hx; simp
  · exact hexs_58 g x hx
theorem cut_parts (A C : List Nat) : cutL 58 (J A ++ [58, 58] ++ J C) = partsL A C := by
  rw [← join_parts]
  refine cut_join 58 _ (by unfold partsL; simp) (fun x hx => ?_)
  unfold partsL at hx
  rcases List.mem_append.1 hx with h | h
  · exact ne1_58 A x h
  · rcases List.mem_append.1 h with h | h
    · simp only [List.mem_cons, List.not_mem_nil, or_false] at h; subst h; simp
    · exact ne1_58 C x h
theorem cut_all (g : List Nat) (h : g ≠ []) : cutL 58 (J g) = hexs g := cut_join 58 _ (by simpa [hexs] using h) (hexs_58 g)

/-- A group's part: the next step. -/
theorem grp_hex (l : List (List UInt8)) (k n : Nat) (out : List Int) (gap : Bool) (h : grpTo l k = some (out, gap)) (hk : l.getD k [] = digs 16 n) (hn : n < 65536) : grpTo l (k + 1) = some (out ++ [(n : Int)], gap) := by
  have h1 := digs_ne 16 n (by omega) (by omega)
  have h2 := four_no (digs 16 n) (digs_46 16 n (by omega) (by omega))
  have h3 := digs_num 16 n (by omega) (by omega) (by omega) (by omega)
  have h4 : (digs 16 n).length ≤ 4 := digsF_len 16 (by omega) (by omega) 3 20 n (by omega)
  rw [grpTo, h]
  simp only [hk, h1, h2, h3, if_false]
  rw [if_neg (by omega), if_neg (by omega)]
theorem grp_hexs (l : List (List UInt8)) (k : Nat) (out : List Int) (gap : Bool) (h : grpTo l k = some (out, gap)) (X : List Nat) (hX : ∀ x ∈ X, x < 65536) (hl : ∀ j, j < X.length → l.getD (k + j) [] = digs 16 (X.getD j 0)) :
    ∀ j, j ≤ X.length → grpTo l (k + j) = some (out ++ (X.take j).map (fun n : Nat => (n : Int)), gap)
  | 0, _ => by simpa using h
  | j + 1, hj => by
    have ih := grp_hexs l k out gap h X hX hl j (by omega)
    have hx : X.getD j 0 < 65536 := by
      have : X.getD j 0 ∈ X := by rw [List.getD_eq_getElem?_getD, List.getElem?_eq_getElem (by omega)]; exact List.getElem_mem _
      exact hX _ this
    have := grp_hex l (k + j) (X.getD j 0) _ gap ih (hl j (by omega)) hx
    rw [show k + (j + 1) = k + j + 1 from rfl, this, List.take_succ_eq_append_getElem (by omega), List.map_append, List.append_assoc]
    congr 3
    simp [List.getD_eq_getElem?_getD, show j < X.length from by omega]
theorem grp_gap (l : List (List UInt8)) (k : Nat) (out : List Int) (h : grpTo l k = some (out, false)) (hk : l.getD k [] = []) (h0 : 0 < k) (h1 : k + 1 < l.length) : grpTo l (k + 1) = some (out ++ [-1], true) := by
  rw [grpTo, h]
  simp only [hk, if_true]
  rw [if_pos ⟨by omega, by omega⟩]
  rfl
theorem grp_edge (l : List (List UInt8)) (k : Nat) (out : List Int) (gap : Bool) (h : grpTo l k = some (out, gap)) (hk : l.getD k [] = []) (h3 : 3 ≤ l.length) (he : (k = 0 ∧ l.getD 1 [] = []) ∨ (0 < k ∧ k = l.length - 1 ∧ l.getD (l.length - 2) [] = [])) : grpTo l (k + 1) = some (out, gap) := by
  rw [grpTo, h]
  simp only [hk, if_true]
  rcases he with ⟨e, e1⟩ | ⟨e, e2, e1⟩
  · subst e
    rw [if_neg (by omega), if_neg (by simp only [e1]; simp; omega)]
  · rw [if_neg (by omega), if_neg (by rw [e1]; simp; omega)]
theorem getD_hexs (X : List Nat) (j : Nat) (h : j < X.length) : (hexs X).getD j [] = digs 16 (X.getD j 0) := by
  simp [hexs, List.getD_eq_getElem?_getD, h]
theorem getD_left (X Y : List (List UInt8)) (j : Nat) (h : j < X.length) : (X ++ Y).getD j [] = X.getD j [] := by
  simp [List.getD_eq_getElem?_getD, List.getElem?_append_left h]
theorem getD_right (X Y : List (List UInt8)) (j : Nat) : (X ++ Y).getD (X.length + j) [] = Y.getD j [] := by
  simp [List.getD_eq_getElem?_getD, List.getElem?_append_right]
theorem grp_parts (A C : List Nat) (hA : ∀ x ∈ A, x < 65536) (hC : ∀ x ∈ C, x < 65536) : grp (partsL A C) = some (A.map (fun n : Nat => (n : Int)) ++ [-1] ++ C.map (fun n : Nat => (n : Int))) := by
  have hlen : (partsL A C).length = (ne1 (hexs A)).length + (1 + (ne1 (hexs C)).length) := by unfold partsL; simp; omega
  have hp1 : 0 < (ne1 (hexs A)).length := List.length_pos_iff.2 (ne1_ne _)
  have hp2 : 0 < (ne1 (hexs C)).length := List.length_pos_iff.2 (ne1_ne _)
  -- the parts ahead of the gap
  have s1 : grpTo (partsL A C) (ne1 (hexs A)).length = some (A.map (fun n : Nat => (n : Int)), false) := by
    by_cases h : A = []
    · subst h
      have : ne1 (hexs []) = [[]] := rfl
      rw [this]
      exact grp_edge (partsL [] C) 0 [] false rfl rfl (by rw [hlen, this]; simp; omega) (.inl ⟨rfl, rfl⟩)
    · have e : ne1 (hexs A) = hexs A := by unfold ne1; rw [if_neg (by simpa [hexs] using h)]
      rw [e]
      have := grp_hexs (partsL A C) 0 [] false rfl A hA (fun j hj => by
        rw [Nat.zero_add]
        unfold partsL
        rw [e, getD_left _ _ _ (by simpa [hexs] using hj), getD_hexs A j hj]) A.length (Nat.le_refl _)
      simpa [hexs] using this
  -- the gap
  have s2 : grpTo (partsL A C) ((ne1 (hexs A)).length + 1) = some (A.map (fun n : Nat => (n : Int)) ++ [-1], true) :=
    grp_gap _ _ _ s1 (by have := getD_right (ne1 (hexs A)) ([[]] ++ ne1 (hexs C)) 0; unfold partsL; rw [Nat.add_zero] at this; rw [this]; rfl) hp1 (by rw [hlen]; omega)
  unfold grp
  rw [hlen]
  by_cases h : C = []
  · subst h
    have e : ne1 (hexs []) = [[]] := rfl
    rw [e]
    have hg : ∀ j, j ≤ 1 → (partsL A []).getD ((ne1 (hexs A)).length + j) [] = [] := fun j hj => by
      unfold partsL
      rw [getD_right, e]
      have : j = 0 ∨ j = 1 := by omega
      rcases this with rfl | rfl <;> rfl
    have hl2 : (partsL A []).length = (ne1 (hexs A)).length + 2 := by rw [hlen, e]; rfl
    have := grp_edge (partsL A []) ((ne1 (hexs A)).length + 1) _ true s2 (hg 1 (by omega)) (by omega) (.inr ⟨by omega, by omega, by rw [hl2]; exact hg 0 (by omega)⟩)
    rw [show (ne1 (hexs A)).length + (1 + ([[]] : List (List UInt8)).length) = (ne1 (hexs A)).length + 1 + 1 from rfl, this]
    simp
  · have e : ne1 (hexs C) = hexs C := by unfold ne1; rw [if_neg (by simpa [hexs] using h)]
    have := grp_hexs (partsL A C) ((ne1 (hexs A)).length + 1) _ true s2 C hC (fun j hj => by
      rw [Nat.add_assoc]
      unfold partsL
      rw [getD_right, e]
      have h2 := getD_right [[]] (hexs C) j
      rw [show ([[]] : List (List UInt8)).length + j = 1 + j from rfl] at h2
      rw [h2, getD_hexs C j hj]) C.length (Nat.le_refl _)
    rw [e, show (ne1 (hexs A)).length + (1 + (hexs C).length) = (ne1 (hexs A)).length + 1 + C.length from by simp [hexs]; omega, this]
    simp

end Go.Proofs.Ytocdjgehjiolhaa
