
/- The program's own reading of IPv6 is the reading by definition, at every text: plain mathematics. -/
import Derived.Test.YtocdjgehjiolhaaIpDev6
namespace Go.Proofs.Ytocdjgehjiolhaa
set_option linter.unusedSimpArgs false
set_option linter.unusedVariables false

def rgA (e : Bool) (s : List UInt8) : Option (List UInt8) := if s = [] then some [] else rgTo e (cutK 58 8 s) (cutK 58 8 s).length
def rgC (e : Bool) (s : List UInt8) : Option (List UInt8) := if s = [] then some [] else rgTo e (cutL 58 s) (cutL 58 s).length
def glue (g : Bool) (x y : Option (List UInt8)) : Option (List UInt8) := match x, y with
  | some x, some y => if 16 < x.length + y.length ∨ (x.length + y.length < 16 ∧ g = false) then none else some (x ++ List.replicate (16 - (x.length + y.length)) 0 ++ y)
  | _, _ => none
def leftP (l : List UInt8) : List UInt8 := if (Lib.cut l [58, 58]).2.2 then (Lib.cut l [58, 58]).1 else []
def rightP (l : List UInt8) : List UInt8 := if (Lib.cut l [58, 58]).2.2 then (Lib.cut l [58, 58]).2.1 else l
def gapP (l : List UInt8) : Bool := (Lib.cut l [58, 58]).2.2
def parse6 (l : List UInt8) : Option (List UInt8) := glue (gapP l) (rgA false (leftP l)) (rgA true (rightP l))

theorem fill_nonneg (v : List Int) (n : Nat) (h : ∀ x ∈ v, 0 ≤ x) : fillG v n = fillG v 0 ∧ (fillG v 0).length = 2 * v.length := by
  induction v with
  | nil => exact ⟨rfl, rfl⟩
  | cons a t ih =>
    have i := ih (fun x hx => h x (by simp [hx]))
    have ha := h a (by simp)
    have e : ∀ n, fillG (a :: t) n = [b8 (a / 256).toNat, b8 (a % 256).toNat] ++ fillG t n := fun n => by
      unfold fillG; rw [List.flatMap_cons, if_neg (by omega)]
    rw [e n, e 0, i.1]
    refine ⟨rfl, ?_⟩
    rw [List.length_append, i.2]; simp; omega
theorem cutK_last (s : List UInt8) (h : 9 < (cutL 58 s).length) : (58 : UInt8) ∈ (cutK 58 8 s).getD 8 [] := by
  unfold cutK
  rw [if_neg (by omega)]
  have : ((cutL 58 s).take 8 ++ [joinL 58 ((cutL 58 s).drop 8)]).getD 8 [] = joinL 58 ((cutL 58 s).drop 8) := by
    have hl : ((cutL 58 s).take 8).length = 8 := by simp; omega
    have := getD_right ((cutL 58 s).take 8) [joinL 58 ((cutL 58 s).drop 8)] 0
    rw [hl] at this
    simpa using this
  rw [this]
  match hq : (cutL 58 s).drop 8 with
  | [] => have : ((cutL 58 s).drop 8).length = 0 := by rw [hq]; rfl
          simp at this; omega
  | [x] => have : ((cutL 58 s).drop 8).length = 1 := by rw [hq]; rfl
           simp at this; omega
  | x :: y :: r => simp [joinL]
theorem rgA_C (e : Bool) (s : List UInt8) : rgA e s = rgC e s ∨ (rgA e s = none ∧ (rgC e s = none ∨ ∃ x, rgC e s = some x ∧ 16 < x.length)) := by
  unfold rgA rgC
  by_cases hs : s = []
  · left; rw [if_pos hs, if_pos hs]
  rw [if_neg hs, if_neg hs]
  by_cases h : (cutL 58 s).length ≤ 9
  · left
    have : cutK 58 8 s = cutL 58 s := by unfold cutK; rw [if_pos h]
    rw [this]
  · right
    constructor
    · have hl : (cutK 58 8 s).length = 9 := by rw [cutK_len]; omega
      have h58 := cutK_last s (by omega)
      rw [hl, rgTo]
      cases rgTo e (cutK 58 8 s) 8 with
      | none => rfl
      | some b =>
        simp only
        have h4 := four_colon _ h58
        rw [if_neg (by omega : ¬ 0 ≤ four ((cutK 58 8 s).getD 8 [])), okH_58 _ h58]
        split <;> rfl
    · rw [rg_seg]
      cases hS : segTo e (cutL 58 s) (cutL 58 s).length with
      | none => left; rfl
      | some v =>
        right
        have hp := seg_pos _ _ _ _ hS
        exact ⟨_, rfl, by rw [(fill_nonneg v 0 hp.1).2]; omega⟩
theorem glue_big (g : Bool) (x : List UInt8) (y : Option (List UInt8)) (h : 16 < x.length) : glue g (some x) y = none := by
  cases y with
  | none => rfl
  | some y => unfold glue; simp only; rw [if_pos (by omega)]
theorem glue_big' (g : Bool) (x : Option (List UInt8)) (y : List UInt8) (h : 16 < y.length) : glue g x (some y) = none := by
  cases x with
  | none => rfl
  | some x => unfold glue; simp only; rw [if_pos (by omega)]
theorem glue_none' (g : Bool) (x : Option (List UInt8)) : glue g x none = none := by cases x <;> rfl
theorem glue_AC (g : Bool) (a b : List UInt8) : glue g (rgA false a) (rgA true b) = glue g (rgC false a) (rgC true b) := by
  rcases rgA_C false a with h1 | ⟨h1, h1'⟩
  · rw [h1]
    rcases rgA_C true b with h2 | ⟨h2, h2' | ⟨y, h2', hy⟩⟩
    · rw [h2]
    · rw [h2, h2']
    · rw [h2, h2', glue_none', glue_big' _ _ _ hy]
  · rw [h1]
    have e : glue g none (rgA true b) = none := rfl
    rw [e]
    rcases h1' with h1' | ⟨x, h1', hx⟩
    · rw [h1']; rfl
    · rw [h1', glue_big _ _ _ hx]

/-! Two colons. -/
theorem cut_mid (b : UInt8) (r : List UInt8) : ∀ x : List UInt8, cutL b (x ++ b :: r) = cutL b x ++ cutL b r
  | [] => by simp [cutL]
  | c :: y => by
    have ih := cut_mid b r y
    have hp := cutL_pos b y
    have e1 : ∀ r, cutL b (c :: r) = if c = b then [] :: cutL b r else (c :: (cutL b r).headD []) :: (cutL b r).tail := fun _ => rfl
    rw [List.cons_append, e1, e1, ih]
    split
    · rfl
    · cases hq : cutL b y with
      | nil => rw [hq] at hp; simp at hp
      | cons z t => rfl
theorem cut_head_nil (b : UInt8) (l : List UInt8) (h0 : (cutL b l).getD 0 [] = []) (h1 : 1 < (cutL b l).length) : ∃ y, l = b :: y := by
  cases l with
  | nil => simp [cutL] at h1
  | cons c r =>
    unfold cutL at h0
    split at h0
    · rename_i hc; exact ⟨r, by rw [hc]⟩
    · simp at h0
theorem dd_cut : ∀ (l : List UInt8) (k : Nat), 0 < k → k + 1 < (cutL 58 l).length → (cutL 58 l).getD k [] = [] → ∃ x y, l = x ++ 58 :: 58 :: y
  | [], k, h0, h1, _ => by simp [cutL] at h1
  | c :: r, k, h0, h1, h2 => by
    obtain ⟨j, rfl⟩ : ∃ j, k = j + 1 := ⟨k - 1, by omega⟩
    unfold cutL at h1 h2
    split at h2
    · rename_i hc
      rw [if_pos hc] at h1
      simp only [List.length_cons] at h1
      rw [List.getD_cons_succ] at h2
      by_cases hj : 0 < j
      · obtain ⟨x, y, e⟩ := dd_cut r j hj (by omega) h2
        exact ⟨c :: x, y, by rw [e]; rfl⟩
      · have hj0 : j = 0 := by omega
        subst hj0
        obtain ⟨y, e⟩ := cut_head_nil 58 r h2 (by omega)
        exact ⟨[], y, by rw [hc, e]; rfl⟩
    · rename_i hc
      rw [if_neg hc] at h1
      have hp := cutL_pos 58 r
      cases hq : cutL 58 r with
      | nil => rw [hq] at hp; simp at hp
      | cons z t =>
        rw [hq] at h1 h2
        simp only [List.headD_cons, List.tail_cons, List.length_cons, List.getD_cons_succ] at h1 h2
        obtain ⟨x, y, e⟩ := dd_cut r (j + 1) (by omega) (by rw [hq]; simpa using h1) (by rw [hq, List.getD_cons_succ]; exact h2)
        exact ⟨c :: x, y, by rw [e]; rfl⟩
theorem occ_dd (x y : List UInt8) : Lib.occAt (x ++ 58 :: 58 :: y) [58, 58] x.length = true := by
  unfold Lib.occAt
  rw [List.drop_left]
  simp [List.isPrefixOf]
theorem cut_one (b : UInt8) (l : List UInt8) (h : cutL b l = [[]]) : l = [] := by
  have := join_cut b l
  rw [h] at this
  simpa [joinL] using this.symm
theorem cut_len1 (l : List UInt8) (hl : l ≠ []) (h : (cutL 58 l).getD 0 [] = []) : 1 < (cutL 58 l).length := by
  have hp := cutL_pos 58 l
  rcases Nat.lt_or_ge 1 (cutL 58 l).length with h1 | h1
  · exact h1
  · exfalso
    match hq : cutL 58 l, hp, h1 with
    | [x], _, _ =>
      rw [hq] at h
      simp at h
      rw [h] at hq
      exact hl (cut_one 58 l hq)
/-- No two colons side by side. -/
theorem grp_plain (l : List UInt8) (hne : l ≠ []) (hno : ¬ ∃ x y, l = x ++ 58 :: 58 :: y) : grp (cutL 58 l) = segTo true (cutL 58 l) (cutL 58 l).length := by
  obtain ⟨P, hP⟩ : ∃ P, P = cutL 58 l := ⟨_, rfl⟩
  have hmid : ∀ k, 0 < k → k + 1 < P.length → P.getD k [] ≠ [] := fun k h0 h1 h2 => hno (dd_cut l k h0 (by rw [← hP]; exact h1) (by rw [← hP]; exact h2))
  rw [← hP]
  have hrun := seg_run P [] P [] (by simp) true (by simp) [] false rfl (fun k hk hx hbef o ho => by
    rw [List.length_nil, Nat.zero_add] at ho ⊢
    rw [grpTo, ho]
    simp only
    rw [if_pos hx]
    have hedge : ¬ (k ≠ 0 ∧ k ≠ P.length - 1) := fun h => hmid k (by omega) (by omega) hx
    rw [if_neg hedge, if_pos]
    by_cases h3 : P.length < 3
    · exact Or.inl h3
    · by_cases hk0 : k = 0
      · refine Or.inr (Or.inl ⟨hk0, hmid 1 (by omega) (by omega)⟩)
      · have hkl : k = P.length - 1 := by omega
        refine Or.inr (Or.inr ⟨by omega, hbef (P.length - 2) (by omega)⟩)) P.length (Nat.le_refl _)
  rw [List.length_nil, Nat.zero_add] at hrun
  unfold grp
  rw [hrun]
  cases segTo true P P.length with
  | none => rfl
  | some v => simp
theorem cnt_nonneg (u : List Int) (h : ∀ x ∈ u, 0 ≤ x) : cntG u = u.length := by
  unfold cntG
  rw [List.filter_eq_self.2 (fun x hx => by simpa using h x hx)]
theorem gap_nonneg (u : List Int) (h : ∀ x ∈ u, 0 ≤ x) : gapG u = false := by
  unfold gapG
  rw [List.any_eq_false]
  intro x hx
  have := h x hx
  simp; omega
theorem cnt_gap (u v : List Int) (hu : ∀ x ∈ u, 0 ≤ x) (hv : ∀ x ∈ v, 0 ≤ x) : cntG (u ++ [-1] ++ v) = u.length + v.length ∧ gapG (u ++ [-1] ++ v) = true := by
  have h1 := cnt_nonneg u hu
  have h2 := cnt_nonneg v hv
  constructor
  · unfold cntG at h1 h2 ⊢
    rw [List.filter_append, List.filter_append, List.length_append, List.length_append, h1, h2]
    simp
  · unfold gapG; simp
theorem fill_gap (u v : List Int) (n : Nat) (hu : ∀ x ∈ u, 0 ≤ x) (hv : ∀ x ∈ v, 0 ≤ x) : fillG (u ++ [-1] ++ v) n = fillG u 0 ++ List.replicate (2 * n) 0 ++ fillG v 0 := by
  rw [fill_app, fill_app, (fill_nonneg u n hu).1, (fill_nonneg v n hv).1]
  congr 2
  simp [fillG]

/-- What stands on either side of two colons. -/
def frontI (a : List UInt8) : Option (List Int) := if a = [] then some [] else segTo false (cutL 58 a) (cutL 58 a).length
def backI (b : List UInt8) : Option (List Int) := if b = [] then some [] else segTo true (cutL 58 b) (cutL 58 b).length
theorem rgC_front (a : List UInt8) : rgC false a = (frontI a).map (fun v => fillG v 0) := by
  unfold rgC frontI; split
  · rfl
  · exact rg_seg _ _ _
theorem rgC_back (b : List UInt8) : rgC true b = (backI b).map (fun v => fillG v 0) := by
  unfold rgC backI; split
  · rfl
  · exact rg_seg _ _ _
theorem front_pos (a : List UInt8) (u : List Int) (h : frontI a = some u) : ∀ x ∈ u, 0 ≤ x := by
  unfold frontI at h; split at h
  · cases h; simp
  · exact (seg_pos _ _ _ _ h).1
theorem back_pos (b : List UInt8) (u : List Int) (h : backI b = some u) : ∀ x ∈ u, 0 ≤ x := by
  unfold backI at h; split at h
  · cases h; simp
  · exact (seg_pos _ _ _ _ h).1
theorem grp_dd (a b : List UInt8) (hfirst : ¬ ∃ x y, a ++ [58] = x ++ 58 :: 58 :: y) : grp (cutL 58 (a ++ 58 :: 58 :: b)) = (frontI a).bind fun u => (backI b).map fun v => u ++ [-1] ++ v := by
  obtain ⟨A, hA⟩ : ∃ A, A = cutL 58 a := ⟨_, rfl⟩
  obtain ⟨C, hC⟩ : ∃ C, C = cutL 58 b := ⟨_, rfl⟩
  obtain ⟨P, hP⟩ : ∃ P, P = cutL 58 (a ++ 58 :: 58 :: b) := ⟨_, rfl⟩
  have hPe : P = A ++ [] :: C := by
    rw [hP, cut_mid, ← hA, show cutL 58 (58 :: b) = [] :: cutL 58 b from by simp [cutL], ← hC]
  have hA1 : 0 < A.length := by rw [hA]; exact cutL_pos 58 a
  have hC1 : 0 < C.length := by rw [hC]; exact cutL_pos 58 b
  have hPl : P.length = A.length + 1 + C.length := by rw [hPe]; simp; omega
  have hgA : ∀ j, j < A.length → P.getD j [] = A.getD j [] := fun j hj => by rw [hPe]; exact getD_left A _ j hj
  have hgm : P.getD A.length [] = [] := by
    rw [hPe]; simp
  have hgC : ∀ j, P.getD (A.length + 1 + j) [] = C.getD j [] := fun j => by
    have := getD_right A ([] :: C) (1 + j)
    rw [hPe, show A.length + 1 + j = A.length + (1 + j) from by omega, this, Nat.add_comm 1 j, List.getD_cons_succ]
  have hAne : ∀ k, 0 < k → k < A.length → A.getD k [] ≠ [] := fun k h0 h1 h2 => by
    apply hfirst
    have e : cutL 58 (a ++ [58]) = A ++ [[]] := by rw [cut_snoc, ← hA]
    refine dd_cut (a ++ [58]) k h0 (by rw [e]; simp; omega) ?_
    rw [e, getD_left A _ k h1]; exact h2
  -- the parts ahead
  have hfront : grpTo P A.length = (frontI a).map (fun v => (v, false)) := by
    unfold frontI
    by_cases ha : a = []
    · rw [if_pos ha]
      have hA0 : A = [[]] := by rw [hA, ha]; rfl
      have := grp_edge P 0 [] false rfl (by rw [hgA 0 hA1, hA0]; rfl) (by omega) (Or.inl ⟨rfl, by
        have := hgm
        rw [hA0] at this
        simpa using this⟩)
      rw [hA0]
      exact this
    · rw [if_neg ha, ← hA]
      have hrun := seg_run P [] A ([] :: C) (by rw [hPe]; simp) false (by simp) [] false rfl (fun k hk hx hbef o ho => by
        rw [List.length_nil, Nat.zero_add] at ho ⊢
        have hk0 : k = 0 := Classical.byContradiction fun h => hAne k (by omega) hk hx
        subst hk0
        have h2 : 1 < A.length := by rw [hA]; exact cut_len1 a ha (by rw [← hA]; exact hx)
        rw [grpTo, ho]
        simp only
        rw [if_pos (by rw [hgA 0 hA1]; exact hx), if_neg (by omega), if_pos]
        refine Or.inr (Or.inl ⟨by trivial, ?_⟩)
        rw [hgA 1 h2]; exact hAne 1 (by omega) h2) A.length (Nat.le_refl _)
      rw [List.length_nil, Nat.zero_add] at hrun
      rw [hrun]
      cases segTo false A A.length <;> simp
  unfold grp
  rw [← hP]
  cases hF : frontI a with
  | none =>
    rw [hF] at hfront
    have := grp_none P A.length (P.length - A.length) hfront
    rw [show A.length + (P.length - A.length) = P.length from by omega] at this
    rw [this]; rfl
  | some u =>
    rw [hF, Option.map_some] at hfront
    have hgap := grp_gap P A.length u hfront hgm hA1 (by omega)
    rw [Option.bind_some]
    unfold backI
    by_cases hb : b = []
    · have hC0 : C = [[]] := by rw [hC, hb]; rfl
      have hl1 : C.length = 1 := by rw [hC0]; rfl
      have he := grp_edge P (A.length + 1) (u ++ [-1]) true hgap (by have := hgC 0; rw [Nat.add_zero] at this; rw [this, hC0]; rfl) (by omega) (Or.inr ⟨by omega, by omega, by rw [show P.length - 2 = A.length from by omega]; exact hgm⟩)
      rw [if_pos hb, show P.length = A.length + 1 + 1 from by omega, he]
      simp
    · rw [if_neg hb, ← hC]
      have hrun := seg_run P (A ++ [[]]) C [] (by rw [hPe]; simp) true (by simp) (u ++ [-1]) true (by rw [List.length_append]; exact hgap) (fun k hk hx hbef o ho => by
        rw [List.length_append, List.length_singleton] at ho ⊢
        rw [grpTo, ho]
        simp only
        rw [if_pos (by rw [hgC k]; exact hx)]
        by_cases hkl : k = C.length - 1
        · have hk1 : 0 < k := by
            rcases Nat.eq_zero_or_pos k with h0 | h0
            · exfalso
              subst h0
              have h2 : 1 < C.length := by rw [hC]; exact cut_len1 b hb (by rw [← hC]; exact hx)
              omega
            · exact h0
          rw [if_neg (by omega), if_pos]
          refine Or.inr (Or.inr ⟨by omega, ?_⟩)
          have := hgC (k - 1)
          rw [show P.length - 2 = A.length + 1 + (k - 1) from by omega, this]
          exact hbef (k - 1) (by omega)
        · rw [if_pos ⟨by omega, by omega⟩, if_pos (by trivial)]) C.length (Nat.le_refl _)
      rw [List.length_append, List.length_singleton] at hrun
      rw [show P.length = A.length + 1 + C.length from by omega, hrun]
      cases segTo true C C.length <;> simp
theorem glue_pos (g : Bool) (u v : List Int) (hu : ∀ x ∈ u, 0 ≤ x) (hv : ∀ x ∈ v, 0 ≤ x) : glue g (some (fillG u 0)) (some (fillG v 0)) = if 8 < u.length + v.length ∨ (g = false ∧ u.length + v.length ≠ 8) then none else some (fillG u 0 ++ List.replicate (2 * (8 - (u.length + v.length))) 0 ++ fillG v 0) := by
  have h1 := (fill_nonneg u 0 hu).2
  have h2 := (fill_nonneg v 0 hv).2
  unfold glue
  simp only
  rw [h1, h2]
  by_cases h : 8 < u.length + v.length ∨ (g = false ∧ u.length + v.length ≠ 8)
  · have h' : 16 < 2 * u.length + 2 * v.length ∨ (2 * u.length + 2 * v.length < 16 ∧ g = false) := by
      rcases h with h | ⟨hg, h⟩
      · left; omega
      · by_cases h9 : 8 < u.length + v.length
        · left; omega
        · right; exact ⟨by omega, hg⟩
    rw [if_pos h, if_pos h']
  · have h' : ¬ (16 < 2 * u.length + 2 * v.length ∨ (2 * u.length + 2 * v.length < 16 ∧ g = false)) := fun h2 => h (by
      rcases h2 with h2 | ⟨h2, hg⟩
      · left; omega
      · right; exact ⟨hg, by omega⟩)
    rw [if_neg h, if_neg h', show 16 - (2 * u.length + 2 * v.length) = 2 * (8 - (u.length + v.length)) from by omega]
theorem parse_dev (l : List UInt8) (h : (58 : UInt8) ∈ l) : parseA l = (parse6 l).map (fun B => (true, B)) := by
  have h4 := four_colon l h
  unfold parseA parse6
  rw [if_neg (by omega), glue_AC]
  have hne : l ≠ [] := fun e => by rw [e] at h; simp at h
  rcases Lib.index_spec l [58, 58] with ⟨hi, hno⟩ | ⟨i, hi, hil, hocc, hbef⟩
  · have hc : Lib.cut l [58, 58] = (l, [], false) := by unfold Lib.cut; rw [hi]; rfl
    have hl : leftP l = [] := by unfold leftP; rw [hc]; rfl
    have hr : rightP l = l := by unfold rightP; rw [hc]; rfl
    have hg : gapP l = false := by unfold gapP; rw [hc]
    have hnd : ¬ ∃ x y, l = x ++ 58 :: 58 :: y := by
      rintro ⟨x, y, e⟩
      have h1 := occ_dd x y
      rw [← e] at h1
      have h2 := hno x.length (by rw [e]; simp)
      rw [h1] at h2
      cases h2
    rw [hl, hr, hg, rgC_front, rgC_back, grp_plain l hne hnd]
    have hf : frontI [] = some [] := rfl
    have hb : backI l = segTo true (cutL 58 l) (cutL 58 l).length := by unfold backI; rw [if_neg hne]
    rw [hf, hb]
    cases hS : segTo true (cutL 58 l) (cutL 58 l).length with
    | none => rfl
    | some v =>
      have hp := seg_pos _ _ _ _ hS
      simp only [Option.map_some]
      rw [glue_pos false [] v (by simp) hp.1]
      simp only [List.length_nil, Nat.zero_add]
      rw [cnt_nonneg v hp.1, gap_nonneg v hp.1]
      by_cases h8 : v.length = 8
      · have h3 : ¬ ((cutL 58 l).length < 3 ∨ 8 < v.length ∨ (false = false ∧ v.length ≠ 8)) := by
          intro h
          rcases h with h | h | h
          · -- two parts give at most four numbers
            have : ∀ k u, segTo true (cutL 58 l) k = some u → u.length ≤ 2 * k := by
              intro k
              induction k with
              | zero => intro u hu; simp [segTo] at hu; subst hu; simp
              | succ k ih =>
                intro u hu
                rw [segTo] at hu
                cases hq : segTo true (cutL 58 l) k with
                | none => rw [hq] at hu; cases hu
                | some t =>
                  rw [hq] at hu
                  simp only at hu
                  have := ih t hq
                  split at hu
                  · cases hu; simp; omega
                  · split at hu
                    · cases hu; simp; omega
                    · cases hu
            have := this _ v hS
            omega
          · omega
          · exact h.2 h8
        rw [if_neg h3, if_neg (by omega), h8]
        simp [fillG]
      · rw [if_pos (Or.inr (by by_cases h9 : 8 < v.length; exact Or.inl h9; exact Or.inr ⟨by trivial, h8⟩)), if_pos (by by_cases h9 : 8 < v.length; exact Or.inl h9; exact Or.inr ⟨by trivial, h8⟩)]
        rfl
  · have hroom : i + 2 ≤ l.length := by
      rcases Lib.occAt_room hocc with h | h
      · exact h
      · cases h
    have hle : 0 ≤ Lib.index l [58, 58] := by rw [hi]; omega
    have hc : Lib.cut l [58, 58] = (l.take i, l.drop (i + 2), true) := by unfold Lib.cut; rw [if_pos hle, hi]; rfl
    obtain ⟨a, ha⟩ : ∃ a, a = l.take i := ⟨_, rfl⟩
    obtain ⟨b, hb⟩ : ∃ b, b = l.drop (i + 2) := ⟨_, rfl⟩
    have hlab : l = a ++ 58 :: 58 :: b := by
      rw [Lib.occAt_iff_take l [58, 58] i hroom, beq_iff_eq] at hocc
      have h1 : l.drop i = [58, 58] ++ l.drop (i + 2) := by
        conv => lhs; rw [← List.take_append_drop 2 (l.drop i)]
        rw [List.drop_drop]
        rw [show ([58, 58] : List UInt8).length = 2 from rfl] at hocc
        rw [hocc]
      rw [ha, hb]
      conv => lhs; rw [← List.take_append_drop i l, h1]
      rfl
    have hal : a.length = i := by rw [ha]; simp; omega
    have hl : leftP l = a := by unfold leftP; rw [hc, ha]; rfl
    have hr : rightP l = b := by unfold rightP; rw [hc, hb]; rfl
    have hg : gapP l = true := by unfold gapP; rw [hc]
    have hfirst : ¬ ∃ x y, a ++ [58] = x ++ 58 :: 58 :: y := by
      rintro ⟨x, y, e⟩
      have hlen : x.length + 2 + y.length = i + 1 := by
        have := congrArg List.length e
        simp at this; omega
      have e2 : l = x ++ 58 :: 58 :: (y ++ 58 :: b) := by
        rw [hlab, show a ++ 58 :: 58 :: b = (a ++ [58]) ++ 58 :: b from by simp, e]; simp
      have h1 := occ_dd x (y ++ 58 :: b)
      rw [← e2] at h1
      have h2 := hbef x.length (by omega)
      rw [h1] at h2
      cases h2
    rw [hl, hr, hg, rgC_front, rgC_back]
    have hgr := grp_dd a b hfirst
    rw [← hlab] at hgr
    rw [hgr]
    have h3 : ¬ (cutL 58 l).length < 3 := by
      rw [hlab, cut_mid, show cutL 58 (58 :: b) = [] :: cutL 58 b from by simp [cutL]]
      have := cutL_pos 58 a
      have := cutL_pos 58 b
      simp; omega
    cases hF : frontI a with
    | none => rfl
    | some u =>
      cases hB : backI b with
      | none => rfl
      | some v =>
        have hu := front_pos a u hF
        have hv := back_pos b v hB
        simp only [Option.bind_some, Option.map_some]
        rw [glue_pos true u v hu hv, (cnt_gap u v hu hv).1, (cnt_gap u v hu hv).2, fill_gap u v _ hu hv]
        by_cases h8 : 8 < u.length + v.length
        · rw [if_pos (Or.inr (Or.inl h8)), if_pos (Or.inl h8)]; rfl
        · rw [if_neg (by simp; omega), if_neg (by simp; omega)]; rfl
end Go.Proofs.Ytocdjgehjiolhaa
