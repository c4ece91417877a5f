
/- How great a node is: mathematics (no program in it). -/
import Derived.Test.YthjibliaofmlhaaGreatDoorXmLen
import Derived.Test.YthjibliaofmlhaaGreatDoorXmSame
import Derived.Test.YthjibliaofmlhaaGreatDoorXmSet
import Derived.Test.YthjibliaofmlhaaGreatDoorXmRFold
import Derived.Test.YthjibliaofmlhaaGreatDoorXmPar
import Derived.Test.YthjibliaofmlhaaGreatDoorXmNdP
import Derived.Test.YthjibliaofmlhaaGreatDoorXmAw
import Derived.Test.YthjibliaofmlhaaGreatDoorXmAtt
import Derived.Test.YthjibliaofmlhaaGreatDoorXmOpen
namespace Go.Proofs.YthjibliaofmlhaaGreatDoor
set_option linter.unusedVariables false
set_option linter.unusedSimpArgs false

/-- What is left behind attributes, and behind kids. -/
def atF : List HdV → Int → Int
  | [], L => L
  | a :: r, L => if 0 < L then atF r (L - 1 - a.name.length - a.value.length) else L
def kdF {α : Type} (f : α → Int → Int) : List α → Int → Int
  | [], L => L
  | k :: r, L => if 0 < L then kdF f r (f k L) else L
/-- What size tells. -/
def szT : (d : Nat) → Tr d → Int → Int → Int
  | 0, t, deep, L => if 40 < deep then -1 else atF t.2.1 (L - 1 - t.1.length - t.2.2.length)
  | d + 1, t, deep, L => if 40 < deep then -1 else kdF (fun k L => szT d k (deep + 1) L) t.2 (atF t.1.2.1 (L - 1 - t.1.1.length - t.1.2.2.length))
theorem sz_eq : ∀ (d : Nat) (t : Tr d) (deep L : Int), szT d t deep L = if 40 < deep then -1 else kdF (fun k L => szT (d - 1) k (deep + 1) L) (kidsT d t) (atF (lab d t).2.1 (L - 1 - (nmT d t).length - (txT d t).length))
  | 0, t, deep, L => rfl
  | _ + 1, t, deep, L => rfl
def attW (al : List HdV) : Nat := (al.map fun a => 1 + a.name.length + a.value.length).sum
def wtT : (d : Nat) → Tr d → Nat
  | 0, t => 1 + t.1.length + t.2.2.length + attW t.2.1
  | d + 1, t => 1 + t.1.1.length + t.1.2.2.length + attW t.1.2.1 + (t.2.map (wtT d)).sum
theorem wt_eq : ∀ (d : Nat) (t : Tr d), wtT d t = 1 + (nmT d t).length + (txT d t).length + attW (lab d t).2.1 + ((kidsT d t).map (wtT (d - 1))).sum
  | 0, t => rfl
  | _ + 1, t => rfl
theorem atF_pos : ∀ (al : List HdV) (L : Int), 0 < atF al L → atF al L = L - attW al ∧ 0 < L
  | [], L, h => ⟨by simp [atF, attW], h⟩
  | a :: r, L, h => by
    unfold atF at h ⊢
    by_cases hL : 0 < L
    · rw [if_pos hL] at h ⊢
      obtain ⟨h1, h2⟩ := atF_pos r _ h
      refine ⟨?_, hL⟩
      rw [h1]
      have : (attW (a :: r) : Int) = 1 + a.name.length + a.value.length + attW r := by simp [attW]
      rw [this]
      omega
    · rw [if_neg hL] at h
      exact absurd h hL
/-- No level more than so many. -/
def HgT : Nat → (d : Nat) → Tr d → Prop
  | 0, d, t => kidsT d t = []
  | e + 1, d, t => ∀ k ∈ kidsT d t, HgT e (d - 1) k
theorem kdF_pos {α : Type} (f : α → Int → Int) (g : α → Nat) (Q : α → Prop) (hf : ∀ k L, 0 < f k L → f k L = L - g k ∧ 0 < L ∧ Q k) : ∀ (l : List α) (L : Int), 0 < kdF f l L → kdF f l L = L - (l.map g).sum ∧ 0 < L ∧ ∀ k ∈ l, Q k
  | [], L, h => ⟨by simp [kdF], h, fun k hk => by cases hk⟩
  | a :: r, L, h => by
    unfold kdF at h ⊢
    by_cases hL : 0 < L
    · rw [if_pos hL] at h ⊢
      obtain ⟨h1, h2, h3⟩ := kdF_pos f g Q hf r _ h
      obtain ⟨k1, k2, k3⟩ := hf a L h2
      refine ⟨?_, hL, fun k hk => ?_⟩
      · rw [h1, k1, List.map_cons, List.sum_cons]
        omega
      · rcases List.mem_cons.1 hk with rfl | hk
        · exact k3
        · exact h3 k hk
    · rw [if_neg hL] at h
      exact absurd h hL
theorem sz_pos : ∀ (d : Nat) (t : Tr d) (deep : Nat) (L : Int), 0 < szT d t deep L → szT d t deep L = L - wtT d t ∧ 0 < L ∧ deep ≤ 40 ∧ HgT (40 - deep) d t := by
  intro d
  induction d with
  | zero =>
    intro t deep L h
    rw [sz_eq] at h ⊢
    split at h
    · omega
    · rename_i hd
      rw [if_neg hd]
      have hk : kidsT 0 t = [] := rfl
      rw [hk] at h ⊢
      simp only [kdF] at h ⊢
      obtain ⟨h1, h2⟩ := atF_pos _ _ h
      refine ⟨?_, by omega, by omega, ?_⟩
      · rw [h1, wt_eq, hk]
        simp
        omega
      · cases he : 40 - deep with
        | zero => exact hk
        | succ e => intro k hk'; cases hk'
  | succ d ih =>
    intro t deep L h
    rw [sz_eq] at h ⊢
    split at h
    · omega
    · rename_i hd
      rw [if_neg hd]
      have hcast : (deep : Int) + 1 = ((deep + 1 : Nat) : Int) := by omega
      rw [hcast] at h ⊢
      obtain ⟨h1, h2, h3⟩ := kdF_pos (fun (k : Tr d) L => szT d k ((deep + 1 : Nat) : Int) L) (wtT d) (fun k => deep + 1 ≤ 40 ∧ HgT (40 - (deep + 1)) d k) (fun k L hk => by
        obtain ⟨a, b, c, e⟩ := ih k (deep + 1) L hk
        exact ⟨a, b, c, e⟩) (kidsT (d + 1) t) _ h
      obtain ⟨h4, h5⟩ := atF_pos _ _ h2
      refine ⟨?_, by omega, by omega, ?_⟩
      · show kdF (fun (k : Tr d) L => szT d k ((deep + 1 : Nat) : Int) L) (kidsT (d + 1) t) _ = _
        rw [h1, h4, wt_eq]
        have e9 : ((kidsT (d + 1) t).map (wtT (d + 1 - 1))).sum = ((kidsT (d + 1) t).map (wtT d)).sum := rfl
        rw [e9]
        omega
      · cases he : 40 - deep with
        | zero =>
          show kidsT (d + 1) t = []
          cases hk : kidsT (d + 1) t with
          | nil => rfl
          | cons a r =>
            have := (h3 a (by rw [hk]; simp)).1
            omega
        | succ e =>
          intro k hk
          have h6 := (h3 k hk).2
          have : 40 - (deep + 1) = e := by omega
          rw [this] at h6
          exact h6
/-- A tree of so many levels, as one of others. -/
def cutT : (e d : Nat) → Tr d → Tr e
  | 0, d, t => lab d t
  | e + 1, d, t => (lab d t, (kidsT d t).map (cutT e (d - 1)))
theorem cut_nd {P : Nat → Prop} {w : World} : ∀ (e d : Nat) (cs : Array Value) (t : Tr d), HgT e d t → NdAt P d w cs t → NdAt P e w cs (cutT e d t)
  | 0, d, cs, t, hg, h => by
    obtain ⟨aA, ac, kA, kc, rfl, hh, _, _⟩ := h.parts
    have hk : kidsT d t = [] := hg
    rw [hk]
    exact NdAt.mk0 (d := 0) hh
  | e + 1, d, cs, t, hg, h => by
    obtain ⟨aA, ac, kA, kc, rfl, hh, hks, hc⟩ := h.parts
    have hl : (kidsT d t).length = ((kidsT d t).map (cutT e (d - 1))).length := (List.length_map _).symm
    rw [hl]
    refine NdAt.mk (l := lab d t) hh ?_ (by rw [← hl]; exact hc)
    intro h0
    obtain ⟨q, o, e1, e2, e3, e4⟩ := hks (by rw [hl]; exact h0)
    refine ⟨q, o, e1, e2, e3, fun j hj => ?_⟩
    obtain ⟨a, b, c, f, k1, k2, k3, k4, k5⟩ := e4 j (by rw [hl]; exact hj)
    refine ⟨a, b, c, f, k1, k2, k3, k4, ?_⟩
    have hj' : j < (kidsT d t).length := by rw [hl]; exact hj
    have hgd : ((kidsT d t).map (cutT e (d - 1))).getD j (zeroT e) = cutT e (d - 1) ((kidsT d t).getD j (zeroT (d - 1))) := by
      rw [List.getD_eq_getElem?_getD, List.getD_eq_getElem?_getD, List.getElem?_map, List.getElem?_eq_getElem hj']
      rfl
    show NdAt P e w _ (((kidsT d t).map (cutT e (d - 1))).getD j (zeroT e))
    rw [hgd]
    exact cut_nd e (d - 1) _ _ (hg _ (getD_mem9 hj')) k5
theorem cut_wt : ∀ (e d : Nat) (t : Tr d), HgT e d t → wtT e (cutT e d t) = wtT d t
  | 0, d, t, h => by
    have hk : kidsT d t = [] := h
    rw [wt_eq d t, hk]
    show 1 + (lab d t).1.length + (lab d t).2.2.length + attW (lab d t).2.1 = _
    simp only [List.map_nil, List.sum_nil, Nat.add_zero]
    rfl
  | e + 1, d, t, h => by
    rw [wt_eq d t]
    show 1 + (lab d t).1.length + (lab d t).2.2.length + attW (lab d t).2.1 + (((kidsT d t).map (cutT e (d - 1))).map (wtT e)).sum = _
    rw [List.map_map]
    have : (kidsT d t).map (wtT e ∘ cutT e (d - 1)) = (kidsT d t).map (wtT (d - 1)) := List.map_congr_left fun k hk => cut_wt e (d - 1) k (h k hk)
    rw [this]
    rfl
theorem wt_fit : ∀ (d : Nat) (t : Tr d) (N : Nat), wtT d t ≤ N → FitN N d t ∧ LeT N d t := by
  have top : ∀ (d : Nat) (t : Tr d) (N : Nat), wtT d t ≤ N → (lab d t).2.1.length ≤ N ∧ TopL N (lab d t) ∧ (kidsT d t).length ≤ N ∧ ∀ k ∈ kidsT d t, wtT (d - 1) k ≤ N := by
    intro d t N h
    rw [wt_eq] at h
    have a1 : (lab d t).2.1.length ≤ attW (lab d t).2.1 := by
      generalize (lab d t).2.1 = al
      induction al with
      | nil => exact Nat.zero_le _
      | cons a r ih =>
        have : attW (a :: r) = 1 + a.name.length + a.value.length + attW r := by simp [attW]
        rw [this, List.length_cons]
        omega
    have a2 : ∀ a ∈ (lab d t).2.1, a.value.length ≤ attW (lab d t).2.1 := by
      generalize (lab d t).2.1 = al
      induction al with
      | nil => exact fun a ha => by cases ha
      | cons b r ih =>
        intro a ha
        have : attW (b :: r) = 1 + b.name.length + b.value.length + attW r := by simp [attW]
        rw [this]
        rcases List.mem_cons.1 ha with rfl | ha
        · omega
        · have := ih a ha
          omega
    have a3 : (kidsT d t).length ≤ ((kidsT d t).map (wtT (d - 1))).sum := by
      generalize kidsT d t = l
      induction l with
      | nil => exact Nat.zero_le _
      | cons a r ih =>
        have : 1 ≤ wtT (d - 1) a := by rw [wt_eq]; omega
        rw [List.map_cons, List.sum_cons, List.length_cons]
        omega
    have e2 : (lab d t).2.2 = txT d t := rfl
    refine ⟨by omega, ⟨by rw [e2]; omega, fun a ha => by have := a2 a ha; omega⟩, by omega, fun k hk => ?_⟩
    have := sum_mem (wtT (d - 1)) hk
    omega
  intro d
  induction d with
  | zero =>
    intro t N h
    obtain ⟨h1, h2, _, _⟩ := top 0 t N h
    exact ⟨h1, h2⟩
  | succ d ih =>
    intro t N h
    obtain ⟨h1, h2, h3, h4⟩ := top (d + 1) t N h
    exact ⟨⟨h1, h3, fun k hk => (ih k N (h4 k hk)).1⟩, ⟨h2, fun k hk => (ih k N (h4 k hk)).2⟩⟩
theorem attW_mem : ∀ {al : List HdV} {a : HdV}, a ∈ al → 1 + a.name.length + a.value.length ≤ attW al
  | b :: r, a, h => by
    have e : attW (b :: r) = 1 + b.name.length + b.value.length + attW r := by simp [attW]
    rcases List.mem_cons.1 h with rfl | h
    · omega
    · have := attW_mem h
      omega
theorem attW_len : ∀ (al : List HdV), al.length ≤ attW al
  | [] => Nat.zero_le _
  | b :: r => by
    have e : attW (b :: r) = 1 + b.name.length + b.value.length + attW r := by simp [attW]
    have := attW_len r
    rw [List.length_cons]
    omega
theorem wt_parts {d : Nat} {t : Tr d} {N : Nat} (h : wtT d t ≤ N) : (lab d t).1.length ≤ N ∧ (lab d t).2.2.length ≤ N ∧ (lab d t).2.1.length ≤ N ∧ (∀ a ∈ (lab d t).2.1, a.name.length ≤ N ∧ a.value.length ≤ N) ∧ (kidsT d t).length ≤ N ∧ ∀ k ∈ kidsT d t, wtT (d - 1) k ≤ N := by
  rw [wt_eq] at h
  have e1 : (nmT d t).length = (lab d t).1.length := rfl
  have e2 : (txT d t).length = (lab d t).2.2.length := rfl
  have a1 := attW_len (lab d t).2.1
  have a3 : (kidsT d t).length ≤ ((kidsT d t).map (wtT (d - 1))).sum := by
    clear h
    generalize kidsT d t = l
    induction l with
    | nil => exact Nat.zero_le _
    | cons a r ih =>
      have : 1 ≤ wtT (d - 1) a := by rw [wt_eq]; omega
      rw [List.map_cons, List.sum_cons, List.length_cons]
      omega
  refine ⟨by omega, by omega, by omega, fun a ha => ?_, by omega, fun k hk => ?_⟩
  · have := attW_mem ha
    omega
  · have := sum_mem (wtT (d - 1)) hk
    omega
theorem list_wt (N : Nat) : ∀ (d k : Nat) (t : Tr d), wtT d t ≤ N → (∀ x ∈ listT d k t, wtT x.2.1 x.2.2 ≤ N) ∧ (listT d k t).length ≤ wtT d t
  | 0, k, t, h => by
    refine ⟨fun x hx => ?_, ?_⟩
    · have : x = (k, ⟨0, t⟩) := by simpa [listT] using hx
      subst this
      exact h
    · have : (listT 0 k t).length = 1 := rfl
      rw [this, wt_eq]
      omega
  | d + 1, k, t, h => by
    have hkd : ∀ y ∈ t.2, wtT d y ≤ N := (wt_parts h).2.2.2.2.2
    have hsum : (t.2.map (wtT d)).sum + 1 ≤ wtT (d + 1) t := by
      show (t.2.map (wtT d)).sum + 1 ≤ 1 + t.1.1.length + t.1.2.2.length + attW t.1.2.1 + (t.2.map (wtT d)).sum
      omega
    have e : listT (d + 1) k t = (k, (⟨d + 1, t⟩ : Sigma Tr)) :: (if t.1.1.isEmpty then [] else t.2.flatMap (listT d (k + 1))) := rfl
    rw [e]
    refine ⟨fun x hx => ?_, ?_⟩
    · rcases List.mem_cons.1 hx with rfl | hx
      · exact h
      · split at hx
        · cases hx
        · obtain ⟨y, hy, hxy⟩ := List.mem_flatMap.1 hx
          exact (list_wt N d (k + 1) y (hkd y hy)).1 x hxy
    · rw [List.length_cons]
      split
      · simp; omega
      · have : (t.2.flatMap (listT d (k + 1))).length ≤ (t.2.map (wtT d)).sum := by
          clear hsum e h
          generalize t.2 = l at hkd
          induction l with
          | nil => exact Nat.le_refl _
          | cons a r ih =>
            have h1 := (list_wt N d (k + 1) a (hkd a (by simp))).2
            have h2 := ih (fun y hy => hkd y (by simp [hy]))
            rw [List.flatMap_cons, List.length_append, List.map_cons, List.sum_cons]
            omega
        omega
end Go.Proofs.YthjibliaofmlhaaGreatDoor
