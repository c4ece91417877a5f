
/- Values of JSON: what size of the law tells (no program in it). -/
import Derived.Test.YtlgkbdebpnbndaaGreatDoorJsVal
import Derived.Test.YtlgkbdebpnbndaaGreatDoorJsWt
namespace Go.Proofs.YtlgkbdebpnbndaaGreatDoor
set_option linter.unusedVariables false
set_option linter.unusedSimpArgs false

/-- What is left behind names, and behind those within. -/
def nmF : List (List UInt8) → Int → Int
  | [], L => L
  | a :: r, L => if 0 < L then nmF r (L - 1 - a.length) else L
def kdF {α : Type} (f : α → Int → Int) : List α → Int → Int
  | [], L => L
  | k :: r, L => if 0 < L then kdF f r (f k L) else L
/-- What size tells. -/
def szJ : (d : Nat) → VJ d → Int → Int → Int
  | 0, t, deep, L => if 40 < deep then -1 else nmF t.2.2.2 (L - 1 - t.2.2.1.length)
  | d + 1, t, deep, L => if 40 < deep then -1 else kdF (fun k L => szJ d k (deep + 1) L) t.2 (nmF t.1.2.2.2 (L - 1 - t.1.2.2.1.length))
theorem sz_eq : ∀ (d : Nat) (t : VJ d) (deep L : Int), szJ d t deep L = if 40 < deep then -1 else kdF (fun k L => szJ (d - 1) k (deep + 1) L) (kidsJ d t) (nmF (labJ d t).2.2.2 (L - 1 - (labJ d t).2.2.1.length))
  | 0, t, deep, L => rfl
  | _ + 1, t, deep, L => rfl
theorem nmF_pos : ∀ (al : List (List UInt8)) (L : Int), 0 < nmF al L → nmF al L = L - nmsW al ∧ 0 < L
  | [], L, h => ⟨by simp [nmF, nmsW], h⟩
  | a :: r, L, h => by
    unfold nmF at h ⊢
    by_cases hL : 0 < L
    · rw [if_pos hL] at h ⊢
      obtain ⟨h1, h2⟩ := nmF_pos r _ h
      refine ⟨?_, hL⟩
      rw [h1]
      have : (nmsW (a :: r) : Int) = 1 + a.length + nmsW r := by simp [nmsW]
      rw [this]
      omega
    · rw [if_neg hL] at h
      exact absurd h hL
/-- No level more than so many. -/
def HgJ : Nat → (d : Nat) → VJ d → Prop
  | 0, d, t => kidsJ d t = []
  | e + 1, d, t => ∀ k ∈ kidsJ d t, HgJ e (d - 1) k
theorem kdF_pos {α : Type} (f : α → Int → Int) (g : α → Nat) (Q : α → Prop) (hf : ∀ k L, 0 < f k L → f k L = L - g k ∧ 0 < L ∧ Q k) : ∀ (l : List α) (L : Int), 0 < kdF f l L → kdF f l L = L - (l.map g).sum ∧ 0 < L ∧ ∀ k ∈ l, Q k
  | [], L, h => ⟨by simp [kdF], h, fun k hk => by cases hk⟩
  | a :: r, L, h => by
    unfold kdF at h ⊢
    by_cases hL : 0 < L
    · rw [if_pos hL] at h ⊢
      obtain ⟨h1, h2, h3⟩ := kdF_pos f g Q hf r _ h
      obtain ⟨k1, k2, k3⟩ := hf a L h2
      refine ⟨?_, hL, fun k hk => ?_⟩
      · rw [h1, k1, List.map_cons, List.sum_cons]
        omega
      · rcases List.mem_cons.1 hk with rfl | hk
        · exact k3
        · exact h3 k hk
    · rw [if_neg hL] at h
      exact absurd h hL
theorem kids_down : ∀ (d : Nat) (t : VJ d), d = 0 → kidsJ d t = []
  | 0, _, _ => rfl
theorem sz_pos : ∀ (d : Nat) (t : VJ d) (deep : Nat) (L : Int), 0 < szJ d t deep L → szJ d t deep L = L - wtJ d t ∧ 0 < L ∧ deep ≤ 40 ∧ HgJ (40 - deep) d t := by
  intro d
  induction d with
  | zero =>
    intro t deep L h
    rw [sz_eq] at h ⊢
    split at h
    · omega
    · rename_i hd
      rw [if_neg hd]
      have hk : kidsJ 0 t = [] := rfl
      rw [hk] at h ⊢
      simp only [kdF] at h ⊢
      obtain ⟨h1, h2⟩ := nmF_pos _ _ h
      refine ⟨?_, by omega, by omega, ?_⟩
      · rw [h1, wtJ_eq, hk]
        simp
        omega
      · cases he : 40 - deep with
        | zero => exact hk
        | succ e => intro k hk'; cases hk'
  | succ d ih =>
    intro t deep L h
    rw [sz_eq] at h ⊢
    split at h
    · omega
    · rename_i hd
      rw [if_neg hd]
      have hcast : (deep : Int) + 1 = ((deep + 1 : Nat) : Int) := by omega
      rw [hcast] at h ⊢
      obtain ⟨h1, h2, h3⟩ := kdF_pos (fun (k : VJ d) L => szJ d k ((deep + 1 : Nat) : Int) L) (wtJ d) (fun k => deep + 1 ≤ 40 ∧ HgJ (40 - (deep + 1)) d k) (fun k L hk => by
        obtain ⟨a, b, c, e⟩ := ih k (deep + 1) L hk
        exact ⟨a, b, c, e⟩) (kidsJ (d + 1) t) _ h
      obtain ⟨h4, h5⟩ := nmF_pos _ _ h2
      refine ⟨?_, by omega, by omega, ?_⟩
      · show kdF (fun (k : VJ d) L => szJ d k ((deep + 1 : Nat) : Int) L) (kidsJ (d + 1) t) _ = _
        rw [h1, h4, wtJ_eq]
        have e9 : ((kidsJ (d + 1) t).map (wtJ (d + 1 - 1))).sum = ((kidsJ (d + 1) t).map (wtJ d)).sum := rfl
        rw [e9]
        omega
      · cases he : 40 - deep with
        | zero =>
          show kidsJ (d + 1) t = []
          cases hk : kidsJ (d + 1) t with
          | nil => rfl
          | cons a r =>
            have := (h3 a (by rw [hk]; simp)).1
            omega
        | succ e =>
          intro k hk
          have h6 := (h3 k hk).2
          have : 40 - (deep + 1) = e := by omega
          rw [this] at h6
          exact h6
/-- A tree of so many levels, as one of others. -/
def cutJ : (e d : Nat) → VJ d → VJ e
  | 0, d, t => labJ d t
  | e + 1, d, t => (labJ d t, (kidsJ d t).map (cutJ e (d - 1)))
theorem cut_lab (e d : Nat) (t : VJ d) : labJ e (cutJ e d t) = labJ d t := by cases e <;> rfl
theorem cut_kids (e d : Nat) (t : VJ d) (h : HgJ e d t) : (kidsJ e (cutJ e d t)).length = (kidsJ d t).length := by
  cases e with
  | zero => have : kidsJ d t = [] := h; rw [this]; rfl
  | succ e => exact List.length_map _
theorem cut_nd {P : Nat → Prop} {w : World} : ∀ (e d : Nat) (cs : Array Value) (t : VJ d), HgJ e d t → VAt P d w cs t → VAt P e w cs (cutJ e d t)
  | 0, d, cs, t, hg, h => by
    obtain ⟨kA, kc, nA, nc, rfl, hh, _, _⟩ := h.parts
    have hk : kidsJ d t = [] := hg
    rw [hk]
    exact VAt.mk0 (d := 0) hh
  | e + 1, d, cs, t, hg, h => by
    obtain ⟨kA, kc, nA, nc, rfl, hh, hks, hc⟩ := h.parts
    have hl : (kidsJ d t).length = ((kidsJ d t).map (cutJ e (d - 1))).length := (List.length_map _).symm
    rw [hl]
    refine VAt.mk (l := labJ d t) hh ?_ (by rw [← hl]; exact hc)
    intro h0
    obtain ⟨q, o, e1, e2, e3, e4⟩ := hks (by rw [hl]; exact h0)
    refine ⟨q, o, e1, e2, e3, fun j hj => ?_⟩
    obtain ⟨a, b, c, f, g, k1, k2, k3, k4, k5, k6⟩ := e4 j (by rw [hl]; exact hj)
    refine ⟨a, b, c, f, g, k1, k2, k3, k4, k5, ?_⟩
    have hj' : j < (kidsJ d t).length := by rw [hl]; exact hj
    have hgd : ((kidsJ d t).map (cutJ e (d - 1))).getD j (zeroJ e) = cutJ e (d - 1) ((kidsJ d t).getD j (zeroJ (d - 1))) := by
      rw [List.getD_eq_getElem?_getD, List.getD_eq_getElem?_getD, List.getElem?_map, List.getElem?_eq_getElem hj']
      rfl
    show VAt P e w _ (((kidsJ d t).map (cutJ e (d - 1))).getD j (zeroJ e))
    rw [hgd]
    exact cut_nd e (d - 1) _ _ (hg _ (getD_mem9 hj')) k6
theorem cut_wt : ∀ (e d : Nat) (t : VJ d), HgJ e d t → wtJ e (cutJ e d t) = wtJ d t
  | 0, d, t, h => by
    have hk : kidsJ d t = [] := h
    rw [wtJ_eq d t, hk]
    show 1 + (labJ d t).2.2.1.length + nmsW (labJ d t).2.2.2 = _
    simp only [List.map_nil, List.sum_nil, Nat.add_zero]
  | e + 1, d, t, h => by
    rw [wtJ_eq d t]
    show 1 + (labJ d t).2.2.1.length + nmsW (labJ d t).2.2.2 + (((kidsJ d t).map (cutJ e (d - 1))).map (wtJ e)).sum = _
    rw [List.map_map]
    have : (kidsJ d t).map (wtJ e ∘ cutJ e (d - 1)) = (kidsJ d t).map (wtJ (d - 1)) := List.map_congr_left fun k hk => cut_wt e (d - 1) k (h k hk)
    rw [this]
end Go.Proofs.YtlgkbdebpnbndaaGreatDoor
