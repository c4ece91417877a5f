
/- Values of JSON: what is read weighs no more than its text (no program in it). -/
import Derived.Test.YtlgkbdebpnbndaaGreatDoorJsWt
namespace Go.Proofs.YtlgkbdebpnbndaaGreatDoor
set_option linter.unusedVariables false
set_option linter.unusedSimpArgs false

theorem dw_lenP (p : UInt8 → Bool) (l : List UInt8) : (l.dropWhile p).length ≤ l.length := (List.dropWhile_sublist p).length_le
theorem uni_five {l r : List UInt8} {n : Nat} (h : uniJ l = some (n, r)) : r.length + 4 ≤ l.length := by
  unfold uniJ at h
  split at h
  · cases h
  · rename_i a r1 h4
    have := four_len h4
    split at h
    · injection h with h
      injection h with _ h
      subst h
      omega
    · split at h
      · split at h
        · cases h
        · rename_i b r2 h5
          have h6 := four_len h5
          rw [List.length_drop] at h6
          split at h
          · cases h
          · injection h with h
            injection h with _ h
            subst h
            omega
      · cases h
theorem plain_one {c : UInt8} {v : Nat} (h : plainE c = some v) : v < 128 := by
  unfold plainE at h
  repeat (split at h; · injection h with h; omega)
  cases h
theorem esc_encP {l r : List UInt8} {v : Nat} (h : escJ l = some (v, r)) : (encL v).length + r.length ≤ l.length + 1 := by
  unfold escJ at h
  split at h
  · cases h
  · rename_i c r1
    split at h
    · have := uni_five h
      have := (encL_len v).2
      rw [List.length_cons]
      omega
    · cases hp : plainE c with
      | none => rw [hp] at h; cases h
      | some k =>
        rw [hp] at h
        injection h with h
        injection h with h1 h2
        subst h1 h2
        rw [enc1 (plain_one hp), List.length_cons]
        simp
        omega
theorem strW_wt : ∀ (n : Nat) (out l s r : List UInt8), l.length ≤ n → strW out l = some (s, r) → s.length + r.length + 1 ≤ out.length + l.length
  | n, out, [], s, r, _, h => by cases h
  | 0, out, c :: r0, s, r, h0, h => by simp at h0
  | n + 1, out, c :: r0, s, r, h0, h => by
    simp only [List.length_cons] at h0 ⊢
    rw [strW_cons] at h
    split at h
    · injection h with h
      injection h with h1 h
      subst h1 h
      omega
    · split at h
      · cases he : escJ r0 with
        | none => rw [he] at h; cases h
        | some q =>
          rw [he] at h
          have h1 := esc_len (n := q.1) (r := q.2) he
          have h2 := esc_encP (v := q.1) (r := q.2) he
          have h3 := strW_wt n _ _ _ _ (by omega) h
          rw [List.length_append] at h3
          omega
      · split at h
        · cases h
        · have h3 := strW_wt n _ _ _ _ (by omega) h
          rw [List.length_append, List.length_singleton] at h3
          omega
theorem pre_lt {c : UInt8} {l : List UInt8} (h : preX [c] l = true) : (l.drop 1).length + 1 = l.length := by
  have := drop_one h
  rw [List.length_drop] at this ⊢
  omega
theorem nms_snoc (ns : List (List UInt8)) (s : List UInt8) : nmsW (ns ++ [s]) = nmsW ns + (1 + s.length) := by
  unfold nmsW
  rw [List.map_append, List.sum_append]
  simp
section
variable {α : Type} (g : α → Nat)
def WtE (el : List UInt8 → Nat → Except Nat (α × List UInt8 × Nat)) : Prop := ∀ l n v r m, el l n = .ok (v, r, m) → g v + r.length ≤ l.length
theorem lst_wt {el : List UInt8 → Nat → Except Nat (α × List UInt8 × Nat)} (hel : WtE g el) : ∀ (f : Nat) (ks : List α) (l : List UInt8) (n : Nat) (ks2 : List α) (r : List UInt8) (m : Nat), lstL el f ks l n = .ok (ks2, r, m) → (ks2.map g).sum + r.length + 1 ≤ (ks.map g).sum + l.length
  | 0, ks, l, n, ks2, r, m, h => by cases h
  | f + 1, ks, l, n, ks2, r, m, h => by
    rw [lstL] at h
    cases he : el l n with
    | error e => rw [he] at h; cases h
    | ok q =>
      obtain ⟨v, l2, n2⟩ := q
      rw [he] at h
      simp only at h
      have h1 := hel _ _ _ _ _ he
      have h2 := dw_lenP whX l2
      split at h
      · rename_i hp
        have h3 := pre_lt hp
        injection h with h
        injection h with h4 h
        injection h with h5 h6
        subst h4 h5
        rw [List.map_append, List.sum_append, List.map_cons, List.map_nil, List.sum_cons, List.sum_nil]
        omega
      · split at h
        · rename_i hp
          have h3 := pre_lt hp
          have h4 := lst_wt hel f _ _ _ _ _ _ h
          rw [List.map_append, List.sum_append, List.map_cons, List.map_nil, List.sum_cons, List.sum_nil] at h4
          omega
        · cases h
theorem name_wt {ns : List (List UInt8)} {l s r : List UInt8} (h : nameJ ns l = some (s, r)) : s.length + r.length + 3 ≤ l.length := by
  unfold nameJ at h
  have h0 := dw_lenP whX l
  split at h
  · rename_i hp
    have h1 := pre_lt hp
    split at h
    · cases h
    · rename_i s1 r1 hs
      have h2 := strW_wt _ _ _ _ _ (Nat.le_refl _) hs
      split at h
      · cases h
      · have h3 := dw_lenP whX r1
        split at h
        · rename_i hp2
          have h4 := pre_lt hp2
          injection h with h
          injection h with h5 h6
          subst h5 h6
          simp only [List.length_nil] at h2
          omega
        · cases h
  · cases h
theorem obj_wt {el : List UInt8 → Nat → Except Nat (α × List UInt8 × Nat)} (hel : WtE g el) : ∀ (f : Nat) (ns : List (List UInt8)) (ks : List α) (l : List UInt8) (n : Nat) (ns2 : List (List UInt8)) (ks2 : List α) (r : List UInt8) (m : Nat), objL el f ns ks l n = .ok (ns2, ks2, r, m) → nmsW ns2 + (ks2.map g).sum + r.length + 1 ≤ nmsW ns + (ks.map g).sum + l.length
  | 0, ns, ks, l, n, ns2, ks2, r, m, h => by cases h
  | f + 1, ns, ks, l, n, ns2, ks2, r, m, h => by
    rw [objL] at h
    cases hn : nameJ ns l with
    | none => rw [hn] at h; cases h
    | some p =>
      obtain ⟨s, l1⟩ := p
      rw [hn] at h
      simp only at h
      have h0 := name_wt hn
      cases he : el l1 n with
      | error e => rw [he] at h; cases h
      | ok q =>
        obtain ⟨v, l2, n2⟩ := q
        rw [he] at h
        simp only at h
        have h1 := hel _ _ _ _ _ he
        have h2 := dw_lenP whX l2
        split at h
        · rename_i hp
          have h3 := pre_lt hp
          injection h with h
          injection h with h4 h
          injection h with h5 h
          injection h with h6 h7
          subst h4 h5 h6
          rw [nms_snoc, List.map_append, List.sum_append, List.map_cons, List.map_nil, List.sum_cons, List.sum_nil]
          omega
        · split at h
          · rename_i hp
            have h3 := pre_lt hp
            have h4 := obj_wt hel f _ _ _ _ _ _ _ _ h
            rw [nms_snoc, List.map_append, List.sum_append, List.map_cons, List.map_nil, List.sum_cons, List.sum_nil] at h4
            omega
          · cases h
end
theorem lstJ_wt {α : Type} (g : α → Nat) {el : List UInt8 → Nat → Except Nat (α × List UInt8 × Nat)} (hel : WtE g el) {l r : List UInt8} {n m : Nat} {ks : List α} (h : lstJ el l n = .ok (ks, r, m)) : (ks.map g).sum + r.length + 1 ≤ l.length := by
  unfold lstJ at h
  have h0 := dw_lenP whX l
  split at h
  · rename_i hp
    have h1 := pre_lt hp
    injection h with h
    injection h with h4 h
    injection h with h5 h6
    subst h4 h5
    simp only [List.map_nil, List.sum_nil]
    omega
  · have := lst_wt g hel _ _ _ _ _ _ _ h
    simp only [List.map_nil, List.sum_nil] at this
    omega
theorem objJ_wt {α : Type} (g : α → Nat) {el : List UInt8 → Nat → Except Nat (α × List UInt8 × Nat)} (hel : WtE g el) {l r : List UInt8} {n m : Nat} {ns : List (List UInt8)} {ks : List α} (h : objJ el l n = .ok (ns, ks, r, m)) : nmsW ns + (ks.map g).sum + r.length + 1 ≤ l.length := by
  unfold objJ at h
  have h0 := dw_lenP whX l
  split at h
  · rename_i hp
    have h1 := pre_lt hp
    injection h with h
    injection h with h4 h
    injection h with h5 h
    injection h with h6 h7
    subst h4 h5 h6
    simp only [List.map_nil, List.sum_nil, nmsW]
    omega
  · have := obj_wt g hel _ _ _ _ _ _ _ _ _ h
    simp only [List.map_nil, List.sum_nil, nmsW] at this
    simp only [nmsW]
    omega
theorem pre_len {t l : List UInt8} (h : preX t l = true) : t.length ≤ l.length := (List.isPrefixOf_iff_prefix.1 h).length_le
theorem top_wt {α : Type} (g : α → Nat) {leaf : LabJ → α} {nest : Bool → List UInt8 → Nat → Except Nat (α × List UInt8 × Nat)} (hlf : ∀ a b s, g (leaf (a, b, s, [])) = 1 + s.length) (hne : ∀ ob l n v r m, nest ob l n = .ok (v, r, m) → g v + r.length ≤ l.length + 1) : WtE g (topJ leaf nest) := by
  intro l n v r m h
  have h0 := dw_lenP whX l
  unfold topJ at h
  cases hc : cntJ (l.dropWhile whX) n with
  | error e => rw [hc] at h; cases h
  | ok k =>
    rw [hc] at h
    simp only at h
    generalize l.dropWhile whX = l1 at h h0
    unfold atomJ at h
    split at h
    · rename_i hp
      have := pre_len hp
      injection h with h
      injection h with h1 h
      injection h with h2 h3
      subst h1 h2
      rw [hlf, List.length_drop]
      have : nullN.length = 4 := rfl
      simp only [List.length_nil]
      omega
    · split at h
      · rename_i hp
        have := pre_len hp
        injection h with h
        injection h with h1 h
        injection h with h2 h3
        subst h1 h2
        rw [hlf, List.length_drop]
        have : trueN.length = 4 := rfl
        simp only [List.length_nil]
        omega
      · split at h
        · rename_i hp
          have := pre_len hp
          injection h with h
          injection h with h1 h
          injection h with h2 h3
          subst h1 h2
          rw [hlf, List.length_drop]
          have : falsN.length = 5 := rfl
          simp only [List.length_nil]
          omega
        · split at h
          · rename_i hp
            have h1 := pre_lt hp
            split at h
            · cases h
            · rename_i s1 r1 hs
              have h2 := strW_wt _ _ _ _ _ (Nat.le_refl _) hs
              injection h with h
              injection h with h3 h
              injection h with h4 h5
              subst h3 h4
              rw [hlf]
              simp only [List.length_nil] at h2
              omega
          · split at h
            · rename_i hp
              have h1 := pre_lt hp
              have := hne _ _ _ _ _ _ h
              omega
            · split at h
              · rename_i hp
                have h1 := pre_lt hp
                have := hne _ _ _ _ _ _ h
                omega
              · split at h
                · cases h
                · rename_i v1 r1 hn
                  have := num_len hn
                  injection h with h
                  injection h with h3 h
                  injection h with h4 h5
                  subst h3 h4
                  rw [hlf]
                  simp only [List.length_nil]
                  omega
theorem leaf_wtP (d : Nat) (a b : Int) (s : List UInt8) : wtJ d (leafJ d (a, b, s, [])) = 1 + s.length := by
  cases d with
  | zero => show 1 + s.length + 0 = _; omega
  | succ d => show 1 + s.length + 0 + 0 = _; omega
theorem val_wt : ∀ (d lev : Nat), WtE (wtJ d) (valJ d lev)
  | 0, lev => top_wt (wtJ 0) (leaf_wtP 0) (fun ob l n v r m h => by
    split at h <;> cases h)
  | d + 1, lev => top_wt (wtJ (d + 1)) (leaf_wtP (d + 1)) (fun ob l n v r m h => by
    have hel := val_wt d (lev + 1)
    unfold nestJ at h
    split at h
    · cases h
    · split at h
      · cases ho : objJ (valJ d (lev + 1)) l n with
        | error e => rw [ho] at h; cases h
        | ok q =>
          obtain ⟨ns, ks, r2, m2⟩ := q
          rw [ho] at h
          have h1 := objJ_wt (wtJ d) hel ho
          injection h with h
          injection h with h2 h
          injection h with h3 h4
          subst h2 h3
          show 1 + 0 + nmsW ns + (ks.map (wtJ d)).sum + _ ≤ _
          omega
      · cases ho : lstJ (valJ d (lev + 1)) l n with
        | error e => rw [ho] at h; cases h
        | ok q =>
          obtain ⟨ks, r2, m2⟩ := q
          rw [ho] at h
          have h1 := lstJ_wt (wtJ d) hel ho
          injection h with h
          injection h with h2 h
          injection h with h3 h4
          subst h2 h3
          show 1 + 0 + 0 + (ks.map (wtJ d)).sum + _ ≤ _
          omega)
/-- What is read weighs no more than its text. -/
theorem par_wtJ {s : List UInt8} {t : VJ 40} (h : parJ s = .ok t) : wtJ 40 t ≤ s.length := by
  unfold parJ at h
  split at h
  · cases h
  · split at h
    · cases h
    · cases hv : valJ 40 0 s 0 with
      | error e => rw [hv] at h; cases h
      | ok q =>
        obtain ⟨t2, l, m⟩ := q
        rw [hv] at h
        simp only at h
        have := val_wt 40 0 _ _ _ _ _ hv
        split at h
        · injection h with h
          subst h
          omega
        · cases h
end Go.Proofs.YtlgkbdebpnbndaaGreatDoor
