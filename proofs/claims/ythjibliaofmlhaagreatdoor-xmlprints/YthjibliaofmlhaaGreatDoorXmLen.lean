
/- No text of a tree that is read is longer than its file (no program in it). -/
import Derived.Test.YthjibliaofmlhaaGreatDoorXmREl
import Derived.Test.YthjibliaofmlhaaGreatDoorXmFile
namespace Go.Proofs.YthjibliaofmlhaaGreatDoor
set_option linter.unusedVariables false
set_option linter.unusedSimpArgs false

/-- A node's texts are of N bytes at most. -/
def TopL (N : Nat) (l : Lab) : Prop := l.2.2.length ≤ N ∧ ∀ a ∈ l.2.1, a.value.length ≤ N
def LeT (N : Nat) : (d : Nat) → Tr d → Prop
  | 0, t => TopL N t
  | d + 1, t => TopL N t.1 ∧ ∀ k ∈ t.2, LeT N d k
theorem LeT.top {N : Nat} : {d : Nat} → {t : Tr d} → LeT N d t → TopL N (lab d t)
  | 0, _, h => h
  | _ + 1, _, h => h.1
theorem LeT.mono {N M : Nat} (hNM : N ≤ M) : {d : Nat} → {t : Tr d} → LeT N d t → LeT M d t
  | 0, _, h => ⟨Nat.le_trans h.1 hNM, fun a ha => Nat.le_trans (h.2 a ha) hNM⟩
  | _ + 1, _, h => ⟨⟨Nat.le_trans h.1.1 hNM, fun a ha => Nat.le_trans (h.1.2 a ha) hNM⟩, fun k hk => LeT.mono hNM (h.2 k hk)⟩
theorem le_leaf (N d : Nat) (l : Lab) (h : TopL N l) : LeT N d (leaf d l) := by
  cases d with
  | zero => exact h
  | succ d => exact ⟨h, fun k hk => by cases hk⟩
theorem unt_lenA (p : List UInt8) : ∀ (l a b : List UInt8), untX p l = some (a, b) → a.length + b.length ≤ l.length
  | [], a, b, h => by simp [untX] at h
  | c :: r, a, b, h => by
    simp only [untX] at h
    split at h
    · injection h with h; injection h with h1 h2; subst h1 h2; simp
    · cases hu : untX p r with
      | none => rw [hu] at h; cases h
      | some q =>
        rw [hu] at h
        injection h with h
        injection h with h1 h2
        have := unt_lenA p r q.1 q.2 hu
        rw [← h1, ← h2]
        simp only [List.length_cons]
        omega
theorem val_len {r v : List UInt8} (h : valX r = some v) : v.length ≤ r.length := by
  have h1 := unA_len (l := blankE (linE r)) h
  have h2 : (blankE (linE r)).length = (linE r).length := by simp [blankE]
  have h3 := linE_len r
  omega
theorem att_le {al : List HdV} {l : List UInt8} {m : Nat} {a : HdV} {l2 : List UInt8} {m2 : Nat} (h : attX al l m = .ok (a, l2, m2)) : a.value.length ≤ l.length := by
  rw [att_va] at h
  split at h
  · cases h
  · split at h
    · cases h
    · rename_i v r hv
      split at h
      · cases h
      · split at h
        · injection h with h
          injection h with h1 h2
          subst h1
          show v.length ≤ l.length
          have hd : (l.dropWhile latX).length ≤ l.length := (List.dropWhile_suffix _).length_le
          generalize l.dropWhile latX = l0 at hv hd
          unfold vaX at hv
          split at hv
          · rename_i r1 e1
            have hd1 : (l0.dropWhile whX).length ≤ l0.length := (List.dropWhile_suffix _).length_le
            rw [e1] at hd1
            split at hv
            · rename_i q r2 e2
              have hd2 : (r1.dropWhile whX).length ≤ r1.length := (List.dropWhile_suffix _).length_le
              rw [e2] at hd2
              split at hv
              · split at hv
                · cases hv
                · rename_i p hp
                  split at hv
                  · cases hv
                  · cases hx : valX p.1 with
                    | none => rw [hx] at hv; cases hv
                    | some v' =>
                      rw [hx] at hv
                      injection hv with hv
                      injection hv with hv1 hv2
                      subst hv1
                      have := val_len hx
                      have h9 := unt_lenA _ _ p.1 p.2 hp
                      simp only [List.length_cons] at hd1 hd2
                      omega
              · cases hv
            · cases hv
          · cases hv
        · cases h
theorem ats_le {N : Nat} : ∀ (n : Nat) (al : List HdV) (l : List UInt8) (m : Nat) (al2 : List HdV) (b : Bool) (l2 : List UInt8) (m2 : Nat), l.length ≤ n → l.length ≤ N → (∀ a ∈ al, a.value.length ≤ N) → atsW al l m = .ok (al2, b, l2, m2) → ∀ a ∈ al2, a.value.length ≤ N := by
  intro n
  induction n with
  | zero =>
    intro al l m al2 b l2 m2 h0 hN hal h
    rw [atsW_step] at h
    have : l = [] := List.length_eq_zero_iff.1 (by omega)
    subst this
    simp [preX] at h
  | succ n ih =>
    intro al l m al2 b l2 m2 h0 hN hal h
    rw [atsW_step] at h
    split at h
    · injection h with h; injection h with h1 _; subst h1; exact hal
    · split at h
      · injection h with h; injection h with h1 _; subst h1; exact hal
      · split at h
        · cases h
        · cases ha : attX al (l.dropWhile whX) m with
          | error e => rw [ha] at h; cases h
          | ok q =>
            obtain ⟨a, l3, m3⟩ := q
            rw [ha] at h
            simp only at h
            have hs := ((att_sh ha).1.le (dw_suf whX l)).2
            have hv := att_le ha
            have hd : (l.dropWhile whX).length ≤ l.length := (dw_suf whX l).length_le
            refine ih _ _ _ _ _ _ _ (by omega) (by omega) (fun x hx => ?_) h
            rcases List.mem_append.1 hx with hx | hx
            · exact hal x hx
            · rw [List.mem_singleton] at hx; subst hx; omega
theorem say_leT {N d : Nat} {ks ks2 : List (Tr d)} {s : List UInt8} {m m2 : Nat} (h : sayX d ks s m = .ok (ks2, m2)) (hk : ∀ k ∈ ks, LeT N d k) (hl : ltT d ks + s.length ≤ N) : (∀ k ∈ ks2, LeT N d k) ∧ ltT d ks2 ≤ ltT d ks + s.length := by
  unfold sayX at h
  split at h
  · injection h with h; injection h with h1 h2; subst h1; exact ⟨hk, by omega⟩
  · split at h
    · rename_i k hkl
      split at h
      · rename_i hn
        injection h with h
        injection h with h1 h2
        subst h1
        have hlt : ltT d ks = (txT d k).length := by unfold ltT; rw [hkl]; simp only; rw [if_pos hn]
        refine ⟨fun x hx => ?_, by rw [ltT_text, List.length_append, hlt]; exact Nat.le_refl _⟩
        rcases List.mem_append.1 hx with hx | hx
        · exact hk x (List.dropLast_subset _ hx)
        · rw [List.mem_singleton] at hx
          subst hx
          exact le_leaf _ _ _ ⟨by show (txT d k ++ s).length ≤ N; rw [List.length_append]; omega, fun a ha => by cases ha⟩
      · split at h
        · injection h with h
          injection h with h1 h2
          subst h1
          refine ⟨fun x hx => ?_, by rw [ltT_text]; omega⟩
          rcases List.mem_append.1 hx with hx | hx
          · exact hk x hx
          · rw [List.mem_singleton] at hx
            subst hx
            exact le_leaf _ _ _ ⟨by show s.length ≤ N; omega, fun a ha => by cases ha⟩
        · cases h
    · split at h
      · injection h with h
        injection h with h1 h2
        subst h1
        refine ⟨fun x hx => ?_, by rw [show [leaf d ([], [], s)] = [] ++ [leaf d ([], [], s)] from rfl, ltT_text]; omega⟩
        rw [List.mem_singleton] at hx
        subst hx
        exact le_leaf _ _ _ ⟨by show s.length ≤ N; omega, fun a ha => by cases ha⟩
      · cases h
theorem kid_le {N d : Nat} {el : List UInt8 → Nat → Except Nat (Tr d × List UInt8 × Nat)} (hel : Shrinks el) (hle : ∀ l m t l2 m2, l.length ≤ N → el l m = .ok (t, l2, m2) → LeT N d t ∧ (nmT d t).isEmpty = false) : ∀ (n : Nat) (ks : List (Tr d)) (l : List UInt8) (m : Nat) (ks2 : List (Tr d)) (l2 : List UInt8) (m2 : Nat), l.length ≤ n → m ≤ 4096 → (∀ k ∈ ks, LeT N d k) → ltT d ks + l.length ≤ N → kidW d el ks l m = .ok (ks2, l2, m2) → ∀ k ∈ ks2, LeT N d k := by
  intro n
  induction n with
  | zero =>
    intro ks l m ks2 l2 m2 h0 hm hk hl h
    have : l = [] := List.length_eq_zero_iff.1 (by omega)
    subst this
    rw [kidW_piece hel ks [] m hm rfl rfl (.inr rfl)] at h
    cases hp : pieceX [] with
    | error e => rw [hp] at h; cases h
    | ok q =>
      obtain ⟨s, l3⟩ := q
      have := (piece_sh2 hp (.inr rfl)).2
      simp at this
  | succ n ih =>
    intro ks l m ks2 l2 m2 h0 hm hk hl h
    by_cases he : preX [60, 47] l = true
    · rw [kidW_end ks l m he] at h
      injection h with h
      injection h with h1 _
      subst h1
      exact hk
    · have he' : preX [60, 47] l = false := by simpa using he
      cases ha : atAs l with
      | true =>
        rw [kidW_as hel ks l m hm ha] at h
        cases hc : asideX l with
        | none => rw [hc] at h; cases h
        | some b =>
          rw [hc] at h
          have := (aside_sh hc).2
          exact ih ks b m ks2 l2 m2 (by omega) hm hk (by omega) h
      | false =>
        by_cases hb : preX [60, 33, 91, 67, 68, 65, 84, 65, 91] l = true ∨ preX [60] l = false
        · rw [kidW_piece hel ks l m hm he' ha hb] at h
          cases hp : pieceX l with
          | error e => rw [hp] at h; cases h
          | ok q =>
            obtain ⟨s, l3⟩ := q
            rw [hp] at h
            simp only at h
            cases hs : sayX d ks s m with
            | error e => rw [hs] at h; cases h
            | ok q =>
              obtain ⟨ks3, m3⟩ := q
              rw [hs] at h
              simp only at h
              have h1 := (piece_len hp).1
              have h2 := (piece_sh2 hp hb).2
              obtain ⟨h3, h4⟩ := say_leT (N := N) hs hk (by omega)
              exact ih ks3 l3 m3 ks2 l2 m2 (by omega) (say_le hs hm) h3 (by omega) h
        · rw [not_or] at hb
          rw [kidW_el hel ks l m hm he' ha (by simpa using hb.1) (by simpa using hb.2)] at h
          cases hx : el l m with
          | error e => rw [hx] at h; cases h
          | ok q =>
            obtain ⟨t, l3, m3⟩ := q
            rw [hx] at h
            simp only at h
            obtain ⟨h1, h2⟩ := hle l m t l3 m3 (by omega) hx
            have h3 := hel l m t l3 m3 hm hx
            have h4 := h3.1.2
            refine ih (ks ++ [t]) l3 m3 ks2 l2 m2 (by omega) h3.2 (fun k hk' => ?_) (by rw [(TxtLast.elem h2).2]; omega) h
            rcases List.mem_append.1 hk' with hk' | hk'
            · exact hk k hk'
            · rw [List.mem_singleton] at hk'; subst hk'; exact h1
theorem el_le (N : Nat) : ∀ (d lev : Nat) (l : List UInt8) (m : Nat) (t : Tr d) (l2 : List UInt8) (m2 : Nat), l.length ≤ N → elX d lev l m = .ok (t, l2, m2) → LeT N d t
  | d, lev, l, m, t, l2, m2, hN, h => by
    have hop : ∀ (q : List UInt8 × List HdV × Bool × List UInt8 × Nat), opX lev l m = .ok q → (∀ a ∈ q.2.1, a.value.length ≤ N) ∧ q.2.2.2.1.length ≤ N ∧ q.2.2.2.2 ≤ 4096 := by
      rintro ⟨n, al, b, l3, m3⟩ ho
      have hs := op_sh ho
      refine ⟨?_, Nat.le_trans (Nat.le_of_lt hs.1.2) hN, hs.2.2.1⟩
      unfold opX at ho
      split at ho
      · rename_i r
        split at ho
        · cases ho
        · split at ho
          · cases ho
          · split at ho
            · cases ho
            · cases hat : atsX ((r.dropWhile latX).length + 1) [] (r.dropWhile latX) (m + 1) with
              | error e => rw [hat] at ho; cases ho
              | ok q =>
                obtain ⟨al4, b4, l4, m4⟩ := q
                rw [hat] at ho
                simp only at ho
                injection ho with ho
                injection ho with _ ho
                injection ho with ho _
                subst ho
                have hd : (r.dropWhile latX).length ≤ r.length := (List.dropWhile_suffix _).length_le
                simp only [List.length_cons] at hN
                exact ats_le _ [] (r.dropWhile latX) (m + 1) al4 b4 l4 m4 (Nat.le_refl _) (by omega) (fun a ha => by cases ha) hat
      · cases ho
    cases d with
    | zero =>
      unfold elX at h
      cases ho : opX lev l m with
      | error e => rw [ho] at h; cases h
      | ok q =>
        obtain ⟨n, al, b, l3, m3⟩ := q
        rw [ho] at h
        cases b with
        | false => cases h
        | true =>
          injection h with h
          injection h with h1 _
          subst h1
          exact ⟨Nat.zero_le _, (hop _ ho).1⟩
    | succ d =>
      unfold elX at h
      cases ho : opX lev l m with
      | error e => rw [ho] at h; cases h
      | ok q =>
        obtain ⟨n, al, b, l3, m3⟩ := q
        rw [ho] at h
        obtain ⟨p1, p2, p3⟩ := hop _ ho
        cases b with
        | true =>
          injection h with h
          injection h with h1 _
          subst h1
          exact ⟨⟨Nat.zero_le _, p1⟩, fun k hk => by cases hk⟩
        | false =>
          simp only at h
          cases hk : kidX d (elX d (lev - 1)) (l3.length + 1) [] l3 m3 with
          | error e => rw [hk] at h; cases h
          | ok q =>
            obtain ⟨ks, l4, m4⟩ := q
            rw [hk] at h
            simp only at h
            cases hc : clX n l4 with
            | none => rw [hc] at h; cases h
            | some r =>
              rw [hc] at h
              injection h with h
              injection h with h1 _
              subst h1
              refine ⟨⟨Nat.zero_le _, p1⟩, fun k hk' => ?_⟩
              exact kid_le (N := N) (el_sh d (lev - 1)) (fun l m t l2 m2 hl hx => ⟨el_le N d (lev - 1) l m t l2 m2 hl hx, el_name d (lev - 1) l m t l2 m2 hx⟩) l3.length [] l3 m3 ks l4 m4 (Nat.le_refl _) p3 (fun k hk => by cases hk) (by simp [ltT]; exact p2) hk k hk'
theorem par_le {s : List UInt8} {t : Tr 40} (h : parX s = .ok t) : LeT 65536 40 t := by
  rw [par_file] at h
  split at h
  · cases h
  · rename_i hl
    split at h
    · cases h
    · unfold fileX at h
      split at h
      · cases h
      · rename_i l1 ha
        split at h
        · cases h
        · cases he : elX 40 16 l1 0 with
          | error e => rw [he] at h; cases h
          | ok q =>
            obtain ⟨t', l2, m2⟩ := q
            rw [he] at h
            simp only at h
            split at h
            · cases h
            · split at h
              · injection h with h
                subst h
                have h1 := (as_sh true _ _ _ ha).length_le
                have h2 := linE_len s
                exact el_le 65536 40 16 l1 0 t' l2 m2 (by omega) he
              · cases h
end Go.Proofs.YthjibliaofmlhaaGreatDoor
