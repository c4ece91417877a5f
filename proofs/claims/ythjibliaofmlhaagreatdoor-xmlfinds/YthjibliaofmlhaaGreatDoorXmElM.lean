
/- An element: what is told of its attributes and of it, and how things stand while it is read. -/
import Derived.Test.YthjibliaofmlhaaGreatDoorXmStep
import Derived.Test.YthjibliaofmlhaaGreatDoorXmBook
namespace Go.Proofs.YthjibliaofmlhaaGreatDoor
set_option linter.unusedVariables false
set_option linter.unusedSimpArgs false
open Go.RowKit Go.BigFrame

/-- Attributes, and the white behind them; white is ahead of each. -/
def atC : Nat → List HdV → List UInt8 → Nat → Except Nat (List HdV × List UInt8 × Nat)
  | 0, _, _, _ => .error 99
  | f + 1, al, l, m =>
    if (l.dropWhile whX).length = l.length ∨ nmX (l.dropWhile whX) = [] then .ok (al, l.dropWhile whX, m)
    else (match attX al (l.dropWhile whX) m with
      | .error e => .error e
      | .ok (a, l2, m2) => atC f (al ++ [a]) l2 m2)
def atW (l : List UInt8) (m : Nat) := atC (l.length + 1) [] l m
theorem lat_slash : latX 47 = false ∧ latX 62 = false ∧ whX 47 = false ∧ whX 62 = false := by decide
theorem nm_none {c : UInt8} {r : List UInt8} (h : latX c = false) : nmX (c :: r) = [] := by
  rw [nm_eq]
  have : (c :: r).takeWhile latX = [] := by simp [List.takeWhile, h]
  rw [this]
  rfl
theorem ats_at : ∀ (f : Nat) (al : List HdV) (l : List UInt8) (m : Nat), atsX f al l m = (match atC f al l m with
    | .error e => .error e
    | .ok (as2, r, m2) => if preX [47, 62] r then .ok (as2, true, r.drop 2, m2) else if preX [62] r then .ok (as2, false, r.drop 1, m2) else .error 5)
  | 0, al, l, m => rfl
  | f + 1, al, l, m => by
    rw [atsX, atC]
    by_cases hn : (l.dropWhile whX).length = l.length ∨ nmX (l.dropWhile whX) = []
    · rw [if_pos hn]
      simp only
      by_cases h1 : preX [47, 62] (l.dropWhile whX) = true
      · rw [if_pos h1, if_pos h1]
      · rw [if_neg h1, if_neg h1]
        by_cases h2 : preX [62] (l.dropWhile whX) = true
        · rw [if_pos h2, if_pos h2]
        · rw [if_neg h2, if_neg h2]
          by_cases h3 : (l.dropWhile whX).length = l.length
          · rw [if_pos h3]
          · rw [if_neg h3]
            have hn := hn.resolve_left h3
            have : attX al (l.dropWhile whX) m = .error 5 := by
              unfold attX
              have hx : nameX ((l.dropWhile whX).takeWhile latX) = false := by
                cases hx : nameX ((l.dropWhile whX).takeWhile latX) with
                | false => rfl
                | true =>
                  rw [nm_eq, hx, if_pos rfl] at hn
                  exact absurd hn (name_ne hx)
              rw [hx]
              rfl
            rw [this]
    · rw [if_neg hn]
      rw [not_or] at hn
      obtain ⟨h3, hn⟩ := hn
      have h1 : preX [47, 62] (l.dropWhile whX) = false := by
        cases h : preX [47, 62] (l.dropWhile whX) with
        | false => rfl
        | true =>
          obtain ⟨r, e, _⟩ := pre_cons h
          rw [e] at hn
          exact absurd (nm_none lat_slash.1) hn
      have h2 : preX [62] (l.dropWhile whX) = false := by
        cases h : preX [62] (l.dropWhile whX) with
        | false => rfl
        | true =>
          obtain ⟨r, e, _⟩ := pre_cons h
          rw [e] at hn
          exact absurd (nm_none lat_slash.2.1) hn
      rw [h1, h2]
      simp only [Bool.false_eq_true, if_false]
      rw [if_neg h3]
      cases ha : attX al (l.dropWhile whX) m with
      | error e => rfl
      | ok q =>
        obtain ⟨a, l2, m2⟩ := q
        exact ats_at f _ _ _
/-- What is told of attributes. -/
def AtPost (l : List UInt8) (m R : Nat) (w : World) (e : Ending) (w' : World) : Prop := w.grownBy w' (some R) ∧
  ((∃ al r m2 A c, atW l m = .ok (al, r, m2) ∧ e = .returned (.tuple #[.slice A al.length c, .int .i64 0]) ∧ HdsP (fun q => w.heap.size ≤ q) w' A al ∧ Rd w' R r m2 ∧ r <:+ l ∧ m2 ≤ 4096) ∨
   (∃ er : Nat, atW l m = .error er ∧ (er = 3 ∨ er = 5) ∧ e = .returned (.tuple #[.slice none 0 0, .int .i64 er])))
/-- attributes does what it is to. -/
def AtOk : Prop := ∀ (l : List UInt8) (m R : Nat) (w : World), l.length ≤ 65536 → (13 : UInt8) ∉ l → m ≤ 4096 → 7 < R → TabE w → Rd w R l m →
  Calls Tryz.prog 87 #[.pointer (some ⟨R, 0, none⟩)] w (AtPost l m R w)
/-! How an element is read, step by step. -/
theorem el_a {d lev : Nat} {l : List UInt8} {m : Nat} (h : preX [60] l = false) : elX d lev l m = .error 5 := by
  apply el_err
  unfold opX
  split
  · rename_i r; simp [preX] at h
  · rfl
theorem el_b' {d lev : Nat} {r : List UInt8} {m : Nat} (h : nmX r = []) : elX d lev (60 :: r) m = .error 5 := by
  apply el_err
  unfold opX
  have hx : nameX (r.takeWhile latX) = false := by
    cases hx : nameX (r.takeWhile latX) with
    | false => rfl
    | true => rw [nm_eq, hx, if_pos rfl] at h; exact absurd h (name_ne hx)
  simp [hx]
theorem nm_some {r : List UInt8} (h : nmX r ≠ []) : nameX (r.takeWhile latX) = true ∧ nmX r = r.takeWhile latX ∧ nrX r = r.dropWhile latX := by
  rw [nm_eq] at h
  cases hx : nameX (r.takeWhile latX) with
  | false => rw [hx] at h; simp at h
  | true => rw [nm_eq, nr_eq, hx]; exact ⟨rfl, rfl, rfl⟩
theorem el_c {d : Nat} {r : List UInt8} {m : Nat} (h : nmX r ≠ []) : elX d 0 (60 :: r) m = .error 9 := by
  apply el_err
  unfold opX
  simp [(nm_some h).1]
theorem el_d {d lev : Nat} {r : List UInt8} {m : Nat} (h : nmX r ≠ []) (hl : lev ≠ 0) (hm : ¬ m + 1 ≤ 4096) : elX d lev (60 :: r) m = .error 3 := by
  apply el_err
  unfold opX
  simp [(nm_some h).1, hl]
  omega
theorem op_at {lev : Nat} {r : List UInt8} {m : Nat} (h : nmX r ≠ []) (hl : lev ≠ 0) (hm : m + 1 ≤ 4096) : opX lev (60 :: r) m = (match atW (nrX r) (m + 1) with
    | .error e => .error e
    | .ok (as2, r2, m2) => if preX [47, 62] r2 then .ok (nmX r, as2, true, r2.drop 2, m2) else if preX [62] r2 then .ok (nmX r, as2, false, r2.drop 1, m2) else .error 5) := by
  obtain ⟨h1, h2, h3⟩ := nm_some h
  unfold opX
  simp only [h1, Bool.not_true, Bool.false_eq_true, if_false]
  rw [if_neg hl, if_neg (by omega), ats_at, ← h3, ← h2]
  unfold atW
  cases atC ((nrX r).length + 1) [] (nrX r) (m + 1) with
  | error e => rfl
  | ok q =>
    obtain ⟨as2, r2, m2⟩ := q
    simp only
    split
    · rename_i h
      split at h
      · cases h
      · split at h
        · cases h
        · injection h with h; subst h
          rename_i h4 h5
          rw [if_neg h4, if_neg h5]
    · rename_i h
      split at h
      · rename_i h4
        rw [if_pos h4]
        injection h with h
        injection h with e1 e2
        injection e2 with e2 e3
        injection e3 with e3 e4
        subst e1 e2 e3 e4
        rfl
      · rename_i h4
        rw [if_neg h4]
        split at h
        · rename_i h5
          rw [if_pos h5]
          injection h with h
          injection h with e1 e2
          injection e2 with e2 e3
          injection e3 with e3 e4
          subst e1 e2 e3 e4
          rfl
        · cases h
theorem el_e {d lev : Nat} {r : List UInt8} {m er : Nat} (h : nmX r ≠ []) (hl : lev ≠ 0) (hm : m + 1 ≤ 4096) (ha : atW (nrX r) (m + 1) = .error er) : elX d lev (60 :: r) m = .error er := by
  apply el_err
  rw [op_at h hl hm, ha]
theorem el_f {d lev : Nat} {r : List UInt8} {m : Nat} {al : List HdV} {r2 : List UInt8} {m2 : Nat} (h : nmX r ≠ []) (hl : lev ≠ 0) (hm : m + 1 ≤ 4096) (ha : atW (nrX r) (m + 1) = .ok (al, r2, m2)) (hp : preX [47, 62] r2 = true) : elX d lev (60 :: r) m = .ok (leaf d (nmX r, al, []), r2.drop 2, m2) := by
  have ho := op_at h hl hm
  rw [ha] at ho
  simp only at ho
  rw [if_pos hp] at ho
  cases d with
  | zero => unfold elX; rw [ho]; rfl
  | succ d => unfold elX; rw [ho]; rfl
theorem el_g {d lev : Nat} {r : List UInt8} {m : Nat} {al : List HdV} {r2 : List UInt8} {m2 : Nat} (h : nmX r ≠ []) (hl : lev ≠ 0) (hm : m + 1 ≤ 4096) (ha : atW (nrX r) (m + 1) = .ok (al, r2, m2)) (hp : preX [47, 62] r2 = false) (hq : preX [62] r2 = false) : elX d lev (60 :: r) m = .error 5 := by
  apply el_err
  rw [op_at h hl hm, ha]
  simp only
  rw [hp, hq]
  rfl
theorem el_h {d lev : Nat} {r : List UInt8} {m : Nat} {al : List HdV} {r2 : List UInt8} {m2 : Nat} (h : nmX r ≠ []) (hl : lev ≠ 0) (hm : m + 1 ≤ 4096) (ha : atW (nrX r) (m + 1) = .ok (al, r2, m2)) (hp : preX [47, 62] r2 = false) (hq : preX [62] r2 = true) : elX (d + 1) lev (60 :: r) m = (match kidW d (elX d (lev - 1)) [] (r2.drop 1) m2 with
    | .error e => .error e
    | .ok (ks, l3, m3) => (match endX (nmX r) l3 with
      | none => .error 5
      | some b => .ok (((nmX r, al, []), ks), b, m3))) := by
  have ho := op_at h hl hm
  rw [ha] at ho
  simp only at ho
  rw [if_neg (by rw [hp]; simp), if_pos hq] at ho
  have hm3 := (op_sh ho).2.2.1
  unfold elX
  rw [ho]
  simp only
  have e : kidX d (elX d (lev - 1)) ((r2.drop 1).length + 1) [] (r2.drop 1) m2 = kidW d (elX d (lev - 1)) [] (r2.drop 1) m2 := rfl
  rw [e]
  cases hk : kidW d (elX d (lev - 1)) [] (r2.drop 1) m2 with
  | error e => rfl
  | ok q =>
    obtain ⟨ks, l3, m3⟩ := q
    have hp3 := (kid_sh (el_sh d (lev - 1)) _ _ _ _ _ _ _ hm3 hk).2.2
    have hnm : nameX (nmX r) = true := by rw [(nm_some h).2.1]; exact (nm_some h).1
    simp only
    rw [end_cl _ _ hnm hp3]
    cases clX (nmX r) l3 <;> rfl
/-- How things stand while an element is read. -/
structure ES (R g4 g6 : Nat) (w : World) (cs4 cs6 : Array Value) (l : List UInt8) (m : Nat) (X : World) : Prop where
  rd : Rd X R l m
  to : w.grownBy X (some R)
  r4 : X.heap[g4]? = some (.cells cs4 25 (0, 0))
  r6 : X.heap[g6]? = some (.cells cs6 25 (0, 0))
theorem ES.call {R g4 g6 : Nat} {w : World} {cs4 cs6 : Array Value} {l l2 : List UInt8} {m m2 : Nat} {X Y : World} (h : ES R g4 g6 w cs4 cs6 l m X) (h4 : R ≠ g4) (h6 : R ≠ g6) (hg : X.grownBy Y (some R)) (hr : Rd Y R l2 m2) : ES R g4 g6 w cs4 cs6 l2 m2 Y :=
  ⟨hr, h.to.trans hg, to_row hg h.r4 (Ne.symm h4), to_row hg h.r6 (Ne.symm h6)⟩
theorem ES.put6 {R g4 g6 : Nat} {w : World} {cs4 cs6 cs6' : Array Value} {l : List UInt8} {m : Nat} {X Y : World} (h : ES R g4 g6 w cs4 cs6 l m X) (h6 : R ≠ g6) (h46 : g4 ≠ g6) (hw : w.heap.size ≤ g6) (ho : Only g6 X Y) (hr : Y.heap[g6]? = some (.cells cs6' 25 (0, 0))) : ES R g4 g6 w cs4 cs6' l m Y :=
  ⟨(ho.block R h6).trans h.rd, grown_own h.to (to_only ho) (fun q hq => by injection hq with hq; omega), (ho.block g4 h46).trans h.r4, hr⟩
theorem atC_sh : ∀ (f : Nat) (al : List HdV) (l : List UInt8) (m : Nat) (as2 : List HdV) (r : List UInt8) (m2 : Nat), atC f al l m = .ok (as2, r, m2) → m ≤ 4096 → r <:+ l ∧ m2 ≤ 4096
  | 0, al, l, m, as2, r, m2, h, _ => by simp [atC] at h
  | f + 1, al, l, m, as2, r, m2, h, hm => by
    rw [atC] at h
    split at h
    · injection h with h
      injection h with h1 h2
      injection h2 with h2 h3
      subst h2 h3
      exact ⟨dw_suf _ _, hm⟩
    · split at h
      · cases h
      · rename_i a la ma ha
        obtain ⟨h1, rfl, h3⟩ := att_sh ha
        obtain ⟨k1, k2⟩ := atC_sh f _ _ _ _ _ _ h h3
        exact ⟨k1.trans (h1.1.trans (dw_suf _ _)), k2⟩
theorem at_sh {l : List UInt8} {m : Nat} {al : List HdV} {r : List UInt8} {m2 : Nat} (h : atW l m = .ok (al, r, m2)) (hm : m ≤ 4096) : r <:+ l ∧ m2 ≤ 4096 := atC_sh _ _ _ _ _ _ _ h hm
end Go.Proofs.YthjibliaofmlhaaGreatDoor
