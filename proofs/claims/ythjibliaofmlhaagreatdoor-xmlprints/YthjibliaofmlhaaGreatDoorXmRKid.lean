
/- The reference's reader: kids, one by one; what say does to them. -/
import Derived.Test.YthjibliaofmlhaaGreatDoorXmRReader
namespace Go.Proofs.YthjibliaofmlhaaGreatDoor
set_option linter.unusedVariables false
set_option linter.unusedSimpArgs false
open Go.RowKit Go.BigFrame

/-- How many bytes the text has that the kids end with. -/
def ltT (d : Nat) (ks : List (Tr d)) : Nat := match ks.getLast? with
  | some k => if (nmT d k).isEmpty then (txT d k).length else 0
  | none => 0
/-- A text that the kids end with has nothing else. -/
def TxtLast (d : Nat) (ks : List (Tr d)) : Prop := ∀ k, ks.getLast? = some k → nmT d k = [] → k = leaf d ([], [], txT d k)
theorem nm_leaf (d : Nat) (x : List UInt8) : nmT d (leaf d ([], [], x)) = [] ∧ txT d (leaf d ([], [], x)) = x := by
  unfold nmT txT
  rw [(leaf_parts d _).1]
  exact ⟨rfl, rfl⟩
theorem TxtLast.text (d : Nat) (k0 : List (Tr d)) (x : List UInt8) : TxtLast d (k0 ++ [leaf d ([], [], x)]) := by
  intro k hk hn
  simp at hk
  subst hk
  rw [(nm_leaf d x).2]
theorem ltT_text (d : Nat) (k0 : List (Tr d)) (x : List UInt8) : ltT d (k0 ++ [leaf d ([], [], x)]) = x.length := by
  unfold ltT
  simp [(nm_leaf d x).1, (nm_leaf d x).2]
theorem TxtLast.elem {d : Nat} {k0 : List (Tr d)} {t : Tr d} (h : (nmT d t).isEmpty = false) : TxtLast d (k0 ++ [t]) ∧ ltT d (k0 ++ [t]) = 0 := by
  constructor
  · intro k hk hn
    simp at hk
    subst hk
    rw [hn] at h
    cases h
  · unfold ltT
    simp [h]
/-- Below B all is as it was, but block R. -/
structure FarR (B R : Nat) (w w' : World) : Prop where
  os : w'.os = w.os
  tape : w'.tape = w.tape
  output : w'.output = w.output
  size : B ≤ w'.heap.size
  block : ∀ q, q < B → q ≠ R → w'.heap[q]? = w.heap[q]?
def cutW (w : World) (B : Nat) : World := { w with heap := w.heap.extract 0 B }
theorem cutW_size {w : World} {B : Nat} (h : B ≤ w.heap.size) : (cutW w B).heap.size = B := by
  unfold cutW
  simp
  omega
theorem cutW_at {w : World} {B q : Nat} (h : q < B) : (cutW w B).heap[q]? = w.heap[q]? := by
  unfold cutW
  simp only [Array.getElem?_extract]
  simp
  intro h1
  omega
theorem cutW_to {w : World} {B R : Nat} (h : B ≤ w.heap.size) : (cutW w B).grownBy w (some R) :=
  ⟨rfl, rfl, rfl, by rw [cutW_size h]; exact h, fun q hq _ => by rw [cutW_size h] at hq; exact (cutW_at hq).symm⟩
theorem FarR.of_cut {w w' : World} {B R : Nat} (h : B ≤ w.heap.size) (hg : (cutW w B).grownBy w' (some R)) : FarR B R w w' :=
  ⟨hg.os, hg.tape, hg.output, by have := hg.size; rw [cutW_size h] at this; exact this, fun q hq hne => by
    rw [hg.block q (by rw [cutW_size h]; exact hq) (fun e => hne (by injection e)), cutW_at hq]⟩
theorem FarR.of_to {w w' : World} {B R : Nat} (hB : B ≤ w.heap.size) (hg : w.grownBy w' (some R)) : FarR B R w w' :=
  ⟨hg.os, hg.tape, hg.output, Nat.le_trans hB hg.size, fun q hq hne => hg.block q (by omega) (fun e => hne (by injection e))⟩
theorem FarR.of_only {w w' : World} {B R g : Nat} (hB : B ≤ w.heap.size) (hg : B ≤ g) (ho : Only g w w') : FarR B R w w' :=
  ⟨(to_only (R := g) ho).os, (to_only (R := g) ho).tape, (to_only (R := g) ho).output, by rw [ho.size]; exact hB, fun q hq _ => ho.block q (by omega)⟩
theorem FarR.to {w0 w w' : World} {B R : Nat} (h : FarR B R w w') (h0 : w0.grownBy w (some R)) (hB : w0.heap.size ≤ B) : w0.grownBy w' (some R) :=
  ⟨h.os.trans h0.os, h.tape.trans h0.tape, h.output.trans h0.output, Nat.le_trans hB h.size, fun q hq hne => (h.block q (by omega) (fun e => hne (by rw [e]))).trans (h0.block q hq hne)⟩
theorem say_nil {d : Nat} {ks : List (Tr d)} {m : Nat} : sayX d ks [] m = .ok (ks, m) := rfl
theorem say_add {d : Nat} {k0 : List (Tr d)} {x s : List UInt8} {m : Nat} (hs : s ≠ []) : sayX d (k0 ++ [leaf d ([], [], x)]) s m = .ok (k0 ++ [leaf d ([], [], x ++ s)], m) := by
  unfold sayX
  rw [if_neg (by simpa using hs)]
  simp [(nm_leaf d x).1, (nm_leaf d x).2]
theorem say_new {d : Nat} {ks : List (Tr d)} {s : List UInt8} {m : Nat} (hs : s ≠ []) (hl : ∀ k, ks.getLast? = some k → nmT d k ≠ []) : sayX d ks s m = if m + 1 ≤ 4096 then .ok (ks ++ [leaf d ([], [], s)], m + 1) else .error 3 := by
  unfold sayX
  rw [if_neg (by simpa using hs)]
  cases hk : ks.getLast? with
  | none =>
    have : ks = [] := List.getLast?_eq_none_iff.1 hk
    subst this
    rfl
  | some k =>
    simp only
    rw [if_neg (by simpa using hl k hk)]
/-- What is told of kids behind a text. -/
structure Said (d : Nat) (ks : List (Tr d)) (s : List UInt8) (m : Nat) (src : List UInt8) (p R B : Nat) (w : World) (v' : Value) (ks' : List (Tr d)) (m' e' : Nat) (w' : World) : Prop where
  own : OwnN (fun q => B ≤ q) w' d v' ks'
  rr : Rr w' R src p m' e'
  far : FarR B R w w'
  says : (e' = 0 ∧ sayX d ks s m = .ok (ks', m') ∧ m' ≤ 4096 ∧ TxtLast d ks' ∧ ks'.length ≤ ks.length + (if s = [] then 0 else 1) ∧ ltT d ks' ≤ ltT d ks + s.length) ∨ (e' = 3 ∧ sayX d ks s m = .error 3)
theorem sayR_all (d : Nat) (ks : List (Tr d)) (src s : List UInt8) (p m : Nat) (hm : m ≤ 4096) (hk : ks.length ≤ 100000) (hx : ltT d ks + s.length ≤ 1000000) (hT : TxtLast d ks) (v : Value) (R B : Nat) (w : World) (hRB : R < B) (hB : B ≤ w.heap.size) (hr : Rr w R src p m 0) (h : OwnN (fun q => B ≤ q) w d v ks) :
    Calls Tryz.prog 69 #[.pointer (some ⟨R, 0, none⟩), v, .string (asS s)] w fun x w' => ∃ v', x = .returned v' ∧ ∃ ks' m' e', Said d ks s m src p R B w v' ks' m' e' w' := by
  by_cases hs : s = []
  · subst hs
    refine (sayR_nil v R w).mono ?_
    rintro x w' ⟨rfl, rfl⟩
    exact ⟨v, rfl, ks, m, 0, h, hr, ⟨rfl, rfl, rfl, hB, fun _ _ _ => rfl⟩, .inl ⟨rfl, rfl, hm, hT, by simp, by simp⟩⟩
  · by_cases hl : ∀ k, ks.getLast? = some k → nmT d k ≠ []
    · have hc := cutW_to (R := R) hB
      refine (sayR_new d ks src s p m 0 hs hk (by omega) hl v R B w hRB hB hr h).mono ?_
      rintro x w' ⟨v', rfl, h1, h2, h3⟩
      have hg := h3 _ (cutW_size hB) hc
      by_cases h4 : m + 1 ≤ 4096
      · rw [if_pos h4] at h2
        refine ⟨v', rfl, _, _, _, h1, h2, FarR.of_cut hB hg, .inl ⟨rfl, by rw [say_new hs hl, if_pos h4], h4, TxtLast.text d _ _, by simp [hs], by rw [ltT_text]; omega⟩⟩
      · rw [if_neg h4] at h2
        refine ⟨v', rfl, _, _, _, h1, h2, FarR.of_cut hB hg, .inr ⟨rfl, by rw [say_new hs hl, if_neg h4]⟩⟩
    · obtain ⟨k, hk1, hk2⟩ : ∃ k, ks.getLast? = some k ∧ nmT d k = [] := by
        simpa using hl
      have hk3 := hT k hk1 hk2
      obtain ⟨k0, rfl⟩ := List.getLast?_eq_some_iff.1 hk1
      rw [hk3] at h hx hk ⊢
      rw [ltT_text] at hx
      generalize txT d k = x at *
      refine (sayR_add d k0 x s hs (by simp at hk; omega) hx _ v R w h).mono ?_
      rintro e w' ⟨rfl, h1, g, hg, ho⟩
      have hg' : B ≤ g := hg
      refine ⟨v, rfl, _, m, 0, h1, (ho.block R (by omega)).trans hr, FarR.of_only hB hg' ho, .inl ⟨rfl, say_add hs, hm, TxtLast.text d _ _, by simp, by rw [ltT_text, ltT_text]; simp⟩⟩
end Go.Proofs.YthjibliaofmlhaaGreatDoor
