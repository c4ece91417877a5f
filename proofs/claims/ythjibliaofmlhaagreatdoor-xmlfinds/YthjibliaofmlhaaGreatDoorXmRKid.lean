
/- The reference's reader: kids, one by one; what say does to them. -/
import Derived.Test.YthjibliaofmlhaaGreatDoorXmRReader
namespace Go.Proofs.YthjibliaofmlhaaGreatDoor
set_option linter.unusedVariables false
set_option linter.unusedSimpArgs false
open Go.RowKit Go.BigFrame

/-- How many bytes the text has that the kids end with. -/
def ltT (d : Nat) (ks : List (Tr d)) : Nat := match ks.getLast? with
  | some k => if (nmT d k).isEmpty then (txT d k).length else 0
  | none => 0
/-- A text that the kids end with has nothing else. -/
def TxtLast (d : Nat) (ks : List (Tr d)) : Prop := ∀ k, ks.getLast? = some k → nmT d k = [] → k = leaf d ([], [], txT d k)
theorem nm_leaf (d : Nat) (x : List UInt8) : nmT d (leaf d ([], [], x)) = [] ∧ txT d (leaf d ([], [], x)) = x := by
  unfold nmT txT
  rw [(leaf_parts d _).1]
  exact ⟨rfl, rfl⟩
theorem TxtLast.text (d : Nat) (k0 : List (Tr d)) (x : List UInt8) : TxtLast d (k0 ++ [leaf d ([], [], x)]) := by
  intro k hk hn
  simp at hk
  subst hk
  rw [(nm_leaf d x).2]
theorem TxtLast.elem {d : Nat} {k0 : List (Tr d)} {t : Tr d} (h : (nmT d t).isEmpty = false) : TxtLast d (k0 ++ [t]) ∧ ltT d (k0 ++ [t]) = 0 := by
  constructor
  · intro k hk hn
    simp at hk
    subst hk
    rw [hn] at h
    cases h
  · unfold ltT
    simp [h]
/-- Below B all is as it was, but block R. -/
structure FarR (B R : Nat) (w w' : World) : Prop where
  os : w'.os = w.os
  tape : w'.tape = w.tape
  output : w'.output = w.output
  size : B ≤ w'.heap.size
  block : ∀ q, q < B → q ≠ R → w'.heap[q]? = w.heap[q]?
theorem FarR.to {w0 w w' : World} {B R : Nat} (h : FarR B R w w') (h0 : w0.grownBy w (some R)) (hB : w0.heap.size ≤ B) : w0.grownBy w' (some R) :=
  ⟨h.os.trans h0.os, h.tape.trans h0.tape, h.output.trans h0.output, Nat.le_trans hB h.size, fun q hq hne => (h.block q (by omega) (fun e => hne (by rw [e]))).trans (h0.block q hq hne)⟩
/-- What is told of kids behind a text. -/
structure Said (d : Nat) (ks : List (Tr d)) (s : List UInt8) (m : Nat) (src : List UInt8) (p R B : Nat) (w : World) (v' : Value) (ks' : List (Tr d)) (m' e' : Nat) (w' : World) : Prop where
  own : OwnN (fun q => B ≤ q) w' d v' ks'
  rr : Rr w' R src p m' e'
  far : FarR B R w w'
  says : (e' = 0 ∧ sayX d ks s m = .ok (ks', m') ∧ m' ≤ 4096 ∧ TxtLast d ks' ∧ ks'.length ≤ ks.length + (if s = [] then 0 else 1) ∧ ltT d ks' ≤ ltT d ks + s.length) ∨ (e' = 3 ∧ sayX d ks s m = .error 3)
end Go.Proofs.YthjibliaofmlhaaGreatDoor
