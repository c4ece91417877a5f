
/- What Parse answers, as a tree and a number. -/
import Derived.Test.YthjibliaofmlhaaGreatDoorXmPar
import Derived.Test.YthjibliaofmlhaaGreatDoorXmSame
namespace Go.Proofs.YthjibliaofmlhaaGreatDoor
set_option linter.unusedVariables false
set_option linter.unusedSimpArgs false
open Go.RowKit Go.BigFrame
attribute [local go_sem ↓] loadN_eq

def eOf : Except Nat (Tr 40) → Nat
  | .ok _ => 0
  | .error e => e
def tOf : Except Nat (Tr 40) → Tr 40
  | .ok t => t
  | .error _ => leaf 40 ([], [], [])
theorem ParPost.node {V : Except Nat (Tr 40)} {w w' : World} {e : Ending} (h : ParPost V w e w') : Below w.heap.size w w' ∧ ∃ A B C D : Value, e = .returned (.tuple #[.agg #[A, B, C, D], .int .i64 (eOf V : Nat)]) ∧ NdAt (fun q => w.heap.size ≤ q) 40 w' #[A, B, C, D] (tOf V) ∧ A.oneCell' = true ∧ B.oneCell' = true ∧ C.oneCell' = true ∧ D.oneCell' = true := by
  obtain ⟨hb, ⟨t, cs, rfl, rfl, hn⟩ | ⟨er, rfl, her, rfl⟩⟩ := h
  · obtain ⟨aA, ac, kA, kc, hcs, _, _⟩ := hn.parts
    subst hcs
    exact ⟨hb, _, _, _, _, rfl, hn, rfl, rfl, rfl, rfl⟩
  · exact ⟨hb, _, _, _, _, rfl, NdAt.mk0 (l := ([], [], [])) ⟨fun h => absurd h (by simp), fun h => absurd h (by simp)⟩, rfl, rfl, rfl, rfl⟩
set_option maxHeartbeats 1000000 in
set_option maxRecDepth 100000 in
theorem asS_back (a : ByteArray) : asS a.data.toList = a := by
  cases a
  simp [asS]
end Go.Proofs.YthjibliaofmlhaaGreatDoor
