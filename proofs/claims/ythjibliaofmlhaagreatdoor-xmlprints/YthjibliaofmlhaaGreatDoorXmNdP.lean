
/- What Parse answers, as a tree and a number. -/
import Derived.Test.YthjibliaofmlhaaGreatDoorXmPar
import Derived.Test.YthjibliaofmlhaaGreatDoorXmSame
namespace Go.Proofs.YthjibliaofmlhaaGreatDoor
set_option linter.unusedVariables false
set_option linter.unusedSimpArgs false
open Go.RowKit Go.BigFrame
attribute [local go_sem ↓] loadN_eq

def eOf : Except Nat (Tr 40) → Nat
  | .ok _ => 0
  | .error e => e
def tOf : Except Nat (Tr 40) → Tr 40
  | .ok t => t
  | .error _ => leaf 40 ([], [], [])
theorem ParPost.node {V : Except Nat (Tr 40)} {w w' : World} {e : Ending} (h : ParPost V w e w') : Below w.heap.size w w' ∧ ∃ A B C D : Value, e = .returned (.tuple #[.agg #[A, B, C, D], .int .i64 (eOf V : Nat)]) ∧ NdAt (fun q => w.heap.size ≤ q) 40 w' #[A, B, C, D] (tOf V) ∧ A.oneCell' = true ∧ B.oneCell' = true ∧ C.oneCell' = true ∧ D.oneCell' = true := by
  obtain ⟨hb, ⟨t, cs, rfl, rfl, hn⟩ | ⟨er, rfl, her, rfl⟩⟩ := h
  · obtain ⟨aA, ac, kA, kc, hcs, _, _⟩ := hn.parts
    subst hcs
    exact ⟨hb, _, _, _, _, rfl, hn, rfl, rfl, rfl, rfl⟩
  · exact ⟨hb, _, _, _, _, rfl, NdAt.mk0 (l := ([], [], [])) ⟨fun h => absurd h (by simp), fun h => absurd h (by simp)⟩, rfl, rfl, rfl, rfl⟩
theorem fit_leaf (N : Nat) : FitN N 40 (leaf 40 ([], [], [])) := ⟨Nat.zero_le _, Nat.zero_le _, fun k hk => by cases hk⟩
theorem check_parts {d : Nat} {t : Tr d} (h : checkT d t = 0) : (nmT d t).isEmpty = false ∧ mayT d t = true ∧ deepT d t ≤ 16 ∧ manyT d t ≤ 4096 := by
  unfold checkT at h
  split at h
  · cases h
  · rename_i h1
    split at h
    · cases h
    · rename_i h2
      split at h
      · cases h
      · rename_i h3
        simp at h1
        exact ⟨by simpa using h1.1, h1.2, by omega, by omega⟩
theorem fit_par (s : List UInt8) : FitN 1000000 40 (tOf (parX s)) := by
  cases h : parX s with
  | error e => exact fit_leaf _
  | ok t =>
    obtain ⟨_, h1, _, h2⟩ := check_parts (par_may h)
    exact fit_may 1000000 40 t h1 (by omega)
set_option maxHeartbeats 1000000 in
set_option maxRecDepth 100000 in
theorem asS_back (a : ByteArray) : asS a.data.toList = a := by
  cases a
  simp [asS]
end Go.Proofs.YthjibliaofmlhaaGreatDoor
