
/- No text of a tree that is read is longer than its file (no program in it). -/
import Derived.Test.YthjibliaofmlhaaGreatDoorXmREl
import Derived.Test.YthjibliaofmlhaaGreatDoorXmFile
namespace Go.Proofs.YthjibliaofmlhaaGreatDoor
set_option linter.unusedVariables false
set_option linter.unusedSimpArgs false

/-- A node's texts are of N bytes at most. -/
def TopL (N : Nat) (l : Lab) : Prop := l.2.2.length ≤ N ∧ ∀ a ∈ l.2.1, a.value.length ≤ N
def LeT (N : Nat) : (d : Nat) → Tr d → Prop
  | 0, t => TopL N t
  | d + 1, t => TopL N t.1 ∧ ∀ k ∈ t.2, LeT N d k
theorem LeT.top {N : Nat} : {d : Nat} → {t : Tr d} → LeT N d t → TopL N (lab d t)
  | 0, _, h => h
  | _ + 1, _, h => h.1
theorem LeT.mono {N M : Nat} (hNM : N ≤ M) : {d : Nat} → {t : Tr d} → LeT N d t → LeT M d t
  | 0, _, h => ⟨Nat.le_trans h.1 hNM, fun a ha => Nat.le_trans (h.2 a ha) hNM⟩
  | _ + 1, _, h => ⟨⟨Nat.le_trans h.1.1 hNM, fun a ha => Nat.le_trans (h.1.2 a ha) hNM⟩, fun k hk => LeT.mono hNM (h.2 k hk)⟩
theorem catB (x y : List UInt8) (h : x.length + y.length ≤ 10000000000000) : ¬ (9223372036854775807 < (asS x).size + (asS y).size) := by rw [asS_size, asS_size]; omega
end Go.Proofs.YthjibliaofmlhaaGreatDoor
