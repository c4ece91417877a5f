
/- Bytes and headers that lie in new blocks. -/
import Derived.Test.YtclonnpglikddaaGreatDoorHtMsg
namespace Go.Proofs.YtclonnpglikddaaGreatDoor
set_option linter.unusedVariables false
set_option linter.unusedSimpArgs false
open Go.RowKit Go.BigFrame

/-- The headers l are answered so, in blocks from b on. -/
def HdsN (w : World) (b : Nat) (v : Value) (l : List HdV) : Prop := ∃ A c, v = .slice A l.length c ∧ HdsAt w A l ∧ ∀ g, g < b → NotIn A g
def BtN (w : World) (b : Nat) (v : Value) (l : List UInt8) : Prop := ∃ A c, v = .slice A l.length c ∧ BytesAt w A l ∧ (l.length = 0 → A = none ∧ c = 0 ∨ ∃ x, A = some x) ∧ ∀ g, g < b → NotIn A g
theorem HdsN.nil (w : World) (b : Nat) : HdsN w b (.slice none 0 0) [] := ⟨none, 0, rfl, fun h => absurd h (by simp), fun g _ x hx => by cases hx⟩
theorem BtN.nil (w : World) (b : Nat) : BtN w b (.slice none 0 0) [] := ⟨none, 0, rfl, fun h => absurd h (by simp), fun _ => .inl ⟨rfl, rfl⟩, fun g _ x hx => by cases hx⟩
end Go.Proofs.YtclonnpglikddaaGreatDoor
