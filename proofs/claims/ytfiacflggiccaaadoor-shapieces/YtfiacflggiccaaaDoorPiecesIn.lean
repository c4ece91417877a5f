/- Pieces that came in, laid open. -/
import Derived.Test.YtfiacflggiccaaaDoorPieces
namespace Go.Proofs.YtfiacflggiccaaaDoor
open Go.RowKit

theorem rows_pieces {w : World} {a : Addr} {base len cap : Nat} {A : Nat → Option Addr} {L C : Nat → Nat} {Z : Nat → List Int} (h0 : 0 < w.heap.size) (hl : len ≤ cap)
    (hrow : ∀ r, r < cap → w.cell? (a.add r) = some (.slice (A r) (L r) (C r)) ∧ L r ≤ C r ∧ C r ≤ maxLen ∧ (Z r).length = C r ∧ (∀ n ∈ Z r, (Lit.int .u8 n).wf = true) ∧ (A r = none → C r = 0) ∧
        ∀ a', A r = some a' → base ≤ a'.block ∧ ∀ c, c < C r → w.cell? (a'.add c) = some (.int .u8 ((Z r).getD c 0))) : ∃ P, PiecesAt w (some a) len A C P := by
  have each : ∀ r, ∃ l : List UInt8, r < cap → l.length = L r ∧ L r ≤ C r ∧ BytesAt w (A r) l := fun r => by
    by_cases hr : r < cap
    · obtain ⟨_, h2, h3, h4, h5, h6, h7⟩ := hrow r hr
      have hrw : IsRow .u8 w (A r) (L r) (C r) (Z r) := by
        cases hA : A r with
        | none =>
          have hc := h6 hA
          exact .inl ⟨rfl, by omega, hc, List.length_eq_zero_iff.1 (by omega)⟩
        | some x => exact .inr ⟨x, rfl, h2, h3, h4, fun i hi => (h7 x hA).2 i (by omega), h5⟩
      obtain ⟨l, e1, e2, e3⟩ := row_at hrw h0
      exact ⟨l, fun _ => ⟨e1, e2, e3⟩⟩
    · exact ⟨[], fun h => absurd h hr⟩
  refine ⟨fun r => Classical.choose (each r), fun hp => ?_⟩
  have hc0 := (hrow 0 (by omega)).1
  have hx0 : a.add 0 = a := by unfold Addr.add; simp
  rw [hx0] at hc0
  obtain ⟨q, o, sp⟩ := a
  obtain rfl := cell_spot hc0
  refine ⟨q, o, rfl, block_lt_of_cell hc0, fun i hi => ?_⟩
  obtain ⟨h1, h2, h3, _⟩ := hrow i (by omega)
  obtain ⟨e1, e2, e3⟩ := Classical.choose_spec (each i) (by omega)
  rw [Addr.add_mid] at h1
  exact ⟨by rw [e1]; exact h1, by rw [e1]; exact e2, h3, e3⟩

end Go.Proofs.YtfiacflggiccaaaDoor
