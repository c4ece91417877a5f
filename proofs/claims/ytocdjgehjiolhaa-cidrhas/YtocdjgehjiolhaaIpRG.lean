
/- What ip.readGroups does. -/
import Derived.Test.YtocdjgehjiolhaaIpAwake
import Derived.Test.YtocdjgehjiolhaaIpBook
namespace Go.Proofs.Ytocdjgehjiolhaa
open Go.RowKit

theorem okH_G (x : List UInt8) : okH x = okG x := rfl
theorem okH_small (x : List UInt8) (h : okG x = true) : valB 16 x < 65536 := (okH_val x h).2
theorem rg_none (e : Bool) (Q : List (List UInt8)) (k j : Nat) (h : rgTo e Q k = none) : rgTo e Q (k + j) = none := by
  induction j with
  | zero => exact h
  | succ j ih => rw [← Nat.add_assoc, rgTo, ih]
theorem rg_group (e : Bool) (Q : List (List UInt8)) (k : Nat) (b x : List UInt8) (hx : Q.getD k [] = x) (h : rgTo e Q k = some b) (hn : ¬ (e = true ∧ k = Q.length - 1 ∧ (46 : UInt8) ∈ x)) : rgTo e Q (k + 1) = if okG x then some (b ++ [b8 (valB 16 x / 256), b8 (valB 16 x)]) else none := by
  rw [rgTo, h]
  simp only
  rw [hx, if_neg hn]; rfl
theorem rg_dots (e : Bool) (Q : List (List UInt8)) (k : Nat) (b x : List UInt8) (hx : Q.getD k [] = x) (h : rgTo e Q k = some b) (hn : e = true ∧ k = Q.length - 1 ∧ (46 : UInt8) ∈ x) : rgTo e Q (k + 1) = if 0 ≤ four x then some (b ++ (v4B (four x).toNat).drop 12) else none := by
  rw [rgTo, h]
  simp only
  rw [hx, if_pos hn]
theorem bytes_mid {w : World} {g : Nat} {v : Bool} {B : List UInt8} {fr : Nat × Nat} (h : w.heap[g]? = some (.cells (acs v B) 24 fr)) (hB : B.length = 16) : BytesAt w (some ⟨g, 13, none⟩) (B.drop 12) := fun h0 =>
  ⟨g, 13, rfl, (Array.getElem?_eq_some_iff.1 h).1, fun j hj => by
    rw [cell_of_row _ _ _ _ _ _ h]
    have hj2 : j < 4 := by simp [hB] at hj; omega
    have := acs_at v B (12 + j) (by omega)
    rw [show 13 + j = 12 + j + 1 from by omega, this]
    simp [List.getD_eq_getElem?_getD, List.getElem?_drop]⟩
end Go.Proofs.Ytocdjgehjiolhaa
