
/- What ip.parseV4 does. -/
import Derived.Test.YtocdjgehjiolhaaIpLoo
import Derived.Test.YtocdjgehjiolhaaIpLast
import Derived.Test.YtocdjgehjiolhaaIpBook
namespace Go.Proofs.Ytocdjgehjiolhaa
open Go.RowKit

theorem part_at {w : World} {g N : Nat} {L : List ByteArray} {fr : Nat × Nat} (h : w.heap[g]? = some (.cells (Lib.cellsOf L N) 9 fr)) (j : Nat) (x : ByteArray) (hj : L[j]? = some x) : w.cell? ⟨g, j, none⟩ = some (.string x) := by
  rw [cell_of_row _ _ _ _ _ _ h]
  unfold Lib.cellsOf
  have hl := (List.getElem?_eq_some_iff.1 hj).1
  rw [List.getElem?_toArray, List.getElem?_append_left (by simpa using hl), List.getElem?_map, hj]
  rfl
theorem map_at {L : List ByteArray} {P : List (List UInt8)} (h : L.map (·.data.toList) = P) (j : Nat) (x : ByteArray) (hj : L[j]? = some x) : P.getD j [] = x.data.toList := by
  rw [← h, List.getD_eq_getElem?_getD, List.getElem?_map, hj]; rfl
/-- The answer of reading one of IPv4: its bytes, or none. -/
def ansB (o : Option (List UInt8)) : List UInt8 := o.getD (zer 16)
def ansE (o : Option (List UInt8)) : Int := if o.isSome then 0 else 5
def p4 (l : List UInt8) : Option (List UInt8) := if 0 ≤ four l then some (v4B (four l).toNat) else none
theorem stV_b8 (x : List UInt8) (h : okFour x = true) : ((stV x : Nat) : Int) = ((b8 (valB 10 x)).toNat : Int) := by
  rw [b8_toNat _ (okFour_num x h).2]; unfold stV; rw [if_pos h]
end Go.Proofs.Ytocdjgehjiolhaa
