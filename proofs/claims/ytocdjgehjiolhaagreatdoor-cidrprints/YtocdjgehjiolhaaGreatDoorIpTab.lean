
/- The library's tables that are read (powers of ten, the places of a bit), and its variable MaxLen: what stays of them. -/
import Derived.Test.YtocdjgehjiolhaaGreatDoorRows
import Derived.Test.YtocdjgehjiolhaaGreatDoorShelf
import Derived.Test.YtocdjgehjiolhaaGreatDoorIpNum
import Derived.Lib.SmallJoins
import Derived.Lib.AppendIntMem
namespace Go.Proofs.YtocdjgehjiolhaaGreatDoor
open Go.RowKit

/-- The name of the table of powers of ten. -/
def powName : String := (Rows.cidrPrintsRow.laid.map (·.1)).getD 2 default
def brBytes : List UInt8 := [0, 1, 56, 2, 57, 49, 28, 3, 61, 58, 42, 50, 38, 29, 17, 4, 62, 47, 59, 36, 45, 43, 51, 22, 53, 39, 33, 30, 24, 18, 12, 5, 63, 55, 48, 27, 60, 41, 37, 16, 46, 35, 44, 21, 52, 32, 23, 11, 54, 26, 40, 15, 34, 20, 31, 10, 25, 14, 19, 9, 13, 8, 7, 6]
structure TabS (w : World) : Prop where
  max : ∃ m, w.cell? ⟨0, 0, none⟩ = some (.int .i64 m)
  pow : Lib.TabIs Tryz.prog w powName .u64 Lib.pow10Tab
  bru : w.cell? ⟨5, 2, none⟩ = some (.int .u8 56) ∧ 5 < w.heap.size
theorem TabS.lt {w : World} (h : TabS w) : 5 < w.heap.size := h.bru.2
theorem pow_at : Tryz.prog.globalNamed powName = some 3 := by kernel_rfl
theorem TabS.below {w w' : World} (h : TabS w) (hb : Below w.heap.size w w') : TabS w' := by
  have hlt := h.lt
  obtain ⟨m, hm⟩ := h.max
  refine ⟨⟨m, ?_⟩, Joins.tab_stays pow_at h.pow hb (Nat.le_refl _), ?_, ?_⟩
  · rw [hb.cell (p := ⟨0, 0, none⟩) (by simp; omega)]; exact hm
  · rw [hb.cell (p := ⟨5, 2, none⟩) (by simp; omega)]; exact h.bru.1
  · have := hb.size; omega
theorem itoa_any (n : Nat) (hn : n ≤ 255) (w : World) (h : TabS w) : Calls Tryz.prog 11 #[.int .i64 n] w fun e w' => e = .returned (.string ⟨(Lib.itoa n).toArray⟩) ∧ Below w.heap.size w w' := by
  refine (Any.strconv_Itoa Tryz.laysM171 n (by omega) (by omega) w h.pow).mono ?_
  rintro e w' ⟨rfl, k, os, rfl⟩
  exact ⟨rfl, Lib.below_grow _ w (Nat.le_refl _) k os⟩
end Go.Proofs.YtocdjgehjiolhaaGreatDoor
