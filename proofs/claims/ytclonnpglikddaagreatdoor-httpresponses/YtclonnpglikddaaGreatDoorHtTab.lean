
/- What of the library's variables is read: MaxLen, the table of powers of ten, its two errors. -/
import Derived.Test.YtclonnpglikddaaGreatDoorRows
import Derived.Test.YtclonnpglikddaaGreatDoorDown
import Derived.Test.YtclonnpglikddaaGreatDoorHdRead
import Derived.Lib.SmallJoins
import Derived.Shelf.Strconv.Itoa3
import Derived.Lib.ItoaNum
import Derived.Lib.AppendIntMem
namespace Go.Proofs.YtclonnpglikddaaGreatDoor
set_option linter.unusedVariables false
set_option linter.unusedSimpArgs false
open Go.RowKit Go.BigFrame

/-- The name of the table of powers of ten. -/
def pow8 : String := (Rows.httpAsksRow.laid.map (·.1)).getD 2 default
theorem pow8_at : Tryz.prog.globalNamed pow8 = some 1 := by kernel_rfl
structure TabC (w : World) : Prop where
  tab : TabS w
  big : 7 < w.heap.size
  pow : Lib.TabIs Tryz.prog w pow8 .u64 Lib.pow10Tab
  syn : ∃ te pe, w.cell? ⟨2, 0, none⟩ = some (.iface te pe)
  rng : ∃ te pe, w.cell? ⟨3, 0, none⟩ = some (.iface te pe)
theorem TabC.below {w w' : World} (h : TabC w) (hb : Below w.heap.size w w') : TabC w' := by
  have hlt := h.big
  obtain ⟨te, pe, hs⟩ := h.syn
  obtain ⟨t2, p2, hr⟩ := h.rng
  exact ⟨h.tab.below hb, by have := hb.size; omega, Joins.tab_stays pow8_at h.pow hb (by omega), ⟨te, pe, by rw [hb.cell (p := ⟨2, 0, none⟩) (by simp; omega)]; exact hs⟩, ⟨t2, p2, by rw [hb.cell (p := ⟨3, 0, none⟩) (by simp; omega)]; exact hr⟩⟩
theorem itoa_dec (n : Nat) : Lib.itoa (n : Int) = Lib.decDigits n := by
  unfold Lib.itoa
  rw [if_neg (by omega)]
  rfl
theorem itoa8 (n : Nat) (hn : n ≤ 1000000) (w : World) (h : TabC w) : Calls Tryz.prog 42 #[.int .i64 (n : Int)] w fun e w' => e = .returned (.string (asS (Lib.decDigits n))) ∧ Below w.heap.size w w' := by
  refine (Any.strconv_Itoa Tryz.laysM171 (n : Int) (by omega) (by omega) w h.pow).mono ?_
  rintro e w' ⟨rfl, k, os, rfl⟩
  exact ⟨by rw [itoa_dec]; rfl, Lib.below_grow _ w (Nat.le_refl _) k os⟩
end Go.Proofs.YtclonnpglikddaaGreatDoor
