
/- From a row's list to the library's tables; the witness's world. -/
import Derived.Test.YtggjblnbjigjmaaDoorRows
import Derived.Test.YtggjblnbjigjmaaDoorIpTab
import Derived.Lib.LaidU8
import Derived.Lib.LaidU8T
namespace Go.Proofs.YtggjblnbjigjmaaDoor
open Go.RowKit Go.Lib
set_option maxRecDepth 100000

theorem own : ownKnob Tryd.prog.godebug = none := by kernel_rfl
theorem laidOut : laidOutB Tryd.prog = true := by kernel_rfl
def bru64 : List Int := brBytes.map fun c => (c.toNat : Int)
theorem pow_eq : (Rows.laid_internal_strconv_uint64pow10 : DataW Unit) = tabData .u64 pow10Tab := by kernel_rfl
theorem bru_eq : (Rows.laid_math_bits_deBruijn64tab : DataW Unit) = tabData .u8 bru64 := by kernel_rfl
theorem max_any (w : World) (h : w.ShapedOpen Tryd.prog) : ∃ m, w.cell? ⟨0, 0, none⟩ = some (.int .i64 m) := Go.Proofs.cell_of_shapedOpen_int (zero := #[.int .i64 0]) (t := 3) h (of_decide_eq_true (by kernel_rfl)) (by kernel_rfl) rfl (by kernel_rfl) (by kernel_rfl) Tryd.underlying3
/-- The name of the table of places. -/
def bruName : String := (Rows.ipParsesRow.laid.map (·.1)).getD 1 default
theorem tables {W : World} (h' : laidMet Tryd.prog Rows.ipParsesRow.laid W) (hS : W.ShapedOpen Tryd.prog) : TabS W := by
  have h3 := Lib.laidMet.reads h' (.tail _ (.tail _ (.head _)))
  have h4 := Lib.laidMet.reads h' (.tail _ (.head _))
  rw [pow_eq] at h3
  rw [bru_eq] at h4
  have hb : W.cell? ⟨5, 2, none⟩ = some (.int .u8 56) := by
    obtain ⟨g, t, cs, fuel, p, hg, hty, hvar, hd⟩ := h4
    obtain rfl := Option.some.inj ((show Tryd.prog.globalNamed bruName = some 5 by kernel_rfl).symm.trans hg)
    obtain rfl := Option.some.inj ((show (Tryd.prog.globals[5]?).map (·.type) = some 125 by kernel_rfl).symm.trans hty)
    have hcs := cells_of_tab Tryd.underlying125 Tryd.underlying5 (by kernel_rfl) (by kernel_rfl) hd
    rw [World.var?_cell hg hvar 2, ← Array.getElem?_toList, hcs]
    rfl
  refine ⟨max_any W hS, ?_, hb, block_lt_of_cell hb⟩
  obtain ⟨g, t, cs, fuel, p, hg, hty, hvar, hd⟩ := h3
  obtain rfl := Option.some.inj (pow_at.symm.trans hg)
  obtain rfl := Option.some.inj ((show (Tryd.prog.globals[3]?).map (·.type) = some 119 by kernel_rfl).symm.trans hty)
  have hcs := cells_of_tab Tryd.underlying119 Tryd.underlying40 (by kernel_rfl) (by kernel_rfl) hd
  show W.var? Tryd.prog powName = _
  refine Eq.trans hvar ?_
  rw [← hcs]
def putCells (cs : Array Value) : Obj → Obj
  | .cells _ t frozen => .cells cs t frozen
  | o => o
def br32 : List UInt8 := [0, 1, 28, 2, 29, 14, 24, 3, 30, 22, 20, 15, 25, 17, 4, 8, 31, 27, 13, 23, 21, 19, 16, 7, 26, 12, 18, 6, 11, 5, 10, 9]
/-- A world with the tables as the library lays them: for the witness. -/
def layTables (w : World) : World :=
  { w with heap := ((((w.heap.modify 1 (putCells (Lib.firstTab.map fun z => Value.int .u8 z).toArray)).modify 2 (putCells ((List.range 16).flatMap fun i => [Value.int .u8 (Lib.accLo i), Value.int .u8 (Lib.accHi i)]).toArray)).modify 3 (putCells (pow10Tab.map fun z => Value.int .u64 z).toArray)).modify 4 (putCells (br32.map fun c => Value.int .u8 c.toNat).toArray)).modify 5 (putCells (brBytes.map fun c => Value.int .u8 c.toNat).toArray) }
end Go.Proofs.YtggjblnbjigjmaaDoor
