
/- From a row's list to the library's tables and its two errors; the witness's world. -/
import Derived.Test.YtocdjgehjiolhaaGreatDoorRows
import Derived.Test.YtocdjgehjiolhaaGreatDoorCiPar
import Derived.Stop.LaidErr
import Derived.Lib.LaidU8
import Derived.Lib.LaidU8T
namespace Go.Proofs.YtocdjgehjiolhaaGreatDoor
open Go.RowKit Go.Lib
set_option maxRecDepth 100000

theorem own : ownKnob Tryz.prog.godebug = none := by kernel_rfl
theorem laidOut : laidOutB Tryz.prog = true := by kernel_rfl
def bru64 : List Int := brBytes.map fun c => (c.toNat : Int)
theorem pow_eq : (Rows.laid_internal_strconv_uint64pow10 : DataW Unit) = tabData .u64 pow10Tab := by kernel_rfl
theorem bru_eq : (Rows.laid_math_bits_deBruijn64tab : DataW Unit) = tabData .u8 bru64 := by kernel_rfl
theorem max_any (w : World) (h : w.ShapedOpen Tryz.prog) : ∃ m, w.cell? ⟨0, 0, none⟩ = some (.int .i64 m) := Go.Proofs.cell_of_shapedOpen_int (zero := #[.int .i64 0]) (t := 3) h (of_decide_eq_true (by kernel_rfl)) (by kernel_rfl) rfl (by kernel_rfl) (by kernel_rfl) Tryz.underlying3
/-- The name of the table of places. -/
def bruName : String := (Rows.cidrPrintsRow.laid.map (·.1)).getD 1 default
theorem tablesS {W : World} (h' : laidMet Tryz.prog Rows.cidrPrintsRow.laid W) (hS : W.ShapedOpen Tryz.prog) : TabS W := by
  have h3 := Lib.laidMet.reads h' (.tail _ (.tail _ (.head _)))
  have h4 := Lib.laidMet.reads h' (.tail _ (.head _))
  rw [pow_eq] at h3
  rw [bru_eq] at h4
  have hb : W.cell? ⟨5, 2, none⟩ = some (.int .u8 56) := by
    obtain ⟨g, t, cs, fuel, p, hg, hty, hvar, hd⟩ := h4
    obtain rfl := Option.some.inj ((show Tryz.prog.globalNamed bruName = some 5 by kernel_rfl).symm.trans hg)
    obtain rfl := Option.some.inj ((show (Tryz.prog.globals[5]?).map (·.type) = some 150 by kernel_rfl).symm.trans hty)
    have hcs := cells_of_tab Tryz.underlying150 Tryz.underlying5 (by kernel_rfl) (by kernel_rfl) hd
    rw [World.var?_cell hg hvar 2, ← Array.getElem?_toList, hcs]
    rfl
  refine ⟨max_any W hS, ?_, hb, block_lt_of_cell hb⟩
  obtain ⟨g, t, cs, fuel, p, hg, hty, hvar, hd⟩ := h3
  obtain rfl := Option.some.inj (pow_at.symm.trans hg)
  obtain rfl := Option.some.inj ((show (Tryz.prog.globals[3]?).map (·.type) = some 129 by kernel_rfl).symm.trans hty)
  have hcs := cells_of_tab Tryz.underlying129 Tryz.underlying65 (by kernel_rfl) (by kernel_rfl) hd
  show W.var? Tryz.prog powName = _
  refine Eq.trans hvar ?_
  rw [← hcs]
/-- The name of the errors' type. -/
def errName : String := match (Rows.laid_strconv_ErrSyntax : DataW Unit) with
  | .iface n _ => n
  | _ => default
theorem errRows (s : String) (h : s = errName) : ((List.range Tryz.prog.types.size).all fun u => Tryz.prog.typeName? 3 u != some s || u == 140) = true := by
  subst h
  kernel_rfl
/-- The only type of that name. -/
theorem errRow (u : TypeId) (h : Tryz.prog.typeName? 3 u = some errName) : u = 140 :=
  typeName_ptr_named (nm := "errors.errorString") (errRows _ (by decide)) (by kernel_rfl) (by decide) u (h.trans (congrArg some (by decide)))
theorem tables {W : World} (h' : laidMet Tryz.prog Rows.cidrPrintsRow.laid W) (hS : W.ShapedOpen Tryz.prog) : TabE W := by
  refine ⟨tablesS h' hS, ?_, ?_⟩
  · obtain ⟨a, s, hv, _⟩ := laid_sentinel (ti := 53) (tp := 140) (te := 142) (ts := 9) h'.tail.tail.tail.tail.tail gSyn (by kernel_rfl) Tryz.underlying53 errRow Tryz.underlying140 Tryz.underlying142 rfl rfl Tryz.underlying9 (by kernel_rfl) (by kernel_rfl)
    exact ⟨_, _, hv⟩
  · obtain ⟨a, s, hv, _⟩ := laid_sentinel (ti := 53) (tp := 140) (te := 142) (ts := 9) h'.tail.tail.tail.tail gRng (by kernel_rfl) Tryz.underlying53 errRow Tryz.underlying140 Tryz.underlying142 rfl rfl Tryz.underlying9 (by kernel_rfl) (by kernel_rfl)
    exact ⟨_, _, hv⟩
def putCells (cs : Array Value) : Obj → Obj
  | .cells _ t frozen => .cells cs t frozen
  | o => o
def br32 : List UInt8 := [0, 1, 28, 2, 29, 14, 24, 3, 30, 22, 20, 15, 25, 17, 4, 8, 31, 27, 13, 23, 21, 19, 16, 7, 26, 12, 18, 6, 11, 5, 10, 9]
def synT : ByteArray := ⟨#[105, 110, 118, 97, 108, 105, 100, 32, 115, 121, 110, 116, 97, 120]⟩
def rngT : ByteArray := ⟨#[118, 97, 108, 117, 101, 32, 111, 117, 116, 32, 111, 102, 32, 114, 97, 110, 103, 101]⟩
/-- A world with the tables and the errors as the library lays them: for the witness. -/
def layTables (w : World) : World :=
  { w with heap := ((((((((w.heap.modify 6 (putCells (Lib.firstTab.map fun z => Value.int .u8 z).toArray)).modify 7 (putCells ((List.range 16).flatMap fun i => [Value.int .u8 (Lib.accLo i), Value.int .u8 (Lib.accHi i)]).toArray)).modify 3 (putCells (pow10Tab.map fun z => Value.int .u64 z).toArray)).modify 4 (putCells (br32.map fun c => Value.int .u8 c.toNat).toArray)).modify 5 (putCells (brBytes.map fun c => Value.int .u8 c.toNat).toArray)).modify 1 (putCells #[.iface 140 (.pointer (some ⟨w.heap.size, 0, none⟩))])).modify 2 (putCells #[.iface 140 (.pointer (some ⟨w.heap.size + 1, 0, none⟩))])).push (.cells #[.string synT] 142 (0, 0))).push (.cells #[.string rngT] 142 (0, 0)) }
end Go.Proofs.YtocdjgehjiolhaaGreatDoor
