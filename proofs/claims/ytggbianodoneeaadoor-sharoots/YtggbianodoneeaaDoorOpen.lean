
/- From a row's list to sha's two tables; the witness's world. -/
import Derived.Test.YtggbianodoneeaaDoorRows
import Derived.Test.YtggbianodoneeaaDoorTurned
import Derived.Lib.LaidU8
namespace Go.Proofs.YtggbianodoneeaaDoor
open Go.RowKit Go.Lib
set_option maxRecDepth 100000

theorem own : ownKnob Tryd.prog.godebug = none := by kernel_rfl
theorem laidOut : laidOutB Tryd.prog = true := by kernel_rfl
theorem first_eq : (Rows.laid_lantern_sha_first : DataW Unit) = tabData .u32 (H0.l.map nv) := by kernel_rfl
theorem rounds_eq : (Rows.laid_lantern_sha_rounds : DataW Unit) = tabData .u32 (KS.map nv) := by kernel_rfl
theorem tables {W : World} (h' : laidMet Tryd.prog [("lantern/sha.first", Rows.laid_lantern_sha_first), ("lantern/sha.rounds", Rows.laid_lantern_sha_rounds)] W) : TabS W := by
  have h3 := Lib.laidMet.reads h' (.head _)
  have h4 := Lib.laidMet.reads h' (.tail _ (.head _))
  rw [first_eq] at h3
  rw [rounds_eq] at h4
  refine ⟨fun j v hv => ?_, fun j v hv => ?_⟩
  · obtain ⟨g, t, cs, fuel, p, hg, hty, hvar, hd⟩ := h3
    obtain rfl := Option.some.inj ((show Tryd.prog.globalNamed "lantern/sha.first" = some 0 by kernel_rfl).symm.trans hg)
    obtain rfl := Option.some.inj ((show (Tryd.prog.globals[0]?).map (·.type) = some 23 by kernel_rfl).symm.trans hty)
    have hcs := cells_of_tab Tryd.underlying23 Tryd.underlying22 (by kernel_rfl) (by kernel_rfl) hd
    rw [Nat.zero_add, World.var?_cell hg hvar j, ← Array.getElem?_toList, hcs, List.map_map]
    exact hv
  · obtain ⟨g, t, cs, fuel, p, hg, hty, hvar, hd⟩ := h4
    obtain rfl := Option.some.inj ((show Tryd.prog.globalNamed "lantern/sha.rounds" = some 1 by kernel_rfl).symm.trans hg)
    obtain rfl := Option.some.inj ((show (Tryd.prog.globals[1]?).map (·.type) = some 24 by kernel_rfl).symm.trans hty)
    have hcs := cells_of_tab Tryd.underlying24 Tryd.underlying22 (by kernel_rfl) (by kernel_rfl) hd
    rw [Nat.zero_add, World.var?_cell hg hvar j, ← Array.getElem?_toList, hcs, List.map_map]
    exact hv
/-- A slice of integers that came in: it is nil, or it leads to a row of 'cap' cells. -/
def IsRow (k : IntKind) (w : World) (a : Option Addr) (len cap : Nat) (zs : List Int) : Prop :=
  (a = none ∧ len = 0 ∧ cap = 0 ∧ zs = []) ∨
  ∃ x, a = some x ∧ len ≤ cap ∧ cap ≤ maxLen ∧ zs.length = cap ∧ (∀ i, i < zs.length → w.cell? (x.add i) = some (.int k (zs.getD i 0))) ∧ ∀ n ∈ zs, (Lit.int k n).wf = true
theorem IsRow.len {k : IntKind} {w : World} {a : Option Addr} {len cap : Nat} {zs : List Int} (h : IsRow k w a len cap zs) : len ≤ maxLen := by
  rcases h with ⟨_, rfl, _⟩ | ⟨_, _, h1, h2, _⟩
  · exact Nat.zero_le _
  · exact Nat.le_trans h1 h2
def putCells (cs : Array Value) : Obj → Obj
  | .cells _ t frozen => .cells cs t frozen
  | o => o
/-- A world with the two tables as the text lays them: for the witness. -/
def layTables (w : World) : World :=
  { w with heap := (w.heap.modify 0 (putCells (wvs H0.l).toArray)).modify 1 (putCells (wvs KS).toArray) }

end Go.Proofs.YtggbianodoneeaaDoor
