
/- From a row's list to the library's tables and its two errors; the witness's world. -/
import Derived.Test.YtlblefcmilfjdaaGreatDoorRows
import Derived.Test.YtlblefcmilfjdaaGreatDoorPaPort
import Derived.Stop.LaidErr
import Derived.Lib.LaidU8
import Derived.Lib.LaidU8T
import Derived.Lib.LaidCaseMet
namespace Go.Proofs.YtlblefcmilfjdaaGreatDoor
open Go.RowKit Go.Lib
set_option maxRecDepth 100000
set_option linter.unusedVariables false

theorem own : ownKnob Tryz.prog.godebug = none := by kernel_rfl
theorem laidOut : laidOutB Tryz.prog = true := by kernel_rfl
theorem pow_eq : (Rows.laid_internal_strconv_uint64pow10 : DataW Unit) = tabData .u64 pow10Tab := by kernel_rfl
theorem max_any (w : World) (h : w.ShapedOpen Tryz.prog) : ∃ m, w.cell? ⟨0, 0, none⟩ = some (.int .i64 m) := Go.Proofs.cell_of_shapedOpen_int (zero := #[.int .i64 0]) (t := 3) h (of_decide_eq_true (by kernel_rfl)) (by kernel_rfl) rfl (by kernel_rfl) (by kernel_rfl) Tryz.underlying3
/-- The name of the errors' type. -/
def errName : String := match (Rows.laid_strconv_ErrSyntax : DataW Unit) with
  | .iface n _ => n
  | _ => default
theorem errRows (s : String) (h : s = errName) : ((List.range Tryz.prog.types.size).all fun u => Tryz.prog.typeName? 3 u != some s || u == 146) = true := by
  subst h
  kernel_rfl
/-- The only type of that name. -/
theorem errRow (u : TypeId) (h : Tryz.prog.typeName? 3 u = some errName) : u = 146 :=
  typeName_ptr_named (nm := "errors.errorString") (errRows _ (by decide)) (by kernel_rfl) (by decide) u (h.trans (congrArg some (by decide)))
theorem tables {W : World} (h' : laidMet Tryz.prog Rows.pathDotsRow.laid W) (hS : W.ShapedOpen Tryz.prog) : TabX W := by
  have h3 := Lib.laidMet.reads h' (.tail _ (.tail _ (.head _)))
  rw [pow_eq] at h3
  obtain ⟨g, t, cs, fuel, p, hg, hty, hvar, hd⟩ := h3
  obtain rfl := Option.some.inj (pow8_at.symm.trans hg)
  obtain rfl := Option.some.inj ((show (Tryz.prog.globals[3]?).map (·.type) = some 141 by kernel_rfl).symm.trans hty)
  have hcs := cells_of_tab Tryz.underlying141 Tryz.underlying115 (by kernel_rfl) (by kernel_rfl) hd
  have hc : W.cell? ⟨3, 0, none⟩ = some (.int .u64 1) := by
    rw [World.var?_cell hg hvar 0, ← Array.getElem?_toList, hcs]
    rfl
  refine ⟨⟨max_any W hS⟩, block_lt_of_cell hc, ?_, ?_, ?_⟩
  · show W.var? Tryz.prog pow8 = _
    refine Eq.trans hvar ?_
    rw [← hcs]
  · obtain ⟨a, s, hv, _⟩ := laid_sentinel (ti := 46) (tp := 146) (te := 148) (ts := 9) h'.tail.tail.tail.tail.tail syn8_at (by kernel_rfl) Tryz.underlying46 errRow Tryz.underlying146 Tryz.underlying148 rfl rfl Tryz.underlying9 (by kernel_rfl) (by kernel_rfl)
    exact ⟨_, _, hv⟩
  · obtain ⟨a, s, hv, _⟩ := laid_sentinel (ti := 46) (tp := 146) (te := 148) (ts := 9) h'.tail.tail.tail.tail rng8_at (by kernel_rfl) Tryz.underlying46 errRow Tryz.underlying146 Tryz.underlying148 rfl rfl Tryz.underlying9 (by kernel_rfl) (by kernel_rfl)
    exact ⟨_, _, hv⟩
def putCells (cs : Array Value) : Obj → Obj
  | .cells _ t frozen => .cells cs t frozen
  | o => o
def br32 : List UInt8 := [0, 1, 28, 2, 29, 14, 24, 3, 30, 22, 20, 15, 25, 17, 4, 8, 31, 27, 13, 23, 21, 19, 16, 7, 26, 12, 18, 6, 11, 5, 10, 9]
def br64 : List UInt8 := [0, 1, 56, 2, 57, 49, 28, 3, 61, 58, 42, 50, 38, 29, 17, 4, 62, 47, 59, 36, 45, 43, 51, 22, 53, 39, 33, 30, 24, 18, 12, 5, 63, 55, 48, 27, 60, 41, 37, 16, 46, 35, 44, 21, 52, 32, 23, 11, 54, 26, 40, 15, 34, 20, 31, 10, 25, 14, 19, 9, 13, 8, 7, 6]
def synT : ByteArray := ⟨#[105, 110, 118, 97, 108, 105, 100, 32, 115, 121, 110, 116, 97, 120]⟩
def rngT : ByteArray := ⟨#[118, 97, 108, 117, 101, 32, 111, 117, 116, 32, 111, 102, 32, 114, 97, 110, 103, 101]⟩
/-- A world with the tables and the errors as the library lays them: for the witness. -/
def layAll (w : World) : World :=
  { w with heap := ((((((((((w.heap.modify 5 (putCells (Lib.firstTab.map fun z => Value.int .u8 z).toArray)).modify 6 (putCells ((List.range 16).flatMap fun i => [Value.int .u8 (Lib.accLo i), Value.int .u8 (Lib.accHi i)]).toArray)).modify 3 (putCells (pow10Tab.map fun z => Value.int .u64 z).toArray)).modify 7 (putCells (br32.map fun c => Value.int .u8 c.toNat).toArray)).modify 8 (putCells (br64.map fun c => Value.int .u8 c.toNat).toArray)).modify 1 (putCells #[.iface 146 (.pointer (some ⟨w.heap.size, 0, none⟩))])).modify 2 (putCells #[.iface 146 (.pointer (some ⟨w.heap.size + 1, 0, none⟩))])).modify 4 (putCells #[.slice (some ⟨w.heap.size + 2, 0, none⟩) 336 336])).push (.cells #[.string synT] 148 (0, 0))).push (.cells #[.string rngT] 148 (0, 0))).push (.cells Lib.caseCells5 (Tryz.lays158_ren.t 208) (0, 0)) }
theorem vars_swap {P : Program} {w : World} (b c : String × DataW Unit) : ∀ (l : List (String × DataW Unit)) (ps : List MemPlace), DataW.LaidVars P w (l ++ [b, c]) ps → ∃ qs, DataW.LaidVars P w (l ++ [c, b]) qs ∧ qs.Perm ps
  | [], ps, h => by
    obtain ⟨n2, d2⟩ := b
    obtain ⟨n3, d3⟩ := c
    obtain ⟨g2, t2, c2, f2, p2, q2, y1, y2, y3, y4, h3, rfl⟩ := h
    obtain ⟨g3, t3, c3, f3, p3, q3, z1, z2, z3, z4, h4, rfl⟩ := h3
    cases h4
    refine ⟨_, ⟨g3, t3, c3, f3, p3, _, z1, z2, z3, z4, ⟨g2, t2, c2, f2, p2, [], y1, y2, y3, y4, rfl, rfl⟩, rfl⟩, ?_⟩
    rw [List.append_nil, List.append_nil]
    exact List.perm_append_comm
  | (n1, d1) :: l, ps, h => by
    obtain ⟨g1, t1, c1, f1, p1, q1, x1, x2, x3, x4, h2, rfl⟩ := h
    obtain ⟨qs, hq, hp⟩ := vars_swap b c l q1 h2
    exact ⟨_, ⟨g1, t1, c1, f1, p1, qs, x1, x2, x3, x4, hq, rfl⟩, List.Perm.append_left _ hp⟩
theorem laid_swap {P : Program} {w : World} (b c : String × DataW Unit) (l : List (String × DataW Unit)) (h : laidMet P (l ++ [b, c]) w) : laidMet P (l ++ [c, b]) w := by
  obtain ⟨ps, hv, hn, hc⟩ := h
  obtain ⟨qs, hq, hp⟩ := vars_swap b c l ps hv
  exact ⟨qs, hq, hp.nodup_iff.2 hn, fun b off hm => hc b off (hp.mem_iff.1 hm)⟩
/-- The names of the row's list. -/
def nmOf (k : Nat) : String := (Rows.pathDotsRow.laid.map (·.1)).getD k default
def sixL : List (String × DataW Unit) := [(nmOf 0, Rows.laid_math_bits_deBruijn32tab), (nmOf 1, Rows.laid_math_bits_deBruijn64tab), (nmOf 2, Rows.laid_internal_strconv_uint64pow10), (nmOf 3, Rows.laid_unicode_utf8_acceptRanges), (nmOf 4, Rows.laid_strconv_ErrRange), (nmOf 5, Rows.laid_strconv_ErrSyntax)]
theorem laid_list : Rows.pathDotsRow.laid = sixL ++ [("unicode.CaseRanges", Lib.caseData), (nmOf 7, Rows.laid_unicode_utf8_first)] := by kernel_rfl
theorem all_met (os : Os) (args : Array Value) : laidMet Tryz.prog Rows.pathDotsRow.laid ((layAll (World.holding Tryz.prog os ⟨#[], #[], []⟩)).forCall (fun _ _ => 0) ⟨#[], args, []⟩).memory := by
  rw [laid_list]
  refine laid_swap _ _ sixL ?_
  rw [show sixL ++ [(nmOf 7, Rows.laid_unicode_utf8_first), ("unicode.CaseRanges", Lib.caseData)] = (sixL ++ [(nmOf 7, Rows.laid_unicode_utf8_first)]) ++ [("unicode.CaseRanges", Lib.caseData)] from rfl]
  exact laidMet_with_case (ρ := Tryz.lays158_ren) { Tryz.lays158 with } Tryz.lays158.t206 ⟨by kernel_rfl, by kernel_rfl, by kernel_rfl, by kernel_rfl, by kernel_rfl, by kernel_rfl⟩
    (l := sixL ++ [(nmOf 7, Rows.laid_unicode_utf8_first)])
    10 (by kernel_rfl) (by kernel_rfl) (by kernel_rfl) ((World.holding Tryz.prog default ⟨#[], #[], []⟩).heap.size + 2) (Tryz.lays158_ren.t 208) (of_decide_eq_true (by kernel_rfl)) (by kernel_rfl) (by kernel_rfl) (by kernel_rfl)
end Go.Proofs.YtlblefcmilfjdaaGreatDoor
