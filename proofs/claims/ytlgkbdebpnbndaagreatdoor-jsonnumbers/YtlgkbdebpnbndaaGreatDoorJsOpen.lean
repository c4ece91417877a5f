
/- From a row's list to what is read of the library's variables; the witness's world. -/
import Derived.Test.YtlgkbdebpnbndaaGreatDoorRows
import Derived.Test.YtlgkbdebpnbndaaGreatDoorJsNumW
import Derived.Stop.LaidErr
import Derived.Lib.LaidU8
import Derived.Lib.LaidU8T
import Derived.Lib.ItoaNum
namespace Go.Proofs.YtlgkbdebpnbndaaGreatDoor
open Go.RowKit Go.Lib
set_option maxRecDepth 100000
set_option linter.unusedVariables false

theorem own : ownKnob Tryz.prog.godebug = none := by kernel_rfl
theorem laidOut : laidOutB Tryz.prog = true := by kernel_rfl
def br32 : List UInt8 := [0, 1, 28, 2, 29, 14, 24, 3, 30, 22, 20, 15, 25, 17, 4, 8, 31, 27, 13, 23, 21, 19, 16, 7, 26, 12, 18, 6, 11, 5, 10, 9]
def br64 : List UInt8 := [0, 1, 56, 2, 57, 49, 28, 3, 61, 58, 42, 50, 38, 29, 17, 4, 62, 47, 59, 36, 45, 43, 51, 22, 53, 39, 33, 30, 24, 18, 12, 5, 63, 55, 48, 27, 60, 41, 37, 16, 46, 35, 44, 21, 52, 32, 23, 11, 54, 26, 40, 15, 34, 20, 31, 10, 25, 14, 19, 9, 13, 8, 7, 6]
theorem max_any (w : World) (h : w.ShapedOpen Tryz.prog) : ∃ m, w.cell? ⟨3, 0, none⟩ = some (.int .i64 m) := Go.Proofs.cell_of_shapedOpen_int (zero := #[.int .i64 0]) (t := 3) h (of_decide_eq_true (by kernel_rfl)) (by kernel_rfl) rfl (by kernel_rfl) (by kernel_rfl) Tryz.underlying3
/-- The name of the errors' type. -/
def errName : String := match (Rows.laid_strconv_ErrSyntax : DataW Unit) with
  | .iface n _ => n
  | _ => default
theorem errRows (s : String) (h : s = errName) : ((List.range Tryz.prog.types.size).all fun u => Tryz.prog.typeName? 3 u != some s || u == 184) = true := by
  subst h
  kernel_rfl
/-- The only type of that name. -/
theorem errRow (u : TypeId) (h : Tryz.prog.typeName? 3 u = some errName) : u = 184 :=
  typeName_ptr_named (nm := "errors.errorString") (errRows _ (by decide)) (by kernel_rfl) (by decide) u (h.trans (congrArg some (by decide)))
theorem syn_at : Tryz.prog.globalNamed "strconv.ErrSyntax" = some 4 := by kernel_rfl
/-- What is read of the library's variables, and that they are all there. -/
def TabX (W : World) : Prop := TabJ W ∧ 7 < W.heap.size
theorem heap_any (w : World) (h : w.ShapedOpen Tryz.prog) : 7 < w.heap.size := by
  obtain ⟨zero, t, h0⟩ : ∃ zero t, ((begin Tryz.prog (fun _ _ => 0) default).world.heap[7]?).bind Obj.row? = some (zero, t) := ⟨(List.replicate 32 (Value.int .u8 0)).toArray, 180, by kernel_rfl⟩
  obtain ⟨cs, hh, _⟩ := h.1 7 zero t (of_decide_eq_true (by kernel_rfl)) h0
  exact (Array.getElem?_eq_some_iff.1 hh).1
theorem rng_at : Tryz.prog.globalNamed "strconv.ErrRange" = some 5 := by kernel_rfl
theorem tables_jsonSame {W : World} (h' : laidMet Tryz.prog Rows.jsonSameRow.laid W) (hS : W.ShapedOpen Tryz.prog) : TabX W := by
  obtain ⟨a, s, hv, _⟩ := laid_sentinel (ti := 109) (tp := 184) (te := 186) (ts := 9) h'.tail.tail.tail.tail.tail syn_at (by kernel_rfl) Tryz.underlying109 errRow Tryz.underlying184 Tryz.underlying186 rfl rfl Tryz.underlying9 (by kernel_rfl) (by kernel_rfl)
  obtain ⟨a2, s2, hv2, _⟩ := laid_sentinel (ti := 109) (tp := 184) (te := 186) (ts := 9) h'.tail.tail.tail.tail rng_at (by kernel_rfl) Tryz.underlying109 errRow Tryz.underlying184 Tryz.underlying186 rfl rfl Tryz.underlying9 (by kernel_rfl) (by kernel_rfl)
  exact ⟨⟨⟨max_any W hS, ⟨_, _, by rw [World.var?_cell syn_at hv 0]; rfl⟩⟩, ⟨_, _, by rw [World.var?_cell rng_at hv2 0]; rfl⟩⟩, heap_any W hS⟩
theorem tables_jsonGets {W : World} (h' : laidMet Tryz.prog Rows.jsonGetsRow.laid W) (hS : W.ShapedOpen Tryz.prog) : TabX W := by
  obtain ⟨a, s, hv, _⟩ := laid_sentinel (ti := 109) (tp := 184) (te := 186) (ts := 9) h'.tail.tail.tail.tail.tail syn_at (by kernel_rfl) Tryz.underlying109 errRow Tryz.underlying184 Tryz.underlying186 rfl rfl Tryz.underlying9 (by kernel_rfl) (by kernel_rfl)
  obtain ⟨a2, s2, hv2, _⟩ := laid_sentinel (ti := 109) (tp := 184) (te := 186) (ts := 9) h'.tail.tail.tail.tail rng_at (by kernel_rfl) Tryz.underlying109 errRow Tryz.underlying184 Tryz.underlying186 rfl rfl Tryz.underlying9 (by kernel_rfl) (by kernel_rfl)
  exact ⟨⟨⟨max_any W hS, ⟨_, _, by rw [World.var?_cell syn_at hv 0]; rfl⟩⟩, ⟨_, _, by rw [World.var?_cell rng_at hv2 0]; rfl⟩⟩, heap_any W hS⟩
theorem tables_jsonParses {W : World} (h' : laidMet Tryz.prog Rows.jsonParsesRow.laid W) (hS : W.ShapedOpen Tryz.prog) : TabX W := by
  obtain ⟨a, s, hv, _⟩ := laid_sentinel (ti := 109) (tp := 184) (te := 186) (ts := 9) h'.tail.tail.tail.tail.tail syn_at (by kernel_rfl) Tryz.underlying109 errRow Tryz.underlying184 Tryz.underlying186 rfl rfl Tryz.underlying9 (by kernel_rfl) (by kernel_rfl)
  obtain ⟨a2, s2, hv2, _⟩ := laid_sentinel (ti := 109) (tp := 184) (te := 186) (ts := 9) h'.tail.tail.tail.tail rng_at (by kernel_rfl) Tryz.underlying109 errRow Tryz.underlying184 Tryz.underlying186 rfl rfl Tryz.underlying9 (by kernel_rfl) (by kernel_rfl)
  exact ⟨⟨⟨max_any W hS, ⟨_, _, by rw [World.var?_cell syn_at hv 0]; rfl⟩⟩, ⟨_, _, by rw [World.var?_cell rng_at hv2 0]; rfl⟩⟩, heap_any W hS⟩
theorem tables_jsonPrints {W : World} (h' : laidMet Tryz.prog Rows.jsonPrintsRow.laid W) (hS : W.ShapedOpen Tryz.prog) : TabX W := by
  obtain ⟨a, s, hv, _⟩ := laid_sentinel (ti := 109) (tp := 184) (te := 186) (ts := 9) h'.tail.tail.tail.tail.tail syn_at (by kernel_rfl) Tryz.underlying109 errRow Tryz.underlying184 Tryz.underlying186 rfl rfl Tryz.underlying9 (by kernel_rfl) (by kernel_rfl)
  obtain ⟨a2, s2, hv2, _⟩ := laid_sentinel (ti := 109) (tp := 184) (te := 186) (ts := 9) h'.tail.tail.tail.tail rng_at (by kernel_rfl) Tryz.underlying109 errRow Tryz.underlying184 Tryz.underlying186 rfl rfl Tryz.underlying9 (by kernel_rfl) (by kernel_rfl)
  exact ⟨⟨⟨max_any W hS, ⟨_, _, by rw [World.var?_cell syn_at hv 0]; rfl⟩⟩, ⟨_, _, by rw [World.var?_cell rng_at hv2 0]; rfl⟩⟩, heap_any W hS⟩
theorem tables_jsonNumbers {W : World} (h' : laidMet Tryz.prog Rows.jsonNumbersRow.laid W) (hS : W.ShapedOpen Tryz.prog) : TabX W := by
  obtain ⟨a, s, hv, _⟩ := laid_sentinel (ti := 109) (tp := 184) (te := 186) (ts := 9) h'.tail.tail.tail.tail.tail syn_at (by kernel_rfl) Tryz.underlying109 errRow Tryz.underlying184 Tryz.underlying186 rfl rfl Tryz.underlying9 (by kernel_rfl) (by kernel_rfl)
  obtain ⟨a2, s2, hv2, _⟩ := laid_sentinel (ti := 109) (tp := 184) (te := 186) (ts := 9) h'.tail.tail.tail.tail rng_at (by kernel_rfl) Tryz.underlying109 errRow Tryz.underlying184 Tryz.underlying186 rfl rfl Tryz.underlying9 (by kernel_rfl) (by kernel_rfl)
  exact ⟨⟨⟨max_any W hS, ⟨_, _, by rw [World.var?_cell syn_at hv 0]; rfl⟩⟩, ⟨_, _, by rw [World.var?_cell rng_at hv2 0]; rfl⟩⟩, heap_any W hS⟩
def putCells (cs : Array Value) : Obj → Obj
  | .cells _ t frozen => .cells cs t frozen
  | o => o
def synT : ByteArray := ⟨#[105, 110, 118, 97, 108, 105, 100, 32, 115, 121, 110, 116, 97, 120]⟩
def rngT : ByteArray := ⟨#[118, 97, 108, 117, 101, 32, 111, 117, 116, 32, 111, 102, 32, 114, 97, 110, 103, 101]⟩
/-- A world with the tables and the errors as the library lays them: for the witness. -/
def layTables (w : World) : World :=
  { w with heap := ((((((((w.heap.modify 6 (putCells (Lib.firstTab.map fun z => Value.int .u8 z).toArray)).modify 7 (putCells ((List.range 16).flatMap fun i => [Value.int .u8 (Lib.accLo i), Value.int .u8 (Lib.accHi i)]).toArray)).modify 0 (putCells (pow10Tab.map fun z => Value.int .u64 z).toArray)).modify 1 (putCells (br32.map fun c => Value.int .u8 c.toNat).toArray)).modify 2 (putCells (br64.map fun c => Value.int .u8 c.toNat).toArray)).modify 4 (putCells #[.iface 184 (.pointer (some ⟨w.heap.size, 0, none⟩))])).modify 5 (putCells #[.iface 184 (.pointer (some ⟨w.heap.size + 1, 0, none⟩))])).push (.cells #[.string synT] 186 (0, 0))).push (.cells #[.string rngT] 186 (0, 0)) }
end Go.Proofs.YtlgkbdebpnbndaaGreatDoor
