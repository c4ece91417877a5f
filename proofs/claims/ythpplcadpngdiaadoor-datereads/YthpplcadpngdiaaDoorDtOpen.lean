
/- From a row's list to what is read of the variables; the witness's world. -/
import Derived.Test.YthpplcadpngdiaaDoorRows
import Derived.Test.YthpplcadpngdiaaDoorDtMon
import Derived.Lib.LaidU8
import Derived.Lib.LaidU8T
import Derived.Lib.ItoaNum
namespace Go.Proofs.YthpplcadpngdiaaDoor
open Go.RowKit Go.Lib
set_option maxRecDepth 100000
set_option linter.unusedVariables false

theorem own : ownKnob Tryd.prog.godebug = none := by kernel_rfl
theorem laidOut : laidOutB Tryd.prog = true := by kernel_rfl
def br32 : List UInt8 := [0, 1, 28, 2, 29, 14, 24, 3, 30, 22, 20, 15, 25, 17, 4, 8, 31, 27, 13, 23, 21, 19, 16, 7, 26, 12, 18, 6, 11, 5, 10, 9]
def br64 : List UInt8 := [0, 1, 56, 2, 57, 49, 28, 3, 61, 58, 42, 50, 38, 29, 17, 4, 62, 47, 59, 36, 45, 43, 51, 22, 53, 39, 33, 30, 24, 18, 12, 5, 63, 55, 48, 27, 60, 41, 37, 16, 46, 35, 44, 21, 52, 32, 23, 11, 54, 26, 40, 15, 34, 20, 31, 10, 25, 14, 19, 9, 13, 8, 7, 6]
/-- The name of the table of bits' places. -/
def bruName : String := (Rows.dateDaysRow.laid.map (·.1)).getD 1 default
def dayName : String := (Rows.dateDaysRow.laid.map (·.1)).getD 3 default
def monName : String := (Rows.dateDaysRow.laid.map (·.1)).getD 4 default
theorem bru_eq : (Rows.laid_math_bits_deBruijn64tab : DataW Unit) = tabData .u8 (br64.map fun c => (c.toNat : Int)) := by kernel_rfl
theorem pow_eq : (Rows.laid_internal_strconv_uint64pow10 : DataW Unit) = tabData .u64 pow10Tab := by kernel_rfl
/-- An array of texts as a row lists it. -/
def strData {H : Type} (l : List (List UInt8)) : DataW H := .agg (l.map fun x => .lit (.string x))
theorem day_eq : (Rows.laid_lantern_date_dayNames : DataW Unit) = strData dayNs := by kernel_rfl
theorem mon_eq : (Rows.laid_lantern_date_monthNames : DataW Unit) = strData monNs := by kernel_rfl
theorem acc_eq : (Rows.laid_unicode_utf8_acceptRanges : DataW Unit) = Lib.acceptData := by kernel_rfl
theorem first_eq : Rows.laid_unicode_utf8_first = Lib.firstData := by kernel_rfl
theorem cells_of_strs {H : Type} {enc : TypeId × Value → H} {P : Program} {w : World} {base : Nat} {sp : Nat → Bool} {held : Bool} {fuel : Nat} {t e : TypeId} {n : Nat} {cs : List Value} {l : List (List UInt8)} {p : List MemPlace}
    (ht : P.underlying t = some (.array n e)) (he : P.underlying e = some .string) (hce : P.cellsOf e = 1) (hct : P.cellsOf t = n)
    (h : DataW.trod enc P w base sp held fuel t cs = some (strData l, p)) : cs = strV l := by
  cases fuel with
  | zero => simp [DataW.trod] at h
  | succ fuel =>
    simp only [DataW.trod, ht, hce, hct, Nat.mul_one] at h
    split at h
    · rename_i hl
      obtain ⟨xs, hm, hx⟩ := Option.map_eq_some_iff.1 h
      have hxs : xs.map (·.1) = l.map fun x => (DataW.lit (.string x) : DataW H) := by
        have := congrArg Prod.fst hx
        simpa [strData] using this
      have hxl : xs.length = n := by simpa using mapM_length hm
      have hzl : l.length = n := by
        have := congrArg List.length hxs
        simp at this
        omega
      apply List.ext_getElem?
      intro i
      by_cases hi : i < n
      · obtain ⟨b, hb, hf⟩ := mapM_at hm i i (by simp [hi])
        obtain ⟨z, hc, rfl, _⟩ := DataW.trod_string he hf
        have h1 : cs[i]? = some (.string z) := by
          have := congrArg (·[0]?) hc
          simpa [List.getElem?_take, List.getElem?_drop] using this
        have h2 : (xs.map (·.1))[i]? = some (DataW.lit (.string z.data.toList) : DataW H) := by simp [hb]
        rw [hxs] at h2
        simp only [List.getElem?_map, Option.map_eq_some_iff, DataW.lit.injEq, Lit.string.injEq] at h2
        obtain ⟨z', hz', e⟩ := h2
        unfold strV
        rw [h1, List.getElem?_map, hz', Option.map_some, e]
        exact congrArg (fun x => some (Value.string x)) (asS_of z).symm
      · unfold strV
        rw [List.getElem?_eq_none (by omega), List.getElem?_eq_none (by simp; omega)]
    · cases h
theorem tabD_of {W : World} (hb : VarReads Tryd.prog W bruName Rows.laid_math_bits_deBruijn64tab) (hp : VarReads Tryd.prog W pow8 Rows.laid_internal_strconv_uint64pow10) (hd : VarReads Tryd.prog W dayName Rows.laid_lantern_date_dayNames) (hm : VarReads Tryd.prog W monName Rows.laid_lantern_date_monthNames) : TabD W := by
  rw [bru_eq] at hb
  rw [pow_eq] at hp
  rw [day_eq] at hd
  rw [mon_eq] at hm
  refine ⟨?_, ?_, ?_, ?_⟩
  · obtain ⟨g, t, cs, fuel, p, hg, hty, hvar, hd⟩ := hb
    obtain rfl := Option.some.inj ((show Tryd.prog.globalNamed bruName = some 7 by kernel_rfl).symm.trans hg)
    obtain rfl := Option.some.inj ((show (Tryd.prog.globals[7]?).map (·.type) = some 115 by kernel_rfl).symm.trans hty)
    have hcs := cells_of_tab Tryd.underlying115 Tryd.underlying5 (by kernel_rfl) (by kernel_rfl) hd
    have hb : W.cell? ⟨7, 15, none⟩ = some (.int .u8 4) := by
      rw [World.var?_cell hg hvar 15, ← Array.getElem?_toList, hcs]
      rfl
    exact block_lt_of_cell hb
  · obtain ⟨g, t, cs, fuel, p, hg, hty, hvar, hd⟩ := hp
    obtain rfl := Option.some.inj (pow8_at.symm.trans hg)
    obtain rfl := Option.some.inj ((show (Tryd.prog.globals[4]?).map (·.type) = some 110 by kernel_rfl).symm.trans hty)
    have hcs := cells_of_tab Tryd.underlying110 Tryd.underlying94 (by kernel_rfl) (by kernel_rfl) hd
    show W.var? Tryd.prog pow8 = _
    refine Eq.trans hvar ?_
    rw [← hcs]
  · obtain ⟨g, t, cs, fuel, p, hg, hty, hvar, hd⟩ := hd
    obtain rfl := Option.some.inj ((show Tryd.prog.globalNamed dayName = some 0 by kernel_rfl).symm.trans hg)
    obtain rfl := Option.some.inj ((show (Tryd.prog.globals[0]?).map (·.type) = some 70 by kernel_rfl).symm.trans hty)
    have hcs := cells_of_strs Tryd.underlying70 Tryd.underlying9 (by kernel_rfl) (by kernel_rfl) hd
    intro j v hv
    rw [Nat.zero_add, World.var?_cell hg hvar j, ← Array.getElem?_toList, hcs]
    exact hv
  · obtain ⟨g, t, cs, fuel, p, hg, hty, hvar, hd⟩ := hm
    obtain rfl := Option.some.inj ((show Tryd.prog.globalNamed monName = some 1 by kernel_rfl).symm.trans hg)
    obtain rfl := Option.some.inj ((show (Tryd.prog.globals[1]?).map (·.type) = some 71 by kernel_rfl).symm.trans hty)
    have hcs := cells_of_strs Tryd.underlying71 Tryd.underlying9 (by kernel_rfl) (by kernel_rfl) hd
    intro j v hv
    rw [Nat.zero_add, World.var?_cell hg hvar j, ← Array.getElem?_toList, hcs]
    exact hv
/-- What the row's list of five gives. -/
theorem tables {W : World} {p : Prop} (h' : laidMet Tryd.prog Rows.dateDaysRow.laid W) (_ : p) : TabD W :=
  tabD_of (Lib.laidMet.reads h' (.tail _ (.head _))) (Lib.laidMet.reads h' (.tail _ (.tail _ (.head _)))) (Lib.laidMet.reads h' (.tail _ (.tail _ (.tail _ (.head _))))) (Lib.laidMet.reads h' (.tail _ (.tail _ (.tail _ (.tail _ (.head _))))))
/-- What the row's list of seven gives. -/
theorem tables7 {W : World} {p : Prop} (h' : laidMet Tryd.prog Rows.dateReadsRow.laid W) (_ : p) : TabD W ∧ Lib.Utf8Tabs 2 3 W := by
  refine ⟨tabD_of (Lib.laidMet.reads h' (.tail _ (.head _))) (Lib.laidMet.reads h' (.tail _ (.tail _ (.head _)))) (Lib.laidMet.reads h' (.tail _ (.tail _ (.tail _ (.tail _ (.head _)))))) (Lib.laidMet.reads h' (.tail _ (.tail _ (.tail _ (.tail _ (.tail _ (.head _))))))), ?_⟩
  have h3 := Lib.laidMet.reads h' (.tail _ (.tail _ (.tail _ (.tail _ (.tail _ (.tail _ (.head _)))))))
  have h4 := Lib.laidMet.reads h' (.tail _ (.tail _ (.tail _ (.head _))))
  rw [first_eq] at h3
  rw [acc_eq] at h4
  exact utf8Tabs_of_readsT (ρ := Tryd.lays237_ren) { Tryd.lays237 with } ⟨by kernel_rfl, by kernel_rfl, by kernel_rfl, by kernel_rfl, by kernel_rfl, by kernel_rfl, by kernel_rfl⟩ h3 h4
def putCells (cs : Array Value) : Obj → Obj
  | .cells _ t frozen => .cells cs t frozen
  | o => o
/-- A world with the tables as the texts lay them: for the witness. -/
def layTables (w : World) : World :=
  { w with heap := ((((((w.heap.modify 2 (putCells (Lib.firstTab.map fun z => Value.int .u8 z).toArray)).modify 3 (putCells ((List.range 16).flatMap fun i => [Value.int .u8 (Lib.accLo i), Value.int .u8 (Lib.accHi i)]).toArray)).modify 4 (putCells (pow10Tab.map fun z => Value.int .u64 z).toArray)).modify 6 (putCells (br32.map fun c => Value.int .u8 c.toNat).toArray)).modify 7 (putCells (br64.map fun c => Value.int .u8 c.toNat).toArray)).modify 0 (putCells (strV dayNs).toArray)).modify 1 (putCells (strV monNs).toArray) }
end Go.Proofs.YthpplcadpngdiaaDoor
