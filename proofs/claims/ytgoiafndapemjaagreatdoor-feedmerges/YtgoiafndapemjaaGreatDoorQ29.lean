import Derived.Test.YtgoiafndapemjaaGreatDoorQ28
import Derived.Deep.DeepCutAuto
import Derived.Test.YtgoiafndapemjaaGreatDoorQ02
import Derived.Test.YtgoiafndapemjaaGreatDoorQ23
import Derived.Test.YtgoiafndapemjaaGreatDoorQ13
import Derived.Test.YtgoiafndapemjaaGreatDoorRows
import Derived.Stop.LaidErr
import Derived.Lib.LaidU8
import Derived.Lib.LaidU8T
import Derived.Lib.ItoaNum
import Derived.Test.YtgoiafndapemjaaGreatDoorQ11
import Derived.Deep.MidRow
set_option linter.unusedVariables false
set_option linter.unusedSimpArgs false
set_option maxHeartbeats 1000000
namespace Go.Proofs.YtgoiafndapemjaaGreatDoor
open Go.RowKit Go.BigFrame
def trmL (l : List UInt8) : List UInt8 := (trm (asS l)).data.toList
theorem trmL_len (l : List UInt8) : (trmL l).length ≤ l.length := by
 have := trm_size (asS l)
 rw [asS_size, Lib.size_eq] at this
 exact this
theorem trmL_as (l : List UInt8) : asS (trmL l) = trm (asS l) := asS_of _
theorem trimL_any (l : List UInt8) (hl : l.length ≤ 90000) (w : World) (hT : Lib.Utf8Tabs 5 6 w) : Calls Tryz.prog 123 #[.string (asS l)] w fun e w' => e = .returned (.string (asS (trmL l))) ∧ Below w.heap.size w w' := by
 rw [trmL_as]
 exact trim_any (asS l) w (by rw [asS_size]; omega) hT
def anyL (l : List UInt8) : Option Int := match p3339 (trmL l) with
 | some v => some v
 | none => p822 (trmL l)
theorem any_any (l : List UInt8) (hl : l.length ≤ 90000) (w : World) (hT : TabD w) (hU : Lib.Utf8Tabs 5 6 w) : Calls Tryz.prog 121 #[.string (asS l)] w fun e w' => e = .returned (optT (anyL l)) ∧ Below w.heap.size w w' := by
 have H1 := hid (trimL_any l hl w hU)
 have hl2 : (trmL l).length ≤ 90000 := Nat.le_trans (trmL_len l) hl
 have H2 := hid (fun W => p3339_any (trmL l) (by omega) W)
 have H3 := hid (fun W h => p822_any (trmL l) (by omega) W h)
 have HTT := hid hT
 unfold anyL
 clear hT hU
 generalize p3339 (trmL l) = A at *
 generalize p822 (trmL l) = B at *
 generalize asS (trmL l) = s1 at *
 generalize asS l = s0 at *
 cases A with
 | some v =>
  change Hid (∀ W : World, Calls Tryz.prog 152 #[.string s1] W fun e w' => e = .returned (.tuple #[.int .i64 v, .int .i64 0]) ∧ Below W.heap.size W w') at H2
  go_enter Tryz.func121, Tryz.ntmps121
  go_wp2_with (first
   | (go_at_call 123; refine H1.out.mono ?_; rintro e w1 ⟨rfl, hb1⟩)
   | (go_at_call 152; refine (H2.out _).mono ?_; rintro e w2 ⟨rfl, hb2⟩)
   | fail)
  go_ret2
  exact ⟨rfl, b_two hb1 hb2⟩
 | none =>
  change Hid (∀ W : World, Calls Tryz.prog 152 #[.string s1] W fun e w' => e = .returned (.tuple #[.int .i64 0, .int .i64 5]) ∧ Below W.heap.size W w') at H2
  show Calls Tryz.prog 121 #[.string s0] w fun e w' => e = .returned (optT B) ∧ Below w.heap.size w w'
  cases B
  all_goals unfold optT at H3
  all_goals go_enter Tryz.func121, Tryz.ntmps121
  all_goals go_wp2_with (first
   | (go_at_call 123; refine H1.out.mono ?_; rintro e w1 ⟨rfl, hb1⟩)
   | (go_at_call 152; refine (H2.out _).mono ?_; rintro e w2 ⟨rfl, hb2⟩)
   | (go_at_call 153; refine (H3.out _ (HTT.out.below (b_two hb1 hb2))).mono ?_; rintro e w3 ⟨rfl, hb3⟩)
   | fail)
  all_goals go_ret2
  all_goals exact ⟨rfl, b_two (b_two hb1 hb2) hb3⟩
end Go.Proofs.YtgoiafndapemjaaGreatDoor
namespace Go.Proofs.YtgoiafndapemjaaGreatDoor
def or2 (a b : Option Int) : Option Int := match a with
 | some v => some v
 | none => b
def mkE (title link body : List UInt8) (time : Option Int) (name : List UInt8) : EnV := ⟨idL (orL name link) title body, title, link, body, time.getD 0, time.isSome⟩
def rssE (d : Nat) (t : Tr d) : EnV := mkE (shL (kidL titleN d t)) (shL (kidL linkN d t)) (shL (kidL descN d t)) (anyL (kidL pubN d t)) (trmL (kidL guidN d t))
def atomE (d : Nat) (t : Tr d) : EnV := mkE (shL (kidL titleN d t)) (linkA d t) (orL (shL (kidL sumN' d t)) (shL (kidL contN d t))) (or2 (anyL (kidL updN d t)) (anyL (kidL pubdN d t))) (trmL (kidL idN d t))
def rssF (d : Nat) (t : Tr d) : FeV := ⟨shL (kidL titleN d t), shL (kidL linkN d t), firstsU EnV.id ((fndT itemN (d - 1) (kidsT d t)).map (rssE (d - 1)))⟩
def atomF (d : Nat) (t : Tr d) : FeV := ⟨shL (kidL titleN d t), linkA d t, firstsU EnV.id ((fndT entryN (d - 1) (kidsT d t)).map (atomE (d - 1)))⟩
def readT (d : Nat) (t : Tr d) : Option FeV :=
 if nmT d t = rssN then (match firstT chanN d t with
  | none => none
  | some c => some (rssF (d - 1) c))
 else if nmT d t = feedN then some (atomF d t) else none
end Go.Proofs.YtgoiafndapemjaaGreatDoor
namespace Go.Proofs.YtgoiafndapemjaaGreatDoor
open Go.RowKit Go.BigFrame
structure TabF (w : World) : Prop where
 e : TabE w
 d : TabD w
 u : Lib.Utf8Tabs 5 6 w
 s : TabS w
theorem TabF.below {w w' : World} (h : TabF w) (hb : Below w.heap.size w w') : TabF w' := ⟨h.e.below hb, h.d.below hb, tabs_below h.u hb, h.s.below hb h.s.lt⟩
theorem TabF.big {w : World} (h : TabF w) : 8 ≤ w.heap.size := by
 have h1 : 11 < w.heap.size := h.d.big
 omega
end Go.Proofs.YtgoiafndapemjaaGreatDoor
namespace Go.Proofs.YtgoiafndapemjaaGreatDoor
open Go.RowKit Go.Lib
set_option maxRecDepth 100000
theorem own : ownKnob Tryz.prog.godebug = none := by kernel_rfl
theorem laidOut : laidOutB Tryz.prog = true := by kernel_rfl
def br32 : List UInt8 := [0, 1, 28, 2, 29, 14, 24, 3, 30, 22, 20, 15, 25, 17, 4, 8, 31, 27, 13, 23, 21, 19, 16, 7, 26, 12, 18, 6, 11, 5, 10, 9]
def br64 : List UInt8 := [0, 1, 56, 2, 57, 49, 28, 3, 61, 58, 42, 50, 38, 29, 17, 4, 62, 47, 59, 36, 45, 43, 51, 22, 53, 39, 33, 30, 24, 18, 12, 5, 63, 55, 48, 27, 60, 41, 37, 16, 46, 35, 44, 21, 52, 32, 23, 11, 54, 26, 40, 15, 34, 20, 31, 10, 25, 14, 19, 9, 13, 8, 7, 6]
theorem max_any (w : World) (h : w.ShapedOpen Tryz.prog) : ∃ m, w.cell? ⟨2, 0, none⟩ = some (.int .i64 m) := Go.Proofs.cell_of_shapedOpen_int (zero := #[.int .i64 0]) (t := 3) h (of_decide_eq_true (by kernel_rfl)) (by kernel_rfl) rfl (by kernel_rfl) (by kernel_rfl) Tryz.underlying3
def errName : String := match (Rows.laid_strconv_ErrSyntax : DataW Unit) with
 | .iface n _ => n
 | _ => default
theorem errRows (s : String) (h : s = errName) : ((List.range Tryz.prog.types.size).all fun u => Tryz.prog.typeName? 3 u != some s || u == 230) = true := by
 subst h
 kernel_rfl
theorem errRow (u : TypeId) (h : Tryz.prog.typeName? 3 u = some errName) : u = 230 :=
 typeName_ptr_named (nm := "errors.errorString") (errRows _ (by decide)) (by kernel_rfl) (by decide) u (h.trans (congrArg some (by decide)))
theorem syn_at : Tryz.prog.globalNamed "strconv.ErrSyntax" = some 7 := by kernel_rfl
def bruName : String := (Rows.feedShortRow.laid.map (·.1)).getD 1 default
def dayName : String := (Rows.feedShortRow.laid.map (·.1)).getD 8 default
def monName : String := (Rows.feedShortRow.laid.map (·.1)).getD 9 default
theorem bru_eq : (Rows.laid_math_bits_deBruijn64tab : DataW Unit) = tabData .u8 (br64.map fun c => (c.toNat : Int)) := by kernel_rfl
theorem pow_eq : (Rows.laid_internal_strconv_uint64pow10 : DataW Unit) = tabData .u64 pow10Tab := by kernel_rfl
def strData {H : Type} (l : List (List UInt8)) : DataW H := .agg (l.map fun x => .lit (.string x))
theorem day_eq : (Rows.laid_lantern_date_dayNames : DataW Unit) = strData dayNs := by kernel_rfl
theorem mon_eq : (Rows.laid_lantern_date_monthNames : DataW Unit) = strData monNs := by kernel_rfl
theorem acc_eq : (Rows.laid_unicode_utf8_acceptRanges : DataW Unit) = Lib.acceptData := by kernel_rfl
theorem utf_eq : Rows.laid_unicode_utf8_first = Lib.firstData := by kernel_rfl
theorem cells_of_strs {H : Type} {enc : TypeId × Value → H} {P : Program} {w : World} {base : Nat} {sp : Nat → Bool} {held : Bool} {fuel : Nat} {t e : TypeId} {n : Nat} {cs : List Value} {l : List (List UInt8)} {p : List MemPlace}
  (ht : P.underlying t = some (.array n e)) (he : P.underlying e = some .string) (hce : P.cellsOf e = 1) (hct : P.cellsOf t = n)
  (h : DataW.trod enc P w base sp held fuel t cs = some (strData l, p)) : cs = strV l := by
 cases fuel with
 | zero => simp [DataW.trod] at h
 | succ fuel =>
  simp only [DataW.trod, ht, hce, hct, Nat.mul_one] at h
  split at h
  ·rename_i hl
   obtain ⟨xs, hm, hx⟩ := Option.map_eq_some_iff.1 h
   have hxs : xs.map (·.1) = l.map fun x => (DataW.lit (.string x) : DataW H) := by
    have := congrArg Prod.fst hx
    simpa [strData] using this
   have hxl : xs.length = n := by simpa using mapM_length hm
   have hzl : l.length = n := by
    have := congrArg List.length hxs
    simp at this
    omega
   apply List.ext_getElem?
   intro i
   by_cases hi : i < n
   ·obtain ⟨b, hb, hf⟩ := mapM_at hm i i (by simp [hi])
    obtain ⟨z, hc, rfl, _⟩ := DataW.trod_string he hf
    have h1 : cs[i]? = some (.string z) := by
     have := congrArg (·[0]?) hc
     simpa [List.getElem?_take, List.getElem?_drop] using this
    have h2 : (xs.map (·.1))[i]? = some (DataW.lit (.string z.data.toList) : DataW H) := by simp [hb]
    rw [hxs] at h2
    simp only [List.getElem?_map, Option.map_eq_some_iff, DataW.lit.injEq, Lit.string.injEq] at h2
    obtain ⟨z', hz', e⟩ := h2
    unfold strV
    rw [h1, List.getElem?_map, hz', Option.map_some, e]
    exact congrArg (fun x => some (Value.string x)) (asS_of z).symm
   ·unfold strV
    rw [List.getElem?_eq_none (by omega), List.getElem?_eq_none (by simp; omega)]
  ·cases h
theorem tabD_of {W : World} (hb : VarReads Tryz.prog W bruName Rows.laid_math_bits_deBruijn64tab) (hp : VarReads Tryz.prog W pow8 Rows.laid_internal_strconv_uint64pow10) (hd : VarReads Tryz.prog W dayName Rows.laid_lantern_date_dayNames) (hm : VarReads Tryz.prog W monName Rows.laid_lantern_date_monthNames) : TabD W := by
 rw [bru_eq] at hb
 rw [pow_eq] at hp
 rw [day_eq] at hd
 rw [mon_eq] at hm
 refine ⟨?_, ?_, ?_, ?_⟩
 ·obtain ⟨g, t, cs, fuel, p, hg, hty, hvar, hd⟩ := hb
  obtain rfl := Option.some.inj ((show Tryz.prog.globalNamed bruName = some 11 by kernel_rfl).symm.trans hg)
  obtain rfl := Option.some.inj ((show (Tryz.prog.globals[11]?).map (·.type) = some 159 by kernel_rfl).symm.trans hty)
  have hcs := cells_of_tab Tryz.underlying159 Tryz.underlying5 (by kernel_rfl) (by kernel_rfl) hd
  have hb : W.cell? ⟨11, 15, none⟩ = some (.int .u8 4) := by
   rw [World.var?_cell hg hvar 15, ← Array.getElem?_toList, hcs]
   rfl
  exact block_lt_of_cell hb
 ·obtain ⟨g, t, cs, fuel, p, hg, hty, hvar, hd⟩ := hp
  obtain rfl := Option.some.inj (pow8_at.symm.trans hg)
  obtain rfl := Option.some.inj ((show (Tryz.prog.globals[9]?).map (·.type) = some 240 by kernel_rfl).symm.trans hty)
  have hcs := cells_of_tab Tryz.underlying240 Tryz.underlying104 (by kernel_rfl) (by kernel_rfl) hd
  show W.var? Tryz.prog pow8 = _
  refine Eq.trans hvar ?_
  rw [← hcs]
 ·obtain ⟨g, t, cs, fuel, p, hg, hty, hvar, hd⟩ := hd
  obtain rfl := Option.some.inj ((show Tryz.prog.globalNamed dayName = some 3 by kernel_rfl).symm.trans hg)
  obtain rfl := Option.some.inj ((show (Tryz.prog.globals[3]?).map (·.type) = some 203 by kernel_rfl).symm.trans hty)
  have hcs := cells_of_strs Tryz.underlying203 Tryz.underlying9 (by kernel_rfl) (by kernel_rfl) hd
  intro j v hv
  rw [Nat.zero_add, World.var?_cell hg hvar j, ← Array.getElem?_toList, hcs]
  exact hv
 ·obtain ⟨g, t, cs, fuel, p, hg, hty, hvar, hd⟩ := hm
  obtain rfl := Option.some.inj ((show Tryz.prog.globalNamed monName = some 4 by kernel_rfl).symm.trans hg)
  obtain rfl := Option.some.inj ((show (Tryz.prog.globals[4]?).map (·.type) = some 204 by kernel_rfl).symm.trans hty)
  have hcs := cells_of_strs Tryz.underlying204 Tryz.underlying9 (by kernel_rfl) (by kernel_rfl) hd
  intro j v hv
  rw [Nat.zero_add, World.var?_cell hg hvar j, ← Array.getElem?_toList, hcs]
  exact hv
theorem sha1_eq : (Rows.laid_lantern_sha_first : DataW Unit) = tabData .u32 (H0.l.map nv) := by kernel_rfl
theorem sha2_eq : (Rows.laid_lantern_sha_rounds : DataW Unit) = tabData .u32 (KSs.map nv) := by kernel_rfl
def sh1Name : String := (Rows.feedShortRow.laid.map (·.1)).getD 3 default
def sh2Name : String := (Rows.feedShortRow.laid.map (·.1)).getD 4 default
theorem tabS_of {W : World} (h3 : VarReads Tryz.prog W sh1Name Rows.laid_lantern_sha_first) (h4 : VarReads Tryz.prog W sh2Name Rows.laid_lantern_sha_rounds) : TabS W := by
 rw [sha1_eq] at h3
 rw [sha2_eq] at h4
 refine ⟨fun j v hv => ?_, fun j v hv => ?_⟩
 ·obtain ⟨g, t, cs, fuel, p, hg, hty, hvar, hd⟩ := h3
  obtain rfl := Option.some.inj ((show Tryz.prog.globalNamed sh1Name = some 0 by kernel_rfl).symm.trans hg)
  obtain rfl := Option.some.inj ((show (Tryz.prog.globals[0]?).map (·.type) = some 107 by kernel_rfl).symm.trans hty)
  have hcs := cells_of_tab Tryz.underlying107 Tryz.underlying106 (by kernel_rfl) (by kernel_rfl) hd
  rw [Nat.zero_add, World.var?_cell hg hvar j, ← Array.getElem?_toList, hcs, List.map_map]
  exact hv
 ·obtain ⟨g, t, cs, fuel, p, hg, hty, hvar, hd⟩ := h4
  obtain rfl := Option.some.inj ((show Tryz.prog.globalNamed sh2Name = some 1 by kernel_rfl).symm.trans hg)
  obtain rfl := Option.some.inj ((show (Tryz.prog.globals[1]?).map (·.type) = some 108 by kernel_rfl).symm.trans hty)
  have hcs := cells_of_tab Tryz.underlying108 Tryz.underlying106 (by kernel_rfl) (by kernel_rfl) hd
  rw [Nat.zero_add, World.var?_cell hg hvar j, ← Array.getElem?_toList, hcs, List.map_map]
  exact hv
theorem tablesF {W : World} (h' : laidMet Tryz.prog Rows.feedShortRow.laid W) (hS : W.ShapedOpen Tryz.prog) : TabF W := by
 refine ⟨?_, ?_, ?_, ?_⟩
 ·obtain ⟨a, s, hv, _⟩ := laid_sentinel (ti := 133) (tp := 230) (te := 232) (ts := 9) h'.tail.tail.tail.tail.tail.tail.tail syn_at (by kernel_rfl) Tryz.underlying133 errRow Tryz.underlying230 Tryz.underlying232 rfl rfl Tryz.underlying9 (by kernel_rfl) (by kernel_rfl)
  exact ⟨max_any W hS, ⟨_, _, by rw [World.var?_cell syn_at hv 0]; rfl⟩⟩
 ·exact tabD_of (Lib.laidMet.reads h' (.tail _ (.head _))) (Lib.laidMet.reads h' (.tail _ (.tail _ (.head _)))) (Lib.laidMet.reads h' (.tail _ (.tail _ (.tail _ (.tail _ (.tail _ (.tail _ (.tail _ (.tail _ (.head _)))))))))) (Lib.laidMet.reads h' (.tail _ (.tail _ (.tail _ (.tail _ (.tail _ (.tail _ (.tail _ (.tail _ (.tail _ (.head _)))))))))))
 ·have h3 := Lib.laidMet.reads h' (.tail _ (.tail _ (.tail _ (.tail _ (.tail _ (.tail _ (.tail _ (.tail _ (.tail _ (.tail _ (.head _)))))))))))
  have h4 := Lib.laidMet.reads h' (.tail _ (.tail _ (.tail _ (.tail _ (.tail _ (.head _))))))
  rw [utf_eq] at h3
  rw [acc_eq] at h4
  exact utf8Tabs_of_readsT (ρ := Tryz.lays237_ren) { Tryz.lays237 with } ⟨by kernel_rfl, by kernel_rfl, by kernel_rfl, by kernel_rfl, by kernel_rfl, by kernel_rfl, by kernel_rfl⟩ h3 h4
 ·exact tabS_of (Lib.laidMet.reads h' (.tail _ (.tail _ (.tail _ (.head _))))) (Lib.laidMet.reads h' (.tail _ (.tail _ (.tail _ (.tail _ (.head _))))))
def putCells (cs : Array Value) : Obj → Obj
 | .cells _ t frozen => .cells cs t frozen
 | o => o
def synT : ByteArray := ⟨#[105, 110, 118, 97, 108, 105, 100, 32, 115, 121, 110, 116, 97, 120]⟩
def rngT : ByteArray := ⟨#[118, 97, 108, 117, 101, 32, 111, 117, 116, 32, 111, 102, 32, 114, 97, 110, 103, 101]⟩
def layTables (w : World) : World :=
 { w with heap := ((((((((((((w.heap.modify 5 (putCells (Lib.firstTab.map fun z => Value.int .u8 z).toArray)).modify 6 (putCells ((List.range 16).flatMap fun i => [Value.int .u8 (Lib.accLo i), Value.int .u8 (Lib.accHi i)]).toArray)).modify 9 (putCells (pow10Tab.map fun z => Value.int .u64 z).toArray)).modify 10 (putCells (br32.map fun c => Value.int .u8 c.toNat).toArray)).modify 11 (putCells (br64.map fun c => Value.int .u8 c.toNat).toArray)).modify 7 (putCells #[.iface 230 (.pointer (some ⟨w.heap.size, 0, none⟩))])).modify 8 (putCells #[.iface 230 (.pointer (some ⟨w.heap.size + 1, 0, none⟩))])).modify 0 (putCells (wvs H0.l).toArray)).modify 1 (putCells (wvs KSs).toArray)).modify 3 (putCells (strV dayNs).toArray)).modify 4 (putCells (strV monNs).toArray)).push (.cells #[.string synT] 232 (0, 0))).push (.cells #[.string rngT] 232 (0, 0)) }
end Go.Proofs.YtgoiafndapemjaaGreatDoor
namespace Go.Proofs.YtgoiafndapemjaaGreatDoor
open Go.RowKit Go.BigFrame
def FitE1 (N : Nat) (e : EnV) : Prop := e.id.length ≤ N ∧ e.title.length ≤ N ∧ e.link.length ≤ N ∧ e.body.length ≤ N
def FitE (N : Nat) (l : List EnV) : Prop := ∀ e ∈ l, FitE1 N e
def ecs (e : EnV) : Array Value := #[.string (asS e.id), .string (asS e.title), .string (asS e.link), .string (asS e.body), .int .i64 e.time, .bool e.dated]
def evs (l : List EnV) : List Value := l.flatMap fun e => [.string (asS e.id), .string (asS e.title), .string (asS e.link), .string (asS e.body), .int .i64 e.time, .bool e.dated]
theorem evs_len : ∀ l : List EnV, (evs l).length = l.length * 6
 | [] => rfl
 | h :: r => by
  have := evs_len r
  show (_ :: _ :: _ :: _ :: _ :: _ :: evs r).length = _
  simp only [List.length_cons, this]
  omega
theorem evs_at : ∀ (l : List EnV) (j i : Nat) (v : Value), j < l.length → (ecs (l.getD j zeroE))[i]? = some v → (evs l)[j * 6 + i]? = some v
 | [], j, i, v, h, _ => by simp at h
 | h :: r, 0, i, v, _, hv => by
  rw [Nat.zero_mul, Nat.zero_add]
  have hi : i < 6 := by
   have := (Array.getElem?_eq_some_iff.1 hv).1
   exact this
  match i, hi with
  | 0, _ => exact hv
  | 1, _ => exact hv
  | 2, _ => exact hv
  | 3, _ => exact hv
  | 4, _ => exact hv
  | 5, _ => exact hv
 | h :: r, j + 1, i, v, hj, hv => by
  have := evs_at r j i v (by simpa using hj) hv
  rw [show (j + 1) * 6 + i = j * 6 + i + 1 + 1 + 1 + 1 + 1 + 1 from by omega]
  exact this
theorem evs_app (a b : List EnV) : evs (a ++ b) = evs a ++ evs b := by simp [evs]
theorem evs_one (l : List EnV) : ∀ u ∈ evs l, u.oneCell' = true := fun u hu => by
 unfold evs at hu
 rw [List.mem_flatMap] at hu
 obtain ⟨e, _, hu⟩ := hu
 simp only [List.mem_cons, List.not_mem_nil, or_false] at hu
 rcases hu with rfl | rfl | rfl | rfl | rfl | rfl <;> rfl
theorem evs_get (l : List EnV) (k : Nat) (u : Value) (h : (evs l)[k]? = some u) : k / 6 < l.length ∧ (ecs (l.getD (k / 6) zeroE))[k % 6]? = some u := by
 have hk : k < l.length * 6 := by rw [← evs_len]; exact (List.getElem?_eq_some_iff.1 h).1
 have hj : k / 6 < l.length := by omega
 refine ⟨hj, ?_⟩
 have hs : (ecs (l.getD (k / 6) zeroE)).size = 6 := rfl
 have hm : k % 6 < (ecs (l.getD (k / 6) zeroE)).size := by rw [hs]; omega
 have h1 := evs_at l (k / 6) (k % 6) _ hj (Array.getElem?_eq_getElem hm)
 rw [show k / 6 * 6 + k % 6 = k from by omega, h] at h1
 rw [Array.getElem?_eq_getElem hm, h1]
def EntsAt (w : World) (A : Option Addr) (l : List EnV) : Prop :=
 0 < l.length → ∃ q o, A = some ⟨q, o, none⟩ ∧ q < w.heap.size ∧ ∀ j i v, j < l.length → (ecs (l.getD j zeroE))[i]? = some v → w.cell? ⟨q, o + j * 6 + i, none⟩ = some v
theorem EntsAt.below {w w' : World} {A : Option Addr} {l : List EnV} (h : EntsAt w A l) {B : Nat} (hb : Below B w w') (hB : w.heap.size ≤ B) : EntsAt w' A l := fun h0 => by
 obtain ⟨q, o, h1, h2, h3⟩ := h h0
 exact ⟨q, o, h1, Nat.lt_of_lt_of_le h2 hb.size, fun j i v hj hv => (hb.cell (p := ⟨q, o + j * 6 + i, none⟩) (Nat.lt_of_lt_of_le h2 hB)).trans (h3 j i v hj hv)⟩
theorem EntsAt.nil (w : World) (A : Option Addr) : EntsAt w A [] := fun h => absurd h (by simp)
def EntsV (w : World) (v : Value) (l : List EnV) : Prop := ∃ A c, v = .slice A l.length c ∧ EntsAt w A l
theorem EntsV.nil (w : World) : EntsV w (.slice none 0 0) [] := ⟨none, 0, rfl, EntsAt.nil _ _⟩
theorem infoE : (Tryz.prog.info? 40).map (·.size) = some 6 := by kernel_rfl
theorem enK : KCells Tryz.prog 6 28 40 := ⟨Tryz.underlying28, by
 obtain ⟨i, h1, h2, h3, h4⟩ := info_parts (show (Tryz.prog.info? 40).map (fun i => (i.zero, i.size, i.bytes)) = some (some (.agg #[.string ⟨#[]⟩, .string ⟨#[]⟩, .string ⟨#[]⟩, .string ⟨#[]⟩, .int .i64 0, .bool false]), 6, 80) from by kernel_rfl)
 exact ⟨i, _, h1, h2, h3, by omega, rfl⟩⟩
def OwnE (w : World) (b : Nat) (v : Value) (l : List EnV) : Prop := (v = .slice none 0 0 ∧ l = []) ∨ ∃ g cap, v = .slice (some ⟨g, 0, none⟩) l.length cap ∧ OwnK w 6 40 b g l.length cap (evs l)
theorem OwnE.nil (w : World) (b : Nat) : OwnE w b (.slice none 0 0) [] := .inl ⟨rfl, rfl⟩
theorem OwnE.zero (w : World) (b : Nat) (hb : b ≤ w.heap.size) : OwnE (w.alloc (.cells #[] 40)) b (.slice (some ⟨w.heap.size, 0, none⟩) 0 0) [] := .inr ⟨_, 0, rfl, OwnK.zero w 6 _ b hb⟩
theorem OwnE.below {w w' : World} {b : Nat} {v : Value} {l : List EnV} (h : OwnE w b v l) (hb : Below w.heap.size w w') : OwnE w' b v l := by
 rcases h with h | ⟨g, cap, h1, h2⟩
 ·exact .inl h
 ·exact .inr ⟨g, cap, h1, h2.below hb (Nat.le_refl _)⟩
theorem OwnE.ents {w : World} {b : Nat} {v : Value} {l : List EnV} (h : OwnE w b v l) : EntsV w v l := by
 rcases h with ⟨rfl, rfl⟩ | ⟨g, cap, rfl, h2⟩
 ·exact EntsV.nil w
 ·refine ⟨_, cap, rfl, fun _ => ⟨g, 0, rfl, h2.lt, fun j i v hj hv => ?_⟩⟩
  rw [Nat.zero_add]
  exact h2.at _ _ (evs_at l j i v hj hv)
theorem OwnE.shape {w : World} {b : Nat} {v : Value} {l : List EnV} (h : OwnE w b v l) : ∃ A c, v = .slice A l.length c := by
 obtain ⟨A, c, h1, _⟩ := h.ents
 exact ⟨A, c, h1⟩
theorem run_en (ty : TypeId) {w : World} {b : Nat} {v x : Value} {l ys : List EnV} (h : OwnE w b v l) (hs : Src Tryz.prog 6 28 x ys.length (evs ys) w) (h0 : 0 < ys.length ∨ v ≠ .slice none 0 0) (hn : l.length + ys.length ≤ 1000000) (hb : b ≤ w.heap.size) :
  ∃ v' w', (Builtin.append_ #[28, 28] ty #[v, x]).run Tryz.prog w = .ok v' w' ∧ OwnE w' b v' (l ++ ys) ∧ Below b w w' := by
 rcases h with ⟨rfl, rfl⟩ | ⟨g, cap, rfl, h2⟩
 ·have h1 : 0 < ys.length := h0.elim id (fun h => absurd rfl h)
  obtain ⟨cap, w', h1, h2, h3⟩ := run_nilK enK ty x hs h1 (by omega) hb
  exact ⟨_, w', h1, .inr ⟨_, cap, rfl, h2⟩, h3.mono hb⟩
 ·obtain ⟨g', cap', w', h1, h3, h4, _⟩ := h2.run_app enK ty x hs (by omega) hb
  refine ⟨_, w', h1, .inr ⟨g', cap', by rw [List.length_append], by rw [List.length_append, evs_app]; exact h3⟩, h2.grown (Below.refl _ _) hb h4⟩
theorem wpList_en {ops : Array Oper} {rest : List Oper} {o : Oper} {a : Act} {w : World} {Q : Exit → Act → World → Prop} (hgd : o.guard = none) (s x : Operand)
  (ho : o.op = .call { callee := .builtin .append, args := #[s, x], argTypes := #[28, 28] })
  (base : Nat) (v xv : Value) (l ys : List EnV) (hs : a.eval s = v) (hx : a.eval x = xv) (hown : OwnE w base v l)
  (hA : Src Tryz.prog 6 28 xv ys.length (evs ys) w) (h0 : 0 < ys.length ∨ v ≠ .slice none 0 0) (hn : l.length + ys.length ≤ 1000000) (hbase : base ≤ w.heap.size)
  (h : ∀ v' w', OwnE w' base v' (l ++ ys) → Below base w w' → wpList Tryz.prog ops Q rest (a.put o.dst v') w') : wpList Tryz.prog ops Q (o :: rest) a w := by
 refine wpList_plain hgd fun _ hK => ?_
 obtain ⟨v', w', hr, h2, h3⟩ := run_en o.type hown hA h0 hn hbase
 unfold Oper.wp execOp
 simp only [ho, resolve, invoke, builtin, Sem.run_bind, Sem.run_pure, Result.andThen_ok, List.map_toArray, List.map_cons, List.map_nil, hs, hx, hr]
 exact hK _ _ (h v' w' h2 h3)
theorem src_en (w : World) (e : EnV) (g c : Nat) (h : w.heap[g]? = some (.cells (ecs e) 40 (0, 0))) : Src Tryz.prog 6 28 (.slice (some ⟨g, 0, none⟩) 1 c) [e].length (evs [e]) w :=
 src_litK enK _ g 1 c (evs [e]) rfl h (evs_one [e])
theorem src_ents {w : World} {A : Option Addr} {l : List EnV} (hA : EntsAt w A l) (c : Nat) : Src Tryz.prog 6 28 (.slice A l.length c) l.length (evs l) w := by
 by_cases h0 : l.length = 0
 ·obtain rfl := List.length_eq_zero_iff.1 h0
  cases A with
  | none => exact Src.ofNil w Tryz.underlying28 c
  | some a => exact Src.ofSlice w Tryz.underlying28 a 0 c [] rfl (fun j u h => by simp at h) (fun u h => by cases h)
 ·obtain ⟨q, o, rfl, hq, hc⟩ := hA (by omega)
  refine Src.ofSlice w Tryz.underlying28 ⟨q, o, none⟩ l.length c (evs l) (evs_len l) (fun j u hu => ?_) (evs_one l)
  obtain ⟨h1, h2⟩ := evs_get l j u hu
  have := hc (j / 6) (j % 6) u h1 h2
  rw [Addr.add_mid, show o + j = o + j / 6 * 6 + j % 6 from by omega]
  exact this
theorem loadE_eq (x : Value) : Instr.loadAt 40 x = loadI 40 x := rfl
theorem storeE_eq (x v : Value) : Instr.storeAt 40 x v = storeI 40 x v := rfl
theorem loadE_mid {w : World} {q o : Nat} {e : EnV} (h : ∀ i v, (ecs e)[i]? = some v → w.cell? ⟨q, o + i, none⟩ = some v) : (loadI 40 (.pointer (some ⟨q, o, none⟩))).run Tryz.prog w = .ok (.agg (ecs e)) w :=
 run_loadAt_mid w q o 40 [.string (asS e.id), .string (asS e.title), .string (asS e.link), .string (asS e.body), .int .i64 e.time, .bool e.dated] _ (fun j v hv => by
  refine h j v ?_
  rw [show ecs e = ([.string (asS e.id), .string (asS e.title), .string (asS e.link), .string (asS e.body), .int .i64 e.time, .bool e.dated] : List Value).toArray from rfl, List.getElem?_toArray]
  exact hv) Tryz.underlying40 rfl infoE
theorem EntsAt.load {w : World} {A : Option Addr} {l : List EnV} (h : EntsAt w A l) (j : Nat) (hj : j < l.length) : ∃ q o, A = some ⟨q, o, none⟩ ∧ q < w.heap.size ∧ (loadI 40 (.pointer (some ⟨q, o + j * 6, none⟩))).run Tryz.prog w = .ok (.agg (ecs (l.getD j zeroE))) w := by
 obtain ⟨q, o, h1, h2, h3⟩ := h (by omega)
 exact ⟨q, o, h1, h2, loadE_mid fun i v hv => h3 j i v hj hv⟩
theorem loadE_run {w : World} {g : Nat} {cs : Array Value} {fr : Nat × Nat} (hg : w.heap[g]? = some (.cells cs 40 fr)) (hz : cs.size = 6) : (loadI 40 (.pointer (some ⟨g, 0, none⟩))).run Tryz.prog w = .ok (.agg cs) w := by
 have := run_loadVar_row w g 40 40 cs fr _ hg Tryz.underlying40 rfl (by rw [hz]; exact infoE)
 unfold loadI
 simp only [Instr.loadAt, Instr.sureAddr, Sem.run_bind, Sem.run_pure, Result.andThen_ok, this]
theorem ret_en {fn : Func} {p : Tmp} (h : fn.results = #[.cell p 40]) (tmps : Array Value) (w : World) (b : Nat) (cs : Array Value) (hz : cs.size = 6) (fr : Nat × Nat) (hp : tmps.getD p undef = .pointer (some ⟨b, 0, none⟩)) (hrow : w.heap[b]? = some (.cells cs 40 fr)) :
  (results fn tmps).run Tryz.prog w = .ok (.agg cs) w :=
 results_cell_row h tmps w b 40 cs fr _ hp hrow Tryz.underlying40 rfl (by rw [hz]; exact infoE)
def fldE (n : String) (t o bo : Nat) : Field := { name := n, type := t, offset := o, embedded := false, tag := "", pkgPath := "", byteOffset := bo }
theorem fieldsE : (Tryz.prog.fieldsOf 40).toList = [fldE "Id" 9 0 0, fldE "Title" 9 1 16, fldE "Link" 9 2 32, fldE "Body" 9 3 48, fldE "Time" 2 4 64, fldE "Dated" 4 5 72] := by kernel_rfl
theorem eqF_self (d : Nat) (cs : Array Value) (f : Field) (rest : List Field) (v : Value) (hf : f.name ≠ "_") (w : World) (hp : (part f.type cs f.offset).run Tryz.prog w = .ok v w) (he : (Op.equalIn (d + 1) f.type v v).run Tryz.prog w = .ok true w)
  (hr : (Op.eqFields (d + 1) cs cs rest).run Tryz.prog w = .ok true w) : (Op.eqFields (d + 1) cs cs (f :: rest)).run Tryz.prog w = .ok true w := by
 simp only [Op.eqFields, Sem.run_bind, Sem.run_ite, if_pos hf, hp, he, Result.andThen_ok, Sem.run_pure]
 simp [hr]
theorem eqEn (e : EnV) (w : World) : (Op.equalIn 10000 40 (.agg (ecs e)) (.agg (ecs e))).run Tryz.prog w = .ok true w := by
 have hs : Tryz.prog.underlying 40 = some (.struct (Tryz.prog.fieldsOf 40)) := by kernel_rfl
 rw [show (10000 : Nat) = 9998 + 1 + 1 from rfl, run_equalIn_struct w (9998 + 1) 40 _ _ hs (by kernel_rfl), fieldsE]
 refine eqF_self 9998 _ _ _ (.string (asS e.id)) (by decide) w (by simp [part, fldE, ecs, Tryz.isAgg9]) (by rw [show (fldE "Id" 9 0 0).type = 9 from rfl, run_equalIn_string (P := Tryz.prog) w 9998 9 _ _ Tryz.underlying9]; simp) ?_
 refine eqF_self 9998 _ _ _ (.string (asS e.title)) (by decide) w (by simp [part, fldE, ecs, Tryz.isAgg9]) (by rw [show (fldE "Title" 9 1 16).type = 9 from rfl, run_equalIn_string (P := Tryz.prog) w 9998 9 _ _ Tryz.underlying9]; simp) ?_
 refine eqF_self 9998 _ _ _ (.string (asS e.link)) (by decide) w (by simp [part, fldE, ecs, Tryz.isAgg9]) (by rw [show (fldE "Link" 9 2 32).type = 9 from rfl, run_equalIn_string (P := Tryz.prog) w 9998 9 _ _ Tryz.underlying9]; simp) ?_
 refine eqF_self 9998 _ _ _ (.string (asS e.body)) (by decide) w (by simp [part, fldE, ecs, Tryz.isAgg9]) (by rw [show (fldE "Body" 9 3 48).type = 9 from rfl, run_equalIn_string (P := Tryz.prog) w 9998 9 _ _ Tryz.underlying9]; simp) ?_
 refine eqF_self 9998 _ _ _ (.int .i64 e.time) (by decide) w (by simp [part, fldE, ecs, Tryz.isAgg2]) (by rw [show (fldE "Time" 2 4 64).type = 2 from rfl, run_equalIn_int (P := Tryz.prog) w 9998 2 .i64 .i64 _ _ Tryz.underlying2]; simp) ?_
 refine eqF_self 9998 _ _ _ (.bool e.dated) (by decide) w (by simp [part, fldE, ecs, Tryz.isAgg4]) (by rw [show (fldE "Dated" 4 5 72).type = 4 from rfl, run_equalIn_bool (P := Tryz.prog) w 9998 4 _ _ Tryz.underlying4]; simp) ?_
 exact eqFn9 9998 _ _ w
theorem guardE : Tryz.prog.eqGuardType Tryz.prog.depth 40 = false := by kernel_rfl
end Go.Proofs.YtgoiafndapemjaaGreatDoor
