import Derived.Test.YtgoiafndapemjaaGreatDoorP29
import Derived.Deep.DeepCutAuto
import Derived.Test.YtgoiafndapemjaaGreatDoorP02
import Derived.Test.YtgoiafndapemjaaGreatDoorP24
import Derived.Test.YtgoiafndapemjaaGreatDoorP14
import Derived.Test.YtgoiafndapemjaaGreatDoorRows
import Derived.Stop.LaidErr
import Derived.Lib.LaidU8
import Derived.Lib.LaidU8T
import Derived.Lib.ItoaNum
import Derived.Test.YtgoiafndapemjaaGreatDoorP11
import Derived.Deep.Cut
set_option linter.unusedVariables false
set_option linter.unusedSimpArgs false
set_option maxHeartbeats 1000000
namespace Go.Proofs.YtgoiafndapemjaaGreatDoor
open Go.RowKit Go.BigFrame
def trmL (l : List UInt8) : List UInt8 := (trm (asS l)).data.toList
theorem trmL_len (l : List UInt8) : (trmL l).length ≤ l.length := by
 have := trm_size (asS l)
 rw [asS_size, Lib.size_eq] at this
 exact this
theorem trmL_as (l : List UInt8) : asS (trmL l) = trm (asS l) := asS_of _
theorem trimL_any (l : List UInt8) (hl : l.length ≤ 90000) (w : World) (hT : Lib.Utf8Tabs 5 6 w) : Calls Tryz.prog 123 #[.string (asS l)] w fun e w' => e = .returned (.string (asS (trmL l))) ∧ Below w.heap.size w w' := by
 rw [trmL_as]
 exact trim_any (asS l) w (by rw [asS_size]; omega) hT
def anyL (l : List UInt8) : Option Int := match p3339 (trmL l) with
 | some v => some v
 | none => p822 (trmL l)
theorem any_any (l : List UInt8) (hl : l.length ≤ 90000) (w : World) (hT : TabD w) (hU : Lib.Utf8Tabs 5 6 w) : Calls Tryz.prog 121 #[.string (asS l)] w fun e w' => e = .returned (optT (anyL l)) ∧ Below w.heap.size w w' := by
 have H1 := hid (trimL_any l hl w hU)
 have hl2 : (trmL l).length ≤ 90000 := Nat.le_trans (trmL_len l) hl
 have H2 := hid (fun W => p3339_any (trmL l) (by omega) W)
 have H3 := hid (fun W h => p822_any (trmL l) (by omega) W h)
 have HTT := hid hT
 unfold anyL
 clear hT hU
 generalize p3339 (trmL l) = A at *
 generalize p822 (trmL l) = B at *
 generalize asS (trmL l) = s1 at *
 generalize asS l = s0 at *
 cases A with
 | some v =>
  change Hid (∀ W : World, Calls Tryz.prog 152 #[.string s1] W fun e w' => e = .returned (.tuple #[.int .i64 v, .int .i64 0]) ∧ Below W.heap.size W w') at H2
  go_enter Tryz.func121, Tryz.ntmps121
  go_wp2_with (first
   | (go_at_call 123; refine H1.out.mono ?_; rintro e w1 ⟨rfl, hb1⟩)
   | (go_at_call 152; refine (H2.out _).mono ?_; rintro e w2 ⟨rfl, hb2⟩)
   | fail)
  go_ret2
  exact ⟨rfl, b_two hb1 hb2⟩
 | none =>
  change Hid (∀ W : World, Calls Tryz.prog 152 #[.string s1] W fun e w' => e = .returned (.tuple #[.int .i64 0, .int .i64 5]) ∧ Below W.heap.size W w') at H2
  show Calls Tryz.prog 121 #[.string s0] w fun e w' => e = .returned (optT B) ∧ Below w.heap.size w w'
  cases B
  all_goals unfold optT at H3
  all_goals go_enter Tryz.func121, Tryz.ntmps121
  all_goals go_wp2_with (first
   | (go_at_call 123; refine H1.out.mono ?_; rintro e w1 ⟨rfl, hb1⟩)
   | (go_at_call 152; refine (H2.out _).mono ?_; rintro e w2 ⟨rfl, hb2⟩)
   | (go_at_call 153; refine (H3.out _ (HTT.out.below (b_two hb1 hb2))).mono ?_; rintro e w3 ⟨rfl, hb3⟩)
   | fail)
  all_goals go_ret2
  all_goals exact ⟨rfl, b_two (b_two hb1 hb2) hb3⟩
end Go.Proofs.YtgoiafndapemjaaGreatDoor
namespace Go.Proofs.YtgoiafndapemjaaGreatDoor
def or2 (a b : Option Int) : Option Int := match a with
 | some v => some v
 | none => b
def mkE (title link body : List UInt8) (time : Option Int) (name : List UInt8) : EnV := ⟨idL (orL name link) title body, title, link, body, time.getD 0, time.isSome⟩
def rssE (d : Nat) (t : Tr d) : EnV := mkE (shL (kidL titleN d t)) (shL (kidL linkN d t)) (shL (kidL descN d t)) (anyL (kidL pubN d t)) (trmL (kidL guidN d t))
def atomE (d : Nat) (t : Tr d) : EnV := mkE (shL (kidL titleN d t)) (linkA d t) (orL (shL (kidL sumN' d t)) (shL (kidL contN d t))) (or2 (anyL (kidL updN d t)) (anyL (kidL pubdN d t))) (trmL (kidL idN d t))
def rssF (d : Nat) (t : Tr d) : FeV := ⟨shL (kidL titleN d t), shL (kidL linkN d t), firstsU EnV.id ((fndT itemN (d - 1) (kidsT d t)).map (rssE (d - 1)))⟩
def atomF (d : Nat) (t : Tr d) : FeV := ⟨shL (kidL titleN d t), linkA d t, firstsU EnV.id ((fndT entryN (d - 1) (kidsT d t)).map (atomE (d - 1)))⟩
def readT (d : Nat) (t : Tr d) : Option FeV :=
 if nmT d t = rssN then (match firstT chanN d t with
  | none => none
  | some c => some (rssF (d - 1) c))
 else if nmT d t = feedN then some (atomF d t) else none
end Go.Proofs.YtgoiafndapemjaaGreatDoor
namespace Go.Proofs.YtgoiafndapemjaaGreatDoor
open Go.RowKit Go.BigFrame
structure TabF (w : World) : Prop where
 e : TabE w
 d : TabD w
 u : Lib.Utf8Tabs 5 6 w
 s : TabS w
theorem TabF.below {w w' : World} (h : TabF w) (hb : Below w.heap.size w w') : TabF w' := ⟨h.e.below hb, h.d.below hb, tabs_below h.u hb, h.s.below hb h.s.lt⟩
theorem TabF.big {w : World} (h : TabF w) : 8 ≤ w.heap.size := by
 have h1 : 11 < w.heap.size := h.d.big
 omega
end Go.Proofs.YtgoiafndapemjaaGreatDoor
namespace Go.Proofs.YtgoiafndapemjaaGreatDoor
open Go.RowKit Go.Lib
set_option maxRecDepth 100000
theorem own : ownKnob Tryz.prog.godebug = none := by kernel_rfl
def br32 : List UInt8 := [0, 1, 28, 2, 29, 14, 24, 3, 30, 22, 20, 15, 25, 17, 4, 8, 31, 27, 13, 23, 21, 19, 16, 7, 26, 12, 18, 6, 11, 5, 10, 9]
def br64 : List UInt8 := [0, 1, 56, 2, 57, 49, 28, 3, 61, 58, 42, 50, 38, 29, 17, 4, 62, 47, 59, 36, 45, 43, 51, 22, 53, 39, 33, 30, 24, 18, 12, 5, 63, 55, 48, 27, 60, 41, 37, 16, 46, 35, 44, 21, 52, 32, 23, 11, 54, 26, 40, 15, 34, 20, 31, 10, 25, 14, 19, 9, 13, 8, 7, 6]
theorem max_any (w : World) (h : w.ShapedOpen Tryz.prog) : ∃ m, w.cell? ⟨2, 0, none⟩ = some (.int .i64 m) := Go.Proofs.cell_of_shapedOpen_int (zero := #[.int .i64 0]) (t := 3) h (of_decide_eq_true (by kernel_rfl)) (by kernel_rfl) rfl (by kernel_rfl) (by kernel_rfl) Tryz.underlying3
def errName : String := match (Rows.laid_strconv_ErrSyntax : DataW Unit) with
 | .iface n _ => n
 | _ => default
theorem errRows (s : String) (h : s = errName) : ((List.range Tryz.prog.types.size).all fun u => Tryz.prog.typeName? 3 u != some s || u == 230) = true := by
 subst h
 kernel_rfl
theorem errRow (u : TypeId) (h : Tryz.prog.typeName? 3 u = some errName) : u = 230 :=
 typeName_ptr_named (nm := "errors.errorString") (errRows _ (by decide)) (by kernel_rfl) (by decide) u (h.trans (congrArg some (by decide)))
theorem syn_at : Tryz.prog.globalNamed "strconv.ErrSyntax" = some 7 := by kernel_rfl
def bruName : String := (Rows.feedShortRow.laid.map (·.1)).getD 1 default
def dayName : String := (Rows.feedShortRow.laid.map (·.1)).getD 8 default
def monName : String := (Rows.feedShortRow.laid.map (·.1)).getD 9 default
theorem bru_eq : (Rows.laid_math_bits_deBruijn64tab : DataW Unit) = tabData .u8 (br64.map fun c => (c.toNat : Int)) := by kernel_rfl
theorem pow_eq : (Rows.laid_internal_strconv_uint64pow10 : DataW Unit) = tabData .u64 pow10Tab := by kernel_rfl
def strData {H : Type} (l : List (List UInt8)) : DataW H := .agg (l.map fun x => .lit (.string x))
theorem day_eq : (Rows.laid_lantern_date_dayNames : DataW Unit) = strData dayNs := by kernel_rfl
theorem mon_eq : (Rows.laid_lantern_date_monthNames : DataW Unit) = strData monNs := by kernel_rfl
theorem acc_eq : (Rows.laid_unicode_utf8_acceptRanges : DataW Unit) = Lib.acceptData := by kernel_rfl
theorem utf_eq : Rows.laid_unicode_utf8_first = Lib.firstData := by kernel_rfl
theorem cells_of_strs {H : Type} {enc : TypeId × Value → H} {P : Program} {w : World} {base : Nat} {sp : Nat → Bool} {held : Bool} {fuel : Nat} {t e : TypeId} {n : Nat} {cs : List Value} {l : List (List UInt8)} {p : List MemPlace}
  (ht : P.underlying t = some (.array n e)) (he : P.underlying e = some .string) (hce : P.cellsOf e = 1) (hct : P.cellsOf t = n)
  (h : DataW.trod enc P w base sp held fuel t cs = some (strData l, p)) : cs = strV l := by
 cases fuel with
 | zero => simp [DataW.trod] at h
 | succ fuel =>
  simp only [DataW.trod, ht, hce, hct, Nat.mul_one] at h
  split at h
  ·rename_i hl
   obtain ⟨xs, hm, hx⟩ := Option.map_eq_some_iff.1 h
   have hxs : xs.map (·.1) = l.map fun x => (DataW.lit (.string x) : DataW H) := by
    have := congrArg Prod.fst hx
    simpa [strData] using this
   have hxl : xs.length = n := by simpa using mapM_length hm
   have hzl : l.length = n := by
    have := congrArg List.length hxs
    simp at this
    omega
   apply List.ext_getElem?
   intro i
   by_cases hi : i < n
   ·obtain ⟨b, hb, hf⟩ := mapM_at hm i i (by simp [hi])
    obtain ⟨z, hc, rfl, _⟩ := DataW.trod_string he hf
    have h1 : cs[i]? = some (.string z) := by
     have := congrArg (·[0]?) hc
     simpa [List.getElem?_take, List.getElem?_drop] using this
    have h2 : (xs.map (·.1))[i]? = some (DataW.lit (.string z.data.toList) : DataW H) := by simp [hb]
    rw [hxs] at h2
    simp only [List.getElem?_map, Option.map_eq_some_iff, DataW.lit.injEq, Lit.string.injEq] at h2
    obtain ⟨z', hz', e⟩ := h2
    unfold strV
    rw [h1, List.getElem?_map, hz', Option.map_some, e]
    exact congrArg (fun x => some (Value.string x)) (asS_of z).symm
   ·unfold strV
    rw [List.getElem?_eq_none (by omega), List.getElem?_eq_none (by simp; omega)]
  ·cases h
theorem tabD_of {W : World} (hb : VarReads Tryz.prog W bruName Rows.laid_math_bits_deBruijn64tab) (hp : VarReads Tryz.prog W pow8 Rows.laid_internal_strconv_uint64pow10) (hd : VarReads Tryz.prog W dayName Rows.laid_lantern_date_dayNames) (hm : VarReads Tryz.prog W monName Rows.laid_lantern_date_monthNames) : TabD W := by
 rw [bru_eq] at hb
 rw [pow_eq] at hp
 rw [day_eq] at hd
 rw [mon_eq] at hm
 refine ⟨?_, ?_, ?_, ?_⟩
 ·obtain ⟨g, t, cs, fuel, p, hg, hty, hvar, hd⟩ := hb
  obtain rfl := Option.some.inj ((show Tryz.prog.globalNamed bruName = some 11 by kernel_rfl).symm.trans hg)
  obtain rfl := Option.some.inj ((show (Tryz.prog.globals[11]?).map (·.type) = some 159 by kernel_rfl).symm.trans hty)
  have hcs := cells_of_tab Tryz.underlying159 Tryz.underlying5 (by kernel_rfl) (by kernel_rfl) hd
  have hb : W.cell? ⟨11, 15, none⟩ = some (.int .u8 4) := by
   rw [World.var?_cell hg hvar 15, ← Array.getElem?_toList, hcs]
   rfl
  exact block_lt_of_cell hb
 ·obtain ⟨g, t, cs, fuel, p, hg, hty, hvar, hd⟩ := hp
  obtain rfl := Option.some.inj (pow8_at.symm.trans hg)
  obtain rfl := Option.some.inj ((show (Tryz.prog.globals[9]?).map (·.type) = some 240 by kernel_rfl).symm.trans hty)
  have hcs := cells_of_tab Tryz.underlying240 Tryz.underlying104 (by kernel_rfl) (by kernel_rfl) hd
  show W.var? Tryz.prog pow8 = _
  refine Eq.trans hvar ?_
  rw [← hcs]
 ·obtain ⟨g, t, cs, fuel, p, hg, hty, hvar, hd⟩ := hd
  obtain rfl := Option.some.inj ((show Tryz.prog.globalNamed dayName = some 3 by kernel_rfl).symm.trans hg)
  obtain rfl := Option.some.inj ((show (Tryz.prog.globals[3]?).map (·.type) = some 203 by kernel_rfl).symm.trans hty)
  have hcs := cells_of_strs Tryz.underlying203 Tryz.underlying9 (by kernel_rfl) (by kernel_rfl) hd
  intro j v hv
  rw [Nat.zero_add, World.var?_cell hg hvar j, ← Array.getElem?_toList, hcs]
  exact hv
 ·obtain ⟨g, t, cs, fuel, p, hg, hty, hvar, hd⟩ := hm
  obtain rfl := Option.some.inj ((show Tryz.prog.globalNamed monName = some 4 by kernel_rfl).symm.trans hg)
  obtain rfl := Option.some.inj ((show (Tryz.prog.globals[4]?).map (·.type) = some 204 by kernel_rfl).symm.trans hty)
  have hcs := cells_of_strs Tryz.underlying204 Tryz.underlying9 (by kernel_rfl) (by kernel_rfl) hd
  intro j v hv
  rw [Nat.zero_add, World.var?_cell hg hvar j, ← Array.getElem?_toList, hcs]
  exact hv
theorem sha1_eq : (Rows.laid_lantern_sha_first : DataW Unit) = tabData .u32 (H0.l.map nv) := by kernel_rfl
theorem sha2_eq : (Rows.laid_lantern_sha_rounds : DataW Unit) = tabData .u32 (KSs.map nv) := by kernel_rfl
def sh1Name : String := (Rows.feedShortRow.laid.map (·.1)).getD 3 default
def sh2Name : String := (Rows.feedShortRow.laid.map (·.1)).getD 4 default
theorem tabS_of {W : World} (h3 : VarReads Tryz.prog W sh1Name Rows.laid_lantern_sha_first) (h4 : VarReads Tryz.prog W sh2Name Rows.laid_lantern_sha_rounds) : TabS W := by
 rw [sha1_eq] at h3
 rw [sha2_eq] at h4
 refine ⟨fun j v hv => ?_, fun j v hv => ?_⟩
 ·obtain ⟨g, t, cs, fuel, p, hg, hty, hvar, hd⟩ := h3
  obtain rfl := Option.some.inj ((show Tryz.prog.globalNamed sh1Name = some 0 by kernel_rfl).symm.trans hg)
  obtain rfl := Option.some.inj ((show (Tryz.prog.globals[0]?).map (·.type) = some 107 by kernel_rfl).symm.trans hty)
  have hcs := cells_of_tab Tryz.underlying107 Tryz.underlying106 (by kernel_rfl) (by kernel_rfl) hd
  rw [Nat.zero_add, World.var?_cell hg hvar j, ← Array.getElem?_toList, hcs, List.map_map]
  exact hv
 ·obtain ⟨g, t, cs, fuel, p, hg, hty, hvar, hd⟩ := h4
  obtain rfl := Option.some.inj ((show Tryz.prog.globalNamed sh2Name = some 1 by kernel_rfl).symm.trans hg)
  obtain rfl := Option.some.inj ((show (Tryz.prog.globals[1]?).map (·.type) = some 108 by kernel_rfl).symm.trans hty)
  have hcs := cells_of_tab Tryz.underlying108 Tryz.underlying106 (by kernel_rfl) (by kernel_rfl) hd
  rw [Nat.zero_add, World.var?_cell hg hvar j, ← Array.getElem?_toList, hcs, List.map_map]
  exact hv
theorem tablesF {W : World} (h' : laidMet Tryz.prog Rows.feedShortRow.laid W) (hS : W.ShapedOpen Tryz.prog) : TabF W := by
 refine ⟨?_, ?_, ?_, ?_⟩
 ·obtain ⟨a, s, hv, _⟩ := laid_sentinel (ti := 133) (tp := 230) (te := 232) (ts := 9) h'.tail.tail.tail.tail.tail.tail.tail syn_at (by kernel_rfl) Tryz.underlying133 errRow Tryz.underlying230 Tryz.underlying232 rfl rfl Tryz.underlying9 (by kernel_rfl) (by kernel_rfl)
  exact ⟨max_any W hS, ⟨_, _, by rw [World.var?_cell syn_at hv 0]; rfl⟩⟩
 ·exact tabD_of (Lib.laidMet.reads h' (.tail _ (.head _))) (Lib.laidMet.reads h' (.tail _ (.tail _ (.head _)))) (Lib.laidMet.reads h' (.tail _ (.tail _ (.tail _ (.tail _ (.tail _ (.tail _ (.tail _ (.tail _ (.head _)))))))))) (Lib.laidMet.reads h' (.tail _ (.tail _ (.tail _ (.tail _ (.tail _ (.tail _ (.tail _ (.tail _ (.tail _ (.head _)))))))))))
 ·have h3 := Lib.laidMet.reads h' (.tail _ (.tail _ (.tail _ (.tail _ (.tail _ (.tail _ (.tail _ (.tail _ (.tail _ (.tail _ (.head _)))))))))))
  have h4 := Lib.laidMet.reads h' (.tail _ (.tail _ (.tail _ (.tail _ (.tail _ (.head _))))))
  rw [utf_eq] at h3
  rw [acc_eq] at h4
  exact utf8Tabs_of_readsT (ρ := Tryz.lays237_ren) { Tryz.lays237 with } ⟨by kernel_rfl, by kernel_rfl, by kernel_rfl, by kernel_rfl, by kernel_rfl, by kernel_rfl, by kernel_rfl⟩ h3 h4
 ·exact tabS_of (Lib.laidMet.reads h' (.tail _ (.tail _ (.tail _ (.head _))))) (Lib.laidMet.reads h' (.tail _ (.tail _ (.tail _ (.tail _ (.head _))))))
def putCells (cs : Array Value) : Obj → Obj
 | .cells _ t frozen => .cells cs t frozen
 | o => o
def synT : ByteArray := ⟨#[105, 110, 118, 97, 108, 105, 100, 32, 115, 121, 110, 116, 97, 120]⟩
def rngT : ByteArray := ⟨#[118, 97, 108, 117, 101, 32, 111, 117, 116, 32, 111, 102, 32, 114, 97, 110, 103, 101]⟩
def layTables (w : World) : World :=
 { w with heap := ((((((((((((w.heap.modify 5 (putCells (Lib.firstTab.map fun z => Value.int .u8 z).toArray)).modify 6 (putCells ((List.range 16).flatMap fun i => [Value.int .u8 (Lib.accLo i), Value.int .u8 (Lib.accHi i)]).toArray)).modify 9 (putCells (pow10Tab.map fun z => Value.int .u64 z).toArray)).modify 10 (putCells (br32.map fun c => Value.int .u8 c.toNat).toArray)).modify 11 (putCells (br64.map fun c => Value.int .u8 c.toNat).toArray)).modify 7 (putCells #[.iface 230 (.pointer (some ⟨w.heap.size, 0, none⟩))])).modify 8 (putCells #[.iface 230 (.pointer (some ⟨w.heap.size + 1, 0, none⟩))])).modify 0 (putCells (wvs H0.l).toArray)).modify 1 (putCells (wvs KSs).toArray)).modify 3 (putCells (strV dayNs).toArray)).modify 4 (putCells (strV monNs).toArray)).push (.cells #[.string synT] 232 (0, 0))).push (.cells #[.string rngT] 232 (0, 0)) }
end Go.Proofs.YtgoiafndapemjaaGreatDoor
namespace Go.Proofs.YtgoiafndapemjaaGreatDoor
open Go.RowKit
theorem refHex_any (l : List UInt8) (A : Option Addr) (cap q o : Nat) (w : World) (hA : 0 < l.length → A = some ⟨q, o, none⟩) (hqs : q < w.heap.size)
  (hsrc : ∀ j, j < l.length → w.cell? ⟨q, o + j, none⟩ = some (.int .u8 (l.getD j 0).toNat)) (hlen : l.length ≤ 1000000) :
  Calls Tryz.prog 49 #[.slice A l.length cap] w fun e w' => e = .returned (.string ⟨(hexB l).toArray⟩) ∧ Below w.heap.size w w' := by
 have HSRC := hid hsrc
 have HA := hid hA
 obtain ⟨i0, hi, hz0, hz1, hz2⟩ := info_parts info5
 have HI := hid hi
 have HI0 := hid hz0
 have HI1 := hid hz1
 have HI2 := hid hz2
 have HX : Hid (∀ k, l.length ≤ k → hexB (l.take k) = hexB l) := fun k hk => by rw [List.take_of_length_le hk]
 have HXL := hid (hexB_len l)
 generalize hexB l = X at HX HXL ⊢
 clear hsrc hA hi hz0 hz1 hz2
 go_enter Tryz.func49, Tryz.ntmps49
 go_wp2_with fail
 go_loopw [3, 4] (fun v i wr => ∃ (k g c : Nat), k ≤ l.length ∧ i = .int .i64 k ∧ v = .slice (some ⟨g, 0, none⟩) (2 * k) c ∧ Hid (wr.ownsRow w.heap.size 5 1 (.slice (some ⟨g, 0, none⟩) (2 * k) c) (2 * k) (bvs (hexB (l.take k)))) ∧ Hid (Below w.heap.size w wr)) (fun _ i _ => l.length - (intOf i).toNat)
 case atStart => exact ⟨0, w.heap.size, 0, Nat.zero_le _, rfl, rfl, own_new0 w, (Below.refl _ _).alloc (Nat.le_refl _) _⟩
 case round =>
  obtain ⟨k, g, c, hk, rfl, rfl, HO, HB⟩ := hrel
  by_cases hlt : k < l.length
  ·obtain rfl := HA.out (by omega)
   obtain ⟨x, ex⟩ : ∃ x, Hid (x = l.getD k 0) := ⟨_, rfl⟩
   have hx256 := x.toNat_lt
   have cx : wr.cell? ⟨q, o + k, none⟩ = some (.int .u8 x.toNat) := by rw [HB.out.cell (p := ⟨q, o + k, none⟩) hqs, HSRC.out k hlt, ex.out]
   have h15 : (x.toNat : Int).tdiv 16 = (x.toNat : Int) / 16 := Int.tdiv_eq_ediv_of_nonneg (by omega)
   have h16 : (x.toNat : Int).tmod 16 = (x.toNat : Int) % 16 := Int.tmod_eq_emod_of_nonneg (by omega)
   have h17 : IntKind.u8.wrap ((x.toNat : Int) / 16) = (x.toNat : Int) / 16 := by rw [IntKind.wrap_u8]; omega
   have h18 : IntKind.u8.wrap ((x.toNat : Int) % 16) = (x.toNat : Int) % 16 := by rw [IntKind.wrap_u8]; omega
   have hi1 := index_dig ((x.toNat : Int) / 16) (x.toNat / 16) (by omega) (by omega)
   have hi2 := index_dig ((x.toNat : Int) % 16) (x.toNat % 16) (by omega) (by omega)
   go_wp2_with fail
   have HON : Hid (∀ u ∈ [Value.int .u8 (hd (x.toNat / 16)).toNat, .int .u8 (hd (x.toNat % 16)).toNat], u.oneCell' = true) := fun u hu => by
    simp only [List.mem_cons, List.not_mem_nil, or_false] at hu
    rcases hu with rfl | rfl <;> rfl
   have hsz : w.heap.size ≤ wr.heap.size := HB.out.size
   go_region_law ((refine step_append_lies _ (by rfl) _ _ 42 (by rfl) w.heap.size 5 i0 (.int .u8 0) 1 1 Tryz.underlying42 HI.out HI0.out HI1.out HI2.out rfl (by decide) _ (2 * k) (bvs (hexB (l.take k))) (by rfl) (by exact HO.out.alloc _) ⟨wr.heap.size, 0, none⟩ 2 2 [Value.int .u8 (hd (x.toNat / 16)).toNat, .int .u8 (hd (x.toNat % 16)).toNat] (by rfl) rfl (by exact World.news_of_block (heap_alloc_new wr _)) HON.out (by omega) (by unfold maxLen; omega) (by omega) (by simp; omega) (wr.heap.size + 1) (by simp) ?_; intro g2 c2 w2 hown2 hgr2 hat2 hlt2))
   all_goals
    have HO2 := hid hown2
    have hgr3 : (wr.alloc (.cells #[Value.int .u8 (hd (x.toNat / 16)).toNat, .int .u8 (hd (x.toNat % 16)).toNat] 5)).drew.grownBy w2 (some g) := hgr2
    have hB2 : Below w.heap.size w w2 := by
     refine ((HB.out.alloc hsz _).drew).grown hgr3 ?_ ?_
     ·simp; omega
     ·intro k hk
      cases hk
      rcases HO.out.2 with ⟨h0, _⟩ | ⟨g', c', cur, h1, h2, _⟩
      ·cases h0
      ·cases h1; exact h2
    have HB2 := hid hB2
    clear hown2 hgr2 hgr3 hat2 hlt2 hB2
    go_wp2_with fail
    go_roundw
    case rel =>
     refine ⟨k + 1, g2, c2, by omega, by go_num, by rw [Nat.mul_add], ?_, HB2⟩
     show World.ownsRow _ _ _ _ _ _ _
     rw [hexB_snoc l k hlt, ← ex.out, Nat.mul_add]
     have e : bvs (hexB (l.take k) ++ hex2 x) = bvs (hexB (l.take k)) ++ [Value.int .u8 (hd (x.toNat / 16)).toNat, .int .u8 (hd (x.toNat % 16)).toNat] := by simp [bvs, hex2]
     rw [e]
     exact HO2.out
    case measure => simp [intOf]; omega
  ·have ho := HO.out
   rw [HX.out k (by omega)] at ho
   have hback := str_of c (own_cells ho) (2 * k) (by rw [HXL.out]; omega)
   clear ho HO
   go_wp2_with fail
   go_ret
   exact ⟨rfl, HB.out⟩
def sizeB (n : Nat) : List UInt8 := bytesOf (hiW n) ++ bytesOf (loW n)
theorem sizeB_len (n : Nat) : (sizeB n).length = 8 := rfl
def padZ (n : Nat) : Nat := (119 - n % 64) % 64
def padTo (l : List UInt8) (k : Nat) : List UInt8 := l ++ (128 :: zer k)
def pad (l : List UInt8) : List UInt8 := padTo l (padZ l.length) ++ sizeB l.length
theorem padTo_len (l : List UInt8) (k : Nat) : (padTo l k).length = l.length + 1 + k := by
 simp [padTo, zer]; omega
theorem padTo_succ (l : List UInt8) (k : Nat) : padTo l (k + 1) = padTo l k ++ [0] := by
 unfold padTo zer
 rw [List.replicate_succ']
 simp
theorem pad_len (l : List UInt8) : (pad l).length = l.length + 9 + padZ l.length := by
 unfold pad; rw [List.length_append, padTo_len, sizeB_len]; omega
theorem pad_mod (l : List UInt8) : (pad l).length % 64 = 0 := by rw [pad_len]; unfold padZ; omega
theorem set_rest (t : List UInt8) (r : Nat) (hr : t.length = r) (h : r < 64) : (t ++ zer (64 - r)).set r 128 = t ++ (128 :: zer (63 - r)) := by
 rw [List.set_append_right _ _ (by omega), hr, Nat.sub_self]
 obtain ⟨m, hm⟩ : ∃ m, 64 - r = m + 1 := ⟨63 - r, by omega⟩
 rw [hm, show 63 - r = m from by omega]
 rfl
theorem pad_sha (l : List UInt8) (k : Nat) (hk : k = (pad l).length / 64) : digS (stTo (pad l) k) = sha l := by
 subst hk
 have hp : pad l = l ++ ((128 :: zer (padZ l.length)) ++ sizeB l.length) := by simp [pad, padTo]
 have ht := tail_len l
 have hd : (pad l).drop (64 * (l.length / 64)) = tailOf l ++ ((128 :: zer (padZ l.length)) ++ sizeB l.length) := by
  rw [hp, List.drop_append_of_le_length (by omega)]; rfl
 have hs : stTo (pad l) (l.length / 64) = stOf l := by rw [hp, stTo_app l _ _ (by omega)]; rfl
 unfold sha fin
 by_cases h : 56 ≤ l.length % 64
 ·rw [if_pos h]
  have hz : padZ l.length = 119 - l.length % 64 := by unfold padZ; omega
  have hn : (pad l).length / 64 = l.length / 64 + 1 + 1 := by rw [pad_len, hz]; omega
  have e : tailOf l ++ ((128 :: zer (padZ l.length)) ++ sizeB l.length) = (tailOf l ++ (128 :: zer (63 - l.length % 64))) ++ (zer 56 ++ sizeB l.length) := by
   rw [hz, zer_cut (119 - l.length % 64) (63 - l.length % 64) (by omega), show 119 - l.length % 64 - (63 - l.length % 64) = 56 from by omega]
   simp
  have hl : (tailOf l ++ (128 :: zer (63 - l.length % 64))).length = 64 := by simp [zer]; omega
  have b1 : blkS (pad l) (l.length / 64) = tailOf l ++ (128 :: zer (63 - l.length % 64)) := by
   unfold blkS; rw [hd, e, List.take_append_of_le_length (by omega), List.take_of_length_le (by omega)]
  have b2 : blkS (pad l) (l.length / 64 + 1) = zer 56 ++ sizeB l.length := by
   unfold blkS
   rw [Nat.mul_add, ← List.drop_drop, hd, e, show 64 * 1 = (tailOf l ++ (128 :: zer (63 - l.length % 64))).length from hl.symm, List.drop_left]
   exact List.take_of_length_le (by rw [List.length_append, zer_len, sizeB_len]; omega)
  rw [hn, stTo, stTo, hs, b1, b2]
  unfold restOf lastOf
  rw [set_rest (tailOf l) _ ht (by omega), zer_take 64 56 (by omega)]
  rfl
 ·rw [if_neg h]
  have hz : padZ l.length = 55 - l.length % 64 := by unfold padZ; omega
  have hn : (pad l).length / 64 = l.length / 64 + 1 := by rw [pad_len, hz]; omega
  have b1 : blkS (pad l) (l.length / 64) = (tailOf l ++ (128 :: zer (55 - l.length % 64))) ++ sizeB l.length := by
   unfold blkS
   rw [hd, hz, List.take_of_length_le (by simp [zer, sizeB_len]; omega)]
   simp
  rw [hn, stTo, hs, b1]
  unfold restOf lastOf
  rw [set_rest (tailOf l) _ ht (by omega)]
  have e : (tailOf l ++ (128 :: zer (63 - l.length % 64))).take 56 = tailOf l ++ (128 :: zer (55 - l.length % 64)) := by
   rw [zer_cut (63 - l.length % 64) (55 - l.length % 64) (by omega), show tailOf l ++ (128 :: (zer (55 - l.length % 64) ++ zer (63 - l.length % 64 - (55 - l.length % 64)))) = (tailOf l ++ (128 :: zer (55 - l.length % 64))) ++ zer (63 - l.length % 64 - (55 - l.length % 64)) from by simp]
   have hl : (tailOf l ++ (128 :: zer (55 - l.length % 64))).length = 56 := by simp [zer]; omega
   rw [List.take_append_of_le_length (by omega), List.take_of_length_le (by omega)]
  rw [e]
  rfl
theorem sizeB_at (n j : Nat) (hj : j < 8) (hn : n ≤ 1000000) : ((sizeB n).getD j 0).toNat = n * 8 / 2 ^ (8 * (7 - j)) % 256 := by
 have h1 : (hiW n).toNat = n * 8 / 4294967296 := by unfold hiW; rw [u_of _ (by omega)]
 have h2 : (loW n).toNat = n * 8 := by unfold loW; rw [u_of _ (by omega)]
 match j, hj with
 | 0, _ => show (UInt8.ofNat ((hiW n).toNat / 16777216)).toNat = _; rw [h1, UInt8.toNat_ofNat']; simp; omega
 | 1, _ => show (UInt8.ofNat ((hiW n).toNat / 65536)).toNat = _; rw [h1, UInt8.toNat_ofNat']; simp; omega
 | 2, _ => show (UInt8.ofNat ((hiW n).toNat / 256)).toNat = _; rw [h1, UInt8.toNat_ofNat']; simp; omega
 | 3, _ => show (UInt8.ofNat ((hiW n).toNat)).toNat = _; rw [h1, UInt8.toNat_ofNat']; try simp
 | 4, _ => show (UInt8.ofNat ((loW n).toNat / 16777216)).toNat = _; rw [h2, UInt8.toNat_ofNat']; try simp
 | 5, _ => show (UInt8.ofNat ((loW n).toNat / 65536)).toNat = _; rw [h2, UInt8.toNat_ofNat']; try simp
 | 6, _ => show (UInt8.ofNat ((loW n).toNat / 256)).toNat = _; rw [h2, UInt8.toNat_ofNat']; try simp
 | 7, _ => show (UInt8.ofNat ((loW n).toNat)).toNat = _; rw [h2, UInt8.toNat_ofNat']; simp
end Go.Proofs.YtgoiafndapemjaaGreatDoor
