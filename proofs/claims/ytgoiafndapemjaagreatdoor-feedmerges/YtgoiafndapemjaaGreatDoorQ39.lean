import Derived.Test.YtgoiafndapemjaaGreatDoorQ38
import Derived.Test.YtgoiafndapemjaaGreatDoorQ29
import Derived.Deep.DeepCutAuto
import Derived.Test.YtgoiafndapemjaaGreatDoorQ35
import Derived.Test.YtgoiafndapemjaaGreatDoorQ30
import Derived.Deep.RegionHeld3
import Derived.Sort.AtCall
set_option linter.unusedVariables false
set_option linter.unusedSimpArgs false
set_option maxHeartbeats 1000000
namespace Go.Proofs.YtgoiafndapemjaaGreatDoor
open Go.RowKit Go.BigFrame
attribute [local go_sem ↓] loadN_eq
set_option maxRecDepth 100000 in
theorem nameOf_any (nm : List UInt8) (d : Nat) (t : Tr d) (hw : wtT d t ≤ 12000) (P : Nat → Prop) (cs : Array Value) (w : World) (hnd : NdAt P d w cs t) (hT : Lib.Utf8Tabs 5 6 w) : Calls Tryz.prog 95 #[.agg cs, .string (asS nm)] w fun e w' => e = .returned (.string (asS (trmL (kidL nm d t)))) ∧ Below w.heap.size w w' := by
 have HTX : Hid (∀ W, Below w.heap.size w W → Calls Tryz.prog 93 #[.agg cs, .string (asS nm)] W fun e w' => e = .returned (.string (asS (kidL nm d t))) ∧ Below W.heap.size W w') := fun W hb => textOf_any nm d t hw P cs W (hnd.below hb (Nat.le_refl _))
 have HSH := hid (fun W (hb : Below w.heap.size w W) => trimL_any (kidL nm d t) (Nat.le_trans (kid_len nm hw) (by omega)) W (tabs_below hT hb))
 obtain ⟨A, B, C, D, rfl, o1, o2, o3, o4⟩ := nd_four (hnd.mono fun q _ hl => hl)
 have HROW := hid (heap_alloc_new w (.cells #[A, B, C, D] 25))
 have HB0 := hid ((Below.refl w.heap.size w).alloc (Nat.le_refl _) (.cells #[A, B, C, D] 25))
 obtain ⟨W0, hW0⟩ : ∃ W0, w.alloc (.cells #[A, B, C, D] 25) = W0 := ⟨_, rfl⟩
 rw [hW0] at HB0 HROW
 have hld0 := loadN_run HROW.out rfl
 clear hnd o1 o2 o3 o4 hw
 generalize asS (trmL (kidL nm d t)) = R at HSH ⊢
 generalize asS (kidL nm d t) = TX at HTX HSH
 generalize asS nm = NS at HTX ⊢
 go_enter Tryz.func95, Tryz.ntmps95
 go_wp2_with fail
 refine (HTX.out W0 HB0.out).mono ?_
 rintro e W1 ⟨rfl, hb1⟩
 have HB1 := hid (HB0.out.trans (hb1.mono HB0.out.size))
 clear hb1 hld0
 go_wp2_with fail
 refine (HSH.out W1 HB1.out).mono ?_
 rintro e W2 ⟨rfl, hb2⟩
 have HB2 := hid (HB1.out.trans (hb2.mono HB1.out.size))
 clear hb2
 go_wp2_with fail
 go_ret
 exact ⟨rfl, HB2.out⟩
attribute [local go_sem ↓] loadN_eq
theorem attr_at (nm : List UInt8) (d : Nat) (t : Tr d) (hw : wtT d t ≤ 12000) (P : Nat → Prop) (cs : Array Value) (W : World) (hnd : NdAt P d W cs t) : Calls Tryz.prog 96 #[.agg cs, .string (asS nm)] W fun e w' => e = .returned (.tuple #[.string (asS ((attrV nm (attsT d t)).getD [])), .bool (attrV nm (attsT d t)).isSome]) ∧ Below W.heap.size W w' := by
 obtain ⟨aA, ac, kA, kc, rfl, hats, _, _⟩ := hnd.parts
 exact attr_any nm (lab d t).2.1 _ rfl (Nat.le_trans (wt_parts hw).2.2.1 (by omega)) aA ac _ _ kA _ kc W hats.1 (fun j hj => by have := ((wt_parts hw).2.2.2.1 _ (getD_mem9 (z := zeroH) hj)).2; omega)
def lkT (d : Nat) (l : List (Tr d)) : List UInt8 := match l.find? (relOk d) with
 | none => []
 | some k => shL (hrefT d k)
theorem lk_at (d : Nat) (l : List (Tr d)) (k : Nat) (h : k < l.length) : lkT d (l.drop k) = if relOk d (l.getD k (zeroT d)) = true then shL (hrefT d (l.getD k (zeroT d))) else lkT d (l.drop (k + 1)) := by
 unfold lkT
 rw [List.drop_eq_getElem_cons h, List.find?_cons, List.getD_eq_getElem?_getD, List.getElem?_eq_getElem h]
 have e : (some l[k]).getD (zeroT d) = l[k] := rfl
 rw [e]
 cases hh : relOk d l[k] <;> simp
theorem link_eq (d : Nat) (t : Tr d) : linkA d t = lkT (d - 1) (fndT linkN (d - 1) (kidsT d t)) := by
 unfold linkA lkT
 cases (fndT linkN (d - 1) (kidsT d t)).find? (relOk (d - 1)) <;> rfl
theorem rel_is (d : Nat) (t : Tr d) : relOk d t = (!(attrV relL (attsT d t)).isSome || decide ((attrV relL (attsT d t)).getD [] = altL)) := by
 unfold relOk
 cases attrV relL (attsT d t) <;> rfl
theorem alt_eq (x : List UInt8) : ((asS x).toList == [97, 108, 116, 101, 114, 110, 97, 116, 101]) = decide (x = altL) := tl_eq x altL
set_option maxRecDepth 100000 in
theorem atomLink_any (d : Nat) (t : Tr d) (hw : wtT d t ≤ 12000) (P : Nat → Prop) (cs : Array Value) (w : World) (hnd : NdAt P d w cs t) : Calls Tryz.prog 58 #[.agg cs] w fun e w' => e = .returned (.string (asS (linkA d t))) ∧ Below w.heap.size w w' := by
 rw [link_eq]
 have HFI : Hid (∀ W, Below w.heap.size w W → Calls Tryz.prog 25 #[.agg cs, .string ⟨#[108, 105, 110, 107]⟩] W fun e w' => ∃ v, e = .returned v ∧ (Below W.heap.size W w' ∧ ∃ A' c, v = .slice A' (fndT linkN (d - 1) (kidsT d t)).length c ∧ NdsAt (fun _ => True) (d - 1) w' A' (fndT linkN (d - 1) (kidsT d t)))) := fun W hb => find_at linkN d t hw P cs w W hnd hb
 obtain ⟨A, B, C, D, rfl, o1, o2, o3, o4⟩ := nd_four (hnd.mono fun q _ hl => hl)
 have HROW := hid (heap_alloc_new w (.cells #[A, B, C, D] 25))
 have HB0 := hid ((Below.refl w.heap.size w).alloc (Nat.le_refl _) (.cells #[A, B, C, D] 25))
 obtain ⟨W0, hW0⟩ : ∃ W0, w.alloc (.cells #[A, B, C, D] 25) = W0 := ⟨_, rfl⟩
 rw [hW0] at HB0 HROW
 have hld0 := loadN_run HROW.out rfl
 have HWT := hid (fun k hk => fnd_wt (nm := linkN) hw k hk)
 have hlen : (fndT linkN (d - 1) (kidsT d t)).length ≤ 12000 := fnd_few hw
 clear hnd o1 o2 o3 o4 hw
 generalize fndT linkN (d - 1) (kidsT d t) = fl at HFI HWT hlen ⊢
 generalize hn : fl.length = n at HFI hlen
 have HN := hid hn
 have HLK := hid (fun k hk => lk_at (d - 1) fl k hk)
 have HEND : Hid (∀ k, n ≤ k → lkT (d - 1) (fl.drop k) = []) := fun k hk => by
  rw [List.drop_eq_nil_of_le (by omega)]
  rfl
 have HZERO : Hid (lkT (d - 1) (fl.drop 0) = lkT (d - 1) fl) := rfl
 generalize hR : lkT (d - 1) fl = R at HZERO ⊢
 clear hn hR
 go_enter Tryz.func58, Tryz.ntmps58
 go_wp2_with fail
 refine (HFI.out W0 HB0.out).mono ?_
 rintro e W1 ⟨v, rfl, hb1, A1, c1, rfl, hn1⟩
 have HNS := hid hn1
 have HB1 := hid (HB0.out.trans (hb1.mono HB0.out.size))
 clear hb1 hld0 hn1 hW0 HROW HB0 HFI
 go_wp2_with fail
 go_loopw [12] (fun i wr => ∃ k : Nat, k ≤ n ∧ i = .int .i64 (k : Int) ∧ Hid (lkT (d - 1) (fl.drop k) = R) ∧ Hid (Below W1.heap.size W1 wr)) (fun i wr => n - (intOf i).toNat)
 case atStart => exact ⟨0, Nat.zero_le _, rfl, HZERO.out, Below.refl _ _⟩
 case round =>
  obtain ⟨k, hk, rfl, HR, HB⟩ := hrel
  have HBW : Hid (Below w.heap.size w wr) := HB1.out.trans (HB.out.mono HB1.out.size)
  by_cases hlt : k < n
  ·have hi : (k : Int) < (n : Int) := by omega
   have hkl : k < fl.length := by have := HN.out; omega
   obtain ⟨q, o, a1, b1, b2, b3, a3, d1, d2, d3, rfl, hq, hld, hk2⟩ := (HNS.out.below HB.out (Nat.le_refl _)).load2 k hkl
   have HWK := hid (HWT.out _ (getD_mem9 (z := zeroT (d - 1)) hkl))
   have HST := hid (HLK.out k hkl)
   rw [HR.out] at HST
   clear hkl
   generalize fl.getD k (zeroT (d - 1)) = kt at HWK HST hk2
   obtain ⟨V, hV⟩ : ∃ V, wr.alloc (.cells #[.string a1, .slice b1 b2 b3, .string a3, .slice d1 d2 d3] 25) = V := ⟨_, rfl⟩
   have hrow : V.heap[wr.heap.size]? = some (.cells #[.string a1, .slice b1 b2 b3, .string a3, .slice d1 d2 d3] 25 (0, 0)) := by rw [← hV]; exact heap_alloc_new wr _
   have hbV : Below wr.heap.size wr V := by rw [← hV]; exact (Below.refl _ _).alloc (Nat.le_refl _) _
   have hldV := loadN_run hrow rfl
   have HROWV := hid hrow
   have HKV := hid (hk2.below hbV (Nat.le_refl _))
   have HBV := hid (HBW.out.trans (hbV.mono HBW.out.size))
   have HBV1 := hid (HB.out.trans (hbV.mono HB.out.size))
   clear hrow hbV hk2
   have HAT : Hid (Calls Tryz.prog 96 #[.agg #[.string a1, .slice b1 b2 b3, .string a3, .slice d1 d2 d3], .string ⟨#[114, 101, 108]⟩] V fun e w' => e = .returned (.tuple #[.string (asS ((attrV relL (attsT (d - 1) kt)).getD [])), .bool (attrV relL (attsT (d - 1) kt)).isSome]) ∧ Below V.heap.size V w') := attr_at relL (d - 1) kt HWK.out _ _ V HKV.out
   have HAH : Hid (∀ W, Below V.heap.size V W → Calls Tryz.prog 96 #[.agg #[.string a1, .slice b1 b2 b3, .string a3, .slice d1 d2 d3], .string ⟨#[104, 114, 101, 102]⟩] W fun e w' => e = .returned (.tuple #[.string (asS (hrefT (d - 1) kt)), .bool (attrV hrefL (attsT (d - 1) kt)).isSome]) ∧ Below W.heap.size W w') := fun W hb => attr_at hrefL (d - 1) kt HWK.out _ _ W (HKV.out.below hb (Nat.le_refl _))
   have HSH := hid (fun W => short_any (hrefT (d - 1) kt) (Nat.le_trans (attr_len hrefL HWK.out) (by omega)) W)
   have hra := alt_eq ((attrV relL (attsT (d - 1) kt)).getD [])
   rw [rel_is] at HST
   clear HWK HKV
   generalize asS ((attrV relL (attsT (d - 1) kt)).getD []) = RS at HAT hra
   generalize (attrV relL (attsT (d - 1) kt)).isSome = hs at HAT HST
   generalize decide ((attrV relL (attsT (d - 1) kt)).getD [] = altL) = al at hra HST
   generalize shL (hrefT (d - 1) kt) = SH at HST HSH
   generalize asS (hrefT (d - 1) kt) = HS at HAH HSH
   generalize (attrV hrefL (attsT (d - 1) kt)).isSome = hh at HAH
   by_cases hok : (!hs || al) = true
   ·rw [if_pos hok] at HST
    have HRS : Hid (R = SH) := HST.out
    rw [HRS.out]
    clear HST
    cases hs with
    | false =>
     go_wp2_with fail
     refine HAT.out.mono ?_
     rintro e W3 ⟨rfl, hb3⟩
     have hld3 := loadN_run (row_keep hb3 HROWV.out) rfl
     have HB3 := hid hb3
     have HC3 := hid (HAH.out W3 hb3)
     clear hb3 hldV HAT HAH
     go_wp2_with fail
     refine HC3.out.mono ?_
     rintro e W4 ⟨rfl, hb4⟩
     have HB4 := hid (bel2 HB3.out hb4)
     clear hb4 hld3 HC3
     go_wp2_with fail
     refine (HSH.out W4).mono ?_
     rintro e W5 ⟨rfl, hb5⟩
     have HB5 := hid (bel2 HB4.out hb5)
     clear hb5
     go_wp2_with fail
     go_ret
     exact ⟨by rw [HRS.out]; rfl, HBV.out.trans (HB5.out.mono HBV.out.size)⟩
    | true =>
     have hal : al = true := by simpa using hok
     rw [hal] at hra
     clear hal hok
     go_wp2_with fail
     refine HAT.out.mono ?_
     rintro e W3 ⟨rfl, hb3⟩
     have hld3 := loadN_run (row_keep hb3 HROWV.out) rfl
     have HB3 := hid hb3
     have HC3 := hid (HAH.out W3 hb3)
     clear hb3 hldV HAT HAH
     go_wp2_with fail
     refine HC3.out.mono ?_
     rintro e W4 ⟨rfl, hb4⟩
     have HB4 := hid (bel2 HB3.out hb4)
     clear hb4 hld3 HC3
     go_wp2_with fail
     refine (HSH.out W4).mono ?_
     rintro e W5 ⟨rfl, hb5⟩
     have HB5 := hid (bel2 HB4.out hb5)
     clear hb5
     go_wp2_with fail
     go_ret
     exact ⟨by rw [HRS.out]; rfl, HBV.out.trans (HB5.out.mono HBV.out.size)⟩
   ·rw [if_neg hok] at HST
    have hhs : hs = true := by cases hs <;> simp_all
    have hal : al = false := by cases al <;> simp_all
    subst hhs
    rw [hal] at hra
    clear hal hok
    go_wp2_with fail
    refine HAT.out.mono ?_
    rintro e W3 ⟨rfl, hb3⟩
    have HB3 := hid (HBV1.out.trans (hb3.mono HBV1.out.size))
    clear hb3 hldV HAT
    go_wp2_with fail
    go_roundw
    case rel => exact ⟨k + 1, by omega, by go_num, HST.out.symm, HB3.out⟩
    case measure => simp [intOf]; omega
  ·have hi : ¬ (k : Int) < (n : Int) := by omega
   have HRN : Hid (R = []) := by
    show _ = _
    rw [← HR.out]
    exact HEND.out k (by omega)
   go_wp2_with fail
   go_ret
   exact ⟨by rw [HRN.out]; rfl, HBW.out⟩
def buildI (t : TypeId) (ps : Array (Nat × Value)) := Instr.build t ps
theorem buildE_eq (ps : Array (Nat × Value)) : Instr.build 40 ps = buildI 40 ps := rfl
theorem built_en3 (a b c : ByteArray) : Tryz.prog.built 40 [(1, .string a), (2, .string b), (3, .string c)] = some #[.string ⟨#[]⟩, .string a, .string b, .string c, .int .i64 0, .bool false] := by kernel_rfl
theorem run_build3 (a b c : ByteArray) (W : World) : (buildI 40 #[(1, .string a), (2, .string b), (3, .string c)]).run Tryz.prog W = .ok (.agg #[.string ⟨#[]⟩, .string a, .string b, .string c, .int .i64 0, .bool false]) W := run_build W _ _ _ (built_en3 a b c)
def putE (w : World) (g : Nat) (cs : Array Value) : World := w.setCells g 0 cs.toList
theorem putE_only (w : World) (g : Nat) (cs : Array Value) : Only g w (putE w g cs) := only_setCells g cs.toList 0 w
theorem putE_row {w : World} {g : Nat} {t : TypeId} {cs cs' : Array Value} (hrow : w.heap[g]? = some (.cells cs t (0, 0))) (h : cs'.size = cs.size) : (putE w g cs').heap[g]? = some (.cells cs' t (0, 0)) := by
 unfold putE
 rw [setCells_heap g t cs'.toList 0 w cs hrow, over_whole cs cs' h]
theorem storeE_row {w : World} {g : Nat} {cs : Array Value} (a b c d : ByteArray) (t : Int) (x : Bool) (hrow : w.heap[g]? = some (.cells cs 40 (0, 0))) (hz : cs.size = 6) : (storeI 40 (.pointer (some ⟨g, 0, none⟩)) (.agg #[.string a, .string b, .string c, .string d, .int .i64 t, .bool x])).run Tryz.prog w = .ok () (putE w g #[.string a, .string b, .string c, .string d, .int .i64 t, .bool x]) :=
 run_storeAt_mid w g 0 40 #[.string a, .string b, .string c, .string d, .int .i64 t, .bool x] (there_row hrow 0 6 (by rw [hz]; exact Nat.le_refl _)) infoE (ecs_any _ _ _ _ _ _)
theorem heap_old {w : World} {o o2 : Obj} {n : Nat} (h : w.heap[n]? = some o) : (w.alloc o2).heap[n]? = some o := (Below.heap_alloc w o2 n (Array.getElem?_eq_some_iff.1 h).1).trans h
theorem infoI8 : (Tryz.prog.info? 2).map (·.size) = some 1 := by kernel_rfl
theorem infoB1 : (Tryz.prog.info? 4).map (·.size) = some 1 := by kernel_rfl
theorem storeI8_eq (x v : Value) : Instr.storeAt 2 x v = storeI 2 x v := rfl
theorem storeB1_eq (x v : Value) : Instr.storeAt 4 x v = storeI 4 x v := rfl
theorem run_storeI (W : World) (t g o : Nat) (v : Value) (h1 : v.oneCell' = true) (h2 : v.cells = #[v]) (hi : (Tryz.prog.info? t).map (·.size) = some 1) (ht : W.there g o 1) : (storeI t (.pointer (some ⟨g, o, none⟩)) v).run Tryz.prog W = .ok () (W.setCells g o [v]) := by
 have := run_store_one W t g o v h1 h2 hi ht
 unfold storeI
 simp only [Instr.storeAt, Instr.sureAddr, Sem.run_bind, Sem.run_pure, Result.andThen_ok, this]
theorem storeS_eq (x v : Value) : Instr.storeAt 9 x v = storeI 9 x v := rfl
theorem run_storeS (W : World) (g o : Nat) (s : ByteArray) (ht : W.there g o 1) : (storeI 9 (.pointer (some ⟨g, o, none⟩)) (.string s)).run Tryz.prog W = .ok () (W.setCells g o [.string s]) := by
 have := run_store_one W 9 g o (.string s) rfl rfl infoS9 ht
 unfold storeI
 simp only [Instr.storeAt, Instr.sureAddr, Sem.run_bind, Sem.run_pure, Result.andThen_ok, this]
end Go.Proofs.YtgoiafndapemjaaGreatDoor
