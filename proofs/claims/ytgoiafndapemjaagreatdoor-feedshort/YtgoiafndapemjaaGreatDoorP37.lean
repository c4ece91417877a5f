import Derived.Test.YtgoiafndapemjaaGreatDoorP36
import Derived.Test.YtgoiafndapemjaaGreatDoorP30
import Derived.Deep.DeepCutAuto
import Derived.Test.YtgoiafndapemjaaGreatDoorP02
import Derived.Test.YtgoiafndapemjaaGreatDoorP12
import Derived.Deep.MidRow
import Derived.Maps.OwnSet
import Derived.Maps.OwnOps
set_option linter.unusedVariables false
set_option linter.unusedSimpArgs false
set_option maxHeartbeats 1000000
namespace Go.Proofs.YtgoiafndapemjaaGreatDoor
open Go.RowKit Go.BigFrame
attribute [local go_sem ↓] loadN_eq
set_option maxRecDepth 100000 in
theorem nameOf_any (nm : List UInt8) (d : Nat) (t : Tr d) (hw : wtT d t ≤ 12000) (P : Nat → Prop) (cs : Array Value) (w : World) (hnd : NdAt P d w cs t) (hT : Lib.Utf8Tabs 5 6 w) : Calls Tryz.prog 95 #[.agg cs, .string (asS nm)] w fun e w' => e = .returned (.string (asS (trmL (kidL nm d t)))) ∧ Below w.heap.size w w' := by
 have HTX : Hid (∀ W, Below w.heap.size w W → Calls Tryz.prog 93 #[.agg cs, .string (asS nm)] W fun e w' => e = .returned (.string (asS (kidL nm d t))) ∧ Below W.heap.size W w') := fun W hb => textOf_any nm d t hw P cs W (hnd.below hb (Nat.le_refl _))
 have HSH := hid (fun W (hb : Below w.heap.size w W) => trimL_any (kidL nm d t) (Nat.le_trans (kid_len nm hw) (by omega)) W (tabs_below hT hb))
 obtain ⟨A, B, C, D, rfl, o1, o2, o3, o4⟩ := nd_four (hnd.mono fun q _ hl => hl)
 have HROW := hid (heap_alloc_new w (.cells #[A, B, C, D] 25))
 have HB0 := hid ((Below.refl w.heap.size w).alloc (Nat.le_refl _) (.cells #[A, B, C, D] 25))
 obtain ⟨W0, hW0⟩ : ∃ W0, w.alloc (.cells #[A, B, C, D] 25) = W0 := ⟨_, rfl⟩
 rw [hW0] at HB0 HROW
 have hld0 := loadN_run HROW.out rfl
 clear hnd o1 o2 o3 o4 hw
 generalize asS (trmL (kidL nm d t)) = R at HSH ⊢
 generalize asS (kidL nm d t) = TX at HTX HSH
 generalize asS nm = NS at HTX ⊢
 go_enter Tryz.func95, Tryz.ntmps95
 go_wp2_with fail
 refine (HTX.out W0 HB0.out).mono ?_
 rintro e W1 ⟨rfl, hb1⟩
 have HB1 := hid (HB0.out.trans (hb1.mono HB0.out.size))
 clear hb1 hld0
 go_wp2_with fail
 refine (HSH.out W1 HB1.out).mono ?_
 rintro e W2 ⟨rfl, hb2⟩
 have HB2 := hid (HB1.out.trans (hb2.mono HB1.out.size))
 clear hb2
 go_wp2_with fail
 go_ret
 exact ⟨rfl, HB2.out⟩
attribute [local go_sem ↓] loadN_eq
theorem attr_at (nm : List UInt8) (d : Nat) (t : Tr d) (hw : wtT d t ≤ 12000) (P : Nat → Prop) (cs : Array Value) (W : World) (hnd : NdAt P d W cs t) : Calls Tryz.prog 96 #[.agg cs, .string (asS nm)] W fun e w' => e = .returned (.tuple #[.string (asS ((attrV nm (attsT d t)).getD [])), .bool (attrV nm (attsT d t)).isSome]) ∧ Below W.heap.size W w' := by
 obtain ⟨aA, ac, kA, kc, rfl, hats, _, _⟩ := hnd.parts
 exact attr_any nm (lab d t).2.1 _ rfl (Nat.le_trans (wt_parts hw).2.2.1 (by omega)) aA ac _ _ kA _ kc W hats.1 (fun j hj => by have := ((wt_parts hw).2.2.2.1 _ (getD_mem9 (z := zeroH) hj)).2; omega)
def lkT (d : Nat) (l : List (Tr d)) : List UInt8 := match l.find? (relOk d) with
 | none => []
 | some k => shL (hrefT d k)
theorem lk_at (d : Nat) (l : List (Tr d)) (k : Nat) (h : k < l.length) : lkT d (l.drop k) = if relOk d (l.getD k (zeroT d)) = true then shL (hrefT d (l.getD k (zeroT d))) else lkT d (l.drop (k + 1)) := by
 unfold lkT
 rw [List.drop_eq_getElem_cons h, List.find?_cons, List.getD_eq_getElem?_getD, List.getElem?_eq_getElem h]
 have e : (some l[k]).getD (zeroT d) = l[k] := rfl
 rw [e]
 cases hh : relOk d l[k] <;> simp
theorem link_eq (d : Nat) (t : Tr d) : linkA d t = lkT (d - 1) (fndT linkN (d - 1) (kidsT d t)) := by
 unfold linkA lkT
 cases (fndT linkN (d - 1) (kidsT d t)).find? (relOk (d - 1)) <;> rfl
theorem rel_is (d : Nat) (t : Tr d) : relOk d t = (!(attrV relL (attsT d t)).isSome || decide ((attrV relL (attsT d t)).getD [] = altL)) := by
 unfold relOk
 cases attrV relL (attsT d t) <;> rfl
theorem alt_eq (x : List UInt8) : ((asS x).toList == [97, 108, 116, 101, 114, 110, 97, 116, 101]) = decide (x = altL) := tl_eq x altL
set_option maxRecDepth 100000 in
theorem atomLink_any (d : Nat) (t : Tr d) (hw : wtT d t ≤ 12000) (P : Nat → Prop) (cs : Array Value) (w : World) (hnd : NdAt P d w cs t) : Calls Tryz.prog 58 #[.agg cs] w fun e w' => e = .returned (.string (asS (linkA d t))) ∧ Below w.heap.size w w' := by
 rw [link_eq]
 have HFI : Hid (∀ W, Below w.heap.size w W → Calls Tryz.prog 25 #[.agg cs, .string ⟨#[108, 105, 110, 107]⟩] W fun e w' => ∃ v, e = .returned v ∧ (Below W.heap.size W w' ∧ ∃ A' c, v = .slice A' (fndT linkN (d - 1) (kidsT d t)).length c ∧ NdsAt (fun _ => True) (d - 1) w' A' (fndT linkN (d - 1) (kidsT d t)))) := fun W hb => find_at linkN d t hw P cs w W hnd hb
 obtain ⟨A, B, C, D, rfl, o1, o2, o3, o4⟩ := nd_four (hnd.mono fun q _ hl => hl)
 have HROW := hid (heap_alloc_new w (.cells #[A, B, C, D] 25))
 have HB0 := hid ((Below.refl w.heap.size w).alloc (Nat.le_refl _) (.cells #[A, B, C, D] 25))
 obtain ⟨W0, hW0⟩ : ∃ W0, w.alloc (.cells #[A, B, C, D] 25) = W0 := ⟨_, rfl⟩
 rw [hW0] at HB0 HROW
 have hld0 := loadN_run HROW.out rfl
 have HWT := hid (fun k hk => fnd_wt (nm := linkN) hw k hk)
 have hlen : (fndT linkN (d - 1) (kidsT d t)).length ≤ 12000 := fnd_few hw
 clear hnd o1 o2 o3 o4 hw
 generalize fndT linkN (d - 1) (kidsT d t) = fl at HFI HWT hlen ⊢
 generalize hn : fl.length = n at HFI hlen
 have HN := hid hn
 have HLK := hid (fun k hk => lk_at (d - 1) fl k hk)
 have HEND : Hid (∀ k, n ≤ k → lkT (d - 1) (fl.drop k) = []) := fun k hk => by
  rw [List.drop_eq_nil_of_le (by omega)]
  rfl
 have HZERO : Hid (lkT (d - 1) (fl.drop 0) = lkT (d - 1) fl) := rfl
 generalize hR : lkT (d - 1) fl = R at HZERO ⊢
 clear hn hR
 go_enter Tryz.func58, Tryz.ntmps58
 go_wp2_with fail
 refine (HFI.out W0 HB0.out).mono ?_
 rintro e W1 ⟨v, rfl, hb1, A1, c1, rfl, hn1⟩
 have HNS := hid hn1
 have HB1 := hid (HB0.out.trans (hb1.mono HB0.out.size))
 clear hb1 hld0 hn1 hW0 HROW HB0 HFI
 go_wp2_with fail
 go_loopw [12] (fun i wr => ∃ k : Nat, k ≤ n ∧ i = .int .i64 (k : Int) ∧ Hid (lkT (d - 1) (fl.drop k) = R) ∧ Hid (Below W1.heap.size W1 wr)) (fun i wr => n - (intOf i).toNat)
 case atStart => exact ⟨0, Nat.zero_le _, rfl, HZERO.out, Below.refl _ _⟩
 case round =>
  obtain ⟨k, hk, rfl, HR, HB⟩ := hrel
  have HBW : Hid (Below w.heap.size w wr) := HB1.out.trans (HB.out.mono HB1.out.size)
  by_cases hlt : k < n
  ·have hi : (k : Int) < (n : Int) := by omega
   have hkl : k < fl.length := by have := HN.out; omega
   obtain ⟨q, o, a1, b1, b2, b3, a3, d1, d2, d3, rfl, hq, hld, hk2⟩ := (HNS.out.below HB.out (Nat.le_refl _)).load2 k hkl
   have HWK := hid (HWT.out _ (getD_mem9 (z := zeroT (d - 1)) hkl))
   have HST := hid (HLK.out k hkl)
   rw [HR.out] at HST
   clear hkl
   generalize fl.getD k (zeroT (d - 1)) = kt at HWK HST hk2
   obtain ⟨V, hV⟩ : ∃ V, wr.alloc (.cells #[.string a1, .slice b1 b2 b3, .string a3, .slice d1 d2 d3] 25) = V := ⟨_, rfl⟩
   have hrow : V.heap[wr.heap.size]? = some (.cells #[.string a1, .slice b1 b2 b3, .string a3, .slice d1 d2 d3] 25 (0, 0)) := by rw [← hV]; exact heap_alloc_new wr _
   have hbV : Below wr.heap.size wr V := by rw [← hV]; exact (Below.refl _ _).alloc (Nat.le_refl _) _
   have hldV := loadN_run hrow rfl
   have HROWV := hid hrow
   have HKV := hid (hk2.below hbV (Nat.le_refl _))
   have HBV := hid (HBW.out.trans (hbV.mono HBW.out.size))
   have HBV1 := hid (HB.out.trans (hbV.mono HB.out.size))
   clear hrow hbV hk2
   have HAT : Hid (Calls Tryz.prog 96 #[.agg #[.string a1, .slice b1 b2 b3, .string a3, .slice d1 d2 d3], .string ⟨#[114, 101, 108]⟩] V fun e w' => e = .returned (.tuple #[.string (asS ((attrV relL (attsT (d - 1) kt)).getD [])), .bool (attrV relL (attsT (d - 1) kt)).isSome]) ∧ Below V.heap.size V w') := attr_at relL (d - 1) kt HWK.out _ _ V HKV.out
   have HAH : Hid (∀ W, Below V.heap.size V W → Calls Tryz.prog 96 #[.agg #[.string a1, .slice b1 b2 b3, .string a3, .slice d1 d2 d3], .string ⟨#[104, 114, 101, 102]⟩] W fun e w' => e = .returned (.tuple #[.string (asS (hrefT (d - 1) kt)), .bool (attrV hrefL (attsT (d - 1) kt)).isSome]) ∧ Below W.heap.size W w') := fun W hb => attr_at hrefL (d - 1) kt HWK.out _ _ W (HKV.out.below hb (Nat.le_refl _))
   have HSH := hid (fun W => short_any (hrefT (d - 1) kt) (Nat.le_trans (attr_len hrefL HWK.out) (by omega)) W)
   have hra := alt_eq ((attrV relL (attsT (d - 1) kt)).getD [])
   rw [rel_is] at HST
   clear HWK HKV
   generalize asS ((attrV relL (attsT (d - 1) kt)).getD []) = RS at HAT hra
   generalize (attrV relL (attsT (d - 1) kt)).isSome = hs at HAT HST
   generalize decide ((attrV relL (attsT (d - 1) kt)).getD [] = altL) = al at hra HST
   generalize shL (hrefT (d - 1) kt) = SH at HST HSH
   generalize asS (hrefT (d - 1) kt) = HS at HAH HSH
   generalize (attrV hrefL (attsT (d - 1) kt)).isSome = hh at HAH
   by_cases hok : (!hs || al) = true
   ·rw [if_pos hok] at HST
    have HRS : Hid (R = SH) := HST.out
    rw [HRS.out]
    clear HST
    cases hs with
    | false =>
     go_wp2_with fail
     refine HAT.out.mono ?_
     rintro e W3 ⟨rfl, hb3⟩
     have hld3 := loadN_run (row_keep hb3 HROWV.out) rfl
     have HB3 := hid hb3
     have HC3 := hid (HAH.out W3 hb3)
     clear hb3 hldV HAT HAH
     go_wp2_with fail
     refine HC3.out.mono ?_
     rintro e W4 ⟨rfl, hb4⟩
     have HB4 := hid (bel2 HB3.out hb4)
     clear hb4 hld3 HC3
     go_wp2_with fail
     refine (HSH.out W4).mono ?_
     rintro e W5 ⟨rfl, hb5⟩
     have HB5 := hid (bel2 HB4.out hb5)
     clear hb5
     go_wp2_with fail
     go_ret
     exact ⟨by rw [HRS.out]; rfl, HBV.out.trans (HB5.out.mono HBV.out.size)⟩
    | true =>
     have hal : al = true := by simpa using hok
     rw [hal] at hra
     clear hal hok
     go_wp2_with fail
     refine HAT.out.mono ?_
     rintro e W3 ⟨rfl, hb3⟩
     have hld3 := loadN_run (row_keep hb3 HROWV.out) rfl
     have HB3 := hid hb3
     have HC3 := hid (HAH.out W3 hb3)
     clear hb3 hldV HAT HAH
     go_wp2_with fail
     refine HC3.out.mono ?_
     rintro e W4 ⟨rfl, hb4⟩
     have HB4 := hid (bel2 HB3.out hb4)
     clear hb4 hld3 HC3
     go_wp2_with fail
     refine (HSH.out W4).mono ?_
     rintro e W5 ⟨rfl, hb5⟩
     have HB5 := hid (bel2 HB4.out hb5)
     clear hb5
     go_wp2_with fail
     go_ret
     exact ⟨by rw [HRS.out]; rfl, HBV.out.trans (HB5.out.mono HBV.out.size)⟩
   ·rw [if_neg hok] at HST
    have hhs : hs = true := by cases hs <;> simp_all
    have hal : al = false := by cases al <;> simp_all
    subst hhs
    rw [hal] at hra
    clear hal hok
    go_wp2_with fail
    refine HAT.out.mono ?_
    rintro e W3 ⟨rfl, hb3⟩
    have HB3 := hid (HBV1.out.trans (hb3.mono HBV1.out.size))
    clear hb3 hldV HAT
    go_wp2_with fail
    go_roundw
    case rel => exact ⟨k + 1, by omega, by go_num, HST.out.symm, HB3.out⟩
    case measure => simp [intOf]; omega
  ·have hi : ¬ (k : Int) < (n : Int) := by omega
   have HRN : Hid (R = []) := by
    show _ = _
    rw [← HR.out]
    exact HEND.out k (by omega)
   go_wp2_with fail
   go_ret
   exact ⟨by rw [HRN.out]; rfl, HBW.out⟩
def FitE1 (N : Nat) (e : EnV) : Prop := e.id.length ≤ N ∧ e.title.length ≤ N ∧ e.link.length ≤ N ∧ e.body.length ≤ N
def FitE (N : Nat) (l : List EnV) : Prop := ∀ e ∈ l, FitE1 N e
def ecs (e : EnV) : Array Value := #[.string (asS e.id), .string (asS e.title), .string (asS e.link), .string (asS e.body), .int .i64 e.time, .bool e.dated]
def evs (l : List EnV) : List Value := l.flatMap fun e => [.string (asS e.id), .string (asS e.title), .string (asS e.link), .string (asS e.body), .int .i64 e.time, .bool e.dated]
theorem evs_at : ∀ (l : List EnV) (j i : Nat) (v : Value), j < l.length → (ecs (l.getD j zeroE))[i]? = some v → (evs l)[j * 6 + i]? = some v
 | [], j, i, v, h, _ => by simp at h
 | h :: r, 0, i, v, _, hv => by
  rw [Nat.zero_mul, Nat.zero_add]
  have hi : i < 6 := by
   have := (Array.getElem?_eq_some_iff.1 hv).1
   exact this
  match i, hi with
  | 0, _ => exact hv
  | 1, _ => exact hv
  | 2, _ => exact hv
  | 3, _ => exact hv
  | 4, _ => exact hv
  | 5, _ => exact hv
 | h :: r, j + 1, i, v, hj, hv => by
  have := evs_at r j i v (by simpa using hj) hv
  rw [show (j + 1) * 6 + i = j * 6 + i + 1 + 1 + 1 + 1 + 1 + 1 from by omega]
  exact this
theorem evs_app (a b : List EnV) : evs (a ++ b) = evs a ++ evs b := by simp [evs]
theorem evs_one (l : List EnV) : ∀ u ∈ evs l, u.oneCell' = true := fun u hu => by
 unfold evs at hu
 rw [List.mem_flatMap] at hu
 obtain ⟨e, _, hu⟩ := hu
 simp only [List.mem_cons, List.not_mem_nil, or_false] at hu
 rcases hu with rfl | rfl | rfl | rfl | rfl | rfl <;> rfl
def EntsAt (w : World) (A : Option Addr) (l : List EnV) : Prop :=
 0 < l.length → ∃ q o, A = some ⟨q, o, none⟩ ∧ q < w.heap.size ∧ ∀ j i v, j < l.length → (ecs (l.getD j zeroE))[i]? = some v → w.cell? ⟨q, o + j * 6 + i, none⟩ = some v
theorem EntsAt.below {w w' : World} {A : Option Addr} {l : List EnV} (h : EntsAt w A l) {B : Nat} (hb : Below B w w') (hB : w.heap.size ≤ B) : EntsAt w' A l := fun h0 => by
 obtain ⟨q, o, h1, h2, h3⟩ := h h0
 exact ⟨q, o, h1, Nat.lt_of_lt_of_le h2 hb.size, fun j i v hj hv => (hb.cell (p := ⟨q, o + j * 6 + i, none⟩) (Nat.lt_of_lt_of_le h2 hB)).trans (h3 j i v hj hv)⟩
theorem EntsAt.nil (w : World) (A : Option Addr) : EntsAt w A [] := fun h => absurd h (by simp)
def EntsV (w : World) (v : Value) (l : List EnV) : Prop := ∃ A c, v = .slice A l.length c ∧ EntsAt w A l
theorem EntsV.nil (w : World) : EntsV w (.slice none 0 0) [] := ⟨none, 0, rfl, EntsAt.nil _ _⟩
theorem infoE : (Tryz.prog.info? 40).map (·.size) = some 6 := by kernel_rfl
theorem enK : KCells Tryz.prog 6 28 40 := ⟨Tryz.underlying28, by
 obtain ⟨i, h1, h2, h3, h4⟩ := info_parts (show (Tryz.prog.info? 40).map (fun i => (i.zero, i.size, i.bytes)) = some (some (.agg #[.string ⟨#[]⟩, .string ⟨#[]⟩, .string ⟨#[]⟩, .string ⟨#[]⟩, .int .i64 0, .bool false]), 6, 80) from by kernel_rfl)
 exact ⟨i, _, h1, h2, h3, by omega, rfl⟩⟩
def OwnE (w : World) (b : Nat) (v : Value) (l : List EnV) : Prop := (v = .slice none 0 0 ∧ l = []) ∨ ∃ g cap, v = .slice (some ⟨g, 0, none⟩) l.length cap ∧ OwnK w 6 40 b g l.length cap (evs l)
theorem OwnE.nil (w : World) (b : Nat) : OwnE w b (.slice none 0 0) [] := .inl ⟨rfl, rfl⟩
theorem OwnE.below {w w' : World} {b : Nat} {v : Value} {l : List EnV} (h : OwnE w b v l) (hb : Below w.heap.size w w') : OwnE w' b v l := by
 rcases h with h | ⟨g, cap, h1, h2⟩
 ·exact .inl h
 ·exact .inr ⟨g, cap, h1, h2.below hb (Nat.le_refl _)⟩
theorem OwnE.ents {w : World} {b : Nat} {v : Value} {l : List EnV} (h : OwnE w b v l) : EntsV w v l := by
 rcases h with ⟨rfl, rfl⟩ | ⟨g, cap, rfl, h2⟩
 ·exact EntsV.nil w
 ·refine ⟨_, cap, rfl, fun _ => ⟨g, 0, rfl, h2.lt, fun j i v hj hv => ?_⟩⟩
  rw [Nat.zero_add]
  exact h2.at _ _ (evs_at l j i v hj hv)
theorem OwnE.shape {w : World} {b : Nat} {v : Value} {l : List EnV} (h : OwnE w b v l) : ∃ A c, v = .slice A l.length c := by
 obtain ⟨A, c, h1, _⟩ := h.ents
 exact ⟨A, c, h1⟩
theorem run_en (ty : TypeId) {w : World} {b : Nat} {v x : Value} {l ys : List EnV} (h : OwnE w b v l) (hs : Src Tryz.prog 6 28 x ys.length (evs ys) w) (h0 : 0 < ys.length ∨ v ≠ .slice none 0 0) (hn : l.length + ys.length ≤ 1000000) (hb : b ≤ w.heap.size) :
  ∃ v' w', (Builtin.append_ #[28, 28] ty #[v, x]).run Tryz.prog w = .ok v' w' ∧ OwnE w' b v' (l ++ ys) ∧ Below b w w' := by
 rcases h with ⟨rfl, rfl⟩ | ⟨g, cap, rfl, h2⟩
 ·have h1 : 0 < ys.length := h0.elim id (fun h => absurd rfl h)
  obtain ⟨cap, w', h1, h2, h3⟩ := run_nilK enK ty x hs h1 (by omega) hb
  exact ⟨_, w', h1, .inr ⟨_, cap, rfl, h2⟩, h3.mono hb⟩
 ·obtain ⟨g', cap', w', h1, h3, h4, _⟩ := h2.run_app enK ty x hs (by omega) hb
  refine ⟨_, w', h1, .inr ⟨g', cap', by rw [List.length_append], by rw [List.length_append, evs_app]; exact h3⟩, h2.grown (Below.refl _ _) hb h4⟩
theorem wpList_en {ops : Array Oper} {rest : List Oper} {o : Oper} {a : Act} {w : World} {Q : Exit → Act → World → Prop} (hgd : o.guard = none) (s x : Operand)
  (ho : o.op = .call { callee := .builtin .append, args := #[s, x], argTypes := #[28, 28] })
  (base : Nat) (v xv : Value) (l ys : List EnV) (hs : a.eval s = v) (hx : a.eval x = xv) (hown : OwnE w base v l)
  (hA : Src Tryz.prog 6 28 xv ys.length (evs ys) w) (h0 : 0 < ys.length ∨ v ≠ .slice none 0 0) (hn : l.length + ys.length ≤ 1000000) (hbase : base ≤ w.heap.size)
  (h : ∀ v' w', OwnE w' base v' (l ++ ys) → Below base w w' → wpList Tryz.prog ops Q rest (a.put o.dst v') w') : wpList Tryz.prog ops Q (o :: rest) a w := by
 refine wpList_plain hgd fun _ hK => ?_
 obtain ⟨v', w', hr, h2, h3⟩ := run_en o.type hown hA h0 hn hbase
 unfold Oper.wp execOp
 simp only [ho, resolve, invoke, builtin, Sem.run_bind, Sem.run_pure, Result.andThen_ok, List.map_toArray, List.map_cons, List.map_nil, hs, hx, hr]
 exact hK _ _ (h v' w' h2 h3)
theorem src_en (w : World) (e : EnV) (g c : Nat) (h : w.heap[g]? = some (.cells (ecs e) 40 (0, 0))) : Src Tryz.prog 6 28 (.slice (some ⟨g, 0, none⟩) 1 c) [e].length (evs [e]) w :=
 src_litK enK _ g 1 c (evs [e]) rfl h (evs_one [e])
theorem loadE_eq (x : Value) : Instr.loadAt 40 x = loadI 40 x := rfl
theorem storeE_eq (x v : Value) : Instr.storeAt 40 x v = storeI 40 x v := rfl
theorem loadE_mid {w : World} {q o : Nat} {e : EnV} (h : ∀ i v, (ecs e)[i]? = some v → w.cell? ⟨q, o + i, none⟩ = some v) : (loadI 40 (.pointer (some ⟨q, o, none⟩))).run Tryz.prog w = .ok (.agg (ecs e)) w :=
 run_loadAt_mid w q o 40 [.string (asS e.id), .string (asS e.title), .string (asS e.link), .string (asS e.body), .int .i64 e.time, .bool e.dated] _ (fun j v hv => by
  refine h j v ?_
  rw [show ecs e = ([.string (asS e.id), .string (asS e.title), .string (asS e.link), .string (asS e.body), .int .i64 e.time, .bool e.dated] : List Value).toArray from rfl, List.getElem?_toArray]
  exact hv) Tryz.underlying40 rfl infoE
theorem EntsAt.load {w : World} {A : Option Addr} {l : List EnV} (h : EntsAt w A l) (j : Nat) (hj : j < l.length) : ∃ q o, A = some ⟨q, o, none⟩ ∧ q < w.heap.size ∧ (loadI 40 (.pointer (some ⟨q, o + j * 6, none⟩))).run Tryz.prog w = .ok (.agg (ecs (l.getD j zeroE))) w := by
 obtain ⟨q, o, h1, h2, h3⟩ := h (by omega)
 exact ⟨q, o, h1, h2, loadE_mid fun i v hv => h3 j i v hj hv⟩
theorem loadE_run {w : World} {g : Nat} {cs : Array Value} {fr : Nat × Nat} (hg : w.heap[g]? = some (.cells cs 40 fr)) (hz : cs.size = 6) : (loadI 40 (.pointer (some ⟨g, 0, none⟩))).run Tryz.prog w = .ok (.agg cs) w := by
 have := run_loadVar_row w g 40 40 cs fr _ hg Tryz.underlying40 rfl (by rw [hz]; exact infoE)
 unfold loadI
 simp only [Instr.loadAt, Instr.sureAddr, Sem.run_bind, Sem.run_pure, Result.andThen_ok, this]
theorem ret_en {fn : Func} {p : Tmp} (h : fn.results = #[.cell p 40]) (tmps : Array Value) (w : World) (b : Nat) (cs : Array Value) (hz : cs.size = 6) (fr : Nat × Nat) (hp : tmps.getD p undef = .pointer (some ⟨b, 0, none⟩)) (hrow : w.heap[b]? = some (.cells cs 40 fr)) :
  (results fn tmps).run Tryz.prog w = .ok (.agg cs) w :=
 results_cell_row h tmps w b 40 cs fr _ hp hrow Tryz.underlying40 rfl (by rw [hz]; exact infoE)
attribute [local go_sem ↓] loadE_eq
def MapI (w : World) (B n : Nat) (l : List EnV) : Prop := ∃ D : DataW Unit, w.ownsMap Tryz.prog 9 (plainElem Tryz.prog 3) B n D ∧ (∀ x : List UInt8, Maps.has D (.string x) = hasK EnV.id l x) ∧
 ∀ x : List UInt8, hasK EnV.id l x = true → D.atKey (.string x) (.lit (.int .i64 0)) = .lit (.int .i64 (plK EnV.id l x : Nat))
theorem keySE : Maps.Keyed Tryz.prog 9 := Maps.string_keyed Tryz.underlying9
theorem zeroI (w : World) : (zeroValue 3).run Tryz.prog w = .ok (.int .i64 0) w := by kernel_rfl
theorem keyNE (x : List UInt8) (h : x.length ≤ 140737488355328) : keyOf Tryz.prog 9 (.string (asS x)) = some (.string x) :=
 WideMaps.keyOf_string_mk Tryz.underlying9 (s := asS x) (by rw [asS_size]; unfold maxLen; omega)
theorem wf_small {k : Nat} (h : k ≤ 1000000) : (Lit.int .i64 (k : Int)).wf = true := by
 have h1 : IntKind.min .i64 = -9223372036854775808 := by decide
 have h2 : IntKind.max .i64 = 9223372036854775807 := by decide
 simp only [Lit.wf, h1, h2, Bool.and_eq_true, decide_eq_true_eq]
 omega
theorem MapI.made (w : World) : MapI (w.alloc (.map #[] 0)) w.heap.size 0 [] := ⟨_, World.ownsMap_made _ _ _ _, fun x => rfl, fun x h => by cases h⟩
theorem MapI.to {w w' : World} {B n : Nat} {l : List EnV} {R : Option Nat} (h : MapI w B n l) (hg : w.grownBy w' R) (hne : some B ≠ R) : MapI w' B n l := by
 obtain ⟨D, h1, h2⟩ := h
 exact ⟨D, h1.kept hg hne, h2⟩
theorem MapI.below {w w' : World} {B n : Nat} {l : List EnV} (h : MapI w B n l) (hb : Below w.heap.size w w') : MapI w' B n l := h.to (grown_of_below hb) (by simp)
theorem MapI.mono {w : World} {B n n' : Nat} {l : List EnV} (h : MapI w B n l) (hn : n ≤ n') : MapI w B n' l := by
 obtain ⟨D, h1, h2⟩ := h
 exact ⟨D, h1.mono hn, h2⟩
theorem MapI.lt {w : World} {B n : Nat} {l : List EnV} (h : MapI w B n l) : B < w.heap.size := by
 obtain ⟨D, h1, h2⟩ := h
 exact h1.lt
theorem MapI.skip {w : World} {B n : Nat} {l : List EnV} {e : EnV} (h : MapI w B n l) (hh : hasK EnV.id l e.id = true) : MapI w B n (l ++ [e]) := by
 obtain ⟨D, h1, h2, h3⟩ := h
 have hs : ∀ x, hasK EnV.id (l ++ [e]) x = hasK EnV.id l x := fun x => by
  rw [has_snoc]
  by_cases hx : e.id = x
  ·subst hx; rw [hh]; rfl
  ·simp [hx]
 refine ⟨D, h1, fun x => by rw [hs]; exact h2 x, fun x hx => ?_⟩
 rw [hs] at hx
 rw [pl_app, if_pos hx]
 exact h3 x hx
theorem wpList_askI {w : World} {ops : Array Oper} {rest : List Oper} {o : Oper} {a : Act} {Q : Exit → Act → World → Prop} (hg : o.guard = none) (m x : Operand) (hop : o.op = Op.lookup 77 m x true)
  (B n : Nat) (l : List EnV) (hm : a.eval m = .map (some B)) (h : MapI w B n l) (X : ByteArray) (nm : List UInt8) (hX : X = asS nm) (hx : a.eval x = .string X) (hl : nm.length ≤ 140737488355328) (b : Bool) (hb : hasK EnV.id l nm = b)
  (hK : ∀ c : Int, wpList Tryz.prog ops Q rest (a.put o.dst (.tuple #[.int .i64 c, .bool b])) w) : wpList Tryz.prog ops Q (o :: rest) a w := by
 obtain ⟨D, h1, h2, h3⟩ := h
 refine wpList_lookup_own_ok_int w hg m x _ hop 9 3 .i64 keySE Tryz.underlying77 Tryz.underlying3 (zeroI _) B n D hm h1 _ _ hx (by rw [hX]; exact keyNE nm hl) ?_
 intro c _ _
 rw [h2, hb]
 exact hK c
theorem wpList_getI {w : World} {ops : Array Oper} {rest : List Oper} {o : Oper} {a : Act} {Q : Exit → Act → World → Prop} (hg : o.guard = none) (m x : Operand) (hop : o.op = Op.lookup 77 m x false)
  (B n : Nat) (l : List EnV) (hm : a.eval m = .map (some B)) (h : MapI w B n l) (X : ByteArray) (nm : List UInt8) (hX : X = asS nm) (hx : a.eval x = .string X) (hl : nm.length ≤ 140737488355328) (hb : hasK EnV.id l nm = true)
  (hK : wpList Tryz.prog ops Q rest (a.put o.dst (.int .i64 (plK EnV.id l nm : Nat))) w) : wpList Tryz.prog ops Q (o :: rest) a w := by
 obtain ⟨D, h1, h2, h3⟩ := h
 refine wpList_lookup_own_int w hg m x _ hop 9 3 .i64 keySE Tryz.underlying77 Tryz.underlying3 (zeroI _) B n D hm h1 _ _ hx (by rw [hX]; exact keyNE nm hl) ?_
 intro c hc _
 rw [h3 nm hb] at hc
 injection hc with hc
 injection hc with _ hc
 rw [← hc]
 exact hK
theorem wpList_noteI {w : World} {ops : Array Oper} {rest : List Oper} {o : Oper} {a : Act} {Q : Exit → Act → World → Prop} (hg : o.guard = none) (m x v : Operand) (hop : o.op = Op.mapUpdate 77 m x v)
  (B n : Nat) (l : List EnV) (hm : a.eval m = .map (some B)) (h : MapI w B n l) (hn : n ≤ 1000000) (X : ByteArray) (e : EnV) (hX : X = asS e.id) (hx : a.eval x = .string X) (k : Nat) (hk : k = l.length) (hv : a.eval v = .int .i64 (k : Int)) (hk2 : k ≤ 1000000) (hl : e.id.length ≤ 140737488355328) (hb : hasK EnV.id l e.id = false)
  (hK : ∀ w', MapI w' B (n + 1) (l ++ [e]) → w.grownBy w' (some B) → wpList Tryz.prog ops Q rest (a.put o.dst undef) w') : wpList Tryz.prog ops Q (o :: rest) a w := by
 obtain ⟨D, h1, h2, h3⟩ := h
 refine wpList_mapUpdate_own w hg m x v _ hop 9 3 keySE Tryz.underlying77 (plainElem Tryz.prog 3) B n D hm h1 (by unfold maxLen; omega) _ _ _ hx hv (by rw [hX]; exact keyNE e.id hl) (.lit (.int .i64 (k : Int))) [] (plainElem_int Tryz.underlying3 (wf_small hk2)) ?_
 intro w' hw hgr
 have hkl : WideAt.IsKeyLit (Lit.string e.id) := trivial
 refine hK w' ⟨_, hw, fun y => ?_, fun y hy => ?_⟩ hgr
 ·rw [has_snoc]
  by_cases hye : e.id = y
  ·subst hye
   rw [Maps.has_put_same h1.isMap hkl]
   simp
  ·rw [Maps.has_put_other (fun e => hye (by injection e with e; exact e.symm)), h2]
   simp [hye]
 ·rw [has_snoc] at hy
  by_cases hye : e.id = y
  ·subst hye
   rw [Maps.atKey_put_same h1.isMap hkl, pl_app, hb, hk]
   have : plK EnV.id [e] e.id = 0 := by unfold plK; rw [List.findIdx_cons]; simp
   rw [this]; rfl
  ·have hh : hasK EnV.id l y = true := by simpa [hye] using hy
   rw [Maps.atKey_put_other (fun e => hye (by injection e with e; exact e.symm)), pl_app, if_pos hh]
   exact h3 y hh
end Go.Proofs.YtgoiafndapemjaaGreatDoor
