import Derived.Test.YtgoiafndapemjaaGreatDoorQ16
import Derived.Test.YtgoiafndapemjaaGreatDoorQ15
set_option linter.unusedVariables false
set_option linter.unusedSimpArgs false
set_option maxHeartbeats 1000000
namespace Go.Proofs.YtgoiafndapemjaaGreatDoor
open Go.RowKit Go.BigFrame
theorem ret_nd1 {fn : Func} {p : Tmp} (h : fn.results = #[.cell p 25]) (tmps : Array Value) (w : World) (b : Nat) (cs : Array Value) (hz : cs.size = 4) (fr : Nat × Nat) (hp : tmps.getD p undef = .pointer (some ⟨b, 0, none⟩)) (hrow : w.heap[b]? = some (.cells cs 25 fr)) :
  (results fn tmps).run Tryz.prog w = .ok (.agg cs) w :=
 results_cell_row h tmps w b 25 cs fr _ hp hrow Tryz.underlying25 rfl (by rw [hz]; exact infoN)
theorem setCell_row {w : World} {g j : Nat} {t : TypeId} {cs : Array Value} (v : Value) (hrow : w.heap[g]? = some (.cells cs t (0, 0))) : Only g w (w.setCell ⟨g, j, none⟩ v) ∧ (w.setCell ⟨g, j, none⟩ v).heap[g]? = some (.cells (cs.setIfInBounds j v) t (0, 0)) := by
 have h := setCells_heap g t [v] j w _ hrow
 simp only [over] at h
 exact ⟨only_setCells g [v] j w, h⟩
theorem free_row {w : World} {g j : Nat} {t : TypeId} {cs : Array Value} (hrow : w.heap[g]? = some (.cells cs t (0, 0))) : w.frozen? ⟨g, j, none⟩ = false := by simp [World.frozen?, hrow]
attribute [local go_sem ↓] loadN_eq
set_option maxRecDepth 100000 in
theorem kids_of (d lev : Nat) (HEL : ElOk d lev) (l : List UInt8) (m R : Nat) (w : World) (hl : l.length ≤ 65536) (h13 : (13 : UInt8) ∉ l) (hm : m ≤ 4096) (hR : 7 < R) (hT : TabE w) (h : Rd w R l m) :
  Calls Tryz.prog 141 #[.pointer (some ⟨R, 0, none⟩), .int .i64 ((17 - lev : Nat) : Int)] w (KdPost d lev l m R w) := by
 have HTO : Hid (∀ W, w.grownBy W (some R) → TabE W) := fun W hW => hT.to hW hR
 have HAT : Hid (∀ b k W, Rd W R b k → Calls Tryz.prog 105 #[.pointer (some ⟨R, 0, none⟩), .string ⟨#[60, 47]⟩] W fun e w' => e = .returned (.bool (preX [60, 47] b)) ∧ w' = W) := fun b k W hW => at_any b [60, 47] k R W hW
 have HA6 : Hid (∀ b k W, Rd W R b k → Calls Tryz.prog 105 #[.pointer (some ⟨R, 0, none⟩), .string ⟨#[60]⟩] W fun e w' => e = .returned (.bool (preX [60] b)) ∧ w' = W) := fun b k W hW => at_any b [60] k R W hW
 have HAR : Hid (∀ b k W, Rd W R b k → Calls Tryz.prog 105 #[.pointer (some ⟨R, 0, none⟩), .string ⟨#[60, 33, 91, 67, 68, 65, 84, 65, 91]⟩] W fun e w' => e = .returned (.bool (preX [60, 33, 91, 67, 68, 65, 84, 65, 91] b)) ∧ w' = W) := fun b k W hW => at_any b [60, 33, 91, 67, 68, 65, 84, 65, 91] k R W hW
 have HAA := hid (fun (b : List UInt8) k W hW => atAside_any b k R W hW)
 have HOK := hid (fun (b c : List UInt8) k (hb : b.length ≤ 1000000) (hc : asideX b = some c) W hT hW => aside_ok b c k R hb hR hc W hT hW)
 have HNO := hid (fun (b : List UInt8) k (hb : b.length ≤ 1000000) (hc : asideX b = none) W hT hW => aside_no b k R hb hR hc W hT hW)
 have HPI := hid (fun bg (b : List UInt8) k (hb : b.length ≤ 100000) (hk : k ≤ 4096) W hT hW => pieceB_any bg b k R hb (by omega) hR W hT hW)
 have HE := hid (fun (b : List UInt8) k W (h1 : b.length ≤ 65536) (h2 : (13 : UInt8) ∉ b) (h3 : k ≤ 4096) (h4 : TabE W) (h5 : Rd W R b k) => HEL b k R W h1 h2 h3 hR h4 h5)
 have HL := hid hl
 have H13 := hid h13
 have HRW := hid h.lt
 have HSTART : Hid (KS d lev (kidW d (elX d lev) [] l m) R l w (.slice none 0 0) (.slice none 0 0) [] [] l m w) := ⟨OwnN.nil _ _ _, Wd.nil _ _, rfl, rfl, List.suffix_refl _, hm, by simp, h, to_refl R w⟩
 clear HEL hl h13 hm hR hT h
 unfold KdPost
 generalize kidW d (elX d lev) [] l m = V at HSTART ⊢
 generalize ((17 - lev : Nat) : Int) = Dp at HE ⊢
 go_enter Tryz.func141, Tryz.ntmps141
 go_wp2_with fail
 go_loopw [6, 7] (fun x6 x7 wr => ∃ (kv wv : Value) (kd : List (Tr d)) (ws l' : List UInt8) (m' : Nat), kv = x6 ∧ wv = x7 ∧ Hid (KS d lev V R l w kv wv kd ws l' m' wr)) (fun kv wv wr => rdLen R wr)
 case atStart => exact ⟨_, _, [], [], l, m, rfl, rfl, HSTART.out⟩
 case round =>
  obtain ⟨kv, wv, kd, ws, l', m', hx6, hx7, HKS⟩ := hrel
  subst hx6 hx7
  have HRD := hid HKS.out.rd
  go_wp2_with fail
  refine (HAT.out l' m' _ HRD.out).mono ?_
  rintro e W ⟨rfl, rfl⟩
  cases hend : preX [60, 47] l' with
  | true =>
   have HV := hid (HKS.out.done hend)
   have HAP := hid (appendText_any (P := fun q => w.heap.size ≤ q ∧ blk wv ≠ some q) d w.heap.size kv wv kd ws W HKS.out.own HKS.out.wd (by have := HKS.out.few; have := HL.out; omega) (fun q hq => ⟨Nat.le_trans HKS.out.to.size hq, fun e => by have := (HKS.out.wd.blk_ge q e).2; omega⟩))
   clear hend
   have HBK : Hid (∀ q, blk kv = some q → w.heap.size ≤ q) := fun q hq => (HKS.out.own.blk_P q hq).1.1
   go_wp2_with fail
   refine HAP.out.mono ?_
   rintro e W2 ⟨v2, rfl, hown, hg, _⟩
   have HOW := hid hown
   have HG := hid hg
   clear hown hg
   go_wp2_with fail
   go_ret2
   exact ⟨grown_own HKS.out.to HG.out HBK.out, .inl ⟨_, _, _, _, HV.out, rfl, HOW.out.frame (Nat.le_refl _) fun q hq _ => ⟨rfl, hq.1⟩, rd_own HKS.out.rd HG.out fun e => by have := HBK.out R e; have := HRW.out; omega⟩⟩
  | false =>
   have H0 := hid hend
   clear hend
   go_wp2_with fail
   refine (HAA.out l' m' _ HRD.out).mono ?_
   rintro e W ⟨rfl, rfl⟩
   have hbl := HKS.out.suf.length_le
   cases hat : atAs l' with
   | true =>
    cases has : asideX l' with
    | none =>
     have HV := hid (HKS.out.aside_no hat has)
     have HN := hid (HNO.out l' m' (by have := HL.out; omega) has _ (HTO.out _ HKS.out.to) HRD.out)
     clear has hat hbl
     go_wp2_with fail
     refine HN.out.mono ?_
     rintro e W2 ⟨rfl, ho⟩
     have HO2 := hid ho
     clear ho
     go_wp2_with fail
     go_ret2
     exact ⟨HKS.out.to.trans HO2.out, .inr ⟨5, HV.out, by omega, rfl⟩⟩
    | some c =>
     have HC := hid (HOK.out l' c m' (by have := HL.out; omega) has _ (HTO.out _ HKS.out.to) HRD.out)
     have HNX : Hid (∀ W2, W.grownBy W2 (some R) → Rd W2 R c m' → KS d lev V R l w kv wv kd ws c m' W2) := fun W2 h1 h2 => HKS.out.aside HRW.out hat has h1 h2
     have HSH := hid (aside_sh has)
     clear has hat hbl
     go_wp2_with fail
     refine HC.out.mono ?_
     rintro e W2 ⟨rfl, hr, ho⟩
     have HK := hid (HNX.out W2 ho hr)
     clear ho hr
     go_wp2_with fail
     go_roundw
     case rel => exact ⟨_, _, kd, ws, c, m', rfl, rfl, HK.out⟩
     case measure => rw [rdLen_eq HK.out.rd, rdLen_eq HKS.out.rd]; exact HSH.out.2
   | false =>
    have H1 := hid hat
    clear hat hbl
    go_wp2_with fail
    refine (HA6.out l' m' _ HRD.out).mono ?_
    rintro e W ⟨rfl, rfl⟩
    cases h60 : preX [60] l' with
    | false =>
     have HRAW : Hid (preX [60, 33, 91, 67, 68, 65, 84, 65, 91] l' = true ∨ preX [60] l' = false) := .inr h60
     clear h60
     have hbl := HKS.out.suf.length_le
     have hws := HKS.out.wd
     obtain ⟨wA, wc, hwv, _, _⟩ := hws.shape
     clear hws
     have hlw : ((ws.length : Int) == 0) = ws.isEmpty := by cases ws <;> simp <;> omega
     have HPC := hid (HPI.out ws.isEmpty l' m' (by have := HL.out; omega) HKS.out.many _ (HTO.out _ HKS.out.to) HKS.out.rd)
     clear hbl
     generalize hz : ws.isEmpty = z at hlw HPC
     have HZ := hid hz
     clear hz
     generalize hn : ws.length = n at hlw hwv
     clear hn
     subst hwv
     go_wp2_with fail
     refine HPC.out.mono ?_
     rintro e W2 ⟨ho, hpp⟩
     have HO2 := hid ho
     clear ho
     rcases hpp with ⟨hp, s, rfl⟩ | ⟨s, r, hp, (⟨hb, rfl, hr⟩ | ⟨hb, hm4, rfl, hr⟩ | ⟨hb, hm4, rfl⟩)⟩
     ·have HV := hid (HKS.out.piece_no H0.out H1.out HRAW.out hp)
      clear hp
      go_wp2_with fail
      go_ret2
      exact ⟨HKS.out.to.trans HO2.out, .inr ⟨5, HV.out, by omega, rfl⟩⟩
     ·have HSY := hid (HKS.out.say H0.out H1.out HRAW.out hp m' (.inl ⟨by rw [HZ.out]; exact hb, rfl⟩))
      have HR2 := hid hr
      have HSH := hid (piece_sh2 hp HRAW.out)
      have HWD := hid (HKS.out.call HRW.out HO2.out).2.1
      have HFW : Hid (ws.length + s.length ≤ 1000000) := by
       have := HSY.out.2.2.2
       rw [List.length_append] at this
       have := HL.out
       show _ ≤ _
       omega
      have HSZ := hid (Nat.le_trans HKS.out.to.size HO2.out.size)
      clear hb hr hp
      go_wp2_with (first
       | (refine wpList_wd rfl _ _ rfl w.heap.size _ ws s rfl rfl HWD.out HFW.out HSZ.out ?_)
       | fail)
      intro v3 W3 k1 k2 k3
      have HK := hid (HKS.out.words HRW.out HSY.out HO2.out HR2.out k1 k2 k3)
      clear k1 k2 k3
      go_wp2_with fail
      go_roundw
      case rel => exact ⟨_, _, kd, ws ++ s, r, m', rfl, rfl, HK.out⟩
      case measure => rw [rdLen_eq HK.out.rd, rdLen_eq HKS.out.rd]; exact HSH.out.2
     ·have HSY := hid (HKS.out.say H0.out H1.out HRAW.out hp (m' + 1) (.inr ⟨by rw [HZ.out]; exact hb, hm4, rfl⟩))
      have HR2 := hid hr
      have HSH := hid (piece_sh2 hp HRAW.out)
      have HWD := hid (HKS.out.call HRW.out HO2.out).2.1
      have HFW : Hid (ws.length + s.length ≤ 1000000) := by
       have := HSY.out.2.2.2
       rw [List.length_append] at this
       have := HL.out
       show _ ≤ _
       omega
      have HSZ := hid (Nat.le_trans HKS.out.to.size HO2.out.size)
      clear hb hr hp hm4
      go_wp2_with (first
       | (refine wpList_wd rfl _ _ rfl w.heap.size _ ws s rfl rfl HWD.out HFW.out HSZ.out ?_)
       | fail)
      intro v3 W3 k1 k2 k3
      have HK := hid (HKS.out.words HRW.out HSY.out HO2.out HR2.out k1 k2 k3)
      clear k1 k2 k3
      go_wp2_with fail
      go_roundw
      case rel => exact ⟨_, _, kd, ws ++ s, r, m' + 1, rfl, rfl, HK.out⟩
      case measure => rw [rdLen_eq HK.out.rd, rdLen_eq HKS.out.rd]; exact HSH.out.2
     ·have HV := hid (HKS.out.piece_many H0.out H1.out HRAW.out hp (by rw [HZ.out]; exact hb) hm4)
      clear hb hp hm4
      go_wp2_with fail
      go_ret2
      exact ⟨HKS.out.to.trans HO2.out, .inr ⟨3, HV.out, by omega, rfl⟩⟩
    | true =>
     go_wp2_with fail
     refine (HAR.out l' m' _ HRD.out).mono ?_
     rintro e W ⟨rfl, rfl⟩
     cases hraw : preX [60, 33, 91, 67, 68, 65, 84, 65, 91] l' with
     | true =>
      have HRAW : Hid (preX [60, 33, 91, 67, 68, 65, 84, 65, 91] l' = true ∨ preX [60] l' = false) := .inl hraw
      clear hraw h60
      have hbl := HKS.out.suf.length_le
      have hws := HKS.out.wd
      obtain ⟨wA, wc, hwv, _, _⟩ := hws.shape
      clear hws
      have hlw : ((ws.length : Int) == 0) = ws.isEmpty := by cases ws <;> simp <;> omega
      have HPC := hid (HPI.out ws.isEmpty l' m' (by have := HL.out; omega) HKS.out.many _ (HTO.out _ HKS.out.to) HKS.out.rd)
      clear hbl
      generalize hz : ws.isEmpty = z at hlw HPC
      have HZ := hid hz
      clear hz
      generalize hn : ws.length = n at hlw hwv
      clear hn
      subst hwv
      go_wp2_with fail
      refine HPC.out.mono ?_
      rintro e W2 ⟨ho, hpp⟩
      have HO2 := hid ho
      clear ho
      rcases hpp with ⟨hp, s, rfl⟩ | ⟨s, r, hp, (⟨hb, rfl, hr⟩ | ⟨hb, hm4, rfl, hr⟩ | ⟨hb, hm4, rfl⟩)⟩
      ·have HV := hid (HKS.out.piece_no H0.out H1.out HRAW.out hp)
       clear hp
       go_wp2_with fail
       go_ret2
       exact ⟨HKS.out.to.trans HO2.out, .inr ⟨5, HV.out, by omega, rfl⟩⟩
      ·have HSY := hid (HKS.out.say H0.out H1.out HRAW.out hp m' (.inl ⟨by rw [HZ.out]; exact hb, rfl⟩))
       have HR2 := hid hr
       have HSH := hid (piece_sh2 hp HRAW.out)
       have HWD := hid (HKS.out.call HRW.out HO2.out).2.1
       have HFW : Hid (ws.length + s.length ≤ 1000000) := by
        have := HSY.out.2.2.2
        rw [List.length_append] at this
        have := HL.out
        show _ ≤ _
        omega
       have HSZ := hid (Nat.le_trans HKS.out.to.size HO2.out.size)
       clear hb hr hp
       go_wp2_with (first
        | (refine wpList_wd rfl _ _ rfl w.heap.size _ ws s rfl rfl HWD.out HFW.out HSZ.out ?_)
        | fail)
       intro v3 W3 k1 k2 k3
       have HK := hid (HKS.out.words HRW.out HSY.out HO2.out HR2.out k1 k2 k3)
       clear k1 k2 k3
       go_wp2_with fail
       go_roundw
       case rel => exact ⟨_, _, kd, ws ++ s, r, m', rfl, rfl, HK.out⟩
       case measure => rw [rdLen_eq HK.out.rd, rdLen_eq HKS.out.rd]; exact HSH.out.2
      ·have HSY := hid (HKS.out.say H0.out H1.out HRAW.out hp (m' + 1) (.inr ⟨by rw [HZ.out]; exact hb, hm4, rfl⟩))
       have HR2 := hid hr
       have HSH := hid (piece_sh2 hp HRAW.out)
       have HWD := hid (HKS.out.call HRW.out HO2.out).2.1
       have HFW : Hid (ws.length + s.length ≤ 1000000) := by
        have := HSY.out.2.2.2
        rw [List.length_append] at this
        have := HL.out
        show _ ≤ _
        omega
       have HSZ := hid (Nat.le_trans HKS.out.to.size HO2.out.size)
       clear hb hr hp hm4
       go_wp2_with (first
        | (refine wpList_wd rfl _ _ rfl w.heap.size _ ws s rfl rfl HWD.out HFW.out HSZ.out ?_)
        | fail)
       intro v3 W3 k1 k2 k3
       have HK := hid (HKS.out.words HRW.out HSY.out HO2.out HR2.out k1 k2 k3)
       clear k1 k2 k3
       go_wp2_with fail
       go_roundw
       case rel => exact ⟨_, _, kd, ws ++ s, r, m' + 1, rfl, rfl, HK.out⟩
       case measure => rw [rdLen_eq HK.out.rd, rdLen_eq HKS.out.rd]; exact HSH.out.2
      ·have HV := hid (HKS.out.piece_many H0.out H1.out HRAW.out hp (by rw [HZ.out]; exact hb) hm4)
       clear hb hp hm4
       go_wp2_with fail
       go_ret2
       exact ⟨HKS.out.to.trans HO2.out, .inr ⟨3, HV.out, by omega, rfl⟩⟩
     | false =>
      have H2 := hid hraw
      have H3 := hid h60
      clear hraw h60
      have hbl := HKS.out.suf.length_le
      have HEC := hid (HE.out l' m' W (by have := HL.out; omega) (fun hm => H13.out (HKS.out.suf.subset hm)) HKS.out.many (HTO.out _ HKS.out.to) HRD.out)
      clear hbl
      go_wp2_with fail
      refine HEC.out.mono ?_
      rintro e W2 ⟨ho, (⟨t, l2, m2, cs, he, rfl, hnd, hr⟩ | ⟨er, A, B, C, D, he, her, rfl, o1, o2, o3, o4⟩)⟩
      ·have HNX := hid (HKS.out.elem H0.out H1.out H2.out H3.out he)
       have HSH := hid (el_sh d lev _ _ _ _ _ HKS.out.many he).1
       have HO2 := hid ho
       have HND := hid hnd
       have HR2 := hid hr
       obtain ⟨aA, ac, kA, kc, hcs, _, _⟩ := hnd.parts
       obtain ⟨A, B, C, D, hcs2, o1, o2, o3, o4⟩ : ∃ A B C D : Value, cs = #[A, B, C, D] ∧ A.oneCell' = true ∧ B.oneCell' = true ∧ C.oneCell' = true ∧ D.oneCell' = true := ⟨_, _, _, _, hcs, rfl, rfl, rfl, rfl⟩
       clear ho he hnd hr hcs
       subst hcs2
       go_wp2_with (first
        | (refine store_msg infoN rfl _ _ rfl W2.heap.size A B C D o1 o2 o3 o4 rfl rfl _ (heap_alloc_new W2 _) rfl ?_)
        | fail)
       intro W3 ho3 hr3
       have HO3 := hid ho3
       have HR3 := hid hr3
       clear ho3 hr3
       have HAP := hid (fun X hX => HKS.out.flush HRW.out (by have := HKS.out.few; have := HL.out; omega) HO2.out HND.out HR2.out (((Below.refl _ W2).alloc (Nat.le_refl _) _).trans (HO3.out.below (Nat.le_refl _))) HR3.out X hX)
       have hldA : (loadI 25 (.pointer (some ⟨W2.heap.size, 0, none⟩))).run Tryz.prog W3.drew = .ok (.agg #[A, B, C, D]) W3.drew := loadN_run (w := W3.drew) HR3.out rfl
       have HFEW : Hid ((kd ++ pend d ws).length ≤ 1000000) := by
        have h1 := HNX.out.2.2.2.1
        have h2 := HL.out
        rw [List.length_append] at h1
        show _ ≤ _
        omega
       have HWB : Hid (∀ q, blk wv = some q → q < W2.heap.size) := fun q hq => Nat.lt_of_lt_of_le (HKS.out.wd.blk_ge q hq).2 HO2.out.size
       have HSZ1 : Hid (∀ X : World, ∀ {v1 : Value}, Aft (fun q => w.heap.size ≤ q ∧ blk wv ≠ some q) R d w W2.heap.size #[A, B, C, D] t (kd ++ pend d ws) l2 m2 v1 X → W2.heap.size < X.heap.size) := fun X v1 hx => (Array.getElem?_eq_some_iff.1 hx.kid).1
       have HEN := hid (enters_of Tryz.func164 (by kernel_rfl) rfl)
       have HKB : Hid (∀ q, blk kv = some q → q < W2.heap.size) := fun q hq => Nat.lt_of_lt_of_le (HKS.out.own.blk_P q hq).2 HO2.out.size
       go_wp2_with fail
       go_region_law ((first
        | (refine step_call2 (by rfl) 164 _ _ _ (by rfl) HEN.out kv wv (by rfl) (by rfl) (HAP.out _ (by first | exact (Below.refl _ _).drew | exact (((Below.refl _ _).drew).alloc (Nat.le_refl _) _))) ?_; intro v1 w1 ha; have HA1 := hid ha.1; have HG1 := hid ha.2.1; have HLT := hid ha.2.2; have hldB := loadN_run ha.1.kid rfl; clear ha)
        | (refine step_nd (by rfl) _ _ (by rfl) (fun q => w.heap.size ≤ q ∧ blk wv ≠ some q) d v1 _ (kd ++ pend d ws) #[A, B, C, D] t (by rfl) (by rfl) (by first | exact HA1.out.own | exact (HA1.out.below ((Below.refl _ _).alloc (Nat.le_refl _) _)).own) (by first | exact src_nd (HA1.out.below ((Below.refl _ _).alloc (Nat.le_refl _) _)).nd w1.heap.size 1 (heap_alloc_new w1 _) | exact src_nd HA1.out.nd _ 1 (HLT.out _ _ (heap_alloc_new W3.drew _) (fun e => by have h1 := HKB.out _ e; have h2 := (Array.getElem?_eq_some_iff.1 HR3.out).1; have h3 : W3.drew.heap.size = W3.heap.size := rfl; omega))) (by rfl) (by first | exact HA1.out.nd | exact (HA1.out.below ((Below.refl _ _).alloc (Nat.le_refl _) _)).nd) (by have := HFEW.out; exact this) (by first | exact ⟨Nat.le_trans HA1.out.to.size (Nat.le_refl _), fun e => by have h1 := HWB.out _ e; have h2 := HSZ1.out _ HA1.out; omega⟩ | (refine ⟨Nat.le_trans HA1.out.to.size (by simp), fun e => ?_⟩; have h1 := HWB.out _ e; have h2 := HSZ1.out _ HA1.out; simp at h1; omega)) ?_; intro v4 w4 q1 q2 q3)
        | fail))
       all_goals
        have HK : Hid (KS d lev V R l w v4 (.slice none 0 0) (kd ++ pend d ws ++ [t]) [] l2 m2 w4) := by
         first
          | exact KS.next HA1.out HRW.out HNX.out q1 q2
          | exact KS.next (HA1.out.below ((Below.refl _ _).alloc (Nat.le_refl _) _)) HRW.out HNX.out q1 q2
        clear q1 q2 q3 hldA hldB
        go_wp2_with fail
        go_roundw
        case rel => exact ⟨_, _, _, [], l2, m2, rfl, rfl, HK.out⟩
        case measure => rw [rdLen_eq HK.out.rd, rdLen_eq HKS.out.rd]; exact HSH.out.2
      ·have HV := hid (HKS.out.elem_no H0.out H1.out H2.out H3.out he)
       have HO2 := hid ho
       have HER := hid her
       have hne : ((er : Int) != 0) = true := by
        rw [bne_iff_ne]
        omega
       clear ho he her
       go_wp2_with (first
        | (refine store_msg infoN rfl _ _ rfl W2.heap.size A B C D o1 o2 o3 o4 rfl rfl _ (heap_alloc_new W2 _) rfl ?_)
        | fail)
       intro W3 ho3 hr3
       have HO3 := hid ho3
       clear ho3 hr3
       go_wp2_with fail
       go_ret2
       exact ⟨grown_own (HKS.out.to.trans (HO2.out.trans (World.grownBy_alloc W2 _ _))) (to_only HO3.out) (fun q hq => by injection hq with hq; rw [← hq]; exact Nat.le_trans HKS.out.to.size HO2.out.size), .inr ⟨er, HV.out, HER.out, rfl⟩⟩
end Go.Proofs.YtgoiafndapemjaaGreatDoor
