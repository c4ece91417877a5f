import Derived.Test.YtgoiafndapemjaaGreatDoorQ16
import Derived.Test.YtgoiafndapemjaaGreatDoorQ17
set_option linter.unusedVariables false
set_option linter.unusedSimpArgs false
set_option maxHeartbeats 1000000
namespace Go.Proofs.YtgoiafndapemjaaGreatDoor
open Go.RowKit Go.BigFrame
attribute [local go_sem ↓] loadN_eq storeN_eq
theorem ret_nd2 {fn : Func} {p q : Tmp} (h : fn.results = #[.cell p 25, .tmp q]) (tmps : Array Value) (w : World) (b : Nat) (cs : Array Value) (hz : cs.size = 4) (fr : Nat × Nat) (v : Value) (hp : tmps[p]? = some (.pointer (some ⟨b, 0, none⟩))) (hq : tmps[q]? = some v) (hrow : w.heap[b]? = some (.cells cs 25 fr)) :
  (results fn tmps).run Tryz.prog w = .ok (.tuple #[.agg cs, v]) w :=
 results_row_tmp h tmps w b 25 cs fr _ v hp hq hrow Tryz.underlying25 rfl (by rw [hz]; exact infoN)
def KdOk (d lev : Nat) : Prop := ∀ (l : List UInt8) (m R : Nat) (w : World), l.length ≤ 65536 → (13 : UInt8) ∉ l → m ≤ 4096 → 7 < R → TabE w → Rd w R l m →
 Calls Tryz.prog 141 #[.pointer (some ⟨R, 0, none⟩), .int .i64 ((17 - lev : Nat) : Int)] w (KdPost d lev l m R w)
set_option maxRecDepth 100000 in
theorem element_a (d lev : Nat) (l : List UInt8) (m R : Nat) (w : World) (hl : l.length ≤ 65536) (h13 : (13 : UInt8) ∉ l) (hm : m ≤ 4096) (hR : 7 < R) (hT : TabE w) (h : Rd w R l m) (ha : preX [60] l = false) :
  Calls Tryz.prog 106 #[.pointer (some ⟨R, 0, none⟩), .int .i64 ((17 - lev : Nat) : Int)] w (ElPost d lev l m R w) := by
 have HTO : Hid (∀ W, w.grownBy W (some R) → TabE W) := fun W hW => hT.to hW hR
 have HB0 := hid ((Below.refl w.heap.size w).alloc (Nat.le_refl _) (.cells #[.string ⟨#[]⟩, .slice none 0 0, .string ⟨#[]⟩, .slice none 0 0] 25))
 have HR0 := hid (h.below HB0.out)
 have HO0 := hid (to_below (R := R) HB0.out)
 have HG0 := hid (heap_alloc_new w (.cells #[.string ⟨#[]⟩, .slice none 0 0, .string ⟨#[]⟩, .slice none 0 0] 25))
 have HRW := hid h.lt
 have hRne : R ≠ w.heap.size := by have := h.lt; omega
 have HNE := hid hRne
 have H1 : Hid (∀ W, Rd W R l m → Calls Tryz.prog 137 #[.pointer (some ⟨R, 0, none⟩), .string ⟨#[60]⟩] W fun e w' => e = .returned (.bool (preX [60] l)) ∧ Rd w' R (passX [60] l) m ∧ Only R W w') := fun W hW => pass_any l [60] m R W hW
 rw [ha, pass_no ha] at H1
 have HV := hid (el_a (d := d) (lev := lev) (m := m) ha)
 clear hT h hl h13 hm hR ha hRne
 unfold ElPost
 generalize elX d lev l m = V at HV ⊢
 generalize ((17 - lev : Nat) : Int) = Dp
 go_enter Tryz.func106, Tryz.ntmps106
 go_wp2_with fail
 refine (H1.out _ HR0.out).mono ?_
 rintro e W1 ⟨rfl, hr, ho⟩
 have HO1 := hid ho
 have HG1 := hid ((ho.block w.heap.size (Ne.symm HNE.out)).trans HG0.out)
 clear hr ho
 go_wp2_with (first
  | (refine store_msg infoN rfl _ _ rfl w.heap.size _ _ _ _ rfl rfl rfl rfl rfl rfl _ HG1.out rfl ?_)
  | fail)
 intro W2 ho2 hr2
 have HO2 := hid ho2
 have HG2 := hid hr2
 clear ho2 hr2
 go_wp2_with fail
 refine bodyPost_ret (ret_nd2 (p := 4) (q := 5) Tryz.results106 _ _ w.heap.size _ rfl (0, 0) _ rfl rfl HG2.out) rfl ?_
 exact ⟨grown_own (HO0.out.trans (to_only HO1.out)) (to_only HO2.out) (fun q hq => by injection hq with hq; omega), .inr ⟨5, _, _, _, _, HV.out, by omega, rfl, rfl, rfl, rfl, rfl⟩⟩
set_option maxRecDepth 100000 in
theorem element_b (d lev : Nat) (l : List UInt8) (m R : Nat) (w : World) (hl : l.length ≤ 65536) (h13 : (13 : UInt8) ∉ l) (hm : m ≤ 4096) (hR : 7 < R) (hT : TabE w) (h : Rd w R l m) (ha : preX [60] l = true) (hn : nmX (l.drop 1) = []) :
  Calls Tryz.prog 106 #[.pointer (some ⟨R, 0, none⟩), .int .i64 ((17 - lev : Nat) : Int)] w (ElPost d lev l m R w) := by
 have HTO : Hid (∀ W, w.grownBy W (some R) → TabE W) := fun W hW => hT.to hW hR
 have HB0 := hid ((Below.refl w.heap.size w).alloc (Nat.le_refl _) (.cells #[.string ⟨#[]⟩, .slice none 0 0, .string ⟨#[]⟩, .slice none 0 0] 25))
 have HR0 := hid (h.below HB0.out)
 have HO0 := hid (to_below (R := R) HB0.out)
 have HG0 := hid (heap_alloc_new w (.cells #[.string ⟨#[]⟩, .slice none 0 0, .string ⟨#[]⟩, .slice none 0 0] 25))
 have HRW := hid h.lt
 have hRne : R ≠ w.heap.size := by have := h.lt; omega
 have HNE := hid hRne
 have H1 : Hid (∀ W, Rd W R l m → Calls Tryz.prog 137 #[.pointer (some ⟨R, 0, none⟩), .string ⟨#[60]⟩] W fun e w' => e = .returned (.bool (preX [60] l)) ∧ Rd w' R (passX [60] l) m ∧ Only R W w') := fun W hW => pass_any l [60] m R W hW
 obtain ⟨r, rfl⟩ := pre_one ha
 replace hn : nmX r = [] := hn
 have hp1 : passX [60] (60 :: r) = r := by rw [pass_yes ha]; rfl
 rw [ha, hp1] at H1
 have s1 : r <:+ 60 :: r := List.suffix_cons _ _
 have hlr : r.length ≤ 65536 := Nat.le_trans s1.length_le hl
 have H2 := hid (fun W hW => name_any r m R (by omega) W hW)
 have s2 : nrX r <:+ 60 :: r := (List.drop_suffix _ _).trans s1
 have HV := hid (el_b' (d := d) (lev := lev) (m := m) hn)
 have hq := str_nil8 (nmX r)
 rw [hn] at hq
 have hq1 : ((asS (nmX r)).toList == []) = true := by rw [hn]; exact hq
 clear hT h hl h13 hm hR ha hRne hn hq s1 s2 hlr hp1
 unfold ElPost
 generalize elX d lev (60 :: r) m = V at HV ⊢
 generalize ((17 - lev : Nat) : Int) = Dp
 generalize asS (nmX r) = NM at hq1 H2
 go_enter Tryz.func106, Tryz.ntmps106
 go_wp2_with fail
 refine (H1.out _ HR0.out).mono ?_
 rintro e W1 ⟨rfl, hr, ho⟩
 have HR1 := hid hr
 have HO1 := hid (HO0.out.trans (to_only ho))
 have HG1 := hid ((ho.block w.heap.size (Ne.symm HNE.out)).trans HG0.out)
 clear hr ho
 go_wp2_with fail
 refine (H2.out _ HR1.out).mono ?_
 rintro e W2 ⟨rfl, hr, ho⟩
 have HR2 := hid hr
 have HO2 := hid (HO1.out.trans ho)
 have HG2 := hid (to_row ho HG1.out (Ne.symm HNE.out))
 clear hr ho
 have HS2 : Hid (w.heap.size < W2.heap.size) := (Array.getElem?_eq_some_iff.1 HG2.out).1
 go_wp2_with (first
  | (refine store_msg infoN rfl _ _ rfl W2.heap.size _ _ _ _ rfl rfl rfl rfl rfl rfl _ (heap_alloc_new W2 _) rfl ?_)
  | fail)
 intro W3 ho3 hr3
 have HES3 : Hid (ES R w.heap.size W2.heap.size w #[.string ⟨#[]⟩, .slice none 0 0, .string ⟨#[]⟩, .slice none 0 0] #[.string NM, .slice none 0 0, .string ⟨#[]⟩, .slice none 0 0] (nrX r) m W3) := by
  have hb := ((Below.refl _ W2).alloc (Nat.le_refl _) (.cells #[.string ⟨#[]⟩, .slice none 0 0, .string ⟨#[]⟩, .slice none 0 0] 25)).trans (ho3.below (Nat.le_refl _))
  refine ⟨row_keep hb HR2.out, HO2.out.trans (to_below hb), row_keep hb HG2.out, hr3⟩
 have c0 : W3.cell? ⟨W2.heap.size, 0, none⟩ = some (.string NM) := cell_of_row _ _ _ _ _ _ hr3
 have HN4 : Hid (R ≠ w.heap.size) := HNE.out
 have HN6 : Hid (R ≠ W2.heap.size) := by have h1 := HRW.out; have h2 := HS2.out; show _ ≠ _; omega
 clear ho3 hr3
 have hld3 : (loadI 25 (.pointer (some ⟨W2.heap.size, 0, none⟩))).run Tryz.prog W3 = .ok (.agg #[.string NM, .slice none 0 0, .string ⟨#[]⟩, .slice none 0 0]) W3 := loadN_run HES3.out.r6 rfl
 have hst3 : (storeI 25 (.pointer (some ⟨w.heap.size, 0, none⟩)) (.agg #[.string NM, .slice none 0 0, .string ⟨#[]⟩, .slice none 0 0])).run Tryz.prog W3 = .ok () (putM W3 w.heap.size #[.string NM, .slice none 0 0, .string ⟨#[]⟩, .slice none 0 0]) := storeM_row infoN _ _ _ _ rfl rfl rfl rfl HES3.out.r4 rfl
 have HP3 := hid (putM_only W3 w.heap.size #[.string NM, .slice none 0 0, .string ⟨#[]⟩, .slice none 0 0])
 have HQ3 := hid (putM_row HES3.out.r4 (cs' := #[.string NM, .slice none 0 0, .string ⟨#[]⟩, .slice none 0 0]) rfl)
 generalize putM W3 w.heap.size #[.string NM, .slice none 0 0, .string ⟨#[]⟩, .slice none 0 0] = Y at hst3 HP3 HQ3
 go_wp2_with fail
 refine bodyPost_ret (ret_nd2 (p := 4) (q := 5) Tryz.results106 _ _ w.heap.size _ rfl (0, 0) _ rfl rfl HQ3.out) rfl ?_
 exact ⟨grown_own HES3.out.to (to_only HP3.out) (fun q hq => by injection hq with hq; omega), .inr ⟨5, _, _, _, _, HV.out, by omega, rfl, rfl, rfl, rfl, rfl⟩⟩
set_option maxRecDepth 100000 in
theorem element_c (d : Nat) (l : List UInt8) (m R : Nat) (w : World) (hl : l.length ≤ 65536) (h13 : (13 : UInt8) ∉ l) (hm : m ≤ 4096) (hR : 7 < R) (hT : TabE w) (h : Rd w R l m) (ha : preX [60] l = true) (hn : nmX (l.drop 1) ≠ []) :
  Calls Tryz.prog 106 #[.pointer (some ⟨R, 0, none⟩), .int .i64 ((17 - 0 : Nat) : Int)] w (ElPost d 0 l m R w) := by
 have HTO : Hid (∀ W, w.grownBy W (some R) → TabE W) := fun W hW => hT.to hW hR
 have HB0 := hid ((Below.refl w.heap.size w).alloc (Nat.le_refl _) (.cells #[.string ⟨#[]⟩, .slice none 0 0, .string ⟨#[]⟩, .slice none 0 0] 25))
 have HR0 := hid (h.below HB0.out)
 have HO0 := hid (to_below (R := R) HB0.out)
 have HG0 := hid (heap_alloc_new w (.cells #[.string ⟨#[]⟩, .slice none 0 0, .string ⟨#[]⟩, .slice none 0 0] 25))
 have HRW := hid h.lt
 have hRne : R ≠ w.heap.size := by have := h.lt; omega
 have HNE := hid hRne
 have H1 : Hid (∀ W, Rd W R l m → Calls Tryz.prog 137 #[.pointer (some ⟨R, 0, none⟩), .string ⟨#[60]⟩] W fun e w' => e = .returned (.bool (preX [60] l)) ∧ Rd w' R (passX [60] l) m ∧ Only R W w') := fun W hW => pass_any l [60] m R W hW
 obtain ⟨r, rfl⟩ := pre_one ha
 replace hn : nmX r ≠ [] := hn
 have hp1 : passX [60] (60 :: r) = r := by rw [pass_yes ha]; rfl
 rw [ha, hp1] at H1
 have s1 : r <:+ 60 :: r := List.suffix_cons _ _
 have hlr : r.length ≤ 65536 := Nat.le_trans s1.length_le hl
 have H2 := hid (fun W hW => name_any r m R (by omega) W hW)
 have s2 : nrX r <:+ 60 :: r := (List.drop_suffix _ _).trans s1
 have hne : (nmX r).isEmpty = false := by cases hx : nmX r <;> simp_all
 have hq1 : ((asS (nmX r)).toList == []) = false := by rw [str_nil8]; exact hne
 have HV := hid (el_c (d := d) (m := m) hn)
 have hdp : (16 : Int) < ((17 - 0 : Nat) : Int) := by omega
 clear hT h hl h13 hm hR ha hRne hn s1 s2 hlr hp1 hne
 unfold ElPost
 generalize elX d 0 (60 :: r) m = V at HV ⊢
 generalize ((17 - 0 : Nat) : Int) = Dp at hdp ⊢
 generalize asS (nmX r) = NM at hq1 H2
 go_enter Tryz.func106, Tryz.ntmps106
 go_wp2_with fail
 refine (H1.out _ HR0.out).mono ?_
 rintro e W1 ⟨rfl, hr, ho⟩
 have HR1 := hid hr
 have HO1 := hid (HO0.out.trans (to_only ho))
 have HG1 := hid ((ho.block w.heap.size (Ne.symm HNE.out)).trans HG0.out)
 clear hr ho
 go_wp2_with fail
 refine (H2.out _ HR1.out).mono ?_
 rintro e W2 ⟨rfl, hr, ho⟩
 have HR2 := hid hr
 have HO2 := hid (HO1.out.trans ho)
 have HG2 := hid (to_row ho HG1.out (Ne.symm HNE.out))
 clear hr ho
 have HS2 : Hid (w.heap.size < W2.heap.size) := (Array.getElem?_eq_some_iff.1 HG2.out).1
 go_wp2_with (first
  | (refine store_msg infoN rfl _ _ rfl W2.heap.size _ _ _ _ rfl rfl rfl rfl rfl rfl _ (heap_alloc_new W2 _) rfl ?_)
  | fail)
 intro W3 ho3 hr3
 have HES3 : Hid (ES R w.heap.size W2.heap.size w #[.string ⟨#[]⟩, .slice none 0 0, .string ⟨#[]⟩, .slice none 0 0] #[.string NM, .slice none 0 0, .string ⟨#[]⟩, .slice none 0 0] (nrX r) m W3) := by
  have hb := ((Below.refl _ W2).alloc (Nat.le_refl _) (.cells #[.string ⟨#[]⟩, .slice none 0 0, .string ⟨#[]⟩, .slice none 0 0] 25)).trans (ho3.below (Nat.le_refl _))
  refine ⟨row_keep hb HR2.out, HO2.out.trans (to_below hb), row_keep hb HG2.out, hr3⟩
 have c0 : W3.cell? ⟨W2.heap.size, 0, none⟩ = some (.string NM) := cell_of_row _ _ _ _ _ _ hr3
 have HN4 : Hid (R ≠ w.heap.size) := HNE.out
 have HN6 : Hid (R ≠ W2.heap.size) := by have h1 := HRW.out; have h2 := HS2.out; show _ ≠ _; omega
 clear ho3 hr3
 have hld3 : (loadI 25 (.pointer (some ⟨W2.heap.size, 0, none⟩))).run Tryz.prog W3 = .ok (.agg #[.string NM, .slice none 0 0, .string ⟨#[]⟩, .slice none 0 0]) W3 := loadN_run HES3.out.r6 rfl
 have hst3 : (storeI 25 (.pointer (some ⟨w.heap.size, 0, none⟩)) (.agg #[.string NM, .slice none 0 0, .string ⟨#[]⟩, .slice none 0 0])).run Tryz.prog W3 = .ok () (putM W3 w.heap.size #[.string NM, .slice none 0 0, .string ⟨#[]⟩, .slice none 0 0]) := storeM_row infoN _ _ _ _ rfl rfl rfl rfl HES3.out.r4 rfl
 have HP3 := hid (putM_only W3 w.heap.size #[.string NM, .slice none 0 0, .string ⟨#[]⟩, .slice none 0 0])
 have HQ3 := hid (putM_row HES3.out.r4 (cs' := #[.string NM, .slice none 0 0, .string ⟨#[]⟩, .slice none 0 0]) rfl)
 generalize putM W3 w.heap.size #[.string NM, .slice none 0 0, .string ⟨#[]⟩, .slice none 0 0] = Y at hst3 HP3 HQ3
 go_wp2_with fail
 refine bodyPost_ret (ret_nd2 (p := 4) (q := 5) Tryz.results106 _ _ w.heap.size _ rfl (0, 0) _ rfl rfl HQ3.out) rfl ?_
 exact ⟨grown_own HES3.out.to (to_only HP3.out) (fun q hq => by injection hq with hq; omega), .inr ⟨9, _, _, _, _, HV.out, by omega, rfl, rfl, rfl, rfl, rfl⟩⟩
set_option maxRecDepth 100000 in
theorem element_d (d lev : Nat) (l : List UInt8) (m R : Nat) (w : World) (hl : l.length ≤ 65536) (h13 : (13 : UInt8) ∉ l) (hm : m ≤ 4096) (hR : 7 < R) (hT : TabE w) (h : Rd w R l m) (ha : preX [60] l = true) (hn : nmX (l.drop 1) ≠ []) (hlev : lev ≠ 0) (hmm : ¬ m + 1 ≤ 4096) :
  Calls Tryz.prog 106 #[.pointer (some ⟨R, 0, none⟩), .int .i64 ((17 - lev : Nat) : Int)] w (ElPost d lev l m R w) := by
 have HTO : Hid (∀ W, w.grownBy W (some R) → TabE W) := fun W hW => hT.to hW hR
 have HB0 := hid ((Below.refl w.heap.size w).alloc (Nat.le_refl _) (.cells #[.string ⟨#[]⟩, .slice none 0 0, .string ⟨#[]⟩, .slice none 0 0] 25))
 have HR0 := hid (h.below HB0.out)
 have HO0 := hid (to_below (R := R) HB0.out)
 have HG0 := hid (heap_alloc_new w (.cells #[.string ⟨#[]⟩, .slice none 0 0, .string ⟨#[]⟩, .slice none 0 0] 25))
 have HRW := hid h.lt
 have hRne : R ≠ w.heap.size := by have := h.lt; omega
 have HNE := hid hRne
 have H1 : Hid (∀ W, Rd W R l m → Calls Tryz.prog 137 #[.pointer (some ⟨R, 0, none⟩), .string ⟨#[60]⟩] W fun e w' => e = .returned (.bool (preX [60] l)) ∧ Rd w' R (passX [60] l) m ∧ Only R W w') := fun W hW => pass_any l [60] m R W hW
 obtain ⟨r, rfl⟩ := pre_one ha
 replace hn : nmX r ≠ [] := hn
 have hp1 : passX [60] (60 :: r) = r := by rw [pass_yes ha]; rfl
 rw [ha, hp1] at H1
 have s1 : r <:+ 60 :: r := List.suffix_cons _ _
 have hlr : r.length ≤ 65536 := Nat.le_trans s1.length_le hl
 have H2 := hid (fun W hW => name_any r m R (by omega) W hW)
 have s2 : nrX r <:+ 60 :: r := (List.drop_suffix _ _).trans s1
 have hne : (nmX r).isEmpty = false := by cases hx : nmX r <;> simp_all
 have hq1 : ((asS (nmX r)).toList == []) = false := by rw [str_nil8]; exact hne
 have hdp : ¬ (16 : Int) < ((17 - lev : Nat) : Int) := by omega
 have H3 := hid (fun W hW => count_any (nrX r) m R (by omega) W hW)
 have HV := hid (el_d (d := d) hn hlev hmm)
 simp only [if_neg hmm] at H3
 clear hT h hl h13 hm hR ha hRne hn s1 s2 hlr hp1 hne hmm hlev
 unfold ElPost
 generalize hVV : elX d lev (60 :: r) m = V at HV ⊢
 clear hVV
 generalize ((17 - lev : Nat) : Int) = Dp at hdp ⊢
 generalize asS (nmX r) = NM at hq1 H2
 go_enter Tryz.func106, Tryz.ntmps106
 go_wp2_with fail
 refine (H1.out _ HR0.out).mono ?_
 rintro e W1 ⟨rfl, hr, ho⟩
 have HR1 := hid hr
 have HO1 := hid (HO0.out.trans (to_only ho))
 have HG1 := hid ((ho.block w.heap.size (Ne.symm HNE.out)).trans HG0.out)
 clear hr ho
 go_wp2_with fail
 refine (H2.out _ HR1.out).mono ?_
 rintro e W2 ⟨rfl, hr, ho⟩
 have HR2 := hid hr
 have HO2 := hid (HO1.out.trans ho)
 have HG2 := hid (to_row ho HG1.out (Ne.symm HNE.out))
 clear hr ho
 have HS2 : Hid (w.heap.size < W2.heap.size) := (Array.getElem?_eq_some_iff.1 HG2.out).1
 go_wp2_with (first
  | (refine store_msg infoN rfl _ _ rfl W2.heap.size _ _ _ _ rfl rfl rfl rfl rfl rfl _ (heap_alloc_new W2 _) rfl ?_)
  | fail)
 intro W3 ho3 hr3
 have HES3 : Hid (ES R w.heap.size W2.heap.size w #[.string ⟨#[]⟩, .slice none 0 0, .string ⟨#[]⟩, .slice none 0 0] #[.string NM, .slice none 0 0, .string ⟨#[]⟩, .slice none 0 0] (nrX r) m W3) := by
  have hb := ((Below.refl _ W2).alloc (Nat.le_refl _) (.cells #[.string ⟨#[]⟩, .slice none 0 0, .string ⟨#[]⟩, .slice none 0 0] 25)).trans (ho3.below (Nat.le_refl _))
  refine ⟨row_keep hb HR2.out, HO2.out.trans (to_below hb), row_keep hb HG2.out, hr3⟩
 have c0 : W3.cell? ⟨W2.heap.size, 0, none⟩ = some (.string NM) := cell_of_row _ _ _ _ _ _ hr3
 have HN4 : Hid (R ≠ w.heap.size) := HNE.out
 have HN6 : Hid (R ≠ W2.heap.size) := by have h1 := HRW.out; have h2 := HS2.out; show _ ≠ _; omega
 clear ho3 hr3
 go_wp2_with fail
 refine (H3.out _ HES3.out.rd).mono ?_
 rintro e W4 ⟨rfl, hr, ho⟩
 have HES4 := hid (HES3.out.call HN4.out HN6.out (to_only ho) hr)
 clear hr ho c0
 have hld4 : (loadI 25 (.pointer (some ⟨W2.heap.size, 0, none⟩))).run Tryz.prog W4 = .ok (.agg #[.string NM, .slice none 0 0, .string ⟨#[]⟩, .slice none 0 0]) W4 := loadN_run HES4.out.r6 rfl
 have hst4 : (storeI 25 (.pointer (some ⟨w.heap.size, 0, none⟩)) (.agg #[.string NM, .slice none 0 0, .string ⟨#[]⟩, .slice none 0 0])).run Tryz.prog W4 = .ok () (putM W4 w.heap.size #[.string NM, .slice none 0 0, .string ⟨#[]⟩, .slice none 0 0]) := storeM_row infoN _ _ _ _ rfl rfl rfl rfl HES4.out.r4 rfl
 have HP4 := hid (putM_only W4 w.heap.size #[.string NM, .slice none 0 0, .string ⟨#[]⟩, .slice none 0 0])
 have HQ4 := hid (putM_row HES4.out.r4 (cs' := #[.string NM, .slice none 0 0, .string ⟨#[]⟩, .slice none 0 0]) rfl)
 generalize putM W4 w.heap.size #[.string NM, .slice none 0 0, .string ⟨#[]⟩, .slice none 0 0] = Y at hst4 HP4 HQ4
 go_wp2_with fail
 refine bodyPost_ret (ret_nd2 (p := 4) (q := 5) Tryz.results106 _ _ w.heap.size _ rfl (0, 0) _ rfl rfl HQ4.out) rfl ?_
 exact ⟨grown_own HES4.out.to (to_only HP4.out) (fun q hq => by injection hq with hq; omega), .inr ⟨3, _, _, _, _, HV.out, by omega, rfl, rfl, rfl, rfl, rfl⟩⟩
theorem infoH : (Tryz.prog.info? 22).map (·.size) = some 1 := by kernel_rfl
theorem infoNs : (Tryz.prog.info? 23).map (·.size) = some 1 := by kernel_rfl
set_option maxRecDepth 100000 in
theorem element_e (d lev : Nat) (HAT : AtOk) (er : Nat) (l : List UInt8) (m R : Nat) (w : World) (hl : l.length ≤ 65536) (h13 : (13 : UInt8) ∉ l) (hm : m ≤ 4096) (hR : 7 < R) (hT : TabE w) (h : Rd w R l m) (ha : preX [60] l = true) (hn : nmX (l.drop 1) ≠ []) (hlev : lev ≠ 0) (hmm : m + 1 ≤ 4096) (hat : atW (nrX (l.drop 1)) (m + 1) = .error er) :
  Calls Tryz.prog 106 #[.pointer (some ⟨R, 0, none⟩), .int .i64 ((17 - lev : Nat) : Int)] w (ElPost d lev l m R w) := by
 have HTO : Hid (∀ W, w.grownBy W (some R) → TabE W) := fun W hW => hT.to hW hR
 have HB0 := hid ((Below.refl w.heap.size w).alloc (Nat.le_refl _) (.cells #[.string ⟨#[]⟩, .slice none 0 0, .string ⟨#[]⟩, .slice none 0 0] 25))
 have HR0 := hid (h.below HB0.out)
 have HO0 := hid (to_below (R := R) HB0.out)
 have HG0 := hid (heap_alloc_new w (.cells #[.string ⟨#[]⟩, .slice none 0 0, .string ⟨#[]⟩, .slice none 0 0] 25))
 have HRW := hid h.lt
 have hRne : R ≠ w.heap.size := by have := h.lt; omega
 have HNE := hid hRne
 have H1 : Hid (∀ W, Rd W R l m → Calls Tryz.prog 137 #[.pointer (some ⟨R, 0, none⟩), .string ⟨#[60]⟩] W fun e w' => e = .returned (.bool (preX [60] l)) ∧ Rd w' R (passX [60] l) m ∧ Only R W w') := fun W hW => pass_any l [60] m R W hW
 obtain ⟨r, rfl⟩ := pre_one ha
 replace hn : nmX r ≠ [] := hn
 replace hat : atW (nrX r) (m + 1) = .error er := hat
 have hp1 : passX [60] (60 :: r) = r := by rw [pass_yes ha]; rfl
 rw [ha, hp1] at H1
 have s1 : r <:+ 60 :: r := List.suffix_cons _ _
 have hlr : r.length ≤ 65536 := Nat.le_trans s1.length_le hl
 have H2 := hid (fun W hW => name_any r m R (by omega) W hW)
 have s2 : nrX r <:+ 60 :: r := (List.drop_suffix _ _).trans s1
 have hne : (nmX r).isEmpty = false := by cases hx : nmX r <;> simp_all
 have hq1 : ((asS (nmX r)).toList == []) = false := by rw [str_nil8]; exact hne
 have hdp : ¬ (16 : Int) < ((17 - lev : Nat) : Int) := by omega
 have H3 := hid (fun W hW => count_any (nrX r) m R (by omega) W hW)
 simp only [if_pos hmm] at H3
 have H4 := hid (fun W hT hW => HAT (nrX r) (m + 1) R W (Nat.le_trans s2.length_le hl) (fun hx => h13 (s2.subset hx)) hmm hR hT hW)
 have HV := hid (el_e (d := d) hn hlev hmm hat)
 have HATE := hid hat
 clear hT h hl h13 hm hR ha hRne hn s1 s2 hlr hp1 hne hmm hlev hat HAT
 unfold ElPost
 generalize hVV : elX d lev (60 :: r) m = V at HV ⊢
 clear hVV
 generalize ((17 - lev : Nat) : Int) = Dp at hdp ⊢
 generalize asS (nmX r) = NM at hq1 H2
 go_enter Tryz.func106, Tryz.ntmps106
 go_wp2_with fail
 refine (H1.out _ HR0.out).mono ?_
 rintro e W1 ⟨rfl, hr, ho⟩
 have HR1 := hid hr
 have HO1 := hid (HO0.out.trans (to_only ho))
 have HG1 := hid ((ho.block w.heap.size (Ne.symm HNE.out)).trans HG0.out)
 clear hr ho
 go_wp2_with fail
 refine (H2.out _ HR1.out).mono ?_
 rintro e W2 ⟨rfl, hr, ho⟩
 have HR2 := hid hr
 have HO2 := hid (HO1.out.trans ho)
 have HG2 := hid (to_row ho HG1.out (Ne.symm HNE.out))
 clear hr ho
 have HS2 : Hid (w.heap.size < W2.heap.size) := (Array.getElem?_eq_some_iff.1 HG2.out).1
 go_wp2_with (first
  | (refine store_msg infoN rfl _ _ rfl W2.heap.size _ _ _ _ rfl rfl rfl rfl rfl rfl _ (heap_alloc_new W2 _) rfl ?_)
  | fail)
 intro W3 ho3 hr3
 have HES3 : Hid (ES R w.heap.size W2.heap.size w #[.string ⟨#[]⟩, .slice none 0 0, .string ⟨#[]⟩, .slice none 0 0] #[.string NM, .slice none 0 0, .string ⟨#[]⟩, .slice none 0 0] (nrX r) m W3) := by
  have hb := ((Below.refl _ W2).alloc (Nat.le_refl _) (.cells #[.string ⟨#[]⟩, .slice none 0 0, .string ⟨#[]⟩, .slice none 0 0] 25)).trans (ho3.below (Nat.le_refl _))
  refine ⟨row_keep hb HR2.out, HO2.out.trans (to_below hb), row_keep hb HG2.out, hr3⟩
 have c0 : W3.cell? ⟨W2.heap.size, 0, none⟩ = some (.string NM) := cell_of_row _ _ _ _ _ _ hr3
 have HN4 : Hid (R ≠ w.heap.size) := HNE.out
 have HN6 : Hid (R ≠ W2.heap.size) := by have h1 := HRW.out; have h2 := HS2.out; show _ ≠ _; omega
 clear ho3 hr3
 go_wp2_with fail
 refine (H3.out _ HES3.out.rd).mono ?_
 rintro e W4 ⟨rfl, hr, ho⟩
 have HES4 := hid (HES3.out.call HN4.out HN6.out (to_only ho) hr)
 clear hr ho c0
 go_wp2_with fail
 refine (H4.out _ (HTO.out _ HES4.out.to) HES4.out.rd).mono ?_
 rintro e W5 ⟨ho, hres⟩
 obtain ⟨er2, h5, h6, rfl⟩ : ∃ er2 : Nat, atW (nrX r) (m + 1) = .error er2 ∧ (er2 = 3 ∨ er2 = 5) ∧ e = .returned (.tuple #[.slice none 0 0, .int .i64 er2]) := by
  rcases hres with ⟨al, r', m2, A, c, h5, _⟩ | hres
  ·rw [HATE.out] at h5; cases h5
  ·exact hres
 obtain rfl : er2 = er := by rw [HATE.out] at h5; injection h5 with h5; exact h5.symm
 have hne2 : ((er2 : Int) != 0) = true := by rw [bne_iff_ne]; omega
 have HER := hid h6
 have HTO5 := hid (HES4.out.to.trans ho)
 have HR65 := hid (to_row ho HES4.out.r6 (Ne.symm HN6.out))
 have HR45 := hid (to_row ho HES4.out.r4 (Ne.symm HN4.out))
 clear ho h5 h6 hres
 go_wp2_with (first
  | (refine store_part rfl 22 _ _ rfl W2.heap.size 1 (.slice none 0 0) _ _ #[.string NM, .slice none 0 0, .string ⟨#[]⟩, .slice none 0 0] rfl rfl infoH (by simp) rfl rfl HR65.out rfl ?_)
  | fail)
 intro W6 ho6 hr6
 have hld6 : (loadI 25 (.pointer (some ⟨W2.heap.size, 0, none⟩))).run Tryz.prog W6 = .ok (.agg #[.string NM, .slice none 0 0, .string ⟨#[]⟩, .slice none 0 0]) W6 := loadN_run hr6 rfl
 have HR46 := hid ((ho6.block w.heap.size (by have := HS2.out; omega)).trans HR45.out)
 have hst6 : (storeI 25 (.pointer (some ⟨w.heap.size, 0, none⟩)) (.agg #[.string NM, .slice none 0 0, .string ⟨#[]⟩, .slice none 0 0])).run Tryz.prog W6 = .ok () (putM W6 w.heap.size #[.string NM, .slice none 0 0, .string ⟨#[]⟩, .slice none 0 0]) := storeM_row infoN _ _ _ _ rfl rfl rfl rfl HR46.out rfl
 have HP6 := hid (putM_only W6 w.heap.size #[.string NM, .slice none 0 0, .string ⟨#[]⟩, .slice none 0 0])
 have HQ6 := hid (putM_row HR46.out (cs' := #[.string NM, .slice none 0 0, .string ⟨#[]⟩, .slice none 0 0]) rfl)
 have HO6 := hid ho6
 clear ho6 hr6
 generalize putM W6 w.heap.size #[.string NM, .slice none 0 0, .string ⟨#[]⟩, .slice none 0 0] = Y at hst6 HP6 HQ6
 go_wp2_with fail
 refine bodyPost_ret (ret_nd2 (p := 4) (q := 5) Tryz.results106 _ _ w.heap.size _ rfl (0, 0) _ rfl rfl HQ6.out) rfl ?_
 exact ⟨grown_own (grown_own HTO5.out (to_only HO6.out) (fun q hq => by injection hq with hq; have := HS2.out; omega)) (to_only HP6.out) (fun q hq => by injection hq with hq; omega), .inr ⟨er2, _, _, _, _, HV.out, by have := HER.out; omega, rfl, rfl, rfl, rfl, rfl⟩⟩
set_option maxRecDepth 100000 in
theorem element_f (d lev : Nat) (HAT : AtOk) (al : List HdV) (r2 : List UInt8) (m2 : Nat) (l : List UInt8) (m R : Nat) (w : World) (hl : l.length ≤ 65536) (h13 : (13 : UInt8) ∉ l) (hm : m ≤ 4096) (hR : 7 < R) (hT : TabE w) (h : Rd w R l m) (ha : preX [60] l = true) (hn : nmX (l.drop 1) ≠ []) (hlev : lev ≠ 0) (hmm : m + 1 ≤ 4096) (hat : atW (nrX (l.drop 1)) (m + 1) = .ok (al, r2, m2)) (hsl : preX [47, 62] r2 = true) :
  Calls Tryz.prog 106 #[.pointer (some ⟨R, 0, none⟩), .int .i64 ((17 - lev : Nat) : Int)] w (ElPost d lev l m R w) := by
 have HTO : Hid (∀ W, w.grownBy W (some R) → TabE W) := fun W hW => hT.to hW hR
 have HB0 := hid ((Below.refl w.heap.size w).alloc (Nat.le_refl _) (.cells #[.string ⟨#[]⟩, .slice none 0 0, .string ⟨#[]⟩, .slice none 0 0] 25))
 have HR0 := hid (h.below HB0.out)
 have HO0 := hid (to_below (R := R) HB0.out)
 have HG0 := hid (heap_alloc_new w (.cells #[.string ⟨#[]⟩, .slice none 0 0, .string ⟨#[]⟩, .slice none 0 0] 25))
 have HRW := hid h.lt
 have hRne : R ≠ w.heap.size := by have := h.lt; omega
 have HNE := hid hRne
 have H1 : Hid (∀ W, Rd W R l m → Calls Tryz.prog 137 #[.pointer (some ⟨R, 0, none⟩), .string ⟨#[60]⟩] W fun e w' => e = .returned (.bool (preX [60] l)) ∧ Rd w' R (passX [60] l) m ∧ Only R W w') := fun W hW => pass_any l [60] m R W hW
 obtain ⟨r, rfl⟩ := pre_one ha
 replace hn : nmX r ≠ [] := hn
 replace hat : atW (nrX r) (m + 1) = .ok (al, r2, m2) := hat
 have hp1 : passX [60] (60 :: r) = r := by rw [pass_yes ha]; rfl
 rw [ha, hp1] at H1
 have s1 : r <:+ 60 :: r := List.suffix_cons _ _
 have hlr : r.length ≤ 65536 := Nat.le_trans s1.length_le hl
 have H2 := hid (fun W hW => name_any r m R (by omega) W hW)
 have s2 : nrX r <:+ 60 :: r := (List.drop_suffix _ _).trans s1
 have hne : (nmX r).isEmpty = false := by cases hx : nmX r <;> simp_all
 have hq1 : ((asS (nmX r)).toList == []) = false := by rw [str_nil8]; exact hne
 have hdp : ¬ (16 : Int) < ((17 - lev : Nat) : Int) := by omega
 have H3 := hid (fun W hW => count_any (nrX r) m R (by omega) W hW)
 simp only [if_pos hmm] at H3
 have H4 := hid (fun W hT hW => HAT (nrX r) (m + 1) R W (Nat.le_trans s2.length_le hl) (fun hx => h13 (s2.subset hx)) hmm hR hT hW)
 have H5 : Hid (∀ W, Rd W R r2 m2 → Calls Tryz.prog 137 #[.pointer (some ⟨R, 0, none⟩), .string ⟨#[47, 62]⟩] W fun e w' => e = .returned (.bool (preX [47, 62] r2)) ∧ Rd w' R (passX [47, 62] r2) m2 ∧ Only R W w') := fun W hW => pass_any r2 [47, 62] m2 R W hW
 have HV := hid (el_f (d := d) hn hlev hmm hat hsl)
 have HATE := hid hat
 rw [hsl, pass_yes hsl] at H5
 clear hT h hl h13 hm hR ha hRne hn s1 s2 hlr hp1 hne hmm hlev hat HAT hsl
 obtain ⟨NMr, hNM⟩ : ∃ NMr, nmX r = NMr := ⟨_, rfl⟩
 rw [hNM] at HV hq1 H2
 clear hNM
 unfold ElPost
 generalize hVV : elX d lev (60 :: r) m = V at HV ⊢
 clear hVV
 generalize ((17 - lev : Nat) : Int) = Dp at hdp ⊢
 obtain ⟨NM, hNMs⟩ : ∃ NM, asS NMr = NM := ⟨_, rfl⟩
 have HNMS := hid hNMs
 rw [hNMs] at hq1 H2
 clear hNMs
 go_enter Tryz.func106, Tryz.ntmps106
 go_wp2_with fail
 refine (H1.out _ HR0.out).mono ?_
 rintro e W1 ⟨rfl, hr, ho⟩
 have HR1 := hid hr
 have HO1 := hid (HO0.out.trans (to_only ho))
 have HG1 := hid ((ho.block w.heap.size (Ne.symm HNE.out)).trans HG0.out)
 clear hr ho
 go_wp2_with fail
 refine (H2.out _ HR1.out).mono ?_
 rintro e W2 ⟨rfl, hr, ho⟩
 have HR2 := hid hr
 have HO2 := hid (HO1.out.trans ho)
 have HG2 := hid (to_row ho HG1.out (Ne.symm HNE.out))
 clear hr ho
 have HS2 : Hid (w.heap.size < W2.heap.size) := (Array.getElem?_eq_some_iff.1 HG2.out).1
 go_wp2_with (first
  | (refine store_msg infoN rfl _ _ rfl W2.heap.size _ _ _ _ rfl rfl rfl rfl rfl rfl _ (heap_alloc_new W2 _) rfl ?_)
  | fail)
 intro W3 ho3 hr3
 have HES3 : Hid (ES R w.heap.size W2.heap.size w #[.string ⟨#[]⟩, .slice none 0 0, .string ⟨#[]⟩, .slice none 0 0] #[.string NM, .slice none 0 0, .string ⟨#[]⟩, .slice none 0 0] (nrX r) m W3) := by
  have hb := ((Below.refl _ W2).alloc (Nat.le_refl _) (.cells #[.string ⟨#[]⟩, .slice none 0 0, .string ⟨#[]⟩, .slice none 0 0] 25)).trans (ho3.below (Nat.le_refl _))
  refine ⟨row_keep hb HR2.out, HO2.out.trans (to_below hb), row_keep hb HG2.out, hr3⟩
 have c0 : W3.cell? ⟨W2.heap.size, 0, none⟩ = some (.string NM) := cell_of_row _ _ _ _ _ _ hr3
 have HN4 : Hid (R ≠ w.heap.size) := HNE.out
 have HN6 : Hid (R ≠ W2.heap.size) := by have h1 := HRW.out; have h2 := HS2.out; show _ ≠ _; omega
 clear ho3 hr3
 go_wp2_with fail
 refine (H3.out _ HES3.out.rd).mono ?_
 rintro e W4 ⟨rfl, hr, ho⟩
 have HES4 := hid (HES3.out.call HN4.out HN6.out (to_only ho) hr)
 clear hr ho c0
 have HES3S : Hid (W2.heap.size < W4.heap.size) := (Array.getElem?_eq_some_iff.1 HES4.out.r6).1
 go_wp2_with fail
 refine (H4.out _ (HTO.out _ HES4.out.to) HES4.out.rd).mono ?_
 rintro e W5 ⟨ho, hres⟩
 obtain ⟨A, c, rfl, hds, hr5⟩ : ∃ A c, e = .returned (.tuple #[.slice A al.length c, .int .i64 0]) ∧ HdsP (fun q => W4.heap.size ≤ q) W5 A al ∧ Rd W5 R r2 m2 := by
  rcases hres with ⟨al', r', m2', A, c, h5, h6, h7, h8, _⟩ | ⟨er2, h5, _⟩
  ·rw [HATE.out] at h5
   injection h5 with h5
   injection h5 with e1 e2
   injection e2 with e2 e3
   subst e1 e2 e3
   exact ⟨A, c, h6, h7, h8⟩
  ·rw [HATE.out] at h5; cases h5
 obtain ⟨n, hn0⟩ : ∃ n, al.length = n := ⟨_, rfl⟩
 rw [hn0]
 have HN0 := hid hn0
 clear hn0
 have HES5 := hid (HES4.out.call HN4.out HN6.out ho hr5)
 have HS5 := hid (Nat.le_trans HES3S.out ho.size)
 have HDS := hid hds
 clear ho hres hr5 hds
 go_wp2_with (first
  | (refine store_part rfl 22 _ _ rfl W2.heap.size 1 (.slice A n c) _ _ #[.string NM, .slice A n c, .string ⟨#[]⟩, .slice none 0 0] rfl rfl infoH (by simp) rfl rfl HES5.out.r6 rfl ?_)
  | fail)
 intro W6 ho6 hr6
 have HES6 := hid (HES5.out.put6 HN6.out (by have := HS2.out; omega) (by have := HS2.out; omega) ho6 hr6)
 have HO6 := hid ho6
 clear ho6 hr6
 go_wp2_with fail
 refine (H5.out _ HES6.out.rd).mono ?_
 rintro e W7 ⟨rfl, hr, ho⟩
 have HES7 := hid (HES6.out.call HN4.out HN6.out (to_only ho) hr)
 have HO7 := hid ho
 clear hr ho
 have hld7 : (loadI 25 (.pointer (some ⟨W2.heap.size, 0, none⟩))).run Tryz.prog W7 = .ok (.agg #[.string NM, .slice A n c, .string ⟨#[]⟩, .slice none 0 0]) W7 := loadN_run HES7.out.r6 rfl
 have hst7 : (storeI 25 (.pointer (some ⟨w.heap.size, 0, none⟩)) (.agg #[.string NM, .slice A n c, .string ⟨#[]⟩, .slice none 0 0])).run Tryz.prog W7 = .ok () (putM W7 w.heap.size #[.string NM, .slice A n c, .string ⟨#[]⟩, .slice none 0 0]) := storeM_row infoN _ _ _ _ rfl rfl rfl rfl HES7.out.r4 rfl
 have HP7 := hid (putM_only W7 w.heap.size #[.string NM, .slice A n c, .string ⟨#[]⟩, .slice none 0 0])
 have HQ7 := hid (putM_row HES7.out.r4 (cs' := #[.string NM, .slice A n c, .string ⟨#[]⟩, .slice none 0 0]) rfl)
 have HND7 : Hid (NdAt (fun q => w.heap.size ≤ q) d (putM W7 w.heap.size #[.string NM, .slice A n c, .string ⟨#[]⟩, .slice none 0 0]) #[.string NM, .slice A n c, .string ⟨#[]⟩, .slice none 0 0] (leaf d (NMr, al, []))) := by
  have hh : HdsP (fun q => w.heap.size ≤ q) (putM W7 w.heap.size #[.string NM, .slice A n c, .string ⟨#[]⟩, .slice none 0 0]) A al := HDS.out.frame (by rw [HP7.out.size, HO7.out.size, HO6.out.size]; exact Nat.le_refl _) fun q hq hlq => by
   have h1 := HS2.out
   have h2 := HES3S.out
   have h3 := HRW.out
   have h4 : w.heap.size ≤ W4.heap.size := by omega
   exact ⟨(HP7.out.block q (by omega)).trans ((HO7.out.block q (by omega)).trans (HO6.out.block q (by omega))), by omega⟩
  have := NdAt.mk0 (d := d) (l := (NMr, al, [])) (ac := c) (kA := none) (kc := 0) hh
  unfold ndcs at this
  simp only [HNMS.out, HN0.out] at this
  exact this
 generalize putM W7 w.heap.size #[.string NM, .slice A n c, .string ⟨#[]⟩, .slice none 0 0] = Y at hst7 HP7 HQ7 HND7
 go_wp2_with fail
 refine bodyPost_ret (ret_nd2 (p := 4) (q := 5) Tryz.results106 _ _ w.heap.size _ rfl (0, 0) _ rfl rfl HQ7.out) rfl ?_
 exact ⟨grown_own HES7.out.to (to_only HP7.out) (fun q hq => by injection hq with hq; omega), .inl ⟨_, _, _, _, HV.out, rfl, HND7.out, (HP7.out.block R HN4.out).trans HES7.out.rd⟩⟩
set_option maxRecDepth 100000 in
theorem element_g (d lev : Nat) (HAT : AtOk) (al : List HdV) (r2 : List UInt8) (m2 : Nat) (l : List UInt8) (m R : Nat) (w : World) (hl : l.length ≤ 65536) (h13 : (13 : UInt8) ∉ l) (hm : m ≤ 4096) (hR : 7 < R) (hT : TabE w) (h : Rd w R l m) (ha : preX [60] l = true) (hn : nmX (l.drop 1) ≠ []) (hlev : lev ≠ 0) (hmm : m + 1 ≤ 4096) (hat : atW (nrX (l.drop 1)) (m + 1) = .ok (al, r2, m2)) (hsl : preX [47, 62] r2 = false) (hgt : preX [62] r2 = false) :
  Calls Tryz.prog 106 #[.pointer (some ⟨R, 0, none⟩), .int .i64 ((17 - lev : Nat) : Int)] w (ElPost d lev l m R w) := by
 have HTO : Hid (∀ W, w.grownBy W (some R) → TabE W) := fun W hW => hT.to hW hR
 have HB0 := hid ((Below.refl w.heap.size w).alloc (Nat.le_refl _) (.cells #[.string ⟨#[]⟩, .slice none 0 0, .string ⟨#[]⟩, .slice none 0 0] 25))
 have HR0 := hid (h.below HB0.out)
 have HO0 := hid (to_below (R := R) HB0.out)
 have HG0 := hid (heap_alloc_new w (.cells #[.string ⟨#[]⟩, .slice none 0 0, .string ⟨#[]⟩, .slice none 0 0] 25))
 have HRW := hid h.lt
 have hRne : R ≠ w.heap.size := by have := h.lt; omega
 have HNE := hid hRne
 have H1 : Hid (∀ W, Rd W R l m → Calls Tryz.prog 137 #[.pointer (some ⟨R, 0, none⟩), .string ⟨#[60]⟩] W fun e w' => e = .returned (.bool (preX [60] l)) ∧ Rd w' R (passX [60] l) m ∧ Only R W w') := fun W hW => pass_any l [60] m R W hW
 obtain ⟨r, rfl⟩ := pre_one ha
 replace hn : nmX r ≠ [] := hn
 replace hat : atW (nrX r) (m + 1) = .ok (al, r2, m2) := hat
 have hp1 : passX [60] (60 :: r) = r := by rw [pass_yes ha]; rfl
 rw [ha, hp1] at H1
 have s1 : r <:+ 60 :: r := List.suffix_cons _ _
 have hlr : r.length ≤ 65536 := Nat.le_trans s1.length_le hl
 have H2 := hid (fun W hW => name_any r m R (by omega) W hW)
 have s2 : nrX r <:+ 60 :: r := (List.drop_suffix _ _).trans s1
 have hne : (nmX r).isEmpty = false := by cases hx : nmX r <;> simp_all
 have hq1 : ((asS (nmX r)).toList == []) = false := by rw [str_nil8]; exact hne
 have hdp : ¬ (16 : Int) < ((17 - lev : Nat) : Int) := by omega
 have H3 := hid (fun W hW => count_any (nrX r) m R (by omega) W hW)
 simp only [if_pos hmm] at H3
 have H4 := hid (fun W hT hW => HAT (nrX r) (m + 1) R W (Nat.le_trans s2.length_le hl) (fun hx => h13 (s2.subset hx)) hmm hR hT hW)
 have H5 : Hid (∀ W, Rd W R r2 m2 → Calls Tryz.prog 137 #[.pointer (some ⟨R, 0, none⟩), .string ⟨#[47, 62]⟩] W fun e w' => e = .returned (.bool (preX [47, 62] r2)) ∧ Rd w' R (passX [47, 62] r2) m2 ∧ Only R W w') := fun W hW => pass_any r2 [47, 62] m2 R W hW
 have H6 : Hid (∀ W, Rd W R r2 m2 → Calls Tryz.prog 137 #[.pointer (some ⟨R, 0, none⟩), .string ⟨#[62]⟩] W fun e w' => e = .returned (.bool (preX [62] r2)) ∧ Rd w' R (passX [62] r2) m2 ∧ Only R W w') := fun W hW => pass_any r2 [62] m2 R W hW
 rw [hsl, pass_no hsl] at H5
 have HV := hid (el_g (d := d) hn hlev hmm hat hsl hgt)
 have HATE := hid hat
 rw [hgt, pass_no hgt] at H6
 clear hT h hl h13 hm hR ha hRne hn s1 s2 hlr hp1 hne hmm hlev hat HAT hsl hgt
 generalize ((17 - lev : Nat) : Int) = Dp at hdp ⊢
 obtain ⟨NMr, hNM⟩ : ∃ NMr, nmX r = NMr := ⟨_, rfl⟩
 try rw [hNM] at HV
 rw [hNM] at hq1 H2
 clear hNM
 unfold ElPost
 generalize hVV : elX d lev (60 :: r) m = V at HV ⊢
 clear hVV
 obtain ⟨NM, hNMs⟩ : ∃ NM, asS NMr = NM := ⟨_, rfl⟩
 have HNMS := hid hNMs
 rw [hNMs] at hq1 H2
 clear hNMs
 go_enter Tryz.func106, Tryz.ntmps106
 go_wp2_with fail
 refine (H1.out _ HR0.out).mono ?_
 rintro e W1 ⟨rfl, hr, ho⟩
 have HR1 := hid hr
 have HO1 := hid (HO0.out.trans (to_only ho))
 have HG1 := hid ((ho.block w.heap.size (Ne.symm HNE.out)).trans HG0.out)
 clear hr ho
 go_wp2_with fail
 refine (H2.out _ HR1.out).mono ?_
 rintro e W2 ⟨rfl, hr, ho⟩
 have HR2 := hid hr
 have HO2 := hid (HO1.out.trans ho)
 have HG2 := hid (to_row ho HG1.out (Ne.symm HNE.out))
 clear hr ho
 have HS2 : Hid (w.heap.size < W2.heap.size) := (Array.getElem?_eq_some_iff.1 HG2.out).1
 go_wp2_with (first
  | (refine store_msg infoN rfl _ _ rfl W2.heap.size _ _ _ _ rfl rfl rfl rfl rfl rfl _ (heap_alloc_new W2 _) rfl ?_)
  | fail)
 intro W3 ho3 hr3
 have HES3 : Hid (ES R w.heap.size W2.heap.size w #[.string ⟨#[]⟩, .slice none 0 0, .string ⟨#[]⟩, .slice none 0 0] #[.string NM, .slice none 0 0, .string ⟨#[]⟩, .slice none 0 0] (nrX r) m W3) := by
  have hb := ((Below.refl _ W2).alloc (Nat.le_refl _) (.cells #[.string ⟨#[]⟩, .slice none 0 0, .string ⟨#[]⟩, .slice none 0 0] 25)).trans (ho3.below (Nat.le_refl _))
  refine ⟨row_keep hb HR2.out, HO2.out.trans (to_below hb), row_keep hb HG2.out, hr3⟩
 have c0 : W3.cell? ⟨W2.heap.size, 0, none⟩ = some (.string NM) := cell_of_row _ _ _ _ _ _ hr3
 have HN4 : Hid (R ≠ w.heap.size) := HNE.out
 have HN6 : Hid (R ≠ W2.heap.size) := by have h1 := HRW.out; have h2 := HS2.out; show _ ≠ _; omega
 clear ho3 hr3
 go_wp2_with fail
 refine (H3.out _ HES3.out.rd).mono ?_
 rintro e W4 ⟨rfl, hr, ho⟩
 have HES4 := hid (HES3.out.call HN4.out HN6.out (to_only ho) hr)
 clear hr ho c0
 have HES3S : Hid (W2.heap.size < W4.heap.size) := (Array.getElem?_eq_some_iff.1 HES4.out.r6).1
 go_wp2_with fail
 refine (H4.out _ (HTO.out _ HES4.out.to) HES4.out.rd).mono ?_
 rintro e W5 ⟨ho, hres⟩
 obtain ⟨A, c, rfl, hds, hr5⟩ : ∃ A c, e = .returned (.tuple #[.slice A al.length c, .int .i64 0]) ∧ HdsP (fun q => W4.heap.size ≤ q) W5 A al ∧ Rd W5 R r2 m2 := by
  rcases hres with ⟨al', r', m2', A, c, h5, h6, h7, h8, _⟩ | ⟨er2, h5, _⟩
  ·rw [HATE.out] at h5
   injection h5 with h5
   injection h5 with e1 e2
   injection e2 with e2 e3
   subst e1 e2 e3
   exact ⟨A, c, h6, h7, h8⟩
  ·rw [HATE.out] at h5; cases h5
 obtain ⟨n, hn0⟩ : ∃ n, al.length = n := ⟨_, rfl⟩
 rw [hn0]
 have HN0 := hid hn0
 clear hn0
 have HES5 := hid (HES4.out.call HN4.out HN6.out ho hr5)
 have HS5 := hid (Nat.le_trans HES3S.out ho.size)
 have HDS := hid hds
 clear ho hres hr5 hds
 go_wp2_with (first
  | (refine store_part rfl 22 _ _ rfl W2.heap.size 1 (.slice A n c) _ _ #[.string NM, .slice A n c, .string ⟨#[]⟩, .slice none 0 0] rfl rfl infoH (by simp) rfl rfl HES5.out.r6 rfl ?_)
  | fail)
 intro W6 ho6 hr6
 have HES6 := hid (HES5.out.put6 HN6.out (by have := HS2.out; omega) (by have := HS2.out; omega) ho6 hr6)
 have HO6 := hid ho6
 clear ho6 hr6
 go_wp2_with fail
 refine (H5.out _ HES6.out.rd).mono ?_
 rintro e W7 ⟨rfl, hr, ho⟩
 have HES7 := hid (HES6.out.call HN4.out HN6.out (to_only ho) hr)
 have HO7 := hid ho
 clear hr ho
 go_wp2_with fail
 refine (H6.out _ HES7.out.rd).mono ?_
 rintro e W8 ⟨rfl, hr, ho⟩
 have HES8 := hid (HES7.out.call HN4.out HN6.out (to_only ho) hr)
 have HO8 := hid ho
 clear hr ho
 have hld8 : (loadI 25 (.pointer (some ⟨W2.heap.size, 0, none⟩))).run Tryz.prog W8 = .ok (.agg #[.string NM, .slice A n c, .string ⟨#[]⟩, .slice none 0 0]) W8 := loadN_run HES8.out.r6 rfl
 have hst8 : (storeI 25 (.pointer (some ⟨w.heap.size, 0, none⟩)) (.agg #[.string NM, .slice A n c, .string ⟨#[]⟩, .slice none 0 0])).run Tryz.prog W8 = .ok () (putM W8 w.heap.size #[.string NM, .slice A n c, .string ⟨#[]⟩, .slice none 0 0]) := storeM_row infoN _ _ _ _ rfl rfl rfl rfl HES8.out.r4 rfl
 have HP8 := hid (putM_only W8 w.heap.size #[.string NM, .slice A n c, .string ⟨#[]⟩, .slice none 0 0])
 have HQ8 := hid (putM_row HES8.out.r4 (cs' := #[.string NM, .slice A n c, .string ⟨#[]⟩, .slice none 0 0]) rfl)
 generalize putM W8 w.heap.size #[.string NM, .slice A n c, .string ⟨#[]⟩, .slice none 0 0] = Y at hst8 HP8 HQ8
 go_wp2_with fail
 refine bodyPost_ret (ret_nd2 (p := 4) (q := 5) Tryz.results106 _ _ w.heap.size _ rfl (0, 0) _ rfl rfl HQ8.out) rfl ?_
 exact ⟨grown_own HES8.out.to (to_only HP8.out) (fun q hq => by injection hq with hq; omega), .inr ⟨5, _, _, _, _, HV.out, by omega, rfl, rfl, rfl, rfl, rfl⟩⟩
set_option maxRecDepth 100000 in
theorem element_h (d lev : Nat) (HAT : AtOk) (HKD : KdOk d (lev - 1)) (al : List HdV) (r2 : List UInt8) (m2 : Nat) (er : Nat) (l : List UInt8) (m R : Nat) (w : World) (hl : l.length ≤ 65536) (h13 : (13 : UInt8) ∉ l) (hm : m ≤ 4096) (hR : 7 < R) (hT : TabE w) (h : Rd w R l m) (ha : preX [60] l = true) (hn : nmX (l.drop 1) ≠ []) (hlev : lev ≠ 0) (hl16 : lev ≤ 16) (hmm : m + 1 ≤ 4096) (hm2 : m2 ≤ 4096) (hat : atW (nrX (l.drop 1)) (m + 1) = .ok (al, r2, m2)) (hsuf : r2 <:+ nrX (l.drop 1)) (hsl : preX [47, 62] r2 = false) (hgt : preX [62] r2 = true) (hkd : kidW d (elX d (lev - 1)) [] (r2.drop 1) m2 = .error er) :
  Calls Tryz.prog 106 #[.pointer (some ⟨R, 0, none⟩), .int .i64 ((17 - lev : Nat) : Int)] w (ElPost (d + 1) lev l m R w) := by
 have HTO : Hid (∀ W, w.grownBy W (some R) → TabE W) := fun W hW => hT.to hW hR
 have HB0 := hid ((Below.refl w.heap.size w).alloc (Nat.le_refl _) (.cells #[.string ⟨#[]⟩, .slice none 0 0, .string ⟨#[]⟩, .slice none 0 0] 25))
 have HR0 := hid (h.below HB0.out)
 have HO0 := hid (to_below (R := R) HB0.out)
 have HG0 := hid (heap_alloc_new w (.cells #[.string ⟨#[]⟩, .slice none 0 0, .string ⟨#[]⟩, .slice none 0 0] 25))
 have HRW := hid h.lt
 have hRne : R ≠ w.heap.size := by have := h.lt; omega
 have HNE := hid hRne
 have H1 : Hid (∀ W, Rd W R l m → Calls Tryz.prog 137 #[.pointer (some ⟨R, 0, none⟩), .string ⟨#[60]⟩] W fun e w' => e = .returned (.bool (preX [60] l)) ∧ Rd w' R (passX [60] l) m ∧ Only R W w') := fun W hW => pass_any l [60] m R W hW
 obtain ⟨r, rfl⟩ := pre_one ha
 replace hn : nmX r ≠ [] := hn
 replace hat : atW (nrX r) (m + 1) = .ok (al, r2, m2) := hat
 replace hsuf : r2 <:+ nrX r := hsuf
 have hp1 : passX [60] (60 :: r) = r := by rw [pass_yes ha]; rfl
 rw [ha, hp1] at H1
 have s1 : r <:+ 60 :: r := List.suffix_cons _ _
 have hlr : r.length ≤ 65536 := Nat.le_trans s1.length_le hl
 have H2 := hid (fun W hW => name_any r m R (by omega) W hW)
 have s2 : nrX r <:+ 60 :: r := (List.drop_suffix _ _).trans s1
 have hne : (nmX r).isEmpty = false := by cases hx : nmX r <;> simp_all
 have hq1 : ((asS (nmX r)).toList == []) = false := by rw [str_nil8]; exact hne
 have hdp : ¬ (16 : Int) < ((17 - lev : Nat) : Int) := by omega
 have H3 := hid (fun W hW => count_any (nrX r) m R (by omega) W hW)
 simp only [if_pos hmm] at H3
 have H4 := hid (fun W hT hW => HAT (nrX r) (m + 1) R W (Nat.le_trans s2.length_le hl) (fun hx => h13 (s2.subset hx)) hmm hR hT hW)
 have H5 : Hid (∀ W, Rd W R r2 m2 → Calls Tryz.prog 137 #[.pointer (some ⟨R, 0, none⟩), .string ⟨#[47, 62]⟩] W fun e w' => e = .returned (.bool (preX [47, 62] r2)) ∧ Rd w' R (passX [47, 62] r2) m2 ∧ Only R W w') := fun W hW => pass_any r2 [47, 62] m2 R W hW
 have H6 : Hid (∀ W, Rd W R r2 m2 → Calls Tryz.prog 137 #[.pointer (some ⟨R, 0, none⟩), .string ⟨#[62]⟩] W fun e w' => e = .returned (.bool (preX [62] r2)) ∧ Rd w' R (passX [62] r2) m2 ∧ Only R W w') := fun W hW => pass_any r2 [62] m2 R W hW
 rw [hsl, pass_no hsl] at H5
 have s3 : r2 <:+ nrX r := hsuf
 have hrl : (r2.drop 1).length ≤ 65536 := Nat.le_trans (List.drop_suffix _ _).length_le (Nat.le_trans s3.length_le (Nat.le_trans s2.length_le hl))
 have hr13 : (13 : UInt8) ∉ r2.drop 1 := fun hx => h13 (s2.subset (s3.subset ((List.drop_suffix _ _).subset hx)))
 have hlv : ((17 - (lev - 1) : Nat) : Int) = ((17 - lev : Nat) : Int) + 1 := by omega
 have H7 : Hid (∀ W, TabE W → Rd W R (r2.drop 1) m2 → Calls Tryz.prog 141 #[.pointer (some ⟨R, 0, none⟩), .int .i64 (((17 - lev : Nat) : Int) + 1)] W (KdPost d (lev - 1) (r2.drop 1) m2 R W)) := fun W hT hW => by
  rw [← hlv]
  exact HKD (r2.drop 1) m2 R W hrl hr13 hm2 hR hT hW
 have hd2 : passX [62] r2 = r2.drop 1 := pass_yes hgt
 rw [hgt, hd2] at H6
 have hdp2 : ((17 - lev : Nat) : Int) ≤ 17 := by omega
 have hdp3 : 0 ≤ ((17 - lev : Nat) : Int) := by omega
 have HV := hid (el_h (d := d) hn hlev hmm hat hsl hgt)
 rw [hkd] at HV
 simp only at HV
 have HATE := hid hat
 have HKE := hid hkd
 clear hT h hl h13 hm hR ha hRne hn s1 s2 s3 hlr hp1 hne hmm hlev hat HAT HKD hsl hgt hsuf hrl hr13 hlv hd2 hm2 hl16 hkd
 generalize ((17 - lev : Nat) : Int) = Dp at hdp hdp2 hdp3 H7 ⊢
 obtain ⟨NMr, hNM⟩ : ∃ NMr, nmX r = NMr := ⟨_, rfl⟩
 try rw [hNM] at HV
 rw [hNM] at hq1 H2
 clear hNM
 unfold ElPost
 generalize hVV : elX (d + 1) lev (60 :: r) m = V at HV ⊢
 clear hVV
 obtain ⟨NM, hNMs⟩ : ∃ NM, asS NMr = NM := ⟨_, rfl⟩
 have HNMS := hid hNMs
 rw [hNMs] at hq1 H2
 clear hNMs
 go_enter Tryz.func106, Tryz.ntmps106
 go_wp2_with fail
 refine (H1.out _ HR0.out).mono ?_
 rintro e W1 ⟨rfl, hr, ho⟩
 have HR1 := hid hr
 have HO1 := hid (HO0.out.trans (to_only ho))
 have HG1 := hid ((ho.block w.heap.size (Ne.symm HNE.out)).trans HG0.out)
 clear hr ho
 go_wp2_with fail
 refine (H2.out _ HR1.out).mono ?_
 rintro e W2 ⟨rfl, hr, ho⟩
 have HR2 := hid hr
 have HO2 := hid (HO1.out.trans ho)
 have HG2 := hid (to_row ho HG1.out (Ne.symm HNE.out))
 clear hr ho
 have HS2 : Hid (w.heap.size < W2.heap.size) := (Array.getElem?_eq_some_iff.1 HG2.out).1
 go_wp2_with (first
  | (refine store_msg infoN rfl _ _ rfl W2.heap.size _ _ _ _ rfl rfl rfl rfl rfl rfl _ (heap_alloc_new W2 _) rfl ?_)
  | fail)
 intro W3 ho3 hr3
 have HES3 : Hid (ES R w.heap.size W2.heap.size w #[.string ⟨#[]⟩, .slice none 0 0, .string ⟨#[]⟩, .slice none 0 0] #[.string NM, .slice none 0 0, .string ⟨#[]⟩, .slice none 0 0] (nrX r) m W3) := by
  have hb := ((Below.refl _ W2).alloc (Nat.le_refl _) (.cells #[.string ⟨#[]⟩, .slice none 0 0, .string ⟨#[]⟩, .slice none 0 0] 25)).trans (ho3.below (Nat.le_refl _))
  refine ⟨row_keep hb HR2.out, HO2.out.trans (to_below hb), row_keep hb HG2.out, hr3⟩
 have c0 : W3.cell? ⟨W2.heap.size, 0, none⟩ = some (.string NM) := cell_of_row _ _ _ _ _ _ hr3
 have HN4 : Hid (R ≠ w.heap.size) := HNE.out
 have HN6 : Hid (R ≠ W2.heap.size) := by have h1 := HRW.out; have h2 := HS2.out; show _ ≠ _; omega
 clear ho3 hr3
 go_wp2_with fail
 refine (H3.out _ HES3.out.rd).mono ?_
 rintro e W4 ⟨rfl, hr, ho⟩
 have HES4 := hid (HES3.out.call HN4.out HN6.out (to_only ho) hr)
 clear hr ho c0
 have HES3S : Hid (W2.heap.size < W4.heap.size) := (Array.getElem?_eq_some_iff.1 HES4.out.r6).1
 go_wp2_with fail
 refine (H4.out _ (HTO.out _ HES4.out.to) HES4.out.rd).mono ?_
 rintro e W5 ⟨ho, hres⟩
 obtain ⟨A, c, rfl, hds, hr5⟩ : ∃ A c, e = .returned (.tuple #[.slice A al.length c, .int .i64 0]) ∧ HdsP (fun q => W4.heap.size ≤ q) W5 A al ∧ Rd W5 R r2 m2 := by
  rcases hres with ⟨al', r', m2', A, c, h5, h6, h7, h8, _⟩ | ⟨er2, h5, _⟩
  ·rw [HATE.out] at h5
   injection h5 with h5
   injection h5 with e1 e2
   injection e2 with e2 e3
   subst e1 e2 e3
   exact ⟨A, c, h6, h7, h8⟩
  ·rw [HATE.out] at h5; cases h5
 obtain ⟨n, hn0⟩ : ∃ n, al.length = n := ⟨_, rfl⟩
 rw [hn0]
 have HN0 := hid hn0
 clear hn0
 have HES5 := hid (HES4.out.call HN4.out HN6.out ho hr5)
 have HS5 := hid (Nat.le_trans HES3S.out ho.size)
 have HDS := hid hds
 clear ho hres hr5 hds
 go_wp2_with (first
  | (refine store_part rfl 22 _ _ rfl W2.heap.size 1 (.slice A n c) _ _ #[.string NM, .slice A n c, .string ⟨#[]⟩, .slice none 0 0] rfl rfl infoH (by simp) rfl rfl HES5.out.r6 rfl ?_)
  | fail)
 intro W6 ho6 hr6
 have HES6 := hid (HES5.out.put6 HN6.out (by have := HS2.out; omega) (by have := HS2.out; omega) ho6 hr6)
 have HO6 := hid ho6
 clear ho6 hr6
 go_wp2_with fail
 refine (H5.out _ HES6.out.rd).mono ?_
 rintro e W7 ⟨rfl, hr, ho⟩
 have HES7 := hid (HES6.out.call HN4.out HN6.out (to_only ho) hr)
 have HO7 := hid ho
 clear hr ho
 go_wp2_with fail
 refine (H6.out _ HES7.out.rd).mono ?_
 rintro e W8 ⟨rfl, hr, ho⟩
 have HES8 := hid (HES7.out.call HN4.out HN6.out (to_only ho) hr)
 have HO8 := hid ho
 clear hr ho
 go_wp2_with fail
 refine (H7.out _ (HTO.out _ HES8.out.to) HES8.out.rd).mono ?_
 rintro e W9 ⟨ho, hres⟩
 obtain ⟨er2, h5, h6, rfl⟩ : ∃ er2 : Nat, kidW d (elX d (lev - 1)) [] (r2.drop 1) m2 = .error er2 ∧ (er2 = 3 ∨ er2 = 5 ∨ er2 = 9) ∧ e = .returned (.tuple #[.slice none 0 0, .int .i64 er2]) := by
  rcases hres with ⟨ks, l2', m2', v, h5, _⟩ | hres
  ·rw [HKE.out] at h5; cases h5
  ·exact hres
 obtain rfl : er2 = er := by rw [HKE.out] at h5; injection h5 with h5; exact h5.symm
 have hne2 : ((er2 : Int) != 0) = true := by rw [bne_iff_ne]; omega
 have HER := hid h6
 have HTO9 := hid (HES8.out.to.trans ho)
 have HR69 := hid (to_row ho HES8.out.r6 (Ne.symm HN6.out))
 have HR49 := hid (to_row ho HES8.out.r4 (Ne.symm HN4.out))
 clear ho h5 h6 hres
 go_wp2_with (first
  | (refine store_part rfl 23 _ _ rfl W2.heap.size 3 (.slice none 0 0) _ _ #[.string NM, .slice A n c, .string ⟨#[]⟩, .slice none 0 0] rfl rfl infoNs (by simp) rfl rfl HR69.out rfl ?_)
  | fail)
 intro W10 ho10 hr10
 have hld10 : (loadI 25 (.pointer (some ⟨W2.heap.size, 0, none⟩))).run Tryz.prog W10 = .ok (.agg #[.string NM, .slice A n c, .string ⟨#[]⟩, .slice none 0 0]) W10 := loadN_run hr10 rfl
 have HR410 := hid ((ho10.block w.heap.size (by have := HS2.out; omega)).trans HR49.out)
 have hst10 : (storeI 25 (.pointer (some ⟨w.heap.size, 0, none⟩)) (.agg #[.string NM, .slice A n c, .string ⟨#[]⟩, .slice none 0 0])).run Tryz.prog W10 = .ok () (putM W10 w.heap.size #[.string NM, .slice A n c, .string ⟨#[]⟩, .slice none 0 0]) := storeM_row infoN _ _ _ _ rfl rfl rfl rfl HR410.out rfl
 have HP10 := hid (putM_only W10 w.heap.size #[.string NM, .slice A n c, .string ⟨#[]⟩, .slice none 0 0])
 have HQ10 := hid (putM_row HR410.out (cs' := #[.string NM, .slice A n c, .string ⟨#[]⟩, .slice none 0 0]) rfl)
 have HO10 := hid ho10
 clear ho10 hr10
 generalize putM W10 w.heap.size #[.string NM, .slice A n c, .string ⟨#[]⟩, .slice none 0 0] = Y at hst10 HP10 HQ10
 go_wp2_with fail
 refine bodyPost_ret (ret_nd2 (p := 4) (q := 5) Tryz.results106 _ _ w.heap.size _ rfl (0, 0) _ rfl rfl HQ10.out) rfl ?_
 exact ⟨grown_own (grown_own HTO9.out (to_only HO10.out) (fun q hq => by injection hq with hq; have := HS2.out; omega)) (to_only HP10.out) (fun q hq => by injection hq with hq; omega), .inr ⟨er2, _, _, _, _, HV.out, HER.out, rfl, rfl, rfl, rfl, rfl⟩⟩
theorem end_none {R m3 : Nat} {v : Value} {w1 : World} {E : Option (List UInt8)} (he : E = none) (h : (∃ b : List UInt8, E = some b ∧ v = .int .i64 0 ∧ Rd w1 R b m3) ∨ (E = none ∧ v = .int .i64 5)) : v = .int .i64 5 := by
 rcases h with ⟨b, h1, _⟩ | ⟨_, h1⟩
 ·rw [he] at h1; cases h1
 ·exact h1
theorem end_some {R m3 : Nat} {v : Value} {w1 : World} {bb : List UInt8} {E : Option (List UInt8)} (he : E = some bb) (h : (∃ b : List UInt8, E = some b ∧ v = .int .i64 0 ∧ Rd w1 R b m3) ∨ (E = none ∧ v = .int .i64 5)) : v = .int .i64 0 ∧ Rd w1 R bb m3 := by
 rcases h with ⟨b, h1, h2, h3⟩ | ⟨h1, _⟩
 ·rw [he] at h1
  injection h1 with h1
  subst h1
  exact ⟨h2, h3⟩
 ·rw [he] at h1; cases h1
structure Hi (B : Nat) (X Y : World) : Prop where
 size : X.heap.size ≤ Y.heap.size
 block : ∀ q, B ≤ q → q < X.heap.size → Y.heap[q]? = X.heap[q]?
theorem Hi.grown {B g : Nat} {X Y : World} (h : X.grownBy Y (some g)) (hg : g < B) : Hi B X Y := ⟨h.size, fun q hq hl => h.block q hl (fun e => by injection e with e; omega)⟩
theorem Hi.trans {B : Nat} {X Y Z : World} (h : Hi B X Y) (k : Hi B Y Z) : Hi B X Z := ⟨Nat.le_trans h.size k.size, fun q hq hl => (k.block q hq (Nat.lt_of_lt_of_le hl h.size)).trans (h.block q hq hl)⟩
theorem Hi.mono {B B' : Nat} {X Y : World} (h : Hi B X Y) (hB : B ≤ B') : Hi B' X Y := ⟨h.size, fun q hq hl => h.block q (Nat.le_trans hB hq) hl⟩
set_option maxRecDepth 100000 in
theorem element_i (d lev : Nat) (HAT : AtOk) (HKD : KdOk d (lev - 1)) (al : List HdV) (r2 : List UInt8) (m2 : Nat) (ks : List (Tr d)) (l3 : List UInt8) (m3 : Nat) (l : List UInt8) (m R : Nat) (w : World) (hl : l.length ≤ 65536) (h13 : (13 : UInt8) ∉ l) (hm : m ≤ 4096) (hR : 7 < R) (hT : TabE w) (h : Rd w R l m) (ha : preX [60] l = true) (hn : nmX (l.drop 1) ≠ []) (hlev : lev ≠ 0) (hl16 : lev ≤ 16) (hmm : m + 1 ≤ 4096) (hm2 : m2 ≤ 4096) (hat : atW (nrX (l.drop 1)) (m + 1) = .ok (al, r2, m2)) (hsuf : r2 <:+ nrX (l.drop 1)) (hsl : preX [47, 62] r2 = false) (hgt : preX [62] r2 = true) (hkd : kidW d (elX d (lev - 1)) [] (r2.drop 1) m2 = .ok (ks, l3, m3)) :
  Calls Tryz.prog 106 #[.pointer (some ⟨R, 0, none⟩), .int .i64 ((17 - lev : Nat) : Int)] w (ElPost (d + 1) lev l m R w) := by
 have HTO : Hid (∀ W, w.grownBy W (some R) → TabE W) := fun W hW => hT.to hW hR
 have HB0 := hid ((Below.refl w.heap.size w).alloc (Nat.le_refl _) (.cells #[.string ⟨#[]⟩, .slice none 0 0, .string ⟨#[]⟩, .slice none 0 0] 25))
 have HR0 := hid (h.below HB0.out)
 have HO0 := hid (to_below (R := R) HB0.out)
 have HG0 := hid (heap_alloc_new w (.cells #[.string ⟨#[]⟩, .slice none 0 0, .string ⟨#[]⟩, .slice none 0 0] 25))
 have HRW := hid h.lt
 have hRne : R ≠ w.heap.size := by have := h.lt; omega
 have HNE := hid hRne
 have H1 : Hid (∀ W, Rd W R l m → Calls Tryz.prog 137 #[.pointer (some ⟨R, 0, none⟩), .string ⟨#[60]⟩] W fun e w' => e = .returned (.bool (preX [60] l)) ∧ Rd w' R (passX [60] l) m ∧ Only R W w') := fun W hW => pass_any l [60] m R W hW
 obtain ⟨r, rfl⟩ := pre_one ha
 replace hn : nmX r ≠ [] := hn
 replace hat : atW (nrX r) (m + 1) = .ok (al, r2, m2) := hat
 replace hsuf : r2 <:+ nrX r := hsuf
 have hp1 : passX [60] (60 :: r) = r := by rw [pass_yes ha]; rfl
 rw [ha, hp1] at H1
 have s1 : r <:+ 60 :: r := List.suffix_cons _ _
 have hlr : r.length ≤ 65536 := Nat.le_trans s1.length_le hl
 have H2 := hid (fun W hW => name_any r m R (by omega) W hW)
 have s2 : nrX r <:+ 60 :: r := (List.drop_suffix _ _).trans s1
 have hne : (nmX r).isEmpty = false := by cases hx : nmX r <;> simp_all
 have hq1 : ((asS (nmX r)).toList == []) = false := by rw [str_nil8]; exact hne
 have hdp : ¬ (16 : Int) < ((17 - lev : Nat) : Int) := by omega
 have H3 := hid (fun W hW => count_any (nrX r) m R (by omega) W hW)
 simp only [if_pos hmm] at H3
 have H4 := hid (fun W hT hW => HAT (nrX r) (m + 1) R W (Nat.le_trans s2.length_le hl) (fun hx => h13 (s2.subset hx)) hmm hR hT hW)
 have H5 : Hid (∀ W, Rd W R r2 m2 → Calls Tryz.prog 137 #[.pointer (some ⟨R, 0, none⟩), .string ⟨#[47, 62]⟩] W fun e w' => e = .returned (.bool (preX [47, 62] r2)) ∧ Rd w' R (passX [47, 62] r2) m2 ∧ Only R W w') := fun W hW => pass_any r2 [47, 62] m2 R W hW
 have H6 : Hid (∀ W, Rd W R r2 m2 → Calls Tryz.prog 137 #[.pointer (some ⟨R, 0, none⟩), .string ⟨#[62]⟩] W fun e w' => e = .returned (.bool (preX [62] r2)) ∧ Rd w' R (passX [62] r2) m2 ∧ Only R W w') := fun W hW => pass_any r2 [62] m2 R W hW
 rw [hsl, pass_no hsl] at H5
 have s3 : r2 <:+ nrX r := hsuf
 have hrl : (r2.drop 1).length ≤ 65536 := Nat.le_trans (List.drop_suffix _ _).length_le (Nat.le_trans s3.length_le (Nat.le_trans s2.length_le hl))
 have hr13 : (13 : UInt8) ∉ r2.drop 1 := fun hx => h13 (s2.subset (s3.subset ((List.drop_suffix _ _).subset hx)))
 have hlv : ((17 - (lev - 1) : Nat) : Int) = ((17 - lev : Nat) : Int) + 1 := by omega
 have H7 : Hid (∀ W, TabE W → Rd W R (r2.drop 1) m2 → Calls Tryz.prog 141 #[.pointer (some ⟨R, 0, none⟩), .int .i64 (((17 - lev : Nat) : Int) + 1)] W (KdPost d (lev - 1) (r2.drop 1) m2 R W)) := fun W hT hW => by
  rw [← hlv]
  exact HKD (r2.drop 1) m2 R W hrl hr13 hm2 hR hT hW
 have hd2 : passX [62] r2 = r2.drop 1 := pass_yes hgt
 rw [hgt, hd2] at H6
 have hdp2 : ((17 - lev : Nat) : Int) ≤ 17 := by omega
 have hdp3 : 0 ≤ ((17 - lev : Nat) : Int) := by omega
 have hks := kid_sh (el_sh d (lev - 1)) _ _ _ _ _ _ _ hm2 hkd
 have hl3 : l3.length ≤ 65536 := Nat.le_trans hks.1.length_le hrl
 have h313 : (13 : UInt8) ∉ l3 := fun hx => hr13 (hks.1.subset hx)
 have H8 := hid (fun W hW => end_any (nmX r) l3 m3 R (by omega) h313 hks.2.2 W hW)
 have HV := hid (el_h (d := d) hn hlev hmm hat hsl hgt)
 rw [hkd] at HV
 simp only at HV
 have HATE := hid hat
 have HKE := hid hkd
 have HEN := hid (enters_of Tryz.func142 (by kernel_rfl) rfl)
 clear hT h hl h13 hm hR ha hRne hn s1 s2 s3 hlr hp1 hne hmm hlev hat HAT HKD hsl hgt hsuf hrl hr13 hlv hd2 hm2 hl16 hkd hks hl3 h313
 generalize ((17 - lev : Nat) : Int) = Dp at hdp hdp2 hdp3 H7 ⊢
 obtain ⟨NMr, hNM⟩ : ∃ NMr, nmX r = NMr := ⟨_, rfl⟩
 try rw [hNM] at HV
 rw [hNM] at hq1 H2 H8
 clear hNM
 unfold ElPost
 generalize hVV : elX (d + 1) lev (60 :: r) m = V at HV ⊢
 clear hVV
 obtain ⟨NM, hNMs⟩ : ∃ NM, asS NMr = NM := ⟨_, rfl⟩
 have HNMS := hid hNMs
 rw [hNMs] at hq1 H2 H8
 clear hNMs
 go_enter Tryz.func106, Tryz.ntmps106
 go_wp2_with fail
 refine (H1.out _ HR0.out).mono ?_
 rintro e W1 ⟨rfl, hr, ho⟩
 have HR1 := hid hr
 have HO1 := hid (HO0.out.trans (to_only ho))
 have HG1 := hid ((ho.block w.heap.size (Ne.symm HNE.out)).trans HG0.out)
 clear hr ho
 go_wp2_with fail
 refine (H2.out _ HR1.out).mono ?_
 rintro e W2 ⟨rfl, hr, ho⟩
 have HR2 := hid hr
 have HO2 := hid (HO1.out.trans ho)
 have HG2 := hid (to_row ho HG1.out (Ne.symm HNE.out))
 clear hr ho
 have HS2 : Hid (w.heap.size < W2.heap.size) := (Array.getElem?_eq_some_iff.1 HG2.out).1
 go_wp2_with (first
  | (refine store_msg infoN rfl _ _ rfl W2.heap.size _ _ _ _ rfl rfl rfl rfl rfl rfl _ (heap_alloc_new W2 _) rfl ?_)
  | fail)
 intro W3 ho3 hr3
 have HES3 : Hid (ES R w.heap.size W2.heap.size w #[.string ⟨#[]⟩, .slice none 0 0, .string ⟨#[]⟩, .slice none 0 0] #[.string NM, .slice none 0 0, .string ⟨#[]⟩, .slice none 0 0] (nrX r) m W3) := by
  have hb := ((Below.refl _ W2).alloc (Nat.le_refl _) (.cells #[.string ⟨#[]⟩, .slice none 0 0, .string ⟨#[]⟩, .slice none 0 0] 25)).trans (ho3.below (Nat.le_refl _))
  refine ⟨row_keep hb HR2.out, HO2.out.trans (to_below hb), row_keep hb HG2.out, hr3⟩
 have c0 : W3.cell? ⟨W2.heap.size, 0, none⟩ = some (.string NM) := cell_of_row _ _ _ _ _ _ hr3
 have HN4 : Hid (R ≠ w.heap.size) := HNE.out
 have HN6 : Hid (R ≠ W2.heap.size) := by have h1 := HRW.out; have h2 := HS2.out; show _ ≠ _; omega
 clear ho3 hr3
 go_wp2_with fail
 refine (H3.out _ HES3.out.rd).mono ?_
 rintro e W4 ⟨rfl, hr, ho⟩
 have HES4 := hid (HES3.out.call HN4.out HN6.out (to_only ho) hr)
 clear hr ho c0
 have HES3S : Hid (W2.heap.size < W4.heap.size) := (Array.getElem?_eq_some_iff.1 HES4.out.r6).1
 go_wp2_with fail
 refine (H4.out _ (HTO.out _ HES4.out.to) HES4.out.rd).mono ?_
 rintro e W5 ⟨ho, hres⟩
 obtain ⟨A, c, rfl, hds, hr5⟩ : ∃ A c, e = .returned (.tuple #[.slice A al.length c, .int .i64 0]) ∧ HdsP (fun q => W4.heap.size ≤ q) W5 A al ∧ Rd W5 R r2 m2 := by
  rcases hres with ⟨al', r', m2', A, c, h5, h6, h7, h8, _⟩ | ⟨er2, h5, _⟩
  ·rw [HATE.out] at h5
   injection h5 with h5
   injection h5 with e1 e2
   injection e2 with e2 e3
   subst e1 e2 e3
   exact ⟨A, c, h6, h7, h8⟩
  ·rw [HATE.out] at h5; cases h5
 obtain ⟨n, hn0⟩ : ∃ n, al.length = n := ⟨_, rfl⟩
 rw [hn0]
 have HN0 := hid hn0
 clear hn0
 have HES5 := hid (HES4.out.call HN4.out HN6.out ho hr5)
 have HS5 := hid (Nat.le_trans HES3S.out ho.size)
 have HDS := hid hds
 have HS45 := hid ho.size
 clear ho hres hr5 hds
 go_wp2_with (first
  | (refine store_part rfl 22 _ _ rfl W2.heap.size 1 (.slice A n c) _ _ #[.string NM, .slice A n c, .string ⟨#[]⟩, .slice none 0 0] rfl rfl infoH (by simp) rfl rfl HES5.out.r6 rfl ?_)
  | fail)
 intro W6 ho6 hr6
 have HES6 := hid (HES5.out.put6 HN6.out (by have := HS2.out; omega) (by have := HS2.out; omega) ho6 hr6)
 have HO6 := hid ho6
 clear ho6 hr6
 go_wp2_with fail
 refine (H5.out _ HES6.out.rd).mono ?_
 rintro e W7 ⟨rfl, hr, ho⟩
 have HES7 := hid (HES6.out.call HN4.out HN6.out (to_only ho) hr)
 have HO7 := hid ho
 clear hr ho
 go_wp2_with fail
 refine (H6.out _ HES7.out.rd).mono ?_
 rintro e W8 ⟨rfl, hr, ho⟩
 have HES8 := hid (HES7.out.call HN4.out HN6.out (to_only ho) hr)
 have HO8 := hid ho
 clear hr ho
 go_wp2_with fail
 refine (H7.out _ (HTO.out _ HES8.out.to) HES8.out.rd).mono ?_
 rintro e W9 ⟨ho, hres⟩
 obtain ⟨v, rfl, hown, hr9⟩ : ∃ v, e = .returned (.tuple #[v, .int .i64 0]) ∧ OwnN (fun q => W8.heap.size ≤ q) W9 d v ks ∧ Rd W9 R l3 m3 := by
  rcases hres with ⟨ks', l2', m2', v, h5, h6, h7, h8⟩ | ⟨er2, h5, _⟩
  ·rw [HKE.out] at h5
   injection h5 with h5
   injection h5 with e1 e2
   injection e2 with e2 e3
   subst e1 e2 e3
   exact ⟨v, h6, h7, h8⟩
  ·rw [HKE.out] at h5; cases h5
 obtain ⟨kA, kc, hv, _, hnds⟩ := hown.shape
 obtain ⟨kn, hkn⟩ : ∃ kn, ks.length = kn := ⟨_, rfl⟩
 rw [hkn] at hv
 have HKN := hid hkn
 clear hkn
 subst hv
 have HCAP := hid hown.cap
 have HES9 := hid (HES8.out.call HN4.out HN6.out ho hr9)
 have HNDS := hid hnds
 have HO9 := hid ho
 clear ho hres hr9 hown hnds
 go_wp2_with (first
  | (refine store_part rfl 23 _ _ rfl W2.heap.size 3 (.slice kA kn kc) _ _ #[.string NM, .slice A n c, .string ⟨#[]⟩, .slice kA kn kc] rfl rfl infoNs (by simp) rfl rfl HES9.out.r6 rfl ?_)
  | fail)
 intro W10 ho10 hr10
 have HES10 := hid (HES9.out.put6 HN6.out (by have := HS2.out; omega) (by have := HS2.out; omega) ho10 hr10)
 have HO10 := hid ho10
 clear ho10 hr10
 have hldA : (loadI 25 (.pointer (some ⟨W2.heap.size, 0, none⟩))).run Tryz.prog W10.drew = .ok (.agg #[.string NM, .slice A n c, .string ⟨#[]⟩, .slice kA kn kc]) W10.drew := loadN_run (w := W10.drew) HES10.out.r6 rfl
 have hcA : W10.drew.cell? ⟨W2.heap.size, 0, none⟩ = some (.string NM) := cell_of_row (w := W10.drew) _ _ _ _ _ HES10.out.r6
 have HEC : Hid (Calls Tryz.prog 142 #[.pointer (some ⟨R, 0, none⟩), .string NM] W10.drew fun e w' => ∃ v, e = .returned v ∧ ((∃ b, endX NMr l3 = some b ∧ v = .int .i64 0 ∧ Rd w' R b m3) ∨ (endX NMr l3 = none ∧ v = .int .i64 5)) ∧ W10.drew.grownBy w' (some R)) := (H8.out W10.drew HES10.out.rd).mono fun e w' hp => by
  rcases hp with ⟨h1, ⟨b, h2, h3, h4⟩ | ⟨h2, h3⟩⟩
  ·exact ⟨_, h3, .inl ⟨b, h2, rfl, h4⟩, h1⟩
  ·exact ⟨_, h3, .inr ⟨h2, rfl⟩, h1⟩
 have HH : Hid (∀ Y X, W10.drew.grownBy X (some R) → Only w.heap.size X Y → Hi W4.heap.size W5 Y ∧ Hi W8.heap.size W9 Y) := fun Y X h1 h2 => by
  have s2 := HS2.out
  have s4 := HES3S.out
  have s3 := HRW.out
  have z8 : W4.heap.size ≤ W8.heap.size := by rw [HO8.out.size, HO7.out.size, HO6.out.size]; exact HS45.out
  have a1 : Hi W4.heap.size W5 W8 := ((Hi.grown (to_only HO6.out) (by omega)).trans (Hi.grown (to_only HO7.out) (by omega))).trans (Hi.grown (to_only HO8.out) (by omega))
  have a2 : Hi W4.heap.size W9 W10 := Hi.grown (to_only HO10.out) (by omega)
  have a3 : Hi W4.heap.size W10 W10.drew := ⟨Nat.le_refl _, fun _ _ _ => rfl⟩
  have a4 : Hi W4.heap.size W9 Y := ((a2.trans a3).trans (Hi.grown h1 (by omega))).trans (Hi.grown (to_only h2) (by omega))
  exact ⟨(a1.trans (Hi.grown HO9.out (by omega))).trans a4, a4.mono z8⟩
 cases hee : endX NMr l3 with
 | none =>
  have HEE := hid hee
  rw [hee] at HV
  simp only at HV
  clear hee
  go_wp2_with fail
  go_region_law ((first
   | (refine step_call2 (by rfl) 142 _ _ _ (by rfl) HEN.out (.pointer (some ⟨R, 0, none⟩)) (.string NM) (by rfl) (by rfl) HEC.out ?_; intro v1 w1 ha; have hv1 : v1 = .int .i64 5 := end_none HEE.out ha.1; subst hv1; have HG1 := hid ha.2; have HR41 := hid (to_row ha.2 (w := W10.drew) HES10.out.r4 (Ne.symm HN4.out)); have hldB := loadN_run (to_row ha.2 (w := W10.drew) HES10.out.r6 (Ne.symm HN6.out)) rfl; have hstB : (storeI 25 (.pointer (some ⟨w.heap.size, 0, none⟩)) (.agg #[.string NM, .slice A n c, .string ⟨#[]⟩, .slice kA kn kc])).run Tryz.prog w1 = .ok () (putM w1 w.heap.size #[.string NM, .slice A n c, .string ⟨#[]⟩, .slice kA kn kc]) := storeM_row infoN _ _ _ _ rfl rfl rfl rfl HR41.out rfl; have hcB : w1.cell? ⟨W2.heap.size, 0, none⟩ = some (.string NM) := cell_of_row _ _ _ _ _ _ (to_row ha.2 (w := W10.drew) HES10.out.r6 (Ne.symm HN6.out)); clear ha)
   | fail))
  all_goals
   have HPB := hid (putM_only w1 w.heap.size #[.string NM, .slice A n c, .string ⟨#[]⟩, .slice kA kn kc])
   have HQB := hid (putM_row HR41.out (cs' := #[.string NM, .slice A n c, .string ⟨#[]⟩, .slice kA kn kc]) rfl)
   generalize putM w1 w.heap.size #[.string NM, .slice A n c, .string ⟨#[]⟩, .slice kA kn kc] = Y at hstB HPB HQB ⊢
   go_wp2_with fail
   refine bodyPost_ret (ret_nd2 (p := 4) (q := 5) Tryz.results106 _ _ w.heap.size _ rfl (0, 0) _ rfl rfl HQB.out) rfl ?_
   exact ⟨grown_own (HES10.out.to.trans ((to_below (R := R) ((Below.refl _ _).drew)).trans HG1.out)) (to_only HPB.out) (fun q hq => by injection hq with hq; omega), .inr ⟨5, _, _, _, _, HV.out, by omega, rfl, rfl, rfl, rfl, rfl⟩⟩
 | some bb =>
  have HEE := hid hee
  rw [hee] at HV
  simp only at HV
  clear hee
  go_wp2_with fail
  go_region_law ((first
   | (refine step_call2 (by rfl) 142 _ _ _ (by rfl) HEN.out (.pointer (some ⟨R, 0, none⟩)) (.string NM) (by rfl) (by rfl) HEC.out ?_; intro v1 w1 ha; have hv1 : v1 = .int .i64 0 ∧ Rd w1 R bb m3 := end_some HEE.out ha.1; have HRE := hid hv1.2; have hv2 := hv1.1; subst hv2; have HG1 := hid ha.2; have HR41 := hid (to_row ha.2 (w := W10.drew) HES10.out.r4 (Ne.symm HN4.out)); have hldB := loadN_run (to_row ha.2 (w := W10.drew) HES10.out.r6 (Ne.symm HN6.out)) rfl; have hstB : (storeI 25 (.pointer (some ⟨w.heap.size, 0, none⟩)) (.agg #[.string NM, .slice A n c, .string ⟨#[]⟩, .slice kA kn kc])).run Tryz.prog w1 = .ok () (putM w1 w.heap.size #[.string NM, .slice A n c, .string ⟨#[]⟩, .slice kA kn kc]) := storeM_row infoN _ _ _ _ rfl rfl rfl rfl HR41.out rfl; have hcB : w1.cell? ⟨W2.heap.size, 0, none⟩ = some (.string NM) := cell_of_row _ _ _ _ _ _ (to_row ha.2 (w := W10.drew) HES10.out.r6 (Ne.symm HN6.out)); clear ha hv1)
   | fail))
  all_goals
   have HPB := hid (putM_only w1 w.heap.size #[.string NM, .slice A n c, .string ⟨#[]⟩, .slice kA kn kc])
   have HQB := hid (putM_row HR41.out (cs' := #[.string NM, .slice A n c, .string ⟨#[]⟩, .slice kA kn kc]) rfl)
   generalize putM w1 w.heap.size #[.string NM, .slice A n c, .string ⟨#[]⟩, .slice kA kn kc] = Y at hstB HPB HQB ⊢
   obtain ⟨hh5, hh9⟩ := HH.out Y w1 HG1.out HPB.out
   have HND : Hid (NdAt (fun q => w.heap.size ≤ q) (d + 1) Y #[.string NM, .slice A n c, .string ⟨#[]⟩, .slice kA kn kc] ((NMr, al, []), ks)) := by
    have s2 := HS2.out
    have s4 := HES3S.out
    have z8 : W4.heap.size ≤ W8.heap.size := by rw [HO8.out.size, HO7.out.size, HO6.out.size]; exact HS45.out
    have k1 : HdsP (fun q => w.heap.size ≤ q) Y A al := HDS.out.frame hh5.size fun q hq hlq => ⟨hh5.block q hq hlq, by omega⟩
    have k2 : NdsAt (fun q => w.heap.size ≤ q) d Y kA ks := HNDS.out.frame hh9.size fun q hq hlq => ⟨hh9.block q hq hlq, by omega⟩
    have := NdAt.mk (l := (NMr, al, [])) (ac := c) (kc := kc) k1 k2 (by rw [HKN.out]; exact HCAP.out)
    unfold ndcs at this
    simp only [HNMS.out, HN0.out, HKN.out] at this
    exact this
   clear hh5 hh9
   go_wp2_with fail
   refine bodyPost_ret (ret_nd2 (p := 4) (q := 5) Tryz.results106 _ _ w.heap.size _ rfl (0, 0) _ rfl rfl HQB.out) rfl ?_
   exact ⟨grown_own (HES10.out.to.trans ((to_below (R := R) ((Below.refl _ _).drew)).trans HG1.out)) (to_only HPB.out) (fun q hq => by injection hq with hq; omega), .inl ⟨_, _, _, _, HV.out, rfl, HND.out, (HPB.out.block R HN4.out).trans HRE.out⟩⟩
theorem element_of (HAT : AtOk) (d lev : Nat) (hle : lev ≤ d) (hl16 : lev ≤ 16) (HKD : ∀ d', d = d' + 1 → lev ≠ 0 → KdOk d' (lev - 1)) : ElOk d lev := by
 intro l m R w hl h13 hm hR hT h
 cases ha : preX [60] l with
 | false => exact element_a d lev l m R w hl h13 hm hR hT h ha
 | true =>
  by_cases hn : nmX (l.drop 1) = []
  ·exact element_b d lev l m R w hl h13 hm hR hT h ha hn
  ·by_cases hlev : lev = 0
   ·subst hlev; exact element_c d l m R w hl h13 hm hR hT h ha hn
   ·by_cases hmm : m + 1 ≤ 4096
    ·cases hat : atW (nrX (l.drop 1)) (m + 1) with
     | error er => exact element_e d lev HAT er l m R w hl h13 hm hR hT h ha hn hlev hmm hat
     | ok q =>
      obtain ⟨al, r2, m2⟩ := q
      cases hsl : preX [47, 62] r2 with
      | true => exact element_f d lev HAT al r2 m2 l m R w hl h13 hm hR hT h ha hn hlev hmm hat hsl
      | false =>
       cases hgt : preX [62] r2 with
       | false => exact element_g d lev HAT al r2 m2 l m R w hl h13 hm hR hT h ha hn hlev hmm hat hsl hgt
       | true =>
        obtain ⟨d', rfl⟩ : ∃ d', d = d' + 1 := ⟨d - 1, by omega⟩
        obtain ⟨hsuf, hm2⟩ := at_sh hat (by omega)
        cases hkd : kidW d' (elX d' (lev - 1)) [] (r2.drop 1) m2 with
        | error er => exact element_h d' lev HAT (HKD d' rfl hlev) al r2 m2 er l m R w hl h13 hm hR hT h ha hn hlev hl16 hmm hm2 hat hsuf hsl hgt hkd
        | ok q =>
         obtain ⟨ks, l3, m3⟩ := q
         exact element_i d' lev HAT (HKD d' rfl hlev) al r2 m2 ks l3 m3 l m R w hl h13 hm hR hT h ha hn hlev hl16 hmm hm2 hat hsuf hsl hgt hkd
    ·exact element_d d lev l m R w hl h13 hm hR hT h ha hn hlev hmm
theorem element_all (HAT : AtOk) : ∀ (d lev : Nat), lev ≤ d → lev ≤ 16 → ElOk d lev
 | 0, lev, h, h16 => element_of HAT 0 lev h h16 (fun d' e => by omega)
 | d + 1, lev, h, h16 => element_of HAT (d + 1) lev h h16 (fun d' e hne => by
  obtain rfl : d = d' := by omega
  exact fun l m R w hl h13 hm hR hT hr => kids_of d (lev - 1) (element_all HAT d (lev - 1) (by omega) (by omega)) l m R w hl h13 hm hR hT hr)
end Go.Proofs.YtgoiafndapemjaaGreatDoor
