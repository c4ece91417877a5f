import Derived.Test.YtgoiafndapemjaaGreatDoorQ21
set_option linter.unusedVariables false
set_option linter.unusedSimpArgs false
set_option maxHeartbeats 1000000
namespace Go.Proofs.YtgoiafndapemjaaGreatDoor
open Go.RowKit Go.BigFrame
theorem to_none {w w' : World} (h : Below w.heap.size w w') : w.grownBy w' none := ⟨h.os, h.tape, h.output, h.size, fun k hk _ => h.block k hk⟩
theorem distN_snoc : ∀ (l : List (List UInt8)) (x : List UInt8), distN (l ++ [x]) = (distN l && !l.contains x)
 | [], x => by simp [distN]
 | a :: r, x => by
  have ih := distN_snoc r x
  simp only [List.cons_append, distN, ih]
  by_cases hx : x = a
  ·subst hx
   simp [distN]
  ·have hx' : ¬ a = x := fun e => hx e.symm
   simp [hx, hx', Bool.and_assoc, Bool.and_comm, Bool.and_left_comm]
theorem atts_snocB (l : List HdV) (a : HdV) : attsOk (l ++ [a]) = (attsOk l && (nameX a.name && X a.value) && !(l.map (·.name)).contains a.name) := by
 unfold attsOk
 rw [List.all_append, List.map_append, List.map_singleton, distN_snoc]
 simp only [List.all_cons, List.all_nil, Bool.and_true]
 cases l.all (fun a => nameX a.name && X a.value) <;> cases distN (l.map (·.name)) <;> cases (nameX a.name && X a.value) <;> rfl
theorem atts_pre {l : List HdV} {k : Nat} (h : attsOk (l.take k) = false) : attsOk l = false := by
 cases hl : attsOk l with
 | false => rfl
 | true =>
  have hs : l = l.take k ++ l.drop k := (List.take_append_drop k l).symm
  have key : ∀ (b a : List HdV), attsOk (a ++ b) = true → attsOk a = true := by
   intro b
   induction b with
   | nil => intro a h; simpa using h
   | cons c r ih =>
    intro a h
    have := ih (a ++ [c]) (by simpa using h)
    rw [atts_snocB] at this
    simp only [Bool.and_eq_true] at this
    exact this.1.1
  rw [hs] at hl
  rw [key _ _ hl] at h
  cases h
theorem run_makeMap_hint (n : Int) (w : World) : (Instr.makeMap 144 (some (.int .i64 n))).run Tryz.prog w = .ok (.map (some w.heap.size)) (w.alloc (.map #[] 0)) := by
 simp [Instr.makeMap, run_underlying Tryz.underlying144, asInt, asIntOf, Result.andThen]
set_option maxRecDepth 100000 in
theorem areAttrs_any (l : List HdV) (A : Option Addr) (c : Nat) (hl : l.length ≤ 100000) (hf : ∀ h ∈ l, h.name.length ≤ 1000000) (w : World) (hA : HdsAt w A l) : Calls Tryz.prog 89 #[.slice A l.length c] w fun e w' => e = .returned (.bool (attsOk l)) ∧ Below w.heap.size w w' := by
 have HNM := hid (fun (x : List UInt8) (hx : x.length ≤ 1000000) W => isName_any x hx W)
 have HXM := hid (fun (x : List UInt8) W => xml_any x W)
 have HA := hid hA
 have HFN : Hid (∀ k, k < l.length → (l.getD k zeroH).name.length ≤ 1000000) := fun k hk => hf _ (by rw [List.getD_eq_getElem?_getD, List.getElem?_eq_getElem hk]; exact List.getElem_mem hk)
 have HPR := hid (fun k h => atts_pre (l := l) (k := k) h)
 have HSN := hid (fun k (hk : k < l.length) => atts_snocB (l.take k) (l.getD k zeroH))
 have HTK := hid (take_hd l)
 have HAL : Hid (attsOk (l.take l.length) = attsOk l) := by show _ = _; rw [List.take_length]
 have hmm := run_makeMap_hint
 clear hf hA
 generalize attsOk l = V at HPR HAL ⊢
 generalize hn : l.length = n at hl HFN HSN HAL ⊢
 have HN := hid hn
 clear hn
 have HS0 := hid (SetN.made w)
 go_enter Tryz.func89, Tryz.ntmps89
 go_wp2_with fail
 clear hmm
 go_loopw [13] (fun i wr => ∃ k : Nat, k ≤ n ∧ i = .int .i64 (k : Int) ∧ Hid (attsOk (l.take k) = true) ∧ Hid (SetN wr w.heap.size k ((l.take k).map (·.name))) ∧ Hid (Below w.heap.size w wr)) (fun i _ => n - (intOf i).toNat)
 case atStart => exact ⟨0, Nat.zero_le _, rfl, rfl, HS0.out, (Below.refl _ _).alloc (Nat.le_refl _) _⟩
 case round =>
  obtain ⟨k, hk, rfl, HOK, HST, HBL⟩ := hrel
  by_cases hlt : k < n
  ·have hi : (k : Int) < (n : Int) := by omega
   obtain ⟨q, o, hq, hqs, hcs⟩ := (HA.out.below HBL.out (Nat.le_refl _)) (by rw [HN.out]; omega)
   have hkl : k < l.length := by rw [HN.out]; exact hlt
   obtain ⟨c1, c2⟩ := hcs k hkl
   have hsn := HSN.out k hlt
   rw [← HTK.out k hkl, HOK.out, Bool.true_and] at hsn
   have HFV : Hid ((nameX (l.getD k zeroH).name && X (l.getD k zeroH).value && !((l.take k).map (·.name)).contains (l.getD k zeroH).name) = false → V = false) := fun h => HPR.out (k + 1) (by rw [hsn]; exact h)
   have HFT : Hid ((nameX (l.getD k zeroH).name && X (l.getD k zeroH).value && !((l.take k).map (·.name)).contains (l.getD k zeroH).name) = true → attsOk (l.take (k + 1)) = true) := fun h => by rw [hsn]; exact h
   have HMP : Hid ((l.take (k + 1)).map (·.name) = (l.take k).map (·.name) ++ [(l.getD k zeroH).name]) := by show _ = _; rw [HTK.out k hkl]; simp
   have HN1 := hid (HNM.out _ (HFN.out k hlt))
   have HX1 := hid (HXM.out (l.getD k zeroH).value)
   have HLN := hid (HFN.out k hlt)
   rw [X_err] at HFV HFT
   clear hcs hkl hsn hqs
   subst hq
   generalize (l.getD k zeroH).name = nm at *
   generalize errX (l.getD k zeroH).value = E at HFV HFT HX1
   generalize asS (l.getD k zeroH).value = VV at c2 HX1
   generalize hnm : nameX nm = bn at HN1 HFV HFT
   clear hnm
   generalize hNM : asS nm = NM at c1 HN1
   have HNE : Hid (NM = asS nm) := hNM.symm
   clear hNM
   have hbx : Below wr.heap.size wr (wr.alloc (.cells #[.string NM, .string VV] 56)) := (Below.refl _ _).alloc (Nat.le_refl _) _
   have HBX := hid hbx
   clear hbx
   cases bn
   ·have HV : Hid (V = false) := HFV.out (by simp)
    go_wp2_with fail
    refine Calls.mono (HN1.out _) ?_
    rintro e W ⟨rfl, rfl⟩
    go_wp2_with fail
    go_ret
    exact ⟨by rw [HV.out]; rfl, HBL.out.trans (HBX.out.mono HBL.out.size)⟩
   ·by_cases hE : E = 0
    ·subst hE
     simp only [decide_true, Bool.true_and] at HFV HFT
     have hne : ((0 : Int) != 0) = false := by decide
     generalize hct : ((l.take k).map (·.name)).contains nm = bc at HFV HFT
     have HCT := hid hct
     clear hct
     have row2 := heap_alloc_new wr (.cells #[.string NM, .string VV] 56)
     have HRW := hid row2
     clear row2
     go_wp2_with fail
     refine Calls.mono (HN1.out _) ?_
     rintro e W ⟨rfl, rfl⟩
     go_wp2_with fail
     refine Calls.mono (HX1.out _) ?_
     rintro e W2 ⟨rfl, hb2⟩
     have HB2 := hid (HBX.out.trans (hb2.mono HBX.out.size))
     have d1 : W2.cell? ⟨wr.heap.size, 0, none⟩ = some (.string NM) := cell_of_row _ _ _ _ _ _ (row_keep hb2 HRW.out)
     have d2 : ∀ o, (W2.alloc o).cell? ⟨wr.heap.size, 0, none⟩ = some (.string NM) := fun o => cell_of_row _ _ _ _ _ _ (row_keep ((Below.refl _ _).alloc (Nat.le_refl _) o) (row_keep hb2 HRW.out))
     have HST2 := hid (HST.out.to (R := none) (to_none HB2.out) (by simp))
     have HRW2 := hid (row_keep hb2 HRW.out)
     clear hb2
     cases bc
     ·have HOK2 : Hid (attsOk (l.take (k + 1)) = true) := HFT.out rfl
      go_wp2_with (first
       | (refine wpList_asked rfl _ _ rfl w.heap.size k _ rfl HST2.out NM nm HNE.out rfl HLN.out ?_; rw [HCT.out])
       | (refine wpList_noted rfl _ _ _ rfl w.heap.size k _ rfl (HST2.out.to (R := none) (World.grownBy_alloc W2 _ none) (by simp)) (by omega) NM nm HNE.out rfl rfl HLN.out ?_)
       | fail)
      intro W3 hs3 hg3
      have HST3 := hid hs3
      have HB3 : Hid (Below w.heap.size w W3) := by
       have a1 : Below w.heap.size w W2 := HBL.out.trans (HB2.out.mono HBL.out.size)
       have a2 : Below w.heap.size w (W2.alloc (.cells #[] 145)) := a1.alloc a1.size _
       exact a2.trans ⟨hg3.os, hg3.tape, hg3.output, hg3.size, fun g hg => hg3.block g (Nat.lt_of_lt_of_le hg a2.size) (fun e => by injection e with e; omega)⟩
      clear hs3 hg3
      go_wp2_with fail
      go_roundw
      case rel => exact ⟨k + 1, by omega, by go_num, HOK2.out, by show SetN _ _ _ _; rw [HMP.out, List.map_take]; exact HST3.out, HB3.out⟩
      case measure => simp [intOf]; omega
     ·have HV : Hid (V = false) := HFV.out rfl
      go_wp2_with (first
       | (refine wpList_asked rfl _ _ rfl w.heap.size k _ rfl HST2.out NM nm HNE.out rfl HLN.out ?_; rw [HCT.out])
       | fail)
      go_ret
      refine ⟨by rw [HV.out]; rfl, ?_⟩
      have a1 : Below w.heap.size w W2 := HBL.out.trans (HB2.out.mono HBL.out.size)
      exact a1.alloc a1.size _
    ·have hne : (E != 0) = true := by rw [bne_iff_ne]; exact hE
     have HV : Hid (V = false) := HFV.out (by simp [hE])
     clear hE
     go_wp2_with fail
     refine Calls.mono (HN1.out _) ?_
     rintro e W ⟨rfl, rfl⟩
     go_wp2_with fail
     refine Calls.mono (HX1.out _) ?_
     rintro e W2 ⟨rfl, hb2⟩
     have HB2 := hid (HBL.out.trans ((HBX.out.trans (hb2.mono HBX.out.size)).mono HBL.out.size))
     clear hb2
     go_wp2_with fail
     go_ret
     exact ⟨by rw [HV.out]; rfl, HB2.out⟩
  ·have hi : ¬ (k : Int) < (n : Int) := by omega
   have hkn : k = n := by omega
   have HV : Hid (V = true) := by show _ = _; rw [← HAL.out, ← hkn]; exact HOK.out
   clear hkn
   go_wp2_with fail
   go_ret
   exact ⟨by rw [HV.out]; rfl, HBL.out⟩
theorem adj_all : ∀ (bs : List Bool), (∀ j, j + 1 < bs.length → (bs.getD j false && bs.getD (j + 1) false) = false) → noAdj bs = true
 | [], _ => rfl
 | [_], _ => rfl
 | a :: b :: r, h => by
  have h0 := h 0 (by simp)
  have ih := adj_all (b :: r) (fun j hj => by
   have := h (j + 1) (by simpa using hj)
   simpa using this)
  simp only [List.getD_cons_zero, List.getD_cons_succ] at h0
  rw [noAdj, ih, h0]
  rfl
theorem adj_no : ∀ (bs : List Bool) (j : Nat), j + 1 < bs.length → (bs.getD j false && bs.getD (j + 1) false) = true → noAdj bs = false
 | [], j, h, _ => by simp at h
 | [_], j, h, _ => by simp at h
 | a :: b :: r, 0, _, h => by
  simp only [List.getD_cons_zero, List.getD_cons_succ] at h
  rw [noAdj, h]
  rfl
 | a :: b :: r, j + 1, hj, h => by
  have := adj_no (b :: r) j (by simpa using hj) (by simpa using h)
  rw [noAdj, this, Bool.and_false]
theorem map_getD {d : Nat} (ks : List (Tr d)) (j : Nat) (hj : j < ks.length) : (ks.map fun k => (nmT d k).isEmpty).getD j false = (nmT d (ks.getD j (zeroT d))).isEmpty := by
 rw [List.getD_eq_getElem?_getD, List.getD_eq_getElem?_getD, List.getElem?_map, List.getElem?_eq_getElem hj]
 rfl
set_option maxRecDepth 100000 in
theorem textsMeet_any (P : Nat → Prop) (d : Nat) (ks : List (Tr d)) (A : Option Addr) (c : Nat) (hn : ks.length ≤ 1000000) (w : World) (hA : NdsAt P d w A ks) : Calls Tryz.prog 90 #[.slice A ks.length c] w fun e w' => e = .returned (.bool (!noAdj (ks.map fun k => (nmT d k).isEmpty))) ∧ w' = w := by
 have HA := hid hA
 have HAL := hid (adj_all (ks.map fun k => (nmT d k).isEmpty))
 have HNO := hid (adj_no (ks.map fun k => (nmT d k).isEmpty))
 have HGD := hid (map_getD ks)
 rw [List.length_map] at HAL HNO
 clear hA
 generalize noAdj (ks.map fun k => (nmT d k).isEmpty) = V at HAL HNO ⊢
 generalize (ks.map fun k => (nmT d k).isEmpty) = bs at HAL HNO HGD
 generalize hnl : ks.length = n at hn HAL HNO HGD ⊢
 have HN := hid hnl
 clear hnl
 go_enter Tryz.func90, Tryz.ntmps90
 go_wp2_with fail
 go_loop [3] (fun i => ∃ j : Nat, (j = 0 ∨ j + 1 ≤ n) ∧ i = .int .i64 ((j : Int) + 1) ∧ Hid (∀ x, x < j → (bs.getD x false && bs.getD (x + 1) false) = false)) (fun i => n - (intOf i).toNat)
 case atStart => exact ⟨0, .inl rfl, rfl, fun x hx => by omega⟩
 case round =>
  obtain ⟨j, hj, rfl, HP⟩ := hrel
  by_cases hlt : j + 1 < n
  ·have hi : (j : Int) + 1 < (n : Int) := by omega
   have hj1 : j < ks.length := by have := HN.out; omega
   have hj2 : j + 1 < ks.length := by have := HN.out; omega
   obtain ⟨q, o, a, b, x, e, hq, hql, k1, _, _, _, hnd⟩ := HA.out.at j hj1
   obtain ⟨q', o', a', b', x', e', hq', hql', k1', _, _, _, hnd'⟩ := HA.out.at (j + 1) hj2
   rw [hq] at hq'
   injection hq' with hq'
   injection hq' with e1 e2 e3
   subst e1 e2
   obtain ⟨aA, ac, kA, kc, hcs, _⟩ := hnd.parts
   obtain ⟨aA', ac', kA', kc', hcs', _⟩ := hnd'.parts
   have ha : a = .string (asS (nmT d (ks.getD j (zeroT d)))) := by
    have := congrArg (fun y : Array Value => y.getD 0 undef) hcs
    simpa [ndcs, nmT] using this
   have ha' : a' = .string (asS (nmT d (ks.getD (j + 1) (zeroT d)))) := by
    have := congrArg (fun y : Array Value => y.getD 0 undef) hcs'
    simpa [ndcs, nmT] using this
   rw [ha] at k1
   rw [ha'] at k1'
   have z1 := str_nil9 (nmT d (ks.getD j (zeroT d)))
   have z2 := str_nil9 (nmT d (ks.getD (j + 1) (zeroT d)))
   have g1 := HGD.out j (by omega)
   have g2 := HGD.out (j + 1) (by omega)
   have hno := HNO.out j hlt
   have HP2 : Hid ((bs.getD j false && bs.getD (j + 1) false) = false → ∀ x, x < j + 1 → (bs.getD x false && bs.getD (x + 1) false) = false) := fun h y hy => by
    rcases Nat.lt_succ_iff_lt_or_eq.1 hy with h1 | h1
    ·exact HP.out y h1
    ·rw [h1]; exact h
   rw [g1, g2] at hno HP2
   have HNO2 := hid hno
   clear hnd hnd' hcs hcs' ha ha' hql hql' g1 g2 hno hj1 hj2
   subst hq
   generalize (nmT d (ks.getD j (zeroT d))).isEmpty = b1 at z1 HNO2 HP2
   generalize (nmT d (ks.getD (j + 1) (zeroT d))).isEmpty = b2 at z2 HNO2 HP2
   generalize asS (nmT d (ks.getD j (zeroT d))) = N1 at k1 z1
   generalize asS (nmT d (ks.getD (j + 1) (zeroT d))) = N2 at k1' z2
   cases b1
   ·go_wp2_with fail
    go_round
    case rel => exact ⟨j + 1, .inr (by omega), by go_num, HP2.out rfl⟩
    case measure => simp [intOf]; omega
   ·cases b2
    ·go_wp2_with fail
     go_round
     case rel => exact ⟨j + 1, .inr (by omega), by go_num, HP2.out rfl⟩
     case measure => simp [intOf]; omega
    ·have HV : Hid (V = false) := HNO2.out rfl
     go_wp2_with fail
     go_ret
     exact ⟨by rw [HV.out]; rfl, rfl⟩
  ·have hi : ¬ (j : Int) + 1 < (n : Int) := by omega
   have HV : Hid (V = true) := HAL.out (fun x hx => HP.out x (by omega))
   go_wp2_with fail
   go_ret
   exact ⟨by rw [HV.out]; rfl, rfl⟩
def soundT (d : Nat) (t : Tr d) : Bool := mayTop (lab d t) (kidsT d t).isEmpty (noAdj ((kidsT d t).map fun k => (nmT (d - 1) k).isEmpty))
def TopC (d : Nat) (t : Tr d) : Prop := (lab d t).1.length ≤ 1000000 ∧ (lab d t).2.1.length ≤ 100000 ∧ (∀ h ∈ (lab d t).2.1, h.name.length ≤ 1000000) ∧ (kidsT d t).length ≤ 1000000
set_option maxRecDepth 100000 in
theorem isSound_any (P : Nat → Prop) (d : Nat) (t : Tr d) (hc : TopC d t) (cs : Array Value) (w : World) (hnd : NdAt P d w cs t) : Calls Tryz.prog 53 #[.agg cs] w fun e w' => e = .returned (.bool (soundT d t)) ∧ Below w.heap.size w w' := by
 obtain ⟨aA, ac, kA, kc, rfl, hh, hks, _⟩ := hnd.parts
 obtain ⟨hc1, hc2, hc3, hc4⟩ := hc
 unfold ndcs
 have HN := hid (isName_any (lab d t).1 hc1)
 have HX := hid (xml_any (lab d t).2.2)
 have HAR := hid (fun W hW => areAttrs_any (lab d t).2.1 aA ac hc2 hc3 W hW)
 have HTM := hid (fun W hW => textsMeet_any P (d - 1) (kidsT d t) kA kc hc4 W hW)
 have HHA := hid hh.1
 have HKS := hid hks
 have HV : Hid (soundT d t = if (lab d t).1.isEmpty then !(lab d t).2.2.isEmpty && (lab d t).2.1.isEmpty && (kidsT d t).isEmpty && decide (errX (lab d t).2.2 = 0) else nameX (lab d t).1 && (lab d t).2.2.isEmpty && attsOk (lab d t).2.1 && noAdj ((kidsT d t).map fun k => (nmT (d - 1) k).isEmpty)) := by
  show _ = _
  rw [← X_err]
  rfl
 have z1 : (asS (lab d t).1).toList.isEmpty = (lab d t).1.isEmpty := by rw [emp8]; cases (lab d t).1 <;> simp
 have z2 : (asS (lab d t).2.2).toList.isEmpty = (lab d t).2.2.isEmpty := by rw [emp8]; cases (lab d t).2.2 <;> simp
 have z3 : (((lab d t).2.1.length : Int) == 0) = (lab d t).2.1.isEmpty := by cases (lab d t).2.1 <;> simp <;> omega
 have z4 : (((kidsT d t).length : Int) == 0) = (kidsT d t).isEmpty := by cases (kidsT d t) <;> simp <;> omega
 clear hnd hc1 hc2 hc3 hc4 hh hks
 generalize soundT d t = V at HV ⊢
 generalize nameX (lab d t).1 = bn at HN HV
 generalize errX (lab d t).2.2 = E at HX HV
 generalize attsOk (lab d t).2.1 = ba at HAR HV
 generalize noAdj ((kidsT d t).map fun k => (nmT (d - 1) k).isEmpty) = bk at HTM HV
 generalize (lab d t).1.isEmpty = b1 at z1 HV
 generalize (lab d t).2.2.isEmpty = b2 at z2 HV
 generalize (lab d t).2.1.isEmpty = b3 at z3 HV
 generalize (kidsT d t).isEmpty = b4 at z4 HV
 generalize asS (lab d t).1 = NM at HN z1 ⊢
 generalize asS (lab d t).2.2 = TX at HX z2 ⊢
 generalize hal : (lab d t).2.1 = al at *
 generalize hksv : kidsT d t = ks at *
 generalize hna : al.length = na at HAR z3 ⊢
 generalize hnk : ks.length = nk at HTM z4 ⊢
 clear hal hksv hna hnk
 have HROW := hid (heap_alloc_new w (.cells #[.string NM, .slice aA na ac, .string TX, .slice kA nk kc] 25))
 have HB0 := hid ((Below.refl w.heap.size w).alloc (Nat.le_refl _) (.cells #[.string NM, .slice aA na ac, .string TX, .slice kA nk kc] 25))
 cases b1
 ·simp only [Bool.false_eq_true, if_false] at HV
  cases bn
  ·go_enter Tryz.func53, Tryz.ntmps53
   go_wp2_with fail
   refine Calls.mono (HN.out _) ?_
   rintro e W ⟨rfl, rfl⟩
   go_wp2_with fail
   go_ret
   exact ⟨by rw [HV.out]; rfl, HB0.out⟩
  ·cases b2
   ·go_enter Tryz.func53, Tryz.ntmps53
    go_wp2_with fail
    refine Calls.mono (HN.out _) ?_
    rintro e W ⟨rfl, rfl⟩
    go_wp2_with fail
    go_ret
    exact ⟨by rw [HV.out]; rfl, HB0.out⟩
   ·have HAC := hid (HAR.out _ (HHA.out.below HB0.out (Nat.le_refl _)))
    cases ba
    ·go_enter Tryz.func53, Tryz.ntmps53
     go_wp2_with fail
     refine Calls.mono (HN.out _) ?_
     rintro e W ⟨rfl, rfl⟩
     go_wp2_with fail
     refine Calls.mono HAC.out ?_
     rintro e W1 ⟨rfl, hb⟩
     have HB1 := hid (HB0.out.trans (hb.mono HB0.out.size))
     clear hb
     go_wp2_with fail
     go_ret
     exact ⟨by rw [HV.out]; rfl, HB1.out⟩
    ·cases bk
     all_goals
      go_enter Tryz.func53, Tryz.ntmps53
      go_wp2_with fail
      refine Calls.mono (HN.out _) ?_
      rintro e W ⟨rfl, rfl⟩
      go_wp2_with fail
      refine Calls.mono HAC.out ?_
      rintro e W1 ⟨rfl, hb⟩
      have HB1 := hid (HB0.out.trans (hb.mono HB0.out.size))
      have c3 : W1.cell? ⟨w.heap.size, 3, none⟩ = some (.slice kA nk kc) := cell_of_row _ _ _ _ _ _ (row_keep hb HROW.out)
      clear hb
      go_wp2_with fail
      refine Calls.mono (HTM.out _ (HKS.out.below HB1.out (Nat.le_refl _))) ?_
      rintro e W ⟨rfl, rfl⟩
      go_wp2_with fail
      go_ret
      exact ⟨by rw [HV.out]; rfl, HB1.out⟩
 ·simp only [if_true] at HV
  cases b2
  ·cases b3
   ·go_enter Tryz.func53, Tryz.ntmps53
    go_wp2_with fail
    go_ret
    exact ⟨by rw [HV.out]; rfl, HB0.out⟩
   ·cases b4
    ·go_enter Tryz.func53, Tryz.ntmps53
     go_wp2_with fail
     go_ret
     exact ⟨by rw [HV.out]; rfl, HB0.out⟩
    ·have zE : (E == 0) = decide (E = 0) := by
      by_cases h : E = 0
      ·simp [h]
      ·simp [h]
     cases hd : decide (E = 0) <;> rw [hd] at zE HV
     all_goals
      clear hd
      go_enter Tryz.func53, Tryz.ntmps53
      go_wp2_with fail
      refine Calls.mono (HX.out _) ?_
      rintro e W1 ⟨rfl, hb⟩
      have HB1 := hid (HB0.out.trans (hb.mono HB0.out.size))
      clear hb
      go_wp2_with fail
      go_ret
      exact ⟨by rw [HV.out]; rfl, HB1.out⟩
  ·go_enter Tryz.func53, Tryz.ntmps53
   go_wp2_with fail
   go_ret
   exact ⟨by rw [HV.out]; rfl, HB0.out⟩
end Go.Proofs.YtgoiafndapemjaaGreatDoor
