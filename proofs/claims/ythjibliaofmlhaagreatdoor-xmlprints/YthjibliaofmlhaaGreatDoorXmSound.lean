
/- Whether a node may be, whatever its kids are by themselves: what isSound of package xml does. -/
import Derived.Test.YthjibliaofmlhaaGreatDoorXmChk
namespace Go.Proofs.YthjibliaofmlhaaGreatDoor
set_option linter.unusedVariables false
set_option linter.unusedSimpArgs false
open Go.RowKit Go.BigFrame

/-- A node may be, whatever its kids are by themselves. -/
def soundT (d : Nat) (t : Tr d) : Bool := mayTop (lab d t) (kidsT d t).isEmpty (noAdj ((kidsT d t).map fun k => (nmT (d - 1) k).isEmpty))
/-- A node's names and lists are not too long. -/
def TopC (d : Nat) (t : Tr d) : Prop := (lab d t).1.length ≤ 1000000 ∧ (lab d t).2.1.length ≤ 100000 ∧ (∀ h ∈ (lab d t).2.1, h.name.length ≤ 1000000) ∧ (kidsT d t).length ≤ 1000000
set_option maxHeartbeats 1000000 in
set_option maxRecDepth 100000 in
theorem isSound_any (P : Nat → Prop) (d : Nat) (t : Tr d) (hc : TopC d t) (cs : Array Value) (w : World) (hnd : NdAt P d w cs t) : Calls Tryz.prog 31 #[.agg cs] w fun e w' => e = .returned (.bool (soundT d t)) ∧ Below w.heap.size w w' := by
  obtain ⟨aA, ac, kA, kc, rfl, hh, hks, _⟩ := hnd.parts
  obtain ⟨hc1, hc2, hc3, hc4⟩ := hc
  unfold ndcs
  have HN := hid (isName_any (lab d t).1 hc1)
  have HX := hid (xml_any (lab d t).2.2)
  have HAR := hid (fun W hW => areAttrs_any (lab d t).2.1 aA ac hc2 hc3 W hW)
  have HTM := hid (fun W hW => textsMeet_any P (d - 1) (kidsT d t) kA kc hc4 W hW)
  have HHA := hid hh.1
  have HKS := hid hks
  have HV : Hid (soundT d t = if (lab d t).1.isEmpty then !(lab d t).2.2.isEmpty && (lab d t).2.1.isEmpty && (kidsT d t).isEmpty && decide (errX (lab d t).2.2 = 0) else nameX (lab d t).1 && (lab d t).2.2.isEmpty && attsOk (lab d t).2.1 && noAdj ((kidsT d t).map fun k => (nmT (d - 1) k).isEmpty)) := by
    show _ = _
    rw [← X_err]
    rfl
  have z1 : (asS (lab d t).1).toList.isEmpty = (lab d t).1.isEmpty := by rw [emp8]; cases (lab d t).1 <;> simp
  have z2 : (asS (lab d t).2.2).toList.isEmpty = (lab d t).2.2.isEmpty := by rw [emp8]; cases (lab d t).2.2 <;> simp
  have z3 : (((lab d t).2.1.length : Int) == 0) = (lab d t).2.1.isEmpty := by cases (lab d t).2.1 <;> simp <;> omega
  have z4 : (((kidsT d t).length : Int) == 0) = (kidsT d t).isEmpty := by cases (kidsT d t) <;> simp <;> omega
  clear hnd hc1 hc2 hc3 hc4 hh hks
  generalize soundT d t = V at HV ⊢
  generalize nameX (lab d t).1 = bn at HN HV
  generalize errX (lab d t).2.2 = E at HX HV
  generalize attsOk (lab d t).2.1 = ba at HAR HV
  generalize noAdj ((kidsT d t).map fun k => (nmT (d - 1) k).isEmpty) = bk at HTM HV
  generalize (lab d t).1.isEmpty = b1 at z1 HV
  generalize (lab d t).2.2.isEmpty = b2 at z2 HV
  generalize (lab d t).2.1.isEmpty = b3 at z3 HV
  generalize (kidsT d t).isEmpty = b4 at z4 HV
  generalize asS (lab d t).1 = NM at HN z1 ⊢
  generalize asS (lab d t).2.2 = TX at HX z2 ⊢
  generalize hal : (lab d t).2.1 = al at *
  generalize hksv : kidsT d t = ks at *
  generalize hna : al.length = na at HAR z3 ⊢
  generalize hnk : ks.length = nk at HTM z4 ⊢
  clear hal hksv hna hnk
  have HROW := hid (heap_alloc_new w (.cells #[.string NM, .slice aA na ac, .string TX, .slice kA nk kc] 25))
  have HB0 := hid ((Below.refl w.heap.size w).alloc (Nat.le_refl _) (.cells #[.string NM, .slice aA na ac, .string TX, .slice kA nk kc] 25))
  cases b1
  · simp only [Bool.false_eq_true, if_false] at HV
    cases bn
    · go_enter Tryz.func31, Tryz.ntmps31
      go_wp2_with fail
      refine Calls.mono (HN.out _) ?_
      rintro e W ⟨rfl, rfl⟩
      go_wp2_with fail
      go_ret
      exact ⟨by rw [HV.out]; rfl, HB0.out⟩
    · cases b2
      · go_enter Tryz.func31, Tryz.ntmps31
        go_wp2_with fail
        refine Calls.mono (HN.out _) ?_
        rintro e W ⟨rfl, rfl⟩
        go_wp2_with fail
        go_ret
        exact ⟨by rw [HV.out]; rfl, HB0.out⟩
      · have HAC := hid (HAR.out _ (HHA.out.below HB0.out (Nat.le_refl _)))
        cases ba
        · go_enter Tryz.func31, Tryz.ntmps31
          go_wp2_with fail
          refine Calls.mono (HN.out _) ?_
          rintro e W ⟨rfl, rfl⟩
          go_wp2_with fail
          refine Calls.mono HAC.out ?_
          rintro e W1 ⟨rfl, hb⟩
          have HB1 := hid (HB0.out.trans (hb.mono HB0.out.size))
          clear hb
          go_wp2_with fail
          go_ret
          exact ⟨by rw [HV.out]; rfl, HB1.out⟩
        · cases bk
          all_goals
            go_enter Tryz.func31, Tryz.ntmps31
            go_wp2_with fail
            refine Calls.mono (HN.out _) ?_
            rintro e W ⟨rfl, rfl⟩
            go_wp2_with fail
            refine Calls.mono HAC.out ?_
            rintro e W1 ⟨rfl, hb⟩
            have HB1 := hid (HB0.out.trans (hb.mono HB0.out.size))
            have c3 : W1.cell? ⟨w.heap.size, 3, none⟩ = some (.slice kA nk kc) := cell_of_row _ _ _ _ _ _ (row_keep hb HROW.out)
            clear hb
            go_wp2_with fail
            refine Calls.mono (HTM.out _ (HKS.out.below HB1.out (Nat.le_refl _))) ?_
            rintro e W ⟨rfl, rfl⟩
            go_wp2_with fail
            go_ret
            exact ⟨by rw [HV.out]; rfl, HB1.out⟩
  · simp only [if_true] at HV
    cases b2
    · cases b3
      · go_enter Tryz.func31, Tryz.ntmps31
        go_wp2_with fail
        go_ret
        exact ⟨by rw [HV.out]; rfl, HB0.out⟩
      · cases b4
        · go_enter Tryz.func31, Tryz.ntmps31
          go_wp2_with fail
          go_ret
          exact ⟨by rw [HV.out]; rfl, HB0.out⟩
        · have zE : (E == 0) = decide (E = 0) := by
            by_cases h : E = 0
            · simp [h]
            · simp [h]
          cases hd : decide (E = 0) <;> rw [hd] at zE HV
          all_goals
            clear hd
            go_enter Tryz.func31, Tryz.ntmps31
            go_wp2_with fail
            refine Calls.mono (HX.out _) ?_
            rintro e W1 ⟨rfl, hb⟩
            have HB1 := hid (HB0.out.trans (hb.mono HB0.out.size))
            clear hb
            go_wp2_with fail
            go_ret
            exact ⟨by rw [HV.out]; rfl, HB1.out⟩
    · go_enter Tryz.func31, Tryz.ntmps31
      go_wp2_with fail
      go_ret
      exact ⟨by rw [HV.out]; rfl, HB0.out⟩
end Go.Proofs.YthjibliaofmlhaaGreatDoor
