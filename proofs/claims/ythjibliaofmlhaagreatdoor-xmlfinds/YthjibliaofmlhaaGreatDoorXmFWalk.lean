
/- What the law of texts, kids and attributes says: it returns true. -/
import Derived.Test.YthjibliaofmlhaaGreatDoorXmFind
import Derived.Deep.DeepCutAuto
import Derived.Deep.RegionHeld3
namespace Go.Proofs.YthjibliaofmlhaaGreatDoor
set_option linter.unusedVariables false
set_option linter.unusedSimpArgs false
open Go.RowKit Go.BigFrame
attribute [local go_sem ↓] loadN_eq

theorem fnd_mem {nm : List UInt8} {d : Nat} {l : List (Tr d)} {t : Tr d} (h : t ∈ fndT nm d l) : t ∈ l := (List.mem_filter.1 h).1
set_option maxHeartbeats 4000000 in
set_option maxRecDepth 100000 in
theorem finds13_walk (d : Nat) (t0 : Tr d) (cs : Array Value) (nm : List UInt8) (w : World) (hs : StrB 140737488355328 d t0) (hnd0 : NdAt (fun q => q < w.heap.size) d w cs t0) (hT : TabX w) : Calls Tryz.prog 5 #[.agg cs, .string (asS nm)] w fun e w' => e = .returned (.bool true) ∧ Below w.heap.size w w' := by
  have HAW := hid (fun W h1 h2 => awake13_any attributes_ok W h1 h2)
  have HT := hid hT.1
  have H8 := hid hT.2
  clear hT
  have HTB : Hid (∀ W, Below w.heap.size w W → 8 ≤ W.heap.size ∧ TabE W) := fun W hb => ⟨Nat.le_trans H8.out hb.size, HT.out.below hb⟩
  have HLI : Hid (∀ W, Below w.heap.size w W → Calls Tryz.prog 8 #[.agg cs] W fun e w' => e = .returned (.bool (decide (0 < szT d t0 0 12000))) ∧ Below W.heap.size W w') := fun W hb => light_any _ d t0 hs cs W (hnd0.below hb (Nat.le_refl _))
  obtain ⟨A, B, C, D, hcs, o1, o2, o3, o4⟩ := nd_four hnd0
  subst hcs
  have HROW := hid (heap_alloc_new w (.cells #[A, B, C, D] 25))
  have HB0 := hid ((Below.refl w.heap.size w).alloc (Nat.le_refl _) (.cells #[A, B, C, D] 25))
  obtain ⟨W0, hW0⟩ : ∃ W0, w.alloc (.cells #[A, B, C, D] 25) = W0 := ⟨_, rfl⟩
  rw [hW0] at HB0 HROW
  have hld0 := loadN_run HROW.out rfl
  have HLI0 := hid (HLI.out W0 HB0.out)
  clear HLI o1 o2 o3 o4
  by_cases hlt : 0 < szT d t0 0 12000
  · rw [decide_eq_true hlt] at HLI0
    obtain ⟨hz1, _, _, hhg⟩ := sz_pos d t0 0 12000 hlt
    have hnd := cut_nd 40 d _ t0 hhg hnd0
    have hwt := cut_wt 40 d t0 hhg
    have hz2 : szT d t0 0 12000 = 12000 - (wtT d t0 : Int) := hz1
    have hw : wtT 40 (cutT 40 d t0) ≤ 12000 := by omega
    clear hz1 hz2 hwt hhg hlt hnd0 hs
    generalize cutT 40 d t0 = t at hnd hw
    have m1 : (listT 40 1 t).length ≤ 100000 := Nat.le_trans (list_wt 12000 40 1 t hw).2 (by omega)
    have m4 := (wt_fit 40 t 1000000 (by omega)).1
    have HND : Hid (∀ W, Below w.heap.size w W → NdAt (fun q => q < W.heap.size) 40 W #[A, B, C, D] t) := fun W hb => (hnd.below hb (Nat.le_refl _)).mono fun q _ hl => hl
    have HFI : Hid (∀ W, Below w.heap.size w W → Calls Tryz.prog 22 #[.agg #[A, B, C, D], .string (asS nm)] W fun e w' => ∃ v, e = .returned v ∧ (Below W.heap.size W w' ∧ ∃ A' c, v = .slice A' (fndT nm 39 (kidsT 40 t)).length c ∧ NdsAt (fun _ => True) 39 w' A' (fndT nm 39 (kidsT 40 t)))) := fun W hb => (find_any nm 40 t hw _ W (HND.out W hb)).mono fun e w' hh => by
      obtain ⟨h1, A', c, rfl, h2⟩ := hh
      exact ⟨_, rfl, h1, A', c, rfl, h2⟩
    have hk := (wt_parts hw).2.2.2.2.1
    have HRF : Hid (∀ W, Below w.heap.size w W → Calls Tryz.prog 23 #[.agg #[A, B, C, D], .string (asS nm)] W fun e w' => ∃ v, e = .returned v ∧ (Below W.heap.size W w' ∧ ∃ A' c, v = .slice A' (fndT nm 39 (kidsT 40 t)).length c ∧ NdsAt (fun _ => True) 39 w' A' (fndT nm 39 (kidsT 40 t)))) := fun W hb => (refFind_any nm 40 t (by omega) _ W (HND.out W hb)).mono fun e w' hh => by
      obtain ⟨h1, A', c, rfl, h2⟩ := hh
      exact ⟨_, rfl, h1, A', c, rfl, h2⟩
    have HSA : Hid (∀ (A' B' : Option Addr) c c' W, NdsAt (fun _ => True) 39 W A' (fndT nm 39 (kidsT 40 t)) → NdsAt (fun _ => True) 39 W B' (fndT nm 39 (kidsT 40 t)) → Calls Tryz.prog 21 #[.slice A' (fndT nm 39 (kidsT 40 t)).length c, .slice B' (fndT nm 39 (kidsT 40 t)).length c'] W fun e w' => ∃ v, e = .returned v ∧ (v = .bool true ∧ Below W.heap.size W w')) := fun A' B' c c' W h1 h2 => (sames_of 39 _ (Nat.le_trans (fnd_len nm 39 (kidsT 40 t)) (by omega)) (fun k hk' => same_all 39 k (m4.2.2 k (fnd_mem hk'))) _ _ A' B' c c' W h1 h2).mono fun e w' hh => ⟨_, hh.1, rfl, hh.2⟩
    have HTX : Hid (∀ W, Below w.heap.size w W → Calls Tryz.prog 19 #[.agg #[A, B, C, D]] W fun e w' => ∃ v, e = .returned v ∧ (v = .string (asS (textT 40 t)) ∧ Below W.heap.size W w')) := fun W hb => (text_any 40 t _ W (HND.out W hb) m1 (Nat.le_trans (text_wt 40 t) (by omega))).mono fun e w' hh => ⟨_, hh.1, rfl, hh.2⟩
    have HRX : Hid (∀ W, Below w.heap.size w W → Calls Tryz.prog 20 #[.agg #[A, B, C, D]] W fun e w' => ∃ v, e = .returned v ∧ (v = .string (asS (textT 40 t)) ∧ Below W.heap.size W w')) := fun W hb => (refTextT_any _ 40 t hw _ W (HND.out W hb)).mono fun e w' hh => ⟨_, hh.1, rfl, hh.2⟩
    obtain ⟨aA, ac, kA, kc, hpe, hats, _, _⟩ := hnd.parts
    unfold ndcs at hpe
    have hA1 : A = .string (asS (lab 40 t).1) := congrArg (fun z : Array Value => z.getD 0 undef) hpe
    have hA2 : B = .slice aA (lab 40 t).2.1.length ac := congrArg (fun z : Array Value => z.getD 1 undef) hpe
    have hA3 : C = .string (asS (lab 40 t).2.2) := congrArg (fun z : Array Value => z.getD 2 undef) hpe
    have hA4 : D = .slice kA (kidsT 40 t).length kc := congrArg (fun z : Array Value => z.getD 3 undef) hpe
    have hal := (wt_parts hw).2.2.1
    have hav := (wt_parts hw).2.2.2.1
    have HAT : Hid (∀ W, Below w.heap.size w W → Calls Tryz.prog 17 #[.agg #[A, B, C, D], .string (asS nm)] W fun e w' => e = .returned (.tuple #[.string (asS ((attrV nm (lab 40 t).2.1).getD [])), .bool (attrV nm (lab 40 t).2.1).isSome]) ∧ Below W.heap.size W w') := fun W hb => by
      rw [hA1, hA2, hA3, hA4]
      exact attr_any nm (lab 40 t).2.1 _ rfl (by omega) aA ac _ _ kA _ kc W (hats.1.below hb (Nat.le_refl _)) (fun j hj => by have := (hav _ (getD_mem9 (z := zeroH) hj)).2; omega)
    have HRA : Hid (∀ W, Below w.heap.size w W → Calls Tryz.prog 18 #[.agg #[A, B, C, D], .string (asS nm)] W fun e w' => e = .returned (.tuple #[.string (asS ((attrV nm (lab 40 t).2.1).getD [])), .bool (attrV nm (lab 40 t).2.1).isSome]) ∧ Below W.heap.size W w') := fun W hb => by
      rw [hA1, hA2, hA3, hA4]
      exact refAttr_any nm (lab 40 t).2.1 _ rfl (by omega) aA ac _ _ kA _ kc W (hats.1.below hb (Nat.le_refl _))
    clear hA1 hA2 hA3 hA4 hpe hats hal hav hk m1 m4 hw hnd
    generalize asS ((attrV nm (lab 40 t).2.1).getD []) = AV at HAT HRA
    generalize (attrV nm (lab 40 t).2.1).isSome = AS at HAT HRA
    generalize asS (textT 40 t) = TX at HTX HRX
    generalize fndT nm 39 (kidsT 40 t) = fsl at HFI HRF HSA
    generalize asS nm = NS at HAT HRA HFI HRF ⊢
    go_enter Tryz.func5, Tryz.ntmps5
    go_wp2_with fail
    refine Calls.mono HLI0.out ?_
    rintro e W1 ⟨rfl, hb1⟩
    have HB1 := hid (HB0.out.trans (hb1.mono HB0.out.size))
    have HR1 := hid (row_keep hb1 HROW.out)
    have hld1 := loadN_run HR1.out rfl
    have HC1 := hid (HAT.out W1 HB1.out)
    clear hb1 hld0 HAT HB0 HROW
    go_wp2_with fail
    refine Calls.mono HC1.out ?_
    rintro e W2 ⟨rfl, hb2⟩
    have HB2 := hid (HB1.out.trans (hb2.mono HB1.out.size))
    have HR2 := hid (row_keep hb2 HR1.out)
    have hld2 := loadN_run HR2.out rfl
    have HC2 := hid (HRA.out W2 HB2.out)
    clear hb2 hld1 HRA HB1 HR1 HC1
    go_wp2_with fail
    refine Calls.mono HC2.out ?_
    rintro e V ⟨rfl, hb3⟩
    have HB3 := hid (HB2.out.trans (hb3.mono HB2.out.size))
    have HR3 := hid (row_keep hb3 HR2.out)
    clear hb3 hld2 HB2 HR2 HC2
    have HLD : Hid (∀ W, Below V.heap.size V W → (loadI 25 (.pointer (some ⟨w.heap.size, 0, none⟩))).run Tryz.prog W = .ok (.agg #[A, B, C, D]) W) := fun W hW => loadN_run (row_keep hW HR3.out) rfl
    have HBW : Hid (∀ W, Below V.heap.size V W → Below w.heap.size w W) := fun W hW => HB3.out.trans (hW.mono HB3.out.size)
    have E19 := hid (enters_of Tryz.func19 (by kernel_rfl) rfl)
    have E20 := hid (enters_of Tryz.func20 (by kernel_rfl) rfl)
    have E22 := hid (enters_of Tryz.func22 (by kernel_rfl) rfl)
    have E23 := hid (enters_of Tryz.func23 (by kernel_rfl) rfl)
    have E21 := hid (enters_of Tryz.func21 (by kernel_rfl) rfl)
    have E9 := hid (enters_of Tryz.func9 (by kernel_rfl) rfl)
    have HAX : Hid (∀ W, Below w.heap.size w W → Calls Tryz.prog 9 #[] W fun e w' => ∃ v, e = .returned v ∧ (v = .bool true ∧ Below W.heap.size W w')) := fun W hb => (HAW.out W (HTB.out W hb).1 (HTB.out W hb).2).mono fun e w' hh => ⟨_, hh.1, rfl, hh.2⟩
    have HBx : Hid (Below V.heap.size V V) := Below.refl _ _
    have HSK : Hid (∀ W, Below V.heap.size V W → (loadI 25 (.pointer (some ⟨w.heap.size, 0, none⟩))).run Tryz.prog W = .ok (.agg #[A, B, C, D]) W ∧ Hid (Below V.heap.size V W)) := fun W h => ⟨HLD.out W h, h⟩
    go_wp2_with fail
    go_cut [4] (fun v wx => v = .bool true ∧ Hid (Below V.heap.size V wx))
    case first =>
      go_region_held3 (fun W => (loadI 25 (.pointer (some ⟨w.heap.size, 0, none⟩))).run Tryz.prog W = .ok (.agg #[A, B, C, D]) W ∧ Hid (Below V.heap.size V W))
        (first
          | exact HSK.out _ (below_drewN _ _ 1)
          | (go_split_ands
             refine HSK.out _ ?_
             first
               | exact Below.trans (Hid.out (by assumption)) (hbF.mono (Below.size (Hid.out (by assumption))))
               | exact Below.trans (Hid.out (by assumption)) (hbE.mono (Below.size (Hid.out (by assumption))))
               | exact Below.trans (Hid.out (by assumption)) (hbD.mono (Below.size (Hid.out (by assumption))))
               | exact Below.trans (Hid.out (by assumption)) (hbC.mono (Below.size (Hid.out (by assumption))))
               | exact Below.trans (Hid.out (by assumption)) (hbB.mono (Below.size (Hid.out (by assumption))))
               | exact Below.trans (Hid.out (by assumption)) (hbA.mono (Below.size (Hid.out (by assumption))))))
        ((first
          | (go_at_call 19; go_split_ands; refine (HTX.out _ (HBW.out _ (Hid.out (by assumption)))).mono ?_; rintro e wA ⟨v1, rfl, rfl, hbA⟩)
          | (go_at_call 20; go_split_ands; refine (HRX.out _ (HBW.out _ (Hid.out (by assumption)))).mono ?_; rintro e wB ⟨v2, rfl, rfl, hbB⟩)
          | (go_at_call 22; go_split_ands; refine (HFI.out _ (HBW.out _ (Hid.out (by assumption)))).mono ?_; rintro e wC ⟨v3, rfl, hbC, A3, c3, rfl, hn3⟩)
          | (go_at_call 23; go_split_ands; refine (HRF.out _ (HBW.out _ (Hid.out (by assumption)))).mono ?_; rintro e wD ⟨v4, rfl, hbD, A4, c4, rfl, hn4⟩)
          | (go_at_call 21; refine (HSA.out A3 A4 c3 c4 _ (hn3.below hbD (Nat.le_refl _)) hn4).mono ?_; rintro e wE ⟨v5, rfl, rfl, hbE⟩)
          | (go_at_call 9; go_split_ands; refine (HAX.out _ (HBW.out _ (Hid.out (by assumption)))).mono ?_; rintro e wF ⟨v6, rfl, rfl, hbF⟩)
          | fail))
      all_goals
        go_split_ands
        go_wp2_with fail
        go_meet
        exact ⟨rfl, by assumption⟩
    case rest =>
      obtain ⟨rfl, HBx⟩ := hcut
      go_wp2_with fail
      go_ret
      exact ⟨rfl, HBW.out _ HBx.out⟩
  · rw [decide_eq_false hlt] at HLI0
    clear hlt hnd0 hs
    go_enter Tryz.func5, Tryz.ntmps5
    go_wp2_with fail
    refine Calls.mono HLI0.out ?_
    rintro e W1 ⟨rfl, hb1⟩
    have HB1 := hid (HB0.out.trans (hb1.mono HB0.out.size))
    go_wp2_with fail
    refine Calls.mono (HAW.out _ (HTB.out _ HB1.out).1 (HTB.out _ HB1.out).2) ?_
    rintro e W2 ⟨rfl, hb2⟩
    go_wp2_with fail
    go_ret
    exact ⟨rfl, HB1.out.trans (hb2.mono HB1.out.size)⟩
theorem finds13_law (d : Nat) (t0 : Tr d) (cs : Array Value) (s : ByteArray) (w : World) (hs : StrB 140737488355328 d t0) (hnd0 : NdAt (fun q => q < w.heap.size) d w cs t0) (hT : TabX w) : Calls Tryz.prog 5 #[.agg cs, .string s] w fun e w' => e = .returned (.bool true) ∧ Below w.heap.size w w' := by
  have := finds13_walk d t0 cs s.data.toList w hs hnd0 hT
  rw [asS_of] at this
  exact this
end Go.Proofs.YthjibliaofmlhaaGreatDoor
