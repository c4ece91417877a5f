
/- The law JsonSame, whole. -/
import Derived.Test.YtlgkbdebpnbndaaGreatDoorJsSamW
import Derived.Test.YtlgkbdebpnbndaaGreatDoorJsArg
import Derived.Test.YtlgkbdebpnbndaaGreatDoorJsAw
import Derived.Test.YtlgkbdebpnbndaaGreatDoorJsOpen
import Derived.BigQuiet
import Derived.Deep.RegionHeld3
namespace Go.Proofs.YtlgkbdebpnbndaaGreatDoor
set_option linter.unusedVariables false
set_option linter.unusedSimpArgs false
open Go.RowKit Go.BigFrame

/-- A light value has forty levels at most, and weighs little. -/
theorem light_cut {P : Nat → Prop} {D : Nat} {t : VJ D} {w : World} {cs : Array Value} (h : VAt P D w cs t) (hl : 0 < szJ D t 0 8000) : ∃ t2 : VJ 40, VAt P 40 w cs t2 ∧ wtJ 40 t2 ≤ 8000 := by
  obtain ⟨h1, h2, h3, h4⟩ := sz_pos D t 0 8000 hl
  refine ⟨cutJ 40 D t, cut_nd 40 D cs t h4 h, ?_⟩
  rw [cut_wt 40 D t h4]
  have h5 : szJ D t 0 8000 = 8000 - wtJ D t := h1
  omega
attribute [local go_sem ↓] loadV_eq
set_option maxHeartbeats 16000000 in
set_option maxRecDepth 100000 in
theorem sameJ_law (D : Nat) (a : VJ D) (ca : Array Value) (E : Nat) (b : VJ E) (cb : Array Value) (w : World) (hsa : StrJ 140737488355328 D a) (hA : VAt (fun q => q < w.heap.size) D w ca a) (hsb : StrJ 140737488355328 E b) (hB : VAt (fun q => q < w.heap.size) E w cb b) (hT : TabX w) :
    Calls Tryz.prog 6 #[.agg ca, .agg cb] w fun e w' => e = .returned (.bool true) ∧ Below w.heap.size w w' := by
  have hca := hA.size
  have hcb := hB.size
  have HLA := hid (fun W (hb : Below w.heap.size w W) => light_any _ D a hsa ca W (hA.below hb (Nat.le_refl _)))
  have HLB := hid (fun W (hb : Below w.heap.size w W) => light_any _ E b hsb cb W (hB.below hb (Nat.le_refl _)))
  have HAW := hid (fun W (hb : Below w.heap.size w W) => awake16 W (Nat.lt_of_lt_of_le hT.2 hb.size) (hT.1.below hb))
  have HLIA : Hid (0 < szJ D a 0 8000 → ∃ t2 : VJ 40, VAt (fun q => q < w.heap.size) 40 w ca t2 ∧ wtJ 40 t2 ≤ 8000) := fun h => light_cut hA h
  have HLIB : Hid (0 < szJ E b 0 8000 → ∃ t2 : VJ 40, VAt (fun q => q < w.heap.size) 40 w cb t2 ∧ wtJ 40 t2 ≤ 8000) := fun h => light_cut hB h
  obtain ⟨a0, a1, a2, a3, a4, hcs⟩ : ∃ a b c e f, ca = #[a, b, c, e, f] := by
    obtain ⟨kA, kc, nA, nc, e1, _⟩ := hA.parts
    exact ⟨_, _, _, _, _, e1⟩
  obtain ⟨b0, b1, b2, b3, b4, hcs2⟩ : ∃ a b c e f, cb = #[a, b, c, e, f] := by
    obtain ⟨kA, kc, nA, nc, e1, _⟩ := hB.parts
    exact ⟨_, _, _, _, _, e1⟩
  subst hcs hcs2
  clear hA hB hsa hsb hT hca hcb
  generalize szJ D a 0 8000 = LA at HLA HLIA
  generalize szJ E b 0 8000 = LB at HLB HLIB
  obtain ⟨W0, hW0⟩ : ∃ W0, (w.alloc (.cells #[a0, a1, a2, a3, a4] 25)).alloc (.cells #[b0, b1, b2, b3, b4] 25) = W0 := ⟨_, rfl⟩
  have HB0 : Hid (Below w.heap.size w W0) := by rw [← hW0]; exact ((Below.refl _ _).alloc (Nat.le_refl _) _).alloc (by simp) _
  have HXA : Hid (W0.heap[w.heap.size]? = some (.cells #[a0, a1, a2, a3, a4] 25 (0, 0))) := by show _ = _; rw [← hW0]; exact heap_first w _ _
  have HXB : Hid (W0.heap[w.heap.size + 1]? = some (.cells #[b0, b1, b2, b3, b4] 25 (0, 0))) := by show _ = _; rw [← hW0]; exact heap_second w _ _
  have hldA := loadV_run HXA.out rfl
  have HL1 := hid (HLA.out W0 HB0.out)
  clear HLA
  by_cases hla : 0 < LA
  · rw [decide_eq_true hla] at HL1
    by_cases hlb : 0 < LB
    · rw [decide_eq_true hlb] at HLB
      obtain ⟨ta, hta, hwa⟩ := HLIA.out hla
      obtain ⟨tb, htb, hwb⟩ := HLIB.out hlb
      have HS1 := hid (fun W (hb : Below w.heap.size w W) => sameK_any 40 ta tb (by omega) (by omega) _ _ _ _ W (hta.below hb (Nat.le_refl _)) (htb.below hb (Nat.le_refl _)))
      have HS2 := hid (fun W (hb : Below w.heap.size w W) => sameR_any 40 ta tb (by omega) (by omega) _ _ _ _ W (hta.below hb (Nat.le_refl _)) (htb.below hb (Nat.le_refl _)))
      have HS3 := hid (fun W (hb : Below w.heap.size w W) => sameK_any 40 ta ta (by omega) (by omega) _ _ _ _ W (hta.below hb (Nat.le_refl _)) (hta.below hb (Nat.le_refl _)))
      rw [eqJ_yes (rfl : ta = ta)] at HS3
      clear HLIA HLIB hla hlb hta htb hwa hwb
      generalize eqJ 40 ta tb = Q at HS1 HS2
      go_enter Tryz.func6, Tryz.ntmps6
      go_wp2_with fail
      refine HL1.out.mono ?_
      rintro e W1 ⟨rfl, hb⟩
      have HB1 := hid (HB0.out.trans (hb.mono HB0.out.size))
      have HXB1 := hid (row_keep hb HXB.out)
      have HXA1 := hid (row_keep hb HXA.out)
      have hldB := loadV_run HXB1.out rfl
      have HL2 := hid (HLB.out W1 HB1.out)
      clear hb hldA HL1 HLB HB0 HXA HXB
      go_wp2_with fail
      refine HL2.out.mono ?_
      rintro e W2 ⟨rfl, hb⟩
      have HB2 := hid (HB1.out.trans (hb.mono HB1.out.size))
      have HXB2 := hid (row_keep hb HXB1.out)
      have HXA2 := hid (row_keep hb HXA1.out)
      clear hb hldB HL2 HB1 HXA1 HXB1
      have HSA : Hid (∀ W, Below W2.heap.size W2 W → Calls Tryz.prog 16 #[.agg #[a0, a1, a2, a3, a4], .agg #[b0, b1, b2, b3, b4]] W fun x w' => x = .returned (.bool Q) ∧ Below W.heap.size W w') := fun W hb => HS1.out W (HB2.out.trans (hb.mono HB2.out.size))
      have HSB : Hid (∀ W, Below W2.heap.size W2 W → Calls Tryz.prog 15 #[.agg #[a0, a1, a2, a3, a4], .agg #[b0, b1, b2, b3, b4]] W fun x w' => x = .returned (.bool Q) ∧ Below W.heap.size W w') := fun W hb => HS2.out W (HB2.out.trans (hb.mono HB2.out.size))
      have HSC : Hid (∀ W, Below W2.heap.size W2 W → Calls Tryz.prog 16 #[.agg #[a0, a1, a2, a3, a4], .agg #[a0, a1, a2, a3, a4]] W fun x w' => x = .returned (.bool true) ∧ Below W.heap.size W w') := fun W hb => HS3.out W (HB2.out.trans (hb.mono HB2.out.size))
      have HSD : Hid (∀ W, Below W2.heap.size W2 W → Calls Tryz.prog 9 #[] W fun x w' => x = .returned (.bool true) ∧ Below W.heap.size W w') := fun W hb => HAW.out W (HB2.out.trans (hb.mono HB2.out.size))
      have HSK : Hid (∀ W, Below W2.heap.size W2 W → (loadI 25 (.pointer (some ⟨w.heap.size, 0, none⟩))).run Tryz.prog W = .ok (.agg #[a0, a1, a2, a3, a4]) W ∧ (loadI 25 (.pointer (some ⟨w.heap.size + 1, 0, none⟩))).run Tryz.prog W = .ok (.agg #[b0, b1, b2, b3, b4]) W ∧ Hid (Below W2.heap.size W2 W)) := fun W hb => ⟨loadV_run (row_keep hb HXA2.out) rfl, loadV_run (row_keep hb HXB2.out) rfl, hb⟩
      have hqq : (Q == Q) = true := by simp
      clear HS1 HS2 HS3 HAW
      go_wp2_with fail
      go_region_held3 (fun W => (loadI 25 (.pointer (some ⟨w.heap.size, 0, none⟩))).run Tryz.prog W = .ok (.agg #[a0, a1, a2, a3, a4]) W ∧ (loadI 25 (.pointer (some ⟨w.heap.size + 1, 0, none⟩))).run Tryz.prog W = .ok (.agg #[b0, b1, b2, b3, b4]) W ∧ Hid (Below W2.heap.size W2 W))
        (first
          | exact HSK.out _ (below_drewN _ _ 1)
          | (go_split_ands
             refine HSK.out _ ?_
             first
               | exact Below.trans (Hid.out (by assumption)) (hbD.mono (Below.size (Hid.out (by assumption))))
               | exact Below.trans (Hid.out (by assumption)) (hbC.mono (Below.size (Hid.out (by assumption))))
               | exact Below.trans (Hid.out (by assumption)) (hbB.mono (Below.size (Hid.out (by assumption))))
               | exact Below.trans (Hid.out (by assumption)) (hbA.mono (Below.size (Hid.out (by assumption))))))
        ((first
          | (go_at_call 15; go_split_ands; refine (HSB.out _ (Hid.out (by assumption))).mono ?_; rintro e wB ⟨rfl, hbB⟩)
          | (go_at_call 9; go_split_ands; refine (HSD.out _ (Hid.out (by assumption))).mono ?_; rintro e wD ⟨rfl, hbD⟩)
          | (go_at_call_of 16 (Value.agg #[b0, b1, b2, b3, b4]); go_split_ands; refine (HSA.out _ (Hid.out (by assumption))).mono ?_; rintro e wA ⟨rfl, hbA⟩)
          | (go_at_call 16; go_split_ands; refine (HSC.out _ (Hid.out (by assumption))).mono ?_; rintro e wC ⟨rfl, hbC⟩)
          | fail))
      all_goals
        go_wp2_with fail
        go_split_ands
        go_ret
        exact ⟨rfl, HB2.out.trans (Below.mono (Hid.out (by assumption)) HB2.out.size)⟩
    · rw [decide_eq_false hlb] at HLB
      go_enter Tryz.func6, Tryz.ntmps6
      go_wp2_with fail
      refine HL1.out.mono ?_
      rintro e W1 ⟨rfl, hb⟩
      have HB1 := hid (HB0.out.trans (hb.mono HB0.out.size))
      have HXB1 := hid (row_keep hb HXB.out)
      have hldB := loadV_run HXB1.out rfl
      have HL2 := hid (HLB.out W1 HB1.out)
      clear hb hldA HL1 HLB HB0 HXA HXB
      go_wp2_with fail
      refine HL2.out.mono ?_
      rintro e W2 ⟨rfl, hb⟩
      have HB2 := hid (HB1.out.trans (hb.mono HB1.out.size))
      have HA2 := hid (HAW.out W2 HB2.out)
      clear hb hldB HL2 HB1
      go_wp2_with fail
      refine HA2.out.mono ?_
      rintro e W3 ⟨rfl, hb⟩
      have HB3 := hid (HB2.out.trans (hb.mono HB2.out.size))
      clear hb
      go_wp2_with fail
      go_ret
      exact ⟨rfl, HB3.out⟩
  · rw [decide_eq_false hla] at HL1
    go_enter Tryz.func6, Tryz.ntmps6
    go_wp2_with fail
    refine HL1.out.mono ?_
    rintro e W1 ⟨rfl, hb⟩
    have HB1 := hid (HB0.out.trans (hb.mono HB0.out.size))
    have HA2 := hid (HAW.out W1 HB1.out)
    clear hb hldA HL1
    go_wp2_with fail
    refine HA2.out.mono ?_
    rintro e W3 ⟨rfl, hb⟩
    have HB3 := hid (HB1.out.trans (hb.mono HB1.out.size))
    clear hb
    go_wp2_with fail
    go_ret
    exact ⟨rfl, HB3.out⟩
end Go.Proofs.YtlgkbdebpnbndaaGreatDoor
