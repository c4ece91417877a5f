import Derived.Test.YtgoiafndapemjaaGreatDoorQ30
import Derived.Test.YtgoiafndapemjaaGreatDoorQ31
import Derived.Test.YtgoiafndapemjaaGreatDoorQ10
import Derived.Deep.Cut
set_option linter.unusedVariables false
set_option linter.unusedSimpArgs false
set_option maxHeartbeats 1000000
namespace Go.Proofs.YtgoiafndapemjaaGreatDoor
open Go.RowKit Go.BigFrame
attribute [local go_sem ↓] loadE_eq
theorem plI_yes (l : List EnV) (k : List UInt8) (h : hasK EnV.id l k = true) : plI l k = (plK EnV.id l k : Int) := by unfold plI; rw [if_pos h]
theorem addU_has (l : List EnV) (e : EnV) (h : hasK EnV.id l e.id = true) : addU EnV.id l e = l := by
 unfold addU; rw [if_neg (fun hc => by rw [h] at hc; cases hc.1)]
theorem addU_full (l : List EnV) (e : EnV) (h : ¬ l.length < 16) : addU EnV.id l e = l := by
 unfold addU; rw [if_neg (fun hc => h hc.2)]
theorem addU_add (l : List EnV) (e : EnV) (h : hasK EnV.id l e.id = false) (h2 : l.length < 16) : addU EnV.id l e = l ++ [e] := by
 unfold addU; rw [if_pos ⟨h, h2⟩]
theorem ents_ld {w : World} {q o : Nat} {l : List EnV} (h : EntsAt w (some ⟨q, o, none⟩) l) (j : Nat) (hj : j < l.length) : (loadI 40 (.pointer (some ⟨q, o + j * 6, none⟩))).run Tryz.prog w = .ok (.agg (ecs (l.getD j zeroE))) w := by
 obtain ⟨q', o', h1, _, h3⟩ := h.load j hj
 cases h1
 exact h3
theorem ents_some {w : World} {A : Option Addr} {l : List EnV} (h : EntsAt w A l) (h0 : 0 < l.length) : ∃ q o, A = some ⟨q, o, none⟩ := by
 obtain ⟨q, o, h1, _⟩ := h h0
 exact ⟨q, o, h1⟩
theorem ecs_six (e : EnV) : ∃ S1 S2 S3 S4 T1 D1, ecs e = #[.string S1, .string S2, .string S3, .string S4, .int .i64 T1, .bool D1] ∧ S1 = asS e.id := ⟨_, _, _, _, _, _, rfl, rfl⟩
set_option maxHeartbeats 4000000 in
set_option maxRecDepth 100000 in
theorem refMerge_any (old fresh : List EnV) (n1 n2 : Nat) (hn1 : old.length = n1) (hn2 : fresh.length = n2) (hl1 : n1 ≤ 100000) (hl2 : n2 ≤ 100000) (A1 A2 : Option Addr) (c1 c2 : Nat) (w : World) (hA1 : EntsAt w A1 old) (hA2 : EntsAt w A2 fresh) :
  Calls Tryz.prog 23 #[.slice A1 n1 c1, .slice A2 n2 c2] w fun e w' => ∃ v, e = .returned v ∧ OwnE w' w.heap.size v (mergeU EnV.id old fresh) ∧ Below w.heap.size w w' := by
 have HA1 := hid hA1
 have HA2 := hid hA2
 have HN1 := hid hn1
 have HN2 := hid hn2
 have HP1 : Hid (∀ W k s, s = asS k → Below w.heap.size w W → Calls Tryz.prog 13 #[.slice A1 n1 c1, .string s] W fun e w' => e = .returned (.int .i64 (plI old k)) ∧ w' = W) := fun W k s hs hb => place_any old n1 hn1 (by omega) A1 c1 k s hs W (hA1.below hb (Nat.le_refl _))
 have HP2 : Hid (∀ W k s, s = asS k → Below w.heap.size w W → Calls Tryz.prog 13 #[.slice A2 n2 c2, .string s] W fun e w' => e = .returned (.int .i64 (plI fresh k)) ∧ w' = W) := fun W k s hs hb => place_any fresh n2 hn2 (by omega) A2 c2 k s hs W (hA2.below hb (Nat.le_refl _))
 have HFR := hid (fun k => outM_fresh EnV.id old fresh k zeroE)
 have HOL := hid (fun k => outM_old EnV.id old fresh k zeroE)
 have HALL := hid (outM_all EnV.id old fresh)
 have HLM := hid (outM_len EnV.id old fresh)
 have HZ : Hid (outM EnV.id old fresh 0 = []) := outM_zero EnV.id old fresh
 have HOZ := hid (OwnE.zero w w.heap.size (Nat.le_refl _))
 have HBZ := hid ((Below.refl w.heap.size w).alloc (Nat.le_refl _) (.cells #[] 40))
 clear hA1 hA2 hn1 hn2
 go_enter Tryz.func23, Tryz.ntmps23
 go_wp2_with fail
 go_loopw [5, 6] (fun v i wr => ∃ k : Nat, k ≤ n2 + n1 ∧ i = .int .i64 (k : Int) ∧ Hid (OwnE wr w.heap.size v (outM EnV.id old fresh k)) ∧ Hid (Below w.heap.size w wr)) (fun v i wr => n2 + n1 - (intOf i).toNat)
 case atStart => exact ⟨0, Nat.zero_le _, rfl, (by show OwnE _ _ _ _; rw [HZ.out]; exact HOZ.out), HBZ.out⟩
 case round =>
  obtain ⟨k, hk, rfl, HO, HB⟩ := hrel
  obtain ⟨A', c', hsh⟩ := HO.out.shape
  have HLE := hid (HLM.out k)
  have HPL : Hid (∀ (W : World) (A : Option Addr) (x : List UInt8) (s : ByteArray), s = asS x → OwnE W w.heap.size (.slice A' (outM EnV.id old fresh k).length c') (outM EnV.id old fresh k) → Calls Tryz.prog 13 #[.slice A' (outM EnV.id old fresh k).length c', .string s] W fun e w' => e = .returned (.int .i64 (plI (outM EnV.id old fresh k) x)) ∧ w' = W) := fun W A x s hs h => by
   obtain ⟨A1', c1', h1, h2⟩ := h.ents
   cases h1
   exact place_any _ _ rfl (by have := HLE.out; omega) _ _ x s hs W h2
  rw [hsh] at HO ⊢
  by_cases hlt : k < n2 + n1
  ·have hi : (k : Int) < (n2 : Int) + (n1 : Int) := by omega
   obtain ⟨V, hV⟩ : ∃ V, wr.alloc (.cells #[.string ⟨#[]⟩, .string ⟨#[]⟩, .string ⟨#[]⟩, .string ⟨#[]⟩, .int .i64 0, .bool false] 40) = V := ⟨_, rfl⟩
   have hrow : V.heap[wr.heap.size]? = some (.cells #[.string ⟨#[]⟩, .string ⟨#[]⟩, .string ⟨#[]⟩, .string ⟨#[]⟩, .int .i64 0, .bool false] 40 (0, 0)) := by rw [← hV]; exact heap_alloc_new wr _
   have hbV : Below wr.heap.size wr V := by rw [← hV]; exact (Below.refl _ _).alloc (Nat.le_refl _) _
   by_cases hf : k < n2
   ·have hfi : (k : Int) < (n2 : Int) := by omega
    have hkl : k < fresh.length := by have := HN2.out; omega
    have HST := hid (HFR.out k hkl)
    obtain ⟨q, o, rfl⟩ := ents_some HA2.out (by omega)
    have HLD := hid (fun W (hb : Below w.heap.size w W) => ents_ld (HA2.out.below hb (Nat.le_refl _)) k hkl)
    generalize hfk : outM EnV.id old fresh k = fk at HO HST HLE HPL
    clear hfk hkl
    generalize fresh.getD k zeroE = e at HST HLD
    obtain ⟨S1, S2, S3, S4, T1, D1, hec, hs1⟩ := ecs_six e
    rw [hec] at HLD
    have HEC := hid hec
    have HS1 := hid hs1
    clear hec hs1
    go_wp2_with (first
     | (refine wpList_store_abs rfl 40 (.tmp 7) (.tmp 19) rfl wr.heap.size 0 #[.string ⟨#[]⟩, .string ⟨#[]⟩, .string ⟨#[]⟩, .string ⟨#[]⟩, .int .i64 0, .bool false] rfl rfl 40 _ hrow (Nat.le_refl 6) infoE (ecs_any _ _ _ _ _ _) ?_; intro V1 hO1 hW1; rw [over_whole #[.string ⟨#[]⟩, .string ⟨#[]⟩, .string ⟨#[]⟩, .string ⟨#[]⟩, .int .i64 0, .bool false] #[.string ⟨#[]⟩, .string ⟨#[]⟩, .string ⟨#[]⟩, .string ⟨#[]⟩, .int .i64 0, .bool false] rfl] at hW1; (have HB1 := hid (hbV.trans (hO1.below (Nat.le_refl _)))); (have hld := HLD.out V1 (HB.out.trans (HB1.out.mono HB.out.size))); clear hO1 hrow hbV hV)
     | (refine wpList_store_abs rfl 40 (.tmp 7) (.tmp 27) rfl wr.heap.size 0 #[.string S1, .string S2, .string S3, .string S4, .int .i64 T1, .bool D1] rfl rfl 40 _ hW1 (Nat.le_refl 6) infoE (ecs_any _ _ _ _ _ _) ?_; intro V2 hO2 hW2; rw [over_whole #[.string ⟨#[]⟩, .string ⟨#[]⟩, .string ⟨#[]⟩, .string ⟨#[]⟩, .int .i64 0, .bool false] #[.string S1, .string S2, .string S3, .string S4, .int .i64 T1, .bool D1] rfl] at hW2; (have HB2 := hid (HB1.out.trans (hO2.below (Nat.le_refl _)))); (have c0 : V2.cell? ⟨wr.heap.size, 0, none⟩ = some (.string S1) := cell_of_row _ _ _ _ _ _ hW2); (have hldV := loadE_run hW2 rfl); clear hO2 hW1 hld)
     | fail)
    refine (HP1.out V2 e.id S1 HS1.out (HB.out.trans (HB2.out.mono HB.out.size))).mono ?_
    rintro e7 W7 ⟨rfl, rfl⟩
    cases ho : hasK EnV.id old e.id with
    | true =>
     rw [if_pos ho] at HST
     rw [plI_yes old _ ho]
     have hp1 : (0 : Int) ≤ ((plK EnV.id old e.id : Nat) : Int) := by omega
     generalize plK EnV.id old e.id = p1 at hp1 ⊢
     have HOV := hid (HO.out.below HB2.out)
     go_wp2_with fail
     go_roundw
     case rel => exact ⟨k + 1, by omega, by go_num, (by show OwnE _ _ _ _; rw [HST.out]; exact HOV.out), HB.out.trans (HB2.out.mono HB.out.size)⟩
     case measure => simp [intOf]; omega
    | false =>
     rw [if_neg (by rw [ho]; simp)] at HST
     have HAD := HST
     rw [plI_no old _ ho]
     have HOV := hid (HO.out.below HB2.out)
     have HBV := hid (HB.out.trans (HB2.out.mono HB.out.size))
     have HPO := hid (HPL.out W7 A' e.id S1 HS1.out HOV.out)
     generalize hm : fk.length = m at HPO HLE HOV ⊢
     cases hh : hasK EnV.id fk e.id with
     | true =>
      have HR := hid (HAD.out.trans (addU_has fk e hh))
      rw [plI_yes fk _ hh] at HPO
      have hp0 : ¬ ((plK EnV.id fk e.id : Nat) : Int) < 0 := by omega
      generalize plK EnV.id fk e.id = p0 at HPO hp0
      go_wp2_with fail
      refine HPO.out.mono ?_
      rintro e8 W8 ⟨rfl, rfl⟩
      go_wp2_with fail
      go_roundw
      case rel => exact ⟨k + 1, by omega, by go_num, (by show OwnE _ _ _ _; rw [HR.out]; exact HOV.out), HBV.out⟩
      case measure => simp [intOf]; omega
     | false =>
      rw [plI_no fk _ hh] at HPO
      by_cases hm2 : m < 16
      ·have HR := hid (HAD.out.trans (addU_add fk e hh (by omega)))
       have hm3 : (m : Int) < 16 := by omega
       go_wp2_with fail
       refine HPO.out.mono ?_
       rintro e8 W8 ⟨rfl, rfl⟩
       have HMM := hid hm
       clear hm
       go_wp2_with (first
        | (refine wpList_en rfl _ _ rfl w.heap.size _ _ fk [e] rfl rfl (HOV.out.below ((Below.refl _ _).alloc (Nat.le_refl _) _)) (src_en _ e W8.heap.size 1 (by rw [HEC.out]; exact heap_alloc_new W8 _)) (.inl (by simp)) (by have := HLE.out; rw [HMM.out]; simp; omega) (by have := HBV.out.size; simp; omega) ?_; intro v9 w9 h9 hb9; (have H9 := hid h9); (have HB9 := hid hb9); clear h9 hb9)
        | fail)
       go_roundw
       case rel => exact ⟨k + 1, by omega, by go_num, (by show OwnE _ _ _ _; rw [HR.out]; exact H9.out), (HBV.out.alloc (by have := HBV.out.size; omega) _).trans HB9.out⟩
       case measure => simp [intOf]; omega
      ·have HR := hid (HAD.out.trans (addU_full fk e (by omega)))
       have hm3 : ¬ (m : Int) < 16 := by omega
       go_wp2_with fail
       refine HPO.out.mono ?_
       rintro e8 W8 ⟨rfl, rfl⟩
       go_wp2_with fail
       go_roundw
       case rel => exact ⟨k + 1, by omega, by go_num, (by show OwnE _ _ _ _; rw [HR.out]; exact HOV.out), HBV.out⟩
       case measure => simp [intOf]; omega
   ·have hfi : ¬ (k : Int) < (n2 : Int) := by omega
    obtain ⟨j, hj, hji⟩ : ∃ j, k - n2 = j ∧ (k : Int) - (n2 : Int) = (j : Int) := ⟨k - n2, rfl, by omega⟩
    have hj1 : (j : Int) < (n1 : Int) := by omega
    have hkl : j < old.length := by have := HN1.out; omega
    have HST := hid (HOL.out k (by have := HN2.out; omega))
    rw [HN2.out, hj] at HST
    have HST2 := hid (HST.out hkl)
    clear HST
    obtain ⟨q, o, rfl⟩ := ents_some HA1.out (by omega)
    have HLD := hid (fun W (hb : Below w.heap.size w W) => ents_ld (HA1.out.below hb (Nat.le_refl _)) j hkl)
    generalize hfk : outM EnV.id old fresh k = fk at HO HST2 HLE HPL
    clear hfk hkl
    generalize old.getD j zeroE = e at HST2 HLD
    obtain ⟨S1, S2, S3, S4, T1, D1, hec, hs1⟩ := ecs_six e
    rw [hec] at HLD
    have HEC := hid hec
    have HS1 := hid hs1
    clear hec hs1
    go_wp2_with (first
     | (refine wpList_store_abs rfl 40 (.tmp 7) (.tmp 19) rfl wr.heap.size 0 #[.string ⟨#[]⟩, .string ⟨#[]⟩, .string ⟨#[]⟩, .string ⟨#[]⟩, .int .i64 0, .bool false] rfl rfl 40 _ hrow (Nat.le_refl 6) infoE (ecs_any _ _ _ _ _ _) ?_; intro V1 hO1 hW1; rw [over_whole #[.string ⟨#[]⟩, .string ⟨#[]⟩, .string ⟨#[]⟩, .string ⟨#[]⟩, .int .i64 0, .bool false] #[.string ⟨#[]⟩, .string ⟨#[]⟩, .string ⟨#[]⟩, .string ⟨#[]⟩, .int .i64 0, .bool false] rfl] at hW1; (have HB1 := hid (hbV.trans (hO1.below (Nat.le_refl _)))); (have hld := HLD.out V1 (HB.out.trans (HB1.out.mono HB.out.size))); clear hO1 hrow hbV hV)
     | (refine wpList_store_abs rfl 40 (.tmp 7) (.tmp 39) rfl wr.heap.size 0 #[.string S1, .string S2, .string S3, .string S4, .int .i64 T1, .bool D1] rfl rfl 40 _ hW1 (Nat.le_refl 6) infoE (ecs_any _ _ _ _ _ _) ?_; intro V2 hO2 hW2; rw [over_whole #[.string ⟨#[]⟩, .string ⟨#[]⟩, .string ⟨#[]⟩, .string ⟨#[]⟩, .int .i64 0, .bool false] #[.string S1, .string S2, .string S3, .string S4, .int .i64 T1, .bool D1] rfl] at hW2; (have HB2 := hid (HB1.out.trans (hO2.below (Nat.le_refl _)))); (have c0 : V2.cell? ⟨wr.heap.size, 0, none⟩ = some (.string S1) := cell_of_row _ _ _ _ _ _ hW2); (have hldV := loadE_run hW2 rfl); clear hO2 hW1 hld)
     | fail)
    have HW2 := hid hW2
    refine (HP2.out V2 e.id S1 HS1.out (HB.out.trans (HB2.out.mono HB.out.size))).mono ?_
    rintro e7 W7 ⟨rfl, rfl⟩
    cases ho : hasK EnV.id fresh e.id with
    | false =>
     have HAD := HST2
     rw [repl_no fresh e ho] at HAD
     rw [plI_no fresh _ ho]
     have HOV := hid (HO.out.below HB2.out)
     have HBV := hid (HB.out.trans (HB2.out.mono HB.out.size))
     have HPO := hid (HPL.out W7 A' e.id S1 HS1.out HOV.out)
     generalize hm : fk.length = m at HPO HLE HOV ⊢
     cases hh : hasK EnV.id fk e.id with
     | true =>
      have HR := hid (HAD.out.trans (addU_has fk e hh))
      rw [plI_yes fk _ hh] at HPO
      have hp0 : ¬ ((plK EnV.id fk e.id : Nat) : Int) < 0 := by omega
      generalize plK EnV.id fk e.id = p0 at HPO hp0
      go_wp2_with fail
      refine HPO.out.mono ?_
      rintro e8 W8 ⟨rfl, rfl⟩
      go_wp2_with fail
      go_roundw
      case rel => exact ⟨k + 1, by omega, by go_num, (by show OwnE _ _ _ _; rw [HR.out]; exact HOV.out), HBV.out⟩
      case measure => simp [intOf]; omega
     | false =>
      rw [plI_no fk _ hh] at HPO
      by_cases hm2 : m < 16
      ·have HR := hid (HAD.out.trans (addU_add fk e hh (by omega)))
       have hm3 : (m : Int) < 16 := by omega
       go_wp2_with fail
       refine HPO.out.mono ?_
       rintro e8 W8 ⟨rfl, rfl⟩
       have HMM := hid hm
       clear hm
       go_wp2_with (first
        | (refine wpList_en rfl _ _ rfl w.heap.size _ _ fk [e] rfl rfl (HOV.out.below ((Below.refl _ _).alloc (Nat.le_refl _) _)) (src_en _ e W8.heap.size 1 (by rw [HEC.out]; exact heap_alloc_new W8 _)) (.inl (by simp)) (by have := HLE.out; rw [HMM.out]; simp; omega) (by have := HBV.out.size; simp; omega) ?_; intro v9 w9 h9 hb9; (have H9 := hid h9); (have HB9 := hid hb9); clear h9 hb9)
        | fail)
       go_roundw
       case rel => exact ⟨k + 1, by omega, by go_num, (by show OwnE _ _ _ _; rw [HR.out]; exact H9.out), (HBV.out.alloc (by have := HBV.out.size; omega) _).trans HB9.out⟩
       case measure => simp [intOf]; omega
      ·have HR := hid (HAD.out.trans (addU_full fk e (by omega)))
       have hm3 : ¬ (m : Int) < 16 := by omega
       go_wp2_with fail
       refine HPO.out.mono ?_
       rintro e8 W8 ⟨rfl, rfl⟩
       go_wp2_with fail
       go_roundw
       case rel => exact ⟨k + 1, by omega, by go_num, (by show OwnE _ _ _ _; rw [HR.out]; exact HOV.out), HBV.out⟩
       case measure => simp [intOf]; omega
    | true =>
     have HAD0 := HST2
     rw [repl_yes fresh e ho] at HAD0
     rw [plI_yes fresh _ ho]
     have hpl : plK EnV.id fresh e.id < n2 := by have := (pl_lt EnV.id fresh e.id).2 ho; have := HN2.out; omega
     have hp1 : (0 : Int) ≤ ((plK EnV.id fresh e.id : Nat) : Int) := by omega
     generalize plK EnV.id fresh e.id = p1 at hp1 hpl HAD0 ⊢
     have hpi : (p1 : Int) < (n2 : Int) := by omega
     have hpk : p1 < fresh.length := by have := HN2.out; omega
     obtain ⟨q2, o2, rfl⟩ := ents_some HA2.out (by omega)
     have hldf := ents_ld (HA2.out.below (HB.out.trans (HB2.out.mono HB.out.size)) (Nat.le_refl _)) p1 hpk
     generalize fresh.getD p1 zeroE = f at hldf HAD0
     obtain ⟨R1, R2, R3, R4, U1, G1, hec, hs1⟩ := ecs_six f
     rw [hec] at hldf
     have HECf := hid hec
     have HSf := hid hs1
     have HAD := HAD0
     clear hec hs1
     go_wp2_with (first
      | (refine wpList_store_abs rfl 40 (.tmp 7) (.tmp 49) rfl wr.heap.size 0 #[.string R1, .string R2, .string R3, .string R4, .int .i64 U1, .bool G1] rfl rfl 40 _ HW2.out (Nat.le_refl 6) infoE (ecs_any _ _ _ _ _ _) ?_; intro V3 hO3 hW3; rw [over_whole #[.string S1, .string S2, .string S3, .string S4, .int .i64 T1, .bool D1] #[.string R1, .string R2, .string R3, .string R4, .int .i64 U1, .bool G1] rfl] at hW3; (have HB3 := hid (HB2.out.trans (hO3.below (Nat.le_refl _)))); clear c0 hldV; (have c0 : V3.cell? ⟨wr.heap.size, 0, none⟩ = some (.string R1) := cell_of_row _ _ _ _ _ _ hW3); (have hldV := loadE_run hW3 rfl); clear hO3)
      | fail)
     have HOV := hid (HO.out.below HB3.out)
     have HBV := hid (HB.out.trans (HB3.out.mono HB.out.size))
     have HPO := hid (HPL.out V3 A' f.id R1 HSf.out HOV.out)
     generalize hm : fk.length = m at HPO HLE HOV ⊢
     cases hh : hasK EnV.id fk f.id with
     | true =>
      have HR := hid (HAD.out.trans (addU_has fk f hh))
      rw [plI_yes fk _ hh] at HPO
      have hp0 : ¬ ((plK EnV.id fk f.id : Nat) : Int) < 0 := by omega
      generalize plK EnV.id fk f.id = p0 at HPO hp0
      go_wp2_with fail
      refine HPO.out.mono ?_
      rintro e8 W8 ⟨rfl, rfl⟩
      go_wp2_with fail
      go_roundw
      case rel => exact ⟨k + 1, by omega, by go_num, (by show OwnE _ _ _ _; rw [HR.out]; exact HOV.out), HBV.out⟩
      case measure => simp [intOf]; omega
     | false =>
      rw [plI_no fk _ hh] at HPO
      by_cases hm2 : m < 16
      ·have HR := hid (HAD.out.trans (addU_add fk f hh (by omega)))
       have hm3 : (m : Int) < 16 := by omega
       go_wp2_with fail
       refine HPO.out.mono ?_
       rintro e8 W8 ⟨rfl, rfl⟩
       have HMM := hid hm
       clear hm
       go_wp2_with (first
        | (refine wpList_en rfl _ _ rfl w.heap.size _ _ fk [f] rfl rfl (HOV.out.below ((Below.refl _ _).alloc (Nat.le_refl _) _)) (src_en _ f W8.heap.size 1 (by rw [HECf.out]; exact heap_alloc_new W8 _)) (.inl (by simp)) (by have := HLE.out; rw [HMM.out]; simp; omega) (by have := HBV.out.size; simp; omega) ?_; intro v9 w9 h9 hb9; (have H9 := hid h9); (have HB9 := hid hb9); clear h9 hb9)
        | fail)
       go_roundw
       case rel => exact ⟨k + 1, by omega, by go_num, (by show OwnE _ _ _ _; rw [HR.out]; exact H9.out), (HBV.out.alloc (by have := HBV.out.size; omega) _).trans HB9.out⟩
       case measure => simp [intOf]; omega
      ·have HR := hid (HAD.out.trans (addU_full fk f (by omega)))
       have hm3 : ¬ (m : Int) < 16 := by omega
       go_wp2_with fail
       refine HPO.out.mono ?_
       rintro e8 W8 ⟨rfl, rfl⟩
       go_wp2_with fail
       go_roundw
       case rel => exact ⟨k + 1, by omega, by go_num, (by show OwnE _ _ _ _; rw [HR.out]; exact HOV.out), HBV.out⟩
       case measure => simp [intOf]; omega
  ·have hi : ¬ (k : Int) < (n2 : Int) + (n1 : Int) := by omega
   obtain rfl : k = n2 + n1 := by omega
   have HE := HALL.out
   rw [HN1.out, HN2.out] at HE
   rw [HE] at HO
   go_wp2_with fail
   go_ret
   exact ⟨_, rfl, HO.out, HB.out⟩
end Go.Proofs.YtgoiafndapemjaaGreatDoor
namespace Go.Proofs.YtgoiafndapemjaaGreatDoor
open Go.RowKit
theorem refHex_any (l : List UInt8) (A : Option Addr) (cap q o : Nat) (w : World) (hA : 0 < l.length → A = some ⟨q, o, none⟩) (hqs : q < w.heap.size)
  (hsrc : ∀ j, j < l.length → w.cell? ⟨q, o + j, none⟩ = some (.int .u8 (l.getD j 0).toNat)) (hlen : l.length ≤ 1000000) :
  Calls Tryz.prog 49 #[.slice A l.length cap] w fun e w' => e = .returned (.string ⟨(hexB l).toArray⟩) ∧ Below w.heap.size w w' := by
 have HSRC := hid hsrc
 have HA := hid hA
 obtain ⟨i0, hi, hz0, hz1, hz2⟩ := info_parts info5
 have HI := hid hi
 have HI0 := hid hz0
 have HI1 := hid hz1
 have HI2 := hid hz2
 have HX : Hid (∀ k, l.length ≤ k → hexB (l.take k) = hexB l) := fun k hk => by rw [List.take_of_length_le hk]
 have HXL := hid (hexB_len l)
 generalize hexB l = X at HX HXL ⊢
 clear hsrc hA hi hz0 hz1 hz2
 go_enter Tryz.func49, Tryz.ntmps49
 go_wp2_with fail
 go_loopw [3, 4] (fun v i wr => ∃ (k g c : Nat), k ≤ l.length ∧ i = .int .i64 k ∧ v = .slice (some ⟨g, 0, none⟩) (2 * k) c ∧ Hid (wr.ownsRow w.heap.size 5 1 (.slice (some ⟨g, 0, none⟩) (2 * k) c) (2 * k) (bvs (hexB (l.take k)))) ∧ Hid (Below w.heap.size w wr)) (fun _ i _ => l.length - (intOf i).toNat)
 case atStart => exact ⟨0, w.heap.size, 0, Nat.zero_le _, rfl, rfl, own_new0 w, (Below.refl _ _).alloc (Nat.le_refl _) _⟩
 case round =>
  obtain ⟨k, g, c, hk, rfl, rfl, HO, HB⟩ := hrel
  by_cases hlt : k < l.length
  ·obtain rfl := HA.out (by omega)
   obtain ⟨x, ex⟩ : ∃ x, Hid (x = l.getD k 0) := ⟨_, rfl⟩
   have hx256 := x.toNat_lt
   have cx : wr.cell? ⟨q, o + k, none⟩ = some (.int .u8 x.toNat) := by rw [HB.out.cell (p := ⟨q, o + k, none⟩) hqs, HSRC.out k hlt, ex.out]
   have h15 : (x.toNat : Int).tdiv 16 = (x.toNat : Int) / 16 := Int.tdiv_eq_ediv_of_nonneg (by omega)
   have h16 : (x.toNat : Int).tmod 16 = (x.toNat : Int) % 16 := Int.tmod_eq_emod_of_nonneg (by omega)
   have h17 : IntKind.u8.wrap ((x.toNat : Int) / 16) = (x.toNat : Int) / 16 := by rw [IntKind.wrap_u8]; omega
   have h18 : IntKind.u8.wrap ((x.toNat : Int) % 16) = (x.toNat : Int) % 16 := by rw [IntKind.wrap_u8]; omega
   have hi1 := index_dig ((x.toNat : Int) / 16) (x.toNat / 16) (by omega) (by omega)
   have hi2 := index_dig ((x.toNat : Int) % 16) (x.toNat % 16) (by omega) (by omega)
   go_wp2_with fail
   have HON : Hid (∀ u ∈ [Value.int .u8 (hd (x.toNat / 16)).toNat, .int .u8 (hd (x.toNat % 16)).toNat], u.oneCell' = true) := fun u hu => by
    simp only [List.mem_cons, List.not_mem_nil, or_false] at hu
    rcases hu with rfl | rfl <;> rfl
   have hsz : w.heap.size ≤ wr.heap.size := HB.out.size
   go_region_law ((refine step_append_lies _ (by rfl) _ _ 42 (by rfl) w.heap.size 5 i0 (.int .u8 0) 1 1 Tryz.underlying42 HI.out HI0.out HI1.out HI2.out rfl (by decide) _ (2 * k) (bvs (hexB (l.take k))) (by rfl) (by exact HO.out.alloc _) ⟨wr.heap.size, 0, none⟩ 2 2 [Value.int .u8 (hd (x.toNat / 16)).toNat, .int .u8 (hd (x.toNat % 16)).toNat] (by rfl) rfl (by exact World.news_of_block (heap_alloc_new wr _)) HON.out (by omega) (by unfold maxLen; omega) (by omega) (by simp; omega) (wr.heap.size + 1) (by simp) ?_; intro g2 c2 w2 hown2 hgr2 hat2 hlt2))
   all_goals
    have HO2 := hid hown2
    have hgr3 : (wr.alloc (.cells #[Value.int .u8 (hd (x.toNat / 16)).toNat, .int .u8 (hd (x.toNat % 16)).toNat] 5)).drew.grownBy w2 (some g) := hgr2
    have hB2 : Below w.heap.size w w2 := by
     refine ((HB.out.alloc hsz _).drew).grown hgr3 ?_ ?_
     ·simp; omega
     ·intro k hk
      cases hk
      rcases HO.out.2 with ⟨h0, _⟩ | ⟨g', c', cur, h1, h2, _⟩
      ·cases h0
      ·cases h1; exact h2
    have HB2 := hid hB2
    clear hown2 hgr2 hgr3 hat2 hlt2 hB2
    go_wp2_with fail
    go_roundw
    case rel =>
     refine ⟨k + 1, g2, c2, by omega, by go_num, by rw [Nat.mul_add], ?_, HB2⟩
     show World.ownsRow _ _ _ _ _ _ _
     rw [hexB_snoc l k hlt, ← ex.out, Nat.mul_add]
     have e : bvs (hexB (l.take k) ++ hex2 x) = bvs (hexB (l.take k)) ++ [Value.int .u8 (hd (x.toNat / 16)).toNat, .int .u8 (hd (x.toNat % 16)).toNat] := by simp [bvs, hex2]
     rw [e]
     exact HO2.out
    case measure => simp [intOf]; omega
  ·have ho := HO.out
   rw [HX.out k (by omega)] at ho
   have hback := str_of c (own_cells ho) (2 * k) (by rw [HXL.out]; omega)
   clear ho HO
   go_wp2_with fail
   go_ret
   exact ⟨rfl, HB.out⟩
def sizeB (n : Nat) : List UInt8 := bytesOf (hiW n) ++ bytesOf (loW n)
theorem sizeB_len (n : Nat) : (sizeB n).length = 8 := rfl
def padZ (n : Nat) : Nat := (119 - n % 64) % 64
def padTo (l : List UInt8) (k : Nat) : List UInt8 := l ++ (128 :: zer k)
def pad (l : List UInt8) : List UInt8 := padTo l (padZ l.length) ++ sizeB l.length
theorem padTo_len (l : List UInt8) (k : Nat) : (padTo l k).length = l.length + 1 + k := by
 simp [padTo, zer]; omega
theorem padTo_succ (l : List UInt8) (k : Nat) : padTo l (k + 1) = padTo l k ++ [0] := by
 unfold padTo zer
 rw [List.replicate_succ']
 simp
theorem pad_len (l : List UInt8) : (pad l).length = l.length + 9 + padZ l.length := by
 unfold pad; rw [List.length_append, padTo_len, sizeB_len]; omega
theorem pad_mod (l : List UInt8) : (pad l).length % 64 = 0 := by rw [pad_len]; unfold padZ; omega
theorem set_rest (t : List UInt8) (r : Nat) (hr : t.length = r) (h : r < 64) : (t ++ zer (64 - r)).set r 128 = t ++ (128 :: zer (63 - r)) := by
 rw [List.set_append_right _ _ (by omega), hr, Nat.sub_self]
 obtain ⟨m, hm⟩ : ∃ m, 64 - r = m + 1 := ⟨63 - r, by omega⟩
 rw [hm, show 63 - r = m from by omega]
 rfl
theorem pad_sha (l : List UInt8) (k : Nat) (hk : k = (pad l).length / 64) : digS (stTo (pad l) k) = sha l := by
 subst hk
 have hp : pad l = l ++ ((128 :: zer (padZ l.length)) ++ sizeB l.length) := by simp [pad, padTo]
 have ht := tail_len l
 have hd : (pad l).drop (64 * (l.length / 64)) = tailOf l ++ ((128 :: zer (padZ l.length)) ++ sizeB l.length) := by
  rw [hp, List.drop_append_of_le_length (by omega)]; rfl
 have hs : stTo (pad l) (l.length / 64) = stOf l := by rw [hp, stTo_app l _ _ (by omega)]; rfl
 unfold sha fin
 by_cases h : 56 ≤ l.length % 64
 ·rw [if_pos h]
  have hz : padZ l.length = 119 - l.length % 64 := by unfold padZ; omega
  have hn : (pad l).length / 64 = l.length / 64 + 1 + 1 := by rw [pad_len, hz]; omega
  have e : tailOf l ++ ((128 :: zer (padZ l.length)) ++ sizeB l.length) = (tailOf l ++ (128 :: zer (63 - l.length % 64))) ++ (zer 56 ++ sizeB l.length) := by
   rw [hz, zer_cut (119 - l.length % 64) (63 - l.length % 64) (by omega), show 119 - l.length % 64 - (63 - l.length % 64) = 56 from by omega]
   simp
  have hl : (tailOf l ++ (128 :: zer (63 - l.length % 64))).length = 64 := by simp [zer]; omega
  have b1 : blkS (pad l) (l.length / 64) = tailOf l ++ (128 :: zer (63 - l.length % 64)) := by
   unfold blkS; rw [hd, e, List.take_append_of_le_length (by omega), List.take_of_length_le (by omega)]
  have b2 : blkS (pad l) (l.length / 64 + 1) = zer 56 ++ sizeB l.length := by
   unfold blkS
   rw [Nat.mul_add, ← List.drop_drop, hd, e, show 64 * 1 = (tailOf l ++ (128 :: zer (63 - l.length % 64))).length from hl.symm, List.drop_left]
   exact List.take_of_length_le (by rw [List.length_append, zer_len, sizeB_len]; omega)
  rw [hn, stTo, stTo, hs, b1, b2]
  unfold restOf lastOf
  rw [set_rest (tailOf l) _ ht (by omega), zer_take 64 56 (by omega)]
  rfl
 ·rw [if_neg h]
  have hz : padZ l.length = 55 - l.length % 64 := by unfold padZ; omega
  have hn : (pad l).length / 64 = l.length / 64 + 1 := by rw [pad_len, hz]; omega
  have b1 : blkS (pad l) (l.length / 64) = (tailOf l ++ (128 :: zer (55 - l.length % 64))) ++ sizeB l.length := by
   unfold blkS
   rw [hd, hz, List.take_of_length_le (by simp [zer, sizeB_len]; omega)]
   simp
  rw [hn, stTo, hs, b1]
  unfold restOf lastOf
  rw [set_rest (tailOf l) _ ht (by omega)]
  have e : (tailOf l ++ (128 :: zer (63 - l.length % 64))).take 56 = tailOf l ++ (128 :: zer (55 - l.length % 64)) := by
   rw [zer_cut (63 - l.length % 64) (55 - l.length % 64) (by omega), show tailOf l ++ (128 :: (zer (55 - l.length % 64) ++ zer (63 - l.length % 64 - (55 - l.length % 64)))) = (tailOf l ++ (128 :: zer (55 - l.length % 64))) ++ zer (63 - l.length % 64 - (55 - l.length % 64)) from by simp]
   have hl : (tailOf l ++ (128 :: zer (55 - l.length % 64))).length = 56 := by simp [zer]; omega
   rw [List.take_append_of_le_length (by omega), List.take_of_length_le (by omega)]
  rw [e]
  rfl
theorem sizeB_at (n j : Nat) (hj : j < 8) (hn : n ≤ 1000000) : ((sizeB n).getD j 0).toNat = n * 8 / 2 ^ (8 * (7 - j)) % 256 := by
 have h1 : (hiW n).toNat = n * 8 / 4294967296 := by unfold hiW; rw [u_of _ (by omega)]
 have h2 : (loW n).toNat = n * 8 := by unfold loW; rw [u_of _ (by omega)]
 match j, hj with
 | 0, _ => show (UInt8.ofNat ((hiW n).toNat / 16777216)).toNat = _; rw [h1, UInt8.toNat_ofNat']; simp; omega
 | 1, _ => show (UInt8.ofNat ((hiW n).toNat / 65536)).toNat = _; rw [h1, UInt8.toNat_ofNat']; simp; omega
 | 2, _ => show (UInt8.ofNat ((hiW n).toNat / 256)).toNat = _; rw [h1, UInt8.toNat_ofNat']; simp; omega
 | 3, _ => show (UInt8.ofNat ((hiW n).toNat)).toNat = _; rw [h1, UInt8.toNat_ofNat']; try simp
 | 4, _ => show (UInt8.ofNat ((loW n).toNat / 16777216)).toNat = _; rw [h2, UInt8.toNat_ofNat']; try simp
 | 5, _ => show (UInt8.ofNat ((loW n).toNat / 65536)).toNat = _; rw [h2, UInt8.toNat_ofNat']; try simp
 | 6, _ => show (UInt8.ofNat ((loW n).toNat / 256)).toNat = _; rw [h2, UInt8.toNat_ofNat']; try simp
 | 7, _ => show (UInt8.ofNat ((loW n).toNat)).toNat = _; rw [h2, UInt8.toNat_ofNat']; simp
end Go.Proofs.YtgoiafndapemjaaGreatDoor
