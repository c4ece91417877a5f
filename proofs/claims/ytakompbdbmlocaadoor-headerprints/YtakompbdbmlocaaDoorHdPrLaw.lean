
/- Which headers may be, how they are put together, and that they are read back: the statement's walk. -/
import Derived.Test.YtakompbdbmlocaaDoorHdCLaw
import Derived.Test.YtakompbdbmlocaaDoorHdRPri
import Derived.BigQuiet
namespace Go.Proofs.YtakompbdbmlocaaDoor
set_option linter.unusedVariables false
set_option linter.unusedSimpArgs false
open Go.RowKit Go.BigFrame

theorem eqXX (t : TypeId) (X : ByteArray) : binOp .eql t (.string X) (.string X) = pure (.bool true) := by
  rw [binOp_string_eql]
  simp
attribute [local go_sem ↓] eqXX
/-- An operation that yields one value wherever S holds is taken first; its slot is told. -/
theorem take_dst {P : Program} {md : Region.Mode} {ops : Array Oper} {Q : Exit → Act → World → Prop} {S : World → Prop} {i : Nat} {oi : Oper} {v : Value} {fuel : Nat} {listed : Array Bool} {a : Act} {w : World} (d : Option Tmp) (hi : ops[i]? = some oi) (hd : oi.dst = d)
    (hs : Region.noSelect ops = true) (hf : Region.free md ops listed i = true) (hr : (Region.ready md ops listed).contains i = true)
    (hQ : ∀ c a w, Q (.panic c) (a.put d v) w → Q (.panic c) a w) (hy : YieldsIf P ops S oi v a) (hS : S w)
    (h : wpAnyH P md ops Q S fuel (listed.setIfInBounds i true) (a.put d v) w) : wpAnyH P md ops Q S (fuel + 1) listed a w := by
  subst hd
  exact wpAnyH_take hi hs hf hr hQ hy hS h
set_option maxHeartbeats 8000000 in
set_option maxRecDepth 100000 in
theorem prints9_law (l : List HdV) (A : Option Addr) (c : Nat) (hf : FitH l) (B : Option Addr) (len cap : Nat) (zs : List Int) (w : World) (hA : HdsAt w A l) (hB : IsRow .u8 w B len cap zs) (hT : TabS w) : Calls Tryd.prog 3 #[.slice A l.length c, .slice B len cap] w fun e w' => e = .returned (.bool true) ∧ Below w.heap.size w w' := by
  have HT := hid hT
  have HA := hid hA
  have HAW := hid (fun W hW => awake9 W hW)
  have HLI := hid (light_any l A c hf w hA)
  obtain ⟨more, rfl, hmc, hM⟩ := hB.bytes hT.lt
  have HM := hid hM
  clear hT hA hB hM
  cases hli : lightH l with
  | false =>
    rw [hli] at HLI
    generalize l.length = n at HLI ⊢
    generalize more.length = mn at hmc ⊢
    clear hli hf
    go_enter Tryd.func3, Tryd.ntmps3
    go_wp2_with fail
    refine HLI.out.mono ?_
    rintro e W1 ⟨rfl, hb1⟩
    have HB1 := hid hb1
    clear hb1 HLI
    go_wp2_with fail
    refine (HAW.out _ (HT.out.below HB1.out)).mono ?_
    rintro e W2 ⟨rfl, hb2⟩
    have HB2 := hid (HB1.out.trans (hb2.mono HB1.out.size))
    clear hb2
    go_wp2_with fail
    go_ret
    exact ⟨rfl, HB2.out⟩
  | true =>
    rw [hli] at HLI
    obtain ⟨hl1, hl2⟩ := light_fit l hli
    by_cases hml : 2000 < more.length
    · have hm1 : (2000 : Int) < (more.length : Int) := by omega
      generalize l.length = n at HLI ⊢
      generalize more.length = mn at hm1 hmc ⊢
      clear hli hf hml hl1 hl2
      go_enter Tryd.func3, Tryd.ntmps3
      go_wp2_with fail
      refine HLI.out.mono ?_
      rintro e W1 ⟨rfl, hb1⟩
      have HB1 := hid hb1
      clear hb1 HLI
      go_wp2_with fail
      refine (HAW.out _ (HT.out.below HB1.out)).mono ?_
      rintro e W2 ⟨rfl, hb2⟩
      have HB2 := hid (HB1.out.trans (hb2.mono HB1.out.size))
      clear hb2
      go_wp2_with fail
      go_ret
      exact ⟨rfl, HB2.out⟩
    · have hm1 : ¬ (2000 : Int) < (more.length : Int) := by omega
      have HRC := hid (fun W hW => refCheck_any l A c hl1 hl2 W hW)
      have HCK := hid (fun W hW => check9_any l A c hl1 hl2 W hW)
      by_cases hck : checkH l = 0
      · have HPR := hid (fun W hW => print9_ok l A c hl1 hl2 hck W hW)
        have HRP := hid (fun W hW => refPrint_any l A c hl1 hl2 W hW)
        rw [hck] at HRC HCK
        have hsz2 := size_two l
        have hll : (printH l ++ more).length = sizeH l + more.length := by rw [List.length_append, print_size]
        have HPA : Hid (∀ X cap2 W, sizeH l + more.length ≤ cap2 → TabS W → BytesAt W (some X) (printH l ++ more) → Calls Tryd.prog 12 #[.slice (some X) (sizeH l + more.length) cap2] W fun e w' => ∃ v, e = .returned (.tuple #[v, .int .i64 (sizeH l : Nat), .int .i64 0]) ∧ HdsV w' v l ∧ Below W.heap.size W w') := fun X cap2 W h1 h2 h3 => by
          have := parse9_any (printH l ++ more) X cap2 (by omega) (by omega) W h2 h3
          rw [print_parse l hck more, hll, print_size] at this
          exact this
        have HSM : Hid (∀ X d W, HdsAt W X l → HdsAt W A l → Calls Tryd.prog 14 #[.slice X l.length d, .slice A l.length c] W fun e w' => e = .returned (.bool true) ∧ Below W.heap.size W w') := fun X d W h1 h2 => by
          have := same_any l l X A d c (by omega) W h1 h2
          rw [same_refl] at this
          exact this
        have HSRM : Hid (∀ W, Below w.heap.size w W → Src Tryd.prog 1 23 (.slice B more.length cap) more.length (bvs more) W) := fun W hb => src_bytes (HM.out.below hb (Nat.le_refl _)) cap (fun _ => opt_any B)
        generalize printH l = PR at HPR HRP HPA
        generalize sizeH l = sz at HPR HRP HPA hl2 hsz2
        generalize hnl : l.length = n at HLI HRC HCK HPR HRP HSM ⊢
        have HNL := hid hnl
        clear hnl
        generalize more.length = mn at hm1 hmc HPA HSRM ⊢
        have hmn : mn ≤ 2000 := by omega
        clear hli hf hml hck hll hl1
        go_enter Tryd.func3, Tryd.ntmps3
        go_wp2_with fail
        refine HLI.out.mono ?_
        rintro e W1 ⟨rfl, hb1⟩
        have HB1 := hid hb1
        clear hb1 HLI
        go_wp2_with fail
        refine (HPR.out _ (HA.out.below HB1.out (Nat.le_refl _))).mono ?_
        rintro e W2 ⟨g, cap1, rfl, hown, hb2⟩
        have HB2 := hid (HB1.out.trans (hb2.mono HB1.out.size))
        have HO2 := hid hown
        clear hb2 hown
        go_wp2_with fail
        refine (HRC.out _ (HA.out.below HB2.out (Nat.le_refl _))).mono ?_
        rintro e W3 ⟨rfl, hb3⟩
        have HB3 := hid (HB2.out.trans (hb3.mono HB2.out.size))
        have HO3 := hid (HO2.out.below hb3 (Nat.le_refl _))
        clear hb3 HO2
        go_wp2_with fail
        refine (HCK.out _ (HA.out.below HB3.out (Nat.le_refl _))).mono ?_
        rintro e W4 ⟨rfl, hb4⟩
        have HB4 := hid (HB3.out.trans (hb4.mono HB3.out.size))
        have HO4 := hid (HO3.out.below hb4 (Nat.le_refl _))
        clear hb4 HO3
        have HO5 := hid (HO4.out.alloc (.cells #[] 5))
        have HB5 := hid (alloc_below HB4.out HB4.out.size (.cells #[] 5))
        have HZ5 := hid (Own.zero W4 w.heap.size HB4.out.size)
        go_wp2_with (first
          | (refine wpList_own rfl _ _ 23 rfl w.heap.size W4.heap.size 0 0 sz [] PR _ rfl rfl HZ5.out HO5.out.src (by omega) HB5.out.size ?_)
          | fail)
        intro g6 cap6 W6 hown6 hg6 hor6
        have HB6 := hid (HZ5.out.grown HB5.out HB5.out.size hg6)
        have HO6 := hid hown6
        have HP6 := hid (HO5.out.other hg6 (by have := HO4.out.lt; omega))
        have HNE : Hid (g ≠ g6) := by
          show _ ≠ _
          have h1 := HO4.out.lt
          rcases hor6 with h2 | h2
          · omega
          · rw [h2]; simp; omega
        clear hown6 hg6 hor6
        have HSR6 := hid (HSRM.out _ HB6.out)
        go_wp2_with (first
          | (refine wpList_own rfl _ _ 23 rfl w.heap.size g6 _ cap6 mn _ more _ rfl rfl HO6.out HSR6.out (by omega) HB6.out.size ?_)
          | fail)
        intro g7 cap7 W7 hown7 hg7 hor7
        have HB7 := hid (HO6.out.grown HB6.out HB6.out.size hg7)
        have HP7 := hid (HP6.out.other hg7 HNE.out)
        have HO7 : Hid (Own W7 w.heap.size g7 (sz + mn) cap7 (PR ++ more)) := by
          refine hid ?_
          have := hown7
          simpa using this
        clear hown7 hg7 hor7
        go_wp2_with fail
        refine (HPA.out ⟨g7, 0, none⟩ cap7 _ HO7.out.le (HT.out.below HB7.out) HO7.out.bytes).mono ?_
        rintro e W8 ⟨v, rfl, hv, hb8⟩
        have HB8 := hid (HB7.out.trans (hb8.mono HB7.out.size))
        have HP8 := hid (HP7.out.below hb8 (Nat.le_refl _))
        obtain ⟨A8, c8, hv8, hat8⟩ := hv
        rw [HNL.out] at hv8
        subst hv8
        have HAT8 := hid hat8
        clear hb8 hat8
        have HLEN : Hid (PR.length = sz) := HP8.out.len
        have HBYT := hid HP8.out.bytes
        have s1 : (convert 23 9 (.slice (some ⟨g, 0, none⟩) sz cap1)).run Tryd.prog W8.drew = .ok (.string ⟨PR.toArray⟩) W8.drew := str_row (HBYT.out.below (below_drewN W8.heap.size W8 1) (Nat.le_refl _)) HLEN.out
        have HRPB : Hid (∀ W, Below W8.heap.size W8 W → Calls Tryd.prog 13 #[.slice A n c] W fun e w' => (∃ g2 c2, e = .returned (.slice (some ⟨g2, 0, none⟩) sz c2) ∧ (convert 23 9 (.slice (some ⟨g2, 0, none⟩) sz c2)).run Tryd.prog w' = .ok (.string ⟨PR.toArray⟩) w' ∧ (convert 23 9 (.slice (some ⟨g, 0, none⟩) sz cap1)).run Tryd.prog w' = .ok (.string ⟨PR.toArray⟩) w') ∧ Below W8.heap.size W8 w') := fun W hW => by
          have hbw := HB8.out.trans (hW.mono HB8.out.size)
          refine (HRP.out W (HA.out.below hbw (Nat.le_refl _))).mono ?_
          rintro e w' ⟨g2, c2, rfl, ho, hb⟩
          have hb9 := hW.trans (hb.mono hW.size)
          exact ⟨⟨g2, c2, rfl, str_row ho.bytes HLEN.out, str_row (HBYT.out.below hb9 (Nat.le_refl _)) HLEN.out⟩, hb9⟩
        have HSMB : Hid (∀ W, Below W8.heap.size W8 W → Calls Tryd.prog 14 #[.slice A8 n c8, .slice A n c] W fun e w' => e = .returned (.bool true) ∧ Below W8.heap.size W8 w') := fun W hW => by
          have hbw := HB8.out.trans (hW.mono HB8.out.size)
          refine (HSM.out A8 c8 W (HAT8.out.below hW (Nat.le_refl _)) (HA.out.below hbw (Nat.le_refl _))).mono ?_
          rintro e w' ⟨rfl, hb⟩
          exact ⟨rfl, hW.trans (hb.mono hW.size)⟩
        have HAWB : Hid (∀ W, Below W8.heap.size W8 W → Calls Tryd.prog 8 #[] W fun e w' => e = .returned (.bool true) ∧ Below W8.heap.size W8 w') := fun W hW => by
          have hbw := HB8.out.trans (hW.mono HB8.out.size)
          refine (HAW.out W (HT.out.below hbw)).mono ?_
          rintro e w' ⟨rfl, hb⟩
          exact ⟨rfl, hW.trans (hb.mono hW.size)⟩
        have hdrew : Below W8.heap.size W8 W8.drew := below_drewN W8.heap.size W8 1
        have HBX : Hid (∀ W, Below W8.heap.size W8 W → (convert 23 9 (.slice (some ⟨g, 0, none⟩) sz cap1)).run Tryd.prog W = .ok (.string ⟨PR.toArray⟩) W) := fun W hW => str_row (HBYT.out.below hW (Nat.le_refl _)) HLEN.out
        generalize (⟨PR.toArray⟩ : ByteArray) = X at s1 HRPB HBX
        clear HP8 HP7 HO7 HO6 HP6 HO5 HZ5 HO4 HRP HSM HPA HPR HCK HRC HBYT
        go_wp2_with fail
        have HSK : Hid (∀ W, Below W8.heap.size W8 W → (convert 23 9 (.slice (some ⟨g, 0, none⟩) sz cap1)).run Tryd.prog W = .ok (.string X) W ∧ Hid (Below W8.heap.size W8 W)) := fun W hW => ⟨HBX.out W hW, hW⟩
        clear HAW HT HA HM hm1 hmc hsz2 hl2 hmn HSRM HSR6 s1 hdrew HBX
        refine wp_region_held_drew (S := fun W => (convert 23 9 (.slice (some ⟨g, 0, none⟩) sz cap1)).run Tryd.prog W = .ok (.string X) W ∧ Hid (Below W8.heap.size W8 W)) (by kernel_rfl) ?_ (fun hHeld => ?_)
        · exact HSK.out _ (below_drewN _ _ 1)
        refine take_dst (i := 0) (v := ?_) (some 54) rfl rfl (by kernel_rfl) (by kernel_rfl) (by kernel_rfl) (fun _ _ _ h => h) (Or.inl ⟨by rfl, ?_⟩) (by assumption) ?_
        rotate_left 1
        focus (intro ww hSw; (try dsimp only at hSw); go_simp; try with_reducible rfl)
        (try simp only [Act.put, List.setIfInBounds_toArray, List.set_cons_zero, List.set_cons_succ])
        refine take_dst (i := 1) (v := ?_) (some 55) rfl rfl (by kernel_rfl) (by kernel_rfl) (by kernel_rfl) (fun _ _ _ h => h) (Or.inl ⟨by rfl, ?_⟩) (by assumption) ?_
        rotate_left 1
        focus (intro ww hSw; (try dsimp only at hSw); go_simp; try with_reducible rfl)
        (try simp only [Act.put, List.setIfInBounds_toArray, List.set_cons_zero, List.set_cons_succ])
        refine take_dst (i := 2) (v := ?_) (some 56) rfl rfl (by kernel_rfl) (by kernel_rfl) (by kernel_rfl) (fun _ _ _ h => h) (Or.inl ⟨by rfl, ?_⟩) (by assumption) ?_
        rotate_left 1
        focus (intro ww hSw; (try dsimp only at hSw); go_simp; try with_reducible rfl)
        (try simp only [Act.put, List.setIfInBounds_toArray, List.set_cons_zero, List.set_cons_succ])
        refine wpAnyH_ready (rs := [3]) (by kernel_rfl) (by simp) ?_
        refine AllReadyH.cons rfl (fun K hK => ?_) AllReadyH.nil
        go_simp
        refine (HRPB.out _ (below_drewN W8.heap.size W8 1)).mono ?_
        rintro e w1 ⟨⟨g2, c2, rfl, s2, s3⟩, hb1⟩
        clear hHeld
        go_wp2_with fail
        refine hK.out _ _ ?_ (fun hHeld => ?_)
        · exact HSK.out _ hb1
        clear hK K
        (try simp only [Act.put, List.setIfInBounds_toArray, List.set_cons_zero, List.set_cons_succ])
        refine wpAnyH_ready (rs := [4]) (by kernel_rfl) (by simp) ?_
        refine AllReadyH.cons rfl (fun K hK => ?_) AllReadyH.nil
        go_simp
        refine hK.out _ _ ?_ (fun hHeld => ?_)
        · exact HSK.out _ hb1
        clear hK K
        (try simp only [Act.put, List.setIfInBounds_toArray, List.set_cons_zero, List.set_cons_succ])
        refine take_dst (i := 5) (v := ?_) (some 59) rfl rfl (by kernel_rfl) (by kernel_rfl) (by kernel_rfl) (fun _ _ _ h => h) (Or.inl ⟨by rfl, ?_⟩) (by assumption) ?_
        rotate_left 1
        focus (intro ww hSw; (try dsimp only at hSw); go_simp; try with_reducible rfl)
        (try simp only [Act.put, List.setIfInBounds_toArray, List.set_cons_zero, List.set_cons_succ])
        refine take_dst (i := 6) (v := ?_) (some 60) rfl rfl (by kernel_rfl) (by kernel_rfl) (by kernel_rfl) (fun _ _ _ h => h) (Or.inl ⟨by rfl, ?_⟩) (by assumption) ?_
        rotate_left 1
        focus (intro ww hSw; (try dsimp only at hSw); go_simp; try with_reducible rfl)
        (try simp only [Act.put, List.setIfInBounds_toArray, List.set_cons_zero, List.set_cons_succ])
        refine take_dst (i := 7) (v := ?_) (some 61) rfl rfl (by kernel_rfl) (by kernel_rfl) (by kernel_rfl) (fun _ _ _ h => h) (Or.inl ⟨by rfl, ?_⟩) (by assumption) ?_
        rotate_left 1
        focus (intro ww hSw; (try dsimp only at hSw); go_simp; try with_reducible rfl)
        (try simp only [Act.put, List.setIfInBounds_toArray, List.set_cons_zero, List.set_cons_succ])
        refine take_dst (i := 8) (v := ?_) (some 62) rfl rfl (by kernel_rfl) (by kernel_rfl) (by kernel_rfl) (fun _ _ _ h => h) (Or.inl ⟨by rfl, ?_⟩) (by assumption) ?_
        rotate_left 1
        focus (intro ww hSw; (try dsimp only at hSw); go_simp; try with_reducible rfl)
        (try simp only [Act.put, List.setIfInBounds_toArray, List.set_cons_zero, List.set_cons_succ])
        refine take_dst (i := 9) (v := ?_) (some 63) rfl rfl (by kernel_rfl) (by kernel_rfl) (by kernel_rfl) (fun _ _ _ h => h) (Or.inl ⟨by rfl, ?_⟩) (by assumption) ?_
        rotate_left 1
        focus (intro ww hSw; (try dsimp only at hSw); go_simp; try with_reducible rfl)
        (try simp only [Act.put, List.setIfInBounds_toArray, List.set_cons_zero, List.set_cons_succ])
        refine take_dst (i := 10) (v := ?_) (some 64) rfl rfl (by kernel_rfl) (by kernel_rfl) (by kernel_rfl) (fun _ _ _ h => h) (Or.inl ⟨by rfl, ?_⟩) (by assumption) ?_
        rotate_left 1
        focus (intro ww hSw; (try dsimp only at hSw); go_simp; try with_reducible rfl)
        (try simp only [Act.put, List.setIfInBounds_toArray, List.set_cons_zero, List.set_cons_succ])
        refine take_dst (i := 11) (v := ?_) (some 65) rfl rfl (by kernel_rfl) (by kernel_rfl) (by kernel_rfl) (fun _ _ _ h => h) (Or.inl ⟨by rfl, ?_⟩) (by assumption) ?_
        rotate_left 1
        focus (intro ww hSw; (try dsimp only at hSw); go_simp; try with_reducible rfl)
        (try simp only [Act.put, List.setIfInBounds_toArray, List.set_cons_zero, List.set_cons_succ])
        refine take_dst (i := 12) (v := ?_) (some 66) rfl rfl (by kernel_rfl) (by kernel_rfl) (by kernel_rfl) (fun _ _ _ h => h) (Or.inl ⟨by rfl, ?_⟩) (by assumption) ?_
        rotate_left 1
        focus (intro ww hSw; (try dsimp only at hSw); go_simp; try with_reducible rfl)
        (try simp only [Act.put, List.setIfInBounds_toArray, List.set_cons_zero, List.set_cons_succ])
        refine take_dst (i := 13) (v := ?_) (some 67) rfl rfl (by kernel_rfl) (by kernel_rfl) (by kernel_rfl) (fun _ _ _ h => h) (Or.inl ⟨by rfl, ?_⟩) (by assumption) ?_
        rotate_left 1
        focus (intro ww hSw; (try dsimp only at hSw); go_simp; try with_reducible rfl)
        (try simp only [Act.put, List.setIfInBounds_toArray, List.set_cons_zero, List.set_cons_succ])
        refine take_dst (i := 14) (v := ?_) (some 68) rfl rfl (by kernel_rfl) (by kernel_rfl) (by kernel_rfl) (fun _ _ _ h => h) (Or.inl ⟨by rfl, ?_⟩) (by assumption) ?_
        rotate_left 1
        focus (intro ww hSw; (try dsimp only at hSw); go_simp; try with_reducible rfl)
        (try simp only [Act.put, List.setIfInBounds_toArray, List.set_cons_zero, List.set_cons_succ])
        refine take_dst (i := 15) (v := ?_) (some 69) rfl rfl (by kernel_rfl) (by kernel_rfl) (by kernel_rfl) (fun _ _ _ h => h) (Or.inl ⟨by rfl, ?_⟩) (by assumption) ?_
        rotate_left 1
        focus (intro ww hSw; (try dsimp only at hSw); go_simp; try with_reducible rfl)
        (try simp only [Act.put, List.setIfInBounds_toArray, List.set_cons_zero, List.set_cons_succ])
        refine take_dst (i := 16) (v := ?_) (some 70) rfl rfl (by kernel_rfl) (by kernel_rfl) (by kernel_rfl) (fun _ _ _ h => h) (Or.inl ⟨by rfl, ?_⟩) (by assumption) ?_
        rotate_left 1
        focus (intro ww hSw; (try dsimp only at hSw); go_simp; try with_reducible rfl)
        (try simp only [Act.put, List.setIfInBounds_toArray, List.set_cons_zero, List.set_cons_succ])
        refine take_dst (i := 17) (v := ?_) (some 71) rfl rfl (by kernel_rfl) (by kernel_rfl) (by kernel_rfl) (fun _ _ _ h => h) (Or.inl ⟨by rfl, ?_⟩) (by assumption) ?_
        rotate_left 1
        focus (intro ww hSw; (try dsimp only at hSw); go_simp; try with_reducible rfl)
        (try simp only [Act.put, List.setIfInBounds_toArray, List.set_cons_zero, List.set_cons_succ])
        refine take_dst (i := 18) (v := ?_) (some 72) rfl rfl (by kernel_rfl) (by kernel_rfl) (by kernel_rfl) (fun _ _ _ h => h) (Or.inl ⟨by rfl, ?_⟩) (by assumption) ?_
        rotate_left 1
        focus (intro ww hSw; (try dsimp only at hSw); go_simp; try with_reducible rfl)
        (try simp only [Act.put, List.setIfInBounds_toArray, List.set_cons_zero, List.set_cons_succ])
        refine wpAnyH_ready (rs := [19]) (by kernel_rfl) (by simp) ?_
        refine AllReadyH.cons rfl (fun K hK => ?_) AllReadyH.nil
        go_simp
        refine (HSMB.out _ hb1).mono ?_
        rintro e w2 ⟨rfl, hb2⟩
        clear hHeld
        go_wp2_with fail
        refine hK.out _ _ ?_ (fun hHeld => ?_)
        · exact HSK.out _ hb2
        clear hK K
        (try simp only [Act.put, List.setIfInBounds_toArray, List.set_cons_zero, List.set_cons_succ])
        refine take_dst (i := 20) (v := ?_) (some 74) rfl rfl (by kernel_rfl) (by kernel_rfl) (by kernel_rfl) (fun _ _ _ h => h) (Or.inl ⟨by rfl, ?_⟩) (by assumption) ?_
        rotate_left 1
        focus (intro ww hSw; (try dsimp only at hSw); go_simp; try with_reducible rfl)
        (try simp only [Act.put, List.setIfInBounds_toArray, List.set_cons_zero, List.set_cons_succ])
        refine take_dst (i := 21) (v := ?_) (some 75) rfl rfl (by kernel_rfl) (by kernel_rfl) (by kernel_rfl) (fun _ _ _ h => h) (Or.inl ⟨by rfl, ?_⟩) (by assumption) ?_
        rotate_left 1
        focus (intro ww hSw; (try dsimp only at hSw); go_simp; try with_reducible rfl)
        (try simp only [Act.put, List.setIfInBounds_toArray, List.set_cons_zero, List.set_cons_succ])
        refine wpAnyH_ready (rs := [22]) (by kernel_rfl) (by simp) ?_
        refine AllReadyH.cons rfl (fun K hK => ?_) AllReadyH.nil
        go_simp
        refine (HAWB.out _ hb2).mono ?_
        rintro e w3 ⟨rfl, hb3⟩
        clear hHeld
        go_wp2_with fail
        refine hK.out _ _ ?_ (fun hHeld => ?_)
        · exact HSK.out _ hb3
        clear hK K
        (try simp only [Act.put, List.setIfInBounds_toArray, List.set_cons_zero, List.set_cons_succ])
        refine take_dst (i := 23) (v := ?_) (some 77) rfl rfl (by kernel_rfl) (by kernel_rfl) (by kernel_rfl) (fun _ _ _ h => h) (Or.inl ⟨by rfl, ?_⟩) (by assumption) ?_
        rotate_left 1
        focus (intro ww hSw; (try dsimp only at hSw); go_simp; try with_reducible rfl)
        (try simp only [Act.put, List.setIfInBounds_toArray, List.set_cons_zero, List.set_cons_succ])
        refine take_dst (i := 24) (v := ?_) (some 4) rfl rfl (by kernel_rfl) (by kernel_rfl) (by kernel_rfl) (fun _ _ _ h => h) (Or.inl ⟨by rfl, ?_⟩) (by assumption) ?_
        rotate_left 1
        focus (intro ww hSw; (try dsimp only at hSw); go_simp; try with_reducible rfl)
        (try simp only [Act.put, List.setIfInBounds_toArray, List.set_cons_zero, List.set_cons_succ])
        refine wpAnyH_done (by kernel_rfl) ?_ _
        go_wp2_with fail
        go_ret
        exact ⟨rfl, HB8.out.trans (hb3.mono HB8.out.size)⟩
      · have hne : (checkH l == 0) = false := by rw [beq_eq_false_iff_ne]; exact hck
        have hne2 : (checkH l != 0) = true := by rw [bne, hne]; rfl
        have heq : (checkH l == checkH l) = true := by simp
        have heq2 : (checkH l != checkH l) = false := by simp
        have HPR := hid (fun W hW => print9_no l A c hl1 hl2 hck W hW)
        generalize checkH l = E at HRC HCK HPR hne hne2 heq heq2
        generalize l.length = n at HLI HRC HCK HPR ⊢
        generalize more.length = mn at hm1 hmc ⊢
        clear hli hf hl1 hl2 hck hml
        go_enter Tryd.func3, Tryd.ntmps3
        go_wp2_with fail
        refine HLI.out.mono ?_
        rintro e W1 ⟨rfl, hb1⟩
        have HB1 := hid hb1
        clear hb1 HLI
        go_wp2_with fail
        refine (HPR.out _ (HA.out.below HB1.out (Nat.le_refl _))).mono ?_
        rintro e W2 ⟨rfl, hb2⟩
        have HB2 := hid (HB1.out.trans (hb2.mono HB1.out.size))
        clear hb2
        go_wp2_with fail
        refine (HRC.out _ (HA.out.below HB2.out (Nat.le_refl _))).mono ?_
        rintro e W3 ⟨rfl, hb3⟩
        have HB3 := hid (HB2.out.trans (hb3.mono HB2.out.size))
        clear hb3
        go_wp2_with fail
        refine (HCK.out _ (HA.out.below HB3.out (Nat.le_refl _))).mono ?_
        rintro e W4 ⟨rfl, hb4⟩
        have HB4 := hid (HB3.out.trans (hb4.mono HB3.out.size))
        clear hb4
        go_wp2_with fail
        refine (HAW.out _ (HT.out.below HB4.out)).mono ?_
        rintro e W5 ⟨rfl, hb5⟩
        have HB5 := hid (HB4.out.trans (hb5.mono HB4.out.size))
        clear hb5
        go_wp2_with fail
        go_ret
        exact ⟨rfl, HB5.out⟩
end Go.Proofs.YtakompbdbmlocaaDoor
