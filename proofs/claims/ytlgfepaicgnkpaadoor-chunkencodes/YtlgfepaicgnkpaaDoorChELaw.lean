
/- Any pieces as a body in chunks, read back whatever follows: the statement's walk. -/
import Derived.Test.YtlgfepaicgnkpaaDoorChRef
import Derived.Test.YtlgfepaicgnkpaaDoorChAw
import Derived.OpenShut
import Derived.BigQuiet
namespace Go.Proofs.YtlgfepaicgnkpaaDoor
set_option linter.unusedVariables false
set_option linter.unusedSimpArgs false
open Go.RowKit Go.BigFrame

theorem eqXX (t : TypeId) (X : ByteArray) : binOp .eql t (.string X) (.string X) = pure (.bool true) := by
  rw [binOp_string_eql]
  simp
attribute [local go_sem ↓] eqXX
/-- An operation that yields one value wherever S holds is taken first; its slot is told. -/
theorem take_dst {P : Program} {md : Region.Mode} {ops : Array Oper} {Q : Exit → Act → World → Prop} {S : World → Prop} {i : Nat} {oi : Oper} {v : Value} {fuel : Nat} {listed : Array Bool} {a : Act} {w : World} (d : Option Tmp) (hi : ops[i]? = some oi) (hd : oi.dst = d)
    (hs : Region.noSelect ops = true) (hf : Region.free md ops listed i = true) (hr : (Region.ready md ops listed).contains i = true)
    (hQ : ∀ c a w, Q (.panic c) (a.put d v) w → Q (.panic c) a w) (hy : YieldsIf P ops S oi v a) (hS : S w)
    (h : wpAnyH P md ops Q S fuel (listed.setIfInBounds i true) (a.put d v) w) : wpAnyH P md ops Q S (fuel + 1) listed a w := by
  subst hd
  exact wpAnyH_take hi hs hf hr hQ hy hS h
theorem Down.reads {w : World} {b : Nat} {d : Value} {o : List UInt8} (h : Down w b d o) (n : Nat) (hn : o.length = n) : ∃ A c, d = .slice A n c ∧ ∀ W, Below w.heap.size w W → (convert 23 9 (.slice A n c)).run Tryd.prog W = .ok (.string (asS o)) W := by
  obtain ⟨A, c, rfl⟩ := h.shape
  rw [hn] at h ⊢
  exact ⟨A, c, rfl, fun W hb => (h.below hb).str⟩
set_option maxHeartbeats 8000000 in
set_option maxRecDepth 100000 in
theorem encodes10_law (l : List (List UInt8)) (A : Option Addr) (c : Nat) (B : Option Addr) (len cap : Nat) (zs : List Int) (w : World) (hn2 : l.length ≤ 281474976710656) (hA : PcsAt w A l) (hB : IsRow .u8 w B len cap zs) (hT : TabC w) : Calls Tryd.prog 3 #[.slice A l.length c, .slice B len cap] w fun e w' => e = .returned (.bool true) ∧ Below w.heap.size w w' := by
  obtain ⟨more, rfl, hmc, hM⟩ := row_at hB (Nat.lt_of_le_of_lt (Nat.zero_le _) hT.four.lt)
  have HT := hid hT
  have HA := hid hA
  have HM := hid hM
  have HAW := hid (fun W hW => awake10 W hW)
  have HTO := hid (fun W hW => total_any l A l.length c rfl hn2 W hW)
  have HLI := hid (fun W hW => light10_any l A l.length c rfl hn2 W hW)
  have hmm := hB.len
  unfold maxLen at hmm
  clear hB hM
  rcases Nat.lt_or_ge 32768 l.flatten.length with hbig | hfit
  · have HEN := hid (encode_no l A l.length c rfl hn2 w hA hbig)
    have HT2 : Hid (∀ W, PcsAt W A l → Calls Tryd.prog 9 #[.slice A l.length c] W fun e w' => ∃ T : Nat, e = .returned (.int .i64 T) ∧ 32768 < T ∧ w' = W) := fun W hW => by
      refine (HTO.out W hW).mono ?_
      rintro e w' ⟨T, rfl, _, t2, rfl⟩
      exact ⟨T, rfl, t2 hbig, rfl⟩
    generalize l.length = n at HEN HT2 HTO HLI ⊢
    generalize more.length = mn at hmc hmm ⊢
    clear hbig hA hT HTO HLI
    go_enter Tryd.func3, Tryd.ntmps3
    go_wp2_with fail
    refine HEN.out.mono ?_
    rintro e W1 ⟨rfl, hW1⟩
    subst hW1
    go_wp2_with fail
    refine (HT2.out _ HA.out).mono ?_
    rintro e W2 ⟨T, rfl, hT1, hW2⟩
    subst hW2
    have hT2 : (32768 : Int) < (T : Int) := by omega
    go_wp2_with fail
    refine (HAW.out _ HT.out).mono ?_
    rintro e W3 ⟨rfl, hb3⟩
    have HB3 := hid hb3
    clear hb3
    go_wp2_with fail
    go_ret
    exact ⟨rfl, HB3.out⟩
  · have HEN := hid (encode_ok l A l.length c rfl hn2 w hT hA hfit)
    have HT2 : Hid (∀ W, PcsAt W A l → Calls Tryd.prog 9 #[.slice A l.length c] W fun e w' => ∃ T : Nat, e = .returned (.int .i64 T) ∧ T ≤ 32768 ∧ w' = W) := fun W hW => by
      refine (HTO.out W hW).mono ?_
      rintro e w' ⟨T, rfl, t1, _, rfl⟩
      exact ⟨T, rfl, by rw [t1 hfit]; exact hfit, rfl⟩
    have hel := enc_len l hfit
    by_cases hbad : lightC l = false ∨ 2000 < more.length
    · have HLB : Hid (∀ W, PcsAt W A l → ∃ b : Bool, (b = false ∨ 2000 < more.length) ∧ Calls Tryd.prog 11 #[.slice A l.length c] W fun e w' => e = .returned (.bool b) ∧ w' = W) := fun W hW => ⟨lightC l, hbad, HLI.out W hW⟩
      generalize l.length = n at HEN HT2 HTO HLI HLB ⊢
      generalize more.length = mn at hmc hmm HLB hbad ⊢
      generalize (encC l).length = sz at HEN hel
      clear hbad hA hT HTO HLI hfit
      go_enter Tryd.func3, Tryd.ntmps3
      go_wp2_with fail
      refine HEN.out.mono ?_
      rintro e W1 ⟨g, cap1, rfl, _, hb1⟩
      have HB1 := hid hb1
      clear hb1
      go_wp2_with fail
      refine (HT2.out _ (HA.out.below HB1.out (Nat.le_refl _))).mono ?_
      rintro e W2 ⟨T, rfl, hT1, hW2⟩
      subst hW2
      have hT2 : ¬ (32768 : Int) < (T : Int) := by omega
      obtain ⟨bl, hbl, hcl⟩ := HLB.out W2 (HA.out.below HB1.out (Nat.le_refl _))
      have HCL := hid hcl
      clear hcl
      cases bl
      · go_wp2_with fail
        refine HCL.out.mono ?_
        rintro e W3 ⟨rfl, hW3⟩
        subst hW3
        go_wp2_with fail
        refine (HAW.out _ (HT.out.below HB1.out)).mono ?_
        rintro e W4 ⟨rfl, hb4⟩
        have HB4 := hid (HB1.out.trans (hb4.mono HB1.out.size))
        clear hb4
        go_wp2_with fail
        go_ret
        exact ⟨rfl, HB4.out⟩
      · have hm1 : (2000 : Int) < (mn : Int) := by
          rcases hbl with h | h
          · cases h
          · omega
        go_wp2_with fail
        refine HCL.out.mono ?_
        rintro e W3 ⟨rfl, hW3⟩
        subst hW3
        go_wp2_with fail
        refine (HAW.out _ (HT.out.below HB1.out)).mono ?_
        rintro e W4 ⟨rfl, hb4⟩
        have HB4 := hid (HB1.out.trans (hb4.mono HB1.out.size))
        clear hb4
        go_wp2_with fail
        go_ret
        exact ⟨rfl, HB4.out⟩
    · have hli : lightC l = true := by
        cases hh : lightC l with
        | true => rfl
        | false => exact absurd (.inl hh) hbad
      have hm1 : ¬ (2000 : Int) < (more.length : Int) := by
        have : ¬ 2000 < more.length := fun h => hbad (.inr h)
        omega
      have hml : more.length ≤ 2000 := by omega
      rw [hli] at HLI
      have hll : (encC l ++ more).length = (encC l).length + more.length := List.length_append
      have HPA : Hid (∀ X cap2 W, (encC l).length + more.length ≤ cap2 → TabC W → BytesAt W (some X) (encC l ++ more) → Calls Tryd.prog 12 #[.slice (some X) ((encC l).length + more.length) cap2] W fun e w' => ∃ v, e = .returned (.tuple #[v, .int .i64 (encC l).length, .int .i64 0]) ∧ Down w' W.heap.size v l.flatten ∧ Below W.heap.size W w') := fun X cap2 W h1 h2 h3 => by
        have := decode_any (encC l ++ more) X cap2 (by omega) (by omega) W h2 h3
        rw [decode_enc l hfit more, hll] at this
        exact this
      have HRE := hid (fun W hW => refEncode_any l A l.length c rfl hn2 W hW hfit)
      have HAL := hid (fun W hW => all10_any l A l.length c rfl hn2 W hW hfit)
      have HSRM : Hid (∀ W, Below w.heap.size w W → Src Tryd.prog 1 23 (.slice B more.length cap) more.length (bvs more) W) := fun W hb => src_bytes (HM.out.below hb (Nat.le_refl _)) cap (fun _ => opt_any B)
      have HFL : Hid (l.flatten.length = l.flatten.length) := rfl
      generalize hPR : encC l = PR at HEN HPA HRE hel
      generalize hFT : l.flatten = FT at HPA HAL
      generalize hszz : PR.length = sz at HEN HPA hel
      generalize hftl : FT.length = fl
      have HPL := hid hszz
      have HTL := hid hftl
      generalize hnl : l.length = n at HLI HEN HT2 HRE HAL ⊢
      generalize hmn : more.length = mn at hm1 hmc hmm HPA HSRM hml ⊢
      clear hbad hA hT HTO hfit hli hll hPR hFT hszz hftl hnl hmn HFL
      go_enter Tryd.func3, Tryd.ntmps3
      go_wp2_with fail
      refine HEN.out.mono ?_
      rintro e W1 ⟨g, cap1, rfl, hown, hb1⟩
      have HB1 := hid hb1
      have HO1 := hid hown
      clear hb1 hown
      go_wp2_with fail
      refine (HT2.out _ (HA.out.below HB1.out (Nat.le_refl _))).mono ?_
      rintro e W2 ⟨T, rfl, hT1, hW2⟩
      subst hW2
      have hT2 : ¬ (32768 : Int) < (T : Int) := by omega
      go_wp2_with fail
      refine (HLI.out _ (HA.out.below HB1.out (Nat.le_refl _))).mono ?_
      rintro e W4 ⟨rfl, hW4⟩
      subst hW4
      have HO5 := hid (HO1.out.alloc (.cells #[] 5))
      have HB5 := hid (alloc_below HB1.out HB1.out.size (.cells #[] 5))
      have HZ5 := hid (Own.zero W4 w.heap.size HB1.out.size)
      clear hT2 hT1
      go_wp2_with (first
        | (refine wpList_own rfl _ _ 23 rfl w.heap.size W4.heap.size 0 0 sz [] PR _ rfl rfl HZ5.out HO5.out.src (by omega) HB5.out.size ?_)
        | fail)
      intro g6 cap6 W6 hown6 hg6 hor6
      have HB6 := hid (HZ5.out.grown HB5.out HB5.out.size hg6)
      have HO6 := hid hown6
      have HP6 := hid (HO5.out.other hg6 (by have := HO1.out.lt; omega))
      have HNE : Hid (g ≠ g6) := by
        show _ ≠ _
        have h1 := HO1.out.lt
        rcases hor6 with h2 | h2
        · omega
        · rw [h2]; simp; omega
      clear hown6 hg6 hor6
      have HSR6 := hid (HSRM.out _ HB6.out)
      go_wp2_with (first
        | (refine wpList_own rfl _ _ 23 rfl w.heap.size g6 _ cap6 mn _ more _ rfl rfl HO6.out HSR6.out (by omega) HB6.out.size ?_)
        | fail)
      intro g7 cap7 W7 hown7 hg7 hor7
      have HB7 := hid (HO6.out.grown HB6.out HB6.out.size hg7)
      have HP7 := hid (HP6.out.other hg7 HNE.out)
      have HO7 : Hid (Own W7 w.heap.size g7 (sz + mn) cap7 (PR ++ more)) := by
        refine hid ?_
        have := hown7
        simpa using this
      clear hown7 hg7 hor7
      go_wp2_with fail
      refine (HPA.out ⟨g7, 0, none⟩ cap7 _ HO7.out.le (HT.out.below HB7.out) HO7.out.bytes).mono ?_
      rintro e W8 ⟨v, rfl, hv, hb8⟩
      have HB8 := hid (HB7.out.trans (hb8.mono HB7.out.size))
      have HP8 := hid (HP7.out.below hb8 (Nat.le_refl _))
      obtain ⟨A8, c8, hv8, hat8⟩ := hv.reads fl HTL.out
      subst hv8
      have HAT8 := hid hat8
      clear hb8 hat8 hv
      have HBX : Hid (∀ W, Below W8.heap.size W8 W → (convert 23 9 (.slice (some ⟨g, 0, none⟩) sz cap1)).run Tryd.prog W = .ok (.string (asS PR)) W) := fun W hW => str_row (HP8.out.bytes.below hW (Nat.le_refl _)) HPL.out
      have HREB : Hid (∀ W, Below W8.heap.size W8 W → Calls Tryd.prog 13 #[.slice A n c] W fun e w' => (∃ A2 c2, e = .returned (.slice A2 sz c2) ∧ (convert 23 9 (.slice A2 sz c2)).run Tryd.prog w' = .ok (.string (asS PR)) w') ∧ Below W8.heap.size W8 w') := fun W hW => by
        have hbw := HB8.out.trans (hW.mono HB8.out.size)
        refine (HRE.out W (HA.out.below hbw (Nat.le_refl _))).mono ?_
        rintro e w' ⟨d, rfl, hd, hb⟩
        obtain ⟨A2, c2, rfl, hs⟩ := hd.reads sz HPL.out
        exact ⟨⟨A2, c2, rfl, hs w' (Below.refl _ _)⟩, hW.trans (hb.mono hW.size)⟩
      have HALB : Hid (∀ W, Below W8.heap.size W8 W → Calls Tryd.prog 14 #[.slice A n c] W fun e w' => (∃ A2 c2, e = .returned (.slice A2 fl c2) ∧ (convert 23 9 (.slice A2 fl c2)).run Tryd.prog w' = .ok (.string (asS FT)) w') ∧ Below W8.heap.size W8 w') := fun W hW => by
        have hbw := HB8.out.trans (hW.mono HB8.out.size)
        refine (HAL.out W (HA.out.below hbw (Nat.le_refl _))).mono ?_
        rintro e w' ⟨d, rfl, hd, hb⟩
        obtain ⟨A2, c2, rfl, hs⟩ := hd.reads fl HTL.out
        exact ⟨⟨A2, c2, rfl, hs w' (Below.refl _ _)⟩, hW.trans (hb.mono hW.size)⟩
      have HAWB : Hid (∀ W, Below W8.heap.size W8 W → Calls Tryd.prog 10 #[] W fun e w' => e = .returned (.bool true) ∧ Below W8.heap.size W8 w') := fun W hW => by
        have hbw := HB8.out.trans (hW.mono HB8.out.size)
        refine (HAW.out W (HT.out.below hbw)).mono ?_
        rintro e w' ⟨rfl, hb⟩
        exact ⟨rfl, hW.trans (hb.mono hW.size)⟩
      generalize asS PR = X at HREB HBX
      generalize asS FT = X2 at HALB HAT8
      clear HP8 HP7 HO7 HO6 HP6 HO5 HZ5 HO1 HRE HAL HPA HEN HT2 HLI HTL HPL
      go_wp2_with fail
      have HSK : Hid (∀ W, Below W8.heap.size W8 W → (convert 23 9 (.slice (some ⟨g, 0, none⟩) sz cap1)).run Tryd.prog W = .ok (.string X) W ∧ (convert 23 9 (.slice A8 fl c8)).run Tryd.prog W = .ok (.string X2) W ∧ Hid (Below W8.heap.size W8 W)) := fun W hW => ⟨HBX.out W hW, HAT8.out W hW, hW⟩
      clear HAW HT HA HM hm1 hmc HSRM HSR6 HBX HAT8 hel hml hmm
      refine wp_region_held_drew (S := fun W => (convert 23 9 (.slice (some ⟨g, 0, none⟩) sz cap1)).run Tryd.prog W = .ok (.string X) W ∧ (convert 23 9 (.slice A8 fl c8)).run Tryd.prog W = .ok (.string X2) W ∧ Hid (Below W8.heap.size W8 W)) (by kernel_rfl) ?_ (fun hHeld => ?_)
      · exact HSK.out _ (below_drewN _ _ 1)
      refine take_dst (i := 0) (v := ?_) (some 51) rfl rfl (by kernel_rfl) (by kernel_rfl) (by kernel_rfl) (fun _ _ _ h => h) (Or.inl ⟨by rfl, ?_⟩) (by assumption) ?_
      rotate_left 1
      focus (intro ww hSw; (try dsimp only at hSw); go_simp; try with_reducible rfl)
      (try simp only [Act.put, List.setIfInBounds_toArray, List.set_cons_zero, List.set_cons_succ])
      refine take_dst (i := 1) (v := ?_) (some 52) rfl rfl (by kernel_rfl) (by kernel_rfl) (by kernel_rfl) (fun _ _ _ h => h) (Or.inl ⟨by rfl, ?_⟩) (by assumption) ?_
      rotate_left 1
      focus (intro ww hSw; (try dsimp only at hSw); go_simp; try with_reducible rfl)
      (try simp only [Act.put, List.setIfInBounds_toArray, List.set_cons_zero, List.set_cons_succ])
      refine take_dst (i := 2) (v := ?_) (some 53) rfl rfl (by kernel_rfl) (by kernel_rfl) (by kernel_rfl) (fun _ _ _ h => h) (Or.inl ⟨by rfl, ?_⟩) (by assumption) ?_
      rotate_left 1
      focus (intro ww hSw; (try dsimp only at hSw); go_simp; try with_reducible rfl)
      (try simp only [Act.put, List.setIfInBounds_toArray, List.set_cons_zero, List.set_cons_succ])
      refine take_dst (i := 3) (v := ?_) (some 54) rfl rfl (by kernel_rfl) (by kernel_rfl) (by kernel_rfl) (fun _ _ _ h => h) (Or.inl ⟨by rfl, ?_⟩) (by assumption) ?_
      rotate_left 1
      focus (intro ww hSw; (try dsimp only at hSw); go_simp; try with_reducible rfl)
      (try simp only [Act.put, List.setIfInBounds_toArray, List.set_cons_zero, List.set_cons_succ])
      refine take_dst (i := 4) (v := ?_) (some 55) rfl rfl (by kernel_rfl) (by kernel_rfl) (by kernel_rfl) (fun _ _ _ h => h) (Or.inl ⟨by rfl, ?_⟩) (by assumption) ?_
      rotate_left 1
      focus (intro ww hSw; (try dsimp only at hSw); go_simp; try with_reducible rfl)
      (try simp only [Act.put, List.setIfInBounds_toArray, List.set_cons_zero, List.set_cons_succ])
      refine take_dst (i := 5) (v := ?_) (some 56) rfl rfl (by kernel_rfl) (by kernel_rfl) (by kernel_rfl) (fun _ _ _ h => h) (Or.inl ⟨by rfl, ?_⟩) (by assumption) ?_
      rotate_left 1
      focus (intro ww hSw; (try dsimp only at hSw); go_simp; try with_reducible rfl)
      (try simp only [Act.put, List.setIfInBounds_toArray, List.set_cons_zero, List.set_cons_succ])
      refine wpAnyH_ready (rs := [6]) (by kernel_rfl) (by simp) ?_
      refine AllReadyH.cons rfl (fun K hK => ?_) AllReadyH.nil
      go_simp
      refine (HREB.out _ (below_drewN W8.heap.size W8 1)).mono ?_
      rintro e w1 ⟨⟨A1, c1, rfl, s2⟩, hb1⟩
      clear hHeld
      go_wp2_with fail
      refine hK.out _ _ ?_ (fun hHeld => ?_)
      · exact HSK.out _ hb1
      clear hK K
      (try simp only [Act.put, List.setIfInBounds_toArray, List.set_cons_zero, List.set_cons_succ])
      refine wpAnyH_ready (rs := [7]) (by kernel_rfl) (by simp) ?_
      refine AllReadyH.cons rfl (fun K hK => ?_) AllReadyH.nil
      go_simp
      refine hK.out _ _ ?_ (fun hHeld => ?_)
      · exact HSK.out _ hb1
      clear hK K
      (try simp only [Act.put, List.setIfInBounds_toArray, List.set_cons_zero, List.set_cons_succ])
      refine take_dst (i := 8) (v := ?_) (some 59) rfl rfl (by kernel_rfl) (by kernel_rfl) (by kernel_rfl) (fun _ _ _ h => h) (Or.inl ⟨by rfl, ?_⟩) (by assumption) ?_
      rotate_left 1
      focus (intro ww hSw; (try dsimp only at hSw); go_simp; try with_reducible rfl)
      (try simp only [Act.put, List.setIfInBounds_toArray, List.set_cons_zero, List.set_cons_succ])
      refine take_dst (i := 9) (v := ?_) (some 60) rfl rfl (by kernel_rfl) (by kernel_rfl) (by kernel_rfl) (fun _ _ _ h => h) (Or.inl ⟨by rfl, ?_⟩) (by assumption) ?_
      rotate_left 1
      focus (intro ww hSw; (try dsimp only at hSw); go_simp; try with_reducible rfl)
      (try simp only [Act.put, List.setIfInBounds_toArray, List.set_cons_zero, List.set_cons_succ])
      refine take_dst (i := 10) (v := ?_) (some 61) rfl rfl (by kernel_rfl) (by kernel_rfl) (by kernel_rfl) (fun _ _ _ h => h) (Or.inl ⟨by rfl, ?_⟩) (by assumption) ?_
      rotate_left 1
      focus (intro ww hSw; (try dsimp only at hSw); go_simp; try with_reducible rfl)
      (try simp only [Act.put, List.setIfInBounds_toArray, List.set_cons_zero, List.set_cons_succ])
      refine take_dst (i := 11) (v := ?_) (some 62) rfl rfl (by kernel_rfl) (by kernel_rfl) (by kernel_rfl) (fun _ _ _ h => h) (Or.inl ⟨by rfl, ?_⟩) (by assumption) ?_
      rotate_left 1
      focus (intro ww hSw; (try dsimp only at hSw); go_simp; try with_reducible rfl)
      (try simp only [Act.put, List.setIfInBounds_toArray, List.set_cons_zero, List.set_cons_succ])
      refine take_dst (i := 12) (v := ?_) (some 63) rfl rfl (by kernel_rfl) (by kernel_rfl) (by kernel_rfl) (fun _ _ _ h => h) (Or.inl ⟨by rfl, ?_⟩) (by assumption) ?_
      rotate_left 1
      focus (intro ww hSw; (try dsimp only at hSw); go_simp; try with_reducible rfl)
      (try simp only [Act.put, List.setIfInBounds_toArray, List.set_cons_zero, List.set_cons_succ])
      refine take_dst (i := 13) (v := ?_) (some 64) rfl rfl (by kernel_rfl) (by kernel_rfl) (by kernel_rfl) (fun _ _ _ h => h) (Or.inl ⟨by rfl, ?_⟩) (by assumption) ?_
      rotate_left 1
      focus (intro ww hSw; (try dsimp only at hSw); go_simp; try with_reducible rfl)
      (try simp only [Act.put, List.setIfInBounds_toArray, List.set_cons_zero, List.set_cons_succ])
      refine take_dst (i := 14) (v := ?_) (some 65) rfl rfl (by kernel_rfl) (by kernel_rfl) (by kernel_rfl) (fun _ _ _ h => h) (Or.inl ⟨by rfl, ?_⟩) (by assumption) ?_
      rotate_left 1
      focus (intro ww hSw; (try dsimp only at hSw); go_simp; try with_reducible rfl)
      (try simp only [Act.put, List.setIfInBounds_toArray, List.set_cons_zero, List.set_cons_succ])
      refine take_dst (i := 15) (v := ?_) (some 66) rfl rfl (by kernel_rfl) (by kernel_rfl) (by kernel_rfl) (fun _ _ _ h => h) (Or.inl ⟨by rfl, ?_⟩) (by assumption) ?_
      rotate_left 1
      focus (intro ww hSw; (try dsimp only at hSw); go_simp; try with_reducible rfl)
      (try simp only [Act.put, List.setIfInBounds_toArray, List.set_cons_zero, List.set_cons_succ])
      refine take_dst (i := 16) (v := ?_) (some 67) rfl rfl (by kernel_rfl) (by kernel_rfl) (by kernel_rfl) (fun _ _ _ h => h) (Or.inl ⟨by rfl, ?_⟩) (by assumption) ?_
      rotate_left 1
      focus (intro ww hSw; (try dsimp only at hSw); go_simp; try with_reducible rfl)
      (try simp only [Act.put, List.setIfInBounds_toArray, List.set_cons_zero, List.set_cons_succ])
      refine take_dst (i := 17) (v := ?_) (some 68) rfl rfl (by kernel_rfl) (by kernel_rfl) (by kernel_rfl) (fun _ _ _ h => h) (Or.inl ⟨by rfl, ?_⟩) (by assumption) ?_
      rotate_left 1
      focus (intro ww hSw; (try dsimp only at hSw); go_simp; try with_reducible rfl)
      (try simp only [Act.put, List.setIfInBounds_toArray, List.set_cons_zero, List.set_cons_succ])
      refine take_dst (i := 18) (v := ?_) (some 69) rfl rfl (by kernel_rfl) (by kernel_rfl) (by kernel_rfl) (fun _ _ _ h => h) (Or.inl ⟨by rfl, ?_⟩) (by assumption) ?_
      rotate_left 1
      focus (intro ww hSw; (try dsimp only at hSw); go_simp; try with_reducible rfl)
      (try simp only [Act.put, List.setIfInBounds_toArray, List.set_cons_zero, List.set_cons_succ])
      refine take_dst (i := 19) (v := ?_) (some 70) rfl rfl (by kernel_rfl) (by kernel_rfl) (by kernel_rfl) (fun _ _ _ h => h) (Or.inl ⟨by rfl, ?_⟩) (by assumption) ?_
      rotate_left 1
      focus (intro ww hSw; (try dsimp only at hSw); go_simp; try with_reducible rfl)
      (try simp only [Act.put, List.setIfInBounds_toArray, List.set_cons_zero, List.set_cons_succ])
      refine take_dst (i := 20) (v := ?_) (some 71) rfl rfl (by kernel_rfl) (by kernel_rfl) (by kernel_rfl) (fun _ _ _ h => h) (Or.inl ⟨by rfl, ?_⟩) (by assumption) ?_
      rotate_left 1
      focus (intro ww hSw; (try dsimp only at hSw); go_simp; try with_reducible rfl)
      (try simp only [Act.put, List.setIfInBounds_toArray, List.set_cons_zero, List.set_cons_succ])
      refine take_dst (i := 21) (v := ?_) (some 72) rfl rfl (by kernel_rfl) (by kernel_rfl) (by kernel_rfl) (fun _ _ _ h => h) (Or.inl ⟨by rfl, ?_⟩) (by assumption) ?_
      rotate_left 1
      focus (intro ww hSw; (try dsimp only at hSw); go_simp; try with_reducible rfl)
      (try simp only [Act.put, List.setIfInBounds_toArray, List.set_cons_zero, List.set_cons_succ])
      refine take_dst (i := 22) (v := ?_) (some 73) rfl rfl (by kernel_rfl) (by kernel_rfl) (by kernel_rfl) (fun _ _ _ h => h) (Or.inl ⟨by rfl, ?_⟩) (by assumption) ?_
      rotate_left 1
      focus (intro ww hSw; (try dsimp only at hSw); go_simp; try with_reducible rfl)
      (try simp only [Act.put, List.setIfInBounds_toArray, List.set_cons_zero, List.set_cons_succ])
      refine take_dst (i := 23) (v := ?_) (some 74) rfl rfl (by kernel_rfl) (by kernel_rfl) (by kernel_rfl) (fun _ _ _ h => h) (Or.inl ⟨by rfl, ?_⟩) (by assumption) ?_
      rotate_left 1
      focus (intro ww hSw; (try dsimp only at hSw); go_simp; try with_reducible rfl)
      (try simp only [Act.put, List.setIfInBounds_toArray, List.set_cons_zero, List.set_cons_succ])
      refine wpAnyH_ready (rs := [24]) (by kernel_rfl) (by simp) ?_
      refine AllReadyH.cons rfl (fun K hK => ?_) AllReadyH.nil
      go_simp
      refine (HALB.out _ hb1).mono ?_
      rintro e w2 ⟨⟨A3, c3, rfl, s4⟩, hb2⟩
      clear hHeld
      go_wp2_with fail
      refine hK.out _ _ ?_ (fun hHeld => ?_)
      · exact HSK.out _ hb2
      clear hK K
      (try simp only [Act.put, List.setIfInBounds_toArray, List.set_cons_zero, List.set_cons_succ])
      refine wpAnyH_ready (rs := [25]) (by kernel_rfl) (by simp) ?_
      refine AllReadyH.cons rfl (fun K hK => ?_) AllReadyH.nil
      go_simp
      refine hK.out _ _ ?_ (fun hHeld => ?_)
      · exact HSK.out _ hb2
      clear hK K
      (try simp only [Act.put, List.setIfInBounds_toArray, List.set_cons_zero, List.set_cons_succ])
      refine take_dst (i := 26) (v := ?_) (some 77) rfl rfl (by kernel_rfl) (by kernel_rfl) (by kernel_rfl) (fun _ _ _ h => h) (Or.inl ⟨by rfl, ?_⟩) (by assumption) ?_
      rotate_left 1
      focus (intro ww hSw; (try dsimp only at hSw); go_simp; try with_reducible rfl)
      (try simp only [Act.put, List.setIfInBounds_toArray, List.set_cons_zero, List.set_cons_succ])
      refine take_dst (i := 27) (v := ?_) (some 78) rfl rfl (by kernel_rfl) (by kernel_rfl) (by kernel_rfl) (fun _ _ _ h => h) (Or.inl ⟨by rfl, ?_⟩) (by assumption) ?_
      rotate_left 1
      focus (intro ww hSw; (try dsimp only at hSw); go_simp; try with_reducible rfl)
      (try simp only [Act.put, List.setIfInBounds_toArray, List.set_cons_zero, List.set_cons_succ])
      refine take_dst (i := 28) (v := ?_) (some 79) rfl rfl (by kernel_rfl) (by kernel_rfl) (by kernel_rfl) (fun _ _ _ h => h) (Or.inl ⟨by rfl, ?_⟩) (by assumption) ?_
      rotate_left 1
      focus (intro ww hSw; (try dsimp only at hSw); go_simp; try with_reducible rfl)
      (try simp only [Act.put, List.setIfInBounds_toArray, List.set_cons_zero, List.set_cons_succ])
      refine wpAnyH_ready (rs := [29]) (by kernel_rfl) (by simp) ?_
      refine AllReadyH.cons rfl (fun K hK => ?_) AllReadyH.nil
      go_simp
      refine (HAWB.out _ hb2).mono ?_
      rintro e w3 ⟨rfl, hb3⟩
      clear hHeld
      go_wp2_with fail
      refine hK.out _ _ ?_ (fun hHeld => ?_)
      · exact HSK.out _ hb3
      clear hK K
      (try simp only [Act.put, List.setIfInBounds_toArray, List.set_cons_zero, List.set_cons_succ])
      refine take_dst (i := 30) (v := ?_) (some 81) rfl rfl (by kernel_rfl) (by kernel_rfl) (by kernel_rfl) (fun _ _ _ h => h) (Or.inl ⟨by rfl, ?_⟩) (by assumption) ?_
      rotate_left 1
      focus (intro ww hSw; (try dsimp only at hSw); go_simp; try with_reducible rfl)
      (try simp only [Act.put, List.setIfInBounds_toArray, List.set_cons_zero, List.set_cons_succ])
      refine take_dst (i := 31) (v := ?_) (some 4) rfl rfl (by kernel_rfl) (by kernel_rfl) (by kernel_rfl) (fun _ _ _ h => h) (Or.inl ⟨by rfl, ?_⟩) (by assumption) ?_
      rotate_left 1
      focus (intro ww hSw; (try dsimp only at hSw); go_simp; try with_reducible rfl)
      (try simp only [Act.put, List.setIfInBounds_toArray, List.set_cons_zero, List.set_cons_succ])
      refine wpAnyH_done (by kernel_rfl) ?_ _
      go_wp2_with fail
      go_ret
      exact ⟨rfl, HB8.out.trans (hb3.mono HB8.out.size)⟩
end Go.Proofs.YtlgfepaicgnkpaaDoor
