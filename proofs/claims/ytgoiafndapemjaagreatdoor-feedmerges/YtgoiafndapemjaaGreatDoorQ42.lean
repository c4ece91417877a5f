import Derived.Test.YtgoiafndapemjaaGreatDoorQ41
set_option linter.unusedVariables false
set_option linter.unusedSimpArgs false
set_option maxHeartbeats 1000000
namespace Go.Proofs.YtgoiafndapemjaaGreatDoor
open Go.RowKit Go.BigFrame
attribute [local go_sem ↓] loadN_eq storeF_eq buildF_eq
theorem rssE_fit {d : Nat} {t : Tr d} (hw : wtT d t ≤ 12000) : FitE1 140737488355328 (rssE d t) := by
  have h0 := idL_len
  unfold rssE mkE
  refine ⟨?_, ?_, ?_, ?_⟩
  · show (idL _ _ _).length ≤ _
    rw [h0]
    omega
  · exact Nat.le_trans (Nat.le_trans (shL_len _) (kid_len titleN hw)) (by omega)
  · exact Nat.le_trans (Nat.le_trans (shL_len _) (kid_len linkN hw)) (by omega)
  · exact Nat.le_trans (Nat.le_trans (shL_len _) (kid_len descN hw)) (by omega)
set_option maxHeartbeats 8000000 in
set_option maxRecDepth 100000 in
theorem rss_any (d : Nat) (t : Tr d) (hw : wtT d t ≤ 12000) (P : Nat → Prop) (cs : Array Value) (w : World) (hT : TabF w) (hnd : NdAt P d w cs t) : Calls Tryz.prog 26 #[.agg cs] w fun e w' => ∃ v, e = .returned v ∧ FeedO w' w.heap.size v (rssF d t) ∧ Below w.heap.size w w' := by
  have HTI : Hid (∀ W, Below w.heap.size w W → Calls Tryz.prog 56 #[.agg cs, .string ⟨#[116, 105, 116, 108, 101]⟩] W fun e w' => e = .returned (.string (asS (shL (kidL titleN d t)))) ∧ Below W.heap.size W w') := fun W hb => shortOf_any titleN d t hw P cs W (hnd.below hb (Nat.le_refl _))
  have HLI : Hid (∀ W, Below w.heap.size w W → Calls Tryz.prog 56 #[.agg cs, .string ⟨#[108, 105, 110, 107]⟩] W fun e w' => e = .returned (.string (asS (shL (kidL linkN d t)))) ∧ Below W.heap.size W w') := fun W hb => shortOf_any linkN d t hw P cs W (hnd.below hb (Nat.le_refl _))
  have HFI : Hid (∀ W, Below w.heap.size w W → Calls Tryz.prog 25 #[.agg cs, .string ⟨#[105, 116, 101, 109]⟩] W fun e w' => ∃ v, e = .returned v ∧ (Below W.heap.size W w' ∧ ∃ A' c, v = .slice A' (fndT itemN (d - 1) (kidsT d t)).length c ∧ NdsAt (fun _ => True) (d - 1) w' A' (fndT itemN (d - 1) (kidsT d t)))) := fun W hb => find_at itemN d t hw P cs w W hnd hb
  have HFD : Hid (rssF d t = ⟨shL (kidL titleN d t), shL (kidL linkN d t), firstsU EnV.id ((fndT itemN (d - 1) (kidsT d t)).map (rssE (d - 1)))⟩) := rfl
  rw [HFD.out]
  have HWT := hid (fun k hk => fnd_wt (nm := itemN) hw k hk)
  have hlen : (fndT itemN (d - 1) (kidsT d t)).length ≤ 12000 := fnd_few hw
  have HT := hid (fun W hb => hT.below (w' := W) hb)
  obtain ⟨A, B, C, D, rfl, o1, o2, o3, o4⟩ := nd_four (hnd.mono fun q _ hl => hl)
  clear hnd hw hT HFD o1 o2 o3 o4
  generalize shL (kidL titleN d t) = tiL at HTI ⊢
  generalize shL (kidL linkN d t) = liL at HLI ⊢
  generalize fndT itemN (d - 1) (kidsT d t) = fl at HFI HWT hlen ⊢
  have HFIT : Hid (FitE 140737488355328 (fl.map (rssE (d - 1)))) := fun e he => by
    obtain ⟨k, hk, rfl⟩ := List.mem_map.1 he
    exact rssE_fit (HWT.out k hk)
  generalize hFL : firstsU EnV.id (fl.map (rssE (d - 1))) = FL
  have HFL : Hid (firstsU EnV.id (fl.map (rssE (d - 1))) = FL) := hFL
  clear hFL
  generalize hTI : asS tiL = TI at HTI
  generalize hLI : asS liL = LI at HLI
  have HTIL := hid hTI
  have HLIL := hid hLI
  clear hTI hLI
  generalize hn : fl.length = n at HFI hlen
  have HN := hid hn
  clear hn
  obtain ⟨W1, hW1⟩ : ∃ W1, (w.alloc (.cells #[A, B, C, D] 25)).alloc (.cells #[.string ⟨#[]⟩, .string ⟨#[]⟩, .slice none 0 0] 30) = W1 := ⟨_, rfl⟩
  have HR1 : Hid (W1.heap[w.heap.size]? = some (.cells #[A, B, C, D] 25 (0, 0))) := by rw [← hW1]; exact heap_first w _ _
  have HZ1 : Hid (W1.heap[w.heap.size + 1]? = some (.cells #[.string ⟨#[]⟩, .string ⟨#[]⟩, .slice none 0 0] 30 (0, 0))) := by rw [← hW1]; exact heap_second w _ _
  have HB1 : Hid (Below w.heap.size w W1) := by rw [← hW1]; exact ((Below.refl _ _).alloc (Nat.le_refl _) _).alloc (by simp) _
  have hzW1 : w.heap.size + 1 < W1.heap.size := (Array.getElem?_eq_some_iff.1 HZ1.out).1
  have hld1 := loadN_run HR1.out rfl
  go_enter Tryz.func26, Tryz.ntmps26
  go_wp2_with fail
  refine (HFI.out W1 HB1.out).mono ?_
  rintro e W2 ⟨v, rfl, hb2, A1, c1, rfl, hn1⟩
  have HNS := hid hn1
  have HB2 := hid (bel2 HB1.out hb2)
  have HR2 := hid (row_keep hb2 HR1.out)
  have HZ2 := hid (row_keep hb2 HZ1.out)
  have hz2 : w.heap.size + 1 < W2.heap.size := (Array.getElem?_eq_some_iff.1 HZ2.out).1
  clear hb2 hn1 hld1 hW1 HR1 HZ1 HB1 HFI hzW1
  go_wp2_with fail
  go_loopw [3, 9] (fun v i wr => ∃ k : Nat, k ≤ n ∧ i = .int .i64 (k : Int) ∧ Hid (OwnE wr W2.heap.size v ((fl.take k).map (rssE (d - 1)))) ∧ Hid (Below W2.heap.size W2 wr)) (fun v i wr => n - (intOf i).toNat)
  case atStart => exact ⟨0, Nat.zero_le _, rfl, OwnE.nil _ _, Below.refl _ _⟩
  case round =>
    obtain ⟨k, hk, rfl, HO, HB⟩ := hrel
    have HBW : Hid (Below w.heap.size w wr) := bel2 HB2.out HB.out
    by_cases hlt : k < n
    · have hi : (k : Int) < (n : Int) := by omega
      have hkl : k < fl.length := by have := HN.out; omega
      obtain ⟨q, o, a1, b1, b2, b3, a3, d1, d2, d3, rfl, hq, hld, hk2⟩ := (HNS.out.below HB.out (Nat.le_refl _)).load2 k hkl
      have HTK : Hid ((fl.take (k + 1)).map (rssE (d - 1)) = (fl.take k).map (rssE (d - 1)) ++ [rssE (d - 1) (fl.getD k (zeroT (d - 1)))]) := by show _ = _; rw [take_sn fl k (zeroT (d - 1)) hkl, List.map_append]; rfl
      have HLE : Hid (((fl.take k).map (rssE (d - 1))).length ≤ 12000) := by show _ ≤ _; rw [List.length_map, List.length_take]; omega
      have HWK := hid (HWT.out _ (getD_mem9 (z := zeroT (d - 1)) hkl))
      obtain ⟨A', c', hsh⟩ := HO.out.shape
      clear hkl
      generalize fl.getD k (zeroT (d - 1)) = kt at HTK HWK hk2
      obtain ⟨V, hV⟩ : ∃ V, wr.alloc (.cells #[.string a1, .slice b1 b2 b3, .string a3, .slice d1 d2 d3] 25) = V := ⟨_, rfl⟩
      have hrow : V.heap[wr.heap.size]? = some (.cells #[.string a1, .slice b1 b2 b3, .string a3, .slice d1 d2 d3] 25 (0, 0)) := by rw [← hV]; exact heap_alloc_new wr _
      have hbV : Below wr.heap.size wr V := by rw [← hV]; exact (Below.refl _ _).alloc (Nat.le_refl _) _
      have hldV := loadN_run hrow rfl
      have HBV := hid (HB.out.trans (hbV.mono HB.out.size))
      have HEN := hid (rssEntry_any (d - 1) kt HWK.out _ _ V (HT.out V (HBW.out.trans (hbV.mono HBW.out.size))) (hk2.below hbV (Nat.le_refl _)))
      have HOV := hid (HO.out.below hbV)
      clear hrow hbV hk2 HWK
      generalize rssE (d - 1) kt = e at HEN HTK
      have HEQ : ecs e = ecs e := rfl
      have HEC0 := hid (show ecs e = #[.string (asS e.id), .string (asS e.title), .string (asS e.link), .string (asS e.body), .int .i64 e.time, .bool e.dated] from rfl)
      rw [HEC0.out] at HEN
      generalize asS e.id = S1 at HEN HEC0
      generalize asS e.title = S2 at HEN HEC0
      generalize asS e.link = S3 at HEN HEC0
      generalize asS e.body = S4 at HEN HEC0
      generalize e.time = T1 at HEN HEC0
      generalize e.dated = D1 at HEN HEC0
      clear HEQ
      generalize (fl.take k).map (rssE (d - 1)) = fk at HO HTK HOV hsh HLE
      rw [hsh] at HOV ⊢
      generalize hm : fk.length = m at HOV hsh HLE
      have HMM := hid hm
      clear hm
      go_wp2_with fail
      refine HEN.out.mono ?_
      rintro e9 V2 ⟨rfl, hb2⟩
      have HOV2 := hid (HOV.out.below hb2)
      have HBV2 := hid (bel2 HBV.out hb2)
      clear hb2 hldV HEN HOV HBV
      go_wp2_with (first
        | (refine wpList_en rfl _ _ rfl W2.heap.size _ _ fk [e] rfl rfl (HOV2.out.below ((Below.refl _ _).alloc (Nat.le_refl _) _)) (src_en _ e V2.heap.size 1 (by rw [HEC0.out]; exact heap_alloc_new V2 _)) (.inl (by simp)) (by have := HLE.out; rw [HMM.out]; simp; omega) (by have := HBV2.out.size; simp; omega) ?_; intro v9 w9 h9 hb9; (have H9 := hid h9); (have HB9 := hid hb9); clear h9 hb9)
        | fail)
      go_roundw
      case rel =>
        have hcat : Below W2.heap.size V2 w9 := (((Below.refl V2.heap.size V2).alloc (Nat.le_refl _) _).mono HBV2.out.size).trans HB9.out
        exact ⟨k + 1, by omega, by go_num, (by show OwnE _ _ _ _; rw [HTK.out]; exact H9.out), HBV2.out.trans hcat⟩
      case measure => simp [intOf]; omega
    · have hi : ¬ (k : Int) < (n : Int) := by omega
      have HAL : Hid ((fl.take k).map (rssE (d - 1)) = fl.map (rssE (d - 1))) := by show _ = _; rw [List.take_of_length_le (by have := HN.out; omega)]
      rw [HAL.out] at HO
      obtain ⟨A', c', hsh, hat⟩ := HO.out.ents
      have HLM : Hid ((fl.map (rssE (d - 1))).length ≤ 12000) := by show _ ≤ _; rw [List.length_map, HN.out]; exact hlen
      have HFS0 : Hid (∀ W, OwnE W W2.heap.size (.slice A' (fl.map (rssE (d - 1))).length c') (fl.map (rssE (d - 1))) → Calls Tryz.prog 51 #[.slice A' (fl.map (rssE (d - 1))).length c'] W fun e w' => ∃ A9 c9, e = .returned (.slice A9 FL.length c9) ∧ OwnE w' W.heap.size (.slice A9 FL.length c9) FL ∧ Below W.heap.size W w') := fun W ho => by
        obtain ⟨A'', c'', he, hat'⟩ := ho.ents
        injection he with he1 he2 he3
        subst he1
        exact (firsts_any _ _ rfl (by have := HLM.out; omega) HFIT.out _ c' W hat').mono fun e w' hh => by
          obtain ⟨v, rfl, h1, h2⟩ := hh
          rw [HFL.out] at h1
          obtain ⟨A9, c9, hv⟩ := h1.shape
          subst hv
          exact ⟨A9, c9, rfl, h1, h2⟩
      have HOA := hid (show OwnE wr W2.heap.size (.slice A' (fl.map (rssE (d - 1))).length c') (fl.map (rssE (d - 1))) from by rw [← hsh]; exact HO.out)
      rw [hsh]
      clear hat HO HAL HFIT HFL
      generalize (fl.map (rssE (d - 1))).length = m at HFS0 HOA hsh
      generalize fl.map (rssE (d - 1)) = LL at HFS0 HOA
      generalize hfm : FL.length = fm at HFS0
      have HFM := hid hfm
      clear hfm
      have HRW := hid (row_keep HB.out HR2.out)
      have HZW := hid (row_keep HB.out HZ2.out)
      obtain ⟨V, hV⟩ : ∃ V, V = wr := ⟨_, rfl⟩
      subst hV
      obtain ⟨Sz, hSz⟩ : ∃ Sz : World → Prop, Sz = fun W => Below w.heap.size w W ∧ W.heap[w.heap.size]? = some (.cells #[A, B, C, D] 25 (0, 0)) ∧ (∃ x : Array Value, W.heap[w.heap.size + 1]? = some (.cells x 30 (0, 0)) ∧ x.size = 3) ∧ OwnE W W2.heap.size (.slice A' m c') LL ∧ W2.heap.size ≤ W.heap.size := ⟨_, rfl⟩
      have HS0 : Hid (Sz V) := by show Sz V; rw [hSz]; exact ⟨HBW.out, HRW.out, ⟨_, HZW.out, rfl⟩, HOA.out, HB.out.size⟩
      have HSB : Hid (∀ W W', Sz W → Below W.heap.size W W' → Sz W') := fun W W' h hb => by
        rw [hSz] at h ⊢
        obtain ⟨h1, h2, ⟨x, h3, hx⟩, h4, h5⟩ := h
        exact ⟨bel2 h1 hb, row_keep hb h2, ⟨x, row_keep hb h3, hx⟩, h4.below hb, Nat.le_trans h5 hb.size⟩
      have HSW : Hid (∀ W, Sz W → Below w.heap.size w W) := fun W h => by rw [hSz] at h; exact h.1
      have HSS : Hid (∀ W, Sz W → (loadI 25 (.pointer (some ⟨w.heap.size, 0, none⟩))).run Tryz.prog W = .ok (.agg #[A, B, C, D]) W ∧ Hid (Sz W)) := fun W h => by
        have h' := h
        rw [hSz] at h
        exact ⟨loadN_run h.2.1 rfl, h'⟩
      have HFS : Hid (∀ W, Sz W → Calls Tryz.prog 51 #[.slice A' m c'] W fun e w' => ∃ A9 c9, e = .returned (.slice A9 fm c9) ∧ OwnE w' W2.heap.size (.slice A9 fm c9) FL ∧ Below W.heap.size W w') := fun W h => by
        rw [hSz] at h
        exact (HFS0.out W h.2.2.2.1).mono fun e w' hh => by
          obtain ⟨A9, c9, h1, h2, h3⟩ := hh
          exact ⟨A9, c9, h1, h2.le h.2.2.2.2, h3⟩
      obtain ⟨PF, hPF⟩ : ∃ PF : World → Option Addr → Nat → World, PF = fun W A9 c9 => putE W (w.heap.size + 1) #[.string TI, .string LI, .slice A9 fm c9] := ⟨_, rfl⟩
      have HST : Hid (∀ W A9 c9, Sz W → (storeI 30 (.pointer (some ⟨w.heap.size + 1, 0, none⟩)) (.agg #[.string TI, .string LI, .slice A9 fm c9])).run Tryz.prog W = .ok () (PF W A9 c9)) := fun W A9 c9 h => by
        rw [hSz] at h
        obtain ⟨h1, h2, ⟨x, h3, hx⟩, h4, h5⟩ := h
        rw [hPF]
        exact storeF_row _ _ _ _ _ h3 hx
      have HPF : Hid (∀ W A9 c9, Sz W → OwnE W W2.heap.size (.slice A9 fm c9) FL → Sz (PF W A9 c9) ∧ (PF W A9 c9).heap[w.heap.size + 1]? = some (.cells #[.string TI, .string LI, .slice A9 fm c9] 30 (0, 0)) ∧ OwnE (PF W A9 c9) W2.heap.size (.slice A9 fm c9) FL ∧ Below w.heap.size w (PF W A9 c9)) := fun W A9 c9 h ho => by
        rw [hSz] at h ⊢
        obtain ⟨h1, h2, ⟨x, h3, hx⟩, h4, h5⟩ := h
        rw [hPF]
        have hO := putE_only W (w.heap.size + 1) #[.string TI, .string LI, .slice A9 fm c9]
        have hr : (putE W (w.heap.size + 1) #[.string TI, .string LI, .slice A9 fm c9]).heap[w.heap.size + 1]? = some (.cells #[.string TI, .string LI, .slice A9 fm c9] 30 (0, 0)) := putE_row h3 (by rw [hx]; rfl)
        have k1 := h1.trans (hO.below (B := w.heap.size) (by omega))
        exact ⟨⟨k1, (hO.block _ (by omega)).trans h2, ⟨_, hr, rfl⟩, h4.only hO hz2, by rw [hO.size]; exact h5⟩, hr, ho.only hO hz2, k1⟩
      have hbu := fun A9 c9 W => run_buildF TI LI A9 fm c9 W
      clear hPF HT HWT hSz
      go_upto_region 7 with (fail)
      go_cut [] (fun wx => ∃ A9 c9, Hid (wx.heap[w.heap.size + 1]? = some (.cells #[.string TI, .string LI, .slice A9 fm c9] 30 (0, 0))) ∧ Hid (OwnE wx W2.heap.size (.slice A9 fm c9) FL) ∧ Hid (Below w.heap.size w wx))
      case first =>
        go_region_held3 (fun W => (loadI 25 (.pointer (some ⟨w.heap.size, 0, none⟩))).run Tryz.prog W = .ok (.agg #[A, B, C, D]) W ∧ Hid (Sz W))
          (first
            | exact HSS.out _ (HSB.out _ _ HS0.out (below_drewN _ _ 1))
            | (go_split_ands
               refine HSS.out _ ?_
               first
                 | exact (HPF.out _ _ _ hS9 ho9).1
                 | exact hS9
                 | exact Hid.out (by assumption)
                 | exact HSB.out _ _ (Hid.out (by assumption)) hbB
                 | exact HSB.out _ _ (Hid.out (by assumption)) hbA))
          ((first
            | (go_at_call_has 56 (Value.string (⟨#[116, 105, 116, 108, 101]⟩ : ByteArray)); go_split_ands; refine (HTI.out _ (HSW.out _ (Hid.out (by assumption)))).mono ?_; rintro e w9 ⟨rfl, hbA⟩)
            | (go_at_call_has 56 (Value.string (⟨#[108, 105, 110, 107]⟩ : ByteArray)); go_split_ands; refine (HLI.out _ (HSW.out _ (Hid.out (by assumption)))).mono ?_; rintro e w9 ⟨rfl, hbB⟩)
            | (go_at_call 51; go_split_ands; refine (HFS.out _ (Hid.out (by assumption))).mono ?_; rintro e w9 ⟨A9, c9, rfl, ho9, hbC⟩; have hS9 := HSB.out _ _ (Hid.out (by assumption)) hbC; have hsx := HST.out _ A9 c9 hS9)
            | fail))
        all_goals
          go_wp2_with fail
          go_meet
          exact ⟨_, _, (HPF.out _ _ _ hS9 ho9).2.1, (HPF.out _ _ _ hS9 ho9).2.2.1, (HPF.out _ _ _ hS9 ho9).2.2.2⟩
      case rest =>
        obtain ⟨A9, c9, HR9, HO9, HB9⟩ := hcut
        go_wp2_with fail
        refine bodyPost_ret (ret_fd (p := 2) Tryz.results26 _ _ (w.heap.size + 1) #[.string TI, .string LI, .slice A9 fm c9] rfl (0, 0) rfl HR9.out) rfl ⟨_, rfl, ?_, HB9.out⟩
        exact ⟨A9, c9, by rw [HTIL.out, HLIL.out, HFM.out], by rw [HFM.out]; exact HO9.out.le (by omega)⟩
theorem atomE_fit {d : Nat} {t : Tr d} (hw : wtT d t ≤ 12000) : FitE1 140737488355328 (atomE d t) := by
  have h0 := idL_len
  unfold atomE mkE
  refine ⟨?_, ?_, ?_, ?_⟩
  · show (idL _ _ _).length ≤ _
    rw [h0]
    omega
  · exact Nat.le_trans (Nat.le_trans (shL_len _) (kid_len titleN hw)) (by omega)
  · exact Nat.le_trans (link_len hw) (by omega)
  · exact Nat.le_trans (orL_len (Nat.le_trans (shL_len _) (kid_len sumN' hw)) (Nat.le_trans (shL_len _) (kid_len contN hw))) (by omega)
set_option maxHeartbeats 8000000 in
set_option maxRecDepth 100000 in
theorem atom_any (d : Nat) (t : Tr d) (hw : wtT d t ≤ 12000) (P : Nat → Prop) (cs : Array Value) (w : World) (hT : TabF w) (hnd : NdAt P d w cs t) : Calls Tryz.prog 27 #[.agg cs] w fun e w' => ∃ v, e = .returned v ∧ FeedO w' w.heap.size v (atomF d t) ∧ Below w.heap.size w w' := by
  have HTI : Hid (∀ W, Below w.heap.size w W → Calls Tryz.prog 56 #[.agg cs, .string ⟨#[116, 105, 116, 108, 101]⟩] W fun e w' => e = .returned (.string (asS (shL (kidL titleN d t)))) ∧ Below W.heap.size W w') := fun W hb => shortOf_any titleN d t hw P cs W (hnd.below hb (Nat.le_refl _))
  have HLI : Hid (∀ W, Below w.heap.size w W → Calls Tryz.prog 58 #[.agg cs] W fun e w' => e = .returned (.string (asS (linkA d t))) ∧ Below W.heap.size W w') := fun W hb => atomLink_any d t hw P cs W (hnd.below hb (Nat.le_refl _))
  have HFI : Hid (∀ W, Below w.heap.size w W → Calls Tryz.prog 25 #[.agg cs, .string ⟨#[101, 110, 116, 114, 121]⟩] W fun e w' => ∃ v, e = .returned v ∧ (Below W.heap.size W w' ∧ ∃ A' c, v = .slice A' (fndT entryN (d - 1) (kidsT d t)).length c ∧ NdsAt (fun _ => True) (d - 1) w' A' (fndT entryN (d - 1) (kidsT d t)))) := fun W hb => find_at entryN d t hw P cs w W hnd hb
  have HFD : Hid (atomF d t = ⟨shL (kidL titleN d t), linkA d t, firstsU EnV.id ((fndT entryN (d - 1) (kidsT d t)).map (atomE (d - 1)))⟩) := rfl
  rw [HFD.out]
  have HWT := hid (fun k hk => fnd_wt (nm := entryN) hw k hk)
  have hlen : (fndT entryN (d - 1) (kidsT d t)).length ≤ 12000 := fnd_few hw
  have HT := hid (fun W hb => hT.below (w' := W) hb)
  obtain ⟨A, B, C, D, rfl, o1, o2, o3, o4⟩ := nd_four (hnd.mono fun q _ hl => hl)
  clear hnd hw hT HFD o1 o2 o3 o4
  generalize shL (kidL titleN d t) = tiL at HTI ⊢
  generalize linkA d t = liL at HLI ⊢
  generalize fndT entryN (d - 1) (kidsT d t) = fl at HFI HWT hlen ⊢
  have HFIT : Hid (FitE 140737488355328 (fl.map (atomE (d - 1)))) := fun e he => by
    obtain ⟨k, hk, rfl⟩ := List.mem_map.1 he
    exact atomE_fit (HWT.out k hk)
  generalize hFL : firstsU EnV.id (fl.map (atomE (d - 1))) = FL
  have HFL : Hid (firstsU EnV.id (fl.map (atomE (d - 1))) = FL) := hFL
  clear hFL
  generalize hTI : asS tiL = TI at HTI
  generalize hLI : asS liL = LI at HLI
  have HTIL := hid hTI
  have HLIL := hid hLI
  clear hTI hLI
  generalize hn : fl.length = n at HFI hlen
  have HN := hid hn
  clear hn
  obtain ⟨W1, hW1⟩ : ∃ W1, (w.alloc (.cells #[A, B, C, D] 25)).alloc (.cells #[.string ⟨#[]⟩, .string ⟨#[]⟩, .slice none 0 0] 30) = W1 := ⟨_, rfl⟩
  have HR1 : Hid (W1.heap[w.heap.size]? = some (.cells #[A, B, C, D] 25 (0, 0))) := by rw [← hW1]; exact heap_first w _ _
  have HZ1 : Hid (W1.heap[w.heap.size + 1]? = some (.cells #[.string ⟨#[]⟩, .string ⟨#[]⟩, .slice none 0 0] 30 (0, 0))) := by rw [← hW1]; exact heap_second w _ _
  have HB1 : Hid (Below w.heap.size w W1) := by rw [← hW1]; exact ((Below.refl _ _).alloc (Nat.le_refl _) _).alloc (by simp) _
  have hzW1 : w.heap.size + 1 < W1.heap.size := (Array.getElem?_eq_some_iff.1 HZ1.out).1
  have hld1 := loadN_run HR1.out rfl
  go_enter Tryz.func27, Tryz.ntmps27
  go_wp2_with fail
  refine (HFI.out W1 HB1.out).mono ?_
  rintro e W2 ⟨v, rfl, hb2, A1, c1, rfl, hn1⟩
  have HNS := hid hn1
  have HB2 := hid (bel2 HB1.out hb2)
  have HR2 := hid (row_keep hb2 HR1.out)
  have HZ2 := hid (row_keep hb2 HZ1.out)
  have hz2 : w.heap.size + 1 < W2.heap.size := (Array.getElem?_eq_some_iff.1 HZ2.out).1
  clear hb2 hn1 hld1 hW1 HR1 HZ1 HB1 HFI hzW1
  go_wp2_with fail
  go_loopw [3, 9] (fun v i wr => ∃ k : Nat, k ≤ n ∧ i = .int .i64 (k : Int) ∧ Hid (OwnE wr W2.heap.size v ((fl.take k).map (atomE (d - 1)))) ∧ Hid (Below W2.heap.size W2 wr)) (fun v i wr => n - (intOf i).toNat)
  case atStart => exact ⟨0, Nat.zero_le _, rfl, OwnE.nil _ _, Below.refl _ _⟩
  case round =>
    obtain ⟨k, hk, rfl, HO, HB⟩ := hrel
    have HBW : Hid (Below w.heap.size w wr) := bel2 HB2.out HB.out
    by_cases hlt : k < n
    · have hi : (k : Int) < (n : Int) := by omega
      have hkl : k < fl.length := by have := HN.out; omega
      obtain ⟨q, o, a1, b1, b2, b3, a3, d1, d2, d3, rfl, hq, hld, hk2⟩ := (HNS.out.below HB.out (Nat.le_refl _)).load2 k hkl
      have HTK : Hid ((fl.take (k + 1)).map (atomE (d - 1)) = (fl.take k).map (atomE (d - 1)) ++ [atomE (d - 1) (fl.getD k (zeroT (d - 1)))]) := by show _ = _; rw [take_sn fl k (zeroT (d - 1)) hkl, List.map_append]; rfl
      have HLE : Hid (((fl.take k).map (atomE (d - 1))).length ≤ 12000) := by show _ ≤ _; rw [List.length_map, List.length_take]; omega
      have HWK := hid (HWT.out _ (getD_mem9 (z := zeroT (d - 1)) hkl))
      obtain ⟨A', c', hsh⟩ := HO.out.shape
      clear hkl
      generalize fl.getD k (zeroT (d - 1)) = kt at HTK HWK hk2
      obtain ⟨V, hV⟩ : ∃ V, wr.alloc (.cells #[.string a1, .slice b1 b2 b3, .string a3, .slice d1 d2 d3] 25) = V := ⟨_, rfl⟩
      have hrow : V.heap[wr.heap.size]? = some (.cells #[.string a1, .slice b1 b2 b3, .string a3, .slice d1 d2 d3] 25 (0, 0)) := by rw [← hV]; exact heap_alloc_new wr _
      have hbV : Below wr.heap.size wr V := by rw [← hV]; exact (Below.refl _ _).alloc (Nat.le_refl _) _
      have hldV := loadN_run hrow rfl
      have HBV := hid (HB.out.trans (hbV.mono HB.out.size))
      have HEN := hid (atomEntry_any (d - 1) kt HWK.out _ _ V (HT.out V (HBW.out.trans (hbV.mono HBW.out.size))) (hk2.below hbV (Nat.le_refl _)))
      have HOV := hid (HO.out.below hbV)
      clear hrow hbV hk2 HWK
      generalize atomE (d - 1) kt = e at HEN HTK
      have HEQ : ecs e = ecs e := rfl
      have HEC0 := hid (show ecs e = #[.string (asS e.id), .string (asS e.title), .string (asS e.link), .string (asS e.body), .int .i64 e.time, .bool e.dated] from rfl)
      rw [HEC0.out] at HEN
      generalize asS e.id = S1 at HEN HEC0
      generalize asS e.title = S2 at HEN HEC0
      generalize asS e.link = S3 at HEN HEC0
      generalize asS e.body = S4 at HEN HEC0
      generalize e.time = T1 at HEN HEC0
      generalize e.dated = D1 at HEN HEC0
      clear HEQ
      generalize (fl.take k).map (atomE (d - 1)) = fk at HO HTK HOV hsh HLE
      rw [hsh] at HOV ⊢
      generalize hm : fk.length = m at HOV hsh HLE
      have HMM := hid hm
      clear hm
      go_wp2_with fail
      refine HEN.out.mono ?_
      rintro e9 V2 ⟨rfl, hb2⟩
      have HOV2 := hid (HOV.out.below hb2)
      have HBV2 := hid (bel2 HBV.out hb2)
      clear hb2 hldV HEN HOV HBV
      go_wp2_with (first
        | (refine wpList_en rfl _ _ rfl W2.heap.size _ _ fk [e] rfl rfl (HOV2.out.below ((Below.refl _ _).alloc (Nat.le_refl _) _)) (src_en _ e V2.heap.size 1 (by rw [HEC0.out]; exact heap_alloc_new V2 _)) (.inl (by simp)) (by have := HLE.out; rw [HMM.out]; simp; omega) (by have := HBV2.out.size; simp; omega) ?_; intro v9 w9 h9 hb9; (have H9 := hid h9); (have HB9 := hid hb9); clear h9 hb9)
        | fail)
      go_roundw
      case rel =>
        have hcat : Below W2.heap.size V2 w9 := (((Below.refl V2.heap.size V2).alloc (Nat.le_refl _) _).mono HBV2.out.size).trans HB9.out
        exact ⟨k + 1, by omega, by go_num, (by show OwnE _ _ _ _; rw [HTK.out]; exact H9.out), HBV2.out.trans hcat⟩
      case measure => simp [intOf]; omega
    · have hi : ¬ (k : Int) < (n : Int) := by omega
      have HAL : Hid ((fl.take k).map (atomE (d - 1)) = fl.map (atomE (d - 1))) := by show _ = _; rw [List.take_of_length_le (by have := HN.out; omega)]
      rw [HAL.out] at HO
      obtain ⟨A', c', hsh, hat⟩ := HO.out.ents
      have HLM : Hid ((fl.map (atomE (d - 1))).length ≤ 12000) := by show _ ≤ _; rw [List.length_map, HN.out]; exact hlen
      have HFS0 : Hid (∀ W, OwnE W W2.heap.size (.slice A' (fl.map (atomE (d - 1))).length c') (fl.map (atomE (d - 1))) → Calls Tryz.prog 51 #[.slice A' (fl.map (atomE (d - 1))).length c'] W fun e w' => ∃ A9 c9, e = .returned (.slice A9 FL.length c9) ∧ OwnE w' W.heap.size (.slice A9 FL.length c9) FL ∧ Below W.heap.size W w') := fun W ho => by
        obtain ⟨A'', c'', he, hat'⟩ := ho.ents
        injection he with he1 he2 he3
        subst he1
        exact (firsts_any _ _ rfl (by have := HLM.out; omega) HFIT.out _ c' W hat').mono fun e w' hh => by
          obtain ⟨v, rfl, h1, h2⟩ := hh
          rw [HFL.out] at h1
          obtain ⟨A9, c9, hv⟩ := h1.shape
          subst hv
          exact ⟨A9, c9, rfl, h1, h2⟩
      have HOA := hid (show OwnE wr W2.heap.size (.slice A' (fl.map (atomE (d - 1))).length c') (fl.map (atomE (d - 1))) from by rw [← hsh]; exact HO.out)
      rw [hsh]
      clear hat HO HAL HFIT HFL
      generalize (fl.map (atomE (d - 1))).length = m at HFS0 HOA hsh
      generalize fl.map (atomE (d - 1)) = LL at HFS0 HOA
      generalize hfm : FL.length = fm at HFS0
      have HFM := hid hfm
      clear hfm
      have HRW := hid (row_keep HB.out HR2.out)
      have HZW := hid (row_keep HB.out HZ2.out)
      obtain ⟨V, hV⟩ : ∃ V, V = wr := ⟨_, rfl⟩
      subst hV
      obtain ⟨Sz, hSz⟩ : ∃ Sz : World → Prop, Sz = fun W => Below w.heap.size w W ∧ W.heap[w.heap.size]? = some (.cells #[A, B, C, D] 25 (0, 0)) ∧ (∃ x : Array Value, W.heap[w.heap.size + 1]? = some (.cells x 30 (0, 0)) ∧ x.size = 3) ∧ OwnE W W2.heap.size (.slice A' m c') LL ∧ W2.heap.size ≤ W.heap.size := ⟨_, rfl⟩
      have HS0 : Hid (Sz V) := by show Sz V; rw [hSz]; exact ⟨HBW.out, HRW.out, ⟨_, HZW.out, rfl⟩, HOA.out, HB.out.size⟩
      have HSB : Hid (∀ W W', Sz W → Below W.heap.size W W' → Sz W') := fun W W' h hb => by
        rw [hSz] at h ⊢
        obtain ⟨h1, h2, ⟨x, h3, hx⟩, h4, h5⟩ := h
        exact ⟨bel2 h1 hb, row_keep hb h2, ⟨x, row_keep hb h3, hx⟩, h4.below hb, Nat.le_trans h5 hb.size⟩
      have HSW : Hid (∀ W, Sz W → Below w.heap.size w W) := fun W h => by rw [hSz] at h; exact h.1
      have HSS : Hid (∀ W, Sz W → (loadI 25 (.pointer (some ⟨w.heap.size, 0, none⟩))).run Tryz.prog W = .ok (.agg #[A, B, C, D]) W ∧ Hid (Sz W)) := fun W h => by
        have h' := h
        rw [hSz] at h
        exact ⟨loadN_run h.2.1 rfl, h'⟩
      have HFS : Hid (∀ W, Sz W → Calls Tryz.prog 51 #[.slice A' m c'] W fun e w' => ∃ A9 c9, e = .returned (.slice A9 fm c9) ∧ OwnE w' W2.heap.size (.slice A9 fm c9) FL ∧ Below W.heap.size W w') := fun W h => by
        rw [hSz] at h
        exact (HFS0.out W h.2.2.2.1).mono fun e w' hh => by
          obtain ⟨A9, c9, h1, h2, h3⟩ := hh
          exact ⟨A9, c9, h1, h2.le h.2.2.2.2, h3⟩
      obtain ⟨PF, hPF⟩ : ∃ PF : World → Option Addr → Nat → World, PF = fun W A9 c9 => putE W (w.heap.size + 1) #[.string TI, .string LI, .slice A9 fm c9] := ⟨_, rfl⟩
      have HST : Hid (∀ W A9 c9, Sz W → (storeI 30 (.pointer (some ⟨w.heap.size + 1, 0, none⟩)) (.agg #[.string TI, .string LI, .slice A9 fm c9])).run Tryz.prog W = .ok () (PF W A9 c9)) := fun W A9 c9 h => by
        rw [hSz] at h
        obtain ⟨h1, h2, ⟨x, h3, hx⟩, h4, h5⟩ := h
        rw [hPF]
        exact storeF_row _ _ _ _ _ h3 hx
      have HPF : Hid (∀ W A9 c9, Sz W → OwnE W W2.heap.size (.slice A9 fm c9) FL → Sz (PF W A9 c9) ∧ (PF W A9 c9).heap[w.heap.size + 1]? = some (.cells #[.string TI, .string LI, .slice A9 fm c9] 30 (0, 0)) ∧ OwnE (PF W A9 c9) W2.heap.size (.slice A9 fm c9) FL ∧ Below w.heap.size w (PF W A9 c9)) := fun W A9 c9 h ho => by
        rw [hSz] at h ⊢
        obtain ⟨h1, h2, ⟨x, h3, hx⟩, h4, h5⟩ := h
        rw [hPF]
        have hO := putE_only W (w.heap.size + 1) #[.string TI, .string LI, .slice A9 fm c9]
        have hr : (putE W (w.heap.size + 1) #[.string TI, .string LI, .slice A9 fm c9]).heap[w.heap.size + 1]? = some (.cells #[.string TI, .string LI, .slice A9 fm c9] 30 (0, 0)) := putE_row h3 (by rw [hx]; rfl)
        have k1 := h1.trans (hO.below (B := w.heap.size) (by omega))
        exact ⟨⟨k1, (hO.block _ (by omega)).trans h2, ⟨_, hr, rfl⟩, h4.only hO hz2, by rw [hO.size]; exact h5⟩, hr, ho.only hO hz2, k1⟩
      have hbu := fun A9 c9 W => run_buildF TI LI A9 fm c9 W
      clear hPF HT HWT hSz
      go_upto_region 7 with (fail)
      go_cut [] (fun wx => ∃ A9 c9, Hid (wx.heap[w.heap.size + 1]? = some (.cells #[.string TI, .string LI, .slice A9 fm c9] 30 (0, 0))) ∧ Hid (OwnE wx W2.heap.size (.slice A9 fm c9) FL) ∧ Hid (Below w.heap.size w wx))
      case first =>
        go_region_held3 (fun W => (loadI 25 (.pointer (some ⟨w.heap.size, 0, none⟩))).run Tryz.prog W = .ok (.agg #[A, B, C, D]) W ∧ Hid (Sz W))
          (first
            | exact HSS.out _ (HSB.out _ _ HS0.out (below_drewN _ _ 1))
            | (go_split_ands
               refine HSS.out _ ?_
               first
                 | exact (HPF.out _ _ _ hS9 ho9).1
                 | exact hS9
                 | exact Hid.out (by assumption)
                 | exact HSB.out _ _ (Hid.out (by assumption)) hbB
                 | exact HSB.out _ _ (Hid.out (by assumption)) hbA))
          ((first
            | (go_at_call_has 56 (Value.string (⟨#[116, 105, 116, 108, 101]⟩ : ByteArray)); go_split_ands; refine (HTI.out _ (HSW.out _ (Hid.out (by assumption)))).mono ?_; rintro e w9 ⟨rfl, hbA⟩)
            | (go_at_call 58; go_split_ands; refine (HLI.out _ (HSW.out _ (Hid.out (by assumption)))).mono ?_; rintro e w9 ⟨rfl, hbB⟩)
            | (go_at_call 51; go_split_ands; refine (HFS.out _ (Hid.out (by assumption))).mono ?_; rintro e w9 ⟨A9, c9, rfl, ho9, hbC⟩; have hS9 := HSB.out _ _ (Hid.out (by assumption)) hbC; have hsx := HST.out _ A9 c9 hS9)
            | fail))
        all_goals
          go_wp2_with fail
          go_meet
          exact ⟨_, _, (HPF.out _ _ _ hS9 ho9).2.1, (HPF.out _ _ _ hS9 ho9).2.2.1, (HPF.out _ _ _ hS9 ho9).2.2.2⟩
      case rest =>
        obtain ⟨A9, c9, HR9, HO9, HB9⟩ := hcut
        go_wp2_with fail
        refine bodyPost_ret (ret_fd (p := 2) Tryz.results27 _ _ (w.heap.size + 1) #[.string TI, .string LI, .slice A9 fm c9] rfl (0, 0) rfl HR9.out) rfl ⟨_, rfl, ?_, HB9.out⟩
        exact ⟨A9, c9, by rw [HTIL.out, HLIL.out, HFM.out], by rw [HFM.out]; exact HO9.out.le (by omega)⟩
end Go.Proofs.YtgoiafndapemjaaGreatDoor
