import Derived.Test.YtgoiafndapemjaaGreatDoorQ39
set_option linter.unusedVariables false
set_option linter.unusedSimpArgs false
set_option maxHeartbeats 1000000
namespace Go.Proofs.YtgoiafndapemjaaGreatDoor
open Go.RowKit Go.BigFrame
attribute [local go_sem ↓] loadN_eq loadE_eq storeE_eq buildE_eq storeS_eq
theorem mkE_cells (title link body : List UInt8) (time : Option Int) (name : List UInt8) : ecs (mkE title link body time name) = #[.string (asS (idL (orL name link) title body)), .string (asS title), .string (asS link), .string (asS body), .int .i64 (time.getD 0), .bool time.isSome] := rfl
theorem rssE_cells (d : Nat) (t : Tr d) : ecs (rssE d t) = #[.string (asS (idL (orL (trmL (kidL guidN d t)) (shL (kidL linkN d t))) (shL (kidL titleN d t)) (shL (kidL descN d t)))), .string (asS (shL (kidL titleN d t))), .string (asS (shL (kidL linkN d t))), .string (asS (shL (kidL descN d t))), .int .i64 ((anyL (kidL pubN d t)).getD 0), .bool (anyL (kidL pubN d t)).isSome] := mkE_cells _ _ _ _ _
set_option maxHeartbeats 8000000 in
set_option maxRecDepth 100000 in
theorem rssEntry_any (d : Nat) (t : Tr d) (hw : wtT d t ≤ 12000) (P : Nat → Prop) (cs : Array Value) (w : World) (hT : TabF w) (hnd : NdAt P d w cs t) : Calls Tryz.prog 55 #[.agg cs] w fun e w' => e = .returned (.agg (ecs (rssE d t))) ∧ Below w.heap.size w w' := by
  have HTI : Hid (∀ W, Below w.heap.size w W → Calls Tryz.prog 56 #[.agg cs, .string ⟨#[116, 105, 116, 108, 101]⟩] W fun e w' => e = .returned (.string (asS (shL (kidL titleN d t)))) ∧ Below W.heap.size W w') := fun W hb => shortOf_any titleN d t hw P cs W (hnd.below hb (Nat.le_refl _))
  have HLI : Hid (∀ W, Below w.heap.size w W → Calls Tryz.prog 56 #[.agg cs, .string ⟨#[108, 105, 110, 107]⟩] W fun e w' => e = .returned (.string (asS (shL (kidL linkN d t)))) ∧ Below W.heap.size W w') := fun W hb => shortOf_any linkN d t hw P cs W (hnd.below hb (Nat.le_refl _))
  have HBO : Hid (∀ W, Below w.heap.size w W → Calls Tryz.prog 56 #[.agg cs, .string ⟨#[100, 101, 115, 99, 114, 105, 112, 116, 105, 111, 110]⟩] W fun e w' => e = .returned (.string (asS (shL (kidL descN d t)))) ∧ Below W.heap.size W w') := fun W hb => shortOf_any descN d t hw P cs W (hnd.below hb (Nat.le_refl _))
  have HPU : Hid (∀ W, Below w.heap.size w W → Calls Tryz.prog 93 #[.agg cs, .string ⟨#[112, 117, 98, 68, 97, 116, 101]⟩] W fun e w' => e = .returned (.string (asS (kidL pubN d t))) ∧ Below W.heap.size W w') := fun W hb => textOf_any pubN d t hw P cs W (hnd.below hb (Nat.le_refl _))
  have HNM : Hid (∀ W, Below w.heap.size w W → Calls Tryz.prog 95 #[.agg cs, .string ⟨#[103, 117, 105, 100]⟩] W fun e w' => e = .returned (.string (asS (trmL (kidL guidN d t)))) ∧ Below W.heap.size W w') := fun W hb => nameOf_any guidN d t hw P cs W (hnd.below hb (Nat.le_refl _)) (hT.below hb).u
  have HFT : Hid (∀ W n, Below w.heap.size w W → W.heap[n]? = some (.cells #[.string (asS (kidL pubN d t))] 9 (0, 0)) → Calls Tryz.prog 92 #[.slice (some ⟨n, 0, none⟩) 1 1] W fun e w' => e = .returned (.tuple #[.int .i64 ((anyL (kidL pubN d t)).getD 0), .bool (anyL (kidL pubN d t)).isSome]) ∧ Below W.heap.size W w') := fun W n hb hr => by
    have := firstTime_any [kidL pubN d t] 1 rfl (by omega) (fun x hx => by simp only [List.mem_singleton] at hx; subst hx; exact Nat.le_trans (kid_len pubN hw) (by omega)) n 1 W (hT.below hb) (Array.getElem?_eq_some_iff.1 hr).1 (TxtsAt.one _ hr)
    rw [ft_one] at this
    exact this
  have HFF : Hid (∀ W n, W.heap[n]? = some (.cells #[.string (asS (trmL (kidL guidN d t))), .string (asS (shL (kidL linkN d t)))] 9 (0, 0)) → Calls Tryz.prog 94 #[.slice (some ⟨n, 0, none⟩) 2 2] W fun e w' => e = .returned (.string (asS (orL (trmL (kidL guidN d t)) (shL (kidL linkN d t))))) ∧ w' = W) := fun W n hr => by
    have := firstFull_any [trmL (kidL guidN d t), shL (kidL linkN d t)] 2 rfl (by omega) n 2 W (TxtsAt.two _ _ hr)
    rw [ff_two] at this
    exact this
  have k1 := Nat.le_trans (shL_len (kidL titleN d t)) (kid_len titleN hw)
  have k2 := Nat.le_trans (shL_len (kidL linkN d t)) (kid_len linkN hw)
  have k3 := Nat.le_trans (shL_len (kidL descN d t)) (kid_len descN hw)
  have k4 := Nat.le_trans (trmL_len (kidL guidN d t)) (kid_len guidN hw)
  have HID : Hid (∀ W, Below w.heap.size w W → Calls Tryz.prog 19 #[.string (asS (orL (trmL (kidL guidN d t)) (shL (kidL linkN d t)))), .string (asS (shL (kidL titleN d t))), .string (asS (shL (kidL descN d t)))] W fun e w' => e = .returned (.string (asS (idL (orL (trmL (kidL guidN d t)) (shL (kidL linkN d t))) (shL (kidL titleN d t)) (shL (kidL descN d t))))) ∧ Below W.heap.size W w') := fun W hb => id_any _ _ _ (Nat.le_trans (orL_len k4 k2) (by omega)) (by omega) (by omega) W (hT.below hb).s
  have HEC : Hid (ecs (rssE d t) = #[.string (asS (idL (orL (trmL (kidL guidN d t)) (shL (kidL linkN d t))) (shL (kidL titleN d t)) (shL (kidL descN d t)))), .string (asS (shL (kidL titleN d t))), .string (asS (shL (kidL linkN d t))), .string (asS (shL (kidL descN d t))), .int .i64 ((anyL (kidL pubN d t)).getD 0), .bool (anyL (kidL pubN d t)).isSome]) := rssE_cells d t
  rw [HEC.out]
  obtain ⟨A, B, C, D, rfl, o1, o2, o3, o4⟩ := nd_four (hnd.mono fun q _ hl => hl)
  clear hnd k1 k2 k3 k4 hw hT HEC o1 o2 o3 o4
  generalize asS (idL (orL (trmL (kidL guidN d t)) (shL (kidL linkN d t))) (shL (kidL titleN d t)) (shL (kidL descN d t))) = ID at HID ⊢
  generalize asS (shL (kidL titleN d t)) = TI at HTI HID ⊢
  generalize asS (shL (kidL linkN d t)) = LI at HLI HFF ⊢
  generalize asS (shL (kidL descN d t)) = BO at HBO HID ⊢
  generalize asS (kidL pubN d t) = PU at HPU HFT
  generalize asS (trmL (kidL guidN d t)) = NM at HNM HFF
  generalize asS (orL (trmL (kidL guidN d t)) (shL (kidL linkN d t))) = OR at HFF HID
  generalize (anyL (kidL pubN d t)).getD 0 = TM at HFT ⊢
  generalize (anyL (kidL pubN d t)).isSome = DT at HFT ⊢
  obtain ⟨W1, hW1⟩ : ∃ W1, (w.alloc (.cells #[A, B, C, D] 25)).alloc (.cells #[.string ⟨#[]⟩, .string ⟨#[]⟩, .string ⟨#[]⟩, .string ⟨#[]⟩, .int .i64 0, .bool false] 40) = W1 := ⟨_, rfl⟩
  have HR1 : Hid (W1.heap[w.heap.size]? = some (.cells #[A, B, C, D] 25 (0, 0))) := by rw [← hW1]; exact heap_first w _ _
  have HZ1 : Hid (W1.heap[w.heap.size + 1]? = some (.cells #[.string ⟨#[]⟩, .string ⟨#[]⟩, .string ⟨#[]⟩, .string ⟨#[]⟩, .int .i64 0, .bool false] 40 (0, 0))) := by rw [← hW1]; exact heap_second w _ _
  have HB1 : Hid (Below w.heap.size w W1) := by rw [← hW1]; exact ((Below.refl _ _).alloc (Nat.le_refl _) _).alloc (by simp) _
  have hzW1 : w.heap.size + 1 < W1.heap.size := (Array.getElem?_eq_some_iff.1 HZ1.out).1
  have HSK : Hid (∀ W, Below W1.heap.size W1 W → (loadI 25 (.pointer (some ⟨w.heap.size, 0, none⟩))).run Tryz.prog W = .ok (.agg #[A, B, C, D]) W ∧ Hid (Below W1.heap.size W1 W)) := fun W h => ⟨loadN_run (row_keep h HR1.out) rfl, h⟩
  have HBW : Hid (∀ W, Below W1.heap.size W1 W → Below w.heap.size w W) := fun W h => HB1.out.trans (h.mono HB1.out.size)
  obtain ⟨PG, hsto, HPB, HPR⟩ : ∃ PG : World → Nat → World, (∀ (W : World) (g : Nat), W.heap[g]? = some (.cells #[.string ⟨#[]⟩, .string ⟨#[]⟩, .string ⟨#[]⟩, .string ⟨#[]⟩, .int .i64 0, .bool false] 40 (0, 0)) → (storeI 40 (.pointer (some ⟨g, 0, none⟩)) (.agg #[.string ⟨#[]⟩, .string TI, .string LI, .string BO, .int .i64 0, .bool false])).run Tryz.prog W = .ok () (PG W g)) ∧ Hid (∀ W g, W1.heap.size ≤ g → Below W1.heap.size W1 W → Below W1.heap.size W1 (PG W g)) ∧ Hid (∀ (W : World) (g : Nat), W.heap[g]? = some (.cells #[.string ⟨#[]⟩, .string ⟨#[]⟩, .string ⟨#[]⟩, .string ⟨#[]⟩, .int .i64 0, .bool false] 40 (0, 0)) → (PG W g).heap[g]? = some (.cells #[.string ⟨#[]⟩, .string TI, .string LI, .string BO, .int .i64 0, .bool false] 40 (0, 0))) := by
    refine ⟨fun W g => putE W g #[.string ⟨#[]⟩, .string TI, .string LI, .string BO, .int .i64 0, .bool false], fun W g h => storeE_row _ _ _ _ _ _ h rfl, fun W g h1 h2 => h2.trans ((putE_only _ _ _).below h1), fun W g h => putE_row h rfl⟩
  have hnew : ∀ W : World, (W.alloc (.cells #[.string ⟨#[]⟩, .string ⟨#[]⟩, .string ⟨#[]⟩, .string ⟨#[]⟩, .int .i64 0, .bool false] 40)).heap[W.heap.size]? = some (.cells #[.string ⟨#[]⟩, .string ⟨#[]⟩, .string ⟨#[]⟩, .string ⟨#[]⟩, .int .i64 0, .bool false] 40 (0, 0)) := fun W => heap_alloc_new W _
  have hstoA := fun W => hsto _ _ (hnew W)
  have HSTO := hid hsto
  clear hsto hnew
  have hbu := fun W => run_build3 TI LI BO W
  go_enter Tryz.func55, Tryz.ntmps55
  go_upto_region 1 with (fail)
  clear hW1
  go_cut [3] (fun v wx => ∃ g, v = .pointer (some ⟨g, 0, none⟩) ∧ w.heap.size + 1 < g ∧ Hid (wx.heap[g]? = some (.cells #[.string ⟨#[]⟩, .string TI, .string LI, .string BO, .int .i64 0, .bool false] 40 (0, 0))) ∧ Hid (Below W1.heap.size W1 wx))
  case first =>
      go_region_held3 (fun W => (loadI 25 (.pointer (some ⟨w.heap.size, 0, none⟩))).run Tryz.prog W = .ok (.agg #[A, B, C, D]) W ∧ Hid (Below W1.heap.size W1 W))
        (first
          | exact HSK.out _ (below_drewN _ _ 1)
          | (go_split_ands
             refine HSK.out _ ?_
             first
               | exact HPB.out _ _ (by have z1 := hbA.size; have z2 := hbB.size; have z3 := hbC.size; simp only [World.alloc, Array.size_push, World.drew] at z1 z2 z3 ⊢; omega) (Hid.out (by assumption))
               | exact Hid.out (by assumption)
               | exact Below.alloc (Hid.out (by assumption)) (Below.size (Hid.out (by assumption))) _
               | exact Below.trans (Hid.out (by assumption)) (hbC.mono (Below.size (Hid.out (by assumption))))
               | exact Below.trans (Hid.out (by assumption)) (hbB.mono (Below.size (Hid.out (by assumption))))
               | exact Below.trans (Hid.out (by assumption)) (hbA.mono (Below.size (Hid.out (by assumption))))))
        ((first
          | (go_at_call_has 56 (Value.string (⟨#[116, 105, 116, 108, 101]⟩ : ByteArray)); go_split_ands; refine (HTI.out _ (HBW.out _ (Hid.out (by assumption)))).mono ?_; rintro e w9 ⟨rfl, hbA⟩; first | (have hrw : _ = some (Obj.cells #[.string ⟨#[]⟩, .string ⟨#[]⟩, .string ⟨#[]⟩, .string ⟨#[]⟩, .int .i64 0, .bool false] 40 (0, 0)) := row_keep hbA (by first | assumption | exact heap_second _ _ _ | exact heap_alloc_new _ _ | exact heap_old (by assumption) | exact heap_old (heap_alloc_new _ _))) | skip)
          | (go_at_call_has 56 (Value.string (⟨#[108, 105, 110, 107]⟩ : ByteArray)); go_split_ands; refine (HLI.out _ (HBW.out _ (Hid.out (by assumption)))).mono ?_; rintro e w9 ⟨rfl, hbB⟩; first | (have hrw : _ = some (Obj.cells #[.string ⟨#[]⟩, .string ⟨#[]⟩, .string ⟨#[]⟩, .string ⟨#[]⟩, .int .i64 0, .bool false] 40 (0, 0)) := row_keep hbB (by first | assumption | exact heap_second _ _ _ | exact heap_alloc_new _ _ | exact heap_old (by assumption) | exact heap_old (heap_alloc_new _ _))) | skip)
          | (go_at_call_has 56 (Value.string (⟨#[100, 101, 115, 99, 114, 105, 112, 116, 105, 111, 110]⟩ : ByteArray)); go_split_ands; refine (HBO.out _ (HBW.out _ (Hid.out (by assumption)))).mono ?_; rintro e w9 ⟨rfl, hbC⟩; first | (have hrw : _ = some (Obj.cells #[.string ⟨#[]⟩, .string ⟨#[]⟩, .string ⟨#[]⟩, .string ⟨#[]⟩, .int .i64 0, .bool false] 40 (0, 0)) := row_keep hbC (by first | assumption | exact heap_second _ _ _ | exact heap_alloc_new _ _ | exact heap_old (by assumption) | exact heap_old (heap_alloc_new _ _)); have hsx := HSTO.out _ _ hrw) | skip)
          | fail))
      all_goals
        go_wp2_with fail
        go_meet
        case rel => exact ⟨_, rfl, by have z1 := hbA.size; have z2 := hbB.size; have z3 := hbC.size; simp only [World.alloc, Array.size_push, World.drew] at z1 z2 z3 ⊢; omega, HPR.out _ _ (by first | assumption | exact heap_alloc_new _ _), by go_split_ands; assumption⟩
  case rest =>
    obtain ⟨g, rfl, hg, HG, HBG⟩ := hcut
    have HBc := hid (HBW.out _ HBG.out)
    have HRc := hid (row_keep HBG.out HR1.out)
    have HZc := hid (row_keep HBG.out HZ1.out)
    have hldc := loadN_run HRc.out rfl
    clear HPB HPR HSK HSTO hstoA hbu HTI HLI HBO HBW
    go_wp2_with fail
    refine (HPU.out _ HBc.out).mono ?_
    rintro e W2 ⟨rfl, hb2⟩
    have HG2 := hid (row_keep hb2 HG.out)
    have HR2 := hid (row_keep hb2 HRc.out)
    have HZ2 := hid (row_keep hb2 HZc.out)
    have HB2 := hid (bel2 HBc.out hb2)
    obtain ⟨V, hV⟩ : ∃ V, W2.alloc (.cells #[.string PU] 9) = V := ⟨_, rfl⟩
    have hbV : Below W2.heap.size W2 V := by rw [← hV]; exact (Below.refl _ _).alloc (Nat.le_refl _) _
    have HRV : Hid (V.heap[W2.heap.size]? = some (.cells #[.string PU] 9 (0, 0))) := by rw [← hV]; exact heap_alloc_new W2 _
    have HBV := hid (bel2 HB2.out hbV)
    have HB2V := hid hbV
    clear hb2 hldc HG HRc HZc HBG hbV
    go_wp2_with fail
    refine (HFT.out V W2.heap.size HBV.out HRV.out).mono ?_
    rintro e W3 ⟨rfl, hb3⟩
    have hcat := bel2 HB2V.out hb3
    have HG3 := hid (row_keep hcat HG2.out)
    have HR3 := hid (row_keep hcat HR2.out)
    have HZ3 := hid (row_keep hcat HZ2.out)
    have HB3 := hid (bel2 HB2.out hcat)
    clear hb3 hcat hV HRV HBV HB2V HG2 HR2 HZ2 HB2 HFT HPU
    go_wp2_with (first
      | (refine store_part rfl 2 _ _ rfl g 4 (.int .i64 TM) 40 _ #[.string ⟨#[]⟩, .string TI, .string LI, .string BO, .int .i64 TM, .bool false] rfl rfl infoI8 (by simp) rfl rfl HG3.out rfl ?_; intro W4 hO4 hW4)
      | (refine store_part rfl 4 _ _ rfl g 5 (.bool DT) 40 _ #[.string ⟨#[]⟩, .string TI, .string LI, .string BO, .int .i64 TM, .bool DT] rfl rfl infoB1 (by simp) rfl rfl hW4 rfl ?_; intro W5 hO5 hW5; (have HG5 := hid hW5); (have HR5 := hid ((hO5.block _ (by omega)).trans ((hO4.block _ (by omega)).trans HR3.out))); (have HZ5 := hid ((hO5.block _ (by omega)).trans ((hO4.block _ (by omega)).trans HZ3.out))); (have HB5 := hid ((HB3.out.trans (hO4.below (B := w.heap.size) (by omega))).trans (hO5.below (B := w.heap.size) (by omega)))); clear hW4 hW5 hO4 hO5 HG3 HR3 HZ3 HB3)
      | fail)
    obtain ⟨Sx, hSx⟩ : ∃ Sx : World → Prop, Sx = fun W => Below w.heap.size w W ∧ W.heap[w.heap.size]? = some (.cells #[A, B, C, D] 25 (0, 0)) ∧ W.heap[w.heap.size + 1]? = some (.cells #[.string ⟨#[]⟩, .string ⟨#[]⟩, .string ⟨#[]⟩, .string ⟨#[]⟩, .int .i64 0, .bool false] 40 (0, 0)) ∧ ∃ x : ByteArray, W.heap[g]? = some (.cells #[.string x, .string TI, .string LI, .string BO, .int .i64 TM, .bool DT] 40 (0, 0)) := ⟨_, rfl⟩
    obtain ⟨PS, hPS⟩ : ∃ PS : World → World, PS = fun W => W.setCells g 0 [.string ID] := ⟨_, rfl⟩
    have HX5 : Hid (Sx W5) := by show Sx W5; rw [hSx]; exact ⟨HB5.out, HR5.out, HZ5.out, _, HG5.out⟩
    have HXB : Hid (∀ W W', Sx W → Below W.heap.size W W' → Sx W') := fun W W' h hb => by
      rw [hSx] at h ⊢
      obtain ⟨h1, h2, h3, x, h4⟩ := h
      exact ⟨bel2 h1 hb, row_keep hb h2, row_keep hb h3, x, row_keep hb h4⟩
    have HXW : Hid (∀ W, Sx W → Below w.heap.size w W) := fun W h => by rw [hSx] at h; exact h.1
    have HXZ : Hid (∀ W, Sx W → W.heap[w.heap.size + 1]? = some (.cells #[.string ⟨#[]⟩, .string ⟨#[]⟩, .string ⟨#[]⟩, .string ⟨#[]⟩, .int .i64 0, .bool false] 40 (0, 0))) := fun W h => by rw [hSx] at h; exact h.2.2.1
    have HXS : Hid (∀ W, Sx W → (loadI 25 (.pointer (some ⟨w.heap.size, 0, none⟩))).run Tryz.prog W = .ok (.agg #[A, B, C, D]) W ∧ W.cell? ⟨g, 1, none⟩ = some (.string TI) ∧ W.cell? ⟨g, 2, none⟩ = some (.string LI) ∧ W.cell? ⟨g, 3, none⟩ = some (.string BO) ∧ Hid (Sx W)) := fun W h => by
      have h' := h
      rw [hSx] at h
      obtain ⟨h1, h2, h3, x, h4⟩ := h
      exact ⟨loadN_run h2 rfl, cell_of_row _ _ _ _ _ _ h4, cell_of_row _ _ _ _ _ _ h4, cell_of_row _ _ _ _ _ _ h4, h'⟩
    have HST : Hid (∀ W, Sx W → (storeI 9 (.pointer (some ⟨g, 0, none⟩)) (.string ID)).run Tryz.prog W = .ok () (PS W)) := fun W h => by
      rw [hSx] at h
      obtain ⟨h1, h2, h3, x, h4⟩ := h
      rw [hPS]
      exact run_storeS W g 0 ID (there_row h4 0 1 (by simp))
    have HPS : Hid (∀ W, Sx W → Sx (PS W) ∧ (PS W).heap[g]? = some (.cells #[.string ID, .string TI, .string LI, .string BO, .int .i64 TM, .bool DT] 40 (0, 0))) := fun W h => by
      rw [hSx] at h ⊢
      obtain ⟨h1, h2, h3, x, h4⟩ := h
      rw [hPS]
      have hO := only_setCells g [.string ID] 0 W
      have hr : (W.setCells g 0 [.string ID]).heap[g]? = some (.cells #[.string ID, .string TI, .string LI, .string BO, .int .i64 TM, .bool DT] 40 (0, 0)) := by
        rw [setCells_heap g 40 [.string ID] 0 W _ h4]
        rfl
      exact ⟨⟨h1.trans (hO.below (by omega)), (hO.block _ (by omega)).trans h2, (hO.block _ (by omega)).trans h3, ID, hr⟩, hr⟩
    clear hSx hPS HB5 HR5 HZ5 HG5
    simp only [Act.put]
    go_cut [] (fun wx => Hid (Sx wx) ∧ Hid (wx.heap[g]? = some (.cells #[.string ID, .string TI, .string LI, .string BO, .int .i64 TM, .bool DT] 40 (0, 0))))
    case first =>
      go_region_held3 (fun W => (loadI 25 (.pointer (some ⟨w.heap.size, 0, none⟩))).run Tryz.prog W = .ok (.agg #[A, B, C, D]) W ∧ W.cell? ⟨g, 1, none⟩ = some (.string TI) ∧ W.cell? ⟨g, 2, none⟩ = some (.string LI) ∧ W.cell? ⟨g, 3, none⟩ = some (.string BO) ∧ Hid (Sx W))
        (first
          | exact HXS.out _ (HXB.out _ _ HX5.out (below_drewN _ _ 1))
          | (go_split_ands
             refine HXS.out _ ?_
             first
               | exact (HPS.out _ hS9).1
               | exact hS9
               | exact Hid.out (by assumption)
               | exact HXB.out _ _ (Hid.out (by assumption)) hbN
               | exact HXB.out _ _ (Hid.out (by assumption)) ((Below.refl _ _).alloc (Nat.le_refl _) _)))
        ((first
          | (go_at_call 95; go_split_ands; refine (HNM.out _ (HXW.out _ (Hid.out (by assumption)))).mono ?_; rintro e w9 ⟨rfl, hbN⟩)
          | (go_at_call 94; refine (HFF.out _ _ (by first | exact heap_second _ _ _ | exact heap_alloc_new _ _ | exact heap_old (heap_alloc_new _ _))).mono ?_; rintro e w9 ⟨rfl, rfl⟩)
          | (go_at_call 19; go_split_ands; refine (HID.out _ (HXW.out _ (Hid.out (by assumption)))).mono ?_; rintro e w9 ⟨rfl, hbI⟩; have hS9 := HXB.out _ _ (Hid.out (by assumption)) hbI; have hsx := HST.out _ hS9)
          | fail))
      all_goals
        go_wp2_with fail
        go_meet
        exact ⟨(HPS.out _ hS9).1, (HPS.out _ hS9).2⟩
    case rest =>
      obtain ⟨HXC, HGC⟩ := hcut
      have hld := loadE_run HGC.out rfl
      have hzz := HXZ.out _ HXC.out
      have HBC := hid (HXW.out _ HXC.out)
      go_wp2_with (first
        | (refine wpList_store_abs rfl 40 (.tmp 2) (.tmp 32) rfl (w.heap.size + 1) 0 #[.string ID, .string TI, .string LI, .string BO, .int .i64 TM, .bool DT] rfl rfl 40 _ hzz (Nat.le_refl 6) infoE (ecs_any _ _ _ _ _ _) ?_; intro W9 hO9 hW9)
        | fail)
      rw [over_whole #[.string ⟨#[]⟩, .string ⟨#[]⟩, .string ⟨#[]⟩, .string ⟨#[]⟩, .int .i64 0, .bool false] #[.string ID, .string TI, .string LI, .string BO, .int .i64 TM, .bool DT] rfl] at hW9
      exact bodyPost_ret (ret_en (p := 2) Tryz.results55 _ _ (w.heap.size + 1) #[.string ID, .string TI, .string LI, .string BO, .int .i64 TM, .bool DT] rfl (0, 0) rfl hW9) rfl ⟨rfl, HBC.out.trans (hO9.below (by omega))⟩
end Go.Proofs.YtgoiafndapemjaaGreatDoor
