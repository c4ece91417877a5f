import Derived.Test.YtgoiafndapemjaaGreatDoorQ40
set_option linter.unusedVariables false
set_option linter.unusedSimpArgs false
set_option maxHeartbeats 1000000
namespace Go.Proofs.YtgoiafndapemjaaGreatDoor
open Go.RowKit Go.BigFrame
attribute [local go_sem ↓] loadN_eq loadE_eq storeE_eq buildE_eq storeS_eq storeI8_eq storeB1_eq
theorem atomE_cells (d : Nat) (t : Tr d) : ecs (atomE d t) = #[.string (asS (idL (orL (trmL (kidL idN d t)) (linkA d t)) (shL (kidL titleN d t)) (orL (shL (kidL sumN' d t)) (shL (kidL contN d t))))), .string (asS (shL (kidL titleN d t))), .string (asS (linkA d t)), .string (asS (orL (shL (kidL sumN' d t)) (shL (kidL contN d t)))), .int .i64 ((or2 (anyL (kidL updN d t)) (anyL (kidL pubdN d t))).getD 0), .bool (or2 (anyL (kidL updN d t)) (anyL (kidL pubdN d t))).isSome] := mkE_cells _ _ _ _ _
theorem link_len {d : Nat} {t : Tr d} (hw : wtT d t ≤ 12000) : (linkA d t).length ≤ 12000 := by
  unfold linkA
  cases h : (fndT linkN (d - 1) (kidsT d t)).find? (relOk (d - 1)) with
  | none => exact Nat.zero_le _
  | some k => exact Nat.le_trans (shL_len _) (attr_len hrefL (fnd_wt hw k (List.mem_of_find?_eq_some h)))
set_option maxHeartbeats 8000000 in
set_option maxRecDepth 100000 in
theorem atomEntry_any (d : Nat) (t : Tr d) (hw : wtT d t ≤ 12000) (P : Nat → Prop) (cs : Array Value) (w : World) (hT : TabF w) (hnd : NdAt P d w cs t) : Calls Tryz.prog 57 #[.agg cs] w fun e w' => e = .returned (.agg (ecs (atomE d t))) ∧ Below w.heap.size w w' := by
  have HTI : Hid (∀ W, Below w.heap.size w W → Calls Tryz.prog 56 #[.agg cs, .string ⟨#[116, 105, 116, 108, 101]⟩] W fun e w' => e = .returned (.string (asS (shL (kidL titleN d t)))) ∧ Below W.heap.size W w') := fun W hb => shortOf_any titleN d t hw P cs W (hnd.below hb (Nat.le_refl _))
  have HSU : Hid (∀ W, Below w.heap.size w W → Calls Tryz.prog 56 #[.agg cs, .string ⟨#[115, 117, 109, 109, 97, 114, 121]⟩] W fun e w' => e = .returned (.string (asS (shL (kidL sumN' d t)))) ∧ Below W.heap.size W w') := fun W hb => shortOf_any sumN' d t hw P cs W (hnd.below hb (Nat.le_refl _))
  have HCO : Hid (∀ W, Below w.heap.size w W → Calls Tryz.prog 56 #[.agg cs, .string ⟨#[99, 111, 110, 116, 101, 110, 116]⟩] W fun e w' => e = .returned (.string (asS (shL (kidL contN d t)))) ∧ Below W.heap.size W w') := fun W hb => shortOf_any contN d t hw P cs W (hnd.below hb (Nat.le_refl _))
  have HU1 : Hid (∀ W, Below w.heap.size w W → Calls Tryz.prog 93 #[.agg cs, .string ⟨#[117, 112, 100, 97, 116, 101, 100]⟩] W fun e w' => e = .returned (.string (asS (kidL updN d t))) ∧ Below W.heap.size W w') := fun W hb => textOf_any updN d t hw P cs W (hnd.below hb (Nat.le_refl _))
  have HU2 : Hid (∀ W, Below w.heap.size w W → Calls Tryz.prog 93 #[.agg cs, .string ⟨#[112, 117, 98, 108, 105, 115, 104, 101, 100]⟩] W fun e w' => e = .returned (.string (asS (kidL pubdN d t))) ∧ Below W.heap.size W w') := fun W hb => textOf_any pubdN d t hw P cs W (hnd.below hb (Nat.le_refl _))
  have HLI : Hid (∀ W, Below w.heap.size w W → Calls Tryz.prog 58 #[.agg cs] W fun e w' => e = .returned (.string (asS (linkA d t))) ∧ Below W.heap.size W w') := fun W hb => atomLink_any d t hw P cs W (hnd.below hb (Nat.le_refl _))
  have HNM : Hid (∀ W, Below w.heap.size w W → Calls Tryz.prog 95 #[.agg cs, .string ⟨#[105, 100]⟩] W fun e w' => e = .returned (.string (asS (trmL (kidL idN d t)))) ∧ Below W.heap.size W w') := fun W hb => nameOf_any idN d t hw P cs W (hnd.below hb (Nat.le_refl _)) (hT.below hb).u
  have HFT : Hid (∀ W n, Below w.heap.size w W → W.heap[n]? = some (.cells #[.string (asS (kidL updN d t)), .string (asS (kidL pubdN d t))] 9 (0, 0)) → Calls Tryz.prog 92 #[.slice (some ⟨n, 0, none⟩) 2 2] W fun e w' => e = .returned (.tuple #[.int .i64 ((or2 (anyL (kidL updN d t)) (anyL (kidL pubdN d t))).getD 0), .bool (or2 (anyL (kidL updN d t)) (anyL (kidL pubdN d t))).isSome]) ∧ Below W.heap.size W w') := fun W n hb hr => by
    have := firstTime_any [kidL updN d t, kidL pubdN d t] 2 rfl (by omega) (fun x hx => by
      simp only [List.mem_cons, List.not_mem_nil, or_false] at hx
      rcases hx with rfl | rfl
      · exact Nat.le_trans (kid_len updN hw) (by omega)
      · exact Nat.le_trans (kid_len pubdN hw) (by omega)) n 2 W (hT.below hb) (Array.getElem?_eq_some_iff.1 hr).1 (TxtsAt.two _ _ hr)
    rw [ft_two] at this
    exact this
  have HFB : Hid (∀ W n, W.heap[n]? = some (.cells #[.string (asS (shL (kidL sumN' d t))), .string (asS (shL (kidL contN d t)))] 9 (0, 0)) → Calls Tryz.prog 94 #[.slice (some ⟨n, 0, none⟩) 2 2] W fun e w' => e = .returned (.string (asS (orL (shL (kidL sumN' d t)) (shL (kidL contN d t))))) ∧ w' = W) := fun W n hr => by
    have := firstFull_any [shL (kidL sumN' d t), shL (kidL contN d t)] 2 rfl (by omega) n 2 W (TxtsAt.two _ _ hr)
    rw [ff_two] at this
    exact this
  have HFF : Hid (∀ W n, W.heap[n]? = some (.cells #[.string (asS (trmL (kidL idN d t))), .string (asS (linkA d t))] 9 (0, 0)) → Calls Tryz.prog 94 #[.slice (some ⟨n, 0, none⟩) 2 2] W fun e w' => e = .returned (.string (asS (orL (trmL (kidL idN d t)) (linkA d t)))) ∧ w' = W) := fun W n hr => by
    have := firstFull_any [trmL (kidL idN d t), linkA d t] 2 rfl (by omega) n 2 W (TxtsAt.two _ _ hr)
    rw [ff_two] at this
    exact this
  have k1 := Nat.le_trans (shL_len (kidL titleN d t)) (kid_len titleN hw)
  have k2 := link_len hw
  have k3 : (orL (shL (kidL sumN' d t)) (shL (kidL contN d t))).length ≤ 12000 := orL_len (Nat.le_trans (shL_len (kidL sumN' d t)) (kid_len sumN' hw)) (Nat.le_trans (shL_len (kidL contN d t)) (kid_len contN hw))
  have k4 := Nat.le_trans (trmL_len (kidL idN d t)) (kid_len idN hw)
  have HID : Hid (∀ W, Below w.heap.size w W → Calls Tryz.prog 19 #[.string (asS (orL (trmL (kidL idN d t)) (linkA d t))), .string (asS (shL (kidL titleN d t))), .string (asS (orL (shL (kidL sumN' d t)) (shL (kidL contN d t))))] W fun e w' => e = .returned (.string (asS (idL (orL (trmL (kidL idN d t)) (linkA d t)) (shL (kidL titleN d t)) (orL (shL (kidL sumN' d t)) (shL (kidL contN d t)))))) ∧ Below W.heap.size W w') := fun W hb => id_any _ _ _ (Nat.le_trans (orL_len k4 k2) (by omega)) (by omega) (by omega) W (hT.below hb).s
  rw [atomE_cells]
  obtain ⟨A, B, C, D, rfl, o1, o2, o3, o4⟩ := nd_four (hnd.mono fun q _ hl => hl)
  clear hnd k1 k2 k3 k4 hw hT o1 o2 o3 o4
  generalize asS (idL (orL (trmL (kidL idN d t)) (linkA d t)) (shL (kidL titleN d t)) (orL (shL (kidL sumN' d t)) (shL (kidL contN d t)))) = ID at HID ⊢
  generalize asS (shL (kidL titleN d t)) = TI at HTI HID ⊢
  generalize asS (orL (shL (kidL sumN' d t)) (shL (kidL contN d t))) = BO at HFB HID ⊢
  generalize asS (orL (trmL (kidL idN d t)) (linkA d t)) = OR at HFF HID
  generalize asS (linkA d t) = LI at HLI HFF ⊢
  generalize asS (shL (kidL sumN' d t)) = SU at HSU HFB
  generalize asS (shL (kidL contN d t)) = CO at HCO HFB
  generalize asS (kidL updN d t) = PU at HU1 HFT
  generalize asS (kidL pubdN d t) = PV at HU2 HFT
  generalize asS (trmL (kidL idN d t)) = NM at HNM HFF
  generalize (or2 (anyL (kidL updN d t)) (anyL (kidL pubdN d t))).getD 0 = TM at HFT ⊢
  generalize (or2 (anyL (kidL updN d t)) (anyL (kidL pubdN d t))).isSome = DT at HFT ⊢
  obtain ⟨W1, hW1⟩ : ∃ W1, (w.alloc (.cells #[A, B, C, D] 25)).alloc (.cells #[.string ⟨#[]⟩, .string ⟨#[]⟩, .string ⟨#[]⟩, .string ⟨#[]⟩, .int .i64 0, .bool false] 40) = W1 := ⟨_, rfl⟩
  have HR1 : Hid (W1.heap[w.heap.size]? = some (.cells #[A, B, C, D] 25 (0, 0))) := by rw [← hW1]; exact heap_first w _ _
  have HZ1 : Hid (W1.heap[w.heap.size + 1]? = some (.cells #[.string ⟨#[]⟩, .string ⟨#[]⟩, .string ⟨#[]⟩, .string ⟨#[]⟩, .int .i64 0, .bool false] 40 (0, 0))) := by rw [← hW1]; exact heap_second w _ _
  have HB1 : Hid (Below w.heap.size w W1) := by rw [← hW1]; exact ((Below.refl _ _).alloc (Nat.le_refl _) _).alloc (by simp) _
  have hzW1 : w.heap.size + 1 < W1.heap.size := (Array.getElem?_eq_some_iff.1 HZ1.out).1
  have HSK : Hid (∀ W, Below W1.heap.size W1 W → (loadI 25 (.pointer (some ⟨w.heap.size, 0, none⟩))).run Tryz.prog W = .ok (.agg #[A, B, C, D]) W ∧ Hid (Below W1.heap.size W1 W)) := fun W h => ⟨loadN_run (row_keep h HR1.out) rfl, h⟩
  have HBW : Hid (∀ W, Below W1.heap.size W1 W → Below w.heap.size w W) := fun W h => HB1.out.trans (h.mono HB1.out.size)
  obtain ⟨PG, hsto, HPB, HPR⟩ : ∃ PG : World → Nat → World, (∀ (W : World) (g : Nat), W.heap[g]? = some (.cells #[.string ⟨#[]⟩, .string ⟨#[]⟩, .string ⟨#[]⟩, .string ⟨#[]⟩, .int .i64 0, .bool false] 40 (0, 0)) → (storeI 40 (.pointer (some ⟨g, 0, none⟩)) (.agg #[.string ⟨#[]⟩, .string TI, .string LI, .string BO, .int .i64 0, .bool false])).run Tryz.prog W = .ok () (PG W g)) ∧ Hid (∀ W g, W1.heap.size ≤ g → Below W1.heap.size W1 W → Below W1.heap.size W1 (PG W g)) ∧ Hid (∀ (W : World) (g : Nat), W.heap[g]? = some (.cells #[.string ⟨#[]⟩, .string ⟨#[]⟩, .string ⟨#[]⟩, .string ⟨#[]⟩, .int .i64 0, .bool false] 40 (0, 0)) → (PG W g).heap[g]? = some (.cells #[.string ⟨#[]⟩, .string TI, .string LI, .string BO, .int .i64 0, .bool false] 40 (0, 0))) := by
    refine ⟨fun W g => putE W g #[.string ⟨#[]⟩, .string TI, .string LI, .string BO, .int .i64 0, .bool false], fun W g h => storeE_row _ _ _ _ _ _ h rfl, fun W g h1 h2 => h2.trans ((putE_only _ _ _).below h1), fun W g h => putE_row h rfl⟩
  have hnew : ∀ W : World, (W.alloc (.cells #[.string ⟨#[]⟩, .string ⟨#[]⟩, .string ⟨#[]⟩, .string ⟨#[]⟩, .int .i64 0, .bool false] 40)).heap[W.heap.size]? = some (.cells #[.string ⟨#[]⟩, .string ⟨#[]⟩, .string ⟨#[]⟩, .string ⟨#[]⟩, .int .i64 0, .bool false] 40 (0, 0)) := fun W => heap_alloc_new W _
  have hstoA := fun W => hsto _ _ (hnew W)
  have hstoB := fun (W : World) (o : Obj) => hsto ((W.alloc o).alloc (.cells #[.string ⟨#[]⟩, .string ⟨#[]⟩, .string ⟨#[]⟩, .string ⟨#[]⟩, .int .i64 0, .bool false] 40)) (W.heap.size + 1) (heap_second W o _)
  have hstoC := fun (W : World) (o : Obj) => hsto ((W.alloc (.cells #[.string ⟨#[]⟩, .string ⟨#[]⟩, .string ⟨#[]⟩, .string ⟨#[]⟩, .int .i64 0, .bool false] 40)).alloc o) W.heap.size (heap_first W _ o)
  have hstoD := fun (W : World) (o : Obj) (g : Nat) (h : W.heap[g]? = some (.cells #[.string ⟨#[]⟩, .string ⟨#[]⟩, .string ⟨#[]⟩, .string ⟨#[]⟩, .int .i64 0, .bool false] 40 (0, 0))) => hsto (W.alloc o) g (heap_old h)
  have HSTO := hid hsto
  clear hsto hnew
  have hbu := fun W => run_build3 TI LI BO W
  go_enter Tryz.func57, Tryz.ntmps57
  go_upto_region 1 with (fail)
  clear hW1
  go_cut [3] (fun v wx => ∃ g, v = .pointer (some ⟨g, 0, none⟩) ∧ w.heap.size + 1 < g ∧ Hid (wx.heap[g]? = some (.cells #[.string ⟨#[]⟩, .string TI, .string LI, .string BO, .int .i64 0, .bool false] 40 (0, 0))) ∧ Hid (Below W1.heap.size W1 wx))
  case first =>
      go_region_held3 (fun W => (loadI 25 (.pointer (some ⟨w.heap.size, 0, none⟩))).run Tryz.prog W = .ok (.agg #[A, B, C, D]) W ∧ Hid (Below W1.heap.size W1 W))
        (first
          | exact HSK.out _ (below_drewN _ _ 1)
          | (go_split_ands
             refine HSK.out _ ?_
             first
               | exact HPB.out _ _ (by have z1 := hbA.size; have z2 := hbB.size; have z3 := hbC.size; have z4 := hbD.size; simp only [World.alloc, Array.size_push, World.drew] at z1 z2 z3 z4 ⊢; omega) (Hid.out (by assumption))
               | exact Hid.out (by assumption)
               | exact Below.alloc (Hid.out (by assumption)) (Below.size (Hid.out (by assumption))) _
               | exact Below.trans (Hid.out (by assumption)) (hbD.mono (Below.size (Hid.out (by assumption))))
               | exact Below.trans (Hid.out (by assumption)) (hbC.mono (Below.size (Hid.out (by assumption))))
               | exact Below.trans (Hid.out (by assumption)) (hbB.mono (Below.size (Hid.out (by assumption))))
               | exact Below.trans (Hid.out (by assumption)) (hbA.mono (Below.size (Hid.out (by assumption))))))
        ((first
          | (go_at_call_has 56 (Value.string (⟨#[116, 105, 116, 108, 101]⟩ : ByteArray)); go_split_ands; refine (HTI.out _ (HBW.out _ (Hid.out (by assumption)))).mono ?_; rintro e w9 ⟨rfl, hbA⟩; first | (have hrw : _ = some (Obj.cells #[.string ⟨#[]⟩, .string ⟨#[]⟩, .string ⟨#[]⟩, .string ⟨#[]⟩, .int .i64 0, .bool false] 40 (0, 0)) := row_keep hbA (by first | assumption | exact heap_second _ _ _ | exact heap_alloc_new _ _ | exact heap_old (by assumption) | exact heap_old (heap_alloc_new _ _))) | skip)
          | (go_at_call 58; go_split_ands; refine (HLI.out _ (HBW.out _ (Hid.out (by assumption)))).mono ?_; rintro e w9 ⟨rfl, hbB⟩; first | (have hrw : _ = some (Obj.cells #[.string ⟨#[]⟩, .string ⟨#[]⟩, .string ⟨#[]⟩, .string ⟨#[]⟩, .int .i64 0, .bool false] 40 (0, 0)) := row_keep hbB (by first | assumption | exact heap_second _ _ _ | exact heap_alloc_new _ _ | exact heap_old (by assumption) | exact heap_old (heap_alloc_new _ _))) | skip)
          | (go_at_call_has 56 (Value.string (⟨#[115, 117, 109, 109, 97, 114, 121]⟩ : ByteArray)); go_split_ands; refine (HSU.out _ (HBW.out _ (Hid.out (by assumption)))).mono ?_; rintro e w9 ⟨rfl, hbC⟩; first | (have hrw : _ = some (Obj.cells #[.string ⟨#[]⟩, .string ⟨#[]⟩, .string ⟨#[]⟩, .string ⟨#[]⟩, .int .i64 0, .bool false] 40 (0, 0)) := row_keep hbC (by first | assumption | exact heap_second _ _ _ | exact heap_alloc_new _ _ | exact heap_old (by assumption) | exact heap_old (heap_alloc_new _ _))) | skip)
          | (go_at_call_has 56 (Value.string (⟨#[99, 111, 110, 116, 101, 110, 116]⟩ : ByteArray)); go_split_ands; refine (HCO.out _ (HBW.out _ (Hid.out (by assumption)))).mono ?_; rintro e w9 ⟨rfl, hbD⟩; first | (have hrw : _ = some (Obj.cells #[.string ⟨#[]⟩, .string ⟨#[]⟩, .string ⟨#[]⟩, .string ⟨#[]⟩, .int .i64 0, .bool false] 40 (0, 0)) := row_keep hbD (by first | assumption | exact heap_second _ _ _ | exact heap_alloc_new _ _ | exact heap_old (by assumption) | exact heap_old (heap_alloc_new _ _))) | skip)
          | (go_at_call 94; refine (HFB.out _ _ (by first | exact heap_second _ _ _ | exact heap_alloc_new _ _ | exact heap_old (heap_alloc_new _ _))).mono ?_; rintro e w9 ⟨rfl, rfl⟩)
          | fail))
      all_goals
        go_wp2_with fail
        go_meet
        case rel => exact ⟨_, rfl, by have z1 := hbA.size; have z2 := hbB.size; have z3 := hbC.size; have z4 := hbD.size; simp only [World.alloc, Array.size_push, World.drew] at z1 z2 z3 z4 ⊢; omega, HPR.out _ _ (by first | assumption | exact heap_alloc_new _ _ | exact heap_second _ _ _ | exact heap_first _ _ _ | exact heap_old (by assumption) | exact heap_old (heap_alloc_new _ _)), by go_split_ands; assumption⟩
  case rest =>
    obtain ⟨g, rfl, hg, HG, HBG⟩ := hcut
    have HBc := hid (HBW.out _ HBG.out)
    have HRc := hid (row_keep HBG.out HR1.out)
    have HZc := hid (row_keep HBG.out HZ1.out)
    obtain ⟨Sy, hSy⟩ : ∃ Sy : World → Prop, Sy = fun W => Below w.heap.size w W ∧ W.heap[w.heap.size]? = some (.cells #[A, B, C, D] 25 (0, 0)) ∧ W.heap[w.heap.size + 1]? = some (.cells #[.string ⟨#[]⟩, .string ⟨#[]⟩, .string ⟨#[]⟩, .string ⟨#[]⟩, .int .i64 0, .bool false] 40 (0, 0)) ∧ ∃ (x : Int) (y : Bool), W.heap[g]? = some (.cells #[.string ⟨#[]⟩, .string TI, .string LI, .string BO, .int .i64 x, .bool y] 40 (0, 0)) := ⟨_, rfl⟩
    obtain ⟨PA, hPA⟩ : ∃ PA : World → World, PA = fun W => W.setCells g 4 [.int .i64 TM] := ⟨_, rfl⟩
    obtain ⟨PB, hPB⟩ : ∃ PB : World → World, PB = fun W => W.setCells g 5 [.bool DT] := ⟨_, rfl⟩
    have HY5 : Hid (Sy wc) := by show Sy wc; rw [hSy]; exact ⟨HBc.out, HRc.out, HZc.out, _, _, HG.out⟩
    have HYB : Hid (∀ W W', Sy W → Below W.heap.size W W' → Sy W') := fun W W' h hb => by
      rw [hSy] at h ⊢
      obtain ⟨h1, h2, h3, x, y, h4⟩ := h
      exact ⟨bel2 h1 hb, row_keep hb h2, row_keep hb h3, x, y, row_keep hb h4⟩
    have HYW : Hid (∀ W, Sy W → Below w.heap.size w W) := fun W h => by rw [hSy] at h; exact h.1
    have HYR : Hid (∀ W, Sy W → W.heap[w.heap.size]? = some (.cells #[A, B, C, D] 25 (0, 0)) ∧ W.heap[w.heap.size + 1]? = some (.cells #[.string ⟨#[]⟩, .string ⟨#[]⟩, .string ⟨#[]⟩, .string ⟨#[]⟩, .int .i64 0, .bool false] 40 (0, 0))) := fun W h => by rw [hSy] at h; exact ⟨h.2.1, h.2.2.1⟩
    have HYS : Hid (∀ W, Sy W → (loadI 25 (.pointer (some ⟨w.heap.size, 0, none⟩))).run Tryz.prog W = .ok (.agg #[A, B, C, D]) W ∧ Hid (Sy W)) := fun W h => by
      have h' := h
      rw [hSy] at h
      exact ⟨loadN_run h.2.1 rfl, h'⟩
    have HSA : Hid (∀ W, Sy W → (storeI 2 (.pointer (some ⟨g, 4, none⟩)) (.int .i64 TM)).run Tryz.prog W = .ok () (PA W)) := fun W h => by
      rw [hSy] at h
      obtain ⟨h1, h2, h3, x, y, h4⟩ := h
      rw [hPA]
      exact run_storeI W 2 g 4 _ rfl rfl infoI8 (there_row h4 4 1 (by simp))
    have HSB : Hid (∀ W, Sy W → (storeI 4 (.pointer (some ⟨g, 5, none⟩)) (.bool DT)).run Tryz.prog W = .ok () (PB W)) := fun W h => by
      rw [hSy] at h
      obtain ⟨h1, h2, h3, x, y, h4⟩ := h
      rw [hPB]
      exact run_storeI W 4 g 5 _ rfl rfl infoB1 (there_row h4 5 1 (by simp))
    have HPA : Hid (∀ W, Sy W → Sy (PA W) ∧ Sy (PB (PA W)) ∧ (PB (PA W)).heap[g]? = some (.cells #[.string ⟨#[]⟩, .string TI, .string LI, .string BO, .int .i64 TM, .bool DT] 40 (0, 0))) := fun W h => by
      rw [hSy] at h ⊢
      obtain ⟨h1, h2, h3, x, y, h4⟩ := h
      rw [hPA, hPB]
      have hO := only_setCells g [.int .i64 TM] 4 W
      have hr : (W.setCells g 4 [.int .i64 TM]).heap[g]? = some (.cells #[.string ⟨#[]⟩, .string TI, .string LI, .string BO, .int .i64 TM, .bool y] 40 (0, 0)) := by
        rw [setCells_heap g 40 [.int .i64 TM] 4 W _ h4]
        rfl
      have hO2 := only_setCells g [.bool DT] 5 (W.setCells g 4 [.int .i64 TM])
      have hr2 : ((W.setCells g 4 [.int .i64 TM]).setCells g 5 [.bool DT]).heap[g]? = some (.cells #[.string ⟨#[]⟩, .string TI, .string LI, .string BO, .int .i64 TM, .bool DT] 40 (0, 0)) := by
        rw [setCells_heap g 40 [.bool DT] 5 _ _ hr]
        rfl
      have k1 := h1.trans (hO.below (B := w.heap.size) (by omega))
      have k2 := (hO.block w.heap.size (by omega)).trans h2
      have k3 := (hO.block (w.heap.size + 1) (by omega)).trans h3
      exact ⟨⟨k1, k2, k3, _, _, hr⟩, ⟨k1.trans (hO2.below (by omega)), (hO2.block _ (by omega)).trans k2, (hO2.block _ (by omega)).trans k3, _, _, hr2⟩, hr2⟩
    clear HPB HPR HSK HSTO hstoA hstoB hstoC hstoD hbu HTI HLI HSU HCO HFB HBW hSy hPA hPB HBG HBc HRc HZc HG
    go_upto_region 2 with (fail)
    go_cut [] (fun wx => Hid (Sy wx) ∧ Hid (wx.heap[g]? = some (.cells #[.string ⟨#[]⟩, .string TI, .string LI, .string BO, .int .i64 TM, .bool DT] 40 (0, 0))))
    case first =>
      go_region_held3 (fun W => (loadI 25 (.pointer (some ⟨w.heap.size, 0, none⟩))).run Tryz.prog W = .ok (.agg #[A, B, C, D]) W ∧ Hid (Sy W))
        (first
          | exact HYS.out _ (HYB.out _ _ HY5.out (below_drewN _ _ 1))
          | (go_split_ands
             refine HYS.out _ ?_
             first
               | exact (HPA.out _ hS9).2.1
               | exact (HPA.out _ hS9).1
               | exact hS9
               | exact Hid.out (by assumption)
               | exact HYB.out _ _ (Hid.out (by assumption)) hbQ
               | exact HYB.out _ _ (Hid.out (by assumption)) hbP
               | exact HYB.out _ _ (Hid.out (by assumption)) ((Below.refl _ _).alloc (Nat.le_refl _) _)))
        ((first
          | (go_at_call_has 93 (Value.string (⟨#[117, 112, 100, 97, 116, 101, 100]⟩ : ByteArray)); go_split_ands; refine (HU1.out _ (HYW.out _ (Hid.out (by assumption)))).mono ?_; rintro e w9 ⟨rfl, hbP⟩)
          | (go_at_call_has 93 (Value.string (⟨#[112, 117, 98, 108, 105, 115, 104, 101, 100]⟩ : ByteArray)); go_split_ands; refine (HU2.out _ (HYW.out _ (Hid.out (by assumption)))).mono ?_; rintro e w9 ⟨rfl, hbQ⟩)
          | (go_at_call 92; go_split_ands; refine (HFT.out _ _ (HYW.out _ (Hid.out (by assumption))) (by first | exact heap_second _ _ _ | exact heap_alloc_new _ _ | exact heap_old (heap_alloc_new _ _))).mono ?_; rintro e w9 ⟨rfl, hbT⟩; have hS9 := HYB.out _ _ (Hid.out (by assumption)) hbT; have hsx := HSA.out _ hS9; have hsy := HSB.out _ (HPA.out _ hS9).1)
          | fail))
      all_goals
        go_wp2_with fail
        go_meet
        exact ⟨(HPA.out _ hS9).2.1, (HPA.out _ hS9).2.2⟩
    case rest =>
    obtain ⟨HX2, HG5⟩ := hcut
    obtain ⟨W5, hW5⟩ : ∃ W5, W5 = wc := ⟨_, rfl⟩
    subst hW5
    have HB5 := hid (HYW.out _ HX2.out)
    have HR5 := hid (HYR.out _ HX2.out).1
    have HZ5 := hid (HYR.out _ HX2.out).2
    clear HY5 HYB HYW HYR HYS HSA HSB HPA HX2 HU1 HU2 HFT
    obtain ⟨Sx, hSx⟩ : ∃ Sx : World → Prop, Sx = fun W => Below w.heap.size w W ∧ W.heap[w.heap.size]? = some (.cells #[A, B, C, D] 25 (0, 0)) ∧ W.heap[w.heap.size + 1]? = some (.cells #[.string ⟨#[]⟩, .string ⟨#[]⟩, .string ⟨#[]⟩, .string ⟨#[]⟩, .int .i64 0, .bool false] 40 (0, 0)) ∧ ∃ x : ByteArray, W.heap[g]? = some (.cells #[.string x, .string TI, .string LI, .string BO, .int .i64 TM, .bool DT] 40 (0, 0)) := ⟨_, rfl⟩
    obtain ⟨PS, hPS⟩ : ∃ PS : World → World, PS = fun W => W.setCells g 0 [.string ID] := ⟨_, rfl⟩
    have HX5 : Hid (Sx W5) := by show Sx W5; rw [hSx]; exact ⟨HB5.out, HR5.out, HZ5.out, _, HG5.out⟩
    have HXB : Hid (∀ W W', Sx W → Below W.heap.size W W' → Sx W') := fun W W' h hb => by
      rw [hSx] at h ⊢
      obtain ⟨h1, h2, h3, x, h4⟩ := h
      exact ⟨bel2 h1 hb, row_keep hb h2, row_keep hb h3, x, row_keep hb h4⟩
    have HXW : Hid (∀ W, Sx W → Below w.heap.size w W) := fun W h => by rw [hSx] at h; exact h.1
    have HXZ : Hid (∀ W, Sx W → W.heap[w.heap.size + 1]? = some (.cells #[.string ⟨#[]⟩, .string ⟨#[]⟩, .string ⟨#[]⟩, .string ⟨#[]⟩, .int .i64 0, .bool false] 40 (0, 0))) := fun W h => by rw [hSx] at h; exact h.2.2.1
    have HXS : Hid (∀ W, Sx W → (loadI 25 (.pointer (some ⟨w.heap.size, 0, none⟩))).run Tryz.prog W = .ok (.agg #[A, B, C, D]) W ∧ W.cell? ⟨g, 1, none⟩ = some (.string TI) ∧ W.cell? ⟨g, 2, none⟩ = some (.string LI) ∧ W.cell? ⟨g, 3, none⟩ = some (.string BO) ∧ Hid (Sx W)) := fun W h => by
      have h' := h
      rw [hSx] at h
      obtain ⟨h1, h2, h3, x, h4⟩ := h
      exact ⟨loadN_run h2 rfl, cell_of_row _ _ _ _ _ _ h4, cell_of_row _ _ _ _ _ _ h4, cell_of_row _ _ _ _ _ _ h4, h'⟩
    have HST : Hid (∀ W, Sx W → (storeI 9 (.pointer (some ⟨g, 0, none⟩)) (.string ID)).run Tryz.prog W = .ok () (PS W)) := fun W h => by
      rw [hSx] at h
      obtain ⟨h1, h2, h3, x, h4⟩ := h
      rw [hPS]
      exact run_storeS W g 0 ID (there_row h4 0 1 (by simp))
    have HPS : Hid (∀ W, Sx W → Sx (PS W) ∧ (PS W).heap[g]? = some (.cells #[.string ID, .string TI, .string LI, .string BO, .int .i64 TM, .bool DT] 40 (0, 0))) := fun W h => by
      rw [hSx] at h ⊢
      obtain ⟨h1, h2, h3, x, h4⟩ := h
      rw [hPS]
      have hO := only_setCells g [.string ID] 0 W
      have hr : (W.setCells g 0 [.string ID]).heap[g]? = some (.cells #[.string ID, .string TI, .string LI, .string BO, .int .i64 TM, .bool DT] 40 (0, 0)) := by
        rw [setCells_heap g 40 [.string ID] 0 W _ h4]
        rfl
      exact ⟨⟨h1.trans (hO.below (by omega)), (hO.block _ (by omega)).trans h2, (hO.block _ (by omega)).trans h3, ID, hr⟩, hr⟩
    clear hSx hPS HB5 HR5 HZ5 HG5
    go_upto_region 3 with (fail)
    go_cut [] (fun wx => Hid (Sx wx) ∧ Hid (wx.heap[g]? = some (.cells #[.string ID, .string TI, .string LI, .string BO, .int .i64 TM, .bool DT] 40 (0, 0))))
    case first =>
      go_region_held3 (fun W => (loadI 25 (.pointer (some ⟨w.heap.size, 0, none⟩))).run Tryz.prog W = .ok (.agg #[A, B, C, D]) W ∧ W.cell? ⟨g, 1, none⟩ = some (.string TI) ∧ W.cell? ⟨g, 2, none⟩ = some (.string LI) ∧ W.cell? ⟨g, 3, none⟩ = some (.string BO) ∧ Hid (Sx W))
        (first
          | exact HXS.out _ (HXB.out _ _ HX5.out (below_drewN _ _ 1))
          | (go_split_ands
             refine HXS.out _ ?_
             first
               | exact (HPS.out _ hS9).1
               | exact hS9
               | exact Hid.out (by assumption)
               | exact HXB.out _ _ (Hid.out (by assumption)) hbN
               | exact HXB.out _ _ (Hid.out (by assumption)) ((Below.refl _ _).alloc (Nat.le_refl _) _)))
        ((first
          | (go_at_call 95; go_split_ands; refine (HNM.out _ (HXW.out _ (Hid.out (by assumption)))).mono ?_; rintro e w9 ⟨rfl, hbN⟩)
          | (go_at_call 94; refine (HFF.out _ _ (by first | exact heap_second _ _ _ | exact heap_alloc_new _ _ | exact heap_old (heap_alloc_new _ _))).mono ?_; rintro e w9 ⟨rfl, rfl⟩)
          | (go_at_call 19; go_split_ands; refine (HID.out _ (HXW.out _ (Hid.out (by assumption)))).mono ?_; rintro e w9 ⟨rfl, hbI⟩; have hS9 := HXB.out _ _ (Hid.out (by assumption)) hbI; have hsx := HST.out _ hS9)
          | fail))
      all_goals
        go_wp2_with fail
        go_meet
        exact ⟨(HPS.out _ hS9).1, (HPS.out _ hS9).2⟩
    case rest =>
      obtain ⟨HXC, HGC⟩ := hcut
      have hld := loadE_run HGC.out rfl
      have hzz := HXZ.out _ HXC.out
      have HBC := hid (HXW.out _ HXC.out)
      go_wp2_with (first
        | (refine wpList_store_abs rfl 40 (.tmp 2) (.tmp 38) rfl (w.heap.size + 1) 0 #[.string ID, .string TI, .string LI, .string BO, .int .i64 TM, .bool DT] rfl rfl 40 _ hzz (Nat.le_refl 6) infoE (ecs_any _ _ _ _ _ _) ?_; intro W9 hO9 hW9)
        | fail)
      rw [over_whole #[.string ⟨#[]⟩, .string ⟨#[]⟩, .string ⟨#[]⟩, .string ⟨#[]⟩, .int .i64 0, .bool false] #[.string ID, .string TI, .string LI, .string BO, .int .i64 TM, .bool DT] rfl] at hW9
      exact bodyPost_ret (ret_en (p := 2) Tryz.results57 _ _ (w.heap.size + 1) #[.string ID, .string TI, .string LI, .string BO, .int .i64 TM, .bool DT] rfl (0, 0) rfl hW9) rfl ⟨rfl, HBC.out.trans (hO9.below (by omega))⟩
def FeedV (w : World) (v : Value) (f : FeV) : Prop := ∃ A c, v = .agg #[.string (asS f.title), .string (asS f.link), .slice A f.entries.length c] ∧ EntsAt w A f.entries
def FeedO (w : World) (b : Nat) (v : Value) (f : FeV) : Prop := ∃ A c, v = .agg #[.string (asS f.title), .string (asS f.link), .slice A f.entries.length c] ∧ OwnE w b (.slice A f.entries.length c) f.entries
theorem FeedO.zero (w : World) (b : Nat) : FeedO w b (.agg #[.string ⟨#[]⟩, .string ⟨#[]⟩, .slice none 0 0]) zeroF := ⟨none, 0, rfl, OwnE.nil _ _⟩
theorem FeedO.feed {w : World} {b : Nat} {v : Value} {f : FeV} (h : FeedO w b v f) : FeedV w v f := by
 obtain ⟨A, c, h1, h2⟩ := h
 obtain ⟨A', c', he, hat⟩ := h2.ents
 injection he with he1 he2 he3
 subst he1
 exact ⟨A, c, h1, hat⟩
theorem infoF : (Tryz.prog.info? 30).map (·.size) = some 3 := by kernel_rfl
theorem fcs_any (a b : ByteArray) (A : Option Addr) (n c : Nat) : (#[.string a, .string b, .slice A n c] : Array Value).all (·.oneCell') = true := by
 refine all_oneCell_toArray (cs := [.string a, .string b, .slice A n c]) fun v hv => ?_
 simp only [List.mem_cons, List.not_mem_nil, or_false] at hv
 rcases hv with rfl | rfl | rfl <;> rfl
theorem ret_fd {fn : Func} {p : Tmp} (h : fn.results = #[.cell p 30]) (tmps : Array Value) (w : World) (b : Nat) (cs : Array Value) (hz : cs.size = 3) (fr : Nat × Nat) (hp : tmps.getD p undef = .pointer (some ⟨b, 0, none⟩)) (hrow : w.heap[b]? = some (.cells cs 30 fr)) :
  (results fn tmps).run Tryz.prog w = .ok (.agg cs) w :=
 results_cell_row h tmps w b 30 cs fr _ hp hrow Tryz.underlying30 rfl (by rw [hz]; exact infoF)
theorem ret_fd2 {fn : Func} {p q : Tmp} (h : fn.results = #[.cell p 30, .tmp q]) (tmps : Array Value) (w : World) (b : Nat) (cs : Array Value) (hz : cs.size = 3) (fr : Nat × Nat) (v : Value) (hp : tmps[p]? = some (.pointer (some ⟨b, 0, none⟩))) (hq : tmps[q]? = some v) (hrow : w.heap[b]? = some (.cells cs 30 fr)) :
  (results fn tmps).run Tryz.prog w = .ok (.tuple #[.agg cs, v]) w :=
 results_row_tmp h tmps w b 30 cs fr _ v hp hq hrow Tryz.underlying30 rfl (by rw [hz]; exact infoF)
theorem storeF_eq (x v : Value) : Instr.storeAt 30 x v = storeI 30 x v := rfl
theorem buildF_eq (ps : Array (Nat × Value)) : Instr.build 30 ps = buildI 30 ps := rfl
theorem built_fd3 (a b : ByteArray) (A : Option Addr) (n c : Nat) : Tryz.prog.built 30 [(0, .string a), (1, .string b), (2, .slice A n c)] = some #[.string a, .string b, .slice A n c] := by kernel_rfl
theorem run_buildF (a b : ByteArray) (A : Option Addr) (n c : Nat) (W : World) : (buildI 30 #[(0, .string a), (1, .string b), (2, .slice A n c)]).run Tryz.prog W = .ok (.agg #[.string a, .string b, .slice A n c]) W := run_build W _ _ _ (built_fd3 a b A n c)
theorem built_fd0 : Tryz.prog.built 30 [] = some #[.string ⟨#[]⟩, .string ⟨#[]⟩, .slice none 0 0] := by kernel_rfl
theorem storeF_row {w : World} {g : Nat} {cs : Array Value} (a b : ByteArray) (A : Option Addr) (n c : Nat) (hrow : w.heap[g]? = some (.cells cs 30 (0, 0))) (hz : cs.size = 3) : (storeI 30 (.pointer (some ⟨g, 0, none⟩)) (.agg #[.string a, .string b, .slice A n c])).run Tryz.prog w = .ok () (putE w g #[.string a, .string b, .slice A n c]) :=
 run_storeAt_mid w g 0 30 #[.string a, .string b, .slice A n c] (there_row hrow 0 3 (by rw [hz]; exact Nat.le_refl _)) infoF (fcs_any _ _ _ _ _)
theorem OwnE.only {w w' : World} {b r : Nat} {v : Value} {l : List EnV} (h : OwnE w b v l) (hO : Only r w w') (hr : r < b) : OwnE w' b v l := by
 rcases h with h | ⟨g, cap, h1, h2⟩
 ·exact .inl h
 ·exact .inr ⟨g, cap, h1, h2.kept (hO.block g (by have := h2.ge; omega))⟩
end Go.Proofs.YtgoiafndapemjaaGreatDoor
