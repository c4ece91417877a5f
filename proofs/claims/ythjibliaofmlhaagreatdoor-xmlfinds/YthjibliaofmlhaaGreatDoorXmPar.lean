
/- A text read as a file: what Parse of package xml does, where attributes does what it is to. -/
import Derived.Test.YthjibliaofmlhaaGreatDoorXmFile
namespace Go.Proofs.YthjibliaofmlhaaGreatDoor
set_option linter.unusedVariables false
set_option linter.unusedSimpArgs false
open Go.RowKit Go.BigFrame
attribute [local go_sem ↓] loadN_eq storeN_eq

theorem X_err (l : List UInt8) : X l = decide (errX l = 0) := by
  unfold X errX
  cases V l with
  | false => rfl
  | true =>
    rw [Bool.true_and, if_pos rfl]
    show xmlB (asS l) = _
    cases xmlB (asS l) <;> rfl
/-- What is told of a text read. -/
def ParPost (V : Except Nat (Tr 40)) (w : World) (e : Ending) (w' : World) : Prop := Below w.heap.size w w' ∧
  ((∃ t cs, V = .ok t ∧ e = .returned (.tuple #[.agg cs, .int .i64 0]) ∧ NdAt (fun q => w.heap.size ≤ q) 40 w' cs t) ∨
   (∃ er : Nat, V = .error er ∧ (er = 3 ∨ er = 5 ∨ er = 8 ∨ er = 9) ∧ e = .returned (.tuple #[.agg #[.string ⟨#[]⟩, .slice none 0 0, .string ⟨#[]⟩, .slice none 0 0], .int .i64 er])))
theorem lin_13 : ∀ l : List UInt8, (13 : UInt8) ∉ linE l
  | [] => by simp [linE]
  | c :: r => by
    have ih := lin_13 r
    simp only [linE]
    split
    · rename_i h
      intro hm
      rcases List.mem_cons.1 hm with e | e
      · exact h e.symm
      · exact ih e
    · split
      · exact ih
      · intro hm
        rcases List.mem_cons.1 hm with e | e
        · cases e
        · exact ih e
theorem infoR : (Tryz.prog.info? 62).map (·.size) = some 2 := by kernel_rfl
theorem store_two {ops : Array Oper} {rest : List Oper} {op : Oper} {a : Act} {w : World} {Q : Exit → Act → World → Prop} (hgd : op.guard = none) (x y : Operand) (ho : op.op = .store 62 x y)
    (b : Nat) (A B : Value) (h1 : A.oneCell' = true) (h2 : B.oneCell' = true) (hx : a.eval x = .pointer (some ⟨b, 0, none⟩)) (hy : a.eval y = .agg #[A, B])
    (cs : Array Value) (hrow : w.heap[b]? = some (.cells cs 62 (0, 0))) (hz : cs.size = 2)
    (h : ∀ W, Only b w W → W.heap[b]? = some (.cells #[A, B] 62 (0, 0)) → wpList Tryz.prog ops Q rest (a.put op.dst undef) W) : wpList Tryz.prog ops Q (op :: rest) a w :=
  wpList_store_abs hgd 62 x y ho b 0 #[A, B] hx hy 62 cs hrow (by rw [hz]; exact Nat.le_refl _) infoR (all_oneCell_toArray (cs := [A, B]) fun v hv => by
    simp only [List.mem_cons, List.not_mem_nil, or_false] at hv
    rcases hv with rfl | rfl
    · exact h1
    · exact h2)
    (fun W q1 q2 => h W q1 (by rw [q2, over_whole cs #[A, B] (by rw [hz]; rfl)]))
set_option maxHeartbeats 1000000 in
set_option maxRecDepth 100000 in
theorem parse13_any (HAT : AtOk) (s : List UInt8) (w : World) (h8 : 8 ≤ w.heap.size) (hT : TabE w) : Calls Tryz.prog 14 #[.string (asS s)] w (ParPost (parX s) w) := by
  have HP := hid (par_file s)
  have HB0 := hid ((Below.refl w.heap.size w).alloc (Nat.le_refl _) (.cells #[.string ⟨#[]⟩, .slice none 0 0, .string ⟨#[]⟩, .slice none 0 0] 25))
  have HG0 := hid (heap_alloc_new w (.cells #[.string ⟨#[]⟩, .slice none 0 0, .string ⟨#[]⟩, .slice none 0 0] 25))
  have HT0 := hid (hT.below HB0.out)
  have hsz := asS_size s
  have HXM := hid (fun W => xml_any s W)
  have HXE := hid (X_err s)
  have HLI := hid (fun (hs : s.length ≤ 65536) W hW => lines_any s (by omega) W hW)
  have HFL := hid (fun (hs : s.length ≤ 65536) R W (h1 : 7 < R) h2 h3 => file_any HAT (linE s) R W (Nat.le_trans (linE_len s) hs) (lin_13 s) h1 h2 h3)
  have H8 := hid h8
  clear HAT hT h8
  unfold ParPost
  generalize parX s = V at HP ⊢
  generalize fileX (linE s) = F at HP HFL
  by_cases h1 : 65536 < s.length
  · rw [if_pos h1] at HP
    rw [← hsz] at h1
    have h1' : (65536 : Int) < ((asS s).size : Int) := by omega
    clear hsz HXM HXE HLI HFL h1
    generalize asS s = S at h1' ⊢
    go_enter Tryz.func14, Tryz.ntmps14
    go_wp2_with (first
      | (refine store_msg infoN rfl _ _ rfl w.heap.size _ _ _ _ rfl rfl rfl rfl rfl rfl _ HG0.out rfl ?_)
      | fail)
    intro WN hoN hrN
    have HON := hid hoN
    have HGN := hid hrN
    clear hoN hrN
    go_wp2_with fail
    refine bodyPost_ret (ret_nd2 (p := 2) (q := 3) Tryz.results14 _ _ w.heap.size _ rfl (0, 0) _ rfl rfl HGN.out) rfl ?_
    exact ⟨HB0.out.trans (HON.out.below (Nat.le_refl _)), .inr ⟨3, HP.out, by omega, rfl⟩⟩
  · rw [if_neg h1] at HP
    have h1' : ¬ (65536 : Int) < ((asS s).size : Int) := by rw [hsz]; omega
    by_cases h2 : errX s = 0
    · rw [HXE.out, decide_eq_true h2] at HP
      simp only [Bool.not_true, Bool.false_eq_true, if_false] at HP
      rw [h2] at HXM
      have HLI2 := hid (HLI.out (by omega))
      have HFL2 := hid (HFL.out (by omega))
      clear hsz HXE HLI HFL h1 h2
      generalize asS s = S at h1' HXM HLI2 ⊢
      obtain ⟨LS, hLS⟩ : ∃ LS, asS (linE s) = LS := ⟨_, rfl⟩
      have HLS := hid hLS
      rw [hLS] at HLI2
      clear hLS
      go_enter Tryz.func14, Tryz.ntmps14
      go_wp2_with fail
      refine (HXM.out _).mono ?_
      rintro e W1 ⟨rfl, hb1⟩
      have HB1 := hid (HB0.out.trans (hb1.mono HB0.out.size))
      have HG1 := hid (row_keep hb1 HG0.out)
      have HT1 := hid (HT0.out.below hb1)
      clear hb1
      go_wp2_with fail
      refine (HLI2.out _ HT1.out).mono ?_
      rintro e W2 ⟨rfl, hb2⟩
      have HB2 := hid (HB1.out.trans (hb2.mono HB1.out.size))
      have HG2 := hid (row_keep hb2 HG1.out)
      have HT2 := hid (HT1.out.below hb2)
      clear hb2
      go_wp2_with (first
        | (refine store_two rfl _ _ rfl W2.heap.size (.string LS) (.int .i64 0) rfl rfl rfl rfl _ (heap_alloc_new W2 _) rfl ?_)
        | fail)
      intro W3 ho3 hr3
      have hb3 := ((Below.refl _ W2).alloc (Nat.le_refl _) (.cells #[.string ⟨#[]⟩, .int .i64 0] 62)).trans (ho3.below (Nat.le_refl _))
      have HB3 := hid (HB2.out.trans (hb3.mono HB2.out.size))
      have HG3 := hid (row_keep hb3 HG2.out)
      have HT3 := hid (HT2.out.below hb3)
      have HRD : Hid (Rd W3 W2.heap.size (linE s) 0) := by show Rd _ _ _ _; unfold Rd; rw [HLS.out]; exact hr3
      have HZ2 : Hid (w.heap.size < W2.heap.size) := (Array.getElem?_eq_some_iff.1 HG2.out).1
      have HZ3 := hid hb3.size
      clear ho3 hr3 hb3
      have HFC := hid (HFL2.out W2.heap.size W3 (by have := H8.out; have := HZ2.out; omega) HT3.out HRD.out)
      go_wp2_with fail
      refine HFC.out.mono ?_
      rintro e W4 ⟨ho, (⟨t, cs, hF, rfl, hnd⟩ | ⟨er, A, B, C, D, hF, her, rfl, o1, o2, o3, o4⟩)⟩
      · rw [hF] at HP
        have HG4 := hid (to_row ho HG3.out (by have := HZ2.out; omega))
        have HB4 := hid (HB3.out.trans (to_cut ho HB3.out.size (by have := HZ2.out; omega)))
        have HND := hid hnd
        obtain ⟨aA, ac, kA, kc, hcs, _, _⟩ := hnd.parts
        obtain ⟨A, B, C, D, hcs2, o1, o2, o3, o4⟩ : ∃ A B C D : Value, cs = #[A, B, C, D] ∧ A.oneCell' = true ∧ B.oneCell' = true ∧ C.oneCell' = true ∧ D.oneCell' = true := ⟨_, _, _, _, hcs, rfl, rfl, rfl, rfl⟩
        clear ho hnd hcs hF
        subst hcs2
        go_wp2_with (first
          | (refine store_msg infoN rfl _ _ rfl W4.heap.size A B C D o1 o2 o3 o4 rfl rfl _ (heap_alloc_new W4 _) rfl ?_)
          | fail)
        intro W5 ho5 hr5
        have hb5 := ((Below.refl _ W4).alloc (Nat.le_refl _) (.cells #[.string ⟨#[]⟩, .slice none 0 0, .string ⟨#[]⟩, .slice none 0 0] 25)).trans (ho5.below (Nat.le_refl _))
        have HG5 := hid (row_keep hb5 HG4.out)
        have HB5 := hid (HB4.out.trans (hb5.mono HB4.out.size))
        have HND5 := hid (HND.out.below hb5 (Nat.le_refl _))
        have hld5 : (loadI 25 (.pointer (some ⟨W4.heap.size, 0, none⟩))).run Tryz.prog W5 = .ok (.agg #[A, B, C, D]) W5 := loadN_run hr5 rfl
        clear ho5 hr5 hb5
        have hst5 : (storeI 25 (.pointer (some ⟨w.heap.size, 0, none⟩)) (.agg #[A, B, C, D])).run Tryz.prog W5 = .ok () (putM W5 w.heap.size #[A, B, C, D]) := storeM_row infoN _ _ _ _ o1 o2 o3 o4 HG5.out rfl
        have HP5 := hid (putM_only W5 w.heap.size #[A, B, C, D])
        have HQ5 := hid (putM_row HG5.out (cs' := #[A, B, C, D]) rfl)
        generalize putM W5 w.heap.size #[A, B, C, D] = Y at hst5 HP5 HQ5
        go_wp2_with fail
        refine bodyPost_ret (ret_nd2 (p := 2) (q := 3) Tryz.results14 _ _ w.heap.size _ rfl (0, 0) _ rfl rfl HQ5.out) rfl ?_
        refine ⟨HB5.out.trans (HP5.out.below (Nat.le_refl _)), .inl ⟨t, _, HP.out, rfl, HND5.out.frame (by rw [HP5.out.size]; exact Nat.le_refl _) fun q hq hlq => ?_⟩⟩
        have := HZ2.out
        have := HZ3.out
        exact ⟨HP5.out.block q (by omega), by omega⟩
      · rw [hF] at HP
        have HG4 := hid (to_row ho HG3.out (by have := HZ2.out; omega))
        have HB4 := hid (HB3.out.trans (to_cut ho HB3.out.size (by have := HZ2.out; omega)))
        have HER := hid her
        have hne : ((er : Int) != 0) = true := by rw [bne_iff_ne]; omega
        clear ho hF her
        go_wp2_with (first
          | (refine store_msg infoN rfl _ _ rfl W4.heap.size A B C D o1 o2 o3 o4 rfl rfl _ (heap_alloc_new W4 _) rfl ?_)
          | fail)
        intro W5 ho5 hr5
        have hb5 := ((Below.refl _ W4).alloc (Nat.le_refl _) (.cells #[.string ⟨#[]⟩, .slice none 0 0, .string ⟨#[]⟩, .slice none 0 0] 25)).trans (ho5.below (Nat.le_refl _))
        have HG5 := hid (row_keep hb5 HG4.out)
        have HB5 := hid (HB4.out.trans (hb5.mono HB4.out.size))
        clear ho5 hr5 hb5
        go_wp2_with (first
          | (refine store_msg infoN rfl _ _ rfl w.heap.size _ _ _ _ rfl rfl rfl rfl rfl rfl _ HG5.out rfl ?_)
          | fail)
        intro WN hoN hrN
        have HON := hid hoN
        have HGN := hid hrN
        clear hoN hrN
        go_wp2_with fail
        refine bodyPost_ret (ret_nd2 (p := 2) (q := 3) Tryz.results14 _ _ w.heap.size _ rfl (0, 0) _ rfl rfl HGN.out) rfl ?_
        exact ⟨HB5.out.trans (HON.out.below (Nat.le_refl _)), .inr ⟨er, HP.out, HER.out, rfl⟩⟩
    · rw [HXE.out, decide_eq_false h2] at HP
      simp only [Bool.not_false, if_true] at HP
      have hne : (errX s != 0) = true := by rw [bne_iff_ne]; exact h2
      generalize errX s = E at HXM hne
      clear hsz HXE HLI HFL h1 h2
      generalize asS s = S at h1' HXM ⊢
      go_enter Tryz.func14, Tryz.ntmps14
      go_wp2_with fail
      refine (HXM.out _).mono ?_
      rintro e W1 ⟨rfl, hb1⟩
      have HB1 := hid (HB0.out.trans (hb1.mono HB0.out.size))
      have HG1 := hid (row_keep hb1 HG0.out)
      clear hb1
      go_wp2_with (first
        | (refine store_msg infoN rfl _ _ rfl w.heap.size _ _ _ _ rfl rfl rfl rfl rfl rfl _ HG1.out rfl ?_)
        | fail)
      intro WN hoN hrN
      have HON := hid hoN
      have HGN := hid hrN
      clear hoN hrN
      go_wp2_with fail
      refine bodyPost_ret (ret_nd2 (p := 2) (q := 3) Tryz.results14 _ _ w.heap.size _ rfl (0, 0) _ rfl rfl HGN.out) rfl ?_
      exact ⟨HB1.out.trans (HON.out.below (Nat.le_refl _)), .inr ⟨5, HP.out, by omega, rfl⟩⟩
end Go.Proofs.YthjibliaofmlhaaGreatDoor
