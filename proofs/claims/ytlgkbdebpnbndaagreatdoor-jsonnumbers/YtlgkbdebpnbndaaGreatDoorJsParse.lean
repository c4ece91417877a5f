
/- Parse: a text is read. -/
import Derived.Test.YtlgkbdebpnbndaaGreatDoorJsCaught
import Derived.Test.YtlgkbdebpnbndaaGreatDoorTxCheck
namespace Go.Proofs.YtlgkbdebpnbndaaGreatDoor
set_option linter.unusedVariables false
set_option linter.unusedSimpArgs false
open Go.RowKit Go.BigFrame

theorem infoRj : (Tryz.prog.info? 60).map (·.size) = some 3 := by kernel_rfl
theorem three_one (A B C : Value) (h1 : A.oneCell' = true) (h2 : B.oneCell' = true) (h3 : C.oneCell' = true) : (#[A, B, C] : Array Value).all (·.oneCell') = true := by
  refine all_oneCell_toArray (cs := [A, B, C]) fun v hv => ?_
  simp only [List.mem_cons, List.not_mem_nil, or_false] at hv
  rcases hv with rfl | rfl | rfl
  · exact h1
  · exact h2
  · exact h3
/-- What the closure in Parse does. -/
def Par1P (l : List UInt8) (Vb : Nat) (w : World) (e : Ending) (w' : World) : Prop :=
  (∀ t, fileJ l = .ok t → e = .returned (.tuple #[]) ∧ ∃ cs, w'.heap[Vb]? = some (.cells cs 25 (0, 0)) ∧ VAt (fun q => w.heap.size ≤ q) 40 w' cs t) ∧ (∀ k, fileJ l = .error k → e = dieJ k ∧ w'.heap[Vb]? = some (.cells #[.int .i64 0, .int .i64 0, .string ⟨#[]⟩, .slice none 0 0, .slice none 0 0] 25 (0, 0))) ∧ w.grownBy w' (some Vb)
set_option maxHeartbeats 4000000 in
set_option maxRecDepth 100000 in
theorem parse1_any (l : List UInt8) (Sb Vb : Nat) (w : World) (hl : l.length ≤ 65536) (h9 : 7 < w.heap.size) (hT : TabJ w) (hs : w.cell? ⟨Sb, 0, none⟩ = some (.string (asS l))) (hv : w.heap[Vb]? = some (.cells #[.int .i64 0, .int .i64 0, .string ⟨#[]⟩, .slice none 0 0, .slice none 0 0] 25 (0, 0))) : Calls Tryz.prog 35 #[.pointer (some ⟨Sb, 0, none⟩), .pointer (some ⟨Vb, 0, none⟩)] w (Par1P l Vb w) := by
  have hVl : Vb < w.heap.size := (Array.getElem?_eq_some_iff.1 hv).1
  have HF : Hid (∀ W, Below w.heap.size w W → Rj W w.heap.size l 0 0 → Calls Tryz.prog 36 #[.pointer (some ⟨w.heap.size, 0, none⟩)] W (FileP l w.heap.size W)) := fun W hb hr => file_j l w.heap.size W (by omega) h9 (hT.below hb) hr
  have HV := hid hv
  have HQ := hid (heap_alloc_new w (.cells #[.string ⟨#[]⟩, .int .i64 0, .int .i64 0] 60))
  have HB := hid ((Below.refl w.heap.size w).alloc (Nat.le_refl _) (.cells #[.string ⟨#[]⟩, .int .i64 0, .int .i64 0] 60))
  have hbu : ∀ (S : ByteArray) W, (buildI 60 #[(0, .string S)]).run Tryz.prog W = .ok (.agg #[.string S, .int .i64 0, .int .i64 0]) W := fun S W => run_build W 60 _ _ (by kernel_rfl)
  have HS : Hid (asS l = asS l) := rfl
  clear hT hv
  have HRJ : Hid (∀ W, W.heap[w.heap.size]? = some (.cells #[.string (asS l), .int .i64 0, .int .i64 0] 60 (0, 0)) → Rj W w.heap.size l 0 0) := fun W h => h
  generalize asS l = S at hs HRJ
  go_enter Tryz.func35, Tryz.ntmps35
  go_wp2_with (first
    | (refine wpList_store_abs rfl 60 (.tmp 2) (.tmp 4) rfl w.heap.size 0 #[.string S, .int .i64 0, .int .i64 0] rfl rfl 60 _ HQ.out (Nat.le_refl 3) infoRj (three_one _ _ _ rfl rfl rfl) ?_; intro W1 ho hr)
    | fail)
  rw [over_whole #[.string ⟨#[]⟩, .int .i64 0, .int .i64 0] #[.string S, .int .i64 0, .int .i64 0] rfl] at hr
  have HB1 := hid (HB.out.trans (ho.below (Nat.le_refl _)))
  have HF1 := hid (HF.out W1 HB1.out (HRJ.out W1 hr))
  have HV1 := hid (row_keep HB1.out HV.out)
  clear hr ho HB HQ HRJ
  have hW1 := HB1.out.size
  cases hf : fileJ l with
  | error k =>
    have HF2 : Hid (Calls Tryz.prog 36 #[.pointer (some ⟨w.heap.size, 0, none⟩)] W1 fun e w' => e = dieJ k ∧ W1.grownBy w' (some w.heap.size)) := HF1.out.mono fun e w' hh => ⟨hh.2.1 k hf, hh.2.2⟩
    clear HF HF1 HS
    refine HF2.out.mono ?_
    rintro e W2 ⟨rfl, hg⟩
    refine ⟨rfl, (fun t h2 => by rw [hf] at h2; cases h2), (fun k2 h2 => ?_), to_below (HB1.out.trans (to_cut hg hW1 (Nat.le_refl _)))⟩
    rw [hf] at h2
    injection h2 with h2
    subst h2
    exact ⟨rfl, to_row hg HV1.out (by omega)⟩
  | ok t =>
    have HF2 : Hid (Calls Tryz.prog 36 #[.pointer (some ⟨w.heap.size, 0, none⟩)] W1 fun e w' => ∃ cs, e = .returned (.agg cs) ∧ Hid (VAt (fun q => W1.heap.size ≤ q) 40 w' cs t) ∧ Hid (W1.grownBy w' (some w.heap.size))) := HF1.out.mono fun e w' hh => by
      obtain ⟨cs, h1, h2⟩ := hh.1 t hf
      exact ⟨cs, h1, h2, hh.2.2⟩
    clear HF HF1 HS
    refine HF2.out.mono ?_
    rintro e W2 ⟨cs, rfl, HVA, HG⟩
    have HV2 := hid (to_row HG.out HV1.out (by omega))
    have HB2 := hid (HB1.out.trans (to_cut HG.out hW1 (Nat.le_refl _)))
    clear HF2 HV1 HV
    go_wp2_with (first
      | (refine wpList_store_abs rfl 25 (.tmp 1) (.tmp 5) rfl Vb 0 cs rfl rfl 25 _ HV2.out (by rw [HVA.out.size]; exact Nat.le_refl _) (by rw [HVA.out.size]; exact infoVj) (vcs_one HVA.out) ?_; intro W9 hO9 hW9)
      | fail)
    rw [over_whole #[.int .i64 0, .int .i64 0, .string ⟨#[]⟩, .slice none 0 0, .slice none 0 0] cs (by rw [HVA.out.size]; rfl)] at hW9
    refine ⟨by simp, _, results_none rfl _ _ _, (fun t2 h2 => ?_), (fun k h2 => by rw [hf] at h2; cases h2), (to_below HB2.out).trans (to_only hO9)⟩
    rw [hf] at h2
    injection h2 with h2
    subst h2
    exact ⟨rfl, cs, hW9, HVA.out.frame (Nat.le_of_eq hO9.size.symm) fun q hq hl => ⟨hO9.block q (fun e => by omega), by omega⟩⟩
theorem ret_v2 {fn : Func} {p q : Tmp} (h : fn.results = #[.cell p 25, .tmp q]) (tmps : Array Value) (w : World) (b : Nat) (cs : Array Value) (hz : cs.size = 5) (fr : Nat × Nat) (v : Value) (hp : tmps[p]? = some (.pointer (some ⟨b, 0, none⟩))) (hq : tmps[q]? = some v) (hrow : w.heap[b]? = some (.cells cs 25 fr)) :
    (results fn tmps).run Tryz.prog w = .ok (.tuple #[.agg cs, v]) w :=
  results_row_tmp h tmps w b 25 cs fr _ v hp hq hrow Tryz.underlying25 rfl (by rw [hz]; exact infoVj)
/-- Whatever the text: the tree, or the error. -/
def ParP (l : List UInt8) (w : World) (e : Ending) (w' : World) : Prop :=
  (∀ t, parJ l = .ok t → ∃ cs, e = .returned (.tuple #[.agg cs, .int .i64 0]) ∧ VAt (fun q => w.heap.size ≤ q) 40 w' cs t) ∧ (∀ k, parJ l = .error k → e = .returned (.tuple #[.agg #[.int .i64 0, .int .i64 0, .string ⟨#[]⟩, .slice none 0 0, .slice none 0 0], .int .i64 k])) ∧ Below w.heap.size w w'
theorem ParP.err {l : List UInt8} {w w' : World} {k : Nat} (h : parJ l = .error k) (hb : Below w.heap.size w w') : ParP l w (.returned (.tuple #[.agg #[.int .i64 0, .int .i64 0, .string ⟨#[]⟩, .slice none 0 0, .slice none 0 0], .int .i64 k])) w' := ⟨(fun t h2 => by rw [h] at h2; cases h2), (fun k2 h2 => by rw [h] at h2; injection h2 with h2; rw [h2]), hb⟩
theorem load_v5 {w : World} {g : Nat} {cs : Array Value} {fr : Nat × Nat} (hg : w.heap[g]? = some (.cells cs 25 fr)) (hz : cs.size = 5) : (loadVar 25 ⟨g, 0, none⟩).run Tryz.prog w = .ok (.agg cs) w :=
  run_loadVar_row w g 25 25 cs fr _ hg Tryz.underlying25 rfl (by rw [hz]; exact infoVj)
attribute [local go_sem ↓] buildV_eq
set_option maxHeartbeats 4000000 in
set_option maxRecDepth 100000 in
theorem parse_jn (l : List UInt8) (k : Nat) (w : World) (hl : l.length ≤ 1000000) (h : parJ l = .error k) (hk : (65536 < l.length ∧ k = 3) ∨ (¬ 65536 < l.length ∧ V l = false ∧ k = 5)) : Calls Tryz.prog 14 #[.string (asS l)] w (ParP l w) := by
  have hz : (asS l).size = l.length := asS_size l
  have HE := hid h
  have HCK : Hid (V l = false → ∀ W, Calls Tryz.prog 34 #[.string (asS l)] W fun e w' => e = .returned (.int .i64 5) ∧ Below W.heap.size W w') := fun hv W => check1_no (asS l) W (by rw [vld_V, asS_data]; exact hv)
  clear h
  generalize asS l = S at hz HCK ⊢
  have hbu : ∀ W, (buildI 25 #[]).run Tryz.prog W = .ok (.agg #[.int .i64 0, .int .i64 0, .string ⟨#[]⟩, .slice none 0 0, .slice none 0 0]) W := fun W => run_build W 25 _ _ built_vz
  have HB := hid ((((Below.refl w.heap.size w).alloc (Nat.le_refl _) (.cells #[.string S] 9)).alloc (by show _ ≤ (Array.push _ _).size; rw [Array.size_push]; omega) (.cells #[.int .i64 0, .int .i64 0, .string ⟨#[]⟩, .slice none 0 0, .slice none 0 0] 25)))
  have HQ := hid (heap_second w (.cells #[.string S] 9 (0, 0)) (.cells #[.int .i64 0, .int .i64 0, .string ⟨#[]⟩, .slice none 0 0, .slice none 0 0] 25 (0, 0)))
  rcases hk with ⟨h1, rfl⟩ | ⟨h1, h2, rfl⟩
  · have hi : (65536 : Int) < (l.length : Int) := by omega
    go_enter Tryz.func14, Tryz.ntmps14
    go_wp2_with (first
      | (refine wpList_store_abs rfl 25 (.tmp 2) (.tmp 9) rfl (w.heap.size + 1) 0 #[.int .i64 0, .int .i64 0, .string ⟨#[]⟩, .slice none 0 0, .slice none 0 0] rfl rfl 25 _ HQ.out (Nat.le_refl 5) infoVj (vcs_all _ _ _ _ _ _ _ _ _) ?_; intro W9 hO9 hW9)
      | fail)
    rw [over_whole #[.int .i64 0, .int .i64 0, .string ⟨#[]⟩, .slice none 0 0, .slice none 0 0] #[.int .i64 0, .int .i64 0, .string ⟨#[]⟩, .slice none 0 0, .slice none 0 0] rfl] at hW9
    exact bodyPost_ret (ret_v2 (p := 2) (q := 3) Tryz.results14 _ _ (w.heap.size + 1) _ rfl (0, 0) _ rfl rfl hW9) rfl (ParP.err HE.out (HB.out.trans (hO9.below (by omega))))
  · have hi : ¬ (65536 : Int) < (l.length : Int) := by omega
    have HC := hid (HCK.out h2)
    clear HCK
    go_enter Tryz.func14, Tryz.ntmps14
    go_wp2_with fail
    refine (HC.out _).mono ?_
    rintro e W2 ⟨rfl, hb⟩
    have HB2 := hid (HB.out.trans (hb.mono HB.out.size))
    have HQ2 := hid (row_keep hb HQ.out)
    clear hb HQ
    go_wp2_with (first
      | (refine wpList_store_abs rfl 25 (.tmp 2) (.tmp 13) rfl (w.heap.size + 1) 0 #[.int .i64 0, .int .i64 0, .string ⟨#[]⟩, .slice none 0 0, .slice none 0 0] rfl rfl 25 _ HQ2.out (Nat.le_refl 5) infoVj (vcs_all _ _ _ _ _ _ _ _ _) ?_; intro W9 hO9 hW9)
      | fail)
    rw [over_whole #[.int .i64 0, .int .i64 0, .string ⟨#[]⟩, .slice none 0 0, .slice none 0 0] #[.int .i64 0, .int .i64 0, .string ⟨#[]⟩, .slice none 0 0, .slice none 0 0] rfl] at hW9
    exact bodyPost_ret (ret_v2 (p := 2) (q := 3) Tryz.results14 _ _ (w.heap.size + 1) _ rfl (0, 0) _ rfl rfl hW9) rfl (ParP.err HE.out (HB2.out.trans (hO9.below (by omega))))
set_option maxHeartbeats 8000000 in
set_option maxRecDepth 100000 in
theorem parse_jf (l : List UInt8) (w : World) (hl : l.length ≤ 65536) (hv : V l = true) (h9 : 7 < w.heap.size) (hT : TabJ w) : Calls Tryz.prog 14 #[.string (asS l)] w (ParP l w) := by
  have hz : (asS l).size = l.length := asS_size l
  have HPJ : Hid (parJ l = fileJ l) := by
    show _ = _
    rw [par_file, if_neg (by omega), hv]
    rfl
  have HC : Hid (∀ W, Calls Tryz.prog 34 #[.string (asS l)] W fun e w' => e = .returned (.int .i64 0) ∧ Below W.heap.size W w') := fun W => check1_ok (asS l) W (by rw [vld_V, asS_data]; exact hv)
  have HP1 : Hid (∀ (Sb Vb : Nat) (W : World), Below w.heap.size w W → W.cell? ⟨Sb, 0, none⟩ = some (.string (asS l)) → W.heap[Vb]? = some (.cells #[.int .i64 0, .int .i64 0, .string ⟨#[]⟩, .slice none 0 0, .slice none 0 0] 25 (0, 0)) → Calls Tryz.prog 35 #[.pointer (some ⟨Sb, 0, none⟩), .pointer (some ⟨Vb, 0, none⟩)] W (Par1P l Vb W)) := fun Sb Vb W hb h1 h2 => parse1_any l Sb Vb W hl (Nat.lt_of_lt_of_le h9 hb.size) (hT.below hb) h1 h2
  clear hT hv
  have HPOST : Hid (∀ e w', ((∀ t, fileJ l = .ok t → ∃ cs, e = .returned (.tuple #[.agg cs, .int .i64 0]) ∧ VAt (fun q => w.heap.size ≤ q) 40 w' cs t) ∧ (∀ k, fileJ l = .error k → e = .returned (.tuple #[.agg #[.int .i64 0, .int .i64 0, .string ⟨#[]⟩, .slice none 0 0, .slice none 0 0], .int .i64 k])) ∧ Below w.heap.size w w') → ParP l w e w') := fun e w' hh => by
    unfold ParP
    rw [HPJ.out]
    exact hh
  have hi : ¬ (65536 : Int) < (l.length : Int) := by omega
  have HEN := hid (enters_of Tryz.func35 (by kernel_rfl) rfl)
  generalize asS l = S at hz HC HP1 ⊢
  have hmf : ∀ (fn : Fn) (first cap : Array Value) (w : World), (Instr.makeFunc fn first cap).run Tryz.prog w = .ok (.func fn first cap) w := fun _ _ _ _ => rfl
  have HB := hid ((((Below.refl w.heap.size w).alloc (Nat.le_refl _) (.cells #[.string S] 9)).alloc (by show _ ≤ (Array.push _ _).size; rw [Array.size_push]; omega) (.cells #[.int .i64 0, .int .i64 0, .string ⟨#[]⟩, .slice none 0 0, .slice none 0 0] 25)))
  have HS := hid (heap_first w (.cells #[.string S] 9 (0, 0)) (.cells #[.int .i64 0, .int .i64 0, .string ⟨#[]⟩, .slice none 0 0, .slice none 0 0] 25 (0, 0)))
  have HQ := hid (heap_second w (.cells #[.string S] 9 (0, 0)) (.cells #[.int .i64 0, .int .i64 0, .string ⟨#[]⟩, .slice none 0 0, .slice none 0 0] 25 (0, 0)))
  have hz0 : ((w.alloc (.cells #[.string S] 9)).alloc (.cells #[.int .i64 0, .int .i64 0, .string ⟨#[]⟩, .slice none 0 0, .slice none 0 0] 25)).heap.size = w.heap.size + 2 := by show (Array.push (Array.push _ _) _).size = _; rw [Array.size_push, Array.size_push]
  have HZ0 := hid hz0
  clear hz0
  go_enter Tryz.func14, Tryz.ntmps14
  go_wp2_with fail
  refine (HC.out _).mono ?_
  rintro e W2 ⟨rfl, hb⟩
  have HB2 := hid (HB.out.trans (hb.mono HB.out.size))
  have HS2 := hid (row_keep hb HS.out)
  have HQ2 := hid (row_keep hb HQ.out)
  have hz2 : w.heap.size + 1 < W2.heap.size := (Array.getElem?_eq_some_iff.1 HQ2.out).1
  clear hb HQ HS HB HC HZ0
  obtain ⟨W3, hW3⟩ : ∃ W3, W2.alloc (.cells #[.int .i64 0, .int .i64 0, .string ⟨#[]⟩, .slice none 0 0, .slice none 0 0] 25) = W3 := ⟨_, rfl⟩
  have hb3 : Below W2.heap.size W2 W3 := by rw [← hW3]; exact (Below.refl _ _).alloc (Nat.le_refl _) _
  have HV3 : Hid (W3.heap[W2.heap.size]? = some (.cells #[.int .i64 0, .int .i64 0, .string ⟨#[]⟩, .slice none 0 0, .slice none 0 0] 25 (0, 0))) := by show _ = _; rw [← hW3]; exact heap_alloc_new W2 _
  have hz3 : W3.heap.size = W2.heap.size + 1 := by rw [← hW3]; show (Array.push _ _).size = _; rw [Array.size_push]
  have HB3 := hid (HB2.out.trans (hb3.mono HB2.out.size))
  have HS3 := hid (row_keep hb3 HS2.out)
  have HQ3 := hid (row_keep hb3 HQ2.out)
  clear hb3 HS2 HQ2 HB2
  have HBE := hid ((Below.refl W3.heap.size W3).alloc (Nat.le_refl _) (.cells #[.int .i64 0] 28))
  have HNE := hid (heap_alloc_new W3 (.cells #[.int .i64 0] 28 (0, 0)))
  have HBW := hid (HB3.out.trans (HBE.out.mono HB3.out.size))
  have HP2 := hid (HP1.out w.heap.size W2.heap.size (W3.alloc (.cells #[.int .i64 0] 28)) HBW.out (cell_of_row _ _ _ _ _ _ (row_keep HBE.out HS3.out)) (row_keep HBE.out HV3.out))
  have HQE := hid (row_keep HBE.out HQ3.out)
  have hzE : W3.heap.size ≤ (W3.alloc (.cells #[.int .i64 0] 28)).heap.size := HBE.out.size
  clear HP1 HS3 HQ3 HBE
  cases hf : fileJ l with
  | error k =>
    have HCA : Hid (Calls Tryz.prog 23 #[.func (.func 35) #[] #[.pointer (some ⟨w.heap.size, 0, none⟩), .pointer (some ⟨W2.heap.size, 0, none⟩)]] W3 fun e w' => e = .returned (.int .i64 k) ∧ ∃ w1, (w1.heap[W2.heap.size]? = some (.cells #[.int .i64 0, .int .i64 0, .string ⟨#[]⟩, .slice none 0 0, .slice none 0 0] 25 (0, 0)) ∧ (W3.alloc (.cells #[.int .i64 0] 28)).grownBy w1 (some W2.heap.size)) ∧ Only W3.heap.size w1 w') :=
      caught_died _ _ k W3 HEN.out (HP2.out.mono fun e w' hh => ⟨(hh.2.1 k hf).1, (hh.2.1 k hf).2, hh.2.2⟩) (fun w' hr => to_row hr.2 HNE.out (by omega))
    clear HP2
    go_wp2_with fail
    refine HCA.out.mono ?_
    rintro e W5 ⟨rfl, w1, ⟨hv1, hg1⟩, ho⟩
    have HV5 := hid ((ho.block W2.heap.size (by omega)).trans hv1)
    have HQ5 := hid ((ho.block (w.heap.size + 1) (by omega)).trans (to_row hg1 HQE.out (by omega)))
    have HB5 := hid ((HBW.out.trans ((to_cut hg1 (by omega) (Nat.le_refl _)).mono (by omega : w.heap.size ≤ W2.heap.size))).trans (ho.below (by omega)))
    clear hv1 hg1 ho HCA hW3 HV3
    go_wp2_with (first
      | (refine load_msg rfl _ rfl W2.heap.size #[.int .i64 0, .int .i64 0, .string ⟨#[]⟩, .slice none 0 0, .slice none 0 0] rfl (load_v5 HV5.out rfl) ?_)
      | (refine wpList_store_abs rfl 25 (.tmp 2) (.tmp 16) rfl (w.heap.size + 1) 0 #[.int .i64 0, .int .i64 0, .string ⟨#[]⟩, .slice none 0 0, .slice none 0 0] rfl rfl 25 _ HQ5.out (Nat.le_refl 5) infoVj (vcs_all _ _ _ _ _ _ _ _ _) ?_; intro W9 hO9 hW9)
      | fail)
    rw [over_whole #[.int .i64 0, .int .i64 0, .string ⟨#[]⟩, .slice none 0 0, .slice none 0 0] #[.int .i64 0, .int .i64 0, .string ⟨#[]⟩, .slice none 0 0, .slice none 0 0] rfl] at hW9
    exact bodyPost_ret (ret_v2 (p := 2) (q := 3) Tryz.results14 _ _ (w.heap.size + 1) _ rfl (0, 0) _ rfl rfl hW9) rfl (HPOST.out _ _ ⟨(fun t h2 => by rw [hf] at h2; cases h2), (fun k2 h2 => by rw [hf] at h2; injection h2 with h2; subst h2; rfl), HB5.out.trans (hO9.below (by omega))⟩)
  | ok t =>
    have HCA : Hid (Calls Tryz.prog 23 #[.func (.func 35) #[] #[.pointer (some ⟨w.heap.size, 0, none⟩), .pointer (some ⟨W2.heap.size, 0, none⟩)]] W3 fun e w' => e = .returned (.int .i64 0) ∧ ∃ w1, ((∃ cs, w1.heap[W2.heap.size]? = some (.cells cs 25 (0, 0)) ∧ VAt (fun q => (W3.alloc (.cells #[.int .i64 0] 28)).heap.size ≤ q) 40 w1 cs t) ∧ (W3.alloc (.cells #[.int .i64 0] 28)).grownBy w1 (some W2.heap.size)) ∧ Only W3.heap.size w1 w') :=
      caught_fine _ _ W3 HEN.out (HP2.out.mono fun e w' hh => ⟨(hh.1 t hf).1, (hh.1 t hf).2, hh.2.2⟩) (fun w' hr => to_row hr.2 HNE.out (by omega))
    clear HP2
    have hzE2 : W3.heap.size < (W3.alloc (.cells #[.int .i64 0] 28)).heap.size := by show _ < (Array.push _ _).size; rw [Array.size_push]; omega
    go_wp2_with fail
    refine HCA.out.mono ?_
    rintro e W5 ⟨rfl, w1, ⟨⟨cs, hv1, hva⟩, hg1⟩, ho⟩
    have HV5 := hid ((ho.block W2.heap.size (by omega)).trans hv1)
    have HQ5 := hid ((ho.block (w.heap.size + 1) (by omega)).trans (to_row hg1 HQE.out (by omega)))
    have HB5 := hid ((HBW.out.trans ((to_cut hg1 (by omega) (Nat.le_refl _)).mono (by omega : w.heap.size ≤ W2.heap.size))).trans (ho.below (by omega)))
    have HVA := hid (hva.frame (P' := fun q => W3.heap.size < q) (Nat.le_of_eq ho.size.symm) fun q hq hl => ⟨ho.block q (by omega), by omega⟩)
    clear hv1 hg1 ho HCA hW3 HV3 hva hzE2
    go_wp2_with (first
      | (refine load_msg rfl _ rfl W2.heap.size cs rfl (load_v5 HV5.out HVA.out.size) ?_)
      | (refine wpList_store_abs rfl 25 (.tmp 2) (.tmp 16) rfl (w.heap.size + 1) 0 cs rfl rfl 25 _ HQ5.out (by rw [HVA.out.size]; exact Nat.le_refl _) (by rw [HVA.out.size]; exact infoVj) (vcs_one HVA.out) ?_; intro W9 hO9 hW9)
      | fail)
    rw [over_whole #[.int .i64 0, .int .i64 0, .string ⟨#[]⟩, .slice none 0 0, .slice none 0 0] cs (by rw [HVA.out.size]; rfl)] at hW9
    refine bodyPost_ret (ret_v2 (p := 2) (q := 3) Tryz.results14 _ _ (w.heap.size + 1) cs HVA.out.size (0, 0) _ rfl rfl hW9) rfl (HPOST.out _ _ ⟨(fun t2 h2 => ?_), (fun k2 h2 => by rw [hf] at h2; cases h2), HB5.out.trans (hO9.below (by omega))⟩)
    rw [hf] at h2
    injection h2 with h2
    subst h2
    exact ⟨cs, rfl, HVA.out.frame (Nat.le_of_eq hO9.size.symm) fun q hq hl => ⟨hO9.block q (by omega), by omega⟩⟩
/-- Parse, of whatever text. -/
theorem parse_j (l : List UInt8) (w : World) (hl : l.length ≤ 1000000) (h9 : 7 < w.heap.size) (hT : TabJ w) : Calls Tryz.prog 14 #[.string (asS l)] w (ParP l w) := by
  by_cases h1 : 65536 < l.length
  · exact parse_jn l 3 w hl (by rw [par_file, if_pos h1]) (.inl ⟨h1, rfl⟩)
  · cases hv : V l with
    | false => exact parse_jn l 5 w hl (by rw [par_file, if_neg h1, hv]; rfl) (.inr ⟨h1, hv, rfl⟩)
    | true => exact parse_jf l w (by omega) hv h9 hT
end Go.Proofs.YtlgkbdebpnbndaaGreatDoor
