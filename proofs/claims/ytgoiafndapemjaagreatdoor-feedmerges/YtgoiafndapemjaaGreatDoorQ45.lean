import Derived.Test.YtgoiafndapemjaaGreatDoorQ44
import Derived.Lib.SlBytesConst
import Derived.Lib.QuietBelow
import Derived.BigQuiet
import Derived.Test.YtgoiafndapemjaaGreatDoorQ32
import Derived.Test.YtgoiafndapemjaaGreatDoorQ29
import Derived.Deep.Slices
import Derived.ProofKit
import Derived.OpenShut
import Derived.SizedLaws
set_option linter.unusedVariables false
set_option linter.unusedSimpArgs false
set_option maxHeartbeats 1000000
namespace Go.Proofs.YtgoiafndapemjaaGreatDoor
open Go.RowKit Go.BigFrame
attribute [local go_sem ↓] loadN_eq
theorem cell_reF {w : World} {p : Addr} {v : Value} (h : w.cell? p = some v) (d : Nat) (os : Array Obj) : (Sort.grow (redrawn w d) os).cell? p = some v := by
 have hl := block_lt_of_cell h
 have hb : Below w.heap.size w (Sort.grow (redrawn w d) os) := below_regrown w d os
 rw [hb.cell hl]
 exact h
theorem row_ofC (l : List UInt8) (W : World) (fr : Nat × Nat) : BytesAt (W.alloc (.cells (bcs l) 5 fr)) (some ⟨W.heap.size, 0, none⟩) l := BytesAt.of_row (heap_alloc_new W (.cells (bcs l) 5 fr))
set_option maxHeartbeats 4000000 in
set_option maxRecDepth 100000 in
theorem awakeF (w : World) (hT : TabF w) : Calls Tryz.prog 8 #[] w fun e w' => e = .returned (.bool true) ∧ Below w.heap.size w w' := by
 have HP1 : Hid (∀ W X, Below w.heap.size w W → BytesAt W (some X) awF1 → Calls Tryz.prog 14 #[.slice (some X) 75 75] W fun e w' => ∃ A c, e = .returned (.tuple #[.agg #[.string ⟨#[84]⟩, .string ⟨#[]⟩, .slice A 1 c], .int .i64 0]) ∧ EntsAt w' A [awE] ∧ Below W.heap.size W w') := fun W X h1 h2 => by
  have := parseF_any awF1 75 rfl (fun t h => by rw [awf_par1] at h; injection h with h; subst h; exact awf_wt1) (some X) 75 (fun h => by cases h) W (hT.below h1) h2
  rw [awf_1] at this
  exact this.mono fun e w' hh => by
   obtain ⟨v, he, ho, hb⟩ := hh
   obtain ⟨A, c, rfl, hat⟩ := ho.feed
   exact ⟨A, c, he, hat, hb⟩
 have HP2 : Hid (∀ W X, Below w.heap.size w W → BytesAt W (some X) awF2 → Calls Tryz.prog 14 #[.slice (some X) 7 7] W fun e w' => ∃ A c, e = .returned (.tuple #[.agg #[.string ⟨#[]⟩, .string ⟨#[]⟩, .slice A 0 c], .int .i64 5]) ∧ Below W.heap.size W w') := fun W X h1 h2 => by
  have := parseF_any awF2 7 rfl (fun t h => by rw [awf_par2] at h; injection h with h; subst h; exact awf_wt2) (some X) 7 (fun h => by cases h) W (hT.below h1) h2
  rw [awf_2] at this
  exact this.mono fun e w' hh => by
   obtain ⟨v, he, ho, hb⟩ := hh
   obtain ⟨A, c, rfl, hat⟩ := ho.feed
   exact ⟨A, c, he, hb⟩
 have HID : Hid (∀ W, Below w.heap.size w W → Calls Tryz.prog 20 #[.string ⟨#[120]⟩, .string ⟨#[]⟩, .string ⟨#[]⟩] W fun e w' => e = .returned (.string (asS (idL [120] [] []))) ∧ Below W.heap.size W w') := fun W hb => refId_any [120] [] [] (by decide) (by decide) (by decide) W
 have hcv := Lib.run_convert_bytes_const (P := Tryz.prog) w 42 5 (bcs awF1) 75 75 Tryz.underlying42 Tryz.underlying5
 rw [show (bcs awF1).size = 75 from rfl] at hcv
 have HC2 := hid (fun W : World => Lib.run_convert_bytes_const (P := Tryz.prog) W 42 5 (bcs awF2) 7 7 Tryz.underlying42 Tryz.underlying5)
 rw [show (bcs awF2).size = 7 from rfl] at HC2
 have HB1 := hid (alloc_below (Below.refl w.heap.size w) (Nat.le_refl _) (.cells (bcs awF1) 5 (75, 76)))
 have HA1 := hid (row_ofC awF1 w (75, 76))
 have HA2 := hid (fun W : World => row_ofC awF2 W (7, 8))
 have hbc2 : bcs awF2 = #[.int .u8 60, .int .u8 104, .int .u8 116, .int .u8 109, .int .u8 108, .int .u8 47, .int .u8 62] := rfl
 rw [hbc2] at HC2 HA2
 have hbc : bcs awF1 = #[.int .u8 60, .int .u8 114, .int .u8 115, .int .u8 115, .int .u8 62, .int .u8 60, .int .u8 99, .int .u8 104, .int .u8 97, .int .u8 110, .int .u8 110, .int .u8 101, .int .u8 108, .int .u8 62, .int .u8 60, .int .u8 116, .int .u8 105, .int .u8 116, .int .u8 108, .int .u8 101, .int .u8 62, .int .u8 84, .int .u8 60, .int .u8 47, .int .u8 116, .int .u8 105, .int .u8 116, .int .u8 108, .int .u8 101, .int .u8 62, .int .u8 60, .int .u8 105, .int .u8 116, .int .u8 101, .int .u8 109, .int .u8 62, .int .u8 60, .int .u8 103, .int .u8 117, .int .u8 105, .int .u8 100, .int .u8 62, .int .u8 32, .int .u8 120, .int .u8 32, .int .u8 60, .int .u8 47, .int .u8 103, .int .u8 117, .int .u8 105, .int .u8 100, .int .u8 62, .int .u8 60, .int .u8 47, .int .u8 105, .int .u8 116, .int .u8 101, .int .u8 109, .int .u8 62, .int .u8 60, .int .u8 47, .int .u8 99, .int .u8 104, .int .u8 97, .int .u8 110, .int .u8 110, .int .u8 101, .int .u8 108, .int .u8 62, .int .u8 60, .int .u8 47, .int .u8 114, .int .u8 115, .int .u8 115, .int .u8 62] := rfl
 rw [hbc] at hcv HB1 HA1
 clear hT hbc hbc2
 go_enter Tryz.func8, Tryz.ntmps8
 go_wp2_with fail
 refine (HP1.out _ _ HB1.out HA1.out).mono ?_
 rintro e W1 ⟨A1, c1, rfl, hat1, hb1⟩
 have HAT1 := hid hat1
 have HB2 := hid (bel2 HB1.out hb1)
 have HZ2 := hid (heap_alloc_new W1 (.cells #[.string ⟨#[]⟩, .string ⟨#[]⟩, .slice none 0 0] 30))
 clear hat1 hb1 HB1 HA1 hcv HP1
 go_wp2_with (first
  | (refine wpList_store_abs rfl 30 (.tmp 1) (.tmp 9) rfl W1.heap.size 0 #[.string ⟨#[84]⟩, .string ⟨#[]⟩, .slice A1 1 c1] rfl rfl 30 _ HZ2.out (Nat.le_refl 3) infoF (fcs_any _ _ _ _ _) ?_; intro V hO hV; rw [over_whole #[.string ⟨#[]⟩, .string ⟨#[]⟩, .slice none 0 0] #[.string ⟨#[84]⟩, .string ⟨#[]⟩, .slice A1 1 c1] rfl] at hV; have hc2 := HC2.out V)
  | fail)
 have HBV1 := hid (((Below.refl W1.heap.size W1).alloc (Nat.le_refl _) (.cells #[.string ⟨#[]⟩, .string ⟨#[]⟩, .slice none 0 0] 30)).trans (hO.below (Nat.le_refl _)))
 have HBV := hid (bel2 HB2.out HBV1.out)
 have HRV := hid hV
 have HATV := hid (HAT1.out.below HBV1.out (Nat.le_refl _))
 have HB3 := hid (HBV.out.alloc HBV.out.size (.cells #[.int .u8 60, .int .u8 104, .int .u8 116, .int .u8 109, .int .u8 108, .int .u8 47, .int .u8 62] 5 (7, 8)))
 have HBC := hid ((Below.refl V.heap.size V).alloc (Nat.le_refl _) (.cells #[.int .u8 60, .int .u8 104, .int .u8 116, .int .u8 109, .int .u8 108, .int .u8 47, .int .u8 62] 5 (7, 8)))
 have HA3 := hid (HA2.out V)
 clear hO hV HZ2 HB2 HAT1 hc2 HC2 HA2 HBV1
 refine (HP2.out _ _ HB3.out HA3.out).mono ?_
 rintro e W2 ⟨A2, c2, rfl, hb2⟩
 have HB4 := hid (bel2 HBC.out hb2)
 have HR4 := hid (row_keep HB4.out HRV.out)
 have HAT4 := hid (HATV.out.below HB4.out (Nat.le_refl _))
 have HBW4 := hid (bel2 HBV.out HB4.out)
 have HZ4 := hid (heap_alloc_new W2 (.cells #[.string ⟨#[]⟩, .string ⟨#[]⟩, .slice none 0 0] 30))
 clear hb2 HB3 HBC HA3 HP2 HB4 HATV HRV HBV
 go_wp2_with (first
  | (refine wpList_store_abs rfl 30 (.tmp 3) (.tmp 15) rfl W2.heap.size 0 #[.string ⟨#[]⟩, .string ⟨#[]⟩, .slice A2 0 c2] rfl rfl 30 _ HZ4.out (Nat.le_refl 3) infoF (fcs_any _ _ _ _ _) ?_; intro V3 hO3 hV3)
  | fail)
 have hb5 := ((Below.refl W2.heap.size W2).alloc (Nat.le_refl _) (.cells #[.string ⟨#[]⟩, .string ⟨#[]⟩, .slice none 0 0] 30)).trans (hO3.below (Nat.le_refl _))
 have HR5 := hid (row_keep hb5 HR4.out)
 have HAT5 := hid (HAT4.out.below hb5 (Nat.le_refl _))
 have HB5 := hid (bel2 HBW4.out hb5)
 clear hb5 hO3 hV3 HR4 HAT4 HBW4 HZ4
 obtain ⟨q, o, hA, hq, hc⟩ := HAT5.out (by decide)
 subst hA
 have hcz := hc 0 0 (.string (asS (idL [120] [] []))) (by decide) rfl
 rw [Nat.zero_mul, Nat.add_zero] at hcz
 have f0 := cell_reF (cell_of_row _ _ 0 _ _ _ HR5.out)
 have f2 := cell_reF (cell_of_row _ _ 2 _ _ _ HR5.out)
 have f9 := cell_reF hcz
 have HIX := hid (HID.out V3 HB5.out)
 have c9 : ∀ d os, Calls Tryz.prog 20 #[.string ⟨#[120]⟩, .string ⟨#[]⟩, .string ⟨#[]⟩] (Sort.grow (redrawn V3 d) os) fun e w'' => e = .returned (.string (asS (idL [120] [] []))) ∧ ∃ p : Regrown, w'' = Sort.grow (redrawn V3 p.d) p.os := fun d os => Calls.regrown_of (refId_any [120] [] [] (by decide) (by decide) (by decide) _)
 generalize asS (idL [120] [] []) = ID at *
 have qi : (ID.toList == ID.toList) = true := by simp
 have q0 : ((⟨#[84]⟩ : ByteArray).toList == [84]) = true := by decide +kernel
 clear HIX HID hc hcz HAT5 hq HR5
 refine wp_region_quiet_below (by kernel_rfl) (by kernel_rfl) ?_
 repeat (go_big_quiet_step (first | (go_at_call 20; exact c9 _ _) | fail))
 refine wpQuiet_nil ?_
 rintro W9 ⟨⟨dq, osq⟩, hw9⟩
 have HB9 : Hid (Below V3.heap.size V3 W9) := by rw [hw9]; exact below_regrown V3 dq osq
 clear hw9 f0 f2 f9 c9
 go_wp2_with fail
 go_ret
 exact ⟨rfl, bel2 HB5.out HB9.out⟩
theorem sl_ne (a : Addr) (n c : Nat) : Value.slice (some a) n c ≠ .slice none 0 0 := fun h => by cases h
theorem unl_pl (l : List EnV) (hu : Unl EnV.id l) (i : Nat) (h : i < l.length) : plI l (l.getD i zeroE).id = (i : Int) := by
 have h1 := unl_at EnV.id l hu i zeroE h
 unfold plI
 rw [if_pos ((pl_lt EnV.id l _).1 (by rw [h1]; exact h)), h1]
theorem fit_merge {N : Nat} {a b : List EnV} (h : FitE N (allU EnV.id a b)) : FitE N (mergeU EnV.id a b) := fun e he => h e (firsts_mem EnV.id _ e he)
set_option maxHeartbeats 4000000 in
set_option maxRecDepth 100000 in
theorem merges_main (l1 : List EnV) (A1 : Option Addr) (c1 n1 : Nat) (f1 : FitE 140737488355328 l1) (l2 : List EnV) (A2 : Option Addr) (c2 n2 : Nat) (f2 : FitE 140737488355328 l2) (w : World) (hn1 : l1.length = n1) (hn2 : l2.length = n2) (h1 : n1 ≤ 600) (h2 : n2 ≤ 600) (hA1 : EntsAt w A1 l1) (hA2 : EntsAt w A2 l2) (hT : TabF w) :
  Calls Tryz.prog 6 #[.slice A1 n1 c1, .slice A2 n2 c2] w fun e w' => e = .returned (.bool true) ∧ Below w.heap.size w w' := by
 have HS1 : Hid (∀ W, Below w.heap.size w W → Src Tryz.prog 6 28 (.slice A1 n1 c1) l1.length (evs l1) W) := fun W hb => by rw [← hn1]; exact src_ents (hA1.below hb (Nat.le_refl _)) c1
 have HS2 : Hid (∀ W, Below w.heap.size w W → Src Tryz.prog 6 28 (.slice A2 n2 c2) l2.length (evs l2) W) := fun W hb => by rw [← hn2]; exact src_ents (hA2.below hb (Nat.le_refl _)) c2
 have HN1 := hid hn1
 have HN2 := hid hn2
 have HMG : Hid (∀ W v1 v2, OwnE W w.heap.size v1 l1 → OwnE W w.heap.size v2 l2 → Calls Tryz.prog 21 #[v1, v2] W fun e w' => ∃ v, e = .returned v ∧ OwnE w' W.heap.size v (mergeU EnV.id l1 l2) ∧ Below W.heap.size W w') := fun W v1 v2 o1 o2 => by
  obtain ⟨X1, d1, rfl, e1⟩ := o1.ents
  obtain ⟨X2, d2, rfl, e2⟩ := o2.ents
  exact merge_any l1 l2 _ _ rfl rfl (by omega) (by omega) f1 f2 X1 X2 d1 d2 W e1 e2
 have HRM : Hid (∀ W, Below w.heap.size w W → Calls Tryz.prog 23 #[.slice A1 n1 c1, .slice A2 n2 c2] W fun e w' => ∃ v, e = .returned v ∧ OwnE w' W.heap.size v (mergeU EnV.id l1 l2) ∧ Below W.heap.size W w') := fun W hb => refMerge_any l1 l2 n1 n2 hn1 hn2 (by omega) (by omega) A1 A2 c1 c2 W (hA1.below hb (Nat.le_refl _)) (hA2.below hb (Nat.le_refl _))
 have HU := hid (merge_unl EnV.id l1 l2)
 have HL := hid (merge_len EnV.id l1 l2)
 have HF : Hid (FitE 140737488355328 (mergeU EnV.id l1 l2)) := fit_merge (fit_all f1 f2)
 have HAW := hid (fun W (hb : Below w.heap.size w W) => awakeF W (hT.below hb))
 have HO1 := hid (OwnE.zero w w.heap.size (Nat.le_refl _))
 have HB1 := hid ((Below.refl w.heap.size w).alloc (Nat.le_refl _) (.cells #[] 40))
 clear hn1 hn2 hA1 hA2 hT f1 f2
 generalize mergeU EnV.id l1 l2 = M at HMG HRM HU HL HF
 generalize hm : M.length = m at HL
 have HM := hid hm
 clear hm
 have HSF := hid (merge_self EnV.id M HU.out (by have := HL.out; have := HM.out; omega))
 have HNO := hid (merge_none EnV.id M HU.out (by have := HL.out; have := HM.out; omega))
 have HPL := hid (fun i h => unl_pl M HU.out i h)
 have HEN : Hid (∀ (W : World) (X Y : Option Addr) (c d : Nat), EntsAt W X M → EntsAt W Y M → Calls Tryz.prog 22 #[.slice X m c, .slice Y m d] W fun e w' => e = .returned (.bool true) ∧ Below W.heap.size W w') := fun W X Y c d hX hY => entries_any M m HM.out (by have := HL.out; omega) X Y c d W hX hY
 have HPC : Hid (∀ (W : World) (X : Option Addr) (c k : Nat), k < m → EntsAt W X M → Calls Tryz.prog 13 #[.slice X m c, .string (asS (M.getD k zeroE).id)] W fun e w' => e = .returned (.int .i64 (k : Int)) ∧ w' = W) := fun W X c k hk hX => by
  rw [← HPL.out k (by have := HM.out; omega)]
  exact place_any M m HM.out (by have := HL.out; omega) X c _ _ rfl W hX
 have HMM : Hid (∀ (W : World) (X : Option Addr) (c : Nat), EntsAt W X M → Calls Tryz.prog 21 #[.slice X m c, .slice X m c] W fun e w' => ∃ v, e = .returned v ∧ OwnE w' W.heap.size v M ∧ Below W.heap.size W w') := fun W X c hX => by
  have h := merge_any M M m m HM.out HM.out (by have := HL.out; omega) (by have := HL.out; omega) HF.out HF.out X X c c W hX hX
  rwa [HSF.out] at h
 have HMN : Hid (∀ (W : World) (X : Option Addr) (c : Nat), EntsAt W X M → Calls Tryz.prog 21 #[.slice X m c, .slice none 0 0] W fun e w' => ∃ v, e = .returned v ∧ OwnE w' W.heap.size v M ∧ Below W.heap.size W w') := fun W X c hX => by
  have h := merge_any M [] m 0 HM.out rfl (by have := HL.out; omega) (by omega) HF.out (fun _ h => by cases h) X none c 0 W hX (EntsAt.nil _ _)
  rwa [HNO.out] at h
 have HSH : Hid (∀ (W : World) (b : Nat) (v : Value), OwnE W b v M → ∃ X c, v = .slice X m c ∧ EntsAt W X M) := fun W b v h => by
  obtain ⟨X, c, h1, h2⟩ := h.ents
  exact ⟨X, c, by rw [← HM.out]; exact h1, h2⟩
 have hq1 : ¬ (600 : Int) < (n1 : Int) := by omega
 have hq2 : ¬ (600 : Int) < (n2 : Int) := by omega
 have hm16 : ¬ (16 : Int) < (m : Int) := by have := HL.out; omega
 have hmle : m ≤ 16 := HL.out
 clear HSF HNO HPL HU HF
 go_enter Tryz.func6, Tryz.ntmps6
 go_wp2_with (first
  | (refine wpList_en rfl (.tmp 16) (.tmp 17) rfl w.heap.size _ _ [] l1 rfl rfl HO1.out (HS1.out _ HB1.out) (.inr (sl_ne _ _ _)) (by have := HN1.out; simp; omega) HB1.out.size ?_; intro v1 w1 h1 hb1; (have H1 := hid h1); (have HB2 := hid (HB1.out.trans hb1)); (have HO2 := hid (OwnE.zero w1 w1.heap.size (Nat.le_refl _))); (have HB3 := hid (HB2.out.alloc HB2.out.size (.cells #[] 40))); (have H2 := hid (h1.below ((Below.refl w1.heap.size w1).alloc (Nat.le_refl _) (.cells #[] 40)))); clear h1 hb1)
  | (refine wpList_en rfl (.tmp 19) (.tmp 20) rfl w1.heap.size _ _ [] l2 rfl rfl HO2.out (HS2.out _ HB3.out) (.inr (sl_ne _ _ _)) (by have := HN2.out; simp; omega) (((Below.refl w1.heap.size w1).alloc (Nat.le_refl _) (.cells #[] 40)).size) ?_; intro v2 w2 h2 hb2; (have H3 := hid (h2.le HB2.out.size)); (have HB4 := hid (HB3.out.trans (hb2.mono HB2.out.size))); (have H2' := hid (H1.out.below (((Below.refl w1.heap.size w1).alloc (Nat.le_refl _) (.cells #[] 40)).trans hb2))); clear h2 hb2)
  | fail)
 refine (HMG.out w2 v1 v2 (H2'.out) H3.out).mono ?_
 rintro e3 W3 ⟨v3, rfl, o3, hb3⟩
 obtain ⟨X3, d3, rfl, e3⟩ := HSH.out _ _ _ o3
 have HE3 := hid e3
 have HB5 := hid (bel_c HB4.out hb3)
 clear o3 e3 hb3 H1 H2 H2' H3 HO1 HO2 HB1 HB2 HB3 HB4 HS1 HS2 HMG HN1 HN2
 go_wp2_with fail
 refine (HRM.out W3 HB5.out).mono ?_
 rintro e4 W4 ⟨v4, rfl, o4, hb4⟩
 obtain ⟨X4, d4, rfl, e4⟩ := HSH.out _ _ _ o4
 have HE4 := hid e4
 have HE5 := hid (HE3.out.below hb4 (Nat.le_refl _))
 have HB6 := hid (bel_c HB5.out hb4)
 clear o4 e4 hb4 HE3 HB5 HRM
 go_wp2_with fail
 refine (HEN.out W4 X3 X4 d3 d4 HE5.out HE4.out).mono ?_
 rintro e5 W5 ⟨rfl, hb5⟩
 have HE := hid (HE5.out.below hb5 (Nat.le_refl _))
 have HB := hid (bel_c HB6.out hb5)
 clear hb5 HE4 HE5 HB6
 go_wp2_with fail
 go_loopw [6] (fun i wr => ∃ k : Nat, k ≤ m ∧ i = .int .i64 (k : Int) ∧ wr = W5) (fun i wr => m - (intOf i).toNat)
 case atStart => exact ⟨0, Nat.zero_le _, rfl, rfl⟩
 case round =>
  obtain ⟨k, hk, rfl, rfl⟩ := hrel
  by_cases hlt : k < m
  ·have hi : (k : Int) < (m : Int) := by omega
   obtain ⟨q, o, rfl, hq, c0⟩ := ents_c0 HE.out k (by have := HM.out; omega)
   have HPC2 := hid (HPC.out _ _ d3 k hlt HE.out)
   generalize asS (M.getD k zeroE).id = S1 at c0 HPC2
   go_wp2_with fail
   refine HPC2.out.mono ?_
   rintro e7 W7 ⟨rfl, rfl⟩
   go_wp2_with fail
   go_roundw
   case rel => exact ⟨k + 1, by omega, by go_num, trivial⟩
   case measure => simp [intOf]; omega
  ·have hi : ¬ (k : Int) < (m : Int) := by omega
   go_wp2_with fail
   refine (HMM.out _ _ d3 HE.out).mono ?_
   rintro e6 W6 ⟨v6, rfl, o6, hb6⟩
   obtain ⟨X6, d6, rfl, e6⟩ := HSH.out _ _ _ o6
   have HE6 := hid e6
   have HE7 := hid (HE.out.below hb6 (Nat.le_refl _))
   have HB7 := hid (bel_c HB.out hb6)
   clear o6 e6 hb6 HE HB HMM
   go_wp2_with fail
   refine (HEN.out W6 X6 X3 d6 d3 HE6.out HE7.out).mono ?_
   rintro e8 W8 ⟨rfl, hb8⟩
   have HE8 := hid (HE7.out.below hb8 (Nat.le_refl _))
   have HB8 := hid (bel_c HB7.out hb8)
   clear hb8 HE6 HE7 HB7
   go_wp2_with fail
   refine (HMN.out W8 X3 d3 HE8.out).mono ?_
   rintro e9 W9 ⟨v9, rfl, o9, hb9⟩
   obtain ⟨X9, d9, rfl, e9⟩ := HSH.out _ _ _ o9
   have HE9 := hid e9
   have HE10 := hid (HE8.out.below hb9 (Nat.le_refl _))
   have HB9 := hid (bel_c HB8.out hb9)
   clear o9 e9 hb9 HE8 HB8 HMN
   go_wp2_with fail
   refine (HEN.out W9 X9 X3 d9 d3 HE9.out HE10.out).mono ?_
   rintro e10 W10 ⟨rfl, hb10⟩
   have HB10 := hid (bel_c HB9.out hb10)
   clear hb10 HE9 HE10 HB9
   go_wp2_with fail
   refine (HAW.out W10 HB10.out).mono ?_
   rintro e11 W11 ⟨rfl, hb11⟩
   have HB11 := hid (bel_c HB10.out hb11)
   clear hb11
   go_wp2_with fail
   go_ret
   exact ⟨rfl, HB11.out⟩
theorem merges_big (A1 : Option Addr) (c1 n1 : Nat) (A2 : Option Addr) (c2 n2 : Nat) (w : World) (h : (600 : Int) < (n1 : Int) ∨ (600 : Int) < (n2 : Int)) (hT : TabF w) :
  Calls Tryz.prog 6 #[.slice A1 n1 c1, .slice A2 n2 c2] w fun e w' => e = .returned (.bool true) ∧ Below w.heap.size w w' := by
 have HAW := hid (awakeF w hT)
 clear hT
 by_cases h1 : (600 : Int) < (n1 : Int)
 ·clear h
  go_enter Tryz.func6, Tryz.ntmps6
  go_wp2_with fail
  refine HAW.out.mono ?_
  rintro e W1 ⟨rfl, hb1⟩
  go_wp2_with fail
  go_ret
  exact ⟨rfl, hb1⟩
 ·have h2 : (600 : Int) < (n2 : Int) := h.resolve_left h1
  clear h
  go_enter Tryz.func6, Tryz.ntmps6
  go_wp2_with fail
  refine HAW.out.mono ?_
  rintro e W1 ⟨rfl, hb1⟩
  go_wp2_with fail
  go_ret
  exact ⟨rfl, hb1⟩
theorem feedMerges_law (l1 : List EnV) (A1 : Option Addr) (c1 : Nat) (f1 : FitE 140737488355328 l1) (l2 : List EnV) (A2 : Option Addr) (c2 : Nat) (f2 : FitE 140737488355328 l2) (w : World) (hA1 : EntsAt w A1 l1) (hA2 : EntsAt w A2 l2) (hT : TabF w) :
  Calls Tryz.prog 6 #[.slice A1 l1.length c1, .slice A2 l2.length c2] w fun e w' => e = .returned (.bool true) ∧ Below w.heap.size w w' := by
 by_cases h1 : (600 : Int) < (l1.length : Int)
 ·exact merges_big A1 c1 _ A2 c2 _ w (.inl h1) hT
 ·by_cases h2 : (600 : Int) < (l2.length : Int)
  ·exact merges_big A1 c1 _ A2 c2 _ w (.inr h2) hT
  ·exact merges_main l1 A1 c1 _ f1 l2 A2 c2 _ f2 w rfl rfl (by omega) (by omega) hA1 hA2 hT
end Go.Proofs.YtgoiafndapemjaaGreatDoor
namespace Go.Proofs.YtgoiafndapemjaaGreatDoor
open Go.ChangeShapes Go.WideShapes Go.ChangeAt Go.RowKit
set_option maxRecDepth 100000
theorem open_cellsE {H : Type} {enc : TypeId × Value → H} {W : World} {m : Nat} {cs : List Value} {x : DataW H × List MemPlace} (hsz : cs.length = 6) (hf : DataW.trod enc Tryz.prog W 0 (fun _ => true) true m 40 cs = some x) :
  ∃ e : EnV, cs = (ecs e).toList ∧ ∃ z1 z2 : DataW H, x.1 = .agg [.lit (.string e.id), .lit (.string e.title), .lit (.string e.link), .lit (.string e.body), z1, z2] := by
 have hc9 : Tryz.prog.cellsOf 9 = 1 := by kernel_rfl
 have hci : Tryz.prog.cellsOf 2 = 1 := by kernel_rfl
 have hcb : Tryz.prog.cellsOf 4 = 1 := by kernel_rfl
 obtain ⟨xs, n, _, hx0, _, hn, hx⟩ := DataW.trod_struct Tryz.underlying40 hf
 have hn2 : xs.length = 6 := hn
 have h0 : DataW.trod enc Tryz.prog W 0 (fun _ => true) true n 9 ((cs.drop 0).take (Tryz.prog.cellsOf 9)) = xs[0]? := hx 0 _ rfl
 have h1 : DataW.trod enc Tryz.prog W 0 (fun _ => true) true n 9 ((cs.drop 1).take (Tryz.prog.cellsOf 9)) = xs[1]? := hx 1 _ rfl
 have h2 : DataW.trod enc Tryz.prog W 0 (fun _ => true) true n 9 ((cs.drop 2).take (Tryz.prog.cellsOf 9)) = xs[2]? := hx 2 _ rfl
 have h3 : DataW.trod enc Tryz.prog W 0 (fun _ => true) true n 9 ((cs.drop 3).take (Tryz.prog.cellsOf 9)) = xs[3]? := hx 3 _ rfl
 have h4 : DataW.trod enc Tryz.prog W 0 (fun _ => true) true n 2 ((cs.drop 4).take (Tryz.prog.cellsOf 2)) = xs[4]? := hx 4 _ rfl
 have h5 : DataW.trod enc Tryz.prog W 0 (fun _ => true) true n 4 ((cs.drop 5).take (Tryz.prog.cellsOf 4)) = xs[5]? := hx 5 _ rfl
 clear hx hn hf
 match xs, hn2 with
 | [y0, y1, y2, y3, y4, y5], _ =>
  match cs, hsz with
  | [c0, c1, c2, c3, c4, c5], _ =>
   rw [hc9] at h0 h1 h2 h3
   rw [hci] at h4
   rw [hcb] at h5
   obtain ⟨s0, e0, d0, _⟩ := DataW.trod_string Tryz.underlying9 h0
   obtain ⟨s1, e1, d1, _⟩ := DataW.trod_string Tryz.underlying9 h1
   obtain ⟨s2, e2, d2, _⟩ := DataW.trod_string Tryz.underlying9 h2
   obtain ⟨s3, e3, d3, _⟩ := DataW.trod_string Tryz.underlying9 h3
   obtain ⟨i4, e4, d4⟩ := DataW.trod_int Tryz.underlying2 h4
   obtain ⟨b5, e5, d5⟩ := DataW.trod_bool Tryz.underlying4 h5
   have q0 : c0 = .string s0 := by simpa using e0
   have q1 : c1 = .string s1 := by simpa using e1
   have q2 : c2 = .string s2 := by simpa using e2
   have q3 : c3 = .string s3 := by simpa using e3
   have q4 : c4 = .int .i64 i4 := by simpa using e4
   have q5 : c5 = .bool b5 := by simpa using e5
   refine ⟨⟨s0.data.toList, s1.data.toList, s2.data.toList, s3.data.toList, i4, b5⟩, ?_, y4.1, y5.1, ?_⟩
   ·unfold ecs
    simp only [asS_of]
    rw [q0, q1, q2, q3, q4, q5]
   ·rw [hx0, d0, d1, d2, d3]; rfl
theorem choose_en (n : Nat) (p : Nat → EnV → Prop) (h : ∀ i, i < n → ∃ v, p i v) : ∃ l : List EnV, l.length = n ∧ ∀ i, i < n → p i (l.getD i zeroE) := by
 have each : ∀ i, ∃ v : EnV, i < n → p i v := fun i => by
  by_cases hi : i < n
  ·obtain ⟨v, hv⟩ := h i hi; exact ⟨v, fun _ => hv⟩
  ·exact ⟨zeroE, fun h => absurd h hi⟩
 refine ⟨(List.range n).map fun i => Classical.choose (each i), by simp, fun i hi => ?_⟩
 have e : ((List.range n).map fun i => Classical.choose (each i)).getD i zeroE = Classical.choose (each i) := by simp [List.getD_eq_getElem?_getD, hi]
 rw [e]
 exact Classical.choose_spec (each i) hi
theorem spot_ofE {W : World} {x : Addr} {v : Value} (h3 : W.cell? x = some v) : x.spot = none ∧ x.block < W.heap.size := by
 refine ⟨?_, block_lt_of_cell h3⟩
 unfold World.cell? at h3
 split at h3
 ·split at h3
  ·cases h3
  ·rename_i hs
   simpa using hs
 ·cases h3
theorem weights_allE {H : Type} {P : Program} {e : TypeId} : ∀ {l : List (DataW H)} {d : DataW H}, d ∈ l → ∀ n ∈ d.weights P e, n ∈ DataW.weightsAll P e l
 | a :: r, d, hd, n, hn => by
  simp only [DataW.weightsAll, List.mem_append]
  rcases List.mem_cons.1 hd with rfl | hd
  ·exact .inl hn
  ·exact .inr (weights_allE hd n hn)
theorem weights_en {H : Type} (a b c e : List UInt8) (z1 z2 : DataW H) (n : Nat) (hn : n = a.length ∨ n = b.length ∨ n = c.length ∨ n = e.length) : n ∈ (DataW.agg [.lit (.string a), .lit (.string b), .lit (.string c), .lit (.string e), z1, z2] : DataW H).weights Tryz.prog 40 := by
 obtain ⟨fs, hu, hf⟩ : ∃ fs : Array Field, Tryz.prog.underlying 40 = some (.struct fs) ∧ fs.toList.map (·.type) = [9, 9, 9, 9, 2, 4] := ⟨_, Tryz.underlying40, rfl⟩
 rcases hn with rfl | rfl | rfl | rfl
 all_goals simp only [DataW.weights, hu, hf, DataW.weightsEach, List.mem_append, List.mem_cons, List.not_mem_nil, or_false, or_true, true_or]
theorem open_ents {H : Type} {enc : TypeId × Value → H} {W : World} {b0 : Nat} {v : Value} {d : DataW H} {ps : List MemPlace} (hval : Value.okWide Tryz.prog W .any b0 28 v) (hd : DataW.Trod enc Tryz.prog W 0 (fun _ => true) true 28 v d ps) :
  ∃ (l : List EnV) (A : Option Addr) (c : Nat), v = .slice A l.length c ∧ EntsAt W A l ∧ ((∀ n ∈ d.weights Tryz.prog 28, n ≤ reachBytes) → FitE 140737488355328 l) := by
 obtain ⟨a, len, cap, rfl⟩ := okWide_slice Tryz.underlying28 hval
 obtain ⟨fuel, hf⟩ := hd
 have hc : Tryz.prog.cellsOf 40 = 6 := by kernel_rfl
 rcases Go.Deep.open_slice Tryz.underlying28 hf with ⟨hcs, _⟩ | ⟨x, l, c, m, n, D, Pl, hcs, _, hlc, _, hm, hd2, hx⟩
 ·simp [Value.cells] at hcs
  obtain ⟨rfl, rfl, rfl⟩ := hcs
  exact ⟨[], none, 0, rfl, fun h => absurd h (by simp), fun _ e he => by cases he⟩
 ·simp [Value.cells] at hcs
  obtain ⟨rfl, rfl, rfl⟩ := hcs
  simp only [if_true] at hm
  rw [hc] at hx
  obtain ⟨L, hL, hp⟩ := choose_en len (fun i h => (∀ j v, (ecs h)[j]? = some v → W.cell? ((x.add (i * 6)).add j) = some v) ∧ ∃ z1 z2, D i = .agg [.lit (.string h.id), .lit (.string h.title), .lit (.string h.link), .lit (.string h.body), z1, z2]) (fun i hi => by
   obtain ⟨cs', h1, h2⟩ := hx i (by omega)
   obtain ⟨_, hlen, hcell⟩ := World.cells?_some h1
   obtain ⟨h, h3, h4⟩ := open_cellsE hlen h2
   refine ⟨h, fun j v hv => ?_, h4⟩
   have hj : j < 6 := by
    have := (Array.getElem?_eq_some_iff.1 hv).1
    exact this
   have := hcell j (by omega)
   rw [h3, Array.getElem?_toList, hv] at this
   exact this)
  have hz : ∀ i, (ecs (L.getD i zeroE))[0]? = some (.string (asS (L.getD i zeroE).id)) := fun i => rfl
  refine ⟨L, some x, cap, by rw [hL], fun h0 => ?_, fun hw e he => ?_⟩
  ·have hsp := spot_ofE ((hp 0 (by omega)).1 0 _ (hz 0))
   obtain ⟨q, o, sp⟩ := x
   have hs2 : sp = none := by simpa [Addr.add] using hsp.1
   subst hs2
   refine ⟨q, o, rfl, by simpa [Addr.add] using hsp.2, fun j i v hj hv => ?_⟩
   have := (hp j (by omega)).1 i v hv
   rw [Addr.add_mid, Addr.add_mid] at this
   exact this
  ·obtain ⟨k, hk, rfl⟩ := List.getElem_of_mem he
   have hk2 : k < len := by omega
   have hde : D k ∈ (List.range len).map D := List.mem_map.2 ⟨k, List.mem_range.2 hk2, rfl⟩
   have hin : ∀ z ∈ (D k).weights Tryz.prog 40, z ≤ 140737488355328 := fun z hz => by
    have hdd : d = .slice ((List.range len).map D) ((List.range (m - len)).map fun j => D (len + j)) := (Prod.mk.inj hd2).1
    have : z ∈ d.weights Tryz.prog 28 := by
     rw [hdd]
     have hu := Tryz.underlying28
     simp only [DataW.weights, hu, List.mem_cons, List.mem_append]
     exact .inr (.inl (weights_allE hde z hz))
    have h2 := hw z this
    have := reachBytes_lt
    omega
   obtain ⟨z1, z2, hDk⟩ := (hp k hk2).2
   rw [hDk] at hin
   rw [List.getD_eq_getElem?_getD, List.getElem?_eq_getElem hk] at hin
   exact ⟨hin _ (weights_en _ _ _ _ _ _ _ (.inl rfl)), hin _ (weights_en _ _ _ _ _ _ _ (.inr (.inl rfl))), hin _ (weights_en _ _ _ _ _ _ _ (.inr (.inr (.inl rfl)))), hin _ (weights_en _ _ _ _ _ _ _ (.inr (.inr (.inr rfl))))⟩
end Go.Proofs.YtgoiafndapemjaaGreatDoor
