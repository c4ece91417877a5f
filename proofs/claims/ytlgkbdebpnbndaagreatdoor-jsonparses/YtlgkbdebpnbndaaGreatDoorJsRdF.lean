
/- A value that is a text or a word. -/
import Derived.Test.YtlgkbdebpnbndaaGreatDoorJsRdD
namespace Go.Proofs.YtlgkbdebpnbndaaGreatDoor
set_option linter.unusedVariables false
set_option linter.unusedSimpArgs false
open Go.RowKit Go.BigFrame
attribute [local go_sem ↓] loadV_eq buildV_eq

set_option maxHeartbeats 8000000 in
set_option maxRecDepth 100000 in
theorem valQ_34 (d lev : Nat) (l : List UInt8) (n : Nat) (s : List UInt8) (R : Nat) (w : World) (hs : s.length ≤ 100000) (hn : n ≤ 8192) (h : Rl w R s l n) (l1 : List UInt8) (hl1 : l.dropWhile whX = l1) (r : List UInt8) (hX : ((l1.headD 0).toNat : Int) = 34) (hc : l1 = 34 :: r) (hm : n + 1 ≤ 8192) (hv : ∀ t r2, textJ l1 = some (t, r2) → valJ d lev l n = .ok (leafJ d (3, 0, t, []), r2, n + 1)) (hv2 : textJ l1 = none → valJ d lev l n = .error 5) : Calls Tryz.prog 40 #[.pointer (some ⟨R, 0, none⟩), .int .i64 (lev : Int)] w fun x w' => ValQ d lev l n s R w x w' := by
  have hs6 : s.length ≤ 1000000 := by omega
  have hRl := h.lt
  have HV := hid hv
  have HV2 := hid hv2
  clear hv hv2 hc
  have hi8 : ¬ (8192 : Int) < (n : Int) + 1 := by omega
  have hbu : ∀ W, (buildI 25 #[]).run Tryz.prog W = .ok (.agg #[.int .i64 0, .int .i64 0, .string ⟨#[]⟩, .slice none 0 0, .slice none 0 0]) W := fun W => run_build W 25 _ _ built_vz
  have HB := hid ((((Below.refl w.heap.size w).alloc (Nat.le_refl _) (.cells #[.int .i64 0, .int .i64 0, .string ⟨#[]⟩, .slice none 0 0, .slice none 0 0] 25)).alloc (by show _ ≤ (Array.push _ _).size; rw [Array.size_push]; omega) (.cells #[.int .i64 0, .int .i64 0, .string ⟨#[]⟩, .slice none 0 0, .slice none 0 0] 25)))
  have HQ := hid (heap_first w (.cells #[.int .i64 0, .int .i64 0, .string ⟨#[]⟩, .slice none 0 0, .slice none 0 0] 25 (0, 0)) (.cells #[.int .i64 0, .int .i64 0, .string ⟨#[]⟩, .slice none 0 0, .slice none 0 0] 25 (0, 0)))
  have HX := hid (heap_second w (.cells #[.int .i64 0, .int .i64 0, .string ⟨#[]⟩, .slice none 0 0, .slice none 0 0] 25 (0, 0)) (.cells #[.int .i64 0, .int .i64 0, .string ⟨#[]⟩, .slice none 0 0, .slice none 0 0] 25 (0, 0)))
  have hsz : (w.alloc (.cells #[.int .i64 0, .int .i64 0, .string ⟨#[]⟩, .slice none 0 0, .slice none 0 0] 25)).heap.size = w.heap.size + 1 := by simp
  obtain ⟨W0, hW0⟩ : ∃ W0, (w.alloc (.cells #[.int .i64 0, .int .i64 0, .string ⟨#[]⟩, .slice none 0 0, .slice none 0 0] 25)).alloc (.cells #[.int .i64 0, .int .i64 0, .string ⟨#[]⟩, .slice none 0 0, .slice none 0 0] 25) = W0 := ⟨_, rfl⟩
  rw [hW0] at HB HX HQ
  have HR0 := hid (h.below HB.out)
  clear h
  go_enter Tryz.func40, Tryz.ntmps40
  go_wp2_with (first
    | (refine wpList_store_abs rfl 25 (.tmp 5) (.tmp 7) rfl (w.heap.size + 1) 0 #[.int .i64 0, .int .i64 0, .string ⟨#[]⟩, .slice none 0 0, .slice none 0 0] rfl rfl 25 _ HX.out (Nat.le_refl 5) infoVj (vcs_all _ _ _ _ _ _ _ _ _) ?_; intro W1 hO hW; rw [over_whole #[.int .i64 0, .int .i64 0, .string ⟨#[]⟩, .slice none 0 0, .slice none 0 0] #[.int .i64 0, .int .i64 0, .string ⟨#[]⟩, .slice none 0 0, .slice none 0 0] rfl] at hW; have HX1 := hid hW; have HQ1 := hid ((hO.block w.heap.size (by omega)).trans HQ.out); have HR1 := hid (HR0.out.to (to_only hO) (by omega)); have HG1 := hid (grow_own ((to_below (R := R) HB.out)) (to_only hO) (fun q e => by injection e with e; omega)); clear hO hW)
    | fail)
  have HWT := hid (HR1.out.white hs6)
  rw [hl1] at HWT
  clear HX HQ HB HR0 HR1 hW0 hsz hbu
  go_wp2_with fail
  refine HWT.out.mono ?_
  rintro x W2 ⟨rfl, hr, hg⟩
  have HX2 := hid (to_row hg HX1.out (by omega))
  have HQ2 := hid (to_row hg HQ1.out (by omega))
  have HG2 := hid (HG1.out.trans hg)
  have HR2 := hid hr
  have HNW := hid hr.now
  rw [hX] at HNW
  clear hr hg HWT HX1 HQ1 HG1 hl1
  go_wp2_with fail
  refine HNW.out.mono ?_
  rintro x W3 ⟨rfl, hb⟩
  have HX3 := hid (row_keep hb HX2.out)
  have HQ3 := hid (row_keep hb HQ2.out)
  have HG3 := hid (HG2.out.trans (to_below hb))
  have HR3 := hid (HR2.out.below hb)
  clear hb HNW HX2 HQ2 HG2 HR2 hX
  obtain ⟨p3, e3, l3, hq3⟩ := HR3.out
  obtain ⟨-, -, c2, -⟩ := hq3.cells
  have hn1 : n ≤ 8192 := hn
  unfold Rq at hq3
  have HRW := hid hq3
  have HLP : Hid (s.drop p3 = l1 ∧ p3 ≤ s.length) := ⟨e3, l3⟩
  clear hq3 HR3 e3 l3
  go_wp2_with (first
    | (refine store_part rfl 3 _ _ rfl R 2 (.int .i64 ((n : Int) + 1)) _ _ #[.string (asS s), .int .i64 (p3 : Int), .int .i64 ((n : Int) + 1), .int .i64 ((0 : Nat) : Int)] rfl rfl info3q (by simp) rfl rfl HRW.out rfl ?_; intro W4 ho hr; have HR4 : Hid (Rl W4 R s l1 (n + 1)) := ⟨p3, HLP.out.1, HLP.out.2, by unfold Rq; rw [show ((n + 1 : Nat) : Int) = (n : Int) + 1 from by omega]; exact hr⟩; have HX4 := hid ((ho.block (w.heap.size + 1) (by omega)).trans HX3.out); have HQ4 := hid ((ho.block w.heap.size (by omega)).trans HQ3.out); have HG4 := hid (HG3.out.trans (to_only ho)); have c4 : W4.cell? ⟨R, 2, none⟩ = some (.int .i64 ((n : Int) + 1)) := cell_of_row _ _ _ _ _ _ hr; clear ho hr)
    | (refine store_part rfl 3 _ _ rfl (w.heap.size + 1) 0 (.int .i64 3) _ (#[.int .i64 0, .int .i64 0, .string ⟨#[]⟩, .slice none 0 0, .slice none 0 0]) (#[.int .i64 3, .int .i64 0, .string ⟨#[]⟩, .slice none 0 0, .slice none 0 0]) rfl rfl info3q (by simp) rfl rfl HX4.out rfl ?_; intro W5 ho hr; have HX5 := hid hr; have HQ5 := hid ((ho.block w.heap.size (by omega)).trans HQ4.out); have HR5 := hid (HR4.out.to (to_only ho) (by omega)); have HG5 := hid (grow_own HG4.out (to_only ho) (fun q e => by injection e with e; omega)); clear ho hr)
    | fail)
  have HC5 : Hid (Calls Tryz.prog 70 #[.pointer (some ⟨R, 0, none⟩)] W5 fun x w' => ∃ S, x = .returned (.string S) ∧ Hid (W5.grownBy w' (some R)) ∧ Hid (∀ w9, w9.heap[R]? = w'.heap[R]? → w.grownBy w9 (some R) → ValQ d lev l n s R w (.returned (.agg #[.int .i64 3, .int .i64 0, .string S, .slice none 0 0, .slice none 0 0])) w9)) := (strQ l1 s R (n + 1) hs6 W5 HR5.out).mono fun x w' hh => by
    cases htx : textJ l1 with
    | none =>
      obtain ⟨h1, h2⟩ := hh.2.1 htx
      exact ⟨_, h1, hh.2.2, fun w9 e hg => ValQ.err (HV2.out htx) (by decide) rfl (vcs_all _ _ _ _ _ _ _ _ _) (h2.at e) hg⟩
    | some q =>
      obtain ⟨h1, h2, h3⟩ := hh.1 q.1 q.2 htx
      exact ⟨_, h1, hh.2.2, fun w9 e hg => ValQ.leaf (HV.out q.1 q.2 htx) rfl (h2.at e) hg⟩
  clear c4 HX4 HQ4 HG4 HR4 HV HV2
  refine HC5.out.mono ?_
  rintro x W6 ⟨S, rfl, HGG, HFIN⟩
  have HX6 := hid (to_row HGG.out HX5.out (by omega))
  have HQ6 := hid (to_row HGG.out HQ5.out (by omega))
  have HG6 := hid (HG5.out.trans HGG.out)
  clear HC5 HX5 HQ5 HG5 HR5 HGG
  go_wp2_with (first
    | (refine store_part rfl 9 _ _ rfl (w.heap.size + 1) 2 (.string S) _ (#[.int .i64 3, .int .i64 0, .string ⟨#[]⟩, .slice none 0 0, .slice none 0 0]) (#[.int .i64 3, .int .i64 0, .string S, .slice none 0 0, .slice none 0 0]) rfl rfl info9q (by simp) rfl rfl HX6.out rfl ?_; intro W7 ho hr; have HX7 := hid hr; have HQ7 := hid ((ho.block w.heap.size (by omega)).trans HQ6.out); have HG7 := hid (grow_own HG6.out (to_only ho) (fun q e => by injection e with e; omega)); have HK7 := hid (ho.block R (by omega)); have hld := loadV_run hr rfl; clear ho hr)
    | (refine wpList_store_abs rfl 25 (.tmp 4) (.tmp 107) rfl w.heap.size 0 (#[.int .i64 3, .int .i64 0, .string S, .slice none 0 0, .slice none 0 0]) rfl rfl 25 _ HQ7.out (Nat.le_refl 5) infoVj (vcs_all _ _ _ _ _ _ _ _ _) ?_; intro W9 hO9 hW9)
    | fail)
  rw [over_whole #[.int .i64 0, .int .i64 0, .string ⟨#[]⟩, .slice none 0 0, .slice none 0 0] (#[.int .i64 3, .int .i64 0, .string S, .slice none 0 0, .slice none 0 0]) rfl] at hW9
  exact bodyPost_ret (ret_v (p := 4) Tryz.results40 _ _ w.heap.size _ rfl (0, 0) rfl hW9) rfl (HFIN.out _ ((hO9.block R (by omega)).trans HK7.out) (grow_own HG7.out (to_only hO9) (fun q e => by injection e with e; omega)))
set_option maxHeartbeats 8000000 in
set_option maxRecDepth 100000 in
theorem valQ_116 (d lev : Nat) (l : List UInt8) (n : Nat) (s : List UInt8) (R : Nat) (w : World) (hs : s.length ≤ 100000) (hn : n ≤ 8192) (h : Rl w R s l n) (l1 : List UInt8) (hl1 : l.dropWhile whX = l1) (hX : ((l1.headD 0).toNat : Int) = 116) (hm : n + 1 ≤ 8192) (hv : preX trueN l1 = true → valJ d lev l n = .ok (leafJ d (1, 1, [], []), l1.drop 4, n + 1)) (hv2 : preX trueN l1 = false → valJ d lev l n = .error 5) : Calls Tryz.prog 40 #[.pointer (some ⟨R, 0, none⟩), .int .i64 (lev : Int)] w fun x w' => ValQ d lev l n s R w x w' := by
  have hs6 : s.length ≤ 1000000 := by omega
  have hRl := h.lt
  have HV := hid hv
  have HV2 := hid hv2
  clear hv hv2
  have hi8 : ¬ (8192 : Int) < (n : Int) + 1 := by omega
  have hbu : ∀ W, (buildI 25 #[]).run Tryz.prog W = .ok (.agg #[.int .i64 0, .int .i64 0, .string ⟨#[]⟩, .slice none 0 0, .slice none 0 0]) W := fun W => run_build W 25 _ _ built_vz
  have HB := hid ((((Below.refl w.heap.size w).alloc (Nat.le_refl _) (.cells #[.int .i64 0, .int .i64 0, .string ⟨#[]⟩, .slice none 0 0, .slice none 0 0] 25)).alloc (by show _ ≤ (Array.push _ _).size; rw [Array.size_push]; omega) (.cells #[.int .i64 0, .int .i64 0, .string ⟨#[]⟩, .slice none 0 0, .slice none 0 0] 25)))
  have HQ := hid (heap_first w (.cells #[.int .i64 0, .int .i64 0, .string ⟨#[]⟩, .slice none 0 0, .slice none 0 0] 25 (0, 0)) (.cells #[.int .i64 0, .int .i64 0, .string ⟨#[]⟩, .slice none 0 0, .slice none 0 0] 25 (0, 0)))
  have HX := hid (heap_second w (.cells #[.int .i64 0, .int .i64 0, .string ⟨#[]⟩, .slice none 0 0, .slice none 0 0] 25 (0, 0)) (.cells #[.int .i64 0, .int .i64 0, .string ⟨#[]⟩, .slice none 0 0, .slice none 0 0] 25 (0, 0)))
  have hsz : (w.alloc (.cells #[.int .i64 0, .int .i64 0, .string ⟨#[]⟩, .slice none 0 0, .slice none 0 0] 25)).heap.size = w.heap.size + 1 := by simp
  obtain ⟨W0, hW0⟩ : ∃ W0, (w.alloc (.cells #[.int .i64 0, .int .i64 0, .string ⟨#[]⟩, .slice none 0 0, .slice none 0 0] 25)).alloc (.cells #[.int .i64 0, .int .i64 0, .string ⟨#[]⟩, .slice none 0 0, .slice none 0 0] 25) = W0 := ⟨_, rfl⟩
  rw [hW0] at HB HX HQ
  have HR0 := hid (h.below HB.out)
  clear h
  go_enter Tryz.func40, Tryz.ntmps40
  go_wp2_with (first
    | (refine wpList_store_abs rfl 25 (.tmp 5) (.tmp 7) rfl (w.heap.size + 1) 0 #[.int .i64 0, .int .i64 0, .string ⟨#[]⟩, .slice none 0 0, .slice none 0 0] rfl rfl 25 _ HX.out (Nat.le_refl 5) infoVj (vcs_all _ _ _ _ _ _ _ _ _) ?_; intro W1 hO hW; rw [over_whole #[.int .i64 0, .int .i64 0, .string ⟨#[]⟩, .slice none 0 0, .slice none 0 0] #[.int .i64 0, .int .i64 0, .string ⟨#[]⟩, .slice none 0 0, .slice none 0 0] rfl] at hW; have HX1 := hid hW; have HQ1 := hid ((hO.block w.heap.size (by omega)).trans HQ.out); have HR1 := hid (HR0.out.to (to_only hO) (by omega)); have HG1 := hid (grow_own ((to_below (R := R) HB.out)) (to_only hO) (fun q e => by injection e with e; omega)); clear hO hW)
    | fail)
  have HWT := hid (HR1.out.white hs6)
  rw [hl1] at HWT
  clear HX HQ HB HR0 HR1 hW0 hsz hbu
  go_wp2_with fail
  refine HWT.out.mono ?_
  rintro x W2 ⟨rfl, hr, hg⟩
  have HX2 := hid (to_row hg HX1.out (by omega))
  have HQ2 := hid (to_row hg HQ1.out (by omega))
  have HG2 := hid (HG1.out.trans hg)
  have HR2 := hid hr
  have HNW := hid hr.now
  rw [hX] at HNW
  clear hr hg HWT HX1 HQ1 HG1 hl1
  go_wp2_with fail
  refine HNW.out.mono ?_
  rintro x W3 ⟨rfl, hb⟩
  have HX3 := hid (row_keep hb HX2.out)
  have HQ3 := hid (row_keep hb HQ2.out)
  have HG3 := hid (HG2.out.trans (to_below hb))
  have HR3 := hid (HR2.out.below hb)
  clear hb HNW HX2 HQ2 HG2 HR2 hX
  obtain ⟨p3, e3, l3, hq3⟩ := HR3.out
  obtain ⟨-, -, c2, -⟩ := hq3.cells
  have hn1 : n ≤ 8192 := hn
  unfold Rq at hq3
  have HRW := hid hq3
  have HLP : Hid (s.drop p3 = l1 ∧ p3 ≤ s.length) := ⟨e3, l3⟩
  clear hq3 HR3 e3 l3
  go_wp2_with (first
    | (refine store_part rfl 3 _ _ rfl R 2 (.int .i64 ((n : Int) + 1)) _ _ #[.string (asS s), .int .i64 (p3 : Int), .int .i64 ((n : Int) + 1), .int .i64 ((0 : Nat) : Int)] rfl rfl info3q (by simp) rfl rfl HRW.out rfl ?_; intro W4 ho hr; have HR4 : Hid (Rl W4 R s l1 (n + 1)) := ⟨p3, HLP.out.1, HLP.out.2, by unfold Rq; rw [show ((n + 1 : Nat) : Int) = (n : Int) + 1 from by omega]; exact hr⟩; have HX4 := hid ((ho.block (w.heap.size + 1) (by omega)).trans HX3.out); have HQ4 := hid ((ho.block w.heap.size (by omega)).trans HQ3.out); have HG4 := hid (HG3.out.trans (to_only ho)); have c4 : W4.cell? ⟨R, 2, none⟩ = some (.int .i64 ((n : Int) + 1)) := cell_of_row _ _ _ _ _ _ hr; clear ho hr)
    | (refine store_part rfl 3 _ _ rfl (w.heap.size + 1) 0 (.int .i64 1) _ (#[.int .i64 0, .int .i64 0, .string ⟨#[]⟩, .slice none 0 0, .slice none 0 0]) (#[.int .i64 1, .int .i64 0, .string ⟨#[]⟩, .slice none 0 0, .slice none 0 0]) rfl rfl info3q (by simp) rfl rfl HX4.out rfl ?_; intro W5 ho hr; have HX5 := hid hr; have HQ5 := hid ((ho.block w.heap.size (by omega)).trans HQ4.out); have HR5 := hid (HR4.out.to (to_only ho) (by omega)); have HG5 := hid (grow_own HG4.out (to_only ho) (fun q e => by injection e with e; omega)); clear ho hr)
    | (refine store_part rfl 2 _ _ rfl (w.heap.size + 1) 1 (.int .i64 1) _ (#[.int .i64 1, .int .i64 0, .string ⟨#[]⟩, .slice none 0 0, .slice none 0 0]) (#[.int .i64 1, .int .i64 1, .string ⟨#[]⟩, .slice none 0 0, .slice none 0 0]) rfl rfl info2q (by simp) rfl rfl HX5.out rfl ?_; intro W6 ho hr; have HX6 := hid hr; have HQ6 := hid ((ho.block w.heap.size (by omega)).trans HQ5.out); have HR6 := hid (HR5.out.to (to_only ho) (by omega)); have HG6 := hid (grow_own HG5.out (to_only ho) (fun q e => by injection e with e; omega)); clear ho hr)
    | fail)
  have HC5 : Hid (Calls Tryz.prog 71 #[.pointer (some ⟨R, 0, none⟩), .string ⟨#[116, 114, 117, 101]⟩] W6 fun x w' => x = .returned (.tuple #[]) ∧ Hid (W6.grownBy w' (some R)) ∧ Hid (∀ w9, w9.heap[R]? = w'.heap[R]? → w.grownBy w9 (some R) → ValQ d lev l n s R w (.returned (.agg #[.int .i64 1, .int .i64 1, .string ⟨#[]⟩, .slice none 0 0, .slice none 0 0])) w9)) := (wordQ l1 s trueN R (n + 1) hs6 (by decide) W6 HR6.out).mono fun x w' hh => by
    obtain ⟨h1, h2, h3, h4⟩ := hh
    cases htx : preX trueN l1 with
    | true => exact ⟨h1, h4, fun w9 e hg => ValQ.leaf (HV.out htx) rfl ((h2 htx).at e) hg⟩
    | false => exact ⟨h1, h4, fun w9 e hg => ValQ.err (HV2.out htx) (by decide) rfl (vcs_all _ _ _ _ _ _ _ _ _) ((h3 htx).at e) hg⟩
  clear c4 HX4 HQ4 HG4 HR4 HX5 HQ5 HG5 HR5 HV HV2
  refine HC5.out.mono ?_
  rintro x W7 ⟨rfl, HGG, HFIN⟩
  have HX7 := hid (to_row HGG.out HX6.out (by omega))
  have HQ7 := hid (to_row HGG.out HQ6.out (by omega))
  have HG7 := hid (HG6.out.trans HGG.out)
  have hld := loadV_run HX7.out rfl
  clear HC5 HX6 HQ6 HG6 HR6 HGG
  go_wp2_with (first
    | (refine wpList_store_abs rfl 25 (.tmp 4) (.tmp 107) rfl w.heap.size 0 (#[.int .i64 1, .int .i64 1, .string ⟨#[]⟩, .slice none 0 0, .slice none 0 0]) rfl rfl 25 _ HQ7.out (Nat.le_refl 5) infoVj (vcs_all _ _ _ _ _ _ _ _ _) ?_; intro W9 hO9 hW9)
    | fail)
  rw [over_whole #[.int .i64 0, .int .i64 0, .string ⟨#[]⟩, .slice none 0 0, .slice none 0 0] (#[.int .i64 1, .int .i64 1, .string ⟨#[]⟩, .slice none 0 0, .slice none 0 0]) rfl] at hW9
  exact bodyPost_ret (ret_v (p := 4) Tryz.results40 _ _ w.heap.size _ rfl (0, 0) rfl hW9) rfl (HFIN.out _ (hO9.block R (by omega)) (grow_own HG7.out (to_only hO9) (fun q e => by injection e with e; omega)))
set_option maxHeartbeats 8000000 in
set_option maxRecDepth 100000 in
theorem valQ_102 (d lev : Nat) (l : List UInt8) (n : Nat) (s : List UInt8) (R : Nat) (w : World) (hs : s.length ≤ 100000) (hn : n ≤ 8192) (h : Rl w R s l n) (l1 : List UInt8) (hl1 : l.dropWhile whX = l1) (hX : ((l1.headD 0).toNat : Int) = 102) (hm : n + 1 ≤ 8192) (hv : preX falsN l1 = true → valJ d lev l n = .ok (leafJ d (1, 0, [], []), l1.drop 5, n + 1)) (hv2 : preX falsN l1 = false → valJ d lev l n = .error 5) : Calls Tryz.prog 40 #[.pointer (some ⟨R, 0, none⟩), .int .i64 (lev : Int)] w fun x w' => ValQ d lev l n s R w x w' := by
  have hs6 : s.length ≤ 1000000 := by omega
  have hRl := h.lt
  have HV := hid hv
  have HV2 := hid hv2
  clear hv hv2
  have hi8 : ¬ (8192 : Int) < (n : Int) + 1 := by omega
  have hbu : ∀ W, (buildI 25 #[]).run Tryz.prog W = .ok (.agg #[.int .i64 0, .int .i64 0, .string ⟨#[]⟩, .slice none 0 0, .slice none 0 0]) W := fun W => run_build W 25 _ _ built_vz
  have HB := hid ((((Below.refl w.heap.size w).alloc (Nat.le_refl _) (.cells #[.int .i64 0, .int .i64 0, .string ⟨#[]⟩, .slice none 0 0, .slice none 0 0] 25)).alloc (by show _ ≤ (Array.push _ _).size; rw [Array.size_push]; omega) (.cells #[.int .i64 0, .int .i64 0, .string ⟨#[]⟩, .slice none 0 0, .slice none 0 0] 25)))
  have HQ := hid (heap_first w (.cells #[.int .i64 0, .int .i64 0, .string ⟨#[]⟩, .slice none 0 0, .slice none 0 0] 25 (0, 0)) (.cells #[.int .i64 0, .int .i64 0, .string ⟨#[]⟩, .slice none 0 0, .slice none 0 0] 25 (0, 0)))
  have HX := hid (heap_second w (.cells #[.int .i64 0, .int .i64 0, .string ⟨#[]⟩, .slice none 0 0, .slice none 0 0] 25 (0, 0)) (.cells #[.int .i64 0, .int .i64 0, .string ⟨#[]⟩, .slice none 0 0, .slice none 0 0] 25 (0, 0)))
  have hsz : (w.alloc (.cells #[.int .i64 0, .int .i64 0, .string ⟨#[]⟩, .slice none 0 0, .slice none 0 0] 25)).heap.size = w.heap.size + 1 := by simp
  obtain ⟨W0, hW0⟩ : ∃ W0, (w.alloc (.cells #[.int .i64 0, .int .i64 0, .string ⟨#[]⟩, .slice none 0 0, .slice none 0 0] 25)).alloc (.cells #[.int .i64 0, .int .i64 0, .string ⟨#[]⟩, .slice none 0 0, .slice none 0 0] 25) = W0 := ⟨_, rfl⟩
  rw [hW0] at HB HX HQ
  have HR0 := hid (h.below HB.out)
  clear h
  go_enter Tryz.func40, Tryz.ntmps40
  go_wp2_with (first
    | (refine wpList_store_abs rfl 25 (.tmp 5) (.tmp 7) rfl (w.heap.size + 1) 0 #[.int .i64 0, .int .i64 0, .string ⟨#[]⟩, .slice none 0 0, .slice none 0 0] rfl rfl 25 _ HX.out (Nat.le_refl 5) infoVj (vcs_all _ _ _ _ _ _ _ _ _) ?_; intro W1 hO hW; rw [over_whole #[.int .i64 0, .int .i64 0, .string ⟨#[]⟩, .slice none 0 0, .slice none 0 0] #[.int .i64 0, .int .i64 0, .string ⟨#[]⟩, .slice none 0 0, .slice none 0 0] rfl] at hW; have HX1 := hid hW; have HQ1 := hid ((hO.block w.heap.size (by omega)).trans HQ.out); have HR1 := hid (HR0.out.to (to_only hO) (by omega)); have HG1 := hid (grow_own ((to_below (R := R) HB.out)) (to_only hO) (fun q e => by injection e with e; omega)); clear hO hW)
    | fail)
  have HWT := hid (HR1.out.white hs6)
  rw [hl1] at HWT
  clear HX HQ HB HR0 HR1 hW0 hsz hbu
  go_wp2_with fail
  refine HWT.out.mono ?_
  rintro x W2 ⟨rfl, hr, hg⟩
  have HX2 := hid (to_row hg HX1.out (by omega))
  have HQ2 := hid (to_row hg HQ1.out (by omega))
  have HG2 := hid (HG1.out.trans hg)
  have HR2 := hid hr
  have HNW := hid hr.now
  rw [hX] at HNW
  clear hr hg HWT HX1 HQ1 HG1 hl1
  go_wp2_with fail
  refine HNW.out.mono ?_
  rintro x W3 ⟨rfl, hb⟩
  have HX3 := hid (row_keep hb HX2.out)
  have HQ3 := hid (row_keep hb HQ2.out)
  have HG3 := hid (HG2.out.trans (to_below hb))
  have HR3 := hid (HR2.out.below hb)
  clear hb HNW HX2 HQ2 HG2 HR2 hX
  obtain ⟨p3, e3, l3, hq3⟩ := HR3.out
  obtain ⟨-, -, c2, -⟩ := hq3.cells
  have hn1 : n ≤ 8192 := hn
  unfold Rq at hq3
  have HRW := hid hq3
  have HLP : Hid (s.drop p3 = l1 ∧ p3 ≤ s.length) := ⟨e3, l3⟩
  clear hq3 HR3 e3 l3
  go_wp2_with (first
    | (refine store_part rfl 3 _ _ rfl R 2 (.int .i64 ((n : Int) + 1)) _ _ #[.string (asS s), .int .i64 (p3 : Int), .int .i64 ((n : Int) + 1), .int .i64 ((0 : Nat) : Int)] rfl rfl info3q (by simp) rfl rfl HRW.out rfl ?_; intro W4 ho hr; have HR4 : Hid (Rl W4 R s l1 (n + 1)) := ⟨p3, HLP.out.1, HLP.out.2, by unfold Rq; rw [show ((n + 1 : Nat) : Int) = (n : Int) + 1 from by omega]; exact hr⟩; have HX4 := hid ((ho.block (w.heap.size + 1) (by omega)).trans HX3.out); have HQ4 := hid ((ho.block w.heap.size (by omega)).trans HQ3.out); have HG4 := hid (HG3.out.trans (to_only ho)); have c4 : W4.cell? ⟨R, 2, none⟩ = some (.int .i64 ((n : Int) + 1)) := cell_of_row _ _ _ _ _ _ hr; clear ho hr)
    | (refine store_part rfl 3 _ _ rfl (w.heap.size + 1) 0 (.int .i64 1) _ (#[.int .i64 0, .int .i64 0, .string ⟨#[]⟩, .slice none 0 0, .slice none 0 0]) (#[.int .i64 1, .int .i64 0, .string ⟨#[]⟩, .slice none 0 0, .slice none 0 0]) rfl rfl info3q (by simp) rfl rfl HX4.out rfl ?_; intro W5 ho hr; have HX5 := hid hr; have HQ5 := hid ((ho.block w.heap.size (by omega)).trans HQ4.out); have HR5 := hid (HR4.out.to (to_only ho) (by omega)); have HG5 := hid (grow_own HG4.out (to_only ho) (fun q e => by injection e with e; omega)); clear ho hr)
    | fail)
  have HC5 : Hid (Calls Tryz.prog 71 #[.pointer (some ⟨R, 0, none⟩), .string ⟨#[102, 97, 108, 115, 101]⟩] W5 fun x w' => x = .returned (.tuple #[]) ∧ Hid (W5.grownBy w' (some R)) ∧ Hid (∀ w9, w9.heap[R]? = w'.heap[R]? → w.grownBy w9 (some R) → ValQ d lev l n s R w (.returned (.agg #[.int .i64 1, .int .i64 0, .string ⟨#[]⟩, .slice none 0 0, .slice none 0 0])) w9)) := (wordQ l1 s falsN R (n + 1) hs6 (by decide) W5 HR5.out).mono fun x w' hh => by
    obtain ⟨h1, h2, h3, h4⟩ := hh
    cases htx : preX falsN l1 with
    | true => exact ⟨h1, h4, fun w9 e hg => ValQ.leaf (HV.out htx) rfl ((h2 htx).at e) hg⟩
    | false => exact ⟨h1, h4, fun w9 e hg => ValQ.err (HV2.out htx) (by decide) rfl (vcs_all _ _ _ _ _ _ _ _ _) ((h3 htx).at e) hg⟩
  clear c4 HX4 HQ4 HG4 HR4 HV HV2
  refine HC5.out.mono ?_
  rintro x W7 ⟨rfl, HGG, HFIN⟩
  have HX7 := hid (to_row HGG.out HX5.out (by omega))
  have HQ7 := hid (to_row HGG.out HQ5.out (by omega))
  have HG7 := hid (HG5.out.trans HGG.out)
  have hld := loadV_run HX7.out rfl
  clear HC5 HX5 HQ5 HG5 HR5 HGG
  go_wp2_with (first
    | (refine wpList_store_abs rfl 25 (.tmp 4) (.tmp 107) rfl w.heap.size 0 (#[.int .i64 1, .int .i64 0, .string ⟨#[]⟩, .slice none 0 0, .slice none 0 0]) rfl rfl 25 _ HQ7.out (Nat.le_refl 5) infoVj (vcs_all _ _ _ _ _ _ _ _ _) ?_; intro W9 hO9 hW9)
    | fail)
  rw [over_whole #[.int .i64 0, .int .i64 0, .string ⟨#[]⟩, .slice none 0 0, .slice none 0 0] (#[.int .i64 1, .int .i64 0, .string ⟨#[]⟩, .slice none 0 0, .slice none 0 0]) rfl] at hW9
  exact bodyPost_ret (ret_v (p := 4) Tryz.results40 _ _ w.heap.size _ rfl (0, 0) rfl hW9) rfl (HFIN.out _ (hO9.block R (by omega)) (grow_own HG7.out (to_only hO9) (fun q e => by injection e with e; omega)))
set_option maxHeartbeats 8000000 in
set_option maxRecDepth 100000 in
theorem valQ_110 (d lev : Nat) (l : List UInt8) (n : Nat) (s : List UInt8) (R : Nat) (w : World) (hs : s.length ≤ 100000) (hn : n ≤ 8192) (h : Rl w R s l n) (l1 : List UInt8) (hl1 : l.dropWhile whX = l1) (hX : ((l1.headD 0).toNat : Int) = 110) (hm : n + 1 ≤ 8192) (hv : preX nullN l1 = true → valJ d lev l n = .ok (leafJ d (0, 0, [], []), l1.drop 4, n + 1)) (hv2 : preX nullN l1 = false → valJ d lev l n = .error 5) : Calls Tryz.prog 40 #[.pointer (some ⟨R, 0, none⟩), .int .i64 (lev : Int)] w fun x w' => ValQ d lev l n s R w x w' := by
  have hs6 : s.length ≤ 1000000 := by omega
  have hRl := h.lt
  have HV := hid hv
  have HV2 := hid hv2
  clear hv hv2
  have hi8 : ¬ (8192 : Int) < (n : Int) + 1 := by omega
  have hbu : ∀ W, (buildI 25 #[]).run Tryz.prog W = .ok (.agg #[.int .i64 0, .int .i64 0, .string ⟨#[]⟩, .slice none 0 0, .slice none 0 0]) W := fun W => run_build W 25 _ _ built_vz
  have HB := hid ((((Below.refl w.heap.size w).alloc (Nat.le_refl _) (.cells #[.int .i64 0, .int .i64 0, .string ⟨#[]⟩, .slice none 0 0, .slice none 0 0] 25)).alloc (by show _ ≤ (Array.push _ _).size; rw [Array.size_push]; omega) (.cells #[.int .i64 0, .int .i64 0, .string ⟨#[]⟩, .slice none 0 0, .slice none 0 0] 25)))
  have HQ := hid (heap_first w (.cells #[.int .i64 0, .int .i64 0, .string ⟨#[]⟩, .slice none 0 0, .slice none 0 0] 25 (0, 0)) (.cells #[.int .i64 0, .int .i64 0, .string ⟨#[]⟩, .slice none 0 0, .slice none 0 0] 25 (0, 0)))
  have HX := hid (heap_second w (.cells #[.int .i64 0, .int .i64 0, .string ⟨#[]⟩, .slice none 0 0, .slice none 0 0] 25 (0, 0)) (.cells #[.int .i64 0, .int .i64 0, .string ⟨#[]⟩, .slice none 0 0, .slice none 0 0] 25 (0, 0)))
  have hsz : (w.alloc (.cells #[.int .i64 0, .int .i64 0, .string ⟨#[]⟩, .slice none 0 0, .slice none 0 0] 25)).heap.size = w.heap.size + 1 := by simp
  obtain ⟨W0, hW0⟩ : ∃ W0, (w.alloc (.cells #[.int .i64 0, .int .i64 0, .string ⟨#[]⟩, .slice none 0 0, .slice none 0 0] 25)).alloc (.cells #[.int .i64 0, .int .i64 0, .string ⟨#[]⟩, .slice none 0 0, .slice none 0 0] 25) = W0 := ⟨_, rfl⟩
  rw [hW0] at HB HX HQ
  have HR0 := hid (h.below HB.out)
  clear h
  go_enter Tryz.func40, Tryz.ntmps40
  go_wp2_with (first
    | (refine wpList_store_abs rfl 25 (.tmp 5) (.tmp 7) rfl (w.heap.size + 1) 0 #[.int .i64 0, .int .i64 0, .string ⟨#[]⟩, .slice none 0 0, .slice none 0 0] rfl rfl 25 _ HX.out (Nat.le_refl 5) infoVj (vcs_all _ _ _ _ _ _ _ _ _) ?_; intro W1 hO hW; rw [over_whole #[.int .i64 0, .int .i64 0, .string ⟨#[]⟩, .slice none 0 0, .slice none 0 0] #[.int .i64 0, .int .i64 0, .string ⟨#[]⟩, .slice none 0 0, .slice none 0 0] rfl] at hW; have HX1 := hid hW; have HQ1 := hid ((hO.block w.heap.size (by omega)).trans HQ.out); have HR1 := hid (HR0.out.to (to_only hO) (by omega)); have HG1 := hid (grow_own ((to_below (R := R) HB.out)) (to_only hO) (fun q e => by injection e with e; omega)); clear hO hW)
    | fail)
  have HWT := hid (HR1.out.white hs6)
  rw [hl1] at HWT
  clear HX HQ HB HR0 HR1 hW0 hsz hbu
  go_wp2_with fail
  refine HWT.out.mono ?_
  rintro x W2 ⟨rfl, hr, hg⟩
  have HX2 := hid (to_row hg HX1.out (by omega))
  have HQ2 := hid (to_row hg HQ1.out (by omega))
  have HG2 := hid (HG1.out.trans hg)
  have HR2 := hid hr
  have HNW := hid hr.now
  rw [hX] at HNW
  clear hr hg HWT HX1 HQ1 HG1 hl1
  go_wp2_with fail
  refine HNW.out.mono ?_
  rintro x W3 ⟨rfl, hb⟩
  have HX3 := hid (row_keep hb HX2.out)
  have HQ3 := hid (row_keep hb HQ2.out)
  have HG3 := hid (HG2.out.trans (to_below hb))
  have HR3 := hid (HR2.out.below hb)
  clear hb HNW HX2 HQ2 HG2 HR2 hX
  obtain ⟨p3, e3, l3, hq3⟩ := HR3.out
  obtain ⟨-, -, c2, -⟩ := hq3.cells
  have hn1 : n ≤ 8192 := hn
  unfold Rq at hq3
  have HRW := hid hq3
  have HLP : Hid (s.drop p3 = l1 ∧ p3 ≤ s.length) := ⟨e3, l3⟩
  clear hq3 HR3 e3 l3
  go_wp2_with (first
    | (refine store_part rfl 3 _ _ rfl R 2 (.int .i64 ((n : Int) + 1)) _ _ #[.string (asS s), .int .i64 (p3 : Int), .int .i64 ((n : Int) + 1), .int .i64 ((0 : Nat) : Int)] rfl rfl info3q (by simp) rfl rfl HRW.out rfl ?_; intro W4 ho hr; have HR4 : Hid (Rl W4 R s l1 (n + 1)) := ⟨p3, HLP.out.1, HLP.out.2, by unfold Rq; rw [show ((n + 1 : Nat) : Int) = (n : Int) + 1 from by omega]; exact hr⟩; have HX4 := hid ((ho.block (w.heap.size + 1) (by omega)).trans HX3.out); have HQ4 := hid ((ho.block w.heap.size (by omega)).trans HQ3.out); have HG4 := hid (HG3.out.trans (to_only ho)); have c4 : W4.cell? ⟨R, 2, none⟩ = some (.int .i64 ((n : Int) + 1)) := cell_of_row _ _ _ _ _ _ hr; clear ho hr)
    | fail)
  have HC5 : Hid (Calls Tryz.prog 71 #[.pointer (some ⟨R, 0, none⟩), .string ⟨#[110, 117, 108, 108]⟩] W4 fun x w' => x = .returned (.tuple #[]) ∧ Hid (W4.grownBy w' (some R)) ∧ Hid (∀ w9, w9.heap[R]? = w'.heap[R]? → w.grownBy w9 (some R) → ValQ d lev l n s R w (.returned (.agg #[.int .i64 0, .int .i64 0, .string ⟨#[]⟩, .slice none 0 0, .slice none 0 0])) w9)) := (wordQ l1 s nullN R (n + 1) hs6 (by decide) W4 HR4.out).mono fun x w' hh => by
    obtain ⟨h1, h2, h3, h4⟩ := hh
    cases htx : preX nullN l1 with
    | true => exact ⟨h1, h4, fun w9 e hg => ValQ.leaf (HV.out htx) rfl ((h2 htx).at e) hg⟩
    | false => exact ⟨h1, h4, fun w9 e hg => ValQ.err (HV2.out htx) (by decide) rfl (vcs_all _ _ _ _ _ _ _ _ _) ((h3 htx).at e) hg⟩
  clear c4 HV HV2
  refine HC5.out.mono ?_
  rintro x W7 ⟨rfl, HGG, HFIN⟩
  have HX7 := hid (to_row HGG.out HX4.out (by omega))
  have HQ7 := hid (to_row HGG.out HQ4.out (by omega))
  have HG7 := hid (HG4.out.trans HGG.out)
  have hld := loadV_run HX7.out rfl
  clear HC5 HX4 HQ4 HG4 HR4 HGG
  go_wp2_with (first
    | (refine wpList_store_abs rfl 25 (.tmp 4) (.tmp 107) rfl w.heap.size 0 (#[.int .i64 0, .int .i64 0, .string ⟨#[]⟩, .slice none 0 0, .slice none 0 0]) rfl rfl 25 _ HQ7.out (Nat.le_refl 5) infoVj (vcs_all _ _ _ _ _ _ _ _ _) ?_; intro W9 hO9 hW9)
    | fail)
  rw [over_whole #[.int .i64 0, .int .i64 0, .string ⟨#[]⟩, .slice none 0 0, .slice none 0 0] (#[.int .i64 0, .int .i64 0, .string ⟨#[]⟩, .slice none 0 0, .slice none 0 0]) rfl] at hW9
  exact bodyPost_ret (ret_v (p := 4) Tryz.results40 _ _ w.heap.size _ rfl (0, 0) rfl hW9) rfl (HFIN.out _ (hO9.block R (by omega)) (grow_own HG7.out (to_only hO9) (fun q e => by injection e with e; omega)))
end Go.Proofs.YtlgkbdebpnbndaaGreatDoor
