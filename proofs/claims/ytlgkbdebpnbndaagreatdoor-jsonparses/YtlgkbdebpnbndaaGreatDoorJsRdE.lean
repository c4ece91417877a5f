
/- A value that is a list or an object. -/
import Derived.Test.YtlgkbdebpnbndaaGreatDoorJsRdD
namespace Go.Proofs.YtlgkbdebpnbndaaGreatDoor
set_option linter.unusedVariables false
set_option linter.unusedSimpArgs false
open Go.RowKit Go.BigFrame
attribute [local go_sem ↓] loadV_eq buildV_eq

set_option maxHeartbeats 8000000 in
set_option maxRecDepth 100000 in
theorem valQ_91 (d lev : Nat) (l : List UInt8) (n : Nat) (s : List UInt8) (R : Nat) (w : World) (hs : s.length ≤ 100000) (hn : n ≤ 8192) (h : Rl w R s l n) (l1 : List UInt8) (hl1 : l.dropWhile whX = l1) (hlev : lev ≤ 1000) (r : List UInt8) (hX : ((l1.headD 0).toNat : Int) = 91) (hc : l1 = 91 :: r) (hm : n + 1 ≤ 8192) (nest : List UInt8 → Nat → Except Nat (VJ d × List UInt8 × Nat)) (HL : NestQOk d lev 4 93 nest) (hv : valJ d lev l n = nest r (n + 1)) : Calls Tryz.prog 40 #[.pointer (some ⟨R, 0, none⟩), .int .i64 (lev : Int)] w fun x w' => ValQ d lev l n s R w x w' := by
  have hs6 : s.length ≤ 1000000 := by omega
  have hRl := h.lt
  have HV := hid hv
  have HLL := hid HL
  clear hv HL
  have hi8 : ¬ (8192 : Int) < (n : Int) + 1 := by omega
  have HC : Hid (∀ W, Hid (Rl W R s l1 (n + 1)) → Hid (w.grownBy W (some R)) → w.heap.size < W.heap.size → Calls Tryz.prog 69 #[.pointer (some ⟨R, 0, none⟩), .agg #[.int .i64 4, .int .i64 0, .string ⟨#[]⟩, .slice none 0 0, .slice none 0 0], .int .u8 93, .int .i64 ((lev : Int) + 1)] W fun x w' => ∃ cs, x = .returned (.agg cs) ∧ Hid (cs.size = 5 ∧ (cs.all (·.oneCell') = true)) ∧ Hid (W.grownBy w' (some R)) ∧ Hid (∀ w9, Only w.heap.size w' w9 → ValQ d lev l n s R w (.returned (.agg cs)) w9)) := fun W hr hg hlt => (HLL.out 91 r (n + 1) s R W hs hm (by rw [← hc]; exact hr)).mono fun x w' hh => by
    have hgr : ∀ w9, Only w.heap.size w' w9 → w.grownBy w9 (some R) := fun w9 ho => grow_own (hg.out.trans hh.2.2) (to_only ho) (fun q e => by injection e with e; omega)
    cases hres : nest r (n + 1) with
    | error k =>
      obtain ⟨cs, m, h1, h2, h3, h4, h5⟩ := hh.2.1 k hres
      exact ⟨cs, h1, ⟨h2, h3⟩, hh.2.2, fun w9 ho => ValQ.err (HV.out.trans hres) h4 h2 h3 (h5.to (to_only ho) (by omega)) (hgr w9 ho)⟩
    | ok q =>
      obtain ⟨t, r2, m⟩ := q
      obtain ⟨cs, h1, h2, h3⟩ := hh.1 t r2 m hres
      have hg1 := hg.out.size
      exact ⟨cs, h1, ⟨h2.size, vcs_one h2⟩, hh.2.2, fun w9 ho => ValQ.got (HV.out.trans hres) ((h2.to (to_only ho) (fun q hq => by omega)).mono fun q hq _ => by omega) (h3.to (to_only ho) (by omega)) (hgr w9 ho)⟩
  clear hc HV HLL
  have hbu : ∀ W, (buildI 25 #[]).run Tryz.prog W = .ok (.agg #[.int .i64 0, .int .i64 0, .string ⟨#[]⟩, .slice none 0 0, .slice none 0 0]) W := fun W => run_build W 25 _ _ built_vz
  have HB := hid ((((Below.refl w.heap.size w).alloc (Nat.le_refl _) (.cells #[.int .i64 0, .int .i64 0, .string ⟨#[]⟩, .slice none 0 0, .slice none 0 0] 25)).alloc (by show _ ≤ (Array.push _ _).size; rw [Array.size_push]; omega) (.cells #[.int .i64 0, .int .i64 0, .string ⟨#[]⟩, .slice none 0 0, .slice none 0 0] 25)))
  have HQ := hid (heap_first w (.cells #[.int .i64 0, .int .i64 0, .string ⟨#[]⟩, .slice none 0 0, .slice none 0 0] 25 (0, 0)) (.cells #[.int .i64 0, .int .i64 0, .string ⟨#[]⟩, .slice none 0 0, .slice none 0 0] 25 (0, 0)))
  have HX := hid (heap_second w (.cells #[.int .i64 0, .int .i64 0, .string ⟨#[]⟩, .slice none 0 0, .slice none 0 0] 25 (0, 0)) (.cells #[.int .i64 0, .int .i64 0, .string ⟨#[]⟩, .slice none 0 0, .slice none 0 0] 25 (0, 0)))
  have hsz : (w.alloc (.cells #[.int .i64 0, .int .i64 0, .string ⟨#[]⟩, .slice none 0 0, .slice none 0 0] 25)).heap.size = w.heap.size + 1 := by simp
  obtain ⟨W0, hW0⟩ : ∃ W0, (w.alloc (.cells #[.int .i64 0, .int .i64 0, .string ⟨#[]⟩, .slice none 0 0, .slice none 0 0] 25)).alloc (.cells #[.int .i64 0, .int .i64 0, .string ⟨#[]⟩, .slice none 0 0, .slice none 0 0] 25) = W0 := ⟨_, rfl⟩
  rw [hW0] at HB HX HQ
  have HR0 := hid (h.below HB.out)
  clear h
  go_enter Tryz.func40, Tryz.ntmps40
  go_wp2_with (first
    | (refine wpList_store_abs rfl 25 (.tmp 5) (.tmp 7) rfl (w.heap.size + 1) 0 #[.int .i64 0, .int .i64 0, .string ⟨#[]⟩, .slice none 0 0, .slice none 0 0] rfl rfl 25 _ HX.out (Nat.le_refl 5) infoVj (vcs_all _ _ _ _ _ _ _ _ _) ?_; intro W1 hO hW; rw [over_whole #[.int .i64 0, .int .i64 0, .string ⟨#[]⟩, .slice none 0 0, .slice none 0 0] #[.int .i64 0, .int .i64 0, .string ⟨#[]⟩, .slice none 0 0, .slice none 0 0] rfl] at hW; have HX1 := hid hW; have HQ1 := hid ((hO.block w.heap.size (by omega)).trans HQ.out); have HR1 := hid (HR0.out.to (to_only hO) (by omega)); have HG1 := hid (grow_own ((to_below (R := R) HB.out)) (to_only hO) (fun q e => by injection e with e; omega)); clear hO hW)
    | fail)
  have HWT := hid (HR1.out.white hs6)
  rw [hl1] at HWT
  clear HX HQ HB HR0 HR1 hW0 hsz hbu
  go_wp2_with fail
  refine HWT.out.mono ?_
  rintro x W2 ⟨rfl, hr, hg⟩
  have HX2 := hid (to_row hg HX1.out (by omega))
  have HQ2 := hid (to_row hg HQ1.out (by omega))
  have HG2 := hid (HG1.out.trans hg)
  have HR2 := hid hr
  have HNW := hid hr.now
  rw [hX] at HNW
  clear hr hg HWT HX1 HQ1 HG1 hl1
  go_wp2_with fail
  refine HNW.out.mono ?_
  rintro x W3 ⟨rfl, hb⟩
  have HX3 := hid (row_keep hb HX2.out)
  have HQ3 := hid (row_keep hb HQ2.out)
  have HG3 := hid (HG2.out.trans (to_below hb))
  have HR3 := hid (HR2.out.below hb)
  clear hb HNW HX2 HQ2 HG2 HR2 hX
  obtain ⟨p3, e3, l3, hq3⟩ := HR3.out
  obtain ⟨-, -, c2, -⟩ := hq3.cells
  have hn1 : n ≤ 8192 := hn
  unfold Rq at hq3
  have HRW := hid hq3
  have HLP : Hid (s.drop p3 = l1 ∧ p3 ≤ s.length) := ⟨e3, l3⟩
  clear hq3 HR3 e3 l3
  go_wp2_with (first
    | (refine store_part rfl 3 _ _ rfl R 2 (.int .i64 ((n : Int) + 1)) _ _ #[.string (asS s), .int .i64 (p3 : Int), .int .i64 ((n : Int) + 1), .int .i64 ((0 : Nat) : Int)] rfl rfl info3q (by simp) rfl rfl HRW.out rfl ?_; intro W4 ho hr; have HR4 : Hid (Rl W4 R s l1 (n + 1)) := ⟨p3, HLP.out.1, HLP.out.2, by unfold Rq; rw [show ((n + 1 : Nat) : Int) = (n : Int) + 1 from by omega]; exact hr⟩; have HX4 := hid ((ho.block (w.heap.size + 1) (by omega)).trans HX3.out); have HQ4 := hid ((ho.block w.heap.size (by omega)).trans HQ3.out); have HG4 := hid (HG3.out.trans (to_only ho)); have c4 : W4.cell? ⟨R, 2, none⟩ = some (.int .i64 ((n : Int) + 1)) := cell_of_row _ _ _ _ _ _ hr; clear ho hr)
    | (refine store_part rfl 3 _ _ rfl (w.heap.size + 1) 0 (.int .i64 4) _ #[.int .i64 0, .int .i64 0, .string ⟨#[]⟩, .slice none 0 0, .slice none 0 0] #[.int .i64 4, .int .i64 0, .string ⟨#[]⟩, .slice none 0 0, .slice none 0 0] rfl rfl info3q (by simp) rfl rfl HX4.out rfl ?_; intro W5 ho hr; have HX5 := hid hr; have hld := loadV_run hr rfl; have HQ5 := hid ((ho.block w.heap.size (by omega)).trans HQ4.out); have HR5 := hid (HR4.out.to (to_only ho) (by omega)); have HG5 := hid (grow_own HG4.out (to_only ho) (fun q e => by injection e with e; omega)); clear ho hr)
    | fail)
  have HC5 := hid (HC.out W5 HR5 HG5 (Array.getElem?_eq_some_iff.1 HQ5.out).1)
  clear hld c4 HX4 HQ4 HG4 HR4 HC
  refine HC5.out.mono ?_
  rintro x W6 ⟨cs, rfl, HCS, HG6, HFIN⟩
  have HQ6 := hid (to_row HG6.out HQ5.out (by omega))
  clear HC5 HX5 HQ5 HG5 HR5
  go_wp2_with (first
    | (refine wpList_store_abs rfl 25 (.tmp 4) (.tmp 77) rfl w.heap.size 0 cs rfl rfl 25 _ HQ6.out (by rw [HCS.out.1]; exact Nat.le_refl _) (by rw [HCS.out.1]; exact infoVj) HCS.out.2 ?_; intro W9 hO9 hW9)
    | fail)
  rw [over_whole #[.int .i64 0, .int .i64 0, .string ⟨#[]⟩, .slice none 0 0, .slice none 0 0] cs (by rw [HCS.out.1]; rfl)] at hW9
  exact bodyPost_ret (ret_v (p := 4) Tryz.results40 _ _ w.heap.size _ HCS.out.1 (0, 0) rfl hW9) rfl (HFIN.out _ hO9)
set_option maxHeartbeats 8000000 in
set_option maxRecDepth 100000 in
theorem valQ_123 (d lev : Nat) (l : List UInt8) (n : Nat) (s : List UInt8) (R : Nat) (w : World) (hs : s.length ≤ 100000) (hn : n ≤ 8192) (h : Rl w R s l n) (l1 : List UInt8) (hl1 : l.dropWhile whX = l1) (hlev : lev ≤ 1000) (r : List UInt8) (hX : ((l1.headD 0).toNat : Int) = 123) (hc : l1 = 123 :: r) (hm : n + 1 ≤ 8192) (nest : List UInt8 → Nat → Except Nat (VJ d × List UInt8 × Nat)) (HL : NestQOk d lev 5 125 nest) (hv : valJ d lev l n = nest r (n + 1)) : Calls Tryz.prog 40 #[.pointer (some ⟨R, 0, none⟩), .int .i64 (lev : Int)] w fun x w' => ValQ d lev l n s R w x w' := by
  have hs6 : s.length ≤ 1000000 := by omega
  have hRl := h.lt
  have HV := hid hv
  have HLL := hid HL
  clear hv HL
  have hi8 : ¬ (8192 : Int) < (n : Int) + 1 := by omega
  have HC : Hid (∀ W, Hid (Rl W R s l1 (n + 1)) → Hid (w.grownBy W (some R)) → w.heap.size < W.heap.size → Calls Tryz.prog 69 #[.pointer (some ⟨R, 0, none⟩), .agg #[.int .i64 5, .int .i64 0, .string ⟨#[]⟩, .slice none 0 0, .slice none 0 0], .int .u8 125, .int .i64 ((lev : Int) + 1)] W fun x w' => ∃ cs, x = .returned (.agg cs) ∧ Hid (cs.size = 5 ∧ (cs.all (·.oneCell') = true)) ∧ Hid (W.grownBy w' (some R)) ∧ Hid (∀ w9, Only w.heap.size w' w9 → ValQ d lev l n s R w (.returned (.agg cs)) w9)) := fun W hr hg hlt => (HLL.out 123 r (n + 1) s R W hs hm (by rw [← hc]; exact hr)).mono fun x w' hh => by
    have hgr : ∀ w9, Only w.heap.size w' w9 → w.grownBy w9 (some R) := fun w9 ho => grow_own (hg.out.trans hh.2.2) (to_only ho) (fun q e => by injection e with e; omega)
    cases hres : nest r (n + 1) with
    | error k =>
      obtain ⟨cs, m, h1, h2, h3, h4, h5⟩ := hh.2.1 k hres
      exact ⟨cs, h1, ⟨h2, h3⟩, hh.2.2, fun w9 ho => ValQ.err (HV.out.trans hres) h4 h2 h3 (h5.to (to_only ho) (by omega)) (hgr w9 ho)⟩
    | ok q =>
      obtain ⟨t, r2, m⟩ := q
      obtain ⟨cs, h1, h2, h3⟩ := hh.1 t r2 m hres
      have hg1 := hg.out.size
      exact ⟨cs, h1, ⟨h2.size, vcs_one h2⟩, hh.2.2, fun w9 ho => ValQ.got (HV.out.trans hres) ((h2.to (to_only ho) (fun q hq => by omega)).mono fun q hq _ => by omega) (h3.to (to_only ho) (by omega)) (hgr w9 ho)⟩
  clear hc HV HLL
  have hbu : ∀ W, (buildI 25 #[]).run Tryz.prog W = .ok (.agg #[.int .i64 0, .int .i64 0, .string ⟨#[]⟩, .slice none 0 0, .slice none 0 0]) W := fun W => run_build W 25 _ _ built_vz
  have HB := hid ((((Below.refl w.heap.size w).alloc (Nat.le_refl _) (.cells #[.int .i64 0, .int .i64 0, .string ⟨#[]⟩, .slice none 0 0, .slice none 0 0] 25)).alloc (by show _ ≤ (Array.push _ _).size; rw [Array.size_push]; omega) (.cells #[.int .i64 0, .int .i64 0, .string ⟨#[]⟩, .slice none 0 0, .slice none 0 0] 25)))
  have HQ := hid (heap_first w (.cells #[.int .i64 0, .int .i64 0, .string ⟨#[]⟩, .slice none 0 0, .slice none 0 0] 25 (0, 0)) (.cells #[.int .i64 0, .int .i64 0, .string ⟨#[]⟩, .slice none 0 0, .slice none 0 0] 25 (0, 0)))
  have HX := hid (heap_second w (.cells #[.int .i64 0, .int .i64 0, .string ⟨#[]⟩, .slice none 0 0, .slice none 0 0] 25 (0, 0)) (.cells #[.int .i64 0, .int .i64 0, .string ⟨#[]⟩, .slice none 0 0, .slice none 0 0] 25 (0, 0)))
  have hsz : (w.alloc (.cells #[.int .i64 0, .int .i64 0, .string ⟨#[]⟩, .slice none 0 0, .slice none 0 0] 25)).heap.size = w.heap.size + 1 := by simp
  obtain ⟨W0, hW0⟩ : ∃ W0, (w.alloc (.cells #[.int .i64 0, .int .i64 0, .string ⟨#[]⟩, .slice none 0 0, .slice none 0 0] 25)).alloc (.cells #[.int .i64 0, .int .i64 0, .string ⟨#[]⟩, .slice none 0 0, .slice none 0 0] 25) = W0 := ⟨_, rfl⟩
  rw [hW0] at HB HX HQ
  have HR0 := hid (h.below HB.out)
  clear h
  go_enter Tryz.func40, Tryz.ntmps40
  go_wp2_with (first
    | (refine wpList_store_abs rfl 25 (.tmp 5) (.tmp 7) rfl (w.heap.size + 1) 0 #[.int .i64 0, .int .i64 0, .string ⟨#[]⟩, .slice none 0 0, .slice none 0 0] rfl rfl 25 _ HX.out (Nat.le_refl 5) infoVj (vcs_all _ _ _ _ _ _ _ _ _) ?_; intro W1 hO hW; rw [over_whole #[.int .i64 0, .int .i64 0, .string ⟨#[]⟩, .slice none 0 0, .slice none 0 0] #[.int .i64 0, .int .i64 0, .string ⟨#[]⟩, .slice none 0 0, .slice none 0 0] rfl] at hW; have HX1 := hid hW; have HQ1 := hid ((hO.block w.heap.size (by omega)).trans HQ.out); have HR1 := hid (HR0.out.to (to_only hO) (by omega)); have HG1 := hid (grow_own ((to_below (R := R) HB.out)) (to_only hO) (fun q e => by injection e with e; omega)); clear hO hW)
    | fail)
  have HWT := hid (HR1.out.white hs6)
  rw [hl1] at HWT
  clear HX HQ HB HR0 HR1 hW0 hsz hbu
  go_wp2_with fail
  refine HWT.out.mono ?_
  rintro x W2 ⟨rfl, hr, hg⟩
  have HX2 := hid (to_row hg HX1.out (by omega))
  have HQ2 := hid (to_row hg HQ1.out (by omega))
  have HG2 := hid (HG1.out.trans hg)
  have HR2 := hid hr
  have HNW := hid hr.now
  rw [hX] at HNW
  clear hr hg HWT HX1 HQ1 HG1 hl1
  go_wp2_with fail
  refine HNW.out.mono ?_
  rintro x W3 ⟨rfl, hb⟩
  have HX3 := hid (row_keep hb HX2.out)
  have HQ3 := hid (row_keep hb HQ2.out)
  have HG3 := hid (HG2.out.trans (to_below hb))
  have HR3 := hid (HR2.out.below hb)
  clear hb HNW HX2 HQ2 HG2 HR2 hX
  obtain ⟨p3, e3, l3, hq3⟩ := HR3.out
  obtain ⟨-, -, c2, -⟩ := hq3.cells
  have hn1 : n ≤ 8192 := hn
  unfold Rq at hq3
  have HRW := hid hq3
  have HLP : Hid (s.drop p3 = l1 ∧ p3 ≤ s.length) := ⟨e3, l3⟩
  clear hq3 HR3 e3 l3
  go_wp2_with (first
    | (refine store_part rfl 3 _ _ rfl R 2 (.int .i64 ((n : Int) + 1)) _ _ #[.string (asS s), .int .i64 (p3 : Int), .int .i64 ((n : Int) + 1), .int .i64 ((0 : Nat) : Int)] rfl rfl info3q (by simp) rfl rfl HRW.out rfl ?_; intro W4 ho hr; have HR4 : Hid (Rl W4 R s l1 (n + 1)) := ⟨p3, HLP.out.1, HLP.out.2, by unfold Rq; rw [show ((n + 1 : Nat) : Int) = (n : Int) + 1 from by omega]; exact hr⟩; have HX4 := hid ((ho.block (w.heap.size + 1) (by omega)).trans HX3.out); have HQ4 := hid ((ho.block w.heap.size (by omega)).trans HQ3.out); have HG4 := hid (HG3.out.trans (to_only ho)); have c4 : W4.cell? ⟨R, 2, none⟩ = some (.int .i64 ((n : Int) + 1)) := cell_of_row _ _ _ _ _ _ hr; clear ho hr)
    | (refine store_part rfl 3 _ _ rfl (w.heap.size + 1) 0 (.int .i64 5) _ #[.int .i64 0, .int .i64 0, .string ⟨#[]⟩, .slice none 0 0, .slice none 0 0] #[.int .i64 5, .int .i64 0, .string ⟨#[]⟩, .slice none 0 0, .slice none 0 0] rfl rfl info3q (by simp) rfl rfl HX4.out rfl ?_; intro W5 ho hr; have HX5 := hid hr; have hld := loadV_run hr rfl; have HQ5 := hid ((ho.block w.heap.size (by omega)).trans HQ4.out); have HR5 := hid (HR4.out.to (to_only ho) (by omega)); have HG5 := hid (grow_own HG4.out (to_only ho) (fun q e => by injection e with e; omega)); clear ho hr)
    | fail)
  have HC5 := hid (HC.out W5 HR5 HG5 (Array.getElem?_eq_some_iff.1 HQ5.out).1)
  clear hld c4 HX4 HQ4 HG4 HR4 HC
  refine HC5.out.mono ?_
  rintro x W6 ⟨cs, rfl, HCS, HG6, HFIN⟩
  have HQ6 := hid (to_row HG6.out HQ5.out (by omega))
  clear HC5 HX5 HQ5 HG5 HR5
  go_wp2_with (first
    | (refine wpList_store_abs rfl 25 (.tmp 4) (.tmp 85) rfl w.heap.size 0 cs rfl rfl 25 _ HQ6.out (by rw [HCS.out.1]; exact Nat.le_refl _) (by rw [HCS.out.1]; exact infoVj) HCS.out.2 ?_; intro W9 hO9 hW9)
    | fail)
  rw [over_whole #[.int .i64 0, .int .i64 0, .string ⟨#[]⟩, .slice none 0 0, .slice none 0 0] cs (by rw [HCS.out.1]; rfl)] at hW9
  exact bodyPost_ret (ret_v (p := 4) Tryz.results40 _ _ w.heap.size _ HCS.out.1 (0, 0) rfl hW9) rfl (HFIN.out _ hO9)
end Go.Proofs.YtlgkbdebpnbndaaGreatDoor
