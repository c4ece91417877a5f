
/- The reference's Parse, given what its value does; may a text be? -/
import Derived.Test.YtlgkbdebpnbndaaGreatDoorJsRd8
import Derived.Test.YtlgkbdebpnbndaaGreatDoorJsParse
namespace Go.Proofs.YtlgkbdebpnbndaaGreatDoor
set_option linter.unusedVariables false
set_option linter.unusedSimpArgs false
open Go.RowKit Go.BigFrame
attribute [local go_sem ↓] buildV_eq

theorem refText16 (l : List UInt8) (hl : l.length ≤ 1000000) (w : World) : Calls Tryz.prog 39 #[.string (asS l)] w fun x w' => x = .returned (.bool (V l)) ∧ Below w.heap.size w w' := by
  have hz : (asS l).size ≤ 1000000 := by rw [asS_size]; exact hl
  cases hv : V l with
  | true =>
    have HC := hid (runes_ok (asS l) w hz (by rw [vld_V, asS_data]; exact hv))
    clear hv
    generalize asS l = S at HC ⊢
    go_enter Tryz.func39, Tryz.ntmps39
    go_wp2_with fail
    refine HC.out.mono ?_
    rintro e W ⟨v, rfl, _, hb⟩
    have HB := hid hb
    clear hb
    go_wp2_with fail
    go_ret
    exact ⟨rfl, HB.out⟩
  | false =>
    have HC := hid (runes_no (asS l) w hz (by rw [vld_V, asS_data]; exact hv))
    clear hv
    generalize asS l = S at HC ⊢
    go_enter Tryz.func39, Tryz.ntmps39
    go_wp2_with fail
    refine HC.out.mono ?_
    rintro e W ⟨rfl, hb⟩
    have HB := hid hb
    clear hb
    go_wp2_with fail
    go_ret
    exact ⟨rfl, HB.out⟩
theorem storeV_eq9 (x v : Value) : Instr.storeAt 25 x v = storeI 25 x v := rfl
theorem storeV_row9 {w : World} {g : Nat} {cs cs2 : Array Value} (hz2 : cs2.size = 5) (h1 : cs2.all (·.oneCell') = true) (hrow : w.heap[g]? = some (.cells cs 25 (0, 0))) (hz : cs.size = 5) : (storeI 25 (.pointer (some ⟨g, 0, none⟩)) (.agg cs2)).run Tryz.prog w = .ok () (putM w g cs2) :=
  run_storeAt_mid w g 0 25 cs2 (there_row hrow 0 cs2.size (by rw [hz, hz2]; exact Nat.le_refl _)) (by rw [hz2]; exact infoVj) h1
/-- What the reference's value does. -/
def ValQ (d lev : Nat) (l : List UInt8) (n : Nat) (s : List UInt8) (R : Nat) (w : World) (x : Ending) (w' : World) : Prop :=
  (∀ t r m, valJ d lev l n = .ok (t, r, m) → ∃ cs, x = .returned (.agg cs) ∧ VAt (fun q => w.heap.size ≤ q) d w' cs t ∧ Rl w' R s r m) ∧ (∀ k, valJ d lev l n = .error k → ∃ cs m, x = .returned (.agg cs) ∧ cs.size = 5 ∧ (cs.all (·.oneCell') = true) ∧ k ≠ 0 ∧ Re w' R s m k) ∧ w.grownBy w' (some R)
def ValQOk (d lev : Nat) : Prop := ∀ (l : List UInt8) (n : Nat) (s : List UInt8) (R : Nat) (w : World), s.length ≤ 100000 → n ≤ 8192 → Rl w R s l n → Calls Tryz.prog 40 #[.pointer (some ⟨R, 0, none⟩), .int .i64 (lev : Int)] w fun x w' => ValQ d lev l n s R w x w'
set_option maxHeartbeats 4000000 in
set_option maxRecDepth 100000 in
theorem refParse_no (l : List UInt8) (k : Nat) (w : World) (hl : l.length ≤ 1000000) (h : parJ l = .error k) (hk : (65536 < l.length ∧ k = 3) ∨ (¬ 65536 < l.length ∧ V l = false ∧ k = 5)) : Calls Tryz.prog 17 #[.string (asS l)] w (ParP l w) := by
  have hz : (asS l).size = l.length := asS_size l
  have HE := hid h
  have HCK : Hid (V l = false → ∀ W, Calls Tryz.prog 39 #[.string (asS l)] W fun e w' => e = .returned (.bool false) ∧ Below W.heap.size W w') := fun hv W => (refText16 l hl W).mono fun e w' hh => ⟨by rw [hh.1, hv], hh.2⟩
  clear h
  generalize asS l = S at hz HCK ⊢
  have hbu : ∀ W, (buildI 25 #[]).run Tryz.prog W = .ok (.agg #[.int .i64 0, .int .i64 0, .string ⟨#[]⟩, .slice none 0 0, .slice none 0 0]) W := fun W => run_build W 25 _ _ built_vz
  have HB := hid ((Below.refl w.heap.size w).alloc (Nat.le_refl _) (.cells #[.int .i64 0, .int .i64 0, .string ⟨#[]⟩, .slice none 0 0, .slice none 0 0] 25))
  have HQ := hid (heap_alloc_new w (.cells #[.int .i64 0, .int .i64 0, .string ⟨#[]⟩, .slice none 0 0, .slice none 0 0] 25 (0, 0)))
  rcases hk with ⟨h1, rfl⟩ | ⟨h1, h2, rfl⟩
  · have hi : (65536 : Int) < (l.length : Int) := by omega
    go_enter Tryz.func17, Tryz.ntmps17
    go_wp2_with (first
      | (refine wpList_store_abs rfl 25 (.tmp 2) (.tmp 9) rfl w.heap.size 0 #[.int .i64 0, .int .i64 0, .string ⟨#[]⟩, .slice none 0 0, .slice none 0 0] rfl rfl 25 _ HQ.out (Nat.le_refl 5) infoVj (vcs_all _ _ _ _ _ _ _ _ _) ?_; intro W9 hO9 hW9)
      | fail)
    rw [over_whole #[.int .i64 0, .int .i64 0, .string ⟨#[]⟩, .slice none 0 0, .slice none 0 0] #[.int .i64 0, .int .i64 0, .string ⟨#[]⟩, .slice none 0 0, .slice none 0 0] rfl] at hW9
    exact bodyPost_ret (ret_v2 (p := 2) (q := 3) Tryz.results17 _ _ w.heap.size _ rfl (0, 0) _ rfl rfl hW9) rfl (ParP.err HE.out (HB.out.trans (hO9.below (by omega))))
  · have hi : ¬ (65536 : Int) < (l.length : Int) := by omega
    have HC := hid (HCK.out h2)
    clear HCK
    go_enter Tryz.func17, Tryz.ntmps17
    go_wp2_with fail
    refine (HC.out _).mono ?_
    rintro e W2 ⟨rfl, hb⟩
    have HB2 := hid (HB.out.trans (hb.mono HB.out.size))
    have HQ2 := hid (row_keep hb HQ.out)
    clear hb HQ
    go_wp2_with (first
      | (refine wpList_store_abs rfl 25 (.tmp 2) (.tmp 13) rfl w.heap.size 0 #[.int .i64 0, .int .i64 0, .string ⟨#[]⟩, .slice none 0 0, .slice none 0 0] rfl rfl 25 _ HQ2.out (Nat.le_refl 5) infoVj (vcs_all _ _ _ _ _ _ _ _ _) ?_; intro W9 hO9 hW9)
      | fail)
    rw [over_whole #[.int .i64 0, .int .i64 0, .string ⟨#[]⟩, .slice none 0 0, .slice none 0 0] #[.int .i64 0, .int .i64 0, .string ⟨#[]⟩, .slice none 0 0, .slice none 0 0] rfl] at hW9
    exact bodyPost_ret (ret_v2 (p := 2) (q := 3) Tryz.results17 _ _ w.heap.size _ rfl (0, 0) _ rfl rfl hW9) rfl (ParP.err HE.out (HB2.out.trans (hO9.below (by omega))))
attribute [local go_sem ↓] storeV_eq9
set_option maxHeartbeats 16000000 in
set_option maxRecDepth 100000 in
theorem refParse_yes (HVAL : ValQOk 40 0) (l : List UInt8) (w : World) (hl : l.length ≤ 65536) (hv : V l = true) : Calls Tryz.prog 17 #[.string (asS l)] w (ParP l w) := by
  have hz : (asS l).size = l.length := asS_size l
  have HC : Hid (∀ W, Calls Tryz.prog 39 #[.string (asS l)] W fun e w' => e = .returned (.bool true) ∧ Below W.heap.size W w') := fun W => (refText16 l (by omega) W).mono fun e w' hh => ⟨by rw [hh.1, hv], hh.2⟩
  have HPE : Hid (∀ k, valJ 40 0 l 0 = .error k → parJ l = .error k) := fun k h => by
    unfold parJ
    rw [if_neg (by omega), hv, if_neg (by decide), h]
  have HPO : Hid (∀ t r m, valJ 40 0 l 0 = .ok (t, r, m) → parJ l = if (r.dropWhile whX).isEmpty then .ok t else .error 5) := fun t r m h => by
    unfold parJ
    rw [if_neg (by omega), hv, if_neg (by decide), h]
  have HVV := hid (fun (R : Nat) (W : World) (hr : W.heap[R]? = some (.cells #[.string (asS l), .int .i64 0, .int .i64 0, .int .i64 0] 68 (0, 0))) => HVAL l 0 l R W (by omega) (by omega) ⟨0, rfl, Nat.zero_le _, hr⟩)
  have hi : ¬ (65536 : Int) < (l.length : Int) := by omega
  have HLS := hid hl
  obtain ⟨S, hS⟩ : ∃ S, asS l = S := ⟨_, rfl⟩
  have HSS := hid hS
  rw [hS] at HC HVV hz ⊢
  clear hS hv hl HVAL
  have hbu : ∀ W, (buildI 25 #[]).run Tryz.prog W = .ok (.agg #[.int .i64 0, .int .i64 0, .string ⟨#[]⟩, .slice none 0 0, .slice none 0 0]) W := fun W => run_build W 25 _ _ built_vz
  have hbr : ∀ W, (buildI 68 #[(0, .string S)]).run Tryz.prog W = .ok (.agg #[.string S, .int .i64 0, .int .i64 0, .int .i64 0]) W := fun W => run_build W 68 _ _ (by kernel_rfl)
  have HB := hid ((Below.refl w.heap.size w).alloc (Nat.le_refl _) (.cells #[.int .i64 0, .int .i64 0, .string ⟨#[]⟩, .slice none 0 0, .slice none 0 0] 25))
  have HQ := hid (heap_alloc_new w (.cells #[.int .i64 0, .int .i64 0, .string ⟨#[]⟩, .slice none 0 0, .slice none 0 0] 25 (0, 0)))
  have hw1 : (w.alloc (.cells #[.int .i64 0, .int .i64 0, .string ⟨#[]⟩, .slice none 0 0, .slice none 0 0] 25)).heap.size = w.heap.size + 1 := by simp
  have HW1 := hid hw1
  clear hw1
  go_enter Tryz.func17, Tryz.ntmps17
  go_wp2_with fail
  refine (HC.out _).mono ?_
  rintro e W2 ⟨rfl, hb⟩
  have HB2 := hid (HB.out.trans (hb.mono HB.out.size))
  have HQ2 := hid (row_keep hb HQ.out)
  have hs2 : w.heap.size + 1 ≤ W2.heap.size := by have := hb.size; have := HW1.out; omega
  clear hb HQ HC HB HW1
  have HRW := hid (heap_alloc_new W2 (.cells #[.string S, .int .i64 0, .int .i64 0, .int .i64 0] 68 (0, 0)))
  have HAL := hid ((Below.refl W2.heap.size W2).alloc (Nat.le_refl _) (.cells #[.string S, .int .i64 0, .int .i64 0, .int .i64 0] 68))
  obtain ⟨W3, hW3⟩ : ∃ W3, W2.alloc (.cells #[.string S, .int .i64 0, .int .i64 0, .int .i64 0] 68) = W3 := ⟨_, rfl⟩
  rw [hW3] at HRW HAL
  have HV3 := hid (HVV.out W2.heap.size W3 HRW.out)
  have HB3 := hid (HB2.out.trans (HAL.out.mono HB2.out.size))
  have HQ3 := hid (row_keep HAL.out HQ2.out)
  have hs3 : W2.heap.size < W3.heap.size := (Array.getElem?_eq_some_iff.1 HRW.out).1
  clear HVV HRW HAL HB2 HQ2
  cases hvj : valJ 40 0 l 0 with
  | error k =>
    have HER : Hid (parJ l = .error k) := HPE.out k hvj
    have HC : Hid (Calls Tryz.prog 40 #[.pointer (some ⟨W2.heap.size, 0, none⟩), .int .i64 0] W3 fun x w' => (∃ cs, x = .returned (.agg cs) ∧ Hid (cs.size = 5 ∧ (cs.all (·.oneCell') = true)) ∧ ∃ m, k ≠ 0 ∧ Hid (Re w' W2.heap.size l m k)) ∧ W3.grownBy w' (some W2.heap.size)) := HV3.out.mono fun x w' hh => by
      obtain ⟨cs, m, h1, h2, h3, h4, h5⟩ := hh.2.1 k hvj
      exact ⟨⟨cs, h1, ⟨h2, h3⟩, m, h4, h5⟩, hh.2.2⟩
    clear HPE HPO HV3 hvj
    go_wp2_with fail
    refine HC.out.mono ?_
    rintro e W4 ⟨⟨cs, rfl, HCS, m, hk0, HR4⟩, hg⟩
    have hg4 := hg.size
    have HQ4 := hid (to_row hg HQ3.out (by omega))
    have HB4 := hid (HB3.out.grown hg HB3.out.size (fun q e => by injection e with e; omega))
    have HN4 := hid (heap_alloc_new W4 (.cells #[.int .i64 0, .int .i64 0, .string ⟨#[]⟩, .slice none 0 0, .slice none 0 0] 25 (0, 0)))
    have HA4 := hid ((Below.refl W4.heap.size W4).alloc (Nat.le_refl _) (.cells #[.int .i64 0, .int .i64 0, .string ⟨#[]⟩, .slice none 0 0, .slice none 0 0] 25))
    clear hg HC HQ3 HB3 hW3
    go_wp2_with (first
      | (refine wpList_store_abs rfl 25 (.tmp 5) (.tmp 18) rfl W4.heap.size 0 cs rfl rfl 25 _ HN4.out (by rw [HCS.out.1]; exact Nat.le_refl _) (by rw [HCS.out.1]; exact infoVj) HCS.out.2 ?_; intro V4 hO hW; have hBW : Below W4.heap.size W4 V4 := HA4.out.trans (hO.below (Nat.le_refl _)); have HBV : Hid (Below w.heap.size w V4) := HB4.out.trans (hBW.mono HB4.out.size); have HQV := hid (row_keep hBW HQ4.out); have HRV := hid (HR4.out.below hBW); have hsv := hBW.size; clear hO hW hBW)
      | fail)
    have HWH := hid (HRV.out.white (by have := HLS.out; omega))
    clear HN4 HA4 HB4 HQ4 HR4 HRV
    refine HWH.out.mono ?_
    rintro e W5 ⟨rfl, hr, hg⟩
    have hg5 := hg.size
    have HQ5 := hid (to_row hg HQV.out (by omega))
    have HB5 := hid (HBV.out.grown hg HBV.out.size (fun q e => by injection e with e; omega))
    obtain ⟨p5, hp5, hr5⟩ := hr
    obtain ⟨_, f1, _, f3⟩ := hr5.cells
    have hke : ((k : Int) == 0) = false := by rw [beq_eq_false_iff_ne]; omega
    have hkn : ((k : Int) != 0) = true := by rw [bne_iff_ne]; omega
    clear hg hr5 hp5 HWH HQV HBV
    go_wp2_with fail
    go_quiet (fail)
    go_wp2_with fail
    rename_i nq K8 HK8 K9 HK9
    have HQ6 : Hid ((W5.drewN nq).heap[w.heap.size]? = some (.cells #[.int .i64 0, .int .i64 0, .string ⟨#[]⟩, .slice none 0 0, .slice none 0 0] 25 (0, 0))) := HQ5.out
    have f6 : (W5.drewN nq).cell? ⟨W2.heap.size, 3, none⟩ = some (.int .i64 k) := f3
    have HB6 : Hid (Below w.heap.size w (W5.drewN nq)) := HB5.out.trans (below_drewN _ _ _)
    generalize W5.drewN nq = W6 at HQ6 f6 HB6 ⊢
    have hstv := storeV_row9 (w := W6.drew) (cs2 := #[.int .i64 0, .int .i64 0, .string ⟨#[]⟩, .slice none 0 0, .slice none 0 0]) rfl (vcs_all _ _ _ _ _ _ _ _ _) HQ6.out rfl
    have g3 : (putM W6.drew w.heap.size #[.int .i64 0, .int .i64 0, .string ⟨#[]⟩, .slice none 0 0, .slice none 0 0]).cell? ⟨W2.heap.size, 3, none⟩ = some (.int .i64 k) := by rw [cell_same ((putM_only _ _ _).block W2.heap.size (by omega))]; exact f6
    go_region
    all_goals
      go_wp2_with fail
      exact bodyPost_ret (ret_v2 (p := 2) (q := 3) Tryz.results17 _ _ w.heap.size _ rfl (0, 0) _ rfl rfl (putM_row HQ6.out rfl)) rfl (ParP.err HER.out (HB6.out.trans (((below_drewQ W6).mono HB6.out.size).trans ((putM_only W6.drew w.heap.size _).below (Nat.le_refl _)))))
  | ok q =>
    obtain ⟨t, r, m⟩ := q
    have HPR : Hid (parJ l = if (r.dropWhile whX).isEmpty then .ok t else .error 5) := HPO.out t r m hvj
    have HC : Hid (Calls Tryz.prog 40 #[.pointer (some ⟨W2.heap.size, 0, none⟩), .int .i64 0] W3 fun x w' => (∃ cs, x = .returned (.agg cs) ∧ Hid (VAt (fun q => W3.heap.size ≤ q) 40 w' cs t) ∧ Hid (Rl w' W2.heap.size l r m)) ∧ W3.grownBy w' (some W2.heap.size)) := HV3.out.mono fun x w' hh => by
      obtain ⟨cs, h1, h2, h3⟩ := hh.1 t r m hvj
      exact ⟨⟨cs, h1, h2, h3⟩, hh.2.2⟩
    clear HPE HPO HV3 hvj
    go_wp2_with fail
    refine HC.out.mono ?_
    rintro e W4 ⟨⟨cs, rfl, HVA, HR4⟩, hg⟩
    have hg4 := hg.size
    have HQ4 := hid (to_row hg HQ3.out (by omega))
    have HB4 := hid (HB3.out.grown hg HB3.out.size (fun q e => by injection e with e; omega))
    have HN4 := hid (heap_alloc_new W4 (.cells #[.int .i64 0, .int .i64 0, .string ⟨#[]⟩, .slice none 0 0, .slice none 0 0] 25 (0, 0)))
    have HA4 := hid ((Below.refl W4.heap.size W4).alloc (Nat.le_refl _) (.cells #[.int .i64 0, .int .i64 0, .string ⟨#[]⟩, .slice none 0 0, .slice none 0 0] 25))
    clear hg HC HQ3 HB3 hW3
    go_wp2_with (first
      | (refine wpList_store_abs rfl 25 (.tmp 5) (.tmp 18) rfl W4.heap.size 0 cs rfl rfl 25 _ HN4.out (by rw [HVA.out.size]; exact Nat.le_refl _) (by rw [HVA.out.size]; exact infoVj) (vcs_one HVA.out) ?_; intro V4 hO hW; rw [over_whole #[.int .i64 0, .int .i64 0, .string ⟨#[]⟩, .slice none 0 0, .slice none 0 0] cs (by rw [HVA.out.size]; rfl)] at hW; have hBW : Below W4.heap.size W4 V4 := HA4.out.trans (hO.below (Nat.le_refl _)); have HBV : Hid (Below w.heap.size w V4) := HB4.out.trans (hBW.mono HB4.out.size); have HQV := hid (row_keep hBW HQ4.out); have HRV := hid (HR4.out.below hBW); have HVV4 := hid (HVA.out.below hBW (Nat.le_refl _)); have HXV := hid hW; have hsv := hBW.size; clear hO hW hBW)
      | fail)
    have HWH := hid (HRV.out.white (by have := HLS.out; omega))
    have hs4 : W4.heap.size < V4.heap.size := (Array.getElem?_eq_some_iff.1 HXV.out).1
    clear HN4 HA4 HB4 HQ4 HR4 HRV HVA
    refine HWH.out.mono ?_
    rintro e W5 ⟨rfl, hr, hg⟩
    have hg5 := hg.size
    have HQ5 := hid (to_row hg HQV.out (by omega))
    have HX5 := hid (to_row hg HXV.out (by omega))
    have HV5 := hid (HVV4.out.to hg (fun q hq => by omega))
    have HB5 := hid (HBV.out.grown hg HBV.out.size (fun q e => by injection e with e; omega))
    have HR5 := hid hr
    have hrow := hr.row5.1
    have hlr := hr.len
    obtain ⟨f0, f1, _, f3⟩ := hrow.cells
    have z1 : (asS l).size = l.length := asS_size l
    rw [HSS.out] at f0 z1
    clear hg hr hrow HWH HQV HBV HXV HVV4
    have HQ5d : Hid (∀ n, (W5.drewN n).heap[w.heap.size]? = some (.cells #[.int .i64 0, .int .i64 0, .string ⟨#[]⟩, .slice none 0 0, .slice none 0 0] 25 (0, 0))) := fun n => HQ5.out
    have HX5d : Hid (∀ n, (W5.drewN n).heap[W4.heap.size]? = some (.cells cs 25 (0, 0))) := fun n => HX5.out
    have HB5d : Hid (∀ n, Below w.heap.size w (W5.drewN n)) := fun n => HB5.out.trans (below_drewN _ _ _)
    have HR5d : Hid (∀ n, Rl (W5.drewN n) W2.heap.size l (r.dropWhile whX) m) := fun n => HR5.out.below (below_drewN _ _ _)
    have HV5d : Hid (∀ n, VAt (fun q => W3.heap.size ≤ q) 40 (W5.drewN n) cs t) := fun n => HV5.out.below (below_drewN W5.heap.size W5 n) (Nat.le_refl _)
    have HZ := hid HV5.out.size
    clear HQ5 HX5 HB5 HR5 HV5
    cases hl : r.dropWhile whX with
    | nil =>
      rw [hl] at f1
      rw [List.length_nil, Nat.sub_zero] at f1
      have HOK : Hid (parJ l = .ok t) := HPR.out.trans (by rw [hl]; rfl)
      have hlt : decide ((l.length : Int) < (l.length : Int)) = false := decide_eq_false (by omega)
      clear HPR hl HR5d
      go_wp2_with fail
      go_quiet (fail)
      go_wp2_with (first
        | (refine load_msg rfl _ rfl W4.heap.size cs rfl (load_v5 (HX5d.out _) HZ.out) ?_)
        | (refine wpList_store_abs rfl 25 (.tmp 2) (.tmp 50) rfl w.heap.size 0 cs rfl rfl 25 _ (HQ5d.out _) (by rw [HZ.out]; exact Nat.le_refl _) (by rw [HZ.out]; exact infoVj) (vcs_one (HV5d.out 0)) ?_; intro W9 hO9 hW9)
        | fail)
      rw [over_whole #[.int .i64 0, .int .i64 0, .string ⟨#[]⟩, .slice none 0 0, .slice none 0 0] cs (by rw [HZ.out]; rfl)] at hW9
      have hbd : Below w.heap.size w W9 := (HB5d.out _).trans (hO9.below (Nat.le_refl _))
      refine bodyPost_ret (ret_v2 (p := 2) (q := 3) Tryz.results17 _ _ w.heap.size cs HZ.out (0, 0) _ rfl rfl hW9) rfl ⟨(fun t2 h2 => ?_), (fun k2 h2 => by rw [HOK.out] at h2; cases h2), hbd⟩
      rw [HOK.out] at h2
      injection h2 with h2
      subst h2
      refine ⟨cs, rfl, (HV5d.out _).frame (Nat.le_of_eq hO9.size.symm) fun q hq hl => ⟨hO9.block q (by omega), by omega⟩⟩
    | cons c r2 =>
      have HER : Hid (parJ l = .error 5) := HPR.out.trans (by rw [hl]; rfl)
      have hll : (c :: r2).length ≤ l.length := by rw [← hl]; exact hlr
      have hlt : ((l.length - (c :: r2).length : Nat) : Int) < (l.length : Int) := by rw [List.length_cons] at hll ⊢; omega
      rw [hl] at f1 HR5d
      generalize hpp : l.length - (c :: r2).length = pp at f1 hlt
      clear HPR hpp HX5d HV5d
      go_wp2_with fail
      go_quiet (fail)
      go_wp2_with fail
      refine ((HR5d.out _).wrong 5).mono ?_
      rintro e W6 ⟨rfl, hr, hg⟩
      have hg6 := hg.size
      have hs6 : W5.heap.size ≤ W6.heap.size := hg.size
      have HQ6 : Hid (W6.heap[w.heap.size]? = some (.cells #[.int .i64 0, .int .i64 0, .string ⟨#[]⟩, .slice none 0 0, .slice none 0 0] 25 (0, 0))) := to_row hg (HQ5d.out _) (by omega)
      have HB6 : Hid (Below w.heap.size w W6) := (HB5d.out _).grown hg (HB5d.out _).size (fun q e => by injection e with e; omega)
      obtain ⟨p6, hp6, hr6⟩ := hr
      obtain ⟨_, _, _, f6⟩ := hr6.cells
      have hstv := storeV_row9 (w := W6.drew) (cs2 := #[.int .i64 0, .int .i64 0, .string ⟨#[]⟩, .slice none 0 0, .slice none 0 0]) rfl (vcs_all _ _ _ _ _ _ _ _ _) HQ6.out rfl
      have g3 : (putM W6.drew w.heap.size #[.int .i64 0, .int .i64 0, .string ⟨#[]⟩, .slice none 0 0, .slice none 0 0]).cell? ⟨W2.heap.size, 3, none⟩ = some (.int .i64 ((5 : Nat) : Int)) := by rw [cell_same ((putM_only _ _ _).block W2.heap.size (by omega))]; exact f6
      clear hg hr6 hp6 f0 f1 f3
      go_wp2_with fail
      go_region
      all_goals
        go_wp2_with fail
        exact bodyPost_ret (ret_v2 (p := 2) (q := 3) Tryz.results17 _ _ w.heap.size _ rfl (0, 0) _ rfl rfl (putM_row HQ6.out rfl)) rfl (ParP.err HER.out (HB6.out.trans (((below_drewQ W6).mono HB6.out.size).trans ((putM_only W6.drew w.heap.size _).below (Nat.le_refl _)))))
end Go.Proofs.YtlgkbdebpnbndaaGreatDoor
