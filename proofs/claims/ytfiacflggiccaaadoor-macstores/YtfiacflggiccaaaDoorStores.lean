/- What MacStores does at every input. -/
import Derived.Test.YtfiacflggiccaaaDoorMatch
namespace Go.Proofs.YtfiacflggiccaaaDoor
open Go.RowKit
set_option linter.unusedSimpArgs false
set_option linter.unusedVariables false

theorem load24_any {w : World} {g : Nat} {b : List UInt8} (hb : b.length = 32) (h : w.heap[g]? = some (.cells (bcs b) 24 (0, 0))) : (loadI 24 (.pointer (some ⟨g, 0, none⟩))).run Tryd.prog w = .ok (.agg (bcs b)) w :=
  run_loadAt_mid w g 0 24 (bvs b) _ (range_row (a := []) (c := []) (t := 24) (fr := (0, 0)) (by rw [List.nil_append, List.append_nil]; exact h) 0 rfl) Tryd.underlying24 rfl (by rw [size24, bvs_len, hb])
theorem load44_eq (x : Value) : Instr.loadAt 44 x = loadI 44 x := rfl
theorem load44_any {w : World} {g : Nat} {b : List UInt8} (hb : b.length = 16) (h : w.heap[g]? = some (.cells (bcs b) 44 (0, 0))) : (loadI 44 (.pointer (some ⟨g, 0, none⟩))).run Tryd.prog w = .ok (.agg (bcs b)) w :=
  run_loadAt_mid w g 0 44 (bvs b) _ (range_row (a := []) (c := []) (t := 44) (fr := (0, 0)) (by rw [List.nil_append, List.append_nil]; exact h) 0 rfl) Tryd.underlying44 rfl (by rw [size44, bvs_len, hb])
attribute [local go_sem ↓] load24_eq load44_eq

set_option maxRecDepth 100000 in
set_option maxHeartbeats 4000000 in
theorem stores_law (salt : List UInt8) (hs : salt.length = 16) (s o : ByteArray) (w : World) (hT : TabS w) :
    Calls Tryd.prog 8 #[.agg (bcs salt), .string s, .string o] w fun e w' => e = .returned (.bool true) ∧ Below w.heap.size w w' := by
  have HAW := hid awake3_any
  have HT := hid hT
  have hT1 := hT.lt
  have HS := hid hs
  have HB0 : Hid (∀ o1, Below w.heap.size w (w.alloc o1)) := fun o1 => (Below.refl _ _).alloc (Nat.le_refl _) o1
  have hl0 : (loadI 44 (.pointer (some ⟨w.heap.size, 0, none⟩))).run Tryd.prog (w.alloc (.cells (bcs salt) 44)) = .ok (.agg (bcs salt)) (w.alloc (.cells (bcs salt) 44)) := load44_any hs (heap_alloc_new w _)
  clear hT hs
  by_cases hl1 : (s.size : Int) ≤ 2000
  case neg =>
    go_enter Tryd.func8, Tryd.ntmps8
    go_wp2_with (go_at_call 19; refine (HAW.out _ (HT.out.below (HB0.out _) hT1)).mono ?_; rintro e w1 ⟨rfl, hb1⟩)
    go_ret
    exact ⟨rfl, (HB0.out _).trans (hb1.mono (by simp))⟩
  by_cases hl2 : (o.size : Int) ≤ 2000
  case neg =>
    go_enter Tryd.func8, Tryd.ntmps8
    go_wp2_with (go_at_call 19; refine (HAW.out _ (HT.out.below (HB0.out _) hT1)).mono ?_; rintro e w1 ⟨rfl, hb1⟩)
    go_ret
    exact ⟨rfl, (HB0.out _).trans (hb1.mono (by simp))⟩
  by_cases hsh : (s.size : Int) < 8
  · have hE : errNo s = 1 := by unfold errNo; rw [if_pos (by omega)]
    obtain ⟨T, hTe⟩ : ∃ T, stored salt s = T := ⟨_, rfl⟩
    have HTL : Hid (T.length = 32) := by show _ = _; rw [← hTe]; exact stored_len salt s
    have HTZ : Hid (T = zer 32) := by show _ = _; rw [← hTe]; unfold stored; rw [hE]; rfl
    have HM1 : Hid (∀ W, TabS W → Calls Tryd.prog 25 #[.agg (bcs salt), .string s, .agg (bcs T)] W fun e w' => e = .returned (.bool false) ∧ Below W.heap.size W w') := fun W h => match_any salt HS.out s T HTL.out W h false (by rw [hE]; simp)
    have HST : Hid (∀ W, TabS W → Calls Tryd.prog 23 #[.agg (bcs salt), .string s] W fun e w' => e = .returned (.tuple #[.agg (bcs T), .int .i64 1]) ∧ Below W.heap.size W w') := fun W h => by have := store_any salt HS.out s W h; rw [hE, hTe] at this; exact this
    have HCH : Hid (∀ W, Calls Tryd.prog 24 #[.string s] W fun e w' => e = .returned (.int .i64 1) ∧ w' = W) := fun W => check_any s W _ hE.symm
    have HI := hid (size24' T HTL.out)
    have HO := hid (bvs_one T)
    clear hE hTe
    go_enter Tryd.func8, Tryd.ntmps8
    go_wp2_with fail
    refine (HST.out _ (HT.out.below (HB0.out _) hT1)).mono ?_
    rintro e W1 ⟨rfl, hb1⟩
    have HN1 : Hid (W1.heap[w.heap.size]? = some (.cells (bcs salt) 44 (0, 0))) := (hb1.block _ (by simp)).trans (heap_alloc_new w _)
    have HB1 := hid ((HB0.out _).trans (hb1.mono (by simp)))
    have hz1 : w.heap.size < W1.heap.size := (Array.getElem?_eq_some_iff.1 HN1.out).1
    clear hb1 HST hl0
    go_wp2_with (refine wpList_store_abs rfl 24 (.tmp 7) (.tmp 24) rfl W1.heap.size 0 (bcs T) rfl rfl 24 _ (heap_alloc_new W1 _) (by rw [bcs_size, HTL.out]; exact Nat.le_refl 32) HI.out HO.out ?_; intro W2 hO2 hW2)
    rw [over_bytes _ T (by rw [HTL.out]; rfl)] at hW2
    have HW2 := hid hW2
    have HN2 : Hid (W2.heap[w.heap.size]? = some (.cells (bcs salt) 44 (0, 0))) := by show _ = _; rw [hO2.block _ (by omega), Below.heap_alloc W1 _ _ hz1]; exact HN1.out
    have HB2 : Hid (Below w.heap.size w W2) := (HB1.out.alloc (by omega) _).trans (hO2.below (by omega))
    have hz2 := HB2.out.size
    clear hO2 hW2 HB1 HN1
    have hl7 : (loadI 24 (.pointer (some ⟨W1.heap.size, 0, none⟩))).run Tryd.prog W2 = .ok (.agg (bcs T)) W2 := load24_any HTL.out HW2.out
    have hl3 : (loadI 44 (.pointer (some ⟨w.heap.size, 0, none⟩))).run Tryd.prog W2 = .ok (.agg (bcs salt)) W2 := load44_any HS.out HN2.out
    have heq : (Op.equalIn 10000 24 (.agg (bcs T)) (.agg #[Value.int .u8 0, Value.int .u8 0, Value.int .u8 0, Value.int .u8 0, Value.int .u8 0, Value.int .u8 0, Value.int .u8 0, Value.int .u8 0, Value.int .u8 0, Value.int .u8 0, Value.int .u8 0, Value.int .u8 0, Value.int .u8 0, Value.int .u8 0, Value.int .u8 0, Value.int .u8 0, Value.int .u8 0, Value.int .u8 0, Value.int .u8 0, Value.int .u8 0, Value.int .u8 0, Value.int .u8 0, Value.int .u8 0, Value.int .u8 0, Value.int .u8 0, Value.int .u8 0, Value.int .u8 0, Value.int .u8 0, Value.int .u8 0, Value.int .u8 0, Value.int .u8 0, Value.int .u8 0])).run Tryd.prog W2 = .ok true W2 := by
      rw [HTZ.out]; exact eq24 (zer 32) (zer_len 32) W2
    go_wp2_with fail
    refine (HCH.out _).mono ?_
    rintro e V1 ⟨rfl, hV1⟩
    rw [hV1]
    clear hV1
    go_wp2_with fail
    refine (HM1.out _ (HT.out.below HB2.out hT1)).mono ?_
    rintro e V2 ⟨rfl, hv2⟩
    have HV2 := hid (HB2.out.trans (hv2.mono hz2))
    clear hv2
    go_wp2_with fail
    refine (HAW.out _ (HT.out.below HV2.out hT1)).mono ?_
    rintro e V3 ⟨rfl, hv3⟩
    have HV3 := hid (HV2.out.trans (hv3.mono HV2.out.size))
    clear hv3
    go_wp2_with fail
    go_ret
    exact ⟨rfl, HV3.out⟩
  · by_cases hlo : (128 : Int) < (s.size : Int)
    · have hE : errNo s = 3 := by unfold errNo; rw [if_neg (by omega), if_pos (by omega)]
      obtain ⟨T, hTe⟩ : ∃ T, stored salt s = T := ⟨_, rfl⟩
      have HTL : Hid (T.length = 32) := by show _ = _; rw [← hTe]; exact stored_len salt s
      have HTZ : Hid (T = zer 32) := by show _ = _; rw [← hTe]; unfold stored; rw [hE]; rfl
      have HM1 : Hid (∀ W, TabS W → Calls Tryd.prog 25 #[.agg (bcs salt), .string s, .agg (bcs T)] W fun e w' => e = .returned (.bool false) ∧ Below W.heap.size W w') := fun W h => match_any salt HS.out s T HTL.out W h false (by rw [hE]; simp)
      have HST : Hid (∀ W, TabS W → Calls Tryd.prog 23 #[.agg (bcs salt), .string s] W fun e w' => e = .returned (.tuple #[.agg (bcs T), .int .i64 3]) ∧ Below W.heap.size W w') := fun W h => by have := store_any salt HS.out s W h; rw [hE, hTe] at this; exact this
      have HCH : Hid (∀ W, Calls Tryd.prog 24 #[.string s] W fun e w' => e = .returned (.int .i64 3) ∧ w' = W) := fun W => check_any s W _ hE.symm
      have HI := hid (size24' T HTL.out)
      have HO := hid (bvs_one T)
      clear hE hTe
      go_enter Tryd.func8, Tryd.ntmps8
      go_wp2_with fail
      refine (HST.out _ (HT.out.below (HB0.out _) hT1)).mono ?_
      rintro e W1 ⟨rfl, hb1⟩
      have HN1 : Hid (W1.heap[w.heap.size]? = some (.cells (bcs salt) 44 (0, 0))) := (hb1.block _ (by simp)).trans (heap_alloc_new w _)
      have HB1 := hid ((HB0.out _).trans (hb1.mono (by simp)))
      have hz1 : w.heap.size < W1.heap.size := (Array.getElem?_eq_some_iff.1 HN1.out).1
      clear hb1 HST hl0
      go_wp2_with (refine wpList_store_abs rfl 24 (.tmp 7) (.tmp 24) rfl W1.heap.size 0 (bcs T) rfl rfl 24 _ (heap_alloc_new W1 _) (by rw [bcs_size, HTL.out]; exact Nat.le_refl 32) HI.out HO.out ?_; intro W2 hO2 hW2)
      rw [over_bytes _ T (by rw [HTL.out]; rfl)] at hW2
      have HW2 := hid hW2
      have HN2 : Hid (W2.heap[w.heap.size]? = some (.cells (bcs salt) 44 (0, 0))) := by show _ = _; rw [hO2.block _ (by omega), Below.heap_alloc W1 _ _ hz1]; exact HN1.out
      have HB2 : Hid (Below w.heap.size w W2) := (HB1.out.alloc (by omega) _).trans (hO2.below (by omega))
      have hz2 := HB2.out.size
      clear hO2 hW2 HB1 HN1
      have hl7 : (loadI 24 (.pointer (some ⟨W1.heap.size, 0, none⟩))).run Tryd.prog W2 = .ok (.agg (bcs T)) W2 := load24_any HTL.out HW2.out
      have hl3 : (loadI 44 (.pointer (some ⟨w.heap.size, 0, none⟩))).run Tryd.prog W2 = .ok (.agg (bcs salt)) W2 := load44_any HS.out HN2.out
      have heq : (Op.equalIn 10000 24 (.agg (bcs T)) (.agg #[Value.int .u8 0, Value.int .u8 0, Value.int .u8 0, Value.int .u8 0, Value.int .u8 0, Value.int .u8 0, Value.int .u8 0, Value.int .u8 0, Value.int .u8 0, Value.int .u8 0, Value.int .u8 0, Value.int .u8 0, Value.int .u8 0, Value.int .u8 0, Value.int .u8 0, Value.int .u8 0, Value.int .u8 0, Value.int .u8 0, Value.int .u8 0, Value.int .u8 0, Value.int .u8 0, Value.int .u8 0, Value.int .u8 0, Value.int .u8 0, Value.int .u8 0, Value.int .u8 0, Value.int .u8 0, Value.int .u8 0, Value.int .u8 0, Value.int .u8 0, Value.int .u8 0, Value.int .u8 0])).run Tryd.prog W2 = .ok true W2 := by
        rw [HTZ.out]; exact eq24 (zer 32) (zer_len 32) W2
      go_wp2_with fail
      refine (HCH.out _).mono ?_
      rintro e V1 ⟨rfl, hV1⟩
      rw [hV1]
      clear hV1
      go_wp2_with fail
      refine (HM1.out _ (HT.out.below HB2.out hT1)).mono ?_
      rintro e V2 ⟨rfl, hv2⟩
      have HV2 := hid (HB2.out.trans (hv2.mono hz2))
      clear hv2
      go_wp2_with fail
      refine (HAW.out _ (HT.out.below HV2.out hT1)).mono ?_
      rintro e V3 ⟨rfl, hv3⟩
      have HV3 := hid (HV2.out.trans (hv3.mono HV2.out.size))
      clear hv3
      go_wp2_with fail
      go_ret
      exact ⟨rfl, HV3.out⟩
    · have hE : errNo s = 0 := by unfold errNo; rw [if_neg (by omega), if_neg (by omega)]
      obtain ⟨T, hTe⟩ : ∃ T, stored salt s = T := ⟨_, rfl⟩
      have HTL : Hid (T.length = 32) := by show _ = _; rw [← hTe]; exact stored_len salt s
      have hTh : T = hmac salt s.data.toList := by rw [← hTe]; unfold stored; rw [if_pos hE]
      have HM1 : Hid (∀ W, TabS W → Calls Tryd.prog 25 #[.agg (bcs salt), .string s, .agg (bcs T)] W fun e w' => e = .returned (.bool true) ∧ Below W.heap.size W w') := fun W h => match_any salt HS.out s T HTL.out W h true (by rw [hE, hTe]; simp)
      have HRF : Hid (∀ (x : ByteArray) W g h c, x.size ≤ 2000 → W.heap[g]? = some (.cells (bcs salt) 44 (0, 0)) → BytesAt W (some ⟨h, 0, none⟩) x.data.toList → Calls Tryd.prog 21 #[.slice (some ⟨g, 0, none⟩) 16 16, .slice (some ⟨h, 0, none⟩) x.size c] W fun e w' => e = .returned (.agg (bcs (hmac salt x.data.toList))) ∧ Below W.heap.size W w') := fun x W g h c h0 h1 h2 => by
        have := refMac_any salt x.data.toList (some ⟨g, 0, none⟩) (some ⟨h, 0, none⟩) 16 c W (BytesAt.of_row h1) h2 (by rw [HS.out]; omega) (by rw [ba_len]; omega)
        rw [HS.out, ba_len] at this
        exact this
      have HRF1 : Hid (∀ W g h c, W.heap[g]? = some (.cells (bcs salt) 44 (0, 0)) → BytesAt W (some ⟨h, 0, none⟩) s.data.toList → Calls Tryd.prog 21 #[.slice (some ⟨g, 0, none⟩) 16 16, .slice (some ⟨h, 0, none⟩) s.size c] W fun e w' => e = .returned (.agg (bcs T)) ∧ Below W.heap.size W w') := fun W g h c h1 h2 => by rw [hTh]; exact HRF.out s W g h c (by omega) h1 h2
      have HST : Hid (∀ W, TabS W → Calls Tryd.prog 23 #[.agg (bcs salt), .string s] W fun e w' => e = .returned (.tuple #[.agg (bcs T), .int .i64 0]) ∧ Below W.heap.size W w') := fun W h => by have := store_any salt HS.out s W h; rw [hE, hTe] at this; exact this
      have HCH : Hid (∀ W, Calls Tryd.prog 24 #[.string s] W fun e w' => e = .returned (.int .i64 0) ∧ w' = W) := fun W => check_any s W _ hE.symm
      have HI := hid (size24' T HTL.out)
      have HO := hid (bvs_one T)
      clear hE hTe hTh
      go_enter Tryd.func8, Tryd.ntmps8
      go_wp2_with fail
      refine (HST.out _ (HT.out.below (HB0.out _) hT1)).mono ?_
      rintro e W1 ⟨rfl, hb1⟩
      have HN1 : Hid (W1.heap[w.heap.size]? = some (.cells (bcs salt) 44 (0, 0))) := (hb1.block _ (by simp)).trans (heap_alloc_new w _)
      have HB1 := hid ((HB0.out _).trans (hb1.mono (by simp)))
      have hz1 : w.heap.size < W1.heap.size := (Array.getElem?_eq_some_iff.1 HN1.out).1
      clear hb1 HST hl0
      go_wp2_with (refine wpList_store_abs rfl 24 (.tmp 7) (.tmp 24) rfl W1.heap.size 0 (bcs T) rfl rfl 24 _ (heap_alloc_new W1 _) (by rw [bcs_size, HTL.out]; exact Nat.le_refl 32) HI.out HO.out ?_; intro W2 hO2 hW2; obtain ⟨c3, W3, hcv, hba, hb3, hc3⟩ := conv_in W2 s)
      rw [over_bytes _ T (by rw [HTL.out]; rfl)] at hW2
      have HW2 := hid hW2
      have HN2 : Hid (W2.heap[w.heap.size]? = some (.cells (bcs salt) 44 (0, 0))) := by show _ = _; rw [hO2.block _ (by omega), Below.heap_alloc W1 _ _ hz1]; exact HN1.out
      have HB2 : Hid (Below w.heap.size w W2) := (HB1.out.alloc (by omega) _).trans (hO2.below (by omega))
      have hz2 := HB2.out.size
      clear hO2 hW2 HB1 HN1
      have HBA := hid hba
      have HB3 := hid hb3
      have hz3 := hb3.size
      have hP2 : W1.heap.size < W2.heap.size := (Array.getElem?_eq_some_iff.1 HW2.out).1
      clear hba hb3 hc3
      refine (HRF1.out _ _ _ _ ((HB3.out.block _ (by omega)).trans HN2.out) HBA.out).mono ?_
      rintro e W4 ⟨rfl, hb4⟩
      have hz4 := hb4.size
      have HN4 := hid ((hb4.block w.heap.size (by omega)).trans ((HB3.out.block _ (by omega)).trans HN2.out))
      have HP4 := hid ((hb4.block W1.heap.size (by omega)).trans ((HB3.out.block _ hP2).trans HW2.out))
      have HB4 := hid ((HB2.out.trans (HB3.out.mono hz2)).trans (hb4.mono (by omega)))
      clear hb4 hcv HBA HB3 HRF1 HB2 HN2 HW2
      go_wp2_with (refine wpList_store_abs rfl 24 (.tmp 9) (.tmp 79) rfl W4.heap.size 0 (bcs T) rfl rfl 24 _ (heap_alloc_new W4 _) (by rw [bcs_size, HTL.out]; exact Nat.le_refl 32) HI.out HO.out ?_; intro W5 hO5 hW5)
      rw [over_bytes _ T (by rw [HTL.out]; rfl)] at hW5
      have HQ5 := hid hW5
      have HN5 : Hid (W5.heap[w.heap.size]? = some (.cells (bcs salt) 44 (0, 0))) := by show _ = _; rw [hO5.block _ (by omega), Below.heap_alloc W4 _ _ (by omega)]; exact HN4.out
      have HP5 : Hid (W5.heap[W1.heap.size]? = some (.cells (bcs T) 24 (0, 0))) := by show _ = _; rw [hO5.block _ (by omega), Below.heap_alloc W4 _ _ (by omega)]; exact HP4.out
      have HB5 : Hid (Below w.heap.size w W5) := (HB4.out.alloc (by omega) _).trans (hO5.below (by omega))
      have hz5 : W4.heap.size < W5.heap.size := (Array.getElem?_eq_some_iff.1 HQ5.out).1
      have hP5 : W1.heap.size < W5.heap.size := (Array.getElem?_eq_some_iff.1 HP5.out).1
      clear hO5 hW5 HB4 HN4 HP4
      obtain ⟨Q, hQ⟩ : ∃ Q, Q = W4.heap.size := ⟨_, rfl⟩
      rw [← hQ] at HQ5 hz5 ⊢
      clear hQ
      by_cases heo : errNo o = 0
      · obtain ⟨D2, hD2⟩ : ∃ D, D = hmac salt o.data.toList := ⟨_, rfl⟩
        have HD2L : Hid (D2.length = 32) := by show _ = _; rw [hD2]; exact hmac_len _ _
        obtain ⟨u, hu⟩ : ∃ u, Hid (u = decide (D2 = T)) := ⟨_, rfl⟩
        have HM2 : Hid (∀ W, TabS W → Calls Tryd.prog 25 #[.agg (bcs salt), .string o, .agg (bcs T)] W fun e w' => e = .returned (.bool u) ∧ Below W.heap.size W w') := fun W h => match_any salt HS.out o T HTL.out W h u (by
          rw [hu.out]; apply decide_eq_decide.2
          have : stored salt o = D2 := by unfold stored; rw [if_pos heo, hD2]
          rw [this]; simp [heo])
        have HSE : Hid (∀ W, Calls Tryd.prog 26 #[.string o] W fun e w' => e = .returned (.bool true) ∧ w' = W) := fun W => secret_any o W true (by rw [heo]; rfl)
        have HRF2 : Hid (∀ W g h c, W.heap[g]? = some (.cells (bcs salt) 44 (0, 0)) → BytesAt W (some ⟨h, 0, none⟩) o.data.toList → Calls Tryd.prog 21 #[.slice (some ⟨g, 0, none⟩) 16 16, .slice (some ⟨h, 0, none⟩) o.size c] W fun e w' => e = .returned (.agg (bcs D2)) ∧ Below W.heap.size W w') := fun W g h c h1 h2 => by rw [hD2]; exact HRF.out o W g h c (by omega) h1 h2
        clear heo hD2 HRF
        obtain ⟨c6, W6, hcv, hba, hb6, hc6⟩ := conv_in W5.drew o
        have hcv6 : (convert 9 22 (.string o)).run Tryd.prog W5.drew = .ok (.slice (some ⟨W5.heap.size, 0, none⟩) o.size c6) W6 := hcv
        have HBA6 : Hid (BytesAt W6 (some ⟨W5.heap.size, 0, none⟩) o.data.toList) := hba
        have HB6 : Hid (Below W5.heap.size W5.drew W6) := hb6
        have hz6 : W5.heap.size ≤ W6.heap.size := hb6.size
        have HN6 : Hid (W6.heap[w.heap.size]? = some (.cells (bcs salt) 44 (0, 0))) := (HB6.out.block _ (by omega)).trans (by exact HN5.out)
        have HP6 : Hid (W6.heap[W1.heap.size]? = some (.cells (bcs T) 24 (0, 0))) := (HB6.out.block _ (by omega)).trans (by exact HP5.out)
        have HQ6 : Hid (W6.heap[Q]? = some (.cells (bcs T) 24 (0, 0))) := (HB6.out.block _ (by omega)).trans (by exact HQ5.out)
        have HBB6 : Hid (Below w.heap.size w W6) := (HB5.out.trans (below_drewN _ W5 1)).trans (HB6.out.mono (by omega))
        have hq5 : (loadI 24 (.pointer (some ⟨Q, 0, none⟩))).run Tryd.prog W5.drew = .ok (.agg (bcs T)) W5.drew := load24_any HTL.out (by exact HQ5.out)
        have hq6 : (loadI 24 (.pointer (some ⟨Q, 0, none⟩))).run Tryd.prog W6 = .ok (.agg (bcs T)) W6 := load24_any HTL.out HQ6.out
        have H7 : Hid (∀ W7, Below W6.heap.size W6 W7 → (loadI 24 (.pointer (some ⟨Q, 0, none⟩))).run Tryd.prog W7 = .ok (.agg (bcs T)) W7 ∧ (Op.equalIn 10000 24 (.agg (bcs D2)) (.agg (bcs T))).run Tryd.prog W7 = .ok u W7) := fun W7 h => ⟨load24_any HTL.out ((h.block Q (by omega)).trans HQ6.out), by rw [hu.out]; exact eq24' D2 T HD2L.out HTL.out W7⟩
        clear hcv hba hb6 hc6
        go_wp2_with fail
        go_region_with ((first
          | (go_at_call 26; refine (HSE.out _).mono ?_; rintro e w1 ⟨rfl, rfl⟩)
          | (go_at_call 21; refine (HRF2.out _ _ _ _ HN6.out HBA6.out).mono ?_; rintro e W7 ⟨rfl, hb7⟩; have HB77 := hid hb7; obtain ⟨hq7, he7⟩ := H7.out W7 hb7; clear hb7)))
        all_goals
          have HN7 := hid ((HB77.out.block w.heap.size (by omega)).trans HN6.out)
          have HP7 := hid ((HB77.out.block W1.heap.size (by omega)).trans HP6.out)
          have HQ7 := hid ((HB77.out.block Q (by omega)).trans HQ6.out)
          have HB7 := hid (HBB6.out.trans (HB77.out.mono (by omega)))
          clear hq5 hq6 hq7 he7 hcv6
          have hl7 : (loadI 24 (.pointer (some ⟨W1.heap.size, 0, none⟩))).run Tryd.prog W7 = .ok (.agg (bcs T)) W7 := load24_any HTL.out HP7.out
          have hl9 : (loadI 24 (.pointer (some ⟨Q, 0, none⟩))).run Tryd.prog W7 = .ok (.agg (bcs T)) W7 := load24_any HTL.out HQ7.out
          have hl3 : (loadI 44 (.pointer (some ⟨w.heap.size, 0, none⟩))).run Tryd.prog W7 = .ok (.agg (bcs salt)) W7 := load44_any HS.out HN7.out
          have heq : (Op.equalIn 10000 24 (.agg (bcs T)) (.agg (bcs T))).run Tryd.prog W7 = .ok true W7 := eq24 T HTL.out W7
          have HBV : Hid (Below w.heap.size w W7) := HB7.out
          have HPV : Hid ((W7).heap[W1.heap.size]? = some (.cells (bcs T) 24 (0, 0))) := HP7.out
          have HNV : Hid ((W7).heap[w.heap.size]? = some (.cells (bcs salt) 44 (0, 0))) := HN7.out
          have hzV : W1.heap.size < (W7).heap.size := (Array.getElem?_eq_some_iff.1 HPV.out).1
          go_wp2_with fail
          refine (HCH.out _).mono ?_
          rintro e V1 ⟨rfl, hV1⟩
          rw [hV1]
          clear hV1
          go_wp2_with fail
          refine (HM1.out _ (HT.out.below HBV.out hT1)).mono ?_
          rintro e V2 ⟨rfl, hv2⟩
          have HP2 := hid ((hv2.block W1.heap.size hzV).trans HPV.out)
          have HN2' := hid ((hv2.block w.heap.size (by omega)).trans HNV.out)
          have HV2 := hid (HBV.out.trans (hv2.mono (by omega)))
          clear hv2 hl7 hl9 hl3 heq
          have hl7 : (loadI 24 (.pointer (some ⟨W1.heap.size, 0, none⟩))).run Tryd.prog V2 = .ok (.agg (bcs T)) V2 := load24_any HTL.out HP2.out
          have hl3 : (loadI 44 (.pointer (some ⟨w.heap.size, 0, none⟩))).run Tryd.prog V2 = .ok (.agg (bcs salt)) V2 := load44_any HS.out HN2'.out
          go_wp2_with fail
          refine (HM2.out _ (HT.out.below HV2.out hT1)).mono ?_
          rintro e V3 ⟨rfl, hv3⟩
          have HV3 := hid (HV2.out.trans (hv3.mono HV2.out.size))
          clear hv3
          go_wp2_with fail
          refine (HAW.out _ (HT.out.below HV3.out hT1)).mono ?_
          rintro e V4 ⟨rfl, hv4⟩
          have HV4 := hid (HV3.out.trans (hv4.mono HV3.out.size))
          clear hv4
          go_wp2_with fail
          go_ret
          exact ⟨rfl, HV4.out⟩
      · have HM2 : Hid (∀ W, TabS W → Calls Tryd.prog 25 #[.agg (bcs salt), .string o, .agg (bcs T)] W fun e w' => e = .returned (.bool false) ∧ Below W.heap.size W w') := fun W h => match_any salt HS.out o T HTL.out W h false (by simp [heo])
        have HSE : Hid (∀ W, Calls Tryd.prog 26 #[.string o] W fun e w' => e = .returned (.bool false) ∧ w' = W) := fun W => secret_any o W false (by simp [heo])
        clear heo HRF
        go_wp2_with fail
        go_quiet ((go_at_call 26; exact Calls.quiet_of_same (HSE.out _)))
        have HP5' : Hid ((W5.drewN nq).heap[W1.heap.size]? = some (.cells (bcs T) 24 (0, 0))) := HP5.out
        have HQ5' : Hid ((W5.drewN nq).heap[Q]? = some (.cells (bcs T) 24 (0, 0))) := HQ5.out
        have HN5' : Hid ((W5.drewN nq).heap[w.heap.size]? = some (.cells (bcs salt) 44 (0, 0))) := HN5.out
        have HB5' : Hid (Below w.heap.size w (W5.drewN nq)) := HB5.out.trans (below_drewN _ _ _)
        generalize W5.drewN nq = V5 at HP5' HQ5' HN5' HB5' ⊢
        have hl7 : (loadI 24 (.pointer (some ⟨W1.heap.size, 0, none⟩))).run Tryd.prog V5 = .ok (.agg (bcs T)) V5 := load24_any HTL.out HP5'.out
        have hl9 : (loadI 24 (.pointer (some ⟨Q, 0, none⟩))).run Tryd.prog V5 = .ok (.agg (bcs T)) V5 := load24_any HTL.out HQ5'.out
        have hl3 : (loadI 44 (.pointer (some ⟨w.heap.size, 0, none⟩))).run Tryd.prog V5 = .ok (.agg (bcs salt)) V5 := load44_any HS.out HN5'.out
        have heq : (Op.equalIn 10000 24 (.agg (bcs T)) (.agg (bcs T))).run Tryd.prog V5 = .ok true V5 := eq24 T HTL.out V5
        have HBV : Hid (Below w.heap.size w V5) := HB5'.out
        have HPV : Hid (V5.heap[W1.heap.size]? = some (.cells (bcs T) 24 (0, 0))) := HP5'.out
        have HNV : Hid (V5.heap[w.heap.size]? = some (.cells (bcs salt) 44 (0, 0))) := HN5'.out
        have hzV : W1.heap.size < V5.heap.size := (Array.getElem?_eq_some_iff.1 HPV.out).1
        go_wp2_with fail
        refine (HCH.out _).mono ?_
        rintro e V1 ⟨rfl, hV1⟩
        rw [hV1]
        clear hV1
        go_wp2_with fail
        refine (HM1.out _ (HT.out.below HBV.out hT1)).mono ?_
        rintro e V2 ⟨rfl, hv2⟩
        have HP2 := hid ((hv2.block W1.heap.size hzV).trans HPV.out)
        have HN2' := hid ((hv2.block w.heap.size (by omega)).trans HNV.out)
        have HV2 := hid (HBV.out.trans (hv2.mono (by omega)))
        clear hv2 hl7 hl9 hl3 heq
        have hl7 : (loadI 24 (.pointer (some ⟨W1.heap.size, 0, none⟩))).run Tryd.prog V2 = .ok (.agg (bcs T)) V2 := load24_any HTL.out HP2.out
        have hl3 : (loadI 44 (.pointer (some ⟨w.heap.size, 0, none⟩))).run Tryd.prog V2 = .ok (.agg (bcs salt)) V2 := load44_any HS.out HN2'.out
        go_wp2_with fail
        refine (HM2.out _ (HT.out.below HV2.out hT1)).mono ?_
        rintro e V3 ⟨rfl, hv3⟩
        have HV3 := hid (HV2.out.trans (hv3.mono HV2.out.size))
        clear hv3
        go_wp2_with fail
        refine (HAW.out _ (HT.out.below HV3.out hT1)).mono ?_
        rintro e V4 ⟨rfl, hv4⟩
        have HV4 := hid (HV3.out.trans (hv4.mono HV3.out.size))
        clear hv4
        go_wp2_with fail
        go_ret
        exact ⟨rfl, HV4.out⟩

end Go.Proofs.YtfiacflggiccaaaDoor
