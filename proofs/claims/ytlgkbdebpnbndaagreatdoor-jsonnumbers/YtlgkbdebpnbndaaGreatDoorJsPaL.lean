
/- The law JsonParses, given what the reference's value does. -/
import Derived.Test.YtlgkbdebpnbndaaGreatDoorJsSaL
import Derived.Test.YtlgkbdebpnbndaaGreatDoorJsWtP
import Derived.Test.YtlgkbdebpnbndaaGreatDoorJsRP3
namespace Go.Proofs.YtlgkbdebpnbndaaGreatDoor
set_option linter.unusedVariables false
set_option linter.unusedSimpArgs false
open Go.RowKit Go.BigFrame
attribute [local go_sem ↓] buildV_eq loadV_eq

theorem VAt.anyP {P : Nat → Prop} {d : Nat} {w : World} {cs : Array Value} {t : VJ d} (h : VAt P d w cs t) : VAt (fun _ => True) d w cs t := h.mono fun _ _ _ => trivial
theorem vzeroP (w : World) : VAt (fun _ => True) 40 w #[.int .i64 0, .int .i64 0, .string ⟨#[]⟩, .slice none 0 0, .slice none 0 0] (leafJ 40 zeroL) := VAt.mk0 (l := zeroL) (kA := none) (kc := 0) (nA := none) (nc := 0) (NmsP.nil _ _ _)
set_option maxRecDepth 100000 in
theorem parse_big (F : Nat) (l : List UInt8) (w : World) (h1 : 65536 < l.length) : Calls Tryz.prog 14 #[.string (asS l)] w (ParP l w) := by
  have hz : (asS l).size = l.length := asS_size l
  have HE : Hid (parJ l = .error 3) := by
    show _ = _
    unfold parJ
    rw [if_pos h1]
  generalize asS l = S at hz ⊢
  have hbu : ∀ W, (buildI 25 #[]).run Tryz.prog W = .ok (.agg #[.int .i64 0, .int .i64 0, .string ⟨#[]⟩, .slice none 0 0, .slice none 0 0]) W := fun W => run_build W 25 _ _ built_vz
  have HB := hid ((((Below.refl w.heap.size w).alloc (Nat.le_refl _) (.cells #[.string S] 9)).alloc (by show _ ≤ (Array.push _ _).size; rw [Array.size_push]; omega) (.cells #[.int .i64 0, .int .i64 0, .string ⟨#[]⟩, .slice none 0 0, .slice none 0 0] 25)))
  have HQ := hid (heap_second w (.cells #[.string S] 9 (0, 0)) (.cells #[.int .i64 0, .int .i64 0, .string ⟨#[]⟩, .slice none 0 0, .slice none 0 0] 25 (0, 0)))
  have hi : (65536 : Int) < (l.length : Int) := by omega
  go_enter Tryz.func14, Tryz.ntmps14
  go_wp2_with (first
    | (refine wpList_store_abs rfl 25 (.tmp 2) (.tmp 9) rfl (w.heap.size + 1) 0 #[.int .i64 0, .int .i64 0, .string ⟨#[]⟩, .slice none 0 0, .slice none 0 0] rfl rfl 25 _ HQ.out (Nat.le_refl 5) infoVj (vcs_all _ _ _ _ _ _ _ _ _) ?_; intro W9 hO9 hW9)
    | fail)
  rw [over_whole #[.int .i64 0, .int .i64 0, .string ⟨#[]⟩, .slice none 0 0, .slice none 0 0] #[.int .i64 0, .int .i64 0, .string ⟨#[]⟩, .slice none 0 0, .slice none 0 0] rfl] at hW9
  exact bodyPost_ret (ret_v2 (p := 2) (q := 3) Tryz.results14 _ _ (w.heap.size + 1) _ rfl (0, 0) _ rfl rfl hW9) rfl (ParP.err HE.out (HB.out.trans (hO9.below (by omega))))
set_option maxRecDepth 100000 in
theorem refParse_big (l : List UInt8) (w : World) (h1 : 65536 < l.length) : Calls Tryz.prog 17 #[.string (asS l)] w (ParP l w) := by
  have hz : (asS l).size = l.length := asS_size l
  have HE : Hid (parJ l = .error 3) := by
    show _ = _
    unfold parJ
    rw [if_pos h1]
  generalize asS l = S at hz ⊢
  have hbu : ∀ W, (buildI 25 #[]).run Tryz.prog W = .ok (.agg #[.int .i64 0, .int .i64 0, .string ⟨#[]⟩, .slice none 0 0, .slice none 0 0]) W := fun W => run_build W 25 _ _ built_vz
  have HB := hid ((Below.refl w.heap.size w).alloc (Nat.le_refl _) (.cells #[.int .i64 0, .int .i64 0, .string ⟨#[]⟩, .slice none 0 0, .slice none 0 0] 25))
  have HQ := hid (heap_alloc_new w (.cells #[.int .i64 0, .int .i64 0, .string ⟨#[]⟩, .slice none 0 0, .slice none 0 0] 25 (0, 0)))
  have hi : (65536 : Int) < (l.length : Int) := by omega
  go_enter Tryz.func17, Tryz.ntmps17
  go_wp2_with (first
    | (refine wpList_store_abs rfl 25 (.tmp 2) (.tmp 9) rfl w.heap.size 0 #[.int .i64 0, .int .i64 0, .string ⟨#[]⟩, .slice none 0 0, .slice none 0 0] rfl rfl 25 _ HQ.out (Nat.le_refl 5) infoVj (vcs_all _ _ _ _ _ _ _ _ _) ?_; intro W9 hO9 hW9)
    | fail)
  rw [over_whole #[.int .i64 0, .int .i64 0, .string ⟨#[]⟩, .slice none 0 0, .slice none 0 0] #[.int .i64 0, .int .i64 0, .string ⟨#[]⟩, .slice none 0 0, .slice none 0 0] rfl] at hW9
  exact bodyPost_ret (ret_v2 (p := 2) (q := 3) Tryz.results17 _ _ w.heap.size _ rfl (0, 0) _ rfl rfl hW9) rfl (ParP.err HE.out (HB.out.trans (hO9.below (by omega))))
/-- The reference's Parse, of whatever text. -/
theorem refParse_any (HVAL : ValQOk 40 0) (l : List UInt8) (w : World) : Calls Tryz.prog 17 #[.string (asS l)] w (ParP l w) := by
  by_cases h1 : 65536 < l.length
  · exact refParse_big l w h1
  · cases hv : V l with
    | false => exact refParse_no l 5 w (by omega) (by unfold parJ; rw [if_neg h1, hv]; rfl) (.inr ⟨h1, hv, rfl⟩)
    | true => exact refParse_yes HVAL l w (by omega) hv
theorem parseP_any (l : List UInt8) (w : World) (hT : TabX w) : Calls Tryz.prog 14 #[.string (asS l)] w (ParP l w) := by
  by_cases h1 : 65536 < l.length
  · exact parse_big 0 l w h1
  · exact parse_j l w (by omega) hT.2 hT.1
/-- Both answer alike: a tree that both hold, or an error and nothing. -/
theorem parP_both (l : List UInt8) : ∃ (t : VJ 40) (k : Nat), wtJ 40 t ≤ 100000 ∧ ∀ w x w', ParP l w x w' → (∃ cs, x = .returned (.tuple #[.agg cs, .int .i64 k]) ∧ Hid (VAt (fun _ => True) 40 w' cs t)) ∧ Below w.heap.size w w' := by
  cases hp : parJ l with
  | error k => exact ⟨leafJ 40 zeroL, k, by decide, fun w x w' hh => ⟨⟨_, hh.2.1 k hp, vzeroP w'⟩, hh.2.2⟩⟩
  | ok t =>
    have hw := par_wtJ hp
    have hl : l.length ≤ 65536 := by
      unfold parJ at hp
      split at hp
      · cases hp
      · omega
    refine ⟨t, 0, by omega, fun w x w' hh => ?_⟩
    obtain ⟨cs, h1, h2⟩ := hh.1 t hp
    exact ⟨⟨cs, h1, h2.anyP⟩, hh.2.2⟩
set_option maxHeartbeats 8000000 in
set_option maxRecDepth 100000 in
theorem parses_law (HVAL : ValQOk 40 0) (a : ByteArray) (w : World) (hT : TabX w) : Calls Tryz.prog 4 #[.string a] w fun e w' => e = .returned (.bool true) ∧ Below w.heap.size w w' := by
  obtain ⟨l, hl⟩ : ∃ l : List UInt8, asS l = a := ⟨a.data.toList, asS_back a⟩
  have HAW := hid (fun W (hb : Below w.heap.size w W) => awake16 W (Nat.lt_of_lt_of_le hT.2 hb.size) (hT.1.below hb))
  obtain ⟨t, k, hwt, hpp⟩ := parP_both l
  have HP := hid (fun W (hb : Below w.heap.size w W) => (parseP_any l W ⟨hT.1.below hb, Nat.lt_of_lt_of_le hT.2 hb.size⟩).mono fun x w' hh => hpp W x w' hh)
  have HR := hid (fun W => (refParse_any HVAL l W).mono fun x w' hh => hpp W x w' hh)
  have HS : Hid (∀ cx cy W, VAt (fun _ => True) 40 W cx t → VAt (fun _ => True) 40 W cy t → Calls Tryz.prog 15 #[.agg cx, .agg cy] W fun x w' => x = .returned (.bool true) ∧ Below W.heap.size W w') := fun cx cy W h1 h2 => (sameR_any 40 _ _ hwt hwt _ _ cx cy W h1 h2).mono fun e w' hh => ⟨by rw [hh.1, eqJ_yes rfl], hh.2⟩
  have hz : a.size = l.length := by rw [← hl]; exact asS_size l
  rw [hl] at HP HR
  clear hpp hwt hT HVAL hl
  have hself : ((k : Int) == (k : Int)) = true := by simp
  by_cases h8 : 8000 < a.size ∧ a.size ≤ 65536
  · have i1 : (8000 : Int) < (a.size : Int) := by omega
    have i2 : (a.size : Int) ≤ 65536 := by omega
    have HA := hid (HAW.out w (Below.refl _ _))
    clear hz h8
    go_enter Tryz.func4, Tryz.ntmps4
    go_wp2_with fail
    refine HA.out.mono ?_
    rintro e W1 ⟨rfl, hb⟩
    have HB1 := hid hb
    clear hb
    go_wp2_with fail
    go_ret
    exact ⟨rfl, HB1.out⟩
  · have HGO : Hid (¬ ((8000 : Int) < (a.size : Int) ∧ (a.size : Int) ≤ 65536)) := by show ¬ _; omega
    have HP0 := hid (HP.out w (Below.refl _ _))
    have HCOND : (8000 : Int) < (a.size : Int) → ¬ (a.size : Int) ≤ 65536 := fun h1 h2 => HGO.out ⟨h1, h2⟩
    clear hz h8 HP
    by_cases i1 : (8000 : Int) < (a.size : Int)
    · have i2 := HCOND i1
      have i2' : decide ((a.size : Int) ≤ 65536) = false := decide_eq_false i2
      clear HCOND HGO
      go_enter Tryz.func4, Tryz.ntmps4
      go_wp2_with fail
      refine HP0.out.mono ?_
      rintro e W2 ⟨⟨cx, rfl, HV2⟩, hb⟩
      have HB2 := hid hb
      have HN2 := hid (heap_alloc_new W2 (.cells #[.int .i64 0, .int .i64 0, .string ⟨#[]⟩, .slice none 0 0, .slice none 0 0] 25 (0, 0)))
      have HA2 := hid ((Below.refl W2.heap.size W2).alloc (Nat.le_refl _) (.cells #[.int .i64 0, .int .i64 0, .string ⟨#[]⟩, .slice none 0 0, .slice none 0 0] 25))
      clear hb HP0
      go_wp2_with (first
        | (refine wpList_store_abs rfl 25 (.tmp 3) (.tmp 19) rfl W2.heap.size 0 cx rfl rfl 25 _ HN2.out (by rw [HV2.out.size]; exact Nat.le_refl _) (by rw [HV2.out.size]; exact infoVj) (vcs_one HV2.out) ?_; intro V2 hO hW; rw [over_whole #[.int .i64 0, .int .i64 0, .string ⟨#[]⟩, .slice none 0 0, .slice none 0 0] cx (by rw [HV2.out.size]; rfl)] at hW; have hBW : Below W2.heap.size W2 V2 := HA2.out.trans (hO.below (Nat.le_refl _)); have HBV2 : Hid (Below w.heap.size w V2) := HB2.out.trans (hBW.mono HB2.out.size); have HRX := hid hW; have HVX := hid (HV2.out.below hBW (Nat.le_refl _)); have HR1 := hid (HR.out V2); clear hO hW hBW)
        | fail)
      clear HR HV2 HN2 HA2 HB2
      refine HR1.out.mono ?_
      rintro e W3 ⟨⟨cy, rfl, HV3⟩, hb⟩
      have HB3 := hid (HBV2.out.trans (hb.mono HBV2.out.size))
      have HRX3 := hid (row_keep hb HRX.out)
      have HVX3 := hid (HVX.out.below hb (Nat.le_refl _))
      have HN3 := hid (heap_alloc_new W3 (.cells #[.int .i64 0, .int .i64 0, .string ⟨#[]⟩, .slice none 0 0, .slice none 0 0] 25 (0, 0)))
      have HA3 := hid ((Below.refl W3.heap.size W3).alloc (Nat.le_refl _) (.cells #[.int .i64 0, .int .i64 0, .string ⟨#[]⟩, .slice none 0 0, .slice none 0 0] 25))
      clear hb HR1 HBV2 HRX HVX
      go_wp2_with (first
        | (refine wpList_store_abs rfl 25 (.tmp 5) (.tmp 24) rfl W3.heap.size 0 cy rfl rfl 25 _ HN3.out (by rw [HV3.out.size]; exact Nat.le_refl _) (by rw [HV3.out.size]; exact infoVj) (vcs_one HV3.out) ?_; intro V3 hO hW; rw [over_whole #[.int .i64 0, .int .i64 0, .string ⟨#[]⟩, .slice none 0 0, .slice none 0 0] cy (by rw [HV3.out.size]; rfl)] at hW; have hBW : Below W3.heap.size W3 V3 := HA3.out.trans (hO.below (Nat.le_refl _)); have HBV3 : Hid (Below w.heap.size w V3) := HB3.out.trans (hBW.mono HB3.out.size); have HRXV := hid (row_keep hBW HRX3.out); have HVXV := hid (HVX3.out.below hBW (Nat.le_refl _)); have HRY := hid hW; have HVY := hid (HV3.out.below hBW (Nat.le_refl _)); have HS1 := hid (HS.out cx cy V3 HVXV.out HVY.out); have hldx := loadV_run HRXV.out HVXV.out.size; have hldy := loadV_run HRY.out HVY.out.size; clear hO hW hBW)
        | fail)
      clear HV3 HN3 HA3 HB3 HRX3 HVX3
      refine HS1.out.mono ?_
      rintro e W4 ⟨rfl, hb⟩
      have HB4 := hid (HBV3.out.trans (hb.mono HBV3.out.size))
      have HA4 := hid (HAW.out W4 HB4.out)
      clear hb HS1 HBV3
      go_wp2_with fail
      refine HA4.out.mono ?_
      rintro e W5 ⟨rfl, hb⟩
      have HB5 := hid (HB4.out.trans (hb.mono HB4.out.size))
      clear hb
      go_wp2_with fail
      go_ret
      exact ⟨rfl, HB5.out⟩
    · have i1' : decide ((8000 : Int) < (a.size : Int)) = false := decide_eq_false i1
      clear HCOND HGO
      go_enter Tryz.func4, Tryz.ntmps4
      go_wp2_with fail
      refine HP0.out.mono ?_
      rintro e W2 ⟨⟨cx, rfl, HV2⟩, hb⟩
      have HB2 := hid hb
      have HN2 := hid (heap_alloc_new W2 (.cells #[.int .i64 0, .int .i64 0, .string ⟨#[]⟩, .slice none 0 0, .slice none 0 0] 25 (0, 0)))
      have HA2 := hid ((Below.refl W2.heap.size W2).alloc (Nat.le_refl _) (.cells #[.int .i64 0, .int .i64 0, .string ⟨#[]⟩, .slice none 0 0, .slice none 0 0] 25))
      clear hb HP0
      go_wp2_with (first
        | (refine wpList_store_abs rfl 25 (.tmp 3) (.tmp 19) rfl W2.heap.size 0 cx rfl rfl 25 _ HN2.out (by rw [HV2.out.size]; exact Nat.le_refl _) (by rw [HV2.out.size]; exact infoVj) (vcs_one HV2.out) ?_; intro V2 hO hW; rw [over_whole #[.int .i64 0, .int .i64 0, .string ⟨#[]⟩, .slice none 0 0, .slice none 0 0] cx (by rw [HV2.out.size]; rfl)] at hW; have hBW : Below W2.heap.size W2 V2 := HA2.out.trans (hO.below (Nat.le_refl _)); have HBV2 : Hid (Below w.heap.size w V2) := HB2.out.trans (hBW.mono HB2.out.size); have HRX := hid hW; have HVX := hid (HV2.out.below hBW (Nat.le_refl _)); have HR1 := hid (HR.out V2); clear hO hW hBW)
        | fail)
      clear HR HV2 HN2 HA2 HB2
      refine HR1.out.mono ?_
      rintro e W3 ⟨⟨cy, rfl, HV3⟩, hb⟩
      have HB3 := hid (HBV2.out.trans (hb.mono HBV2.out.size))
      have HRX3 := hid (row_keep hb HRX.out)
      have HVX3 := hid (HVX.out.below hb (Nat.le_refl _))
      have HN3 := hid (heap_alloc_new W3 (.cells #[.int .i64 0, .int .i64 0, .string ⟨#[]⟩, .slice none 0 0, .slice none 0 0] 25 (0, 0)))
      have HA3 := hid ((Below.refl W3.heap.size W3).alloc (Nat.le_refl _) (.cells #[.int .i64 0, .int .i64 0, .string ⟨#[]⟩, .slice none 0 0, .slice none 0 0] 25))
      clear hb HR1 HBV2 HRX HVX
      go_wp2_with (first
        | (refine wpList_store_abs rfl 25 (.tmp 5) (.tmp 24) rfl W3.heap.size 0 cy rfl rfl 25 _ HN3.out (by rw [HV3.out.size]; exact Nat.le_refl _) (by rw [HV3.out.size]; exact infoVj) (vcs_one HV3.out) ?_; intro V3 hO hW; rw [over_whole #[.int .i64 0, .int .i64 0, .string ⟨#[]⟩, .slice none 0 0, .slice none 0 0] cy (by rw [HV3.out.size]; rfl)] at hW; have hBW : Below W3.heap.size W3 V3 := HA3.out.trans (hO.below (Nat.le_refl _)); have HBV3 : Hid (Below w.heap.size w V3) := HB3.out.trans (hBW.mono HB3.out.size); have HRXV := hid (row_keep hBW HRX3.out); have HVXV := hid (HVX3.out.below hBW (Nat.le_refl _)); have HRY := hid hW; have HVY := hid (HV3.out.below hBW (Nat.le_refl _)); have HS1 := hid (HS.out cx cy V3 HVXV.out HVY.out); have hldx := loadV_run HRXV.out HVXV.out.size; have hldy := loadV_run HRY.out HVY.out.size; clear hO hW hBW)
        | fail)
      clear HV3 HN3 HA3 HB3 HRX3 HVX3
      refine HS1.out.mono ?_
      rintro e W4 ⟨rfl, hb⟩
      have HB4 := hid (HBV3.out.trans (hb.mono HBV3.out.size))
      have HA4 := hid (HAW.out W4 HB4.out)
      clear hb HS1 HBV3
      go_wp2_with fail
      refine HA4.out.mono ?_
      rintro e W5 ⟨rfl, hb⟩
      have HB5 := hid (HB4.out.trans (hb.mono HB4.out.size))
      clear hb
      go_wp2_with fail
      go_ret
      exact ⟨rfl, HB5.out⟩
end Go.Proofs.YtlgkbdebpnbndaaGreatDoor
