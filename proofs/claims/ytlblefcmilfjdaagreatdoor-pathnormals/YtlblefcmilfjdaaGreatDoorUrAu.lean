
/- What url.readAuthority does. -/
import Derived.Test.YtlblefcmilfjdaaGreatDoorUrPa
namespace Go.Proofs.YtlblefcmilfjdaaGreatDoor
set_option linter.unusedVariables false
open Go.RowKit Go.BigFrame

theorem lastIx_any (c : UInt8) (l : List UInt8) (hl : l.length ≤ 1000000) (w : World) : Calls Tryz.prog 85 #[.string (asS l), .string ⟨#[c]⟩] w fun e w' => e = .returned (.int .i64 (lastI c l)) ∧ w' = w :=
  Tryz.strings_LastIndex_one (asS l) ⟨#[c]⟩ rfl (by rw [asS_size]; omega) w
theorem ext_front (x y : List UInt8) (c : UInt8) : (asS (x ++ c :: y)).extract 0 x.length = asS x := by
  rw [ext_asS, asS_data]; simp
theorem ext_back (x y : List UInt8) (c : UInt8) : (asS (x ++ c :: y)).extract (x.length + 1) (asS (x ++ c :: y)).size = asS y := by
  rw [ext_asS, asS_data, asS_size]
  rw [List.take_of_length_le (by simp; omega)]
  simp
set_option maxHeartbeats 4000000 in
set_option maxRecDepth 100000 in
/-- The authority is put into a URL's parts. -/
theorem readAuth_any (b : Nat) (u : UrlV) (a : List UInt8) (hl : a.length ≤ 1000000) (w : World) (hb : b < w.heap.size) (hrow : w.heap[b]? = some (.cells (ucs u) 26 (0, 0))) :
    Calls Tryz.prog 90 #[.pointer (some ⟨b, 0, none⟩), .string (asS a)] w fun e w' => e = .returned (.tuple #[]) ∧ w'.heap[b]? = some (.cells (ucs (authU a u)) 26 (0, 0)) ∧ Below b w w' := by
  have HROW := hid hrow
  have HL1 := hid (fun W => lastIx_any 64 a hl W)
  cases hu : lastCut 64 (fun _ => false) a with
  | none =>
    have HB0 : Hid (Below b w w) := Below.refl _ _
    have h1 := user_none a hu
    rw [h1] at HL1
    have HL2 := hid (fun W => lastIx_any 58 a hl W)
    have HL3 := hid (fun W => lastIx_any 93 a hl W)
    cases hp : lastCut 58 (fun c => c == 93) a with
    | none =>
      have h2 := port_none a hp
      have h3 : ¬ lastI 93 a < lastI 58 a := by omega
      generalize lastI 58 a = n1 at HL2 h2 h3
      generalize lastI 93 a = n2 at HL3 h2 h3
      have HQ : Hid (authU a u = { u with host := a }) := by show _ = _; unfold authU; rw [hu]; simp only; rw [hp]
      generalize authU a u = R at HQ ⊢
      generalize hS : asS a = S at HL1 HL2 HL3 ⊢
      have HS := hid hS
      clear hS hu hp h1 hrow h2
      go_enter Tryz.func90, Tryz.ntmps90
      go_wp2_with fail
      refine (HL1.out _).mono ?_
      rintro e W ⟨rfl, rfl⟩
      go_wp2_with (first
        | (refine store_fld rfl 9 _ _ rfl b 3 (.string S) u { u with host := a } rfl rfl info9 (by omega) rfl rfl HROW.out (by rw [← HS.out]; rfl) ?_)
        | fail)
      intro W1 hO1 hW1
      go_wp2_with fail
      refine (HL2.out _).mono ?_
      rintro e W ⟨rfl, rfl⟩
      go_wp2_with fail
      refine (HL3.out _).mono ?_
      rintro e W ⟨rfl, rfl⟩
      go_wp2_with fail
      go_end0
      exact ⟨rfl, by rw [HQ.out]; exact hW1, HB0.out.trans (hO1.below (Nat.le_refl _))⟩
    | some p =>
      obtain ⟨x, y⟩ := p
      obtain ⟨ha, h2, h3⟩ := port_some a x y hp
      have hE1 := ext_front x y 58
      have hE2 := ext_back x y 58
      rw [← ha] at hE1 hE2
      have hz : x.length + 1 ≤ (asS a).size := by rw [asS_size, ha]; simp
      rw [h2] at HL2
      generalize lastI 93 a = n2 at HL3 h3
      have HQ : Hid (authU a u = { u with hasPort := true, port := y, host := x }) := by show _ = _; unfold authU; rw [hu]; simp only; rw [hp]
      generalize authU a u = R at HQ ⊢
      generalize hS : asS a = S at HL1 HL2 HL3 hE1 hE2 hz ⊢
      have HS := hid hS
      generalize x.length = nx at HL2 hE1 hE2 hz h3
      have hz2 : (nx : Int) + 1 ≤ (S.size : Int) := by omega
      have hz3 : S.size ≤ 1000000 := by rw [← hS, asS_size]; exact hl
      have hw64 : wrap64 ((nx : Int) + 1) = (nx : Int) + 1 := by unfold wrap64; omega
      clear hS hu hp h1 hrow h2
      go_enter Tryz.func90, Tryz.ntmps90
      go_wp2_with fail
      refine (HL1.out _).mono ?_
      rintro e W ⟨rfl, rfl⟩
      go_wp2_with (first
        | (refine store_fld rfl 9 _ _ rfl b 3 (.string S) u { u with host := a } rfl rfl info9 (by omega) rfl rfl HROW.out (by rw [← HS.out]; rfl) ?_)
        | fail)
      intro W1 hO1 hW1
      go_wp2_with fail
      refine (HL2.out _).mono ?_
      rintro e W ⟨rfl, rfl⟩
      go_wp2_with fail
      refine (HL3.out _).mono ?_
      rintro e W ⟨rfl, rfl⟩
      have c3 := cellU hW1 3 _ rfl
      have c4 := cellU hW1 4 _ rfl
      have c5 := cellU hW1 5 _ rfl
      have f3 := frozen_of_row W b 3 _ _ hW1
      have f4 := frozen_of_row W b 4 _ _ hW1
      have f5 := frozen_of_row W b 5 _ _ hW1
      have HW1 := hid hW1
      have HO1 := hid (hO1.below (Nat.le_refl b))
      clear hW1 hO1
      go_wp2_with fail
      go_region
      go_end0
      refine ⟨rfl, ?_, ((((HB0.out.trans HO1.out).setCell (Nat.le_refl _) _).setCell (Nat.le_refl _) _).setCell (Nat.le_refl _) _).drew⟩
      rw [HQ.out]
      exact heap_setCell_same _ _ _ _ _ _ (heap_setCell_same _ _ _ _ _ _ (heap_setCell_same _ _ _ _ _ _ HW1.out))
  | some q =>
    obtain ⟨x0, r⟩ := q
    obtain ⟨ha0, h1⟩ := user_some a x0 r hu
    rw [h1] at HL1
    have hr : r.length ≤ 1000000 := by rw [ha0] at hl; simp at hl; omega
    have HL2 := hid (fun W => lastIx_any 58 r hr W)
    have HL3 := hid (fun W => lastIx_any 93 r hr W)
    have g1 := ext_front x0 r 64
    have g2 := ext_back x0 r 64
    rw [← ha0] at g1 g2
    have gz : x0.length + 1 ≤ (asS a).size := by rw [asS_size, ha0]; simp
    have gz3 : (asS a).size ≤ 1000000 := by rw [asS_size]; exact hl
    cases hp : lastCut 58 (fun c => c == 93) r with
    | none =>
      have h2 := port_none r hp
      have h3 : ¬ lastI 93 r < lastI 58 r := by omega
      generalize lastI 58 r = n1 at HL2 h2 h3
      generalize lastI 93 r = n2 at HL3 h2 h3
      have HQ : Hid (authU a u = { u with hasUser := true, user := x0, host := r }) := by show _ = _; unfold authU; rw [hu]; simp only; rw [hp]
      generalize authU a u = R at HQ ⊢
      generalize hS0 : asS a = S0 at HL1 g1 g2 gz gz3 ⊢
      generalize hS : asS r = S at HL2 HL3 g2
      have HS := hid hS
      generalize hT : asS x0 = T at g1
      have HTT := hid hT
      generalize x0.length = n0 at HL1 g1 g2 gz
      have gz2 : (n0 : Int) + 1 ≤ (S0.size : Int) := by omega
      have gw64 : wrap64 ((n0 : Int) + 1) = (n0 : Int) + 1 := by unfold wrap64; omega
      clear hS hS0 hT hu hp h1 hrow h2
      go_enter Tryz.func90, Tryz.ntmps90
      go_wp2_with fail
      refine (HL1.out _).mono ?_
      rintro e W ⟨rfl, rfl⟩
      go_wp2_with (first
        | (refine store_fld rfl 9 _ _ rfl b 1 (.string T) u { u with user := x0 } rfl rfl info9 (by omega) rfl rfl HROW.out (by rw [← HTT.out]; rfl) ?_)
        | fail)
      intro V1 gO1 gV1
      have GV1 := hid gV1
      have GB1 := hid (gO1.below (Nat.le_refl b))
      clear gO1 gV1
      go_wp2_with (first
        | (refine store_fld rfl 4 _ _ rfl b 2 (.bool true) { u with user := x0 } { u with hasUser := true, user := x0 } rfl rfl info4 (by omega) rfl rfl GV1.out rfl ?_)
        | fail)
      intro V2 gO2 gV2
      have GV2 := hid gV2
      have HB0 := hid (GB1.out.trans (gO2.below (Nat.le_refl b)))
      clear gO2 gV2
      generalize hu1 : ({ u with hasUser := true, user := x0 } : UrlV) = u1 at GV2
      have HU1 := hid hu1
      have HQ1 : Hid (R = { u1 with host := r }) := by show _ = _; rw [HQ.out, ← HU1.out]
      clear HQ hu1
      have HQ := HQ1
      clear HQ1
      go_wp2_with (first
        | (refine store_fld rfl 9 _ _ rfl b 3 (.string S) u1 { u1 with host := r } rfl rfl info9 (by omega) rfl rfl GV2.out (by rw [← HS.out]; rfl) ?_)
        | fail)
      intro W1 hO1 hW1
      go_wp2_with fail
      refine (HL2.out _).mono ?_
      rintro e W ⟨rfl, rfl⟩
      go_wp2_with fail
      refine (HL3.out _).mono ?_
      rintro e W ⟨rfl, rfl⟩
      go_wp2_with fail
      go_end0
      exact ⟨rfl, by rw [HQ.out]; exact hW1, HB0.out.trans (hO1.below (Nat.le_refl _))⟩
    | some p =>
      obtain ⟨x, y⟩ := p
      obtain ⟨ha, h2, h3⟩ := port_some r x y hp
      have hE1 := ext_front x y 58
      have hE2 := ext_back x y 58
      rw [← ha] at hE1 hE2
      have hz : x.length + 1 ≤ (asS r).size := by rw [asS_size, ha]; simp
      rw [h2] at HL2
      generalize lastI 93 r = n2 at HL3 h3
      have HQ : Hid (authU a u = { u with hasUser := true, user := x0, hasPort := true, port := y, host := x }) := by show _ = _; unfold authU; rw [hu]; simp only; rw [hp]
      generalize authU a u = R at HQ ⊢
      generalize hS0 : asS a = S0 at HL1 g1 g2 gz gz3 ⊢
      generalize hS : asS r = S at HL2 HL3 g2 hE1 hE2 hz
      have HS := hid hS
      generalize hT : asS x0 = T at g1
      have HTT := hid hT
      generalize x0.length = n0 at HL1 g1 g2 gz
      have gz2 : (n0 : Int) + 1 ≤ (S0.size : Int) := by omega
      have gw64 : wrap64 ((n0 : Int) + 1) = (n0 : Int) + 1 := by unfold wrap64; omega
      generalize x.length = nx at HL2 hE1 hE2 hz h3
      have hz2 : (nx : Int) + 1 ≤ (S.size : Int) := by omega
      have hz3 : S.size ≤ 1000000 := by rw [← hS, asS_size]; exact hr
      have hw64 : wrap64 ((nx : Int) + 1) = (nx : Int) + 1 := by unfold wrap64; omega
      clear hS hS0 hT hu hp h1 hrow h2
      go_enter Tryz.func90, Tryz.ntmps90
      go_wp2_with fail
      refine (HL1.out _).mono ?_
      rintro e W ⟨rfl, rfl⟩
      go_wp2_with (first
        | (refine store_fld rfl 9 _ _ rfl b 1 (.string T) u { u with user := x0 } rfl rfl info9 (by omega) rfl rfl HROW.out (by rw [← HTT.out]; rfl) ?_)
        | fail)
      intro V1 gO1 gV1
      have GV1 := hid gV1
      have GB1 := hid (gO1.below (Nat.le_refl b))
      clear gO1 gV1
      go_wp2_with (first
        | (refine store_fld rfl 4 _ _ rfl b 2 (.bool true) { u with user := x0 } { u with hasUser := true, user := x0 } rfl rfl info4 (by omega) rfl rfl GV1.out rfl ?_)
        | fail)
      intro V2 gO2 gV2
      have GV2 := hid gV2
      have HB0 := hid (GB1.out.trans (gO2.below (Nat.le_refl b)))
      clear gO2 gV2
      generalize hu1 : ({ u with hasUser := true, user := x0 } : UrlV) = u1 at GV2
      have HU1 := hid hu1
      have HQ1 : Hid (R = { u1 with hasPort := true, port := y, host := x }) := by show _ = _; rw [HQ.out, ← HU1.out]
      clear HQ hu1
      have HQ := HQ1
      clear HQ1
      go_wp2_with (first
        | (refine store_fld rfl 9 _ _ rfl b 3 (.string S) u1 { u1 with host := r } rfl rfl info9 (by omega) rfl rfl GV2.out (by rw [← HS.out]; rfl) ?_)
        | fail)
      intro W1 hO1 hW1
      go_wp2_with fail
      refine (HL2.out _).mono ?_
      rintro e W ⟨rfl, rfl⟩
      go_wp2_with fail
      refine (HL3.out _).mono ?_
      rintro e W ⟨rfl, rfl⟩
      have c3 := cellU hW1 3 _ rfl
      have c4 := cellU hW1 4 _ rfl
      have c5 := cellU hW1 5 _ rfl
      have f3 := frozen_of_row W b 3 _ _ hW1
      have f4 := frozen_of_row W b 4 _ _ hW1
      have f5 := frozen_of_row W b 5 _ _ hW1
      have HW1 := hid hW1
      have HO1 := hid (hO1.below (Nat.le_refl b))
      clear hW1 hO1
      go_wp2_with fail
      go_region
      go_end0
      refine ⟨rfl, ?_, ((((HB0.out.trans HO1.out).setCell (Nat.le_refl _) _).setCell (Nat.le_refl _) _).setCell (Nat.le_refl _) _).drew⟩
      rw [HQ.out]
      exact heap_setCell_same _ _ _ _ _ _ (heap_setCell_same _ _ _ _ _ _ (heap_setCell_same _ _ _ _ _ _ HW1.out))
end Go.Proofs.YtlblefcmilfjdaaGreatDoor
