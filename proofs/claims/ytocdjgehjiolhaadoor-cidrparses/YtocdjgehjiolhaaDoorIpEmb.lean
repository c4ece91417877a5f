
/- What ip.Embeds does. -/
import Derived.Test.YtocdjgehjiolhaaDoorIpUnm
import Derived.Test.YtocdjgehjiolhaaDoorIpFour
namespace Go.Proofs.YtocdjgehjiolhaaDoor
open Go.RowKit
attribute [local go_sem ↓] loadA_eq

/-- The IPv4 that an IPv6 carries. -/
def embC (v : Bool) (B : List UInt8) : Bool := isH mapH v B || isH natH v B || (isH comH v B && !(decide (lastL B = v4L 0 0 0 0) || decide (lastL B = v4L 0 0 0 1)))
def emb6 (B : List UInt8) : Bool := decide (B.getD 0 0 = 32) && decide (B.getD 1 0 = 2)
def embO (v : Bool) (B : List UInt8) : Option (List UInt8) := if v = false then none else if embC v B then some (lastL B) else if emb6 B then some (v4L (B.getD 2 0) (B.getD 3 0) (B.getD 4 0) (B.getD 5 0)) else none
theorem emb_no (B : List UInt8) : embO false B = none := rfl
set_option maxHeartbeats 1000000 in
theorem embeds_four (B : List UInt8) (w : World) : Calls Tryd.prog 26 #[.agg (acs false B)] w fun e w' => e = .returned (.tuple #[.agg (acs false (ansB (embO false B))), .bool (embO false B).isSome]) ∧ Below w.heap.size w w' := by
  have c0 := acs_zero false B
  generalize acs false B = X at c0 ⊢
  go_enter Tryd.func26, Tryd.ntmps26
  go_wp2_with (first
    | (refine store_addr rfl _ _ rfl (w.heap.size + 1) false (zer 16) rfl rfl rfl _ (by rw [← sz_alloc]; exact heap_alloc_new _ _) rfl ?_)
    | fail)
  intro W2 hO2 hW2
  go_wp2
  exact bodyPost_ret (ret_addr2 (p := 2) (q := 3) Tryd.results26 _ _ (w.heap.size + 1) false (zer 16) rfl (0, 0) _ rfl rfl hW2) rfl ⟨rfl, (alloc_below (alloc_below (Below.refl _ w) (Nat.le_refl _) _) (by simp) _).trans (hO2.below (by omega))⟩
theorem eq48 (a : UInt8) (n : Nat) (hn : n < 256) : (((a.toNat : Nat) : Int) == (n : Int)) = decide (a = UInt8.ofNat n) := by
  by_cases h : a.toNat = n
  · rw [show (((a.toNat : Nat) : Int) == (n : Int)) = true from by rw [beq_iff_eq]; omega, decide_eq_true]
    apply UInt8.toNat_inj.1; rw [h]; simp; omega
  · rw [show (((a.toNat : Nat) : Int) == (n : Int)) = false from by rw [beq_eq_false_iff_ne]; omega, decide_eq_false]
    intro e; apply h; rw [e]; simp; omega
set_option maxHeartbeats 4000000 in
theorem embeds_six (B : List UInt8) (hB : B.length = 16) (w : World) : Calls Tryd.prog 26 #[.agg (acs true B)] w fun e w' => e = .returned (.tuple #[.agg (acs false (ansB (embO true B))), .bool (embO true B).isSome]) ∧ Below w.heap.size w w' := by
  obtain ⟨qm, hqm⟩ : ∃ t, t = isH mapH true B := ⟨_, rfl⟩
  obtain ⟨qn, hqn⟩ : ∃ t, t = isH natH true B := ⟨_, rfl⟩
  obtain ⟨qc, hqc⟩ : ∃ t, t = isH comH true B := ⟨_, rfl⟩
  obtain ⟨u0, hu0⟩ : ∃ t, t = decide (lastL B = v4L 0 0 0 0) := ⟨_, rfl⟩
  obtain ⟨u1, hu1⟩ : ∃ t, t = decide (lastL B = v4L 0 0 0 1) := ⟨_, rfl⟩
  have HE : Hid (embC true B = (qm || qn || (qc && !(u0 || u1)))) := by show _ = _; unfold embC; rw [hqm, hqn, hqc, hu0, hu1]
  have q1 := fun W => eqV true true B (behL mapH (lastL B)) hB rfl qm hqm W
  have q2 := fun W => eqV true true B (behL natH (lastL B)) hB rfl qn hqn W
  have q3 := fun W => eqV true true B (behL comH (lastL B)) hB rfl qc hqc W
  have hg := guardA
  have HLF := hid (fun W => last_any true B hB W)
  have HMP := hid (fun W => mapped_any false (lastL B) (lastL_len B) W)
  have HNT := hid (fun W => nat64_any false (lastL B) (lastL_len B) W)
  have HCM := hid (fun W => compatible_any false (lastL B) (lastL_len B) W)
  have HUN : Hid (∀ W, Calls Tryd.prog 49 #[.agg (acs false (lastL B))] W fun e w' => e = .returned (.bool (u0 || u1)) ∧ Below W.heap.size W w') := fun W => unspec_any false (lastL B) (lastL_len B) W u0 u1 (by rw [hu0]; simp) (by rw [hu1]; simp)
  have HLL := hid (lastL_len B)
  have HOE : Hid (embO true B = if embC true B then some (lastL B) else if emb6 B then some (v4L (B.getD 2 0) (B.getD 3 0) (B.getD 4 0) (B.getD 5 0)) else none) := rfl
  rw [HE.out] at HOE
  have c0 := acs_zero true B
  have HAT : Hid (∀ j, j < 6 → (acs true B)[j + 1]? = some (.int .u8 (B.getD j 0).toNat)) := fun j hj => acs_at true B j (by omega)
  have HLD : Hid (∀ {W : World} {g : Nat}, W.heap[g]? = some (.cells (acs true B) 25 (0, 0)) → LDA W g (acs true B)) := fun h d os => loadA_re hB h d os
  have hl0 : ∀ Z, (loadI 25 (.pointer (some ⟨w.heap.size, 0, none⟩))).run Tryd.prog ((w.alloc (.cells (acs true B) 25)).alloc Z) = .ok (.agg (acs true B)) ((w.alloc (.cells (acs true B) 25)).alloc Z) := fun Z => loadA_row hB ((Below.heap_alloc _ _ _ (by simp)).trans (heap_alloc_new w _))
  clear hqm hqn hqc hu0 hu1 HE
  generalize lastL B = LB at q1 q2 q3 HLF HMP HNT HCM HUN HLL HOE
  have HLD2 : Hid (∀ {W : World} {g : Nat}, W.heap[g]? = some (.cells (acs false LB) 25 (0, 0)) → LDA W g (acs false LB)) := fun h d os => loadA_re HLL.out h d os
  generalize acs true (behL mapH LB) = MP at q1 HMP
  generalize acs true (behL natH LB) = NT at q2 HNT
  generalize acs true (behL comH LB) = CM at q3 HCM
  generalize acs true B = X at q1 q2 q3 HLF c0 HAT HLD hl0 ⊢
  go_enter Tryd.func26, Tryd.ntmps26
  go_wp2_with fail
  refine (HLF.out _).mono ?_
  rintro e W1 ⟨rfl, hb1⟩
  have HR := hid (row2 hb1)
  have hz1 : w.heap.size + 2 ≤ W1.heap.size := HR.out.2.2.2
  clear hb1 hl0 c0
  go_wp2_with (first
    | (refine store_addr rfl _ _ rfl W1.heap.size false LB HLL.out rfl rfl _ (heap_alloc_new W1 _) rfl ?_)
    | fail)
  intro V hO hW
  have HRV : Hid (∀ W, Below V.heap.size V W → W.heap[w.heap.size]? = some (.cells X 25 (0, 0)) ∧ (∃ Z : Array Value, Z.size = 17 ∧ W.heap[w.heap.size + 1]? = some (.cells Z 25 (0, 0))) ∧ W.heap[W1.heap.size]? = some (.cells (acs false LB) 25 (0, 0)) ∧ Below w.heap.size w W) := fun W hb => by
    have hs : V.heap.size = W1.heap.size + 1 := by rw [hO.size]; simp
    exact ⟨(hb.block _ (by omega)).trans ((hO.block _ (by omega)).trans ((Below.heap_alloc _ _ _ (by omega)).trans HR.out.2.1)), ⟨_, rfl, (hb.block _ (by omega)).trans ((hO.block _ (by omega)).trans ((Below.heap_alloc _ _ _ (by omega)).trans HR.out.1))⟩, (hb.block _ (by omega)).trans hW, ((alloc_below HR.out.2.2.1 HR.out.2.2.1.size _).trans (hO.below HR.out.2.2.1.size)).trans (hb.mono (by omega))⟩
  have HSV : Hid (w.heap.size + 2 ≤ V.heap.size) := by show _ ≤ _; rw [hO.size]; simp; omega
  clear hO hW HR hz1
  have HBV : Hid (Below V.heap.size V V) := Below.refl _ _
  have k1 : LDA V w.heap.size X := HLD.out (HRV.out V HBV.out).1
  have k2 : LDA V W1.heap.size (acs false LB) := HLD2.out (HRV.out V HBV.out).2.2.1
  have c1 : REG 44 #[.agg (acs false LB)] V (.agg MP) := fun d os => Calls.regrown_of (HMP.out _)
  go_wp2_with fail
  refine wp_region_quiet_below (by kernel_rfl) (by kernel_rfl) ?_
  repeat (quiet_step (first | exact c1 _ _))
  refine wpQuiet_nil ?_
  rintro Wa ⟨⟨dqWa, osqWa⟩, hwWa⟩
  have HQWa : Hid (Below V.heap.size V Wa) := by rw [hwWa]; exact below_regrown V dqWa osqWa
  clear hwWa
  have HBWa : Hid (Below V.heap.size V Wa) := HBV.out.trans (HQWa.out.mono HBV.out.size)
  clear k1 k2 c1 HQWa
  cases qm
  case true =>
    have HF : Hid (embO true B = some LB) := by show _ = _; rw [HOE.out]; rfl
    obtain ⟨r1, ⟨Z, hZs, r2⟩, r3, r4⟩ := HRV.out Wa HBWa.out
    have R2 := hid r2; have R3 := hid r3; have R4 := hid r4
    clear r1 r2 r3 r4 q1 q2 q3 hg
    go_wp2_with (first
      | (refine load_addr rfl _ rfl W1.heap.size false LB HLL.out rfl (0, 0) R3.out ?_)
      | (refine store_addr rfl _ _ rfl (w.heap.size + 1) false LB HLL.out rfl rfl _ R2.out hZs ?_)
      | fail)
    intro W3 hO3 hW3
    go_wp2
    refine bodyPost_ret (ret_addr2 (p := 2) (q := 3) Tryd.results26 _ _ (w.heap.size + 1) false LB HLL.out (0, 0) _ rfl rfl hW3) rfl ⟨?_, R4.out.trans (hO3.below (by omega))⟩
    rw [HF.out]; rfl
  have k1 : LDA Wa w.heap.size X := HLD.out (HRV.out Wa HBWa.out).1
  have k2 : LDA Wa W1.heap.size (acs false LB) := HLD2.out (HRV.out Wa HBWa.out).2.2.1
  have c1 : REG 47 #[.agg (acs false LB)] Wa (.agg NT) := fun d os => Calls.regrown_of (HNT.out _)
  go_wp2_with fail
  refine wp_region_quiet_below (by kernel_rfl) (by kernel_rfl) ?_
  repeat (quiet_step (first | exact c1 _ _))
  refine wpQuiet_nil ?_
  rintro Wb ⟨⟨dqWb, osqWb⟩, hwWb⟩
  have HQWb : Hid (Below Wa.heap.size Wa Wb) := by rw [hwWb]; exact below_regrown Wa dqWb osqWb
  clear hwWb
  have HBWb : Hid (Below V.heap.size V Wb) := HBWa.out.trans (HQWb.out.mono HBWa.out.size)
  clear k1 k2 c1 HQWb
  cases qn
  case true =>
    have HF : Hid (embO true B = some LB) := by show _ = _; rw [HOE.out]; rfl
    obtain ⟨r1, ⟨Z, hZs, r2⟩, r3, r4⟩ := HRV.out Wb HBWb.out
    have R2 := hid r2; have R3 := hid r3; have R4 := hid r4
    clear r1 r2 r3 r4 q1 q2 q3 hg
    go_wp2_with (first
      | (refine load_addr rfl _ rfl W1.heap.size false LB HLL.out rfl (0, 0) R3.out ?_)
      | (refine store_addr rfl _ _ rfl (w.heap.size + 1) false LB HLL.out rfl rfl _ R2.out hZs ?_)
      | fail)
    intro W3 hO3 hW3
    go_wp2
    refine bodyPost_ret (ret_addr2 (p := 2) (q := 3) Tryd.results26 _ _ (w.heap.size + 1) false LB HLL.out (0, 0) _ rfl rfl hW3) rfl ⟨?_, R4.out.trans (hO3.below (by omega))⟩
    rw [HF.out]; rfl
  cases qc
  case false =>
    have k1 : LDA Wb w.heap.size X := HLD.out (HRV.out Wb HBWb.out).1
    have k2 : LDA Wb W1.heap.size (acs false LB) := HLD2.out (HRV.out Wb HBWb.out).2.2.1
    have c1 : REG 48 #[.agg (acs false LB)] Wb (.agg CM) := fun d os => Calls.regrown_of (HCM.out _)
    have c2 : REG 49 #[.agg (acs false LB)] Wb (.bool (u0 || u1)) := fun d os => Calls.regrown_of (HUN.out _)
    go_wp2_with fail
    refine wp_region_quiet_below (by kernel_rfl) (by kernel_rfl) ?_
    repeat (quiet_step (first | (go_at_call 48; exact c1 _ _) | (go_at_call 49; exact c2 _ _)))
    refine wpQuiet_nil ?_
    rintro Wc ⟨⟨dqWc, osqWc⟩, hwWc⟩
    have HQWc : Hid (Below Wb.heap.size Wb Wc) := by rw [hwWc]; exact below_regrown Wb dqWc osqWc
    clear hwWc
    have HBWc : Hid (Below V.heap.size V Wc) := HBWb.out.trans (HQWc.out.mono HBWb.out.size)
    clear k1 k2 c1 c2 HQWc
    have HF : Hid (embO true B = if emb6 B then some (v4L (B.getD 2 0) (B.getD 3 0) (B.getD 4 0) (B.getD 5 0)) else none) := by show _ = _; rw [HOE.out]; rfl
    obtain ⟨r1, ⟨Z, hZs, r2⟩, r3, r4⟩ := HRV.out Wc HBWc.out
    have R2 := hid r2; have R4 := hid r4
    have hx : ∀ j, j < 6 → Wc.cell? ⟨w.heap.size, j + 1, none⟩ = some (.int .u8 (B.getD j 0).toNat) := fun j hj => by rw [cell_of_row _ _ _ _ _ _ r1]; exact HAT.out j hj
    unfold emb6 at HF
    have x0 : Wc.cell? ⟨w.heap.size, 1, none⟩ = _ := hx 0 (by omega)
    have x1 : Wc.cell? ⟨w.heap.size, 2, none⟩ = _ := hx 1 (by omega)
    have x2 : Wc.cell? ⟨w.heap.size, 3, none⟩ = _ := hx 2 (by omega)
    have x3 : Wc.cell? ⟨w.heap.size, 4, none⟩ = _ := hx 3 (by omega)
    have x4 : Wc.cell? ⟨w.heap.size, 5, none⟩ = _ := hx 4 (by omega)
    have x5 : Wc.cell? ⟨w.heap.size, 6, none⟩ = _ := hx 5 (by omega)
    clear hx r1 r2 r3 r4 q1 q2 q3 hg
    generalize B.getD 0 0 = b0 at x0 HF
    generalize B.getD 1 0 = b1 at x1 HF
    generalize B.getD 2 0 = b2 at x2 HF
    generalize B.getD 3 0 = b3 at x3 HF
    generalize B.getD 4 0 = b4 at x4 HF
    generalize B.getD 5 0 = b5 at x5 HF
    have e0 := eq48 b0 32 (by omega)
    have e1 := eq48 b1 2 (by omega)
    have e0' : (((b0.toNat : Nat) : Int) == 32) = decide (b0 = 32) := e0
    have e1' : (((b1.toNat : Nat) : Int) == 2) = decide (b1 = 2) := e1
    clear e0 e1
    by_cases h0 : b0 = 32
    case neg =>
      have HF0 : Hid (embO true B = none) := by show _ = _; rw [HF.out, decide_eq_false h0]; rfl
      rw [decide_eq_false h0] at e0'
      clear HF
      go_wp2_with (first
        | (refine store_addr rfl _ _ rfl (w.heap.size + 1) false (zer 16) rfl rfl rfl _ R2.out hZs ?_)
        | fail)
      intro W3 hO3 hW3
      go_wp2
      refine bodyPost_ret (ret_addr2 (p := 2) (q := 3) Tryd.results26 _ _ (w.heap.size + 1) false (zer 16) rfl (0, 0) _ rfl rfl hW3) rfl ⟨?_, R4.out.trans (hO3.below (by omega))⟩
      rw [HF0.out]; rfl
    by_cases h1 : b1 = 2
    case neg =>
      have HF0 : Hid (embO true B = none) := by show _ = _; rw [HF.out, decide_eq_false h1, Bool.and_false]; rfl
      rw [decide_eq_true h0] at e0'
      rw [decide_eq_false h1] at e1'
      clear HF
      go_wp2_with (first
        | (refine store_addr rfl _ _ rfl (w.heap.size + 1) false (zer 16) rfl rfl rfl _ R2.out hZs ?_)
        | fail)
      intro W3 hO3 hW3
      go_wp2
      refine bodyPost_ret (ret_addr2 (p := 2) (q := 3) Tryd.results26 _ _ (w.heap.size + 1) false (zer 16) rfl (0, 0) _ rfl rfl hW3) rfl ⟨?_, R4.out.trans (hO3.below (by omega))⟩
      rw [HF0.out]; rfl
    have HF0 : Hid (embO true B = some (v4L b2 b3 b4 b5)) := by show _ = _; rw [HF.out, decide_eq_true h0, decide_eq_true h1]; rfl
    rw [decide_eq_true h0] at e0'
    rw [decide_eq_true h1] at e1'
    clear h0 h1
    go_wp2_with fail
    refine (v4_any b2 b3 b4 b5 _).mono ?_
    rintro e W5 ⟨rfl, hb5⟩
    have R5 : Hid (W5.heap[w.heap.size + 1]? = some (.cells Z 25 (0, 0))) := (hb5.block _ (by have := HSV.out; have := HBWc.out.size; omega)).trans R2.out
    have R6 : Hid (Below w.heap.size w W5) := R4.out.trans (hb5.mono R4.out.size)
    clear hb5
    go_wp2_with (first
      | (refine store_addr rfl _ _ rfl (w.heap.size + 1) false (v4L b2 b3 b4 b5) (v4L_len _ _ _ _) rfl rfl _ R5.out hZs ?_)
      | fail)
    intro W3 hO3 hW3
    go_wp2
    refine bodyPost_ret (ret_addr2 (p := 2) (q := 3) Tryd.results26 _ _ (w.heap.size + 1) false (v4L b2 b3 b4 b5) (v4L_len _ _ _ _) (0, 0) _ rfl rfl hW3) rfl ⟨?_, R6.out.trans (hO3.below (by omega))⟩
    rw [HF0.out]; rfl
  obtain ⟨u, hu⟩ : ∃ u, u = (u0 || u1) := ⟨_, rfl⟩
  rw [← hu] at HOE HUN
  clear hu
  cases u
  case false =>
    have k1 : LDA Wb w.heap.size X := HLD.out (HRV.out Wb HBWb.out).1
    have k2 : LDA Wb W1.heap.size (acs false LB) := HLD2.out (HRV.out Wb HBWb.out).2.2.1
    have c1 : REG 48 #[.agg (acs false LB)] Wb (.agg CM) := fun d os => Calls.regrown_of (HCM.out _)
    have c2 : REG 49 #[.agg (acs false LB)] Wb (.bool false) := fun d os => Calls.regrown_of (HUN.out _)
    go_wp2_with fail
    refine wp_region_quiet_below (by kernel_rfl) (by kernel_rfl) ?_
    repeat (quiet_step (first | (go_at_call 48; exact c1 _ _) | (go_at_call 49; exact c2 _ _)))
    refine wpQuiet_nil ?_
    rintro Wc ⟨⟨dqWc, osqWc⟩, hwWc⟩
    have HQWc : Hid (Below Wb.heap.size Wb Wc) := by rw [hwWc]; exact below_regrown Wb dqWc osqWc
    clear hwWc
    have HBWc : Hid (Below V.heap.size V Wc) := HBWb.out.trans (HQWc.out.mono HBWb.out.size)
    clear k1 k2 c1 c2 HQWc
    have HF : Hid (embO true B = some LB) := by show _ = _; rw [HOE.out]; rfl
    obtain ⟨r1, ⟨Z, hZs, r2⟩, r3, r4⟩ := HRV.out Wc HBWc.out
    have R2 := hid r2; have R3 := hid r3; have R4 := hid r4
    clear r1 r2 r3 r4 q1 q2 q3 hg
    go_wp2_with (first
      | (refine load_addr rfl _ rfl W1.heap.size false LB HLL.out rfl (0, 0) R3.out ?_)
      | (refine store_addr rfl _ _ rfl (w.heap.size + 1) false LB HLL.out rfl rfl _ R2.out hZs ?_)
      | fail)
    intro W3 hO3 hW3
    go_wp2
    refine bodyPost_ret (ret_addr2 (p := 2) (q := 3) Tryd.results26 _ _ (w.heap.size + 1) false LB HLL.out (0, 0) _ rfl rfl hW3) rfl ⟨?_, R4.out.trans (hO3.below (by omega))⟩
    rw [HF.out]; rfl
  have k1 : LDA Wb w.heap.size X := HLD.out (HRV.out Wb HBWb.out).1
  have k2 : LDA Wb W1.heap.size (acs false LB) := HLD2.out (HRV.out Wb HBWb.out).2.2.1
  have c1 : REG 48 #[.agg (acs false LB)] Wb (.agg CM) := fun d os => Calls.regrown_of (HCM.out _)
  have c2 : REG 49 #[.agg (acs false LB)] Wb (.bool true) := fun d os => Calls.regrown_of (HUN.out _)
  go_wp2_with fail
  refine wp_region_quiet_below (by kernel_rfl) (by kernel_rfl) ?_
  repeat (quiet_step (first | (go_at_call 48; exact c1 _ _) | (go_at_call 49; exact c2 _ _)))
  refine wpQuiet_nil ?_
  rintro Wc ⟨⟨dqWc, osqWc⟩, hwWc⟩
  have HQWc : Hid (Below Wb.heap.size Wb Wc) := by rw [hwWc]; exact below_regrown Wb dqWc osqWc
  clear hwWc
  have HBWc : Hid (Below V.heap.size V Wc) := HBWb.out.trans (HQWc.out.mono HBWb.out.size)
  clear k1 k2 c1 c2 HQWc
  have HF : Hid (embO true B = if emb6 B then some (v4L (B.getD 2 0) (B.getD 3 0) (B.getD 4 0) (B.getD 5 0)) else none) := by show _ = _; rw [HOE.out]; rfl
  obtain ⟨r1, ⟨Z, hZs, r2⟩, r3, r4⟩ := HRV.out Wc HBWc.out
  have R2 := hid r2; have R4 := hid r4
  have hx : ∀ j, j < 6 → Wc.cell? ⟨w.heap.size, j + 1, none⟩ = some (.int .u8 (B.getD j 0).toNat) := fun j hj => by rw [cell_of_row _ _ _ _ _ _ r1]; exact HAT.out j hj
  unfold emb6 at HF
  have x0 : Wc.cell? ⟨w.heap.size, 1, none⟩ = _ := hx 0 (by omega)
  have x1 : Wc.cell? ⟨w.heap.size, 2, none⟩ = _ := hx 1 (by omega)
  have x2 : Wc.cell? ⟨w.heap.size, 3, none⟩ = _ := hx 2 (by omega)
  have x3 : Wc.cell? ⟨w.heap.size, 4, none⟩ = _ := hx 3 (by omega)
  have x4 : Wc.cell? ⟨w.heap.size, 5, none⟩ = _ := hx 4 (by omega)
  have x5 : Wc.cell? ⟨w.heap.size, 6, none⟩ = _ := hx 5 (by omega)
  clear hx r1 r2 r3 r4 q1 q2 q3 hg
  generalize B.getD 0 0 = b0 at x0 HF
  generalize B.getD 1 0 = b1 at x1 HF
  generalize B.getD 2 0 = b2 at x2 HF
  generalize B.getD 3 0 = b3 at x3 HF
  generalize B.getD 4 0 = b4 at x4 HF
  generalize B.getD 5 0 = b5 at x5 HF
  have e0 := eq48 b0 32 (by omega)
  have e1 := eq48 b1 2 (by omega)
  have e0' : (((b0.toNat : Nat) : Int) == 32) = decide (b0 = 32) := e0
  have e1' : (((b1.toNat : Nat) : Int) == 2) = decide (b1 = 2) := e1
  clear e0 e1
  by_cases h0 : b0 = 32
  case neg =>
    have HF0 : Hid (embO true B = none) := by show _ = _; rw [HF.out, decide_eq_false h0]; rfl
    rw [decide_eq_false h0] at e0'
    clear HF
    go_wp2_with (first
      | (refine store_addr rfl _ _ rfl (w.heap.size + 1) false (zer 16) rfl rfl rfl _ R2.out hZs ?_)
      | fail)
    intro W3 hO3 hW3
    go_wp2
    refine bodyPost_ret (ret_addr2 (p := 2) (q := 3) Tryd.results26 _ _ (w.heap.size + 1) false (zer 16) rfl (0, 0) _ rfl rfl hW3) rfl ⟨?_, R4.out.trans (hO3.below (by omega))⟩
    rw [HF0.out]; rfl
  by_cases h1 : b1 = 2
  case neg =>
    have HF0 : Hid (embO true B = none) := by show _ = _; rw [HF.out, decide_eq_false h1, Bool.and_false]; rfl
    rw [decide_eq_true h0] at e0'
    rw [decide_eq_false h1] at e1'
    clear HF
    go_wp2_with (first
      | (refine store_addr rfl _ _ rfl (w.heap.size + 1) false (zer 16) rfl rfl rfl _ R2.out hZs ?_)
      | fail)
    intro W3 hO3 hW3
    go_wp2
    refine bodyPost_ret (ret_addr2 (p := 2) (q := 3) Tryd.results26 _ _ (w.heap.size + 1) false (zer 16) rfl (0, 0) _ rfl rfl hW3) rfl ⟨?_, R4.out.trans (hO3.below (by omega))⟩
    rw [HF0.out]; rfl
  have HF0 : Hid (embO true B = some (v4L b2 b3 b4 b5)) := by show _ = _; rw [HF.out, decide_eq_true h0, decide_eq_true h1]; rfl
  rw [decide_eq_true h0] at e0'
  rw [decide_eq_true h1] at e1'
  clear h0 h1
  go_wp2_with fail
  refine (v4_any b2 b3 b4 b5 _).mono ?_
  rintro e W5 ⟨rfl, hb5⟩
  have R5 : Hid (W5.heap[w.heap.size + 1]? = some (.cells Z 25 (0, 0))) := (hb5.block _ (by have := HSV.out; have := HBWc.out.size; omega)).trans R2.out
  have R6 : Hid (Below w.heap.size w W5) := R4.out.trans (hb5.mono R4.out.size)
  clear hb5
  go_wp2_with (first
    | (refine store_addr rfl _ _ rfl (w.heap.size + 1) false (v4L b2 b3 b4 b5) (v4L_len _ _ _ _) rfl rfl _ R5.out hZs ?_)
    | fail)
  intro W3 hO3 hW3
  go_wp2
  refine bodyPost_ret (ret_addr2 (p := 2) (q := 3) Tryd.results26 _ _ (w.heap.size + 1) false (v4L b2 b3 b4 b5) (v4L_len _ _ _ _) (0, 0) _ rfl rfl hW3) rfl ⟨?_, R6.out.trans (hO3.below (by omega))⟩
  rw [HF0.out]; rfl

theorem embeds_any (v : Bool) (B : List UInt8) (hB : B.length = 16) (w : World) : Calls Tryd.prog 26 #[.agg (acs v B)] w fun e w' => e = .returned (.tuple #[.agg (acs false (ansB (embO v B))), .bool (embO v B).isSome]) ∧ Below w.heap.size w w' := by
  cases v
  · exact embeds_four B w
  · exact embeds_six B hB w
end Go.Proofs.YtocdjgehjiolhaaDoor
