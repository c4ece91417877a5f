
/- What the reference's times does: a power held against a prime, limb by limb. -/
import Derived.Test.YtggbianodoneeaaDoorMul
namespace Go.Proofs.YtggbianodoneeaaDoor
open Go.RowKit
set_option linter.unusedSimpArgs false
set_option linter.unusedVariables false

theorem val_cut (L : List Nat) : ∀ k, k ≤ L.length → val L = val (L.take k) + 65536 ^ k * val (L.drop k) := by
  induction L with
  | nil => intro k h; simp [val]
  | cons x r ih =>
    intro k h
    cases k with
    | zero => simp [val]
    | succ k =>
      have := ih k (by simpa using h)
      simp only [List.take_succ_cons, List.drop_succ_cons, val]
      rw [this, Nat.pow_succ, Nat.mul_comm (65536 ^ k) 65536, Nat.mul_assoc]
      omega
theorem take12 (R : List Nat) (h : R.length = 24) (hv : val R < 65536 ^ 12) : val (R.take 12) = val R := by
  have := val_cut R 12 (by omega)
  have h0 : val (R.drop 12) = 0 := by
    rcases Nat.eq_zero_or_pos (val (R.drop 12)) with h | h
    · exact h
    · exfalso
      have : 65536 ^ 12 * 1 ≤ 65536 ^ 12 * val (R.drop 12) := Nat.mul_le_mul_left _ h
      omega
  rw [h0] at this
  omega
/-- Two numbers that are alike above the i-th limb, and unlike there. -/
theorem val_cmp : ∀ (B L : List Nat) (i : Nat), B.length = L.length → small B → small L → i < B.length → (∀ j, i < j → j < B.length → B.getD j 0 = L.getD j 0) → B.getD i 0 < L.getD i 0 → val B < val L
  | [], _, i, _, _, _, hi, _, _ => absurd hi (by simp)
  | x :: r, [], i, h, _, _, _, _, _ => absurd h (by simp)
  | x :: r, y :: s, 0, h, hb, hl, _, he, hlt => by
    have hrs : r = s := by
      apply List.ext_getElem (by simpa using h)
      intro j h1 h2
      have := he (j + 1) (by omega) (by simpa using h1)
      simpa [List.getD_eq_getElem?_getD, h1, h2] using this
    subst hrs
    have : x < y := by simpa using hlt
    simp only [val]
    omega
  | x :: r, y :: s, i + 1, h, hb, hl, hi, he, hlt => by
    have ih := val_cmp r s i (by simpa using h) (fun j hj => by have := hb (j + 1) (by simpa using hj); simpa using this) (fun j hj => by have := hl (j + 1) (by simpa using hj); simpa using this) (by simpa using hi) (fun j h1 h2 => by have := he (j + 1) (by omega) (by simpa using h2); simpa using this) (by simpa using hlt)
    have hx : x < 65536 := by have := hb 0 (by simp); simpa using this
    simp only [val]
    omega
theorem rep0 (j : Nat) : (List.replicate 12 0).getD j 0 = 0 := by
  rw [List.getD_eq_getElem?_getD, List.getElem?_replicate]
  split <;> rfl
/-- The limit: p with 32 bits for each power behind the point. -/
def limL (p root : Nat) : List Nat := (List.replicate 12 0).set (2 * root) p
theorem limL_len (p root : Nat) : (limL p root).length = 12 := by simp [limL]
theorem limL_val (p root : Nat) (h : 2 * root < 12) : val (limL p root) = p * 65536 ^ (2 * root) := by
  have h1 := val_set (List.replicate 12 0) (2 * root) p (by simpa using h)
  have h2 := rep0 (2 * root)
  have h3 : val (List.replicate 12 0) = 0 := by decide
  rw [h2, h3] at h1
  unfold limL
  omega
theorem limL_small (p root : Nat) (hp : p < 65536) (h : 2 * root < 12) : small (limL p root) := fun j hj => by
  rw [limL_len] at hj
  unfold limL
  rw [getD_set _ _ _ _ (by simpa using h)]
  split
  · exact hp
  · rw [rep0]; decide

set_option maxRecDepth 100000 in
set_option maxHeartbeats 2000000 in
theorem times_any (x root p : Nat) (hx : x < 1099511627776) (hr1 : 2 ≤ root) (hr : root ≤ 3) (hp : p ≤ 311) (w : World) (t : Bool) (ht : t = decide (x ^ root ≤ p * 65536 ^ (2 * root))) :
    Calls Tryd.prog 24 #[.int .u64 (x : Int), .int .i64 (root : Int), .int .i64 (p : Int)] w fun e w' => e = .returned (.bool t) ∧ Below w.heap.size w w' := by
  have HPA := hid (parts_any x (by omega) w)
  have HAV := hid (limbs_val x (by omega))
  have HAS := hid (limbs_small x)
  have HAL : Hid ((limbs x).length = 12) := limbs_len x 4
  generalize limbs x = A at HPA HAV HAS HAL
  have HPW : Hid (∀ k, k < root → x ^ k * x < 65536 ^ 12) := fun k hk => by
    have h1 : x ^ k ≤ 1099511627776 ^ k := Nat.pow_le_pow_left (Nat.le_of_lt hx) k
    have h2 : (1099511627776 : Nat) ^ k ≤ 1099511627776 ^ 2 := Nat.pow_le_pow_right (by decide) (by omega)
    calc x ^ k * x ≤ 1099511627776 ^ 2 * 1099511627776 := Nat.mul_le_mul (Nat.le_trans h1 h2) (Nat.le_of_lt hx)
      _ < 65536 ^ 12 := by decide
  have HMU := hid mul_any
  have HTT := hid ht
  have HLV := hid (limL_val p root (by omega))
  have HLS := hid (limL_small p root (by omega) (by omega))
  have HLL := hid (limL_len p root)
  have HLD : Hid (limL p root = (List.replicate 12 0).set (2 * root) p) := rfl
  generalize limL p root = L at HLV HLS HLL HLD
  have hmk : ∀ W : World, (Instr.makeSlice 62 (.int .i64 12) (.int .i64 12)).run Tryd.prog W = .ok (.slice (some ⟨W.heap.size, 0, none⟩) 12 12) (W.alloc (.cells (lvs (List.replicate 12 0)) 52)) := fun W => make68 12 W (by omega) (by first | kernel_rfl | (simp [madeCells, lvs]))
  obtain ⟨Z, hZ⟩ : ∃ Z : List Nat, Hid (Z = List.replicate 12 0) := ⟨_, rfl⟩
  have HZ0 : Hid (∀ j, Z.getD j 0 = 0) := fun j => by rw [hZ.out]; exact rep0 j
  have HZL : Hid (Z.length = 12) := by show _ = _; rw [hZ.out]; rfl
  rw [← hZ.out] at HLD hmk
  clear ht hZ
  go_enter Tryd.func24, Tryd.ntmps24
  go_wp2_with fail
  refine HPA.out.mono ?_
  rintro e W1 ⟨rfl, hr1', hb1⟩
  have HR1 := hid hr1'
  have HB1 := hid hb1
  have hz1 : w.heap.size < W1.heap.size := (Array.getElem?_eq_some_iff.1 hr1').1
  clear hr1' hb1 HPA
  have HCA : Hid (∀ W, Below W1.heap.size W1 W → ∀ j, j < 12 → W.cell? ⟨w.heap.size, j, none⟩ = some (.int .u64 ((A.getD j 0 : Nat) : Int))) := fun W h j hj => by
    rw [h.cell (p := ⟨w.heap.size, j, none⟩) hz1, cell_of_row _ _ _ _ _ _ HR1.out, lvs_at _ _ (by rw [HAL.out]; exact hj)]
  go_wp2_with fail
  go_loopw [8, 9] (fun bv kv wx => ∃ (k gb cb : Nat) (B : List Nat), 1 ≤ k ∧ k ≤ root ∧ kv = .int .i64 (k : Int) ∧ bv = .slice (some ⟨gb, 0, none⟩) 12 cb ∧ 12 ≤ cb ∧ gb < wx.heap.size ∧ Hid (B.length = 12) ∧ Hid (small B) ∧ Hid (val B = x ^ k) ∧ Hid (∀ j, j < 12 → wx.cell? ⟨gb, j, none⟩ = some (.int .u64 ((B.getD j 0 : Nat) : Int))) ∧ Hid (Below W1.heap.size W1 wx)) (fun _ kv _ => root - (intOf kv).toNat)
  case atStart => exact ⟨1, w.heap.size, 12, A, Nat.le_refl _, by omega, rfl, rfl, Nat.le_refl _, hz1, HAL, HAS, (by show _ = _; rw [HAV.out, Nat.pow_one]), HCA.out _ (Below.refl _ _), Below.refl _ _⟩
  case round =>
    obtain ⟨k, gb, cb, B, hk1, hk2, rfl, rfl, hcb, hgb, HBL, HBS, HBV, HCB, HB⟩ := hrel
    have hz2 := HB.out.size
    by_cases hlt : k < root
    · go_wp2_with fail
      refine (HMU.out B A HBL.out HAL.out HBS.out HAS.out gb w.heap.size cb 12 _ hgb (by omega) HCB.out (HCA.out _ HB.out)).mono ?_
      rintro e W2 ⟨rfl, ⟨R, ⟨hRl, hRv, hRr⟩, hRs⟩, hb2⟩
      have hg2 : wr.heap.size < W2.heap.size := (Array.getElem?_eq_some_iff.1 hRr).1
      have HB2 : Hid (Below W1.heap.size W1 W2) := HB.out.trans (hb2.mono hz2)
      have HT1 : Hid ((R.take 12).length = 12) := by show _ = _; rw [List.length_take, hRl]; rfl
      have HT2 : Hid (small (R.take 12)) := fun j hj => by
        rw [HT1.out] at hj
        have := hRs j (by rw [hRl]; omega)
        simpa [List.getD_eq_getElem?_getD, hj] using this
      have HT3 : Hid (val (R.take 12) = x ^ (k + 1)) := by
        show _ = _
        rw [HBV.out, HAV.out] at hRv
        rw [take12 R hRl (by rw [hRv]; exact HPW.out k hlt), hRv, Nat.pow_succ]
      have HT4 : Hid (∀ j, j < 12 → W2.cell? ⟨wr.heap.size, j, none⟩ = some (.int .u64 (((R.take 12).getD j 0 : Nat) : Int))) := fun j hj => by
        rw [cell_of_row _ _ _ _ _ _ hRr, lvs_at _ _ (by rw [hRl]; omega)]
        congr 3
        simp [List.getD_eq_getElem?_getD, hj]
      clear hRl hRv hRr hRs hb2 HB HCB HBV HBS HBL
      go_wp2_with fail
      go_roundw
      case rel => exact ⟨k + 1, wr.heap.size, 24, R.take 12, by omega, by omega, by go_num, rfl, by omega, hg2, HT1, HT2, HT3, HT4, HB2⟩
      case measure => simp [intOf]; omega
    · obtain rfl : k = root := by omega
      have hi2 : ((2 : Int) * (k : Int)).toNat = 2 * k := by omega
      have hi3 : (2 : Int) * (k : Int) < 12 := by omega
      have hi4 : (0 : Int) ≤ 2 * (k : Int) := by omega
      have hpw : IntKind.u64.wrap (p : Int) = (p : Int) := by rw [IntKind.wrap_u64]; omega
      have cz : (wr.alloc (.cells (lvs Z) 52)).cell? ⟨wr.heap.size, 2 * k, none⟩ = some (.int .u64 0) := by
        rw [cell_of_row _ _ _ _ _ _ (heap_alloc_new wr _), lvs_at _ _ (by rw [HZL.out]; omega), HZ0.out]
        rfl
      have fz : (wr.alloc (.cells (lvs Z) 52)).frozen? ⟨wr.heap.size, 2 * k, none⟩ = false := frozen_of_row _ _ _ _ _ (heap_alloc_new wr _)
      have HLE : Hid ((lvs Z).setIfInBounds (2 * k) (.int .u64 (p : Int)) = lvs L) := by show _ = _; rw [lvs_set, ← HLD.out]
      have HRL : Hid ((wr.alloc (.cells (lvs L) 52)).heap[wr.heap.size]? = some (.cells (lvs L) 52 (0, 0))) := heap_alloc_new wr _
      have HB3 : Hid (Below w.heap.size w (wr.alloc (.cells (lvs L) 52))) := (HB1.out.trans (HB.out.mono (Nat.le_of_lt hz1))).alloc (by omega) _
      have HCB3 : Hid (∀ j, j < 12 → (wr.alloc (.cells (lvs L) 52)).cell? ⟨gb, j, none⟩ = some (.int .u64 ((B.getD j 0 : Nat) : Int))) := fun j hj => by
        rw [World.cell?_of_block (w := wr) (Below.heap_alloc wr _ _ hgb), HCB.out j hj]
      have HGT : Hid (∀ i, i < 12 → (∀ j, i < j → j < 12 → B.getD j 0 = L.getD j 0) → B.getD i 0 ≠ L.getD i 0 → t = decide (B.getD i 0 < L.getD i 0)) := fun i hi he hne => by
        rw [HTT.out, ← HBV.out, ← HLV.out]
        apply decide_eq_decide.2
        rcases Nat.lt_or_ge (B.getD i 0) (L.getD i 0) with h | h
        · exact ⟨fun _ => h, fun _ => Nat.le_of_lt (val_cmp B L i (by rw [HBL.out, HLL.out]) HBS.out HLS.out (by rw [HBL.out]; exact hi) (fun j h1 h2 => he j h1 (by rw [HBL.out] at h2; exact h2)) h)⟩
        · have h2 : L.getD i 0 < B.getD i 0 := by omega
          have h3 := val_cmp L B i (by rw [HBL.out, HLL.out]) HLS.out HBS.out (by rw [HLL.out]; exact hi) (fun j h1 h2 => (he j h1 (by rw [HLL.out] at h2; exact h2)).symm) h2
          exact ⟨fun h4 => by omega, fun h4 => by omega⟩
      have HEQ : Hid ((∀ j, j < 12 → B.getD j 0 = L.getD j 0) → t = true) := fun he => by
        have e : B = L := by
          apply List.ext_getElem (by rw [HBL.out, HLL.out])
          intro j h1 h2
          have := he j (by rw [HBL.out] at h1; exact h1)
          simpa [List.getD_eq_getElem?_getD, h1, h2] using this
        rw [HTT.out, ← HBV.out, ← HLV.out, e]
        simp
      go_wp2_with fail
      rw [HLE.out]
      generalize wr.alloc (.cells (lvs L) 52) = W3 at HRL HB3 HCB3 ⊢
      clear cz fz hmk HLE HCA HB HCB HMU HPW HTT HLD
      generalize wr.heap.size = P at HRL ⊢
      have HCE : Hid (∀ W, ((∀ j, j < 12 → W.cell? ⟨gb, j, none⟩ = some (.int .u64 ((B.getD j 0 : Nat) : Int))) ∧ (∀ j, j < 12 → W.cell? ⟨P, j, none⟩ = some (.int .u64 ((L.getD j 0 : Nat) : Int))) ∧ Below w.heap.size w W) → ∀ d, ((∀ j, j < 12 → (W.drewN d).cell? ⟨gb, j, none⟩ = some (.int .u64 ((B.getD j 0 : Nat) : Int))) ∧ (∀ j, j < 12 → (W.drewN d).cell? ⟨P, j, none⟩ = some (.int .u64 ((L.getD j 0 : Nat) : Int))) ∧ Below w.heap.size w (W.drewN d))) := fun W h d => ⟨h.1, h.2.1, h.2.2.trans (below_drewN _ _ _)⟩
      go_loopw [11] (fun iv wx => ∃ m : Nat, m ≤ 12 ∧ iv = .int .i64 ((m : Int) - 1) ∧ Hid (∀ j, m ≤ j → j < 12 → B.getD j 0 = L.getD j 0) ∧ Hid ((∀ j, j < 12 → wx.cell? ⟨gb, j, none⟩ = some (.int .u64 ((B.getD j 0 : Nat) : Int))) ∧ (∀ j, j < 12 → wx.cell? ⟨P, j, none⟩ = some (.int .u64 ((L.getD j 0 : Nat) : Int))) ∧ Below w.heap.size w wx)) (fun iv _ => ((intOf iv) + 1).toNat)
      case atStart => exact ⟨12, by omega, rfl, (fun j h1 h2 => by omega), ⟨HCB3.out, fun j hj => by rw [cell_of_row _ _ _ _ _ _ HRL.out, lvs_at _ _ (by rw [HLL.out]; omega)], HB3.out⟩⟩
      case round =>
        clear HCB3 HRL HB3
        obtain ⟨m, hm, rfl, HE, HD⟩ := hrel
        by_cases hm0 : m = 0
        · subst hm0
          have ht1 : t = true := HEQ.out (fun j hj => HE.out j (Nat.zero_le _) hj)
          subst ht1
          have hneg : ¬ (0 : Int) ≤ ((0 : Nat) : Int) - 1 := by omega
          go_wp2_with fail
          go_ret
          exact ⟨rfl, HD.out.2.2⟩
        · obtain ⟨i, rfl⟩ : ∃ i, m = i + 1 := ⟨m - 1, by omega⟩
          have ei : ((i + 1 : Nat) : Int) - 1 = (i : Int) := by omega
          rw [ei]
          obtain ⟨xb, hxb⟩ : ∃ xb, Hid (xb = B.getD i 0) := ⟨_, rfl⟩
          obtain ⟨xl, hxl⟩ : ∃ xl, Hid (xl = L.getD i 0) := ⟨_, rfl⟩
          have cb' : wr.cell? ⟨gb, i, none⟩ = some (.int .u64 (xb : Int)) := by rw [HD.out.1 i (by omega), hxb.out]
          have cl' : wr.cell? ⟨P, i, none⟩ = some (.int .u64 (xl : Int)) := by rw [HD.out.2.1 i (by omega), hxl.out]
          have i1 : (i : Int) < 12 := by omega
          have i0 : (0 : Int) ≤ (i : Int) := by omega
          by_cases hxe : xb = xl
          · have HE2 : Hid (∀ j, i ≤ j → j < 12 → B.getD j 0 = L.getD j 0) := fun j h1 h2 => by
              rcases Nat.lt_or_ge i j with h | h
              · exact HE.out j h h2
              · rw [show j = i from by omega, ← hxb.out, ← hxl.out]; exact hxe
            subst hxe
            clear ei hxb hxl HE
            go_wp2_with fail
            go_quiet (fail)
            go_wp2_with fail
            go_roundw
            case rel => exact ⟨i, by omega, rfl, HE2, HCE.out _ HD.out _⟩
            case measure => simp [intOf] <;> omega
          · have HTV := hid (HGT.out i (by omega) (fun j h1 h2 => HE.out j h1 h2) (by rw [← hxb.out, ← hxl.out]; exact hxe))
            have hxe' : ¬ ((xb : Int) = (xl : Int)) := by omega
            have HTW : Hid (t = decide ((xb : Int) < (xl : Int))) := by
              show _ = _
              rw [HTV.out, ← hxb.out, ← hxl.out]
              apply decide_eq_decide.2
              omega
            clear ei hxb hxl HE HTV
            go_wp2_with fail
            go_quiet (fail)
            have HD2 := hid (HCE.out _ HD.out nq)
            have cb2 : (wr.drewN nq).cell? ⟨gb, i, none⟩ = some (.int .u64 (xb : Int)) := cb'
            have cl2 : (wr.drewN nq).cell? ⟨P, i, none⟩ = some (.int .u64 (xl : Int)) := cl'
            generalize wr.drewN nq = W5 at HD2 cb2 cl2 ⊢
            go_wp2_with fail
            go_quiet (fail)
            go_wp2_with fail
            go_ret
            exact ⟨by rw [HTW.out]; first | rfl | simp, (HCE.out _ HD2.out _).2.2⟩

end Go.Proofs.YtggbianodoneeaaDoor
