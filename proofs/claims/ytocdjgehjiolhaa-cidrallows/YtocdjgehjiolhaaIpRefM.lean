
/- What the reference's Embeds does. -/
import Derived.Test.YtocdjgehjiolhaaIpRefE
namespace Go.Proofs.Ytocdjgehjiolhaa
open Go.RowKit
attribute [local go_sem ↓] loadA_eq

def firN (B : List UInt8) : Nat := (B.getD 0 0).toNat * 16777216 + (B.getD 1 0).toNat * 65536 + (B.getD 2 0).toNat * 256 + (B.getD 3 0).toNat
def nouB (B : List UInt8) : Bool := decide ((B.drop 4).take 8 = zer 8)
theorem u8eq (a : UInt8) (n : Nat) (hn : n < 256) : a = UInt8.ofNat n ↔ a.toNat = n := by
  constructor
  · rintro rfl; simp; omega
  · intro h; apply UInt8.toNat_inj.1; rw [h]; simp; omega
theorem nat_eq (B : List UInt8) (hB : B.length = 16) : isH natH true B = (nouB B && decide (firN B = 6619035)) := by
  rw [isH_take natH rfl true B hB]
  obtain ⟨b0, b1, b2, b3, b4, b5, b6, b7, b8, b9, b10, b11, b12, b13, b14, b15, rfl⟩ := letters B hB
  have e : ([b0, b1, b2, b3, b4, b5, b6, b7, b8, b9, b10, b11, b12, b13, b14, b15].take 12 = natH) ↔ ((b0 = 0 ∧ b1 = 100 ∧ b2 = 255 ∧ b3 = 155) ∧ (([b0, b1, b2, b3, b4, b5, b6, b7, b8, b9, b10, b11, b12, b13, b14, b15].drop 4).take 8 = zer 8)) := by
    simp [natH, zer, List.replicate, and_assoc]
  have f : (b0 = 0 ∧ b1 = 100 ∧ b2 = 255 ∧ b3 = 155) ↔ firN [b0, b1, b2, b3, b4, b5, b6, b7, b8, b9, b10, b11, b12, b13, b14, b15] = 6619035 := by
    have h0 := b0.toNat_lt; have h1 := b1.toNat_lt; have h2 := b2.toNat_lt; have h3 := b3.toNat_lt
    have r0 := u8eq b0 0 (by omega); have r1 := u8eq b1 100 (by omega); have r2 := u8eq b2 255 (by omega); have r3 := u8eq b3 155 (by omega)
    have er : firN [b0, b1, b2, b3, b4, b5, b6, b7, b8, b9, b10, b11, b12, b13, b14, b15] = b0.toNat * 16777216 + b1.toNat * 65536 + b2.toNat * 256 + b3.toNat := rfl
    rw [er]
    constructor
    · rintro ⟨a, b, c, d⟩
      have := r0.1 a; have := r1.1 b; have := r2.1 c; have := r3.1 d
      omega
    · intro h
      exact ⟨r0.2 (by omega), r1.2 (by omega), r2.2 (by omega), r3.2 (by omega)⟩
  unfold nouB
  rw [← Bool.decide_and]
  refine decide_eq_decide.2 ?_
  rw [e, f]
  constructor
  · rintro ⟨_, a, b⟩; exact ⟨b, a⟩
  · rintro ⟨a, b⟩; exact ⟨rfl, b, a⟩
theorem com_eq (B : List UInt8) (hB : B.length = 16) : isH comH true B = (nouB B && decide (firN B = 0)) := by
  rw [isH_take comH rfl true B hB]
  obtain ⟨b0, b1, b2, b3, b4, b5, b6, b7, b8, b9, b10, b11, b12, b13, b14, b15, rfl⟩ := letters B hB
  have e : ([b0, b1, b2, b3, b4, b5, b6, b7, b8, b9, b10, b11, b12, b13, b14, b15].take 12 = comH) ↔ ((b0 = 0 ∧ b1 = 0 ∧ b2 = 0 ∧ b3 = 0) ∧ (([b0, b1, b2, b3, b4, b5, b6, b7, b8, b9, b10, b11, b12, b13, b14, b15].drop 4).take 8 = zer 8)) := by
    simp [comH, zer, List.replicate, and_assoc]
  have f : (b0 = 0 ∧ b1 = 0 ∧ b2 = 0 ∧ b3 = 0) ↔ firN [b0, b1, b2, b3, b4, b5, b6, b7, b8, b9, b10, b11, b12, b13, b14, b15] = 0 := by
    have r0 := u8eq b0 0 (by omega); have r1 := u8eq b1 0 (by omega); have r2 := u8eq b2 0 (by omega); have r3 := u8eq b3 0 (by omega)
    have er : firN [b0, b1, b2, b3, b4, b5, b6, b7, b8, b9, b10, b11, b12, b13, b14, b15] = b0.toNat * 16777216 + b1.toNat * 65536 + b2.toNat * 256 + b3.toNat := rfl
    rw [er]
    constructor
    · rintro ⟨a, b, c, d⟩
      have := r0.1 a; have := r1.1 b; have := r2.1 c; have := r3.1 d
      omega
    · intro h
      exact ⟨r0.2 (by omega), r1.2 (by omega), r2.2 (by omega), r3.2 (by omega)⟩
  unfold nouB
  rw [← Bool.decide_and]
  refine decide_eq_decide.2 ?_
  rw [e, f]
  constructor
  · rintro ⟨_, a, b⟩; exact ⟨b, a⟩
  · rintro ⟨a, b⟩; exact ⟨rfl, b, a⟩
theorem six_eq (B : List UInt8) : emb6 B = decide (firN B / 65536 = 8194) := by
  have r0 := u8eq (B.getD 0 0) 32 (by omega)
  have r1 := u8eq (B.getD 1 0) 2 (by omega)
  have r0' : B.getD 0 0 = 32 ↔ (B.getD 0 0).toNat = 32 := r0
  have r1' : B.getD 1 0 = 2 ↔ (B.getD 1 0).toNat = 2 := r1
  have h0 := (B.getD 0 0).toNat_lt; have h1 := (B.getD 1 0).toNat_lt; have h2 := (B.getD 2 0).toNat_lt; have h3 := (B.getD 3 0).toNat_lt
  unfold emb6
  rw [← Bool.decide_and]
  refine decide_eq_decide.2 ?_
  rw [r0', r1']
  unfold firN
  omega
theorem nou_next (B : List UInt8) (hB : B.length = 16) (k : Nat) (h4 : 4 ≤ k) (h12 : k < 12) : decide ((B.drop 4).take (k + 1 - 4) = zer (k + 1 - 4)) = (decide ((B.drop 4).take (k - 4) = zer (k - 4)) && decide (B.getD k 0 = 0)) := by
  rw [← Bool.decide_and]
  refine decide_eq_decide.2 ?_
  have e1 : (B.drop 4).take (k + 1 - 4) = (B.drop 4).take (k - 4) ++ [B.getD k 0] := by
    rw [show k + 1 - 4 = (k - 4) + 1 from by omega, take_snoc _ _ (by simp; omega)]
    congr 2
    rw [List.getD_eq_getElem?_getD, List.getD_eq_getElem?_getD, List.getElem?_drop, show 4 + (k - 4) = k from by omega]
  have e2 : zer (k + 1 - 4) = zer (k - 4) ++ [0] := by
    rw [show k + 1 - 4 = (k - 4) + 1 from by omega]; simp [zer, List.replicate_succ']
  rw [e1, e2]
  constructor
  · intro h
    have := List.append_inj h (by simp [zer]; omega)
    exact ⟨this.1, by simpa using this.2⟩
  · rintro ⟨a, b⟩; rw [a, b]

set_option maxHeartbeats 1000000 in
theorem refEmb_four (B : List UInt8) (w : World) : Calls Try.prog 17 #[.agg (acs false B)] w fun e w' => e = .returned (.tuple #[.agg (acs false (ansB (embO false B))), .bool (embO false B).isSome]) ∧ Below w.heap.size w w' := by
  have c0 := acs_zero false B
  generalize acs false B = X at c0 ⊢
  go_enter Try.func17, Try.ntmps17
  go_wp2_with (first
    | (refine store_addr rfl _ _ rfl (w.heap.size + 1) false (zer 16) rfl rfl rfl _ (by rw [← sz_alloc]; exact heap_alloc_new _ _) rfl ?_)
    | fail)
  intro W2 hO2 hW2
  go_wp2
  exact bodyPost_ret (ret_addr2 (p := 2) (q := 3) Try.results17 _ _ (w.heap.size + 1) false (zer 16) rfl (0, 0) _ rfl rfl hW2) rfl ⟨rfl, (alloc_below (alloc_below (Below.refl _ w) (Nat.le_refl _) _) (by simp) _).trans (hO2.below (by omega))⟩

set_option maxHeartbeats 4000000 in
theorem refEmb_six (B : List UInt8) (hB : B.length = 16) (w : World) : Calls Try.prog 17 #[.agg (acs true B)] w fun e w' => e = .returned (.tuple #[.agg (acs false (ansB (embO true B))), .bool (embO true B).isSome]) ∧ Below w.heap.size w w' := by
  obtain ⟨qm, hqm⟩ : ∃ t, t = isH mapH true B := ⟨_, rfl⟩
  obtain ⟨no, hno⟩ : ∃ t, t = nouB B := ⟨_, rfl⟩
  obtain ⟨F, hF⟩ : ∃ F, F = firN B := ⟨_, rfl⟩
  obtain ⟨u0, hu0⟩ : ∃ t, t = decide (tailL B 12 = v4B 0) := ⟨_, rfl⟩
  obtain ⟨u1, hu1⟩ : ∃ t, t = decide (tailL B 12 = v4B 1) := ⟨_, rfl⟩
  have HOE : Hid (embO true B = if (qm || (no && decide (F = 6619035)) || ((no && decide (F = 0)) && !(u0 || u1))) then some (tailL B 12) else if decide (F / 65536 = 8194) then some (tailL B 2) else none) := by
    show _ = _
    unfold embO embC
    rw [nat_eq B hB, com_eq B hB, six_eq, ← hqm, ← hno, ← hF]
    have e0 : u0 = decide (lastL B = v4L 0 0 0 0) := hu0
    have e1 : u1 = decide (lastL B = v4L 0 0 0 1) := hu1
    rw [← e0, ← e1]; rfl
  have q0 := fun W => eqV false false (tailL B 12) (v4B 0) rfl rfl u0 (by rw [hu0]; simp) W
  have q1 := fun W => eqV false false (tailL B 12) (v4B 1) rfl rfl u1 (by rw [hu1]; simp) W
  have hg := guardA
  have HMP := hid (fun W => refMapped_any true B hB W)
  rw [← hqm] at HMP
  have HT12 : Hid (∀ W, Calls Try.prog 30 #[.agg (acs true B), .int .i64 12] W fun e w' => e = .returned (.agg (acs false (tailL B 12))) ∧ Below W.heap.size W w') := fun W => refTail_any true B hB 12 (by omega) W
  have HT2 : Hid (∀ W, Calls Try.prog 30 #[.agg (acs true B), .int .i64 2] W fun e w' => e = .returned (.agg (acs false (tailL B 2))) ∧ Below W.heap.size W w') := fun W => refTail_any true B hB 2 (by omega) W
  have HV0 : Hid (∀ W, Calls Try.prog 34 #[.int .u64 0] W fun e w' => e = .returned (.agg (acs false (v4B 0))) ∧ Below W.heap.size W w') := fun W => refV4_any 0 (by omega) W
  have HV1 : Hid (∀ W, Calls Try.prog 34 #[.int .u64 1] W fun e w' => e = .returned (.agg (acs false (v4B 1))) ∧ Below W.heap.size W w') := fun W => refV4_any 1 (by omega) W
  have HTL : Hid ((tailL B 12).length = 16) := rfl
  have HTL2 : Hid ((tailL B 2).length = 16) := rfl
  have c0 := acs_zero true B
  have HAT : Hid (∀ j, j < 16 → (acs true B)[1 + j]? = some (.int .u8 (B.getD j 0).toNat)) := fun j hj => by rw [Nat.add_comm]; exact acs_at true B j (by omega)
  have HNX := hid (nou_next B hB)
  have HNO : Hid (no = decide ((B.drop 4).take (12 - 4) = zer (12 - 4))) := hno
  have HLDX : Hid (∀ {W : World} {g : Nat}, W.heap[g]? = some (.cells (acs true B) 24 (0, 0)) → (loadI 24 (.pointer (some ⟨g, 0, none⟩))).run Try.prog W = .ok (.agg (acs true B)) W) := fun h => loadA_row hB h
  have HLDT : Hid (∀ {W : World} {g : Nat}, W.heap[g]? = some (.cells (acs false (tailL B 12)) 24 (0, 0)) → LDA W g (acs false (tailL B 12))) := fun h d os => loadA_re rfl h d os
  have HFE : Hid ((F : Int) = ((B.getD 0 0).toNat : Int) * 16777216 + ((B.getD 1 0).toNat : Int) * 65536 + ((B.getD 2 0).toNat : Int) * 256 + ((B.getD 3 0).toNat : Int)) := by show _ = _; rw [hF]; unfold firN; omega
  have hFl : F < 4294967296 := by
    have h0 := (B.getD 0 0).toNat_lt; have h1 := (B.getD 1 0).toNat_lt; have h2 := (B.getD 2 0).toNat_lt; have h3 := (B.getD 3 0).toNat_lt
    rw [hF]; unfold firN; omega
  clear hqm hno hF hu0 hu1
  generalize tailL B 12 = TB at HOE q0 q1 HT12 HTL HLDT
  generalize tailL B 2 = T2 at HOE HT2 HTL2
  generalize acs false (v4B 0) = Z0 at q0 HV0
  generalize acs false (v4B 1) = Z1 at q1 HV1
  generalize acs true B = X at c0 HAT HMP HT12 HT2 HLDX ⊢
  go_enter Try.func17, Try.ntmps17
  go_wp2_with fail
  obtain ⟨V, hV⟩ : ∃ V, V = (w.alloc (Obj.cells X 24)).alloc (Obj.cells #[.bool false, .int .u8 0, .int .u8 0, .int .u8 0, .int .u8 0, .int .u8 0, .int .u8 0, .int .u8 0, .int .u8 0, .int .u8 0, .int .u8 0, .int .u8 0, .int .u8 0, .int .u8 0, .int .u8 0, .int .u8 0, .int .u8 0] 24) := ⟨_, rfl⟩
  have HRV : Hid (∀ W, Below V.heap.size V W → W.heap[w.heap.size]? = some (.cells X 24 (0, 0)) ∧ (∃ Z : Array Value, Z.size = 17 ∧ W.heap[w.heap.size + 1]? = some (.cells Z 24 (0, 0))) ∧ Below w.heap.size w W ∧ w.heap.size + 2 ≤ W.heap.size) := fun W hb => by
    have hz : V.heap.size = w.heap.size + 2 := by rw [hV]; simp
    have hb2 := hb.size
    refine ⟨(hb.block _ (by omega)).trans (by rw [hV]; exact (Below.heap_alloc _ _ _ (by simp)).trans (heap_alloc_new w _)), ⟨_, rfl, (hb.block _ (by omega)).trans (by rw [hV, ← sz_alloc w (Obj.cells X 24)]; exact heap_alloc_new _ _)⟩, Below.trans (by rw [hV]; exact alloc_below (alloc_below (Below.refl _ w) (Nat.le_refl _) _) (by simp) _) (hb.mono (by omega)), by omega⟩
  rw [← hV]
  clear hV c0
  go_loop [4, 5] (fun nv iv => ∃ (k : Nat) (q : Bool), 4 ≤ k ∧ k ≤ 12 ∧ iv = .int .i64 (k : Int) ∧ nv = .bool q ∧ Hid (q = decide ((B.drop 4).take (k - 4) = zer (k - 4)))) (fun _ i => 12 - (intOf i).toNat)
  case atStart => exact ⟨4, true, by omega, by omega, rfl, rfl, rfl⟩
  case round =>
    obtain ⟨k, q, hk4, hk, rfl, rfl, HQ⟩ := hrel
    by_cases hk12 : (k : Int) < 12
    · have hc : V.cell? ⟨w.heap.size, 1 + k, none⟩ = some (.int .u8 (B.getD k 0).toNat) := by rw [cell_of_row _ _ _ _ _ _ (HRV.out V (Below.refl _ _)).1]; exact HAT.out k (by omega)
      have HN := hid (HNX.out k hk4 (by omega))
      rw [← HQ.out] at HN
      generalize B.getD k 0 = b at hc HN
      have hbb := eq48 b 0 (by omega)
      have hbb' : (((b.toNat : Nat) : Int) == 0) = decide (b = 0) := hbb
      clear hbb
      obtain ⟨z, hz⟩ : ∃ z, z = decide (b = 0) := ⟨_, rfl⟩
      rw [← hz] at HN hbb'
      have hbb2 : (b.toNat == 0) = z := by rw [hz]; by_cases h : b = 0
                                           · simp [h]
                                           · have : b.toNat ≠ 0 := fun e => h (UInt8.toNat_inj.1 (by simpa using e))
                                             simp [h, this]
      clear hz
      cases q
      · go_wp2_with fail
        go_round
        case rel => exact ⟨k + 1, false, by omega, by omega, by go_num, rfl, HN.out.symm⟩
        case measure => simp [intOf]; omega
      · cases z
        · go_wp2_with fail
          go_round
          case rel => exact ⟨k + 1, false, by omega, by omega, by go_num, rfl, HN.out.symm⟩
          case measure => simp [intOf]; omega
        · go_wp2_with fail
          go_round
          case rel => exact ⟨k + 1, true, by omega, by omega, by go_num, rfl, HN.out.symm⟩
          case measure => simp [intOf]; omega
    · have hk' : k = 12 := by omega
      subst hk'
      have hqn : q = no := by rw [HQ.out, HNO.out]
      subst hqn
      have hx : ∀ j, j < 4 → V.cell? ⟨w.heap.size, 1 + j, none⟩ = some (.int .u8 (B.getD j 0).toNat) := fun j hj => by rw [cell_of_row _ _ _ _ _ _ (HRV.out V (Below.refl _ _)).1]; exact HAT.out j (by omega)
      have x0 : V.cell? ⟨w.heap.size, 1, none⟩ = _ := hx 0 (by omega)
      have x1 : V.cell? ⟨w.heap.size, 2, none⟩ = _ := hx 1 (by omega)
      have x2 : V.cell? ⟨w.heap.size, 3, none⟩ = _ := hx 2 (by omega)
      have x3 : V.cell? ⟨w.heap.size, 4, none⟩ = _ := hx 3 (by omega)
      clear hx
      have hFE := HFE.out
      generalize B.getD 0 0 = b0 at x0 hFE
      generalize B.getD 1 0 = b1 at x1 hFE
      generalize B.getD 2 0 = b2 at x2 hFE
      generalize B.getD 3 0 = b3 at x3 hFE
      have l0 := b0.toNat_lt; have l1 := b1.toNat_lt; have l2 := b2.toNat_lt; have l3 := b3.toNat_lt
      have hFE' : ((b0.toNat : Nat) : Int) * 16777216 + ((b1.toNat : Nat) : Int) * 65536 + ((b2.toNat : Nat) : Int) * 256 + ((b3.toNat : Nat) : Int) = (F : Int) := hFE.symm
      clear hFE
      have hl := HLDX.out (HRV.out V (Below.refl _ _)).1
      go_wp2_with fail
      refine (HMP.out _).mono ?_
      rintro e Wm ⟨rfl, hbm⟩
      have HBM := hid hbm
      clear hbm hl x0 x1 x2 x3 hFE' l0 l1 l2 l3
      have hlm := HLDX.out (HRV.out Wm HBM.out).1
      clear hlm
      cases qm
      case true =>
        have HF : Hid (embO true B = some TB) := by show _ = _; rw [HOE.out]; simp
        have hlWm := HLDX.out (HRV.out Wm HBM.out).1
        clear q0 q1 hg
        go_wp2_with fail
        refine (HT12.out _).mono ?_
        rintro e W5 ⟨rfl, hb5⟩
        obtain ⟨_, ⟨Z, hZs, r2⟩, r4, _⟩ := HRV.out W5 (HBM.out.trans (hb5.mono HBM.out.size))
        have R2 := hid r2; have R4 := hid r4
        clear hb5 r2 r4 hlWm
        go_wp2_with (first
          | (refine store_addr rfl _ _ rfl (w.heap.size + 1) false TB HTL.out rfl rfl _ R2.out hZs ?_)
          | fail)
        intro W3 hO3 hW3
        go_wp2
        refine bodyPost_ret (ret_addr2 (p := 2) (q := 3) Try.results17 _ _ (w.heap.size + 1) false TB HTL.out (0, 0) _ rfl rfl hW3) rfl ⟨?_, R4.out.trans (hO3.below (by omega))⟩
        rw [HF.out]; rfl
      cases q
      case false =>
        by_cases h6 : F / 65536 = 8194
        · have HF : Hid (embO true B = some T2) := by show _ = _; rw [HOE.out]; simp [h6]
          have h6i : (((F : Int) / 65536) == 8194) = true := by rw [beq_iff_eq]; omega
          have h6t : (((F : Int).tdiv 65536) == 8194) = true := by rw [beq_iff_eq, Int.tdiv_eq_ediv_of_nonneg (by omega)]; omega
          have h6e : (F : Int) / 65536 = 8194 := by omega
          clear h6
          have hlWm := HLDX.out (HRV.out Wm HBM.out).1
          clear q0 q1 hg
          go_wp2_with fail
          refine (HT2.out _).mono ?_
          rintro e W5 ⟨rfl, hb5⟩
          obtain ⟨_, ⟨Z, hZs, r2⟩, r4, _⟩ := HRV.out W5 (HBM.out.trans (hb5.mono HBM.out.size))
          have R2 := hid r2; have R4 := hid r4
          clear hb5 r2 r4 hlWm
          go_wp2_with (first
            | (refine store_addr rfl _ _ rfl (w.heap.size + 1) false T2 HTL2.out rfl rfl _ R2.out hZs ?_)
            | fail)
          intro W3 hO3 hW3
          go_wp2
          refine bodyPost_ret (ret_addr2 (p := 2) (q := 3) Try.results17 _ _ (w.heap.size + 1) false T2 HTL2.out (0, 0) _ rfl rfl hW3) rfl ⟨?_, R4.out.trans (hO3.below (by omega))⟩
          rw [HF.out]; rfl
        · have HF : Hid (embO true B = none) := by show _ = _; rw [HOE.out]; simp [h6]
          have h6i : (((F : Int) / 65536) == 8194) = false := by rw [beq_eq_false_iff_ne]; omega
          have h6t : (((F : Int).tdiv 65536) == 8194) = false := by rw [beq_eq_false_iff_ne, Int.tdiv_eq_ediv_of_nonneg (by omega)]; omega
          have h6e : ¬ (F : Int) / 65536 = 8194 := by omega
          clear h6
          obtain ⟨_, ⟨Z, hZs, r2⟩, r4, _⟩ := HRV.out Wm HBM.out
          have R2 := hid r2; have R4 := hid r4
          clear r2 r4 q0 q1 hg
          go_wp2_with (first
            | (refine store_addr rfl _ _ rfl (w.heap.size + 1) false (zer 16) rfl rfl rfl _ R2.out hZs ?_)
            | fail)
          intro W3 hO3 hW3
          go_wp2
          refine bodyPost_ret (ret_addr2 (p := 2) (q := 3) Try.results17 _ _ (w.heap.size + 1) false (zer 16) rfl (0, 0) _ rfl rfl hW3) rfl ⟨?_, R4.out.trans (hO3.below (by omega))⟩
          rw [HF.out]; rfl
      by_cases hfn : F = 6619035
      · have HF : Hid (embO true B = some TB) := by show _ = _; rw [HOE.out]; simp [hfn]
        subst hfn
        have hlWm := HLDX.out (HRV.out Wm HBM.out).1
        clear q0 q1 hg
        go_wp2_with fail
        refine (HT12.out _).mono ?_
        rintro e W5 ⟨rfl, hb5⟩
        obtain ⟨_, ⟨Z, hZs, r2⟩, r4, _⟩ := HRV.out W5 (HBM.out.trans (hb5.mono HBM.out.size))
        have R2 := hid r2; have R4 := hid r4
        clear hb5 r2 r4 hlWm
        go_wp2_with (first
          | (refine store_addr rfl _ _ rfl (w.heap.size + 1) false TB HTL.out rfl rfl _ R2.out hZs ?_)
          | fail)
        intro W3 hO3 hW3
        go_wp2
        refine bodyPost_ret (ret_addr2 (p := 2) (q := 3) Try.results17 _ _ (w.heap.size + 1) false TB HTL.out (0, 0) _ rfl rfl hW3) rfl ⟨?_, R4.out.trans (hO3.below (by omega))⟩
        rw [HF.out]; rfl
      have hfnb : (((F : Nat) : Int) == 6619035) = false := by rw [beq_eq_false_iff_ne]; omega
      by_cases hfc : F = 0
      case neg =>
        have hfcb : (((F : Nat) : Int) == 0) = false := by rw [beq_eq_false_iff_ne]; omega
        have hfcn : (F == 0) = false := by simpa using hfc
        by_cases h6 : F / 65536 = 8194
        · have HF : Hid (embO true B = some T2) := by show _ = _; rw [HOE.out]; simp [hfn, hfc, h6]
          have h6i : (((F : Int) / 65536) == 8194) = true := by rw [beq_iff_eq]; omega
          have h6t : (((F : Int).tdiv 65536) == 8194) = true := by rw [beq_iff_eq, Int.tdiv_eq_ediv_of_nonneg (by omega)]; omega
          have h6e : (F : Int) / 65536 = 8194 := by omega
          clear h6
          have hlWm := HLDX.out (HRV.out Wm HBM.out).1
          clear q0 q1 hg
          go_wp2_with fail
          refine (HT2.out _).mono ?_
          rintro e W5 ⟨rfl, hb5⟩
          obtain ⟨_, ⟨Z, hZs, r2⟩, r4, _⟩ := HRV.out W5 (HBM.out.trans (hb5.mono HBM.out.size))
          have R2 := hid r2; have R4 := hid r4
          clear hb5 r2 r4 hlWm
          go_wp2_with (first
            | (refine store_addr rfl _ _ rfl (w.heap.size + 1) false T2 HTL2.out rfl rfl _ R2.out hZs ?_)
            | fail)
          intro W3 hO3 hW3
          go_wp2
          refine bodyPost_ret (ret_addr2 (p := 2) (q := 3) Try.results17 _ _ (w.heap.size + 1) false T2 HTL2.out (0, 0) _ rfl rfl hW3) rfl ⟨?_, R4.out.trans (hO3.below (by omega))⟩
          rw [HF.out]; rfl
        · have HF : Hid (embO true B = none) := by show _ = _; rw [HOE.out]; simp [hfn, hfc, h6]
          have h6i : (((F : Int) / 65536) == 8194) = false := by rw [beq_eq_false_iff_ne]; omega
          have h6t : (((F : Int).tdiv 65536) == 8194) = false := by rw [beq_eq_false_iff_ne, Int.tdiv_eq_ediv_of_nonneg (by omega)]; omega
          have h6e : ¬ (F : Int) / 65536 = 8194 := by omega
          clear h6
          obtain ⟨_, ⟨Z, hZs, r2⟩, r4, _⟩ := HRV.out Wm HBM.out
          have R2 := hid r2; have R4 := hid r4
          clear r2 r4 q0 q1 hg
          go_wp2_with (first
            | (refine store_addr rfl _ _ rfl (w.heap.size + 1) false (zer 16) rfl rfl rfl _ R2.out hZs ?_)
            | fail)
          intro W3 hO3 hW3
          go_wp2
          refine bodyPost_ret (ret_addr2 (p := 2) (q := 3) Try.results17 _ _ (w.heap.size + 1) false (zer 16) rfl (0, 0) _ rfl rfl hW3) rfl ⟨?_, R4.out.trans (hO3.below (by omega))⟩
          rw [HF.out]; rfl
      subst hfc
      have hlm := HLDX.out (HRV.out Wm HBM.out).1
      clear hfn hfnb
      go_wp2_with fail
      refine (HT12.out _).mono ?_
      rintro e W5 ⟨rfl, hb5⟩
      have HB5 : Hid (Below V.heap.size V W5) := HBM.out.trans (hb5.mono HBM.out.size)
      clear hb5 hlm
      go_wp2_with (first
        | (refine store_addr rfl _ _ rfl W5.heap.size false TB HTL.out rfl rfl _ (heap_alloc_new W5 _) rfl ?_)
        | fail)
      intro W6 hO6 hW6
      have HB6 : Hid (Below V.heap.size V W6) := (alloc_below HB5.out HB5.out.size _).trans (hO6.below HB5.out.size)
      have HW6 := hid hW6
      have hz6 : W5.heap.size < W6.heap.size := by rw [hO6.size]; simp
      have k1 := HLDT.out hW6
      have c1 : REG 34 #[.int .u64 0] W6 (.agg Z0) := fun d os => Calls.regrown_of (HV0.out _)
      have c2 : REG 34 #[.int .u64 1] W6 (.agg Z1) := fun d os => Calls.regrown_of (HV1.out _)
      clear hO6 hW6
      go_wp2_with fail
      cases u0
      · cases u1
        · refine wp_region_quiet_below (by kernel_rfl) (by kernel_rfl) ?_
          repeat (quiet_step (first | (go_at_call_of 34 (Value.int IntKind.u64 1); exact c2 _ _) | exact c1 _ _))
          refine wpQuiet_nil ?_
          rintro W9 ⟨⟨dqW9, osqW9⟩, hwW9⟩
          have HQW9 : Hid (Below W6.heap.size W6 W9) := by rw [hwW9]; exact below_regrown W6 dqW9 osqW9
          clear hwW9
          have HB9 : Hid (Below V.heap.size V W9) := HB6.out.trans (HQW9.out.mono HB6.out.size)
          have HW9 : Hid (W9.heap[W5.heap.size]? = some (.cells (acs false TB) 24 (0, 0))) := (HQW9.out.block _ hz6).trans HW6.out
          clear k1 c1 c2
          have HF : Hid (embO true B = some TB) := by show _ = _; rw [HOE.out]; simp
          obtain ⟨_, ⟨Z, hZs, r2⟩, r4, _⟩ := HRV.out W9 HB9.out
          have R2 := hid r2; have R4 := hid r4
          clear r2 r4 q0 q1 hg
          go_wp2_with (first
            | (refine load_addr rfl _ rfl W5.heap.size false TB HTL.out rfl (0, 0) HW9.out ?_)
            | (refine store_addr rfl _ _ rfl (w.heap.size + 1) false TB HTL.out rfl rfl _ R2.out hZs ?_)
            | fail)
          intro W3 hO3 hW3
          go_wp2
          refine bodyPost_ret (ret_addr2 (p := 2) (q := 3) Try.results17 _ _ (w.heap.size + 1) false TB HTL.out (0, 0) _ rfl rfl hW3) rfl ⟨?_, R4.out.trans (hO3.below (by omega))⟩
          rw [HF.out]; rfl
        · refine wp_region_quiet_below (by kernel_rfl) (by kernel_rfl) ?_
          repeat (quiet_step (first | (go_at_call_of 34 (Value.int IntKind.u64 1); exact c2 _ _) | exact c1 _ _))
          refine wpQuiet_nil ?_
          rintro W9 ⟨⟨dqW9, osqW9⟩, hwW9⟩
          have HQW9 : Hid (Below W6.heap.size W6 W9) := by rw [hwW9]; exact below_regrown W6 dqW9 osqW9
          clear hwW9
          have HB9 : Hid (Below V.heap.size V W9) := HB6.out.trans (HQW9.out.mono HB6.out.size)
          have HW9 : Hid (W9.heap[W5.heap.size]? = some (.cells (acs false TB) 24 (0, 0))) := (HQW9.out.block _ hz6).trans HW6.out
          clear k1 c1 c2
          have HF : Hid (embO true B = none) := by show _ = _; rw [HOE.out]; simp
          obtain ⟨_, ⟨Z, hZs, r2⟩, r4, _⟩ := HRV.out W9 HB9.out
          have R2 := hid r2; have R4 := hid r4
          clear r2 r4 q0 q1 hg
          go_wp2_with (first
            | (refine store_addr rfl _ _ rfl (w.heap.size + 1) false (zer 16) rfl rfl rfl _ R2.out hZs ?_)
            | fail)
          intro W3 hO3 hW3
          go_wp2
          refine bodyPost_ret (ret_addr2 (p := 2) (q := 3) Try.results17 _ _ (w.heap.size + 1) false (zer 16) rfl (0, 0) _ rfl rfl hW3) rfl ⟨?_, R4.out.trans (hO3.below (by omega))⟩
          rw [HF.out]; rfl
      · refine wp_region_quiet_below (by kernel_rfl) (by kernel_rfl) ?_
        repeat (quiet_step (first | (go_at_call_of 34 (Value.int IntKind.u64 1); exact c2 _ _) | exact c1 _ _))
        refine wpQuiet_nil ?_
        rintro W9 ⟨⟨dqW9, osqW9⟩, hwW9⟩
        have HQW9 : Hid (Below W6.heap.size W6 W9) := by rw [hwW9]; exact below_regrown W6 dqW9 osqW9
        clear hwW9
        have HB9 : Hid (Below V.heap.size V W9) := HB6.out.trans (HQW9.out.mono HB6.out.size)
        have HW9 : Hid (W9.heap[W5.heap.size]? = some (.cells (acs false TB) 24 (0, 0))) := (HQW9.out.block _ hz6).trans HW6.out
        clear k1 c1 c2
        have HF : Hid (embO true B = none) := by show _ = _; rw [HOE.out]; simp
        obtain ⟨_, ⟨Z, hZs, r2⟩, r4, _⟩ := HRV.out W9 HB9.out
        have R2 := hid r2; have R4 := hid r4
        clear r2 r4 q0 q1 hg
        go_wp2_with (first
          | (refine store_addr rfl _ _ rfl (w.heap.size + 1) false (zer 16) rfl rfl rfl _ R2.out hZs ?_)
          | fail)
        intro W3 hO3 hW3
        go_wp2
        refine bodyPost_ret (ret_addr2 (p := 2) (q := 3) Try.results17 _ _ (w.heap.size + 1) false (zer 16) rfl (0, 0) _ rfl rfl hW3) rfl ⟨?_, R4.out.trans (hO3.below (by omega))⟩
        rw [HF.out]; rfl

theorem refEmb_any (v : Bool) (B : List UInt8) (hB : B.length = 16) (w : World) : Calls Try.prog 17 #[.agg (acs v B)] w fun e w' => e = .returned (.tuple #[.agg (acs false (ansB (embO v B))), .bool (embO v B).isSome]) ∧ Below w.heap.size w w' := by
  cases v
  · exact refEmb_four B w
  · exact refEmb_six B hB w
end Go.Proofs.Ytocdjgehjiolhaa
