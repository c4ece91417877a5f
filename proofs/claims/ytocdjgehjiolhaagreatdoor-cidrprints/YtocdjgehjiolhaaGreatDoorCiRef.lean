
/- What the reference's bits, bit, May and Has of layer 6 do. -/
import Derived.Test.YtocdjgehjiolhaaGreatDoorCiChk
import Derived.Test.YtocdjgehjiolhaaGreatDoorIpRMay
namespace Go.Proofs.YtocdjgehjiolhaaGreatDoor
open Go.RowKit Go.BigFrame
attribute [local go_sem ↓] loadA_eq loadN_eq

set_option maxHeartbeats 1000000 in
theorem refbits_any (v : Bool) (B : List UInt8) (w : World) : Calls Tryz.prog 13 #[.agg (acs v B)] w fun e w' => e = .returned (.int .i64 (totB v)) ∧ Below w.heap.size w w' := by
  have c0 := acs_zero v B
  generalize acs v B = X at c0 ⊢
  cases v
  · go_enter Tryz.func13, Tryz.ntmps13
    go_wp2_with fail
    go_ret
    exact ⟨rfl, alloc_below (Below.refl _ w) (Nat.le_refl _) _⟩
  · go_enter Tryz.func13, Tryz.ntmps13
    go_wp2_with fail
    go_ret
    exact ⟨rfl, alloc_below (Below.refl _ w) (Nat.le_refl _) _⟩
/-- The reference's May of layer 5, at either kind. -/
theorem refmay_any (v : Bool) (B : List UInt8) (hB : B.length = 16) (w : World) : Calls Tryz.prog 12 #[.agg (acs v B)] w fun e w' => e = .returned (.bool (mayB v B)) ∧ Below w.heap.size w w' := by
  cases v
  · have e : mayB false B = decide (B.take 12 = zer 12) := by unfold mayB; rw [Bool.false_or]; rfl
    rw [e]
    exact may_four B hB w
  · have e : mayB true B = true := rfl
    rw [e]
    exact may_six B w
theorem tmod_nat (b k : Nat) : ((b / 2 ^ k % 2 : Nat) : Int) = ((b : Int) / 2 ^ k).tmod 2 := by
  have e : (b : Int) / 2 ^ k = ((b / 2 ^ k : Nat) : Int) := by simp
  rw [e]
  rfl
set_option maxHeartbeats 1000000 in
theorem bit_any (v : Bool) (B : List UInt8) (hB : B.length = 16) (i : Nat) (hi : i < totB v) (w : World) : Calls Tryz.prog 14 #[.agg (acs v B), .int .i64 i] w fun e w' => e = .returned (.int .i64 (bitB B (offB v + i))) ∧ Below w.heap.size w w' := by
  have HAT : Hid (∀ j, j < 16 → (acs v B)[1 + j]? = some (.int .u8 (B.getD j 0).toNat)) := fun j hj => by rw [Nat.add_comm]; exact acs_at v B j (by omega)
  have c0 := acs_zero v B
  have hq : offB v + i < 128 := by have : offB v + totB v = 128 := by { cases v <;> rfl }; omega
  have HBI : Hid (bitB B (offB v + i) = (B.getD ((offB v + i) / 8) 0).toNat / 2 ^ (7 - (offB v + i) % 8) % 2) := rfl
  have HAT2 := hid (HAT.out ((offB v + i) / 8) (by omega))
  have hb : (B.getD ((offB v + i) / 8) 0).toNat < 256 := UInt8.toNat_lt _
  generalize acs v B = X at c0 HAT2 ⊢
  generalize (B.getD ((offB v + i) / 8) 0).toNat = b at HBI HAT2 hb
  generalize bitB B (offB v + i) = R at HBI ⊢
  clear HAT
  cases v
  · simp only [offB, Bool.false_eq_true, if_false] at hq HBI HAT2
    have hi' : i < 32 := hi
    have hx : X[1 + (i + 96) / 8]? = some (.int .u8 b) := by rw [Nat.add_comm i 96]; exact HAT2.out
    have HR : Hid ((R : Int) = ((b : Int) / 2 ^ (7 - (i + 96) % 8)).tmod 2) := by
      show _ = _
      rw [HBI.out, Nat.add_comm 96 i]
      exact tmod_nat b _
    clear HAT2 HBI
    go_enter Tryz.func14, Tryz.ntmps14
    go_wp2_with fail
    go_ret
    exact ⟨by rw [HR.out]; rfl, alloc_below (Below.refl _ w) (Nat.le_refl _) _⟩
  · simp only [offB, if_true, Nat.zero_add] at hq HBI HAT2
    have hx : X[1 + i / 8]? = some (.int .u8 b) := HAT2.out
    have HR : Hid ((R : Int) = ((b : Int) / 2 ^ (7 - i % 8)).tmod 2) := by
      show _ = _
      rw [HBI.out]
      exact tmod_nat b _
    clear HAT2 HBI
    go_enter Tryz.func14, Tryz.ntmps14
    go_wp2_with fail
    go_ret
    exact ⟨by rw [HR.out]; rfl, alloc_below (Below.refl _ w) (Nat.le_refl _) _⟩
theorem loadN_re0 {w : World} {g : Nat} {n : NetV} {fr : Nat × Nat} (hB : n.B.length = 16) (h : w.heap[g]? = some (.cells (ncs n) 26 fr)) (d : Nat) (os : Array Obj) : (loadI 26 (.pointer (some ⟨g, 0, none⟩))).run Tryz.prog (Sort.grow (redrawn w d) os) = .ok (.agg (ncs n)) (Sort.grow (redrawn w d) os) :=
  loadN_row hB (((below_regrown w d os).block g (Array.getElem?_eq_some_iff.1 h).1).trans h)
/-- All bits from a place on are nought. -/
theorem zero_step (v : Bool) (B : List UInt8) (k : Nat) (hk : k < totB v) : ((List.range (totB v - k)).all fun m => decide (bitB B (offB v + k + m) = 0)) = (decide (bitB B (offB v + k) = 0) && (List.range (totB v - (k + 1))).all fun m => decide (bitB B (offB v + (k + 1) + m) = 0)) := by
  rw [show totB v - k = (totB v - (k + 1)) + 1 from by omega, List.range_succ_eq_map, List.all_cons, List.all_map, Nat.add_zero]
  refine congrArg (fun x => decide (bitB B (offB v + k) = 0) && x) ?_
  refine congrArg (fun f => (List.range (totB v - (k + 1))).all f) ?_
  funext m
  show decide (bitB B (offB v + k + (m + 1)) = 0) = decide (bitB B (offB v + (k + 1) + m) = 0)
  rw [show offB v + k + (m + 1) = offB v + (k + 1) + m from by omega]
theorem zero_end (v : Bool) (B : List UInt8) : ((List.range (totB v - totB v)).all fun m => decide (bitB B (offB v + totB v + m) = 0)) = true := by rw [Nat.sub_self]; rfl
def zerV (v : Bool) (B : List UInt8) (k : Nat) : Bool := (List.range (totB v - k)).all fun m => decide (bitB B (offB v + k + m) = 0)
set_option maxHeartbeats 4000000 in
theorem refMay_net (n : NetV) (hB : n.B.length = 16) (w : World) : Calls Tryz.prog 5 #[.agg (ncs n)] w fun e w' => e = .returned (.bool (mayV n)) ∧ Below w.heap.size w w' := by
  have HMF : Hid (mayV n = (mayB n.v n.B && decide (0 ≤ n.k) && decide (n.k ≤ totB n.v) && zerV n.v n.B n.k.toNat)) := rfl
  have HC := hid (fun W => refmay_any n.v n.B hB W)
  have HWD := hid (fun W => refbits_any n.v n.B W)
  have HBT := hid (fun i hi W => bit_any n.v n.B hB i hi W)
  have HZS : Hid (∀ k, k < totB n.v → zerV n.v n.B k = (decide (bitB n.B (offB n.v + k) = 0) && zerV n.v n.B (k + 1))) := fun k hk => zero_step n.v n.B k hk
  have HZE : Hid (zerV n.v n.B (totB n.v) = true) := zero_end n.v n.B
  have htot := tot_le n.v
  have HLD : Hid (∀ {W : World} {g : Nat}, W.heap[g]? = some (.cells (ncs n) 26 (0, 0)) → LDA W g (acs n.v n.B) ∧ (loadI 24 (.pointer (some ⟨g, 0, none⟩))).run Tryz.prog W = .ok (.agg (acs n.v n.B)) W) := fun h => ⟨loadNA_re hB h, loadNA_row hB h⟩
  have HBI := hid (ncs_bits n hB)
  generalize acs n.v n.B = AX at HC HWD HBT HLD
  generalize mayB n.v n.B = m at HMF HC
  generalize zerV n.v n.B = Z at HMF HZS HZE
  generalize totB n.v = tt at HMF HWD htot HZS HZE HBT
  generalize mayV n = may at HMF ⊢
  generalize ncs n = X at HLD HBI ⊢
  generalize n.k = k at HMF HBI
  go_enter Tryz.func5, Tryz.ntmps5
  go_wp2_with fail
  obtain ⟨V, hV⟩ : ∃ V, V = w.alloc (Obj.cells X 26) := ⟨_, rfl⟩
  have HR : Hid (V.heap[w.heap.size]? = some (.cells X 26 (0, 0))) := by rw [hV]; exact heap_alloc_new w _
  have HB : Hid (Below w.heap.size w V) := by rw [hV]; exact alloc_below (Below.refl _ w) (Nat.le_refl _) _
  have hz : w.heap.size < V.heap.size := by rw [hV]; simp
  rw [← hV]
  clear hV
  have k0 := cell_regrown (w := V) (a := ⟨w.heap.size, 17, none⟩) (v := .int .i64 k) (by rw [cell_of_row _ _ _ _ _ _ HR.out]; exact HBI.out)
  have k1 := (HLD.out HR.out).1
  have c1 : REG 12 #[.agg AX] V (.bool m) := fun d os => Calls.regrown_of (HC.out _)
  have c2 : REG 13 #[.agg AX] V (.int .i64 tt) := fun d os => Calls.regrown_of (HWD.out _)
  cases m
  · have hm : may = false := by rw [HMF.out]; simp
    subst hm
    refine wp_region_quiet_below (by kernel_rfl) (by kernel_rfl) ?_
    repeat (go_big_quiet_step (first | (go_at_call 12; exact c1 _ _)))
    refine wpQuiet_nil ?_
    rintro W9 ⟨⟨dq, osq⟩, hw⟩
    have HB9 : Hid (Below V.heap.size V W9) := by rw [hw]; exact below_regrown V dq osq
    clear hw k0 k1 c1 c2
    go_wp2_with fail
    go_ret
    exact ⟨rfl, HB.out.trans (HB9.out.mono (by omega))⟩
  by_cases hk0 : k < 0
  · have hm : may = false := by rw [HMF.out, decide_eq_false (by omega : ¬ 0 ≤ k)]; simp
    subst hm
    have hd : decide (k < 0) = true := decide_eq_true hk0
    refine wp_region_quiet_below (by kernel_rfl) (by kernel_rfl) ?_
    repeat (go_big_quiet_step (first | (go_at_call 12; exact c1 _ _)))
    refine wpQuiet_nil ?_
    rintro W9 ⟨⟨dq, osq⟩, hw⟩
    have HB9 : Hid (Below V.heap.size V W9) := by rw [hw]; exact below_regrown V dq osq
    clear hw k0 k1 c1 c2
    go_wp2_with fail
    go_ret
    exact ⟨rfl, HB.out.trans (HB9.out.mono (by omega))⟩
  have hd0 : decide (k < 0) = false := decide_eq_false hk0
  by_cases hk1 : (tt : Int) < k
  · have hm : may = false := by rw [HMF.out, decide_eq_false (by omega : ¬ k ≤ (tt : Int))]; simp
    subst hm
    have hd : decide ((tt : Int) < k) = true := decide_eq_true hk1
    refine wp_region_quiet_below (by kernel_rfl) (by kernel_rfl) ?_
    repeat (go_big_quiet_step (first | (go_at_call 12; exact c1 _ _) | (go_at_call 13; exact c2 _ _)))
    refine wpQuiet_nil ?_
    rintro W9 ⟨⟨dq, osq⟩, hw⟩
    have HB9 : Hid (Below V.heap.size V W9) := by rw [hw]; exact below_regrown V dq osq
    clear hw k0 k1 c1 c2
    go_wp2_with fail
    go_ret
    exact ⟨rfl, HB.out.trans (HB9.out.mono (by omega))⟩
  have hd1 : decide ((tt : Int) < k) = false := decide_eq_false hk1
  have HM : Hid (may = Z k.toNat) := by show _ = _; rw [HMF.out, decide_eq_true (by omega : 0 ≤ k), decide_eq_true (by omega : k ≤ (tt : Int))]; simp
  refine wp_region_quiet_below (by kernel_rfl) (by kernel_rfl) ?_
  repeat (go_big_quiet_step (first | (go_at_call 12; exact c1 _ _) | (go_at_call 13; exact c2 _ _)))
  refine wpQuiet_nil ?_
  rintro W9 ⟨⟨dq, osq⟩, hw⟩
  have HB9 : Hid (Below V.heap.size V W9) := by rw [hw]; exact below_regrown V dq osq
  clear hw k0 k1 c1 c2 hd0 hd1
  obtain ⟨k', rfl⟩ : ∃ k' : Nat, k = (k' : Int) := ⟨k.toNat, by omega⟩
  have hk' : k' ≤ tt := by omega
  rw [Int.toNat_natCast] at HM
  clear hk0 hk1 HMF
  have hc9 : W9.cell? ⟨w.heap.size, 17, none⟩ = some (.int .i64 (k' : Int)) := by rw [cell_of_row _ _ _ _ _ _ ((HB9.out.block _ hz).trans HR.out)]; exact HBI.out
  go_wp2_with fail
  clear hc9
  go_loopw [3] (fun iv wr => ∃ j : Nat, j ≤ tt ∧ iv = .int .i64 (j : Int) ∧ Hid (may = Z j) ∧ Hid (Below V.heap.size V wr)) (fun i _ => tt - (intOf i).toNat)
  case atStart => exact ⟨k', hk', rfl, HM, HB9⟩
  case round =>
    obtain ⟨j, hj, rfl, HJ, HBr⟩ := hrel
    have l1 := (HLD.out ((HBr.out.block _ hz).trans HR.out)).2
    go_wp2_with fail
    refine (HWD.out _).mono ?_
    rintro e W2 ⟨rfl, hb2⟩
    have HB2 : Hid (Below V.heap.size V W2) := HBr.out.trans (hb2.mono HBr.out.size)
    clear hb2 l1
    by_cases hjt : (j : Int) < (tt : Int)
    · have l2 := (HLD.out ((HB2.out.block _ hz).trans HR.out)).2
      have HBJ := hid (HBT.out j (by omega))
      have HZ := hid (HZS.out j (by omega))
      generalize bitB n.B (offB n.v + j) = x at HBJ HZ
      go_wp2_with fail
      refine (HBJ.out _).mono ?_
      rintro e W3 ⟨rfl, hb3⟩
      have HB3 : Hid (Below V.heap.size V W3) := HB2.out.trans (hb3.mono HB2.out.size)
      clear hb3 l2
      by_cases hx : x = 0
      · subst hx
        have HNX : Hid (may = Z (j + 1)) := by show _ = _; rw [HJ.out, HZ.out]; simp
        go_wp2_with fail
        go_roundw
        case rel => exact ⟨j + 1, by omega, by go_num, HNX, HB3⟩
        case measure => simp [intOf]; omega
      · have HF : Hid (may = false) := by show _ = _; rw [HJ.out, HZ.out]; simp [hx]
        have hxi : ((x : Int) == 0) = false := by simp; exact hx
        have hxn : ¬ (x : Int) = 0 := by omega
        go_wp2_with fail
        go_ret
        exact ⟨by rw [HF.out]; rfl, HB.out.trans (HB3.out.mono (by omega))⟩
    · have hj' : j = tt := by omega
      subst hj'
      have HT : Hid (may = true) := by show _ = _; rw [HJ.out, HZE.out]
      go_wp2_with fail
      go_ret
      exact ⟨by rw [HT.out]; rfl, HB.out.trans (HB2.out.mono (by omega))⟩
/-- Alike in the first bits, one more. -/
theorem has_step (v : Bool) (B C : List UInt8) (k : Nat) : ((List.range (k + 1)).all fun i => decide (bitB B (offB v + i) = bitB C (offB v + i))) = (((List.range k).all fun i => decide (bitB B (offB v + i) = bitB C (offB v + i))) && decide (bitB B (offB v + k) = bitB C (offB v + k))) := by
  rw [List.range_succ, List.all_append]
  simp
def alkV (v : Bool) (B C : List UInt8) (k : Nat) : Bool := (List.range k).all fun i => decide (bitB B (offB v + i) = bitB C (offB v + i))
theorem alk_false (v : Bool) (B C : List UInt8) (j k : Nat) (hj : j < k) (h : bitB B (offB v + j) ≠ bitB C (offB v + j)) : alkV v B C k = false := by
  unfold alkV
  rw [List.all_eq_false]
  exact ⟨j, List.mem_range.2 hj, by simpa using h⟩
end Go.Proofs.YtocdjgehjiolhaaGreatDoor
