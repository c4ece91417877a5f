
/- What the reference's mul does: a product in limbs. -/
import Derived.Test.YtggbianodoneeaaDoorLimb
namespace Go.Proofs.YtggbianodoneeaaDoor
open Go.RowKit
set_option linter.unusedSimpArgs false
set_option linter.unusedVariables false

/-- The product's limbs in block g. -/
def MulAt (g : Nat) (w : World) (L : List Nat) (v : Nat) : Prop := L.length = 24 ∧ val L = v ∧ w.heap[g]? = some (.cells (lvs L) 52 (0, 0))
theorem mul_u64 (x y : Nat) : ∃ m : Nat, (x : Int) * (y : Int) = (m : Int) ∧ m = x * y := ⟨x * y, by simp, rfl⟩
theorem limb24 (x y : Nat) (hx : x < 65536) (hy : y < 65536) : x * y ≤ 4294836225 := by
  have := Nat.mul_le_mul (Nat.le_of_lt_succ hx) (Nat.le_of_lt_succ hy)
  exact this
theorem val12 (A : List Nat) (h : A.length = 12) (hs : small A) : val A < 65536 ^ 12 := by have := val_lt A hs; rwa [h] at this

theorem small_zero : small (List.replicate 24 0) := by unfold small; decide
theorem plus_nat (a b : Nat) : (a : Int) + (b : Int) = ((a + b : Nat) : Int) := by simp

set_option maxRecDepth 100000 in
set_option maxHeartbeats 4000000 in
theorem mul_any (A B : List Nat) (hA : A.length = 12) (hB : B.length = 12) (sA : small A) (sB : small B) (ga gb ca cb : Nat) (w : World) (hga : ga < w.heap.size) (hgb : gb < w.heap.size)
    (hca : ∀ j, j < 12 → w.cell? ⟨ga, j, none⟩ = some (.int .u64 ((A.getD j 0 : Nat) : Int))) (hcb : ∀ j, j < 12 → w.cell? ⟨gb, j, none⟩ = some (.int .u64 ((B.getD j 0 : Nat) : Int))) :
    Calls Tryd.prog 36 #[.slice (some ⟨ga, 0, none⟩) 12 ca, .slice (some ⟨gb, 0, none⟩) 12 cb] w fun e w' => e = .returned (.slice (some ⟨w.heap.size, 0, none⟩) 12 24) ∧ (∃ R, MulAt w.heap.size w' R (val A * val B) ∧ small R) ∧ Below w.heap.size w w' := by
  have HA := hid hA
  have HB := hid hB
  have SA := hid sA
  have SB := hid sB
  have HCA := hid hca
  have HCB := hid hcb
  have HTOP : Hid (val A * val B < 65536 ^ 24) := by
    have h1 := val12 A hA sA
    have h2 := val12 B hB sB
    show _ < _
    calc val A * val B ≤ val A * 65536 ^ 12 := Nat.mul_le_mul_left _ (Nat.le_of_lt h2)
      _ < 65536 ^ 12 * 65536 ^ 12 := Nat.mul_lt_mul_of_pos_right h1 (by decide)
      _ = 65536 ^ 24 := by decide
  have HPL := hid (part2_le A B)
  have HPS := hid (part2_step A B)
  have HPR := hid (part2_row A B)
  have HP12 : Hid (part2 A B 12 0 = val A * val B) := by
    show _ = _
    unfold part2
    rw [List.take_of_length_le (by omega)]
    simp [val]
  have HP0 : Hid (part2 A B 0 0 = 0) := by show _ = _; unfold part2; simp [val]
  generalize part2 A B = Pt at HPL HPS HPR HP12 HP0
  generalize val A * val B = V at HTOP HPL HP12 ⊢
  have HB0 : Hid (∀ o, Below w.heap.size w (w.alloc o)) := fun o => (Below.refl _ _).alloc (Nat.le_refl _) o
  have hmk : (Instr.makeSlice 62 (.int .i64 24) (.int .i64 24)).run Tryd.prog w = .ok (.slice (some ⟨w.heap.size, 0, none⟩) 24 24) (w.alloc (.cells (lvs (List.replicate 24 0)) 52)) := make68 24 w (by omega) (by first | kernel_rfl | (simp [madeCells, lvs]))
  clear hA hB sA sB hca hcb
  go_enter Tryd.func36, Tryd.ntmps36
  go_wp2_with fail
  go_loopw [6] (fun iv wx => ∃ i : Nat, i ≤ 12 ∧ iv = .int .i64 (i : Int) ∧ Hid (∃ L, MulAt w.heap.size wx L (Pt i 0) ∧ small L) ∧ Hid (Below w.heap.size w wx)) (fun iv _ => 12 - (intOf iv).toNat)
  case atStart => exact ⟨0, by omega, rfl, ⟨List.replicate 24 0, ⟨by simp, by rw [HP0.out]; decide, heap_alloc_new w _⟩, small_zero⟩, HB0.out _⟩
  case round =>
    obtain ⟨i, hi, rfl, HL, HBW⟩ := hrel
    by_cases hlt : i < 12
    · go_wp2_with fail
      have e1 : decide ((i : Int) < 12) = true := by simp; omega
      try rw [e1]
      have HLT := hid hlt
      clear e1 hlt
      go_loopw [7] (fun kv wx => ∃ k : Nat, k ≤ 12 ∧ kv = .int .i64 (k : Int) ∧ Hid (∃ L, MulAt w.heap.size wx L (Pt i k) ∧ small L) ∧ Hid (Below w.heap.size w wx)) (fun kv _ => 12 - (intOf kv).toNat)
      case atStart => exact ⟨0, by omega, rfl, HL, HBW⟩
      case round =>
        obtain ⟨k, hk, rfl, HL, HBW⟩ := hrel
        by_cases hltk : k < 12
        · obtain ⟨L, ⟨hLl, hLv, hLr⟩, hLs⟩ := HL.out
          obtain ⟨l, hl⟩ : ∃ l, l = L.getD (i + k) 0 := ⟨_, rfl⟩
          obtain ⟨x, hx⟩ : ∃ x, x = A.getD i 0 := ⟨_, rfl⟩
          obtain ⟨y, hy⟩ : ∃ y, y = B.getD k 0 := ⟨_, rfl⟩
          have hl6 : l < 65536 := by rw [hl]; exact hLs _ (by have := HLT.out; omega)
          have hx6 : x < 65536 := by rw [hx]; exact SA.out _ (by rw [HA.out]; exact HLT.out)
          have hy6 : y < 65536 := by rw [hy]; exact SB.out _ (by rw [HB.out]; exact hltk)
          have cl : wr.cell? ⟨w.heap.size, i + k, none⟩ = some (.int .u64 (l : Int)) := by rw [cell_of_row _ _ _ _ _ _ hLr, lvs_at _ _ (by have := HLT.out; omega), hl]
          have fl : wr.frozen? ⟨w.heap.size, i + k, none⟩ = false := frozen_of_row _ _ _ _ _ hLr
          have cx : wr.cell? ⟨ga, i, none⟩ = some (.int .u64 (x : Int)) := by rw [HBW.out.cell (p := ⟨ga, i, none⟩) hga, HCA.out i HLT.out, hx]
          have cy : wr.cell? ⟨gb, k, none⟩ = some (.int .u64 (y : Int)) := by rw [HBW.out.cell (p := ⟨gb, k, none⟩) hgb, HCB.out k hltk, hy]
          obtain ⟨m, hm, hmv⟩ := mul_u64 x y
          have hmb : m ≤ 4294836225 := by rw [hmv]; exact limb24 x y hx6 hy6
          have HNEW : Hid (val (L.set (i + k) (l + m)) = Pt i (k + 1)) := by
            show _ = _
            rw [hl, val_add L (i + k) m (by have := HLT.out; omega), hLv, HPS.out i k (by rw [HB.out]; exact hltk), hmv, hx, hy]
          have HLR := hid hLr
          have HLS := hid hLs
          have HLL := hid hLl
          have w1 : IntKind.i64.wrap ((i : Int) + (k : Int)) = (i : Int) + (k : Int) := by rw [IntKind.wrap_i64]; omega
          have w2 : IntKind.u64.wrap ((l : Int) + (m : Int)) = (l : Int) + (m : Int) := by rw [IntKind.wrap_u64]; omega
          have w3 : IntKind.u64.wrap (m : Int) = (m : Int) := by rw [IntKind.wrap_u64]; omega
          have w4 : ((i : Int) + (k : Int)).toNat = i + k := by omega
          have hlt9 : (i : Int) < 12 := by have := HLT.out; omega
          clear hl hx hy hmv hLl hLv hLr hLs
          go_wp2_with fail
          go_region
          clear hlt9
          go_wp2_with fail
          have HV0 := hid (plus_nat l m)
          have HLTK := hid hltk
          have hik : i + k ≤ 22 := by have := HLT.out; omega
          have e2 : decide ((k : Int) < 12) = true := by simp; omega
          try rw [e2]
          clear e2 hm w1 w2 w3 w4 cl fl cx cy hltk
          go_loopw [8] (fun nv wx => ∃ (n c : Nat), i + k ≤ n ∧ n ≤ 23 ∧ nv = .int .i64 (n : Int) ∧ c < 8589934592 ∧ Hid (∃ L, MulAt w.heap.size wx L (Pt i (k + 1)) ∧ L.getD n 0 = c ∧ ∀ j, j < 24 → j ≠ n → L.getD j 0 < 65536) ∧ Hid (Below w.heap.size w wx)) (fun nv _ => 23 - (intOf nv).toNat)
          case atStart =>
            refine ⟨i + k, l + m, Nat.le_refl _, by omega, (by first | rfl | simp), by omega, ⟨L.set (i + k) (l + m), ⟨by simp [HLL.out], HNEW.out, ?_⟩, ?_, ?_⟩, ?_⟩
            · rw [HV0.out]
              show (wr.setCell ⟨w.heap.size, i + k, none⟩ (.int .u64 ((l + m : Nat) : Int))).heap[w.heap.size]? = _
              rw [heap_setCell_same _ _ _ _ _ _ HLR.out, lvs_set]
            · rw [getD_set _ _ _ _ (by rw [HLL.out]; omega), if_pos rfl]
            · intro j hj hjn
              rw [getD_set _ _ _ _ (by rw [HLL.out]; omega), if_neg (fun h => hjn h.symm)]
              exact HLS.out j (by rw [HLL.out]; exact hj)
            · exact (Below.setCell (p := ⟨w.heap.size, i + k, none⟩) HBW.out (by simp) _).trans (below_drewN _ _ 1)
          case round =>
            obtain ⟨n, c, hn1, hn2, rfl, hcb2, HL3, HB3⟩ := hrel
            by_cases hn23 : n < 23
            · by_cases hc6 : c < 65536
              · have hci : ¬ ((65536 : Int) ≤ (c : Int)) := by omega
                obtain ⟨L3, hL3, hL3c, hL3o⟩ := HL3.out
                have cn : wr.cell? ⟨w.heap.size, n, none⟩ = some (.int .u64 (c : Int)) := by rw [cell_of_row _ _ _ _ _ _ hL3.2.2, lvs_at _ _ (by rw [hL3.1]; omega), hL3c]
                clear hL3 hL3c hL3o
                have HALL : Hid (∃ L, MulAt w.heap.size wr L (Pt i (k + 1)) ∧ small L) := by
                  obtain ⟨L, hL, hLc, hLo⟩ := HL3.out
                  refine ⟨L, hL, fun j hj => ?_⟩
                  by_cases hjn : j = n
                  · rw [hjn, hLc]; exact hc6
                  · exact hLo j (by rw [hL.1] at hj; exact hj) hjn
                clear HL3
                go_wp2_with fail
                go_roundw
                case rel => first | exact ⟨k + 1, (by have := HLTK.out; omega), by go_num, HALL, HB3⟩ | exact ⟨k + 1, (by have := HLTK.out; omega), by go_num, HALL⟩
                case measure => have := HLTK.out; simp [intOf]; omega
              · obtain ⟨L3, hL3, hL3c, hL3o⟩ := HL3.out
                obtain ⟨d, hd⟩ : ∃ d, d = L3.getD (n + 1) 0 := ⟨_, rfl⟩
                have hd6 : d < 65536 := by rw [hd]; exact hL3o _ (by omega) (by omega)
                have cn : wr.cell? ⟨w.heap.size, n, none⟩ = some (.int .u64 (c : Int)) := by rw [cell_of_row _ _ _ _ _ _ hL3.2.2, lvs_at _ _ (by rw [hL3.1]; omega), hL3c]
                have cd : wr.cell? ⟨w.heap.size, n + 1, none⟩ = some (.int .u64 (d : Int)) := by rw [cell_of_row _ _ _ _ _ _ hL3.2.2, lvs_at _ _ (by rw [hL3.1]; omega), hd]
                have fn : wr.frozen? ⟨w.heap.size, n, none⟩ = false := frozen_of_row _ _ _ _ _ hL3.2.2
                have fd : wr.frozen? ⟨w.heap.size, n + 1, none⟩ = false := frozen_of_row _ _ _ _ _ hL3.2.2
                obtain ⟨e, he, hev⟩ : ∃ e : Nat, (c : Int) / 65536 = (e : Int) ∧ e = c / 65536 := ⟨c / 65536, by simp, rfl⟩
                obtain ⟨f, hf, hfv⟩ : ∃ f : Nat, (c : Int) % 65536 = (f : Int) ∧ f = c % 65536 := ⟨c % 65536, by simp, rfl⟩
                have heb : e < 131072 := by omega
                have hfb : f < 65536 := by omega
                have hcge : (65536 : Int) ≤ (c : Int) := by omega
                have HNEW3 : Hid (val ((L3.set (n + 1) (d + e)).set n f) = Pt i (k + 1)) := by
                  show _ = _
                  have := val_carry L3 n (by rw [hL3.1]; omega)
                  rw [hL3c, ← hd, ← hev, ← hfv, hL3.2.1] at this
                  exact this
                have HL3L := hid hL3.1
                have HL3R := hid hL3.2.2
                have HL3O := hid hL3o
                have HV3 := hid (plus_nat d e)
                have w5 : IntKind.i64.wrap ((n : Int) + 1) = (n : Int) + 1 := by rw [IntKind.wrap_i64]; omega
                have w6 : ((n : Int) + 1).toNat = n + 1 := by omega
                have w7 : IntKind.u64.wrap ((d : Int) + (e : Int)) = (d : Int) + (e : Int) := by rw [IntKind.wrap_u64]; omega
                clear hL3 hL3c hL3o hd hev hfv HL3
                go_wp2_with fail
                go_region
                go_wp2_with fail
                go_roundw
                case rel =>
                  refine ⟨n + 1, d + e, by omega, by omega, by go_num, by omega, ⟨(L3.set (n + 1) (d + e)).set n f, ⟨by simp [HL3L.out], HNEW3.out, ?_⟩, ?_, ?_⟩, ?_⟩
                  · show ((wr.setCell ⟨w.heap.size, n + 1, none⟩ (.int .u64 ((d : Int) + (e : Int)))).setCell ⟨w.heap.size, n, none⟩ (.int .u64 (f : Int))).heap[w.heap.size]? = _
                    rw [heap_setCell_same _ _ _ (lvs (L3.set (n + 1) (d + e))) 52 _ (by
                      show (wr.setCell ⟨w.heap.size, n + 1, none⟩ (.int .u64 ((d : Int) + (e : Int)))).heap[w.heap.size]? = _
                      rw [HV3.out, heap_setCell_same _ _ _ _ _ _ HL3R.out, lvs_set]), lvs_set]
                  · rw [getD_set _ _ _ _ (by simp [HL3L.out]; omega), if_neg (by omega), getD_set _ _ _ _ (by rw [HL3L.out]; omega), if_pos rfl]
                  · intro j hj hjn
                    rw [getD_set _ _ _ _ (by simp [HL3L.out]; omega)]
                    by_cases hjn2 : n = j
                    · rw [if_pos hjn2]; exact hfb
                    · rw [if_neg hjn2, getD_set _ _ _ _ (by rw [HL3L.out]; omega), if_neg (fun h => hjn h.symm)]
                      exact HL3O.out j hj (fun h => hjn2 h.symm)
                  · exact (Below.setCell (p := ⟨w.heap.size, n, none⟩) (Below.setCell (p := ⟨w.heap.size, n + 1, none⟩) HB3.out (by simp) _) (by simp) _).trans (below_drewN _ _ 1)
                case measure => simp [intOf]; omega
            · obtain rfl : n = 23 := by omega
              have hc6 : c < 65536 := by
                obtain ⟨L3, hL3, hL3c, _⟩ := HL3.out
                have h1 := limb_le L3 23 (by rw [hL3.1]; omega)
                rw [hL3c, hL3.2.1] at h1
                have h2 := HPL.out i (k + 1) (by rw [HA.out]; exact HLT.out)
                have h3 := HTOP.out
                have h4 : c * 65536 ^ 23 < 65536 * 65536 ^ 23 := by
                  have e1 : (65536 : Nat) ^ 24 = 65536 * 65536 ^ 23 := by decide
                  rw [← e1]; omega
                exact Nat.lt_of_mul_lt_mul_right h4
              have HALL : Hid (∃ L, MulAt w.heap.size wr L (Pt i (k + 1)) ∧ small L) := by
                obtain ⟨L, hL, hLc, hLo⟩ := HL3.out
                refine ⟨L, hL, fun j hj => ?_⟩
                by_cases hjn : j = 23
                · rw [hjn, hLc]; exact hc6
                · exact hLo j (by rw [hL.1] at hj; exact hj) hjn
              clear HL3
              go_wp2_with fail
              go_roundw
              case rel => first | exact ⟨k + 1, (by have := HLTK.out; omega), by go_num, HALL, HB3⟩ | exact ⟨k + 1, (by have := HLTK.out; omega), by go_num, HALL⟩
              case measure => have := HLTK.out; simp [intOf]; omega
        · obtain rfl : k = 12 := by omega
          have HL2 : Hid (∃ L, MulAt w.heap.size wr L (Pt (i + 1) 0) ∧ small L) := by
            obtain ⟨L, hL, hs⟩ := HL.out
            have e1 := HPR.out i (by rw [HA.out]; exact HLT.out)
            rw [HB.out] at e1
            rw [e1] at hL
            exact ⟨L, hL, hs⟩
          clear HL
          go_wp2_with fail
          go_roundw
          case rel => first | exact ⟨i + 1, (by have := HLT.out; omega), by go_num, HL2, HBW⟩ | exact ⟨i + 1, (by have := HLT.out; omega), by go_num, HL2⟩
          case measure => have := HLT.out; simp [intOf]; omega
    · obtain rfl : i = 12 := by omega
      go_wp2_with fail
      go_ret
      obtain ⟨L, hL, hs⟩ := HL.out
      rw [HP12.out] at hL
      exact ⟨rfl, ⟨L, hL, hs⟩, HBW.out⟩

end Go.Proofs.YtggbianodoneeaaDoor
