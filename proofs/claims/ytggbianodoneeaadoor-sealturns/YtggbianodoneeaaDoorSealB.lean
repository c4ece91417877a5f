
/- What seal.turned does. -/
import Derived.Test.YtggbianodoneeaaDoorSealA
namespace Go.Proofs.YtggbianodoneeaaDoor
open Go.RowKit
set_option linter.unusedSimpArgs false
set_option linter.unusedVariables false

def strm (k nonce : List UInt8) (i : Nat) : UInt8 := (piece k nonce (i / 32)).getD (i % 32) 0
def turnTo (k nonce b : List UInt8) (n : Nat) : List UInt8 := (List.range n).map fun i => b.getD i 0 ^^^ strm k nonce i
def turnB (key nonce b : List UInt8) : List UInt8 := turnTo (skey key) nonce b b.length
theorem turnTo_len (k nonce b : List UInt8) (n : Nat) : (turnTo k nonce b n).length = n := by simp [turnTo]
theorem turnB_len (key nonce b : List UInt8) : (turnB key nonce b).length = b.length := turnTo_len _ _ _ _
theorem turnTo_succ (k nonce b : List UInt8) (n : Nat) : turnTo k nonce b (n + 1) = turnTo k nonce b n ++ [b.getD n 0 ^^^ strm k nonce n] := by
  simp [turnTo, List.range_succ]
theorem turnTo_put (k nonce b : List UInt8) (i : Nat) (h : i < b.length) (y : UInt8) (hy : y = b.getD i 0 ^^^ strm k nonce i) : (bcs (turnTo k nonce b i ++ zer (b.length - i))).setIfInBounds i (.int .u8 y.toNat) = bcs (turnTo k nonce b (i + 1) ++ zer (b.length - (i + 1))) := by
  have e : (turnTo k nonce b i ++ zer (b.length - i)).set i y = turnTo k nonce b (i + 1) ++ zer (b.length - (i + 1)) := by
    rw [List.set_append_right _ _ (by rw [turnTo_len]; omega), turnTo_len, Nat.sub_self, turnTo_succ, ← hy, List.append_assoc]
    obtain ⟨m, hm⟩ : ∃ m, b.length - i = m + 1 := ⟨b.length - i - 1, by omega⟩
    rw [hm, show b.length - (i + 1) = m from by omega]
    rfl
  rw [← e]
  simp [bcs, List.map_set]
/-- Turned twice they are as they were. -/
theorem turn_back (key nonce b : List UInt8) : turnB key nonce (turnB key nonce b) = b := by
  unfold turnB
  rw [turnTo_len]
  apply List.ext_getElem (by rw [turnTo_len])
  intro i h1 h2
  have hi : i < b.length := h2
  have e1 : (turnTo (skey key) nonce b b.length).getD i 0 = b.getD i 0 ^^^ strm (skey key) nonce i := by
    simp [turnTo, List.getD_eq_getElem?_getD, hi]
  have e2 : (turnTo (skey key) nonce (turnTo (skey key) nonce b b.length) b.length)[i] = (turnTo (skey key) nonce b b.length).getD i 0 ^^^ strm (skey key) nonce i := by
    simp [turnTo]
  rw [e2, e1, UInt8.xor_assoc, UInt8.xor_self, UInt8.xor_zero]
  simp [List.getD_eq_getElem?_getD, hi]
theorem strm_at (k nonce : List UInt8) (i q r : Nat) (hq : q = i / 32) (hr : r = i % 32) : strm k nonce i = (piece k nonce q).getD r 0 := by rw [hq, hr]; rfl

set_option maxRecDepth 100000 in
set_option maxHeartbeats 4000000 in
theorem turned_seal (key nonce b : List UInt8) (A1 A2 A3 : Option Addr) (c1 c2 c3 : Nat) (w : World) (hT : TabS w) (hA1 : BytesAt w A1 key) (hA2 : BytesAt w A2 nonce) (hA3 : BytesAt w A3 b) (hc1 : key.length ≤ c1) (hl1 : key.length ≤ 100000) (hl2 : nonce.length ≤ 1000) (hl3 : b.length ≤ 8000) (hc3 : b.length ≤ c3) :
    Calls Tryd.prog 32 #[.slice A1 key.length c1, .slice A2 nonce.length c2, .slice A3 b.length c3] w fun e w' => ∃ O, e = .returned (.slice (some ⟨O, 0, none⟩) b.length b.length) ∧ w.heap.size ≤ O ∧ w'.heap[O]? = some (.cells (bcs (turnB key nonce b)) 5 (0, 0)) ∧ Below w.heap.size w w' := by
  have HT := hid hT
  have hT1 := hT.lt
  have HA1 := hid hA1
  have HA2 := hid hA2
  have HA3 := hid hA3
  have HKF : Hid (Calls Tryd.prog 43 #[.slice A1 key.length c1, .string ⟨#[115, 116, 114, 101, 97, 109]⟩] w fun e w' => e = .returned (.slice (some ⟨w.heap.size, 0, none⟩) 32 32) ∧ w'.heap[w.heap.size]? = some (.cells (bcs (skey key)) 5 (0, 0)) ∧ Below w.heap.size w w') := keyFor_any key STREAM A1 c1 w hT hA1 hc1 hl1 (by decide)
  have HKL := hid (skey_len key)
  have HEN : Hid (turnB key nonce b = turnTo (skey key) nonce b b.length) := rfl
  generalize turnB key nonce b = D at HEN ⊢
  generalize skey key = K at HKF HKL HEN
  have HPC : Hid (∀ (i g : Nat) W, i < 256 → TabS W → W.heap[g]? = some (.cells (bcs K) 5 (0, 0)) → BytesAt W A2 nonce → Calls Tryd.prog 44 #[.slice (some ⟨g, 0, none⟩) 32 32, .slice A2 nonce.length c2, .int .i64 (i : Int)] W fun e w' => e = .returned (.agg (bcs (piece K nonce i))) ∧ Below W.heap.size W w') := fun i g W h0 h1 h2 h3 => by
    have := pieceOf_any K nonce i h0 (some ⟨g, 0, none⟩) A2 32 c2 W h1 (BytesAt.of_row h2) h3 (by rw [HKL.out]; omega) (by rw [HKL.out]; omega) hl2
    rw [HKL.out] at this
    exact this
  have HPUT := hid (turnTo_put K nonce b)
  have HPL := hid (piece_len K nonce)
  have HSA := hid (strm_at K nonce)
  have hmk : ∀ W : World, (Instr.makeSlice 31 (.int .i64 (b.length : Int)) (.int .i64 (b.length : Int))).run Tryd.prog W = .ok (.slice (some ⟨W.heap.size, 0, none⟩) b.length b.length) (W.alloc (.cells (bcs (zer b.length)) 5)) := fun W => make_bytes b.length b.length (Nat.le_refl _) (by omega) W
  clear hT hA1 hA2 hA3
  go_enter Tryd.func32, Tryd.ntmps32
  go_wp2_with fail
  refine HKF.out.mono ?_
  rintro e W1 ⟨rfl, hr1, hb1⟩
  have HK1 := hid hr1
  have HB1 := hid hb1
  have hz1 : w.heap.size < W1.heap.size := (Array.getElem?_eq_some_iff.1 hr1).1
  clear hr1 hb1 HKF
  have HB2 : Hid (∀ o1 o2, Below W1.heap.size W1 ((W1.alloc o1).alloc o2)) := fun o1 o2 => ((Below.refl _ _).alloc (Nat.le_refl _) o1).alloc (by simp) o2
  have HT0 : Hid (turnTo K nonce b 0 = []) := rfl
  go_wp2_with fail
  go_loopw [18] (fun iv wx => ∃ (i : Nat) (pc : List UInt8), i ≤ b.length ∧ iv = .int .i64 (i : Int) ∧ Hid (pc.length = 32) ∧ Hid (i % 32 ≠ 0 → pc = piece K nonce (i / 32)) ∧ Hid (wx.heap[W1.heap.size]? = some (.cells (bcs (turnTo K nonce b i ++ zer (b.length - i))) 5 (0, 0))) ∧ Hid (wx.heap[W1.heap.size + 1]? = some (.cells (bcs pc) 54 (0, 0))) ∧ Hid (Below W1.heap.size W1 wx)) (fun iv _ => b.length - (intOf iv).toNat)
  case atStart => exact ⟨0, zer 32, by omega, rfl, zer_len 32, (fun h => absurd rfl h), (by show _ = _; rw [HT0.out]; exact heap_alloc2_old W1 _ _), heap_alloc2_new W1 _ _, HB2.out _ _⟩
  case round =>
    obtain ⟨i, pc, hi, rfl, HCL, HCP, HO, HP, HB⟩ := hrel
    have hz2 : W1.heap.size + 1 < wr.heap.size := (Array.getElem?_eq_some_iff.1 HP.out).1
    by_cases hlt : i < b.length
    · obtain ⟨q, hq⟩ : ∃ q, q = i / 32 := ⟨_, rfl⟩
      obtain ⟨r, hr⟩ : ∃ r, r = i % 32 := ⟨_, rfl⟩
      have hr32 : r < 32 := by omega
      have hq256 : q < 256 := by omega
      have m1 : (i : Int).tmod 32 = (r : Int) := by rw [Int.tmod_eq_emod_of_nonneg (by omega)]; omega
      have m2 : (i : Int) % 32 = (r : Int) := by omega
      have m3 : (i : Int).tdiv 32 = (q : Int) := by rw [Int.tdiv_eq_ediv_of_nonneg (by omega)]; omega
      have m4 : (i : Int) / 32 = (q : Int) := by omega
      obtain ⟨qa, oa, rfl, hqa, hca⟩ := HA3.out (by omega)
      obtain ⟨x, hx⟩ : ∃ x, Hid (x = b.getD i 0) := ⟨_, rfl⟩
      have HCX : Hid (∀ W, Below W1.heap.size W1 W → W.cell? ⟨qa, oa + i, none⟩ = some (.int .u8 x.toNat)) := fun W hW => by
        rw [hW.cell (p := ⟨qa, oa + i, none⟩) (show qa < W1.heap.size by omega), HB1.out.cell (p := ⟨qa, oa + i, none⟩) hqa, hca i hlt, hx.out]
      have HQ := hid hq
      have HR := hid hr
      clear hq hr hca
      by_cases hr0 : r = 0
      · subst hr0
        have HPC1 := hid (HPC.out q w.heap.size wr hq256 ((HT.out.below HB1.out hT1).below HB.out (by omega)) ((HB.out.block _ hz1).trans HK1.out) ((HA2.out.below HB1.out (Nat.le_refl _)).below HB.out (Nat.le_refl _)))
        have HPL1 := hid (HPL.out q)
        have HST := hid (HSA.out i q 0 HQ.out HR.out)
        have HPCN : Hid ((i + 1) % 32 ≠ 0 → piece K nonce q = piece K nonce ((i + 1) / 32)) := fun _ => by rw [show (i + 1) / 32 = q from by have := HQ.out; have := HR.out; omega]
        generalize piece K nonce q = p1 at HPC1 HPL1 HST HPCN
        go_wp2_with fail
        refine HPC1.out.mono ?_
        rintro e W5 ⟨rfl, hb5⟩
        have HP5 := hid ((hb5.block (W1.heap.size + 1) hz2).trans HP.out)
        have HO5 := hid ((hb5.block W1.heap.size (by omega)).trans HO.out)
        have HB5 := hid (HB.out.trans (hb5.mono (by omega)))
        clear hb5 HP HO HB HPC1 HCP
        go_wp2_with (refine wpList_store_abs rfl 54 (.tmp 9) (.tmp 28) rfl (W1.heap.size + 1) 0 (bcs p1) rfl rfl 54 _ HP5.out (by rw [bcs_size, bcs_size, HPL1.out, HCL.out]; exact Nat.le_refl 32) (size24' p1 HPL1.out) (bvs_one p1) ?_; intro W6 hO6 hW6)
        rw [over_bytes _ p1 (by rw [bcs_size, HPL1.out, HCL.out])] at hW6
        have HP6 := hid hW6
        have HO6 := hid ((hO6.block W1.heap.size (by omega)).trans HO5.out)
        have HB6 : Hid (Below W1.heap.size W1 W6) := HB5.out.trans (hO6.below (by omega))
        clear hO6 hW6 HP5 HO5 HB5
        obtain ⟨y, hy⟩ : ∃ y, Hid (y = p1.getD 0 0) := ⟨_, rfl⟩
        obtain ⟨z, hz, hxy⟩ : ∃ z : UInt8, z = x ^^^ y ∧ bits .xor .u8 (x.toNat : Int) (y.toNat : Int) = (z.toNat : Int) := ⟨_, rfl, u8_xor x y⟩
        have HZ : Hid (z = b.getD i 0 ^^^ strm K nonce i) := by show _ = _; rw [hz, hx.out, hy.out, HST.out]
        have cx := HCX.out W6 HB6.out
        have cy : W6.cell? ⟨W1.heap.size + 1, 0, none⟩ = some (.int .u8 y.toNat) := by rw [cell_of_row _ _ _ _ _ _ HP6.out, bcs_at _ _ (by rw [HPL1.out]; omega), hy.out]
        obtain ⟨u, cu⟩ : ∃ u, W6.cell? ⟨W1.heap.size, i, none⟩ = some u := by
          rw [cell_of_row _ _ _ _ _ _ HO6.out]
          have h5 : i < (bcs (turnTo K nonce b i ++ zer (b.length - i))).size := by rw [bcs_size, List.length_append, turnTo_len, zer_len]; omega
          exact ⟨_, Array.getElem?_eq_getElem h5⟩
        have fu : W6.frozen? ⟨W1.heap.size, i, none⟩ = false := frozen_of_row _ _ _ _ _ HO6.out
        clear hz
        go_wp2_with fail
        go_region
        all_goals
          go_wp2_with fail
          go_roundw
          case rel =>
            refine ⟨i + 1, p1, by omega, by go_num, HPL1, HPCN, ?_, ?_, ?_⟩
            · show (W6.setCell ⟨W1.heap.size, i, none⟩ (.int .u8 z.toNat)).heap[W1.heap.size]? = _
              rw [heap_setCell_same _ _ _ _ _ _ (by exact HO6.out), HPUT.out i hlt z HZ.out]
            · show (W6.setCell ⟨W1.heap.size, i, none⟩ (.int .u8 z.toNat)).heap[W1.heap.size + 1]? = _
              rw [heap_setCell_other _ _ _ _ (by simp)]; exact HP6.out
            · exact (Below.setCell (p := ⟨W1.heap.size, i, none⟩) HB6.out (by simp) _).trans (below_drewN _ _ 1)
          case measure => simp [intOf]; omega
      · have HST : Hid (strm K nonce i = pc.getD r 0) := by
          have h1 := HQ.out
          have h2 := HR.out
          show _ = _
          rw [HSA.out i q r h1 h2, HCP.out (by omega), h1]
        have HPCN : Hid ((i + 1) % 32 ≠ 0 → pc = piece K nonce ((i + 1) / 32)) := fun h => by
          have h2 := HR.out
          rw [HCP.out (by omega), show (i + 1) / 32 = i / 32 from by omega]
        have hr0' : ¬ ((r : Int) = 0) := by omega
        obtain ⟨y, hy⟩ : ∃ y, Hid (y = pc.getD r 0) := ⟨_, rfl⟩
        obtain ⟨z, hz, hxy⟩ : ∃ z : UInt8, z = x ^^^ y ∧ bits .xor .u8 (x.toNat : Int) (y.toNat : Int) = (z.toNat : Int) := ⟨_, rfl, u8_xor x y⟩
        have HZ : Hid (z = b.getD i 0 ^^^ strm K nonce i) := by show _ = _; rw [hz, hx.out, hy.out, HST.out]
        have cx := HCX.out wr HB.out
        have cy : wr.cell? ⟨W1.heap.size + 1, r, none⟩ = some (.int .u8 y.toNat) := by rw [cell_of_row _ _ _ _ _ _ HP.out, bcs_at _ _ (by rw [HCL.out]; omega), hy.out]
        obtain ⟨u, cu⟩ : ∃ u, wr.cell? ⟨W1.heap.size, i, none⟩ = some u := by
          rw [cell_of_row _ _ _ _ _ _ HO.out]
          have h5 : i < (bcs (turnTo K nonce b i ++ zer (b.length - i))).size := by rw [bcs_size, List.length_append, turnTo_len, zer_len]; omega
          exact ⟨_, Array.getElem?_eq_getElem h5⟩
        have fu : wr.frozen? ⟨W1.heap.size, i, none⟩ = false := frozen_of_row _ _ _ _ _ HO.out
        clear hz
        go_wp2_with fail
        go_region
        all_goals
          go_wp2_with fail
          go_roundw
          case rel =>
            refine ⟨i + 1, pc, by omega, by go_num, HCL, HPCN, ?_, ?_, ?_⟩
            · show (wr.setCell ⟨W1.heap.size, i, none⟩ (.int .u8 z.toNat)).heap[W1.heap.size]? = _
              rw [heap_setCell_same _ _ _ _ _ _ (by exact HO.out), HPUT.out i hlt z HZ.out]
            · show (wr.setCell ⟨W1.heap.size, i, none⟩ (.int .u8 z.toNat)).heap[W1.heap.size + 1]? = _
              rw [heap_setCell_other _ _ _ _ (by simp)]; exact HP.out
            · exact (Below.setCell (p := ⟨W1.heap.size, i, none⟩) HB.out (by simp) _).trans (below_drewN _ _ 1)
          case measure => simp [intOf]; omega
    · obtain rfl : i = b.length := by omega
      have hO := HO.out
      rw [Nat.sub_self, show zer 0 = [] from rfl, List.append_nil, ← HEN.out] at hO
      have HOO := hid hO
      clear hO HO
      go_wp2_with fail
      go_ret
      exact ⟨W1.heap.size, rfl, Nat.le_of_lt hz1, HOO.out, HB1.out.trans (HB.out.mono (Nat.le_of_lt hz1))⟩

end Go.Proofs.YtggbianodoneeaaDoor
