/- What ShaPieces does at every input. -/
import Derived.Test.YtfiacflggiccaaaDoorRefMac
import Derived.Deep.Matrix
namespace Go.Proofs.YtfiacflggiccaaaDoor
open Go.RowKit
set_option linter.unusedSimpArgs false
set_option linter.unusedVariables false

/-- Pieces that came in: the i-th one's bytes are P i. -/
def PiecesAt (w : World) (a : Option Addr) (n : Nat) (A : Nat → Option Addr) (C : Nat → Nat) (P : Nat → List UInt8) : Prop :=
  0 < n → ∃ q o, a = some ⟨q, o, none⟩ ∧ q < w.heap.size ∧ ∀ i, i < n → w.cell? ⟨q, o + i, none⟩ = some (.slice (A i) (P i).length (C i)) ∧ (P i).length ≤ C i ∧ C i ≤ maxLen ∧ BytesAt w (A i) (P i)
/-- The cells of a row of one's own that are bytes. -/
def ByteRow (w : World) (g n : Nat) : Prop := ∃ cur : Array Value, w.heap[g]? = some (.cells cur 5 (0, 0)) ∧ ∀ j, j < n → ∃ x : UInt8, cur[j]? = some (.int .u8 x.toNat)
theorem ByteRow.of_own {w : World} {b g n cap : Nat} {l : List UInt8} (h : w.ownsRow b 5 1 (.slice (some ⟨g, 0, none⟩) n cap) n (bvs l)) : ByteRow w g n := by
  rcases h.2 with ⟨h0, _⟩ | ⟨g', c', cur, h1, _, h2, _, _, _, h7⟩
  · cases h0
  · cases h1
    have hl : l.length = n := by have := h.1; rw [bvs_len] at this; omega
    refine ⟨cur, h2, fun j hj => ⟨l.getD j 0, ?_⟩⟩
    have hb : (bvs l)[j]? = some (.int .u8 (l.getD j 0).toNat) := by simp [bvs, List.getD_eq_getElem?_getD, show j < l.length by omega]
    rw [← h7, List.getElem?_take, if_pos (by omega)] at hb
    simpa using hb
theorem ByteRow.put {w : World} {g n k : Nat} (h : ByteRow w g n) (y : UInt8) (v : Int) (hv : v = (y.toNat : Int)) : ByteRow (w.setCell ⟨g, k, none⟩ (.int .u8 v)) g n := by
  subst hv
  obtain ⟨cur, h1, h2⟩ := h
  refine ⟨_, heap_setCell_same w g k cur 5 _ h1, fun j hj => ?_⟩
  obtain ⟨x, hx⟩ := h2 j hj
  by_cases hjk : k = j
  · subst hjk
    have hlt := (Array.getElem?_eq_some_iff.1 hx).1
    exact ⟨y, by rw [Array.getElem?_setIfInBounds]; simp [hlt]⟩
  · exact ⟨x, by rw [Array.getElem?_setIfInBounds]; simp [hjk, hx]⟩
theorem grown_of_keeps {w w' : World} {g : Nat} (h : Keeps g w w') : w.grownBy w' (some g) := ⟨h.os, h.tape, h.output, h.size, fun k hk hg => h.block k hk (fun e => hg (by rw [e]))⟩
theorem BytesAt.kept {w w' : World} {A : Option Addr} {l : List UInt8} {B : Nat} (h : BytesAt w A l) (hb : Below w.heap.size w w') : BytesAt w' A l := h.below hb (Nat.le_refl _)

set_option maxRecDepth 100000 in
set_option maxHeartbeats 4000000 in
theorem pieces_law (a : Option Addr) (n cap : Nat) (A : Nat → Option Addr) (C : Nat → Nat) (P : Nat → List UInt8) (w : World) (hP : PiecesAt w a n A C P) (hn : n ≤ maxLen) (hT : TabS w) :
    Calls Tryd.prog 4 #[.slice a n cap] w fun e w' => e = .returned (.bool true) ∧ Below w.heap.size w w' := by
  have HAW := hid awake_any
  have HT := hid hT
  have hT1 := hT.lt
  have HP := hid hP
  have HN := hid new_any
  have HH0 : Hid ((hcs H0 (zer 64) 0 true).toArray = (hash []).toArray) := rfl
  unfold maxLen at hn
  clear hT hP
  go_enter Tryd.func4, Tryd.ntmps4
  go_wp2_with fail
  refine (HN.out _ HT.out).mono ?_
  rintro e w1 ⟨rfl, hw1⟩
  rw [HH0.out] at hw1
  have HB1 : Hid (Below w.heap.size w w1) := by rw [hw1]; exact (Below.refl _ _).alloc (Nat.le_refl _) _
  have HG1 : Hid (w1.heap[w.heap.size]? = some (.cells (hash []).toArray 58 (0, 0))) := by rw [hw1]; exact heap_alloc_new w _
  have hz1 : w1.heap.size = w.heap.size + 1 := by rw [hw1]; simp
  clear hw1 HN HH0
  have HO1 : Hid ((w1.alloc (.cells #[] 5)).ownsRow (w.heap.size + 1) 5 1 (.slice (some ⟨w1.heap.size, 0, none⟩) 0 0) 0 (bvs [])) := own_zero w1 (w.heap.size + 1) (by omega)
  rw [hz1] at HO1
  have HG2 : Hid ((w1.alloc (.cells #[] 5)).heap[w.heap.size]? = some (.cells (hash []).toArray 58 (0, 0))) := by show _ = _; rw [Below.heap_alloc w1 _ _ (by omega)]; exact HG1.out
  have HB2 : Hid (Below w.heap.size w (w1.alloc (.cells #[] 5))) := HB1.out.alloc (by omega) _
  go_wp2_with fail
  go_loopw [4, 5] (fun v iv wx => ∃ (i g c m : Nat) (X : List UInt8), i ≤ n ∧ i ≤ 100 ∧ iv = .int .i64 i ∧ v = .slice (some ⟨g, 0, none⟩) m c ∧ m ≤ 4000 ∧ Hid (m = X.length) ∧ Hid (wx.ownsRow (w.heap.size + 1) 5 1 (.slice (some ⟨g, 0, none⟩) m c) m (bvs X)) ∧ Hid (wx.heap[w.heap.size]? = some (.cells (hash X).toArray 58 (0, 0))) ∧ Hid (Below w.heap.size w wx)) (fun _ iv _ => 100 - (intOf iv).toNat)
  case atStart => exact ⟨0, w.heap.size + 1, 0, 0, [], Nat.zero_le _, by omega, rfl, rfl, by omega, rfl, HO1, HG2, HB2⟩
  case round =>
    obtain ⟨i, g, c, m, X, hi, hi100, rfl, rfl, hm, HM, HO, HG, HB⟩ := hrel
    have hz := HB.out.size
    have hgl := own_lt HO.out
    have hgg := own_ge HO.out
    by_cases hin : i < n
    · by_cases h100 : i < 100
      · obtain ⟨q, o, rfl, hq, hc⟩ := HP.out (by omega)
        obtain ⟨hci, hLC, hCm, hYb⟩ := hc i hin
        obtain ⟨Y, hY⟩ : ∃ Y, Hid (Y = P i) := ⟨_, rfl⟩
        rw [← hY.out] at hci hLC hYb
        obtain ⟨y, hy⟩ : ∃ y, y = Y.length := ⟨_, rfl⟩
        rw [← hy] at hci hLC
        have HY := hid hy
        obtain ⟨Ai, hAi⟩ : ∃ x, Hid (x = A i) := ⟨_, rfl⟩
        obtain ⟨Ci, hCi⟩ : ∃ x, Hid (x = C i) := ⟨_, rfl⟩
        rw [← hAi.out, ← hCi.out] at hci
        rw [← hCi.out] at hLC hCm
        rw [← hAi.out] at hYb
        unfold maxLen at hCm
        have HCI : Hid (∀ W, Below w.heap.size w W → W.cell? ⟨q, o + i, none⟩ = some (.slice Ai y Ci)) := fun W h => (h.cell (p := ⟨q, o + i, none⟩) hq).trans hci
        have HYB := hid hYb
        have cx := HCI.out _ HB.out
        have cx1 : ∀ ob, (wr.alloc ob).cell? ⟨q, o + i, none⟩ = some (.slice Ai y Ci) := fun ob => HCI.out _ (HB.out.alloc hz ob)
        clear hc hci hYb hy
        by_cases hfit : (y : Int) ≤ 4000 - (m : Int)
        · go_wp2_with (refine wpList_app rfl (.tmp 31) (.tmp 35) rfl wr.heap.size wr.heap.size 0 0 Ci y (bvs []) Ai Y rfl rfl HY.out (own_zero wr wr.heap.size (Nat.le_refl _)) (HYB.out.below (HB.out.alloc hz _) (Nat.le_refl _)) (by omega) (by simp) ?_; intro g1 c1 W1 hown1 hgr1 hg1)
          have HBW1 : Hid (Below wr.heap.size wr W1) := own_below (own_zero wr wr.heap.size (Nat.le_refl _)) ((Below.refl wr.heap.size wr).alloc (Nat.le_refl _) _) (by simp) hgr1
          rw [Nat.zero_add] at hown1
          have HN1 := hid hown1
          have HG1' := hid ((HBW1.out.block w.heap.size (by omega)).trans HG.out)
          have HA1 : Hid (W1.ownsRow (w.heap.size + 1) 5 1 (.slice (some ⟨g, 0, none⟩) m c) m (bvs X)) := HO.out.kept (grown_of_below HBW1.out) (.inr (by simp [Value.ownBlock]))
          have HBw1 : Hid (Below w.heap.size w W1) := HB.out.trans (HBW1.out.mono hz)
          have hg1g := own_ge hown1
          clear hown1 hgr1 hg1
          have H13 : Hid (Calls Tryd.prog 13 #[.pointer (some ⟨w.heap.size, 0, none⟩), .slice (some ⟨g1, 0, none⟩) y c1] W1 fun e w' => e = .returned (.tuple #[]) ∧ w'.heap[w.heap.size]? = some (.cells (hash (X ++ Y)).toArray 58 (0, 0)) ∧ Keeps w.heap.size W1 w') := by
            have := write_at w.heap.size X Y (some ⟨g1, 0, none⟩) c1 W1 (HT.out.below HBw1.out hT1) hT1 HG1'.out (BytesAt.own (l := Y) HN1.out) (fun x hx _ => by cases hx; show g1 ≠ _; omega) (by rw [← HY.out]; exact own_cap HN1.out) (by rw [← HY.out, ← HM.out]; omega)
            rw [← HY.out] at this
            exact this
          go_wp2_with fail
          refine H13.out.mono ?_
          rintro e W2 ⟨rfl, hr2, hk2⟩
          have HG2' := hid hr2
          have HA2 : Hid (W2.ownsRow (w.heap.size + 1) 5 1 (.slice (some ⟨g, 0, none⟩) m c) m (bvs X)) := HA1.out.kept (grown_of_keeps hk2) (.inr (by simp [Value.ownBlock]; omega))
          have HR2 : Hid (ByteRow W2 g1 y) := ByteRow.of_own (HN1.out.kept (grown_of_keeps hk2) (.inr (by simp [Value.ownBlock]; omega)))
          have HBw2 : Hid (Below w.heap.size w W2) := HBw1.out.trans (hk2.below (Nat.le_refl _) HBw1.out.size)
          clear hr2 hk2 H13 HN1 HG1' HA1 HBw1 HBW1
          go_wp2_with fail
          go_loopw [7] (fun v wx => ∃ k : Nat, k ≤ y ∧ v = .int .i64 k ∧ Hid (ByteRow wx g1 y) ∧ Hid (Only g1 W2 wx)) (fun v _ => y - (intOf v).toNat)
          case atStart => exact ⟨0, Nat.zero_le _, rfl, HR2, rfl, rfl, rfl, rfl, fun _ _ => rfl⟩
          case round =>
            obtain ⟨k, hk, rfl, HR, HOn⟩ := hrel
            by_cases hky : k < y
            · obtain ⟨cur, hr1, hr2⟩ := HR.out
              obtain ⟨x, hx⟩ := hr2 k hky
              have ck : wr.cell? ⟨g1, k, none⟩ = some (.int .u8 x.toNat) := by rw [cell_of_row _ _ _ _ _ _ hr1, hx]
              have fk : wr.frozen? ⟨g1, k, none⟩ = false := frozen_of_row _ _ _ _ _ hr1
              have hx256 := x.toNat_lt
              clear hr1 hr2 hx
              go_wp2_with fail
              go_roundw
              case rel =>
                refine ⟨k + 1, by omega, by go_num, ByteRow.put HR.out (UInt8.ofNat (x.toNat + 1)) _ ?_, ?_⟩
                · rw [UInt8.toNat_ofNat']; first | omega | (rw [IntKind.wrap_u8]; omega) | simp
                · have := HOn.out
                  exact ⟨this.os, this.tape, this.output, by rw [← this.size]; simp [World.setCell], fun k hk => (heap_setCell_other _ _ _ _ hk).trans (this.block k hk)⟩
              case measure => simp [intOf]; omega
            · have HB3 : Hid (Below w.heap.size w wr) := HBw2.out.trans (HOn.out.below (by omega))
              have HA3 : Hid (wr.ownsRow (w.heap.size + 1) 5 1 (.slice (some ⟨g, 0, none⟩) m c) m (bvs X)) := HA2.out.kept (grown_of_only HOn.out) (.inr (by simp [Value.ownBlock]; omega))
              have HG3 := hid ((HOn.out.block w.heap.size (by omega)).trans HG2'.out)
              have hz3 := HB3.out.size
              have hg3 := own_lt HA3.out
              have cx3 := HCI.out _ HB3.out
              clear HR HOn HR2 HG2' HA2 HBw2
              have hzN : w.heap.size < wr.heap.size := (Array.getElem?_eq_some_iff.1 HG3.out).1
              go_wp2_with (refine wpList_app rfl (.tmp 52) (.tmp 56) rfl (w.heap.size + 1) g m c Ci y (bvs X) Ai Y rfl rfl HY.out HA3.out (HYB.out.below HB3.out (Nat.le_refl _)) (by omega) (by omega) ?_; intro g4 c4 W4 hown4 hgr4 hg4)
              have HO4 : Hid (W4.ownsRow (w.heap.size + 1) 5 1 (.slice (some ⟨g4, 0, none⟩) (m + y) c4) (m + y) (bvs (X ++ Y))) := by show World.ownsRow _ _ _ _ _ _ _; rw [bvs_app]; exact hown4
              have HG4 := hid ((hgr4.block w.heap.size hzN (fun h => by cases h; omega)).trans HG3.out)
              have HB4 : Hid (Below w.heap.size w W4) := HB3.out.grown hgr4 hz3 (fun k hk => by cases hk; omega)
              have HM4 : Hid (m + y = (X ++ Y).length) := by show _ = _; rw [List.length_append, HM.out, HY.out]
              clear hown4 hgr4 hg4 HA3 HG3 HB3
              have H14 : Hid (Calls Tryd.prog 14 #[.pointer (some ⟨w.heap.size, 0, none⟩)] W4 fun e w' => e = .returned (.int .i64 ((m + y : Nat) : Int)) ∧ w' = W4) := by
                have := len_any w.heap.size (stOf (X ++ Y)) (restOf (X ++ Y)) (X ++ Y).length true W4 (rest_len _) HG4.out
                rw [← HM4.out] at this
                exact this
              go_wp2_with fail
              refine H14.out.mono ?_
              rintro e W5 ⟨rfl, hW5⟩
              rw [hW5]
              clear hW5
              by_cases hi4 : (i : Int) % 4 = 0
              · have H15 := hid (sum_hash w.heap.size (X ++ Y) W4 (HT.out.below HB4.out hT1) HG4.out (by rw [List.length_append]; have := HM.out; have := HY.out; omega))
                have H10 : Hid (∀ W, Below W4.heap.size W4 W → Calls Tryd.prog 10 #[.slice (some ⟨g4, 0, none⟩) (m + y) c4] W fun e w' => e = .returned (.agg (bcs (sha (X ++ Y)))) ∧ Below W.heap.size W w') := fun W h => by
                  have hB := HB4.out.trans (h.mono HB4.out.size)
                  have := of_at (X ++ Y) (some ⟨g4, 0, none⟩) c4 W (HT.out.below hB hT1) ((BytesAt.own HO4.out).below h (Nat.le_refl _)) (by rw [← HM4.out]; exact own_cap HO4.out) (by rw [← HM4.out]; omega)
                  rw [← HM4.out] at this
                  exact this
                have HEQ := hid (eq24 (sha (X ++ Y)) (sha_len (X ++ Y)))
                generalize sha (X ++ Y) = D at H15 H10 HEQ
                go_wp2_with fail
                refine H15.out.mono ?_
                rintro e V1 ⟨rfl, hv1⟩
                have HV1 := hid hv1
                clear hv1
                go_wp2_with fail
                refine (H10.out _ HV1.out).mono ?_
                rintro e V2 ⟨rfl, hv2⟩
                have HV2 := hid (HV1.out.trans (hv2.mono HV1.out.size))
                clear hv2
                have heq := HEQ.out V2
                go_wp2_with fail
                go_roundw
                case rel => exact ⟨i + 1, g4, c4, m + y, X ++ Y, by omega, by omega, by go_num, rfl, by omega, HM4, HO4.out.kept (grown_of_below HV2.out) (.inr (by simp [Value.ownBlock])), (HV2.out.block w.heap.size ((Array.getElem?_eq_some_iff.1 HG4.out).1)).trans HG4.out, HB4.out.trans (HV2.out.mono HB4.out.size)⟩
                case measure => simp [intOf]; omega
              · have hi5 : ((i : Int) % 4 == 0) = false := by simp [hi4]
                go_wp2_with fail
                go_roundw
                case rel => exact ⟨i + 1, g4, c4, m + y, X ++ Y, by omega, by omega, by go_num, rfl, by omega, HM4, HO4, HG4, HB4⟩
                case measure => simp [intOf]; omega
        · have HBA := hid (BytesAt.own HO.out)
          have hcc := own_cap HO.out
          obtain ⟨D, hD⟩ : ∃ D, Hid (D = sha X) := ⟨_, rfl⟩
          have HE1 := hid (sum_hash w.heap.size X wr (HT.out.below HB.out hT1) HG.out (by have := HM.out; omega))
          have HE2 : Hid (∀ W, Below wr.heap.size wr W → Calls Tryd.prog 11 #[.slice (some ⟨g, 0, none⟩) m c] W fun e w' => e = .returned (.agg (bcs (sha X))) ∧ Below W.heap.size W w') := fun W h => by
            have := refOf_any X (some ⟨g, 0, none⟩) c W (HBA.out.below h (Nat.le_refl _)) (by have := HM.out; omega)
            rw [← HM.out] at this
            exact this
          have HEQ := hid (eq24 (sha X) (sha_len X))
          rw [← hD.out] at HE1 HE2 HEQ
          go_wp2_with fail
          refine HE1.out.mono ?_
          rintro e V1 ⟨rfl, hv1⟩
          have HV1 := hid hv1
          clear hv1
          go_wp2_with fail
          refine (HE2.out _ HV1.out).mono ?_
          rintro e V2 ⟨rfl, hv2⟩
          have HV2 := hid ((HB.out.trans (HV1.out.mono hz)).trans (hv2.mono (HB.out.trans (HV1.out.mono hz)).size))
          clear hv2
          have heq := HEQ.out V2
          go_wp2_with fail
          refine (HAW.out _ (HT.out.below HV2.out hT1)).mono ?_
          rintro e V3 ⟨rfl, hv3⟩
          have HV3 := hid (HV2.out.trans (hv3.mono HV2.out.size))
          clear hv3
          go_wp2_with fail
          go_ret
          exact ⟨rfl, HV3.out⟩
      · have HBA := hid (BytesAt.own HO.out)
        have hcc := own_cap HO.out
        obtain ⟨D, hD⟩ : ∃ D, Hid (D = sha X) := ⟨_, rfl⟩
        have HE1 := hid (sum_hash w.heap.size X wr (HT.out.below HB.out hT1) HG.out (by have := HM.out; omega))
        have HE2 : Hid (∀ W, Below wr.heap.size wr W → Calls Tryd.prog 11 #[.slice (some ⟨g, 0, none⟩) m c] W fun e w' => e = .returned (.agg (bcs (sha X))) ∧ Below W.heap.size W w') := fun W h => by
          have := refOf_any X (some ⟨g, 0, none⟩) c W (HBA.out.below h (Nat.le_refl _)) (by have := HM.out; omega)
          rw [← HM.out] at this
          exact this
        have HEQ := hid (eq24 (sha X) (sha_len X))
        rw [← hD.out] at HE1 HE2 HEQ
        go_wp2_with fail
        refine HE1.out.mono ?_
        rintro e V1 ⟨rfl, hv1⟩
        have HV1 := hid hv1
        clear hv1
        go_wp2_with fail
        refine (HE2.out _ HV1.out).mono ?_
        rintro e V2 ⟨rfl, hv2⟩
        have HV2 := hid ((HB.out.trans (HV1.out.mono hz)).trans (hv2.mono (HB.out.trans (HV1.out.mono hz)).size))
        clear hv2
        have heq := HEQ.out V2
        go_wp2_with fail
        refine (HAW.out _ (HT.out.below HV2.out hT1)).mono ?_
        rintro e V3 ⟨rfl, hv3⟩
        have HV3 := hid (HV2.out.trans (hv3.mono HV2.out.size))
        clear hv3
        go_wp2_with fail
        go_ret
        exact ⟨rfl, HV3.out⟩
    · have HBA := hid (BytesAt.own HO.out)
      have hcc := own_cap HO.out
      obtain ⟨D, hD⟩ : ∃ D, Hid (D = sha X) := ⟨_, rfl⟩
      have HE1 := hid (sum_hash w.heap.size X wr (HT.out.below HB.out hT1) HG.out (by have := HM.out; omega))
      have HE2 : Hid (∀ W, Below wr.heap.size wr W → Calls Tryd.prog 11 #[.slice (some ⟨g, 0, none⟩) m c] W fun e w' => e = .returned (.agg (bcs (sha X))) ∧ Below W.heap.size W w') := fun W h => by
        have := refOf_any X (some ⟨g, 0, none⟩) c W (HBA.out.below h (Nat.le_refl _)) (by have := HM.out; omega)
        rw [← HM.out] at this
        exact this
      have HEQ := hid (eq24 (sha X) (sha_len X))
      rw [← hD.out] at HE1 HE2 HEQ
      go_wp2_with fail
      refine HE1.out.mono ?_
      rintro e V1 ⟨rfl, hv1⟩
      have HV1 := hid hv1
      clear hv1
      go_wp2_with fail
      refine (HE2.out _ HV1.out).mono ?_
      rintro e V2 ⟨rfl, hv2⟩
      have HV2 := hid ((HB.out.trans (HV1.out.mono hz)).trans (hv2.mono (HB.out.trans (HV1.out.mono hz)).size))
      clear hv2
      have heq := HEQ.out V2
      go_wp2_with fail
      refine (HAW.out _ (HT.out.below HV2.out hT1)).mono ?_
      rintro e V3 ⟨rfl, hv3⟩
      have HV3 := hid (HV2.out.trans (hv3.mono HV2.out.size))
      clear hv3
      go_wp2_with fail
      go_ret
      exact ⟨rfl, HV3.out⟩

end Go.Proofs.YtfiacflggiccaaaDoor
