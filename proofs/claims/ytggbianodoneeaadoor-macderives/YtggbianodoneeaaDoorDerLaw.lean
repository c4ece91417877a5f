
/- What MacDerives does at every input. -/
import Derived.Test.YtggbianodoneeaaDoorRefDer
import Derived.Test.YtggbianodoneeaaDoorSameLaw
namespace Go.Proofs.YtggbianodoneeaaDoor
open Go.RowKit
set_option linter.unusedSimpArgs false
set_option linter.unusedVariables false

theorem drv_cut (key label : List UInt8) (x y : Nat) (h : x ≤ y) : (drv key label y).take x = drv key label x := by
  rw [← tags_take key label y (y + 1) (by omega), ← tags_take key label x (y + 1) (by omega), List.take_take, Nat.min_eq_left h]
theorem str_row {w : World} {g n c : Nat} {l : List UInt8} (h : BytesAt w (some ⟨g, 0, none⟩) l) (hl : l.length = n) : (convert 31 9 (.slice (some ⟨g, 0, none⟩) n c)).run Tryd.prog w = .ok (.string ⟨l.toArray⟩) w := by
  subst hl
  exact str_at h (fun _ => .inr ⟨_, rfl⟩)
theorem BytesAt.take {w : World} {A : Option Addr} {l : List UInt8} (h : BytesAt w A l) (n : Nat) : BytesAt w A (l.take n) := fun h0 => by
  have h1 : 0 < l.length := by rw [List.length_take] at h0; omega
  obtain ⟨q, o, e, hq, hc⟩ := h h1
  refine ⟨q, o, e, hq, fun j hj => ?_⟩
  rw [List.length_take] at hj
  rw [hc j (by omega)]
  congr 3
  simp [List.getD_eq_getElem?_getD, show j < n from by omega]

set_option maxRecDepth 100000 in
set_option maxHeartbeats 4000000 in
theorem der_law (a0 : Option Addr) (len0 cap0 : Nat) (z0 : List Int) (s : ByteArray) (x y : Int) (w : World) (h0 : IsRow .u8 w a0 len0 cap0 z0) (hT : TabS w) :
    Calls Tryd.prog 4 #[.slice a0 len0 cap0, .string s, .agg #[.int .i64 x, .int .i64 y]] w fun e w' => e = .returned (.bool true) ∧ Below w.heap.size w w' := by
  have HAW := hid awake3_any
  have HT := hid hT
  have hT1 := hT.lt
  obtain ⟨key, rfl, hc0, hA⟩ := row_at h0 (by omega)
  have HA := hid hA
  have HB0 : Hid (∀ o1, Below w.heap.size w (w.alloc o1)) := fun o1 => (Below.refl _ _).alloc (Nat.le_refl _) o1
  clear hT h0 hA
  by_cases hl1 : (key.length : Int) ≤ 2000
  case neg =>
    go_enter Tryd.func4, Tryd.ntmps4
    go_wp2_with (go_at_call 13; refine (HAW.out _ (HT.out.below (HB0.out _) hT1)).mono ?_; rintro e w1 ⟨rfl, hb1⟩)
    go_ret
    exact ⟨rfl, (HB0.out _).trans (hb1.mono (by simp))⟩
  by_cases hl2 : (s.size : Int) ≤ 2000
  case neg =>
    go_enter Tryd.func4, Tryd.ntmps4
    go_wp2_with (go_at_call 13; refine (HAW.out _ (HT.out.below (HB0.out _) hT1)).mono ?_; rintro e w1 ⟨rfl, hb1⟩)
    go_ret
    exact ⟨rfl, (HB0.out _).trans (hb1.mono (by simp))⟩
  have HDB : Hid (∀ (n : Int) W, (n < 0 ∨ 1024 < n) → Calls Tryd.prog 14 #[.slice a0 key.length cap0, .string s, .int .i64 n] W fun e w' => e = .returned (.tuple #[.slice none 0 0, .int .i64 1]) ∧ w' = W) := fun n W h => derive_bad a0 key.length cap0 s n h W
  have HDA : Hid (∀ (n : Nat) W, n ≤ 1024 → TabS W → BytesAt W a0 key → Calls Tryd.prog 14 #[.slice a0 key.length cap0, .string s, .int .i64 (n : Int)] W fun e w' => e = .returned (.tuple #[.slice (some ⟨W.heap.size, 0, none⟩) n n, .int .i64 0]) ∧ w'.heap[W.heap.size]? = some (.cells (bcs (drv key s.data.toList n)) 5 (0, 0)) ∧ Below W.heap.size W w') := fun n W h1 h2 h3 => derive_any key s n h1 a0 cap0 W h2 h3 hc0 (by omega) (by omega)
  have HRF : Hid (∀ (n : Nat) W, n ≤ 1024 → BytesAt W a0 key → Calls Tryd.prog 15 #[.slice a0 key.length cap0, .string s, .int .i64 (n : Int)] W fun e w' => (∃ g c, e = .returned (.slice (some ⟨g, 0, none⟩) n c) ∧ Own w' W.heap.size g n c (drv key s.data.toList n)) ∧ Below W.heap.size W w') := fun n W h1 h2 => refDer_any key s n h1 a0 cap0 W h2 (by omega) (by omega)
  by_cases hx : x < 0 ∨ 1024 < x
  · have HX := hid (HDB.out x (w.alloc (.cells #[.int .i64 x, .int .i64 y] 32)) hx)
    rcases hx with hx | hx
    · go_enter Tryd.func4, Tryd.ntmps4
      go_wp2_with fail
      refine HX.out.mono ?_
      rintro e W1 ⟨rfl, hW⟩
      rw [hW]
      clear hW
      go_wp2_with fail
      refine (HAW.out _ (HT.out.below (HB0.out _) hT1)).mono ?_
      rintro e w1 ⟨rfl, hb1⟩
      go_wp2_with fail
      go_ret
      exact ⟨rfl, (HB0.out _).trans (hb1.mono (by simp))⟩
    · have hx2 : ¬ x < 0 := by omega
      go_enter Tryd.func4, Tryd.ntmps4
      go_wp2_with fail
      refine HX.out.mono ?_
      rintro e W1 ⟨rfl, hW⟩
      rw [hW]
      clear hW
      go_wp2_with fail
      refine (HAW.out _ (HT.out.below (HB0.out _) hT1)).mono ?_
      rintro e w1 ⟨rfl, hb1⟩
      go_wp2_with fail
      go_ret
      exact ⟨rfl, (HB0.out _).trans (hb1.mono (by simp))⟩
  · obtain ⟨n, rfl⟩ : ∃ n : Nat, x = (n : Int) := ⟨x.toNat, by omega⟩
    have hn : n ≤ 1024 := by omega
    have hq1 : ¬ ((n : Int) < 0) := by omega
    have hq2 : ¬ ((1024 : Int) < (n : Int)) := by omega
    clear hx
    have HDL := hid (drv_len key s.data.toList n)
    have HCU := hid (drv_cut key s.data.toList n)
    have HDN := hid (HDA.out n)
    have HRN := hid (HRF.out n)
    generalize drv key s.data.toList n = D at HDL HCU HDN HRN
    go_enter Tryd.func4, Tryd.ntmps4
    go_wp2_with fail
    refine (HDN.out _ hn (HT.out.below (HB0.out _) hT1) (HA.out.below (HB0.out _) (Nat.le_refl _))).mono ?_
    rintro e W1 ⟨rfl, hr1, hb1⟩
    have h01 : W1.heap[w.heap.size]? = some (.cells #[.int .i64 (n : Int), .int .i64 y] 32 (0, 0)) := (hb1.block _ (by simp)).trans (heap_alloc_new w _)
    have hz0 : (w.alloc (.cells #[.int .i64 (n : Int), .int .i64 y] 32)).heap.size = w.heap.size + 1 := by simp
    rw [hz0] at hr1 hb1 ⊢
    have cn : W1.cell? ⟨w.heap.size, 0, none⟩ = some (.int .i64 (n : Int)) := by rw [cell_of_row _ _ _ _ _ _ h01]; rfl
    have cy : W1.cell? ⟨w.heap.size, 1, none⟩ = some (.int .i64 y) := by rw [cell_of_row _ _ _ _ _ _ h01]; rfl
    have HR1 := hid hr1
    have HB1 : Hid (Below w.heap.size w W1) := (HB0.out _).trans (hb1.mono (by omega))
    have hz1 : w.heap.size + 1 < W1.heap.size := (Array.getElem?_eq_some_iff.1 hr1).1
    have s1 : (convert 31 9 (.slice (some ⟨w.heap.size + 1, 0, none⟩) n n)).run Tryd.prog W1.drew = .ok (.string ⟨D.toArray⟩) W1.drew := str_row (BytesAt.of_row (w := W1.drew) (by exact hr1)) HDL.out
    have H01 := hid h01
    clear hr1 hb1 h01 hz0
    go_wp2_with fail
    go_cut [57] (fun v wx => v = .bool false ∧ Hid (wx.heap[w.heap.size]? = some (.cells #[.int .i64 (n : Int), .int .i64 y] 32 (0, 0))) ∧ Hid (wx.heap[w.heap.size + 1]? = some (.cells (bcs D) 5 (0, 0))) ∧ Hid (Below w.heap.size w wx))
    case first =>
      have HRC : Hid (Calls Tryd.prog 15 #[.slice a0 key.length cap0, .string s, .int .i64 (n : Int)] W1.drew fun e w' => (∃ g c, e = .returned (.slice (some ⟨g, 0, none⟩) n c) ∧ (convert 31 9 (.slice (some ⟨g, 0, none⟩) n c)).run Tryd.prog w' = .ok (.string ⟨D.toArray⟩) w' ∧ (convert 31 9 (.slice (some ⟨w.heap.size + 1, 0, none⟩) n n)).run Tryd.prog w' = .ok (.string ⟨D.toArray⟩) w') ∧ (w'.heap[w.heap.size]? = some (.cells #[.int .i64 (n : Int), .int .i64 y] 32 (0, 0))) ∧ (w'.heap[w.heap.size + 1]? = some (.cells (bcs D) 5 (0, 0))) ∧ Below w.heap.size w w') := by
        refine (HRN.out W1.drew hn (by exact (HA.out.below HB1.out (Nat.le_refl _)).below (below_drewN W1.heap.size W1 1) (Nat.le_refl _))).mono ?_
        rintro e w' ⟨⟨g, c, rfl, ho⟩, hb⟩
        have e1 := (hb.block (w.heap.size + 1) hz1).trans HR1.out
        exact ⟨⟨g, c, rfl, str_row ho.bytes HDL.out, str_row (BytesAt.of_row e1) HDL.out⟩, (hb.block w.heap.size (Nat.lt_trans (Nat.lt_succ_self _) hz1)).trans H01.out, e1, (HB1.out.trans (below_drewN _ W1 1)).trans (hb.mono HB1.out.size)⟩
      have e0 := str_same D D
      rw [decide_eq_true rfl] at e0
      generalize (⟨D.toArray⟩ : ByteArray) = X at s1 HRC e0
      go_region_with ((go_at_call 15; refine HRC.out.mono ?_; rintro e w1 ⟨⟨g, c, rfl, s2, s3⟩, h1, h2, h3⟩; have H1 := hid h1; have H2 := hid h2; have H3 := hid h3; clear h1 h2 h3))
      all_goals
        go_wp2_with fail
        go_meet
        case rel => exact ⟨rfl, H1, H2, H3⟩
    case rest =>
      obtain ⟨rfl, H1, H2, H3⟩ := hcut
      clear H01 HR1 HB1 cn cy s1
      have cy : wc.cell? ⟨w.heap.size, 1, none⟩ = some (.int .i64 y) := by rw [cell_of_row _ _ _ _ _ _ H1.out]; rfl
      have hz2 : w.heap.size + 1 < wc.heap.size := (Array.getElem?_eq_some_iff.1 H2.out).1
      by_cases hy : y < 0 ∨ 1024 < y
      · have HX := hid (HDB.out y wc hy)
        go_wp2_with fail
        refine HX.out.mono ?_
        rintro e W2 ⟨rfl, hW⟩
        rw [hW]
        clear hW
        go_wp2_with fail
        refine (HAW.out _ (HT.out.below H3.out hT1)).mono ?_
        rintro e w1 ⟨rfl, hb1⟩
        go_wp2_with fail
        go_ret
        exact ⟨rfl, H3.out.trans (hb1.mono H3.out.size)⟩
      · obtain ⟨m, rfl⟩ : ∃ m : Nat, y = (m : Int) := ⟨y.toNat, by omega⟩
        have hm : m ≤ 1024 := by omega
        clear hy
        have HML := hid (drv_len key s.data.toList m)
        go_wp2_with fail
        refine (HDA.out m _ hm (HT.out.below H3.out hT1) (HA.out.below H3.out (Nat.le_refl _))).mono ?_
        rintro e W2 ⟨rfl, hr2, hb2⟩
        have HB2 := hid (H3.out.trans (hb2.mono H3.out.size))
        have HR2 := hid hr2
        have HP2 := hid ((hb2.block _ hz2).trans H2.out)
        clear hr2 hb2 H1 H2 H3 cy
        by_cases hmn : (m : Int) < (n : Int)
        · go_wp2_with fail
          refine (HAW.out _ (HT.out.below HB2.out hT1)).mono ?_
          rintro e w1 ⟨rfl, hb1⟩
          go_wp2_with fail
          go_ret
          exact ⟨rfl, HB2.out.trans (hb1.mono HB2.out.size)⟩
        · have hnm : n ≤ m := by omega
          have hcu := HCU.out m hnm
          have s1 : (convert 31 9 (.slice (some ⟨w.heap.size + 1, 0, none⟩) n n)).run Tryd.prog W2.drew = .ok (.string ⟨D.toArray⟩) W2.drew := str_row (BytesAt.of_row (w := W2.drew) (by exact HP2.out)) HDL.out
          have s2 : (convert 31 9 (.slice (some ⟨wc.heap.size, 0, none⟩) n m)).run Tryd.prog W2.drew = .ok (.string ⟨D.toArray⟩) W2.drew := by
            refine str_row ?_ HDL.out
            rw [← hcu]
            exact BytesAt.take (BytesAt.of_row (w := W2.drew) (by exact HR2.out)) n
          clear hcu
          have e0 := str_same D D
          rw [decide_eq_true rfl] at e0
          generalize (⟨D.toArray⟩ : ByteArray) = X at s1 s2 e0
          have HTD : Hid (TabS W2.drew) := (HT.out.below HB2.out hT1).below (below_drewN 2 W2 1) (by have := HB2.out.size; omega)
          go_wp2_with fail
          go_region_with ((go_at_call 13; refine (HAW.out _ HTD.out).mono ?_; rintro e w1 ⟨rfl, hb1⟩))
          all_goals
            go_wp2_with fail
            go_ret
            exact ⟨rfl, (HB2.out.trans (below_drewN _ W2 1)).trans (hb1.mono HB2.out.size)⟩

end Go.Proofs.YtggbianodoneeaaDoor
