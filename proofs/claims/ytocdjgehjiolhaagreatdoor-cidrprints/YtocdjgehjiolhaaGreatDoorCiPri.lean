
/- What cidr.Print and the reference's Print of layer 6 do. -/
import Derived.Test.YtocdjgehjiolhaaGreatDoorCiDig
import Derived.Test.YtocdjgehjiolhaaGreatDoorIpRPr
namespace Go.Proofs.YtocdjgehjiolhaaGreatDoor
open Go.RowKit Go.BigFrame
set_option maxRecDepth 100000
attribute [local go_sem ↓] loadA_eq loadN_eq

/-- All of the library's tables that are read. -/
structure TabZ (w : World) : Prop where
  e : TabE w
  p : TabP w
theorem TabZ.below {w w' : World} (h : TabZ w) (hb : Below w.heap.size w w') : TabZ w' := ⟨h.e.below hb, h.p.below hb⟩
theorem may_last (B : List UInt8) (hB : B.length = 16) (h : mayB false B = true) : B = lastL B := by
  unfold mayB at h
  rw [Bool.false_or] at h
  have h2 := of_decide_eq_true h
  obtain ⟨b0, b1, b2, b3, b4, b5, b6, b7, b8, b9, b10, b11, b12, b13, b14, b15, rfl⟩ := letters B hB
  simp [lastL, v4L, zer, List.replicate] at h2 ⊢
  exact h2
theorem ipprint_any (v : Bool) (B : List UInt8) (hB : B.length = 16) (hm : mayB v B = true) (w : World) (hT : TabP w) : Calls Tryz.prog 10 #[.agg (acs v B)] w fun e w' => e = .returned (.tuple #[.string (asS (printA v B)), .int .i64 0]) ∧ Below w.heap.size w w' := by
  cases v
  · have h := print4_any B hB w hT.tab true (by rw [decide_eq_true (may_last B hB hm)])
    have e : printA false B = lastB B := rfl
    rw [e]
    simpa using h
  · exact print6_any B hB w hT
theorem refprint_any (v : Bool) (B : List UInt8) (hB : B.length = 16) (w : World) : Calls Tryz.prog 24 #[.agg (acs v B)] w fun e w' => e = .returned (.string (asS (printA v B))) ∧ Below w.heap.size w w' := by
  cases v
  · exact refPrint4 B hB w
  · cases hm : mappedB B with
    | true =>
      have e : printA true B = FFFF ++ lastB B := by unfold printA; rw [if_neg (by simp), if_pos hm]
      rw [e]
      exact refPrintM B hB hm w
    | false =>
      have e : printA true B = shortB (toG B) (best (toG B)).1 (best (toG B)).2 := by unfold printA; rw [if_neg (by simp), if_neg (by rw [hm]; simp)]
      rw [e]
      exact refPrintS B hB hm w
theorem printA_len6 (v : Bool) (B : List UInt8) (hB : B.length = 16) : (printA v B).length ≤ 1000 := by
  have h1 : (lastB B).length ≤ 84 := by rw [← dotsTo_four]; exact dots_len B 4 (by omega)
  unfold printA
  split
  · omega
  · split
    · rw [List.length_append]
      have : FFFF.length = 7 := rfl
      omega
    · rw [← sTo_short _ _ _ (by rw [toG_len, hB]) (best_run _).1]
      exact Nat.le_trans (sTo_len _ _ _ 8) (by omega)
theorem print_cat (v : Bool) (B : List UInt8) (k : Nat) : (asS (printA v B) ++ ⟨#[47]⟩) ++ asS (digs 10 k) = asS (printN v B k) := by
  have e : (⟨#[47]⟩ : ByteArray) = asS [47] := rfl
  rw [e, asS_cat, asS_cat]
  unfold printN
  simp
theorem itoa_small (k : Nat) (h : k ≤ 128) : Lib.itoa (k : Int) = digs 10 k := itoa_fin129 ⟨k, by omega⟩
set_option maxHeartbeats 2000000 in
theorem print_no (n : NetV) (hB : n.B.length = 16) (hm : mayV n = false) (w : World) : Calls Tryz.prog 4 #[.agg (ncs n)] w fun e w' => e = .returned (.tuple #[.string ⟨#[]⟩, .int .i64 1]) ∧ Below w.heap.size w w' := by
  have HC := hid (fun W => check_net n hB W)
  rw [hm] at HC
  simp only [Bool.false_eq_true, if_false] at HC
  have l0 := loadN_row hB (heap_alloc_new w (.cells (ncs n) 26))
  generalize ncs n = X at HC l0 ⊢
  go_enter Tryz.func4, Tryz.ntmps4
  go_wp2_with fail
  refine (HC.out _).mono ?_
  rintro e W1 ⟨rfl, hb1⟩
  have HB := hid (row1 hb1).2.1
  clear hb1 l0
  go_wp2_with fail
  go_ret2
  exact ⟨rfl, HB.out⟩
set_option maxHeartbeats 2000000 in
theorem print_yes (n : NetV) (hB : n.B.length = 16) (hm : mayV n = true) (k : Nat) (hk : n.k = (k : Int)) (w : World) (hT : TabZ w) : Calls Tryz.prog 4 #[.agg (ncs n)] w fun e w' => e = .returned (.tuple #[.string (asS (printN n.v n.B k)), .int .i64 0]) ∧ Below w.heap.size w w' := by
  have HC := hid (fun W => check_net n hB W)
  rw [hm] at HC
  simp only [if_true] at HC
  obtain ⟨hmb, h0, h1⟩ := mayN_parts hm
  have htot := tot_le n.v
  have HP := hid (fun W h => ipprint_any n.v n.B hB hmb W h)
  have HI : Hid (∀ W, TabS W → Calls Tryz.prog 11 #[.int .i64 k] W fun e w' => e = .returned (.string (asS (digs 10 k))) ∧ Below W.heap.size W w') := fun W h => by
    have := itoa_all k (by omega) (by omega) W h
    rwa [itoa_small k (by omega)] at this
  have HCAT := hid (print_cat n.v n.B k)
  have hz1 : (asS (printA n.v n.B)).size ≤ 1000 := by rw [asS_len]; exact printA_len6 n.v n.B hB
  have hz2 : (asS (digs 10 k)).size ≤ 20 := by rw [asS_len]; exact digs_short 10 k
  have HLN : Hid (∀ {W : World} {g : Nat}, W.heap[g]? = some (.cells (ncs n) 26 (0, 0)) → (loadI 26 (.pointer (some ⟨g, 0, none⟩))).run Tryz.prog W = .ok (.agg (ncs n)) W ∧ (loadI 24 (.pointer (some ⟨g, 0, none⟩))).run Tryz.prog W = .ok (.agg (acs n.v n.B)) W ∧ W.cell? ⟨g, 17, none⟩ = some (.int .i64 (k : Int))) := fun h => ⟨loadN_row hB h, loadNA_row hB h, by rw [cell_of_row _ _ _ _ _ _ h, ncs_bits n hB, hk]⟩
  have HT := hid hT
  clear hT hm hmb h0 h1
  generalize asS (printN n.v n.B k) = R at HCAT ⊢
  generalize asS (printA n.v n.B) = S1 at HP HCAT hz1
  generalize asS (digs 10 k) = S2 at HI HCAT hz2
  generalize acs n.v n.B = AX at HP HLN
  generalize ncs n = X at HC HLN ⊢
  have l0 := (HLN.out (heap_alloc_new w (.cells X 26))).1
  go_enter Tryz.func4, Tryz.ntmps4
  go_wp2_with fail
  refine (HC.out _).mono ?_
  rintro e W1 ⟨rfl, hb1⟩
  obtain ⟨r1, b1, z1⟩ := row1 hb1
  have HR := hid r1; have HB := hid b1
  clear hb1 r1 b1 l0
  have l1 := (HLN.out HR.out).2.1
  go_wp2_with fail
  refine (HP.out _ (HT.out.below HB.out).p).mono ?_
  rintro e W2 ⟨rfl, hb2⟩
  have HB2 : Hid (Below w.heap.size w W2) := HB.out.trans (hb2.mono HB.out.size)
  have l2 := (HLN.out ((hb2.block _ z1).trans HR.out)).2.2
  clear hb2 l1
  go_wp2_with fail
  refine (HI.out _ (HT.out.below HB2.out).e.tab).mono ?_
  rintro e W3 ⟨rfl, hb3⟩
  have HB3 : Hid (Below w.heap.size w W3) := HB2.out.trans (hb3.mono HB2.out.size)
  clear hb3 l2
  have hz3 : (S1 ++ ⟨#[47]⟩ : ByteArray).size ≤ 1001 := by rw [ByteArray.size_append]; show S1.size + 1 ≤ 1001; omega
  go_wp2_with fail
  go_ret2
  exact ⟨by rw [← HCAT.out]; rfl, HB3.out⟩
set_option maxHeartbeats 2000000 in
theorem refPrint_net (n : NetV) (hB : n.B.length = 16) (k : Nat) (hk : n.k = (k : Int)) (hk2 : k ≤ 128) (w : World) : Calls Tryz.prog 9 #[.agg (ncs n)] w fun e w' => e = .returned (.string (asS (printN n.v n.B k))) ∧ Below w.heap.size w w' := by
  have HP := hid (fun W => refprint_any n.v n.B hB W)
  have HI := hid (fun W => dig_any k hk2 W)
  have HCAT := hid (print_cat n.v n.B k)
  have hz1 : (asS (printA n.v n.B)).size ≤ 1000 := by rw [asS_len]; exact printA_len6 n.v n.B hB
  have hz2 : (asS (digs 10 k)).size ≤ 20 := by rw [asS_len]; exact digs_short 10 k
  have HLN : Hid (∀ {W : World} {g : Nat}, W.heap[g]? = some (.cells (ncs n) 26 (0, 0)) → LDA W g (acs n.v n.B)) := fun h => loadNA_re hB h
  have HBI : Hid ((ncs n)[17]? = some (.int .i64 (k : Int))) := by show _ = _; rw [ncs_bits n hB, hk]
  generalize asS (printN n.v n.B k) = R at HCAT ⊢
  generalize asS (printA n.v n.B) = S1 at HP HCAT hz1
  generalize asS (digs 10 k) = S2 at HI HCAT hz2
  generalize acs n.v n.B = AX at HP HLN
  generalize ncs n = X at HLN HBI ⊢
  go_enter Tryz.func9, Tryz.ntmps9
  go_wp2_with fail
  obtain ⟨V, hV⟩ : ∃ V, V = w.alloc (Obj.cells X 26) := ⟨_, rfl⟩
  have HR : Hid (V.heap[w.heap.size]? = some (.cells X 26 (0, 0))) := by rw [hV]; exact heap_alloc_new w _
  have HB : Hid (Below w.heap.size w V) := by rw [hV]; exact alloc_below (Below.refl _ w) (Nat.le_refl _) _
  rw [← hV]
  clear hV
  have k0 := cell_regrown (w := V) (a := ⟨w.heap.size, 17, none⟩) (v := .int .i64 k) (by rw [cell_of_row _ _ _ _ _ _ HR.out]; exact HBI.out)
  have k1 := HLN.out HR.out
  have c1 : REG 24 #[.agg AX] V (.string S1) := fun d os => Calls.regrown_of (HP.out _)
  have c2 : REG 25 #[.int .i64 k] V (.string S2) := fun d os => Calls.regrown_of (HI.out _)
  have hz3 : (S1 ++ ⟨#[47]⟩ : ByteArray).size ≤ 1001 := by rw [ByteArray.size_append]; show S1.size + 1 ≤ 1001; omega
  have hz4 : ¬ (9223372036854775807 < S1.size + 1) := by omega
  have hz5 : ¬ (9223372036854775807 < S1.size + 1 + S2.size) := by omega
  have hz6 : ¬ (9223372036854775807 < (S1 ++ ⟨#[47]⟩ : ByteArray).size + S2.size) := by omega
  refine wp_region_quiet_below (by kernel_rfl) (by kernel_rfl) ?_
  repeat (go_big_quiet_step (first | (go_at_call 24; exact c1 _ _) | (go_at_call 25; exact c2 _ _)))
  refine wpQuiet_nil ?_
  rintro W9 ⟨⟨dq, osq⟩, hw⟩
  have HB9 : Hid (Below V.heap.size V W9) := by rw [hw]; exact below_regrown V dq osq
  clear hw k0 k1 c1 c2
  go_wp2_with fail
  go_ret
  exact ⟨by rw [← HCAT.out]; rfl, HB.out.trans (HB9.out.mono HB.out.size)⟩
end Go.Proofs.YtocdjgehjiolhaaGreatDoor
