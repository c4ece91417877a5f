
/- The law IpEmbeds, walked. -/
import Derived.Test.YtggjblnbjigjmaaDoorIpRefM
namespace Go.Proofs.YtggjblnbjigjmaaDoor
open Go.RowKit
attribute [local go_sem ↓] loadA_eq

theorem x4 (l : List UInt8) (h : l.length = 4) : ∃ a b c d, l = [a, b, c, d] := by
  match l, h with
  | [a, b, c, d], _ => exact ⟨a, b, c, d, rfl⟩
theorem ansE_len (v : Bool) (B : List UInt8) : (ansB (embO v B)).length = 16 := by
  unfold embO ansB
  split
  · rfl
  · split
    · rfl
    · split <;> rfl
set_option maxHeartbeats 4000000 in
theorem embeds_law (v : Bool) (B : List UInt8) (hB : B.length = 16) (l : List UInt8) (hl4 : l.length = 4) (w : World) (hT : TabS w) : Calls Tryd.prog 6 #[.agg (acs v B), .agg (bcs l)] w fun e w' => e = .returned (.bool true) ∧ Below w.heap.size w w' := by
  obtain ⟨x0, x1, x2, x3, rfl⟩ := x4 l hl4
  have HT := hid hT
  clear hT hl4
  have HUN := hid (fun W => unmap_any v B hB W)
  have HEM := hid (fun W => embeds_any v B hB W)
  have HRE := hid (fun W => refEmb_any v B hB W)
  have HMA := hid (fun W => refMapped_any v B hB W)
  have HTA : Hid (∀ W, Calls Tryd.prog 23 #[.agg (acs v B), .int .i64 12] W fun e w' => e = .returned (.agg (acs false (tailL B 12))) ∧ Below W.heap.size W w') := fun W => refTail_any v B hB 12 (by omega) W
  obtain ⟨q, hq⟩ : ∃ q, q = isH mapH v B := ⟨_, rfl⟩
  have HUE : Hid (q = true → unmV v B = false ∧ unmB v B = tailL B 12) := fun h => by unfold unmV unmB; rw [← hq, h]; exact ⟨rfl, rfl⟩
  have HUE2 : Hid (q = false → unmV v B = v ∧ unmB v B = B) := fun h => by unfold unmV unmB; rw [← hq, h]; exact ⟨rfl, rfl⟩
  have HUL : Hid ((unmB v B).length = 16) := by show _ = _; unfold unmB; split; exact lastL_len B; exact hB
  rw [← hq] at HMA
  clear hq
  have HAL := hid (ansE_len v B)
  have hg := guardA
  have qE := fun W => eqSame false (ansB (embO v B)) HAL.out W
  generalize ansB (embO v B) = EB at HEM HRE HAL qE
  generalize (embO v B).isSome = eb at HEM HRE
  -- the number
  obtain ⟨N, hN⟩ : ∃ N, N = ((x0.toNat * 256 + x1.toNat) * 256 + x2.toNat) * 256 + x3.toNat := ⟨_, rfl⟩
  have l0 := x0.toNat_lt; have l1 := x1.toNat_lt; have l2 := x2.toNat_lt; have l3 := x3.toNat_lt
  have hNl : N < 4294967296 := by omega
  have HN2 : Hid (((x0.toNat : Nat) : Int) * 16777216 + ((x1.toNat : Nat) : Int) * 65536 + ((x2.toNat : Nat) : Int) * 256 + ((x3.toNat : Nat) : Int) = (N : Int)) := by show _ = _; omega
  have HV4 := hid (fun W => v4_any x0 x1 x2 x3 W)
  have HR4 := hid (fun W => refV4_any N (by omega) W)
  have hVB : v4B N = v4L x0 x1 x2 x3 := by rw [hN]; exact v4_bytes x0 x1 x2 x3
  rw [hVB] at HR4
  have qV := fun W => eqSame false (v4L x0 x1 x2 x3) rfl W
  generalize v4L x0 x1 x2 x3 = VL at HV4 HR4 qV
  clear hVB hN
  generalize hUV : unmV v B = uv at HUN HUE HUE2
  generalize hUB : unmB v B = ub at HUN HUE HUE2 HUL
  clear hUV hUB
  have HLX : Hid (∀ {W : World} {g : Nat}, W.heap[g]? = some (.cells (acs v B) 25 (0, 0)) → (loadI 25 (.pointer (some ⟨g, 0, none⟩))).run Tryd.prog W = .ok (.agg (acs v B)) W ∧ LDA W g (acs v B)) := fun h => ⟨loadA_row hB h, fun d os => loadA_re hB h d os⟩
  have HLU : Hid (∀ {W : World} {g : Nat}, W.heap[g]? = some (.cells (acs uv ub) 25 (0, 0)) → (loadI 25 (.pointer (some ⟨g, 0, none⟩))).run Tryd.prog W = .ok (.agg (acs uv ub)) W ∧ LDA W g (acs uv ub)) := fun h => ⟨loadA_row HUL.out h, fun d os => loadA_re HUL.out h d os⟩
  have HLE : Hid (∀ {W : World} {g : Nat}, W.heap[g]? = some (.cells (acs false EB) 25 (0, 0)) → (loadI 25 (.pointer (some ⟨g, 0, none⟩))).run Tryd.prog W = .ok (.agg (acs false EB)) W) := fun h => loadA_row HAL.out h
  have HQ1 : Hid (q = true → ∀ W, (Op.equalIn 10000 25 (.agg (acs uv ub)) (.agg (acs false (tailL B 12)))).run Tryd.prog W = .ok true W) := fun h W => by
    obtain ⟨e1, e2⟩ := HUE.out h
    rw [e1, e2]; exact eqSame false (tailL B 12) rfl W
  have HQ2 : Hid (q = false → ∀ W, (Op.equalIn 10000 25 (.agg (acs uv ub)) (.agg (acs v B))).run Tryd.prog W = .ok true W) := fun h W => by
    obtain ⟨e1, e2⟩ := HUE2.out h
    rw [e1, e2]; exact eqSame v B hB W
  generalize acs v B = X at HUN HEM HRE HMA HTA HLX HQ2 ⊢
  generalize acs false (tailL B 12) = TT at HTA HQ1
  have hl0 : ∀ Z, (loadI 25 (.pointer (some ⟨w.heap.size, 0, none⟩))).run Tryd.prog ((w.alloc (.cells X 25)).alloc Z) = .ok (.agg X) ((w.alloc (.cells X 25)).alloc Z) := fun Z => (HLX.out ((Below.heap_alloc _ _ _ (by simp)).trans (heap_alloc_new w _))).1
  go_enter Tryd.func6, Tryd.ntmps6
  go_wp2_with fail
  refine (HUN.out _).mono ?_
  rintro e W1 ⟨rfl, hb1⟩
  have HR := hid (row2 hb1)
  clear hb1 hl0
  go_wp2_with (first
    | (refine store_addr rfl _ _ rfl W1.heap.size uv ub HUL.out rfl rfl _ (heap_alloc_new W1 _) rfl ?_)
    | fail)
  intro V hO hW
  have HRV : Hid (∀ W, Below V.heap.size V W → W.heap[w.heap.size]? = some (.cells X 25 (0, 0)) ∧ W.heap[w.heap.size + 1]? = some (.cells (bcs [x0, x1, x2, x3]) 37 (0, 0)) ∧ W.heap[W1.heap.size]? = some (.cells (acs uv ub) 25 (0, 0)) ∧ Below w.heap.size w W) := fun W hb => by
    have hs : V.heap.size = W1.heap.size + 1 := by rw [hO.size]; simp
    have hz1 := HR.out.2.2.2
    exact ⟨(hb.block _ (by omega)).trans ((hO.block _ (by omega)).trans ((Below.heap_alloc _ _ _ (by omega)).trans HR.out.2.1)), (hb.block _ (by omega)).trans ((hO.block _ (by omega)).trans ((Below.heap_alloc _ _ _ (by omega)).trans HR.out.1)), (hb.block _ (by omega)).trans hW, ((alloc_below HR.out.2.2.1 HR.out.2.2.1.size _).trans (hO.below HR.out.2.2.1.size)).trans (hb.mono (by omega))⟩
  clear hO hW HR
  have hlV := (HLX.out (HRV.out V (Below.refl _ _)).1).1
  go_wp2_with fail
  refine (HEM.out _).mono ?_
  rintro e W2 ⟨rfl, hb2⟩
  have HB2 := hid hb2
  clear hb2 hlV
  go_wp2_with (first
    | (refine store_addr rfl _ _ rfl W2.heap.size false EB HAL.out rfl rfl _ (heap_alloc_new W2 _) rfl ?_)
    | fail)
  intro W3 hO3 hW3
  have HB3 : Hid (Below V.heap.size V W3) := (alloc_below HB2.out HB2.out.size _).trans (hO3.below HB2.out.size)
  have HW3 := hid hW3
  have hz3 : W2.heap.size < W3.heap.size := by rw [hO3.size]; simp
  have hlV := (HLX.out (HRV.out W3 HB3.out).1).1
  clear hO3 hW3
  go_wp2_with fail
  refine (HRE.out _).mono ?_
  rintro e W4 ⟨rfl, hb4⟩
  have HB4 : Hid (Below V.heap.size V W4) := HB3.out.trans (hb4.mono HB3.out.size)
  have HW4 : Hid (W4.heap[W2.heap.size]? = some (.cells (acs false EB) 25 (0, 0))) := (hb4.block _ hz3).trans HW3.out
  have hz4 : W2.heap.size < W4.heap.size := Nat.lt_of_lt_of_le hz3 hb4.size
  clear hb4 hlV
  go_wp2_with (first
    | (refine store_addr rfl _ _ rfl W4.heap.size false EB HAL.out rfl rfl _ (heap_alloc_new W4 _) rfl ?_)
    | fail)
  intro W5 hO5 hW5
  have HB5 : Hid (Below V.heap.size V W5) := (alloc_below HB4.out HB4.out.size _).trans (hO5.below HB4.out.size)
  have hle1 := HLE.out hW5
  have hle2 := HLE.out ((hO5.block _ (by omega)).trans ((Below.heap_alloc _ _ _ hz4).trans HW4.out))
  clear hO5 hW5
  have hx := (HRV.out W5 HB5.out).2.1
  have y0 : W5.cell? ⟨w.heap.size + 1, 0, none⟩ = some (.int .u8 x0.toNat) := by rw [cell_of_row _ _ _ _ _ _ hx]; rfl
  have y1 : W5.cell? ⟨w.heap.size + 1, 1, none⟩ = some (.int .u8 x1.toNat) := by rw [cell_of_row _ _ _ _ _ _ hx]; rfl
  have y2 : W5.cell? ⟨w.heap.size + 1, 2, none⟩ = some (.int .u8 x2.toNat) := by rw [cell_of_row _ _ _ _ _ _ hx]; rfl
  have y3 : W5.cell? ⟨w.heap.size + 1, 3, none⟩ = some (.int .u8 x3.toNat) := by rw [cell_of_row _ _ _ _ _ _ hx]; rfl
  have hN2 := HN2.out
  clear hx
  go_wp2_with fail
  refine (HV4.out _).mono ?_
  rintro e W6 ⟨rfl, hb6⟩
  have HB6 : Hid (Below V.heap.size V W6) := HB5.out.trans (hb6.mono HB5.out.size)
  clear hb6 hle1 hle2 y0 y1 y2 y3
  go_wp2_with fail
  refine (HR4.out _).mono ?_
  rintro e W7 ⟨rfl, hb7⟩
  have HB7 : Hid (Below V.heap.size V W7) := HB6.out.trans (hb7.mono HB6.out.size)
  have hlV := (HLX.out (HRV.out W7 HB7.out).1).1
  clear hb7
  go_wp2_with fail
  refine (HMA.out _).mono ?_
  rintro e W8 ⟨rfl, hb8⟩
  have HB8 : Hid (Below V.heap.size V W8) := HB7.out.trans (hb8.mono HB7.out.size)
  clear hb8 hlV hN2
  have HT8 : Hid (TabS W8) := HT.out.below (HRV.out W8 HB8.out).2.2.2
  cases q
  · have hq2 := HQ2.out rfl
    have hlx := (HLX.out (HRV.out W8 HB8.out).1).1
    have hlu := (HLU.out (HRV.out W8 HB8.out).2.2.1).1
    go_wp2_with fail
    refine (awake_any _ HT8.out).mono ?_
    rintro e W9 ⟨rfl, hb9⟩
    clear hlx hlu hq2 qE qV
    go_wp2_with fail
    go_ret
    exact ⟨rfl, (HRV.out W8 HB8.out).2.2.2.trans (hb9.mono (HRV.out W8 HB8.out).2.2.2.size)⟩
  · have hq1 := HQ1.out rfl
    have k1 : LDA W8 w.heap.size X := (HLX.out (HRV.out W8 HB8.out).1).2
    have k2 : LDA W8 W1.heap.size (acs uv ub) := (HLU.out (HRV.out W8 HB8.out).2.2.1).2
    have c1 : REG 23 #[.agg X, .int .i64 12] W8 (.agg TT) := fun d os => Calls.regrown_of (HTA.out _)
    have c2 : REG 8 #[] W8 (.bool true) := fun d os => Calls.regrown_of (awake_any _ (HT8.out.below (below_regrown W8 d os)))
    go_wp2_with fail
    refine wp_region_quiet_below (by kernel_rfl) (by kernel_rfl) ?_
    repeat (quiet_step (first | (go_at_call 23; exact c1 _ _) | (go_at_call 8; exact c2 _ _)))
    refine wpQuiet_nil ?_
    rintro W9 ⟨⟨dq, osq⟩, hw⟩
    have HB9 : Hid (Below W8.heap.size W8 W9) := by rw [hw]; exact below_regrown W8 dq osq
    clear hw k1 k2 c1 c2 hq1 qE qV hg
    go_wp2_with fail
    go_ret
    exact ⟨rfl, (HRV.out W8 HB8.out).2.2.2.trans (HB9.out.mono (HRV.out W8 HB8.out).2.2.2.size)⟩
end Go.Proofs.YtggjblnbjigjmaaDoor
