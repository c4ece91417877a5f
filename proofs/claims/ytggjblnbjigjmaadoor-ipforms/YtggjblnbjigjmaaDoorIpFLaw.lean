
/- The law IpForms, walked. -/
import Derived.Test.YtggjblnbjigjmaaDoorIpForm
import Derived.Test.YtggjblnbjigjmaaDoorIpFMath
import Derived.Test.YtggjblnbjigjmaaDoorIpLLaw
import Derived.OpenShut
namespace Go.Proofs.YtggjblnbjigjmaaDoor
open Go.RowKit

theorem asS_dot (x : List UInt8) : asS x ++ ⟨#[46]⟩ = asS (x ++ [46]) := asS_app x [46]
theorem formB_short (c n : Nat) : (formB c n).length ≤ 22 := by
  unfold formB
  have h1 := digs_short 8 n
  have h2 := digs_short 16 n
  have h3 := digs_short 10 n
  split
  · simp; omega
  · split
    · simp; omega
    · omega
theorem fjn_short (n k : Nat) (ks : List UInt8) : ∀ j, (fjn n k ks j).length ≤ 23 * j
  | 0 => by simp [fjn]
  | 1 => by have := formB_short (ks.getD 0 0).toNat (fvs n k 0); simp [fjn, fps]; simp at this; omega
  | j + 2 => by
    have ih := fjn_short n k ks (j + 1)
    have := formB_short (ks.getD (j + 1) 0).toNat (fvs n k (j + 1))
    simp only [fjn, List.length_append, List.length_cons, fps]
    omega
/-- The numbers of a round that isn't the last. -/
theorem form_nums (n i L : Nat) (hi : i ≤ 2) (hL : L = n % 256 ^ (4 - i)) : ∃ c v E L2 : Nat, (24 : Int) - 8 * (i : Int) = (c : Int) ∧ c ≤ 24 ∧ ((n : Int) / 2 ^ c).tmod 256 = (v : Int) ∧ v = n / 256 ^ (3 - i) % 256 ∧ IntKind.u64.wrap ((2 : Int) ^ c) = (E : Int) ∧ ¬ (E : Int) = 0 ∧ (L : Int) % (E : Int) = (L2 : Int) ∧ L2 = n % 256 ^ (4 - (i + 1)) ∧ (n / 2 ^ c % 256 = v) ∧ (L % E = L2) ∧ E ≤ 16777216 := by
  subst hL
  rcases (show i = 0 ∨ i = 1 ∨ i = 2 by omega) with rfl | rfl | rfl
  · refine ⟨24, n / 16777216 % 256, 16777216, n % 16777216, by omega, by omega, by rw [Int.tmod_eq_emod_of_nonneg (by omega)]; simp, rfl, by decide, by omega, by simp <;> omega, rfl, by simp, by simp <;> omega, by omega⟩
  · refine ⟨16, n / 65536 % 256, 65536, n % 65536, by omega, by omega, by rw [Int.tmod_eq_emod_of_nonneg (by omega)]; simp, rfl, by decide, by omega, by simp <;> omega, rfl, by simp, by simp <;> omega, by omega⟩
  · refine ⟨8, n / 256 % 256, 256, n % 256, by omega, by omega, by rw [Int.tmod_eq_emod_of_nonneg (by omega)]; simp, rfl, by decide, by omega, by simp <;> omega, rfl, by simp, by simp <;> omega, by omega⟩

attribute [local go_sem ↓] loadA_eq
set_option maxHeartbeats 4000000 in
theorem forms_any (n : Nat) (hn : n < 4294967296) (ks : List UInt8) (hks : ks.length = 4) (pt : UInt8) (w : World) (hT : TabS w) : Calls Tryd.prog 7 #[.int .u32 n, .agg (bcs ks), .int .u8 pt.toNat] w fun e w' => e = .returned (.bool true) ∧ Below w.heap.size w w' := by
  have HT := hid hT
  clear hT
  have HKC : Hid (∀ i, i < 4 → (bcs ks)[i]? = some (.int .u8 (ks.getD i 0).toNat)) := fun i hi => bcs_at ks i (by omega)
  obtain ⟨KC, hKC⟩ : ∃ KC, KC = bcs ks := ⟨_, rfl⟩
  rw [← hKC] at HKC ⊢
  clear hKC
  obtain ⟨k, hk⟩ : ∃ k, k = 1 + pt.toNat % 4 := ⟨_, rfl⟩
  have hk1 : 1 ≤ k := by omega
  have hk4 : k ≤ 4 := by omega
  have hkk : (1 : Int) + (pt.toNat : Int) % 4 = (k : Int) := by omega
  have HFA := hid (forms_all n k ks hn hk1 hk4)
  clear hk
  go_enter Tryd.func7, Tryd.ntmps7
  go_wp2_with fail
  clear hkk
  go_loopw [8, 9, 10] (fun sv lv iv wx => ∃ (i L : Nat) (x : List UInt8), i ≤ k ∧ L < 4294967296 ∧ x.length ≤ 92 ∧ sv = .string (asS x) ∧ lv = .int .u64 (L : Int) ∧ iv = .int .i64 (i : Int) ∧ Hid (x = fjn n k ks i) ∧ Hid (i < k → L = n % 256 ^ (4 - i)) ∧ Hid (wx.heap[w.heap.size]? = some (.cells KC 37 (0, 0))) ∧ Hid (Below w.heap.size w wx)) (fun _ _ i _ => k - (intOf i).toNat)
  case atStart => exact ⟨0, n, [], by omega, hn, by simp, rfl, rfl, rfl, rfl, fun _ => by rw [show (256 : Nat) ^ (4 - 0) = 4294967296 from by decide]; omega, heap_alloc_new w _, alloc_below (Below.refl _ w) (Nat.le_refl _) _⟩
  case round =>
    obtain ⟨i, L, x, hi, hL, hx, rfl, rfl, rfl, HX, HL, HK, HB⟩ := hrel
    have hxz : (asS x).size ≤ 92 := by rw [asS_size]; exact hx
    by_cases hik : (i : Int) < (k : Int)
    · obtain ⟨c8, hc8⟩ : ∃ c8, c8 = ks.getD i 0 := ⟨_, rfl⟩
      have hc : wr.cell? ⟨w.heap.size, i, none⟩ = some (.int .u8 c8.toNat) := by rw [cell_of_row _ _ _ _ _ _ HK.out, hc8]; exact HKC.out i (by omega)
      have hsz := HB.out.size
      have hlt : w.heap.size < wr.heap.size := (Array.getElem?_eq_some_iff.1 HK.out).1
      have HLe := hid (HL.out (by omega))
      have HS := hid (fjn_short n k ks (i + 1))
      by_cases hlast : (i : Int) < (k : Int) - 1
      · obtain ⟨cn, v, E, L2, n1, n2, n3, n4, n5, n6, n7, n8, n9, n10, n11⟩ := form_nums n i L (by omega) HLe.out
        have HFP : Hid (formB c8.toNat v = fps n k ks i) := by show _ = _; unfold fps fvs; rw [if_neg (by omega), n4, hc8]
        have HL2 : Hid (i + 1 < k → L2 = n % 256 ^ (4 - (i + 1))) := fun _ => n8
        have hv : v < 256 := by omega
        have hL2 : L2 < 4294967296 := by
          have h1 : L2 < E := by rw [← n10]; exact Nat.mod_lt _ (by omega)
          omega
        clear n4 n8 n9 n10 hc8
        by_cases hi0 : (0 : Int) < (i : Int)
        · have HXN : Hid (x ++ 46 :: formB c8.toNat v = fjn n k ks (i + 1)) := by show _ = _; rw [HFP.out, HX.out, fjn_more n k ks i (by omega)]
          have hd := asS_dot x
          have HFo := hid (fun W => form_any c8 v (by omega) W)
          have hFs := formB_short c8.toNat v
          generalize formB c8.toNat v = F at HXN HFo hFs
          have ha := asS_app (x ++ [46]) F
          have HXL : Hid ((x ++ 46 :: F).length ≤ 92) := by show _ ≤ _; rw [HXN.out]; have := HS.out; omega
          have hd2 : (asS (x ++ [46])).size ≤ 93 := by rw [asS_size, List.length_append]; simp; omega
          have hF2 : (asS F).size ≤ 22 := by rw [asS_size]; exact hFs
          go_wp2_with fail
          refine (HFo.out _).mono ?_
          rintro e W1 ⟨rfl, hb1⟩
          have HK1 : Hid (W1.heap[w.heap.size]? = some (.cells KC 37 (0, 0))) := (hb1.block _ hlt).trans HK.out
          have HB1 : Hid (Below w.heap.size w W1) := HB.out.trans (hb1.mono hsz)
          clear hb1 hc
          go_wp2_with fail
          go_roundw
          case rel => exact ⟨i + 1, L2, x ++ 46 :: F, by omega, hL2, HXL.out, by simp, by first | rfl | rw [n7], by go_num, HXN, HL2, HK1, HB1⟩
          case measure => simp [intOf]; omega
        · have hi00 : i = 0 := by omega
          have HXN : Hid (x ++ formB c8.toNat v = fjn n k ks (i + 1)) := by show _ = _; rw [HFP.out, HX.out, hi00]; rfl
          clear hi00
          have HFo := hid (fun W => form_any c8 v (by omega) W)
          have hFs := formB_short c8.toNat v
          generalize formB c8.toNat v = F at HXN HFo hFs
          have ha := asS_app x F
          have HXL : Hid ((x ++ F).length ≤ 92) := by show _ ≤ _; rw [HXN.out]; have := HS.out; omega
          have hF2 : (asS F).size ≤ 22 := by rw [asS_size]; exact hFs
          go_wp2_with fail
          refine (HFo.out _).mono ?_
          rintro e W1 ⟨rfl, hb1⟩
          have HK1 : Hid (W1.heap[w.heap.size]? = some (.cells KC 37 (0, 0))) := (hb1.block _ hlt).trans HK.out
          have HB1 : Hid (Below w.heap.size w W1) := HB.out.trans (hb1.mono hsz)
          clear hb1 hc
          go_wp2_with fail
          go_roundw
          case rel => exact ⟨i + 1, L2, x ++ F, by omega, hL2, HXL.out, rfl, by first | rfl | rw [n7], by go_num, HXN, HL2, HK1, HB1⟩
          case measure => simp [intOf]; omega
      · have HFP : Hid (formB c8.toNat L = fps n k ks i) := by
          show _ = _
          unfold fps fvs; rw [if_pos (by omega), ← HLe.out, hc8]
        clear hc8
        by_cases hi0 : (0 : Int) < (i : Int)
        · have HXN : Hid (x ++ 46 :: formB c8.toNat L = fjn n k ks (i + 1)) := by show _ = _; rw [HFP.out, HX.out, fjn_more n k ks i (by omega)]
          have hd := asS_dot x
          have HFo := hid (fun W => form_any c8 L (by omega) W)
          have hFs := formB_short c8.toNat L
          generalize formB c8.toNat L = F at HXN HFo hFs
          have ha := asS_app (x ++ [46]) F
          have HXL : Hid ((x ++ 46 :: F).length ≤ 92) := by show _ ≤ _; rw [HXN.out]; have := HS.out; omega
          have hd2 : (asS (x ++ [46])).size ≤ 93 := by rw [asS_size, List.length_append]; simp; omega
          have hF2 : (asS F).size ≤ 22 := by rw [asS_size]; exact hFs
          go_wp2_with fail
          refine (HFo.out _).mono ?_
          rintro e W1 ⟨rfl, hb1⟩
          have HK1 : Hid (W1.heap[w.heap.size]? = some (.cells KC 37 (0, 0))) := (hb1.block _ hlt).trans HK.out
          have HB1 : Hid (Below w.heap.size w W1) := HB.out.trans (hb1.mono hsz)
          clear hb1 hc
          go_wp2_with fail
          go_roundw
          case rel => exact ⟨i + 1, L, x ++ 46 :: F, by omega, hL, HXL.out, by simp, rfl, by go_num, HXN, fun h => by omega, HK1, HB1⟩
          case measure => simp [intOf]; omega
        · have hi00 : i = 0 := by omega
          have HXN : Hid (x ++ formB c8.toNat L = fjn n k ks (i + 1)) := by show _ = _; rw [HFP.out, HX.out, hi00]; rfl
          clear hi00
          have HFo := hid (fun W => form_any c8 L (by omega) W)
          have hFs := formB_short c8.toNat L
          generalize formB c8.toNat L = F at HXN HFo hFs
          have ha := asS_app x F
          have HXL : Hid ((x ++ F).length ≤ 92) := by show _ ≤ _; rw [HXN.out]; have := HS.out; omega
          have hF2 : (asS F).size ≤ 22 := by rw [asS_size]; exact hFs
          go_wp2_with fail
          refine (HFo.out _).mono ?_
          rintro e W1 ⟨rfl, hb1⟩
          have HK1 : Hid (W1.heap[w.heap.size]? = some (.cells KC 37 (0, 0))) := (hb1.block _ hlt).trans HK.out
          have HB1 : Hid (Below w.heap.size w W1) := HB.out.trans (hb1.mono hsz)
          clear hb1 hc
          go_wp2_with fail
          go_roundw
          case rel => exact ⟨i + 1, L, x ++ F, by omega, hL, HXL.out, rfl, rfl, by go_num, HXN, fun h => by omega, HK1, HB1⟩
          case measure => simp [intOf]; omega
    · have hik' : i = k := by omega
      have HJ : Hid (looseA x = some (v4B n)) := by show _ = _; rw [HX.out, hik']; exact HFA.out
      clear hik'
      have hs9 : (asS x).size ≤ 1000000 := by omega
      have HLo : Hid (∀ W, TabS W → Calls Tryd.prog 11 #[.string (asS x)] W fun e w' => e = .returned (.tuple #[.agg (acs false (v4B n)), .int .i64 0]) ∧ Below W.heap.size W w') := fun W h => by
        have := loose_any (asS x) hs9 W h
        rw [asS_data, HJ.out] at this
        exact this
      have HVL := hid (v4B_len n)
      have HV := hid (fun W => refV4_any n (by omega) W)
      have hq : ∀ W, (Op.equalIn 10000 25 (.agg (acs false (v4B n))) (.agg (acs false (v4B n)))).run Tryd.prog W = .ok true W := fun W => eqSame false (v4B n) HVL.out W
      have hg := guardA
      generalize v4B n = VB at HLo HV HVL hq
      clear HKC HFA HJ
      go_wp2_with fail
      refine (HLo.out _ (HT.out.below HB.out)).mono ?_
      rintro e W1 ⟨rfl, hb1⟩
      have HB1 : Hid (Below w.heap.size w W1) := HB.out.trans (hb1.mono HB.out.size)
      clear hb1
      go_wp2_with (first
        | (refine store_addr rfl _ _ rfl W1.heap.size false VB HVL.out rfl rfl _ (heap_alloc_new W1 _) rfl ?_)
        | fail)
      intro W2 hO2 hW2
      have HB2 : Hid (Below w.heap.size w W2) := (alloc_below HB1.out HB1.out.size _).trans (hO2.below HB1.out.size)
      have k1 := loadA_re HVL.out hW2
      have HT2 : Hid (TabS W2) := HT.out.below HB2.out
      clear hW2 hO2
      have cV : ∀ d os, Calls Tryd.prog 21 #[.int .u64 n] (Sort.grow (redrawn W2 d) os) fun e w'' => e = .returned (.agg (acs false VB)) ∧ ∃ p : Regrown, w'' = Sort.grow (redrawn W2 p.d) p.os := fun d os => Calls.regrown_of (HV.out _)
      have cA : ∀ d os, Calls Tryd.prog 8 #[] (Sort.grow (redrawn W2 d) os) fun e w'' => e = .returned (.bool true) ∧ ∃ p : Regrown, w'' = Sort.grow (redrawn W2 p.d) p.os := fun d os => Calls.regrown_of (awake_any _ (HT2.out.below (below_regrown W2 d os)))
      have hwn : IntKind.u64.wrap (n : Int) = (n : Int) := by rw [IntKind.wrap_u64]; omega
      go_wp2_with fail
      refine wp_region_quiet_below (by kernel_rfl) (by kernel_rfl) ?_
      repeat (quiet_step (first | exact cV _ _ | exact cA _ _))
      refine wpQuiet_nil ?_
      rintro W9 ⟨⟨dq, osq⟩, hw⟩
      have HB9 : Hid (Below W2.heap.size W2 W9) := by rw [hw]; exact below_regrown W2 dq osq
      clear hw k1 cV cA hq hg
      go_wp2_with fail
      go_ret
      exact ⟨rfl, HB2.out.trans (HB9.out.mono HB2.out.size)⟩
theorem forms_card (a : Int) (l : List UInt8) (hl : l.length = 4) (c : Int) (w : World) (ha : (Lit.int .u32 a).wf = true) (hc : (Lit.int .u8 c).wf = true) (hT : TabS w) : Calls Tryd.prog 7 #[.int .u32 a, .agg (bcs l), .int .u8 c] w fun e w' => e = .returned (.bool true) ∧ Below w.heap.size w w' := by
  have h1 := bounds_u32 ha
  have h2 := bounds_u8 hc
  have := forms_any a.toNat (by omega) l hl (UInt8.ofNat c.toNat) w hT
  rw [UInt8.toNat_ofNat', show ((a.toNat : Nat) : Int) = a from by omega, show ((c.toNat % 2 ^ 8 : Nat) : Int) = c from by omega] at this
  exact this
end Go.Proofs.YtggjblnbjigjmaaDoor
