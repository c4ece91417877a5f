
/- A body as headers say: what body of the reference does. -/
import Derived.Test.YtclonnpglikddaaGreatDoorHtMsg
import Derived.Test.YtclonnpglikddaaGreatDoorChRDec
namespace Go.Proofs.YtclonnpglikddaaGreatDoor
set_option linter.unusedVariables false
set_option linter.unusedSimpArgs false
open Go.RowKit Go.BigFrame
attribute [local go_sem ↓] loadS_eq

theorem val_take (d : List UInt8) (k : Nat) (h : k < d.length) : valD (d.take (k + 1)) = valD (d.take k) * 10 + ((d.getD k 0).toNat - 48) := by
  rw [List.take_add_one, List.getElem?_eq_getElem h, List.getD_eq_getElem?_getD, List.getElem?_eq_getElem h]
  exact valD_snoc _ _
theorem val_part (d : List UInt8) (h : numB 8 d = true) (k : Nat) : valD (d.take k) < 100000000 := by
  unfold numB at h
  rw [Bool.and_eq_true] at h
  have h1 := of_decide_eq_true h.1
  have hb : btw 48 57 (d.take k) = true := List.all_eq_true.2 fun c hc => List.all_eq_true.1 h.2 c (List.mem_of_mem_take hc)
  have := val_ten (d.take k) 0 hb
  have h2 : 10 ^ (d.take k).length ≤ 10 ^ 8 := Nat.pow_le_pow_right (by decide) (by rw [List.length_take]; omega)
  unfold valD
  omega
theorem dig_rng (d : List UInt8) (h : btw 48 57 d = true) (k : Nat) (hk : k < d.length) : 48 ≤ (d.getD k 0).toNat ∧ (d.getD k 0).toNat ≤ 57 := by
  have := List.all_eq_true.1 h (d.getD k 0) (by rw [List.getD_eq_getElem?_getD, List.getElem?_eq_getElem hk]; exact List.getElem_mem hk)
  exact of_decide_eq_true this
theorem num_parts (d : List UInt8) (h : numB 8 d = false) : d.length < 1 ∨ (¬ d.length < 1 ∧ 8 < d.length) ∨ (¬ d.length < 1 ∧ ¬ 8 < d.length ∧ btw 48 57 d = false) := by
  by_cases h1 : d.length < 1
  · exact .inl h1
  · by_cases h2 : 8 < d.length
    · exact .inr (.inl ⟨h1, h2⟩)
    · refine .inr (.inr ⟨h1, h2, ?_⟩)
      unfold numB at h
      rw [decide_eq_true ⟨by omega, by omega⟩, Bool.true_and] at h
      exact h
set_option maxHeartbeats 8000000 in
set_option maxRecDepth 100000 in
theorem refBody_any (r : List UInt8) (l : List HdV) (rest : Bool) (X : Addr) (c : Nat) (A : Option Addr) (cA : Nat) (hl : l.length ≤ 100000) (hs : SmallH l) (hr : r.length ≤ 1000000) (hc : r.length ≤ c) (w : World) (hA : HdsAt w A l) (hR : BytesAt w (some X) r) : Calls Tryz.prog 51 #[.slice (some X) r.length c, .slice A l.length cA, .bool rest] w fun e w' => ∃ A' c', e = .returned (.tuple #[.slice A' (bodyM r l rest).1.length c', .int .i64 (bodyM r l rest).2.1, .int .i64 (bodyM r l rest).2.2]) ∧ BytesAt w' A' (bodyM r l rest).1 ∧ ((bodyM r l rest).1.length = 0 → A' = none ∧ c' = 0 ∨ ∃ x, A' = some x) ∧ (∀ x, A' = some x → x.block = X.block ∨ w.heap.size ≤ x.block) ∧ Below w.heap.size w w' := by
  have HA := hid hA
  have HR := hid hR
  have HT1 := hid (fun W hW => refAll_any l teLow A cA hl hs (by decide) W hW)
  have HC1 := hid (fun W hW => refAll_any l clLow A cA hl hs (by decide) W hW)
  have HMA := hid (bodyM_many r l rest)
  have HBO := hid (bodyM_both r l rest)
  have HCO := hid (bodyM_code r l rest)
  have HLE := hid (bodyM_len r l rest)
  have HRE := hid (bodyM_rest r l rest)
  have hsT := small_val l hs teLow 0
  have hsC := small_val l hs clLow 0
  have hlT := all_len l teLow
  have hlC := all_len l clLow
  rw [all_te] at HMA HBO HCO HLE HRE
  rw [all_cl] at HBO HCO HLE HRE
  have HDE := hid (fun W hX => refDecode_any r (some X) c hr hc W hX)
  clear hA hR hs
  generalize bodyM r l rest = P at HMA HBO HCO HLE HRE ⊢
  generalize allH l teLow = T at HT1 HMA HBO HCO HLE HRE hsT hlT
  generalize allH l clLow = C at HC1 HBO HCO HLE HRE hsC hlC
  generalize hUN : (if rest then r.length else 0) = UN at HRE
  have hUl : UN ≤ r.length := by rw [← hUN]; cases rest <;> simp
  generalize hn : r.length = n at hr hc HDE hUl hUN ⊢
  generalize l.length = nl at HT1 HC1 hl hlT hlC ⊢
  have HN := hid hn
  clear hn
  have HT1' : Hid (∀ W, HdsAt W A l → Calls Tryz.prog 56 #[.slice A nl cA, .string ⟨#[116, 114, 97, 110, 115, 102, 101, 114, 45, 101, 110, 99, 111, 100, 105, 110, 103]⟩] W fun e w' => ∃ v, e = .returned v ∧ StrsV w' v T ∧ Below W.heap.size W w') := HT1.out
  have HC1' : Hid (∀ W, HdsAt W A l → Calls Tryz.prog 56 #[.slice A nl cA, .string ⟨#[99, 111, 110, 116, 101, 110, 116, 45, 108, 101, 110, 103, 116, 104]⟩] W fun e w' => ∃ v, e = .returned v ∧ StrsV w' v C ∧ Below W.heap.size W w') := HC1.out
  clear HT1 HC1
  go_enter Tryz.func51, Tryz.ntmps51
  go_wp2_with fail
  refine (HT1'.out _ HA.out).mono ?_
  rintro e W1 ⟨v1, rfl, hv1, hb1⟩
  obtain ⟨A1, c1, rfl, hat1⟩ := hv1
  have HB1 := hid hb1
  have HS1 := hid hat1
  clear hb1 hat1
  go_wp2_with fail
  refine (HC1'.out _ (HA.out.below HB1.out (Nat.le_refl _))).mono ?_
  rintro e W2 ⟨v2, rfl, hv2, hb2⟩
  obtain ⟨A2, c2, rfl, hat2⟩ := hv2
  have HB2 := hid (HB1.out.trans (hb2.mono HB1.out.size))
  have HS2 := hid (HS1.out.below hb2 (Nat.le_refl _))
  have HC2 := hid hat2
  clear hb2 hat2 HS1 HT1' HC1'
  by_cases t0 : T.length = 0
  · have t1 : ¬ (0 : Int) < (T.length : Int) := by omega
    have HLE2 := hid (HLE.out t0)
    have HRE2 := hid (HRE.out t0)
    clear HMA HBO HCO HLE HRE HS2 hsT hlT t0 HDE
    generalize T.length = tn at t1 ⊢
    by_cases c0 : C.length = 0
    · have HFI := hid (HRE2.out c0)
      clear HLE2 HRE2 HC2 hsC hlC
      generalize C.length = cn at c0 ⊢
      have c3 : ¬ (0 : Int) < (cn : Int) := by omega
      have c4 : ((cn : Int) == 0) = true := by rw [c0]; rfl
      clear c0
      cases rest
      · obtain rfl : UN = 0 := by rw [← hUN]; rfl
        go_wp2_with fail
        go_loopw [12] (fun i wr => i = .int .i64 0 ∧ wr = W2) (fun i wr => 0)
        case atStart => exact ⟨rfl, rfl⟩
        case round =>
          obtain ⟨rfl, rfl⟩ := hrel
          have HPE : Hid (P = (r.take 0, 0, 0)) := by show _ = _; rw [HFI.out]; unfold finM; rw [if_neg (by omega), if_neg (by omega)]
          have hq5 : (0 : Int) ≤ (c : Int) := by omega
          have hq4 : ¬ (n : Int) < 0 := by omega
          go_wp2_with fail
          go_ret3
          exact ⟨some X, c, by rw [HPE.out]; rfl, by rw [HPE.out]; exact (HR.out.below HB2.out (Nat.le_refl _)).take 0, fun _ => .inr ⟨X, rfl⟩, fun x hx => by (cases hx; exact .inl rfl), HB2.out⟩
      · have HFI2 : Hid (P = finM r n) := by show _ = _; rw [HFI.out, ← hUN]; rfl
        clear hUN HFI hUl
        go_wp2_with fail
        go_loopw [12] (fun i wr => i = .int .i64 0 ∧ wr = W2) (fun i wr => 0)
        case atStart => exact ⟨rfl, rfl⟩
        case round =>
          obtain ⟨rfl, rfl⟩ := hrel
          by_cases hq1 : 32768 < n
          · have HPE : Hid (P = ([], 0, 3)) := by show _ = _; rw [HFI2.out]; unfold finM; rw [if_pos hq1]
            have hq2 : (32768 : Int) < (n : Int) := by omega
            clear hq1
            go_wp2_with fail
            go_ret3
            exact ⟨none, 0, by rw [HPE.out]; rfl, by rw [HPE.out]; exact fun h => absurd h (by simp), by rw [HPE.out]; exact fun _ => .inl ⟨rfl, rfl⟩, fun x hx => by (cases hx), HB2.out⟩
          · have HPE : Hid (P = (r.take n, n, 0)) := by show _ = _; rw [HFI2.out]; unfold finM; rw [if_neg hq1, if_neg (by rw [HN.out]; omega)]
            have HTL : Hid ((r.take n).length = n) := by show _ = _; rw [List.length_take, HN.out]; omega
            have hq2 : ¬ (32768 : Int) < (n : Int) := by omega
            have hq5 : (n : Int) ≤ (c : Int) := by omega
            have hq6 : (0 : Int) ≤ (n : Int) := by omega
            clear hq1
            go_wp2_with fail
            go_ret3
            exact ⟨some X, c, by rw [HPE.out, HTL.out]; rfl, by rw [HPE.out]; exact (HR.out.below HB2.out (Nat.le_refl _)).take n, fun _ => .inr ⟨X, rfl⟩, fun x hx => by (cases hx; exact .inl rfl), HB2.out⟩
    · have c4 : ((C.length : Int) == 0) = false := by rw [beq_eq_false_iff_ne]; omega
      have c5 : ¬ (C.length : Int) = 0 := by omega
      have c3 : (0 : Int) < (C.length : Int) := by omega
      have HFI2 := hid (HLE2.out (by omega))
      obtain ⟨q, o, hq, hqs, hcs⟩ := HC2.out (by omega)
      subst hq
      have HCS := hid hcs
      have h0 := hcs 0 (by omega)
      rw [Nat.add_zero] at h0
      have HLB : Hid (lenB C = (sameB C && numB 8 (C.getD 0 []))) := rfl
      have HNO := hid (same_no C)
      have HYE := hid (same_yes C)
      have HQS := hid hqs
      clear HLE2 HRE2 HC2 hcs c0 hUN hUl hqs
      generalize lenB C = LB at HLB HFI2
      generalize hd : C.getD 0 [] = d at h0 HLB HFI2 hsC HNO HYE
      generalize hD : asS d = D at h0
      have HDE := hid hD
      have hDz : D.size = d.length := by rw [← hD, asS_size]
      have HBT := hid (fun W => between_any d 48 57 48 57 rfl rfl (by omega) W)
      rw [hD] at HBT
      generalize hcn : C.length = cn at c3 c4 c5 hlC HCS HNO HYE ⊢
      clear hcn hd hD
      cases hnb : numB 8 d with
      | false =>
        have HPE : Hid (P = ([], 0, 5)) := by
          show _ = _
          rw [HFI2.out, HLB.out, hnb, Bool.and_false]; rfl
        rcases num_parts d hnb with n1 | ⟨n1, n2⟩ | ⟨n1, n2, n3⟩
        · have g1 : decide ((D.size : Int) < 1) = true := decide_eq_true (by omega)
          have g1' : (D.size : Int) < 1 := by omega
          clear hnb n1 hDz
          go_wp2_with fail
          go_loopw [12] (fun i wr => i = .int .i64 0 ∧ wr = W2) (fun i wr => 0)
          case atStart => exact ⟨rfl, rfl⟩
          case round =>
            obtain ⟨rfl, rfl⟩ := hrel
            have HBr := HB2
            have m0 := loadS_re h0
            go_wp2_with fail
            refine wp_region_quiet_below (by kernel_rfl) (by kernel_rfl) ?_
            repeat (go_big_quiet_step (fail))
            refine wpQuiet_nil ?_
            rintro W3 ⟨⟨dq, osq⟩, hw⟩
            have HB3 : Hid (Below w.heap.size w W3) := by
              have hb3 : Below wr.heap.size wr W3 := by rw [hw]; exact below_regrown wr dq osq
              exact HBr.out.trans (hb3.mono HBr.out.size)
            clear hw
            go_wp2_with fail
            go_ret3
            exact ⟨none, 0, by rw [HPE.out]; rfl, by rw [HPE.out]; exact fun h => absurd h (by simp), by rw [HPE.out]; exact fun _ => .inl ⟨rfl, rfl⟩, fun x hx => by (cases hx), HB3.out⟩
        · have g1 : decide ((D.size : Int) < 1) = false := decide_eq_false (by omega)
          have g2 : decide ((8 : Int) < (D.size : Int)) = true := decide_eq_true (by omega)
          clear hnb n1 n2 hDz
          go_wp2_with fail
          go_loopw [12] (fun i wr => i = .int .i64 0 ∧ wr = W2) (fun i wr => 0)
          case atStart => exact ⟨rfl, rfl⟩
          case round =>
            obtain ⟨rfl, rfl⟩ := hrel
            have HBr := HB2
            have m0 := loadS_re h0
            go_wp2_with fail
            refine wp_region_quiet_below (by kernel_rfl) (by kernel_rfl) ?_
            repeat (go_big_quiet_step (fail))
            refine wpQuiet_nil ?_
            rintro W3 ⟨⟨dq, osq⟩, hw⟩
            have HB3 : Hid (Below w.heap.size w W3) := by
              have hb3 : Below wr.heap.size wr W3 := by rw [hw]; exact below_regrown wr dq osq
              exact HBr.out.trans (hb3.mono HBr.out.size)
            clear hw
            go_wp2_with fail
            go_ret3
            exact ⟨none, 0, by rw [HPE.out]; rfl, by rw [HPE.out]; exact fun h => absurd h (by simp), by rw [HPE.out]; exact fun _ => .inl ⟨rfl, rfl⟩, fun x hx => by (cases hx), HB3.out⟩
        · have g1 : decide ((D.size : Int) < 1) = false := decide_eq_false (by omega)
          have g2 : decide ((8 : Int) < (D.size : Int)) = false := decide_eq_false (by omega)
          rw [n3] at HBT
          clear hnb n1 n2 n3 hDz
          go_wp2_with fail
          go_loopw [12] (fun i wr => i = .int .i64 0 ∧ wr = W2) (fun i wr => 0)
          case atStart => exact ⟨rfl, rfl⟩
          case round =>
            obtain ⟨rfl, rfl⟩ := hrel
            have HBr := HB2
            have m0 := loadS_re h0
            have cb : REG 44 #[.string D, .int .u8 48, .int .u8 57] wr (.bool false) := fun dd os => Calls.regrown_of ((HBT.out _).mono fun e w' h => ⟨h.1, by rw [h.2]; exact Below.refl _ _⟩)
            go_wp2_with fail
            refine wp_region_quiet_below (by kernel_rfl) (by kernel_rfl) ?_
            repeat (go_big_quiet_step (first | (go_at_call 44; exact cb _ _)))
            refine wpQuiet_nil ?_
            rintro W3 ⟨⟨dq, osq⟩, hw⟩
            have HB3 : Hid (Below w.heap.size w W3) := by
              have hb3 : Below wr.heap.size wr W3 := by rw [hw]; exact below_regrown wr dq osq
              exact HBr.out.trans (hb3.mono HBr.out.size)
            clear hw
            go_wp2_with fail
            go_ret3
            exact ⟨none, 0, by rw [HPE.out]; rfl, by rw [HPE.out]; exact fun h => absurd h (by simp), by rw [HPE.out]; exact fun _ => .inl ⟨rfl, rfl⟩, fun x hx => by (cases hx), HB3.out⟩
      | true =>
        have hnb2 := hnb
        unfold numB at hnb2
        rw [Bool.and_eq_true] at hnb2
        have n1 := of_decide_eq_true hnb2.1
        have HDR := hid (dig_rng d hnb2.2)
        have HVT := hid (val_take d)
        have HVP := hid (val_part d hnb)
        have HIX := hid (fun k h W => str_ix D k h W)
        rw [← HDE.out, asS_data] at HIX
        rw [HDE.out] at HIX
        have HTK : Hid (d.take D.size = d) := by show _ = _; rw [hDz, List.take_length]
        have g1 : decide ((D.size : Int) < 1) = false := decide_eq_false (by omega)
        have g2 : decide ((8 : Int) < (D.size : Int)) = false := decide_eq_false (by omega)
        rw [hnb2.2] at HBT
        have HOK : Hid (sameB C = true → P = finM r (valD d)) := fun h => by rw [HFI2.out, HLB.out, h, hnb]; rfl
        have HBAD : Hid (sameB C = false → P = ([], 0, 5)) := fun h => by rw [HFI2.out, HLB.out, h]; rfl
        have hD8 : D.size ≤ 8 := by omega
        rw [← hDz] at HDR HVT
        clear hnb hnb2 n1 hDz HFI2 HLB
        go_wp2_with fail
        go_loopw [12] (fun i wr => ∃ k : Nat, k ≤ cn ∧ i = .int .i64 (k : Int) ∧ Hid (∀ j, j < k → C.getD j [] = d) ∧ Hid (Below W2.heap.size W2 wr)) (fun i wr => cn - (intOf i).toNat)
        case atStart => exact ⟨0, Nat.zero_le _, rfl, fun j hj => by omega, Below.refl _ _⟩
        case round =>
          obtain ⟨k, hk, rfl, HP, HW⟩ := hrel
          have HBr : Hid (Below w.heap.size w wr) := HB2.out.trans (HW.out.mono HB2.out.size)
          have hr0 := (HW.out.cell (p := ⟨q, o, none⟩) HQS.out).trans h0
          by_cases hlt : k < cn
          · have hi : (k : Int) < (cn : Int) := by omega
            have hrk := (HW.out.cell (p := ⟨q, o + k, none⟩) HQS.out).trans (HCS.out k hlt)
            have m0 := loadS_re hr0
            by_cases hx : C.getD k [] = d
            · rw [hx, HDE.out] at hrk
              have m1 := loadS_re hrk
              have HS : Hid (∀ j, j < k + 1 → C.getD j [] = d) := fun j hj => by
                rcases Nat.lt_succ_iff_lt_or_eq.1 hj with h1 | rfl
                · exact HP.out j h1
                · exact hx
              have cb : REG 44 #[.string D, .int .u8 48, .int .u8 57] wr (.bool true) := fun dd os => Calls.regrown_of ((HBT.out _).mono fun e w' h => ⟨h.1, by rw [h.2]; exact Below.refl _ _⟩)
              clear hx hrk hr0 HP
              go_wp2_with fail
              refine wp_region_quiet_below (by kernel_rfl) (by kernel_rfl) ?_
              repeat (go_big_quiet_step (first | (go_at_call 44; exact cb _ _)))
              refine wpQuiet_nil ?_
              rintro W3 ⟨⟨dq, osq⟩, hw⟩
              have HW3 : Hid (Below W2.heap.size W2 W3) := by
                have hb3 : Below wr.heap.size wr W3 := by rw [hw]; exact below_regrown wr dq osq
                exact HW.out.trans (hb3.mono HW.out.size)
              clear hw
              go_wp2_with fail
              go_roundw
              case rel => exact ⟨k + 1, by omega, by go_num, HS, HW3⟩
              case measure => simp [intOf]; omega
            · have HPE := hid (HBAD.out (HNO.out k hlt hx))
              have hxx := tl_two (C.getD k []) d
              rw [decide_eq_false hx, HDE.out] at hxx
              generalize asS (C.getD k []) = Xk at hrk hxx
              have m1 := loadS_re hrk
              clear hx hrk hr0 HP
              go_wp2_with fail
              refine wp_region_quiet_below (by kernel_rfl) (by kernel_rfl) ?_
              repeat (go_big_quiet_step (fail))
              refine wpQuiet_nil ?_
              rintro W3 ⟨⟨dq, osq⟩, hw⟩
              have HB3 : Hid (Below w.heap.size w W3) := by
                have hb3 : Below wr.heap.size wr W3 := by rw [hw]; exact below_regrown wr dq osq
                exact HBr.out.trans (hb3.mono HBr.out.size)
              clear hw
              go_wp2_with fail
              go_ret3
              exact ⟨none, 0, by rw [HPE.out]; rfl, by rw [HPE.out]; exact fun h => absurd h (by simp), by rw [HPE.out]; exact fun _ => .inl ⟨rfl, rfl⟩, fun x hx => by (cases hx), HB3.out⟩
          · have hi : ¬ (k : Int) < (cn : Int) := by omega
            have HFI2 := hid (HOK.out (HYE.out k (by omega) HP.out))
            have l0 := loadS_cell hr0
            obtain ⟨V1, hV1⟩ : ∃ V1, V1 = wr := ⟨_, rfl⟩
            subst hV1
            clear HP HOK HBAD HNO HYE HCS hr0 HW hlt hk g1 g2 h0
            generalize hkk : (k : Int) = kk at hi ⊢
            clear hkk
            go_wp2_with fail
            go_loop [11, 13] (fun nv iv => ∃ j : Nat, j ≤ D.size ∧ iv = .int .i64 (j : Int) ∧ ∃ a : Nat, nv = .int .i64 (a : Int) ∧ Hid (a = valD (d.take j))) (fun nv iv => D.size - (intOf iv).toNat)
            case atStart => exact ⟨0, Nat.zero_le _, rfl, 0, rfl, rfl⟩
            case round =>
              obtain ⟨j, hj, rfl, a, rfl, HAJ⟩ := hrel
              by_cases hjl : j < D.size
              · have hji : (j : Int) < (D.size : Int) := by omega
                have hix := HIX.out j hjl
                obtain ⟨y1, y2⟩ := HDR.out j hjl
                have HV2 := hid (HVT.out j hjl)
                have hap : a < 100000000 := by rw [HAJ.out]; exact HVP.out j
                generalize (d.getD j 0).toNat = y at hix y1 y2 HV2
                obtain ⟨z, rfl⟩ : ∃ z, y = z + 48 := ⟨y - 48, by omega⟩
                have hz9 : (z : Int) ≤ 9 := by omega
                have hzz : ((z + 48 : Nat) : Int) - 48 = (z : Int) := by omega
                have ha9 : (a : Int) ≤ 99999999 := by omega
                have HNX : Hid (a * 10 + z = valD (d.take (j + 1))) := by show _ = _; rw [HV2.out, ← HAJ.out]; omega
                clear y1 y2 HV2 hap
                go_wp2_with fail
                go_round
                case rel => exact ⟨j + 1, by omega, by go_num, a * 10 + z, by exact congrArg (Value.int IntKind.i64) (by omega), HNX⟩
                case measure => simp [intOf]; omega
              · have hji : ¬ (j : Int) < (D.size : Int) := by omega
                have HFI : Hid (P = finM r a) := by
                  show _ = _
                  rw [HFI2.out, HAJ.out, show j = D.size from by omega, HTK.out]
                clear HFI2 HAJ
                generalize a = N at HFI ⊢
                by_cases hq1 : 32768 < N
                · have HPE : Hid (P = ([], 0, 3)) := by show _ = _; rw [HFI.out]; unfold finM; rw [if_pos hq1]
                  have hq2 : (32768 : Int) < (N : Int) := by omega
                  clear hq1
                  go_wp2_with fail
                  go_ret3
                  exact ⟨none, 0, by rw [HPE.out]; rfl, by rw [HPE.out]; exact fun h => absurd h (by simp), by rw [HPE.out]; exact fun _ => .inl ⟨rfl, rfl⟩, fun x hx => by (cases hx), HBr.out⟩
                · have hq2 : ¬ (32768 : Int) < (N : Int) := by omega
                  by_cases hq3 : n < N
                  · have HPE : Hid (P = ([], 0, 10)) := by show _ = _; rw [HFI.out]; unfold finM; rw [if_neg hq1, if_pos (by rw [HN.out]; exact hq3)]
                    have hq4 : (n : Int) < (N : Int) := by omega
                    clear hq1 hq3
                    go_wp2_with fail
                    go_ret3
                    exact ⟨none, 0, by rw [HPE.out]; rfl, by rw [HPE.out]; exact fun h => absurd h (by simp), by rw [HPE.out]; exact fun _ => .inl ⟨rfl, rfl⟩, fun x hx => by (cases hx), HBr.out⟩
                  · have HPE : Hid (P = (r.take N, N, 0)) := by show _ = _; rw [HFI.out]; unfold finM; rw [if_neg hq1, if_neg (by rw [HN.out]; exact hq3)]
                    have HTL : Hid ((r.take N).length = N) := by show _ = _; rw [List.length_take, HN.out]; omega
                    have hq4 : ¬ (n : Int) < (N : Int) := by omega
                    have hq5 : (N : Int) ≤ (c : Int) := by omega
                    have hq6 : (0 : Int) ≤ (N : Int) := by omega
                    clear hq1 hq3
                    go_wp2_with fail
                    go_ret3
                    exact ⟨some X, c, by rw [HPE.out, HTL.out]; rfl, by rw [HPE.out]; exact (HR.out.below HBr.out (Nat.le_refl _)).take N, fun _ => .inr ⟨X, rfl⟩, fun x hx => by (cases hx; exact .inl rfl), HBr.out⟩
  · have t1 : (0 : Int) < (T.length : Int) := by omega
    clear HLE HRE
    by_cases t2 : 1 < T.length
    · have HPE := hid (HMA.out t2)
      have t3 : (1 : Int) < (T.length : Int) := by omega
      clear HMA HBO HCO HS2 hsT hlT t0 t2
      generalize T.length = tn at t1 t3 ⊢
      go_wp2_with fail
      go_ret3
      exact ⟨none, 0, by rw [HPE.out]; rfl, by rw [HPE.out]; exact fun h => absurd h (by simp), by rw [HPE.out]; exact fun _ => .inl ⟨rfl, rfl⟩, fun x hx => by (cases hx), HB2.out⟩
    · have t3 : ¬ (1 : Int) < (T.length : Int) := by omega
      obtain ⟨q, o, hq, hqs, hcs⟩ := HS2.out (by omega)
      have h0 := loadS_cell (hcs 0 (by omega))
      rw [Nat.add_zero] at h0
      subst hq
      have HLO := hid (refLower_any (T.getD 0 []) W2 hsT)
      have hch := tl_eq ((T.getD 0 []).map lowB) [99, 104, 117, 110, 107, 101, 100]
      have HIF : Hid (C.length = 0 → P = if decide ((T.getD 0 []).map lowB = [99, 104, 117, 110, 107, 101, 100]) then decodeC r else ([], 0, 5)) := fun c0 => by
        rw [HCO.out (by omega) c0]
        by_cases hz : (T.getD 0 []).map lowB = chM
        · rw [if_pos hz, decide_eq_true (show (T.getD 0 []).map lowB = [99, 104, 117, 110, 107, 101, 100] from hz)]; rfl
        · rw [if_neg hz, decide_eq_false (show ¬ (T.getD 0 []).map lowB = [99, 104, 117, 110, 107, 101, 100] from hz)]; rfl
      have HBO2 : Hid (0 < C.length → P = ([], 0, 5)) := fun h => HBO.out (by omega) h
      clear HMA HBO HCO HS2 hlT t0 t2 hcs hqs hsT HC2 hsC hlC
      generalize decide ((T.getD 0 []).map lowB = [99, 104, 117, 110, 107, 101, 100]) = hb at hch HIF
      generalize asS ((T.getD 0 []).map lowB) = LS at hch HLO
      generalize asS (T.getD 0 []) = TS at h0 HLO
      generalize T.length = tn at t1 t3 ⊢
      generalize C.length = cn at HIF HBO2 ⊢
      go_wp2_with fail
      refine HLO.out.mono ?_
      rintro e W3 ⟨rfl, hb3⟩
      have HB3 := hid (HB2.out.trans (hb3.mono HB2.out.size))
      clear hb3 HLO
      cases hb
      · have HPE : Hid (P = ([], 0, 5)) := by
          show _ = _
          rcases Nat.eq_zero_or_pos cn with h | h
          · rw [HIF.out h]; rfl
          · exact HBO2.out h
        go_wp2_with fail
        go_ret3
        exact ⟨none, 0, by rw [HPE.out]; rfl, by rw [HPE.out]; exact fun h => absurd h (by simp), by rw [HPE.out]; exact fun _ => .inl ⟨rfl, rfl⟩, fun x hx => by (cases hx), HB3.out⟩
      · by_cases c0 : cn = 0
        · have HPE : Hid (P = decodeC r) := by show _ = _; rw [HIF.out c0]; rfl
          have c3 : ¬ (0 : Int) < (cn : Int) := by omega
          have HD2 := hid (HDE.out W3 (HR.out.below HB3.out (Nat.le_refl _)))
          clear c0
          go_wp2_with fail
          refine HD2.out.mono ?_
          rintro e W4 ⟨v4, rfl, hd4, hb4⟩
          have HB4 := hid (HB3.out.trans (hb4.mono HB3.out.size))
          obtain ⟨A4, c4, rfl, hat4, hz4, hno4⟩ := hd4.at
          have HD4 := hid hat4
          have HZ4 := hid hz4
          have HNO := hid hno4
          clear hb4 hd4 hat4 hz4 hno4
          go_wp2_with fail
          go_ret3
          exact ⟨A4, c4, by rw [HPE.out]; rfl, by rw [HPE.out]; exact HD4.out, by rw [HPE.out]; exact HZ4.out, fun x hx => .inr (Nat.le_of_not_lt fun hlt => HNO.out x.block (Nat.lt_of_lt_of_le hlt HB3.out.size) x hx rfl), HB4.out⟩
        · have HPE := hid (HBO2.out (by omega))
          have c3 : (0 : Int) < (cn : Int) := by omega
          clear c0
          go_wp2_with fail
          go_ret3
          exact ⟨none, 0, by rw [HPE.out]; rfl, by rw [HPE.out]; exact fun h => absurd h (by simp), by rw [HPE.out]; exact fun _ => .inl ⟨rfl, rfl⟩, fun x hx => by (cases hx), HB3.out⟩
end Go.Proofs.YtclonnpglikddaaGreatDoor
