
/- The reference's reader: what white and digits do. -/
import Derived.Test.YtlgkbdebpnbndaaGreatDoorJsRd1
namespace Go.Proofs.YtlgkbdebpnbndaaGreatDoor
set_option linter.unusedVariables false
set_option linter.unusedSimpArgs false
open Go.RowKit Go.BigFrame

theorem refWhiteQ (c : UInt8) (w : World) : Calls Tryz.prog 73 #[.int .u8 c.toNat] w fun e w' => e = .returned (.bool (whX c)) ∧ w' = w := by
  have HV : Hid (whX c = (c.toNat == 32 || c.toNat == 9 || c.toNat == 10 || c.toNat == 13)) := rfl
  have hlt := c.toNat_lt
  generalize whX c = V at HV ⊢
  generalize c.toNat = n at HV hlt ⊢
  by_cases k0 : n = 32
  · have HR : Hid (V = true) := by
      show _ = _
      rw [HV.out]
      simp only [Bool.or_eq_true, Bool.and_eq_true, decide_eq_true_eq, Bool.or_eq_false_iff, Bool.and_eq_false_iff, decide_eq_false_iff_not, beq_iff_eq, beq_eq_false_iff_ne]
      omega
    have f0 : ((n : Int) == 32) = true := by rw [beq_iff_eq]; omega
    clear k0 hlt HV
    go_enter Tryz.func73, Tryz.ntmps73
    go_wp2_with fail
    go_ret
    exact ⟨by rw [HR.out]; rfl, rfl⟩
  by_cases k1 : n = 9
  · have HR : Hid (V = true) := by
      show _ = _
      rw [HV.out]
      simp only [Bool.or_eq_true, Bool.and_eq_true, decide_eq_true_eq, Bool.or_eq_false_iff, Bool.and_eq_false_iff, decide_eq_false_iff_not, beq_iff_eq, beq_eq_false_iff_ne]
      omega
    have f0 : ((n : Int) == 32) = false := by rw [beq_eq_false_iff_ne]; omega
    have f1 : ((n : Int) == 9) = true := by rw [beq_iff_eq]; omega
    clear k0 k1 hlt HV
    go_enter Tryz.func73, Tryz.ntmps73
    go_wp2_with fail
    go_ret
    exact ⟨by rw [HR.out]; rfl, rfl⟩
  by_cases k2 : n = 10
  · have HR : Hid (V = true) := by
      show _ = _
      rw [HV.out]
      simp only [Bool.or_eq_true, Bool.and_eq_true, decide_eq_true_eq, Bool.or_eq_false_iff, Bool.and_eq_false_iff, decide_eq_false_iff_not, beq_iff_eq, beq_eq_false_iff_ne]
      omega
    have f0 : ((n : Int) == 32) = false := by rw [beq_eq_false_iff_ne]; omega
    have f1 : ((n : Int) == 9) = false := by rw [beq_eq_false_iff_ne]; omega
    have f2 : ((n : Int) == 10) = true := by rw [beq_iff_eq]; omega
    clear k0 k1 k2 hlt HV
    go_enter Tryz.func73, Tryz.ntmps73
    go_wp2_with fail
    go_ret
    exact ⟨by rw [HR.out]; rfl, rfl⟩
  by_cases k3 : n = 13
  · have HR : Hid (V = true) := by
      show _ = _
      rw [HV.out]
      simp only [Bool.or_eq_true, Bool.and_eq_true, decide_eq_true_eq, Bool.or_eq_false_iff, Bool.and_eq_false_iff, decide_eq_false_iff_not, beq_iff_eq, beq_eq_false_iff_ne]
      omega
    have f0 : ((n : Int) == 32) = false := by rw [beq_eq_false_iff_ne]; omega
    have f1 : ((n : Int) == 9) = false := by rw [beq_eq_false_iff_ne]; omega
    have f2 : ((n : Int) == 10) = false := by rw [beq_eq_false_iff_ne]; omega
    have f3 : ((n : Int) == 13) = true := by rw [beq_iff_eq]; omega
    clear k0 k1 k2 k3 hlt HV
    go_enter Tryz.func73, Tryz.ntmps73
    go_wp2_with fail
    go_ret
    exact ⟨by rw [HR.out]; rfl, rfl⟩
  have HR : Hid (V = false) := by
    show _ = _
    rw [HV.out]
    simp only [Bool.or_eq_true, Bool.and_eq_true, decide_eq_true_eq, Bool.or_eq_false_iff, Bool.and_eq_false_iff, decide_eq_false_iff_not, beq_iff_eq, beq_eq_false_iff_ne]
    omega
  have f0 : ((n : Int) == 32) = false := by rw [beq_eq_false_iff_ne]; omega
  have f1 : ((n : Int) == 9) = false := by rw [beq_eq_false_iff_ne]; omega
  have f2 : ((n : Int) == 10) = false := by rw [beq_eq_false_iff_ne]; omega
  have f3 : ((n : Int) == 13) = false := by rw [beq_eq_false_iff_ne]; omega
  clear k0 k1 k2 k3 hlt HV
  go_enter Tryz.func73, Tryz.ntmps73
  go_wp2_with fail
  go_ret
  exact ⟨by rw [HR.out]; rfl, rfl⟩
theorem tw_stepQ (P : UInt8 → Bool) : ∀ (l : List UInt8) (k : Nat), k ≤ (l.takeWhile P).length → (k < (l.takeWhile P).length ↔ k < l.length ∧ P (l.getD k 0) = true)
  | [], k, h => by simp
  | c :: r, k, h => by
    by_cases hc : P c = true
    · rw [List.takeWhile_cons_of_pos hc] at h ⊢
      cases k with
      | zero => simp [hc]
      | succ k =>
        simp only [List.length_cons] at h ⊢
        have := tw_stepQ P r k (by omega)
        have e : (c :: r).getD (k + 1) 0 = r.getD k 0 := rfl
        rw [e]
        exact ⟨fun h => ⟨by have := (this.1 (by omega)).1; omega, (this.1 (by omega)).2⟩, fun h => by have := this.2 ⟨by omega, h.2⟩; omega⟩
    · rw [List.takeWhile_cons_of_neg hc] at h ⊢
      obtain rfl : k = 0 := by simpa using h
      simp [hc]
theorem tw_atQ (P : UInt8 → Bool) (s : List UInt8) (p k : Nat) (hk : k ≤ ((s.drop p).takeWhile P).length) : k < ((s.drop p).takeWhile P).length ↔ p + k < s.length ∧ P (s.getD (p + k) 0) = true := by
  rw [tw_stepQ P (s.drop p) k hk, List.length_drop]
  have e : (s.drop p).getD k 0 = s.getD (p + k) 0 := by
    rw [List.getD_eq_getElem?_getD, List.getD_eq_getElem?_getD, List.getElem?_drop]
  rw [e]
  constructor
  · rintro ⟨h1, h2⟩
    exact ⟨by omega, h2⟩
  · rintro ⟨h1, h2⟩
    exact ⟨by omega, h2⟩
theorem tw_leQ (P : UInt8 → Bool) (s : List UInt8) (p : Nat) : ((s.drop p).takeWhile P).length ≤ s.length - p := by
  have h : ((s.drop p).takeWhile P).length ≤ (s.drop p).length := (List.takeWhile_sublist P).length_le
  rw [List.length_drop] at h
  exact h
set_option maxHeartbeats 2000000 in
set_option maxRecDepth 100000 in
theorem whiteQ (s : List UInt8) (p m e R : Nat) (hs : s.length ≤ 1000000) (hp : p ≤ 2000000) (w : World) (h : Rq w R s p m e) : Calls Tryz.prog 41 #[.pointer (some ⟨R, 0, none⟩)] w fun x w' => w.grownBy w' (some R) ∧ x = .returned (.tuple #[]) ∧ Rq w' R s (p + ((s.drop p).takeWhile whX).length) m e := by
  have HIX := hid (fun k h W => str_ix (asS s) k h W)
  rw [asS_data] at HIX
  have HT := hid refWhiteQ
  have HTW := hid (tw_atQ whX s p)
  have hpn := tw_leQ whX s p
  have HR := hid h
  have HZ1 := hid (asS_size s)
  clear h
  obtain ⟨n, hn⟩ : ∃ n, ((s.drop p).takeWhile whX).length = n := ⟨_, rfl⟩
  rw [hn] at HTW hpn ⊢
  clear hn
  go_enter Tryz.func41, Tryz.ntmps41
  go_wp2_with fail
  go_loopw [] (fun wr => ∃ k, Hid (k ≤ n) ∧ Hid (Rq wr R s (p + k) m e) ∧ Hid (w.grownBy wr (some R))) (fun wr => n + p - rqAt R wr)
  case atStart => exact ⟨0, Nat.zero_le _, HR.out, to_refl R w⟩
  case round =>
    obtain ⟨k, HK, HRK, HG⟩ := hrel
    obtain ⟨q, hq⟩ : ∃ q, p + k = q := ⟨_, rfl⟩
    have HQ := hid hq
    have HTK := hid (HTW.out k HK.out)
    rw [hq] at HRK HTK
    clear hq
    have hq1 : q ≤ n + p := by have := HQ.out; have := HK.out; omega
    have hq2 : q ≤ 3000000 := by omega
    obtain ⟨d0, d1, _, _⟩ := HRK.out.cells
    obtain ⟨S, hS⟩ : ∃ S, asS s = S := ⟨_, rfl⟩
    have hsz : S.size = s.length := by rw [← hS]; exact HZ1.out
    have HRK2 := hid HRK.out
    unfold Rq at HRK2
    have HIX2 := hid (fun h W => HIX.out q h W)
    rw [hS] at d0 HRK2 HIX2
    have HSS := hid hS
    clear hS
    generalize hsn : s.length = sn at *
    by_cases hlt : q < sn
    · have hlt' : (q : Int) < (S.size : Int) := by rw [hsz]; omega
      have hix := HIX2.out (by rw [hsz]; exact hlt)
      generalize s.getD q 0 = y at hix HTK
      cases hb : whX y with
      | true =>
        have HK2 : Hid (k + 1 ≤ n) := HTK.out.2 ⟨hlt, hb⟩
        have HTY := hid (HT.out y)
        rw [hb] at HTY
        clear hb
        go_wp2_with fail
        go_quiet ((go_at_call 73; exact Calls.quiet_of_same (HTY.out _)))
        go_wp2_with (first
          | (refine store_part rfl 3 _ _ rfl R 1 (.int .i64 ((q : Int) + 1)) _ _ #[.string S, .int .i64 ((q : Int) + 1), .int .i64 m, .int .i64 e] rfl rfl info3q (by simp) rfl rfl HRK2.out rfl ?_)
          | fail)
        intro W2 ho hr
        have HO := hid ho
        have HR2 : Hid (Rq W2 R s (q + 1) m e) := by
          show Rq _ _ _ _ _ _
          unfold Rq
          rw [HSS.out, show ((q + 1 : Nat) : Int) = (q : Int) + 1 from by omega]
          exact hr
        clear ho hr
        go_wp2_with fail
        have g2 : wr.grownBy W2 (some R) := (to_below (below_drewN _ _ _)).trans (to_only HO.out)
        go_round
        case rel =>
          refine ⟨k + 1, HK2.out, ?_, HG.out.trans g2⟩
          have e2 : p + (k + 1) = q + 1 := by have := HQ.out; omega
          show Rq _ _ _ _ _ _
          rw [e2]
          exact HR2.out
        case measure =>
          have e1 : rqAt R W2 = q + 1 := rqAt_eq HR2.out
          have e2 : rqAt R wr = q := rqAt_eq HRK.out
          have := HQ.out
          have := HK2.out
          show n + p - rqAt R W2 < n + p - rqAt R wr
          rw [e1, e2]
          omega
      | false =>
        have HKN : Hid (k = n) := by
          show _ = _
          have h1 := HK.out
          have h2 : ¬ k < n := fun h => by rw [(HTK.out.1 h).2] at hb; cases hb
          omega
        have HTY := hid (HT.out y)
        rw [hb] at HTY
        clear hb
        go_wp2_with fail
        go_quiet ((go_at_call 73; exact Calls.quiet_of_same (HTY.out _)))
        go_wp2_with fail
        exact ⟨by simp, _, results_none rfl _ _ _, HG.out.trans (to_below (below_drewN _ _ _)), rfl, by rw [← HKN.out, HQ.out]; exact HRK.out⟩
    · have hlt' : decide ((q : Int) < (S.size : Int)) = false := by rw [hsz]; exact decide_eq_false (by omega)
      have hlt2 : decide ((q : Int) < (sn : Int)) = false := decide_eq_false (by omega)
      have HKN : Hid (k = n) := by
        show _ = _
        have h1 := HK.out
        have h2 : ¬ k < n := fun h => hlt (HTK.out.1 h).1
        omega
      go_wp2_with fail
      go_quiet (fail)
      go_wp2_with fail
      exact ⟨by simp, _, results_none rfl _ _ _, HG.out.trans (to_below (below_drewN _ _ _)), rfl, by rw [← HKN.out, HQ.out]; exact HRK.out⟩
set_option maxHeartbeats 2000000 in
set_option maxRecDepth 100000 in
theorem digitsQ (s : List UInt8) (p m e R : Nat) (hs : s.length ≤ 1000000) (hp : p ≤ 2000000) (w : World) (h : Rq w R s p m e) : Calls Tryz.prog 98 #[.pointer (some ⟨R, 0, none⟩)] w fun x w' => w.grownBy w' (some R) ∧ x = .returned (.int .i64 (((s.drop p).takeWhile digJ).length : Nat)) ∧ Rq w' R s (p + ((s.drop p).takeWhile digJ).length) m e := by
  have HIX := hid (fun k h W => str_ix (asS s) k h W)
  rw [asS_data] at HIX
  have HTW := hid (tw_atQ digJ s p)
  have HDG : Hid (∀ c : UInt8, digJ c = decide (48 ≤ c.toNat ∧ c.toNat ≤ 57)) := fun c => rfl
  have hpn := tw_leQ digJ s p
  have HR := hid h
  have HZ1 := hid (asS_size s)
  clear h
  obtain ⟨n, hn⟩ : ∃ n, ((s.drop p).takeWhile digJ).length = n := ⟨_, rfl⟩
  rw [hn] at HTW hpn ⊢
  clear hn
  go_enter Tryz.func98, Tryz.ntmps98
  go_wp2_with fail
  go_loopw [3] (fun cv wr => ∃ k : Nat, cv = .int .i64 (k : Int) ∧ k ≤ n ∧ Hid (Rq wr R s (p + k) m e) ∧ Hid (w.grownBy wr (some R))) (fun cv wr => n - (intOf cv).toNat)
  case atStart => exact ⟨0, rfl, Nat.zero_le _, HR.out, to_refl R w⟩
  case round =>
    obtain ⟨k, rfl, hk, HRK, HG⟩ := hrel
    obtain ⟨q, hq⟩ : ∃ q, p + k = q := ⟨_, rfl⟩
    have HQ := hid hq
    have HTK := hid (HTW.out k hk)
    rw [hq] at HRK HTK
    clear hq
    have hq2 : q ≤ 3000000 := by have := HQ.out; omega
    have hkk : k ≤ 3000000 := by omega
    obtain ⟨d0, d1, _, _⟩ := HRK.out.cells
    obtain ⟨S, hS⟩ : ∃ S, asS s = S := ⟨_, rfl⟩
    have hsz : S.size = s.length := by rw [← hS]; exact HZ1.out
    have HRK2 := hid HRK.out
    unfold Rq at HRK2
    have HIX2 := hid (fun h W => HIX.out q h W)
    rw [hS] at d0 HRK2 HIX2
    have HSS := hid hS
    clear hS
    generalize hsn : s.length = sn at *
    by_cases hlt : q < sn
    · have hlt' : (q : Int) < (S.size : Int) := by rw [hsz]; omega
      have hix := HIX2.out (by rw [hsz]; exact hlt)
      have hdg := HDG.out (s.getD q 0)
      generalize s.getD q 0 = y at hix HTK hdg
      generalize digJ y = dg at HTK hdg
      generalize y.toNat = yn at hix hdg
      by_cases h1 : 48 ≤ yn
      · have g1 : (48 : Int) ≤ (yn : Int) := by omega
        by_cases h2 : yn ≤ 57
        · have g2 : (yn : Int) ≤ 57 := by omega
          have HK2 : Hid (k + 1 ≤ n) := HTK.out.2 ⟨hlt, by rw [hdg]; exact decide_eq_true ⟨h1, h2⟩⟩
          clear hdg h1 h2
          go_wp2_with fail
          go_quiet (fail)
          go_wp2_with (first
            | (refine store_part rfl 3 _ _ rfl R 1 (.int .i64 ((q : Int) + 1)) _ _ #[.string S, .int .i64 ((q : Int) + 1), .int .i64 m, .int .i64 e] rfl rfl info3q (by simp) rfl rfl HRK2.out rfl ?_)
            | fail)
          intro W2 ho hr
          have HO := hid ho
          have HR2 : Hid (Rq W2 R s (q + 1) m e) := by
            show Rq _ _ _ _ _ _
            unfold Rq
            rw [HSS.out, show ((q + 1 : Nat) : Int) = (q : Int) + 1 from by omega]
            exact hr
          clear ho hr
          go_wp2_with fail
          have g2 : wr.grownBy W2 (some R) := (to_below (below_drewN _ _ _)).trans (to_only HO.out)
          go_roundw
          case rel =>
            refine ⟨k + 1, by go_num, HK2.out, ?_, HG.out.trans g2⟩
            have e2 : p + (k + 1) = q + 1 := by have := HQ.out; omega
            show Rq _ _ _ _ _ _
            rw [e2]
            exact HR2.out
          case measure =>
            have := HK2.out
            simp [intOf]
            omega
        · have g2 : ¬ (yn : Int) ≤ 57 := by omega
          have g2' : decide ((yn : Int) ≤ 57) = false := decide_eq_false g2
          have HKN : Hid (k = n) := by
            show _ = _
            have h3 : ¬ k < n := fun h => by
              have := (HTK.out.1 h).2
              rw [hdg, decide_eq_true_eq] at this
              omega
            omega
          clear hdg h1 h2
          go_wp2_with fail
          go_quiet (fail)
          go_wp2_with fail
          go_ret
          exact ⟨HG.out.trans (to_below (below_drewN _ _ _)), by rw [← HKN.out]; rfl, by rw [← HKN.out, HQ.out]; exact HRK.out⟩
      · have g1 : ¬ (48 : Int) ≤ (yn : Int) := by omega
        have g1' : decide ((48 : Int) ≤ (yn : Int)) = false := decide_eq_false g1
        have HKN : Hid (k = n) := by
          show _ = _
          have h3 : ¬ k < n := fun h => by
            have := (HTK.out.1 h).2
            rw [hdg, decide_eq_true_eq] at this
            omega
          omega
        clear hdg h1
        go_wp2_with fail
        go_quiet (fail)
        go_wp2_with fail
        go_ret
        exact ⟨HG.out.trans (to_below (below_drewN _ _ _)), by rw [← HKN.out]; rfl, by rw [← HKN.out, HQ.out]; exact HRK.out⟩
    · have hlt' : decide ((q : Int) < (S.size : Int)) = false := by rw [hsz]; exact decide_eq_false (by omega)
      have hlt2 : decide ((q : Int) < (sn : Int)) = false := decide_eq_false (by omega)
      have HKN : Hid (k = n) := by
        show _ = _
        have h2 : ¬ k < n := fun h => hlt (HTK.out.1 h).1
        omega
      go_wp2_with fail
      go_quiet (fail)
      go_wp2_with fail
      go_ret
      exact ⟨HG.out.trans (to_below (below_drewN _ _ _)), by rw [← HKN.out]; rfl, by rw [← HKN.out, HQ.out]; exact HRK.out⟩
end Go.Proofs.YtlgkbdebpnbndaaGreatDoor
