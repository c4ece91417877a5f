
/- What date.Civil does, and the reference's. -/
import Derived.Test.YthpplcadpngdiaaDoorDtDays
namespace Go.Proofs.YthpplcadpngdiaaDoor
set_option linter.unusedVariables false
set_option linter.unusedSimpArgs false
open Go.RowKit

theorem ret_tup4 {k : IntKind} {a b c d a' b' c' d' : Int} (h1 : a = a') (h2 : b = b') (h3 : c = c') (h4 : d = d') : Ending.returned (.tuple #[.int k a, .int k b, .int k c, .int k d]) = .returned (.tuple #[.int k a', .int k b', .int k c', .int k d']) := by rw [h1, h2, h3, h4]
set_option maxHeartbeats 1000000 in
theorem civil_no (n : Int) (h : n < -719162 ∨ 2932896 < n) (w : World) : Calls Tryd.prog 11 #[.int .i64 n] w fun e w' => e = .returned (.tuple #[.int .i64 0, .int .i64 0, .int .i64 0, .int .i64 1]) ∧ w' = w := by
  by_cases h1 : n < -719162
  · clear h
    go_enter Tryd.func11, Tryd.ntmps11
    go_wp2_with fail
    refine bodyPost_ret (results_tmp4 rfl _ _ _) rfl ?_
    exact ⟨rfl, rfl⟩
  · have h2 : 2932896 < n := by omega
    clear h
    go_enter Tryd.func11, Tryd.ntmps11
    go_wp2_with fail
    refine bodyPost_ret (results_tmp4 rfl _ _ _) rfl ?_
    exact ⟨rfl, rfl⟩
set_option maxHeartbeats 1000000 in
theorem civil_yes (D : Nat) (hD : D < 3652059) (w : World) : Calls Tryd.prog 11 #[.int .i64 ((D : Int) - 719162)] w fun e w' => (∃ y m d : Nat, DateD y m d ∧ dayD y m d = D ∧ e = .returned (.tuple #[.int .i64 (y : Int), .int .i64 (m : Int), .int .i64 (d : Int), .int .i64 0])) ∧ w' = w := by
  have HY := hid (fun W => yearOf_any D hD W)
  obtain ⟨hy1, hy2, hy3, hy4⟩ := year_of D hD
  generalize yOf D = y at HY hy1 hy2 hy3 hy4
  generalize rOf D = r at HY hy3 hy4
  have HX : Hid (r < cumD y 13) := by show _ < _; rw [cum_year]; exact hy4
  have hr : r < 366 := by rcases year_cases y with ⟨e, _⟩ | ⟨e, _⟩ <;> omega
  have HE : Hid (aheadD y + r = D) := hy3
  clear hy3 hy4
  have HL := hid (fun k (hk : k ≤ 12) W => long_any y k (by omega) (by omega) W)
  have HC := hid (fun k (hk : 1 ≤ k) => cum_succ y k hk)
  have HG := hid (fun k => long_ge y k)
  have e0 : (D : Int) - 719162 - -719162 = (D : Int) := by omega
  have g1 : ¬ (D : Int) - 719162 < -719162 := by omega
  have g2 : ¬ 2932896 < (D : Int) - 719162 := by omega
  go_enter Tryd.func11, Tryd.ntmps11
  go_wp2_with (go_at_call 30; (try simp only [e0]); refine (HY.out _).mono ?_; rintro e w' ⟨rfl, rfl⟩)
  go_loop [3, 6] (fun i n => ∃ k R : Nat, 1 ≤ k ∧ k ≤ 12 ∧ i = .int .i64 (k : Int) ∧ n = .int .i64 (R : Int) ∧ R < 366 ∧ Hid (cumD y k + R = r)) (fun i _ => 12 - (intOf i).toNat)
  case atStart => exact ⟨1, r, Nat.le_refl _, by omega, rfl, rfl, hr, by show _ = _; rw [cum_one]; omega⟩
  case round =>
    obtain ⟨k, R, hk1, hk2, rfl, rfl, hR, HR⟩ := hrel
    have HLK := hid (HL.out k (by omega))
    have hg := HG.out k
    have HS := hid (HC.out k hk1)
    by_cases hlt : longD y k ≤ R
    · have hk3 : k < 12 := by
        rcases Nat.lt_or_ge k 12 with l | l
        · exact l
        · exfalso
          have e : k = 12 := by omega
          subst e
          have a1 := HX.out; have a2 := HS.out; have a3 := HR.out
          have a4 : cumD y 13 = cumD y (12 + 1) := rfl
          omega
      have HN : Hid (cumD y (k + 1) + (R - longD y k) = r) := by show _ = _; rw [HS.out]; have := HR.out; omega
      generalize longD y k = L at HLK hg HS hlt HN
      have hi : (L : Int) ≤ (R : Int) := by omega
      go_wp2_with (go_at_call 28; refine (HLK.out _).mono ?_; rintro e w' ⟨rfl, rfl⟩)
      go_round
      case rel => exact ⟨k + 1, R - L, by omega, by omega, by go_num, by rw [show ((R - L : Nat) : Int) = (R : Int) - L by omega], by omega, HN⟩
      case measure => simp [intOf]; omega
    · have HF : Hid (DateD y k (R + 1) ∧ dayD y k (R + 1) = D) := by
        refine ⟨⟨hy1, hy2, hk1, hk2, by omega, by omega⟩, ?_⟩
        unfold dayD; have := HR.out; have := HE.out; omega
      generalize longD y k = L at HLK hg HS hlt
      have hi : ¬ (L : Int) ≤ (R : Int) := by omega
      go_wp2_with (go_at_call 28; refine (HLK.out _).mono ?_; rintro e w' ⟨rfl, rfl⟩)
      refine bodyPost_ret (results_tmp4 rfl _ _ _) rfl ?_
      exact ⟨⟨y, k, R + 1, HF.out.1, HF.out.2, rfl⟩, rfl⟩
set_option maxHeartbeats 1000000 in
theorem refCivil_no (n : Int) (h : n < -719162 ∨ 2932896 < n) (w : World) : Calls Tryd.prog 13 #[.int .i64 n] w fun e w' => e = .returned (.tuple #[.int .i64 0, .int .i64 0, .int .i64 0]) ∧ w' = w := by
  by_cases h1 : n < -719162
  · clear h
    go_enter Tryd.func13, Tryd.ntmps13
    go_wp2_with fail
    go_ret3
    exact ⟨rfl, rfl⟩
  · have h2 : 2932896 < n := by omega
    clear h
    go_enter Tryd.func13, Tryd.ntmps13
    go_wp2_with fail
    go_ret3
    exact ⟨rfl, rfl⟩
set_option maxHeartbeats 2000000 in
theorem refCivil_yes (D : Nat) (hD : D < 3652059) (w : World) : Calls Tryd.prog 13 #[.int .i64 ((D : Int) - 719162)] w fun e w' => (∃ y m d : Nat, DateD y m d ∧ dayD y m d = D ∧ e = .returned (.tuple #[.int .i64 (y : Int), .int .i64 (m : Int), .int .i64 (d : Int)])) ∧ w' = w := by
  obtain ⟨hy1, hy2, hy3, hy4⟩ := year_of D hD
  generalize yOf D = y at hy1 hy2 hy3 hy4
  generalize rOf D = r at hy3 hy4
  have HX : Hid (r < cumD y 13) := by show _ < _; rw [cum_year]; exact hy4
  have hr : r < 366 := by rcases year_cases y with ⟨e, _⟩ | ⟨e, _⟩ <;> omega
  have HE : Hid (aheadD y + r = D) := hy3
  have HY : Hid (r < yearD y) := hy4
  have HM : Hid (∀ k, 1 ≤ k → k < y → aheadD k + yearD k ≤ aheadD y) := fun k a b => ahead_lt k y a b
  have HA := hid (fun k (h : 1 ≤ k) => ahead_succ k h)
  clear hy3 hy4
  have HL := hid (fun k (hk : k ≤ 12) W => refLong_any y k (by omega) (by omega) W)
  have HC := hid (fun k (hk : 1 ≤ k) => cum_succ y k hk)
  have HG := hid (fun k => long_ge y k)
  have e0 : (D : Int) - 719162 + 719162 = (D : Int) := by omega
  have g1 : ¬ (D : Int) - 719162 < -719162 := by omega
  have g2 : ¬ 2932896 < (D : Int) - 719162 := by omega
  by_cases hyy : y = 9999
  · have HYY := hid hyy
    go_enter Tryd.func13, Tryd.ntmps13
    go_wp2_with fail
    go_loop [5, 6] (fun n i => ∃ k R : Nat, 1 ≤ k ∧ k ≤ y ∧ i = .int .i64 (k : Int) ∧ n = .int .i64 (R : Int) ∧ R ≤ D ∧ Hid (aheadD k + R = D)) (fun _ i => y - (intOf i).toNat)
    case atStart => exact ⟨1, D, Nat.le_refl _, hy1, rfl, by go_num, Nat.le_refl _, by show _ = _; rw [show aheadD 1 = 0 from rfl]; omega⟩
    case round =>
      obtain ⟨k, R, hk1, hk2, rfl, rfl, hR, HR⟩ := hrel
      by_cases hlt : k < y
      · have HS := hid (HA.out k hk1)
        have HLP := hid (fun W => refLeap_any k (by omega) W)
        have hR2 : yearD k ≤ R := by have := HM.out k hk1 hlt; have := HR.out; have := HE.out; omega
        have hi : (k : Int) < 9999 := by omega
        have HN : Hid (aheadD (k + 1) + (R - yearD k) = D) := by show _ = _; rw [HS.out]; have := HR.out; omega
        unfold yearD at HN hR2
        generalize leapD k = b at HLP HN hR2
        cases b
        · rw [if_neg (by simp)] at HN hR2
          have hi2 : decide ((R : Int) < 365) = false := decide_eq_false (by omega)
          have hj : Hid (365 ≤ R) := hR2
          clear hR2
          go_wp2_with (go_at_call 32; refine (HLP.out _).mono ?_; rintro e w' ⟨rfl, rfl⟩)
          go_round
          case rel => exact ⟨k + 1, R - 365, by omega, by omega, by go_num, by have := hj.out; rw [show ((R - 365 : Nat) : Int) = (R : Int) - 365 by omega], by omega, HN⟩
          case measure => simp [intOf]; omega
        · rw [if_pos rfl] at HN hR2
          have hi2 : decide ((R : Int) < 366) = false := decide_eq_false (by omega)
          have hj : Hid (366 ≤ R) := hR2
          clear hR2
          go_wp2_with (go_at_call 32; refine (HLP.out _).mono ?_; rintro e w' ⟨rfl, rfl⟩)
          go_round
          case rel => exact ⟨k + 1, R - 366, by omega, by omega, by go_num, by have := hj.out; rw [show ((R - 366 : Nat) : Int) = (R : Int) - 366 by omega], by omega, HN⟩
          case measure => simp [intOf]; omega
      · have hi : ¬ (k : Int) < 9999 := by omega
        have e1 : y = k := by omega
        have e2 : r = R := by have := HR.out; have := HE.out; rw [e1] at *; omega
        subst e1; subst e2
        clear HYY hyy HM HA HR e0 g1 g2
        go_wp2_with fail
        go_loop [5, 8] (fun n i => ∃ k R : Nat, 1 ≤ k ∧ k ≤ 12 ∧ i = .int .i64 (k : Int) ∧ n = .int .i64 (R : Int) ∧ R < 366 ∧ Hid (cumD y k + R = r)) (fun _ i => 12 - (intOf i).toNat)
        case atStart => exact ⟨1, r, Nat.le_refl _, by omega, rfl, rfl, hr, by show _ = _; rw [cum_one]; omega⟩
        case round =>
          obtain ⟨k, R, hk1, hk2, rfl, rfl, hR, HR⟩ := hrel
          have HLK := hid (HL.out k (by omega))
          have hg := HG.out k
          have HS := hid (HC.out k hk1)
          by_cases hlt : longD y k ≤ R
          · have hk3 : k < 12 := by
              rcases Nat.lt_or_ge k 12 with l | l
              · exact l
              · exfalso
                have e : k = 12 := by omega
                subst e
                have a1 := HX.out; have a2 := HS.out; have a3 := HR.out
                have a4 : cumD y 13 = cumD y (12 + 1) := rfl
                omega
            have HN : Hid (cumD y (k + 1) + (R - longD y k) = r) := by show _ = _; rw [HS.out]; have := HR.out; omega
            generalize longD y k = L at HLK hg HS hlt HN
            have hi : (L : Int) ≤ (R : Int) := by omega
            have hi2 : (k : Int) < 12 := by omega
            go_wp2_with (go_at_call 29; refine (HLK.out _).mono ?_; rintro e w' ⟨rfl, rfl⟩)
            go_round
            case rel => exact ⟨k + 1, R - L, by omega, by omega, by go_num, by rw [show ((R - L : Nat) : Int) = (R : Int) - L by omega], by omega, HN⟩
            case measure => simp [intOf]; omega
          · have HF : Hid (DateD y k (R + 1) ∧ dayD y k (R + 1) = D) := by
              refine ⟨⟨hy1, hy2, hk1, hk2, by omega, by omega⟩, ?_⟩
              unfold dayD; have := HR.out; have := HE.out; omega
            generalize longD y k = L at HLK hg HS hlt
            have hi : ¬ (L : Int) ≤ (R : Int) := by omega
            by_cases hk4 : (k : Int) < 12
            all_goals go_wp2_with (go_at_call 29; refine (HLK.out _).mono ?_; rintro e w' ⟨rfl, rfl⟩)
            all_goals go_ret3
            all_goals exact ⟨⟨y, k, R + 1, HF.out.1, HF.out.2, rfl⟩, rfl⟩
  · have hyl : y < 9999 := by omega
    go_enter Tryd.func13, Tryd.ntmps13
    go_wp2_with fail
    go_loop [5, 6] (fun n i => ∃ k R : Nat, 1 ≤ k ∧ k ≤ y ∧ i = .int .i64 (k : Int) ∧ n = .int .i64 (R : Int) ∧ R ≤ D ∧ Hid (aheadD k + R = D)) (fun _ i => y - (intOf i).toNat)
    case atStart => exact ⟨1, D, Nat.le_refl _, hy1, rfl, by go_num, Nat.le_refl _, by show _ = _; rw [show aheadD 1 = 0 from rfl]; omega⟩
    case round =>
      obtain ⟨k, R, hk1, hk2, rfl, rfl, hR, HR⟩ := hrel
      have hi : (k : Int) < 9999 := by omega
      have HLP := hid (fun W => refLeap_any k (by omega) W)
      by_cases hlt : k < y
      · have HS := hid (HA.out k hk1)
        have hR2 : yearD k ≤ R := by have := HM.out k hk1 hlt; have := HR.out; have := HE.out; omega
        have HN : Hid (aheadD (k + 1) + (R - yearD k) = D) := by show _ = _; rw [HS.out]; have := HR.out; omega
        unfold yearD at HN hR2
        generalize leapD k = b at HLP HN hR2
        cases b
        · rw [if_neg (by simp)] at HN hR2
          have hi2 : decide ((R : Int) < 365) = false := decide_eq_false (by omega)
          have hj : Hid (365 ≤ R) := hR2
          clear hR2
          go_wp2_with (go_at_call 32; refine (HLP.out _).mono ?_; rintro e w' ⟨rfl, rfl⟩)
          go_round
          case rel => exact ⟨k + 1, R - 365, by omega, by omega, by go_num, by have := hj.out; rw [show ((R - 365 : Nat) : Int) = (R : Int) - 365 by omega], by omega, HN⟩
          case measure => simp [intOf]; omega
        · rw [if_pos rfl] at HN hR2
          have hi2 : decide ((R : Int) < 366) = false := decide_eq_false (by omega)
          have hj : Hid (366 ≤ R) := hR2
          clear hR2
          go_wp2_with (go_at_call 32; refine (HLP.out _).mono ?_; rintro e w' ⟨rfl, rfl⟩)
          go_round
          case rel => exact ⟨k + 1, R - 366, by omega, by omega, by go_num, by have := hj.out; rw [show ((R - 366 : Nat) : Int) = (R : Int) - 366 by omega], by omega, HN⟩
          case measure => simp [intOf]; omega
      · have e1 : y = k := by omega
        have e2 : r = R := by have := HR.out; have := HE.out; rw [e1] at *; omega
        subst e1; subst e2
        have hR2 : r < yearD y := HY.out
        clear HY HM HA HR e0 g1 g2
        unfold yearD at hR2
        generalize leapD y = b at HLP hR2
        cases b
        · rw [if_neg (by simp)] at hR2
          have hi2 : (r : Int) < 365 := by omega
          go_wp2_with (go_at_call 32; refine (HLP.out _).mono ?_; rintro e w' ⟨rfl, rfl⟩)
          go_loop [5, 8] (fun n i => ∃ k R : Nat, 1 ≤ k ∧ k ≤ 12 ∧ i = .int .i64 (k : Int) ∧ n = .int .i64 (R : Int) ∧ R < 366 ∧ Hid (cumD y k + R = r)) (fun _ i => 12 - (intOf i).toNat)
          case atStart => exact ⟨1, r, Nat.le_refl _, by omega, rfl, rfl, hr, by show _ = _; rw [cum_one]; omega⟩
          case round =>
            obtain ⟨k, R, hk1, hk2, rfl, rfl, hR, HR⟩ := hrel
            have HLK := hid (HL.out k (by omega))
            have hg := HG.out k
            have HS := hid (HC.out k hk1)
            by_cases hlt : longD y k ≤ R
            · have hk3 : k < 12 := by
                rcases Nat.lt_or_ge k 12 with l | l
                · exact l
                · exfalso
                  have e : k = 12 := by omega
                  subst e
                  have a1 := HX.out; have a2 := HS.out; have a3 := HR.out
                  have a4 : cumD y 13 = cumD y (12 + 1) := rfl
                  omega
              have HN : Hid (cumD y (k + 1) + (R - longD y k) = r) := by show _ = _; rw [HS.out]; have := HR.out; omega
              generalize longD y k = L at HLK hg HS hlt HN
              have hi : (L : Int) ≤ (R : Int) := by omega
              have hi2 : (k : Int) < 12 := by omega
              go_wp2_with (go_at_call 29; refine (HLK.out _).mono ?_; rintro e w' ⟨rfl, rfl⟩)
              go_round
              case rel => exact ⟨k + 1, R - L, by omega, by omega, by go_num, by rw [show ((R - L : Nat) : Int) = (R : Int) - L by omega], by omega, HN⟩
              case measure => simp [intOf]; omega
            · have HF : Hid (DateD y k (R + 1) ∧ dayD y k (R + 1) = D) := by
                refine ⟨⟨hy1, hy2, hk1, hk2, by omega, by omega⟩, ?_⟩
                unfold dayD; have := HR.out; have := HE.out; omega
              generalize longD y k = L at HLK hg HS hlt
              have hi : ¬ (L : Int) ≤ (R : Int) := by omega
              by_cases hk4 : (k : Int) < 12
              all_goals go_wp2_with (go_at_call 29; refine (HLK.out _).mono ?_; rintro e w' ⟨rfl, rfl⟩)
              all_goals go_ret3
              all_goals exact ⟨⟨y, k, R + 1, HF.out.1, HF.out.2, rfl⟩, rfl⟩
        · rw [if_pos rfl] at hR2
          have hi2 : (r : Int) < 366 := by omega
          go_wp2_with (go_at_call 32; refine (HLP.out _).mono ?_; rintro e w' ⟨rfl, rfl⟩)
          go_loop [5, 8] (fun n i => ∃ k R : Nat, 1 ≤ k ∧ k ≤ 12 ∧ i = .int .i64 (k : Int) ∧ n = .int .i64 (R : Int) ∧ R < 366 ∧ Hid (cumD y k + R = r)) (fun _ i => 12 - (intOf i).toNat)
          case atStart => exact ⟨1, r, Nat.le_refl _, by omega, rfl, rfl, hr, by show _ = _; rw [cum_one]; omega⟩
          case round =>
            obtain ⟨k, R, hk1, hk2, rfl, rfl, hR, HR⟩ := hrel
            have HLK := hid (HL.out k (by omega))
            have hg := HG.out k
            have HS := hid (HC.out k hk1)
            by_cases hlt : longD y k ≤ R
            · have hk3 : k < 12 := by
                rcases Nat.lt_or_ge k 12 with l | l
                · exact l
                · exfalso
                  have e : k = 12 := by omega
                  subst e
                  have a1 := HX.out; have a2 := HS.out; have a3 := HR.out
                  have a4 : cumD y 13 = cumD y (12 + 1) := rfl
                  omega
              have HN : Hid (cumD y (k + 1) + (R - longD y k) = r) := by show _ = _; rw [HS.out]; have := HR.out; omega
              generalize longD y k = L at HLK hg HS hlt HN
              have hi : (L : Int) ≤ (R : Int) := by omega
              have hi2 : (k : Int) < 12 := by omega
              go_wp2_with (go_at_call 29; refine (HLK.out _).mono ?_; rintro e w' ⟨rfl, rfl⟩)
              go_round
              case rel => exact ⟨k + 1, R - L, by omega, by omega, by go_num, by rw [show ((R - L : Nat) : Int) = (R : Int) - L by omega], by omega, HN⟩
              case measure => simp [intOf]; omega
            · have HF : Hid (DateD y k (R + 1) ∧ dayD y k (R + 1) = D) := by
                refine ⟨⟨hy1, hy2, hk1, hk2, by omega, by omega⟩, ?_⟩
                unfold dayD; have := HR.out; have := HE.out; omega
              generalize longD y k = L at HLK hg HS hlt
              have hi : ¬ (L : Int) ≤ (R : Int) := by omega
              by_cases hk4 : (k : Int) < 12
              all_goals go_wp2_with (go_at_call 29; refine (HLK.out _).mono ?_; rintro e w' ⟨rfl, rfl⟩)
              all_goals go_ret3
              all_goals exact ⟨⟨y, k, R + 1, HF.out.1, HF.out.2, rfl⟩, rfl⟩
end Go.Proofs.YthpplcadpngdiaaDoor
