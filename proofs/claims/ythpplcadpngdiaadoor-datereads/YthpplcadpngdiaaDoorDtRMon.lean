
/- What the reference's month, weekday and zone do. -/
import Derived.Test.YthpplcadpngdiaaDoorDtRNum
namespace Go.Proofs.YthpplcadpngdiaaDoor
set_option linter.unusedVariables false
set_option linter.unusedSimpArgs false
open Go.RowKit Go.BigFrame

def monS : ByteArray := ⟨#[106, 97, 110, 102, 101, 98, 109, 97, 114, 97, 112, 114, 109, 97, 121, 106, 117, 110, 106, 117, 108, 97, 117, 103, 115, 101, 112, 111, 99, 116, 110, 111, 118, 100, 101, 99]⟩
def dayS : ByteArray := ⟨#[109, 111, 110, 116, 117, 101, 119, 101, 100, 116, 104, 117, 102, 114, 105, 115, 97, 116, 115, 117, 110]⟩
theorem monS_cut (k : Nat) (h : k < 12) (W : World) : (Instr.slice 9 (.string ⟨#[106, 97, 110, 102, 101, 98, 109, 97, 114, 97, 112, 114, 109, 97, 121, 106, 117, 110, 106, 117, 108, 97, 117, 103, 115, 101, 112, 111, 99, 116, 110, 111, 118, 100, 101, 99]⟩) (some (.int .i64 (3 * (k : Int)))) (some (.int .i64 (3 * (k : Int) + 3))) none).run Tryd.prog W = .ok (.string (asS (monNs.getD k []))) W := by
  rcases (show k = 0 ∨ k = 1 ∨ k = 2 ∨ k = 3 ∨ k = 4 ∨ k = 5 ∨ k = 6 ∨ k = 7 ∨ k = 8 ∨ k = 9 ∨ k = 10 ∨ k = 11 by omega) with rfl | rfl | rfl | rfl | rfl | rfl | rfl | rfl | rfl | rfl | rfl | rfl <;> kernel_rfl
theorem dayS_cut (k : Nat) (h : k < 7) (W : World) : (Instr.slice 9 (.string ⟨#[109, 111, 110, 116, 117, 101, 119, 101, 100, 116, 104, 117, 102, 114, 105, 115, 97, 116, 115, 117, 110]⟩) (some (.int .i64 (3 * (k : Int)))) (some (.int .i64 (3 * (k : Int) + 3))) none).run Tryd.prog W = .ok (.string (asS (dayNs.getD k []))) W := by
  rcases (show k = 0 ∨ k = 1 ∨ k = 2 ∨ k = 3 ∨ k = 4 ∨ k = 5 ∨ k = 6 by omega) with rfl | rfl | rfl | rfl | rfl | rfl | rfl <;> kernel_rfl
set_option maxHeartbeats 1000000 in
set_option maxRecDepth 1000000 in
theorem refMonth_any (l : List UInt8) (w : World) : Calls Tryd.prog 50 #[.string (asS l)] w fun e w' => e = .returned (.int .i64 (monOf l : Int)) ∧ w' = w := by
  have HIX := hid (fun k h W => monS_cut k h W)
  have HA := hid (fun k (h : k < 12) => monFind_at monNs k l h)
  obtain ⟨M, HQ⟩ : ∃ M, Hid (monFind (monNs.drop 0) 0 l = M) := ⟨_, rfl⟩
  rw [show monOf l = M from HQ.out]
  have HZ : Hid (∀ k, 12 ≤ k → monFind (monNs.drop k) k l = 0) := fun k h => by rw [List.drop_eq_nil_of_le (by exact h)]; rfl
  have HEQ : Hid (∀ x : List UInt8, ((asS l).toList == (asS x).toList) = decide (l = x)) := fun x => by
    rw [show (asS x).toList = x from by rw [ByteArray.toList_eq]; rfl]; exact tl_eq l x
  generalize asS l = s at *
  go_enter Tryd.func50, Tryd.ntmps50
  go_wp2_with fail
  go_loop [4] (fun i => ∃ k : Nat, k ≤ 12 ∧ i = .int .i64 (k : Int) ∧ Hid (monFind (monNs.drop k) k l = M)) (fun i => 12 - (intOf i).toNat)
  case atStart => exact ⟨0, by omega, rfl, HQ⟩
  case round =>
    obtain ⟨k, hk, rfl, HK⟩ := hrel
    by_cases hlt : k < 12
    · have hi : (k : Int) < 12 := by omega
      have hix := HIX.out k hlt
      have HAK := hid (HA.out k hlt)
      generalize monNs.getD k [] = x at hix HAK
      have hcmp := HEQ.out x
      generalize asS x = t at hix hcmp
      by_cases hx : x = l
      · rw [decide_eq_true hx.symm] at hcmp
        have HR : Hid (M = k + 1) := by show _ = _; rw [← HK.out, HAK.out, if_pos hx]
        clear hx
        go_wp2_with fail
        go_ret
        exact ⟨by rw [HR.out]; rfl, rfl⟩
      · rw [decide_eq_false (fun e => hx e.symm)] at hcmp
        have HR : Hid (monFind (monNs.drop (k + 1)) (k + 1) l = M) := by show _ = _; rw [← HK.out, HAK.out, if_neg hx]
        clear hx
        go_wp2_with fail
        go_round
        case rel => exact ⟨k + 1, by omega, by go_num, HR⟩
        case measure => simp [intOf]; omega
    · have hi : ¬ (k : Int) < 12 := by omega
      have HR : Hid (M = 0) := by show _ = _; rw [← HK.out]; exact HZ.out k (by omega)
      go_wp2_with fail
      go_ret
      exact ⟨by rw [HR.out]; rfl, rfl⟩
set_option maxHeartbeats 1000000 in
set_option maxRecDepth 1000000 in
theorem refWeekday_any (l : List UInt8) (w : World) : Calls Tryd.prog 49 #[.string (asS l)] w fun e w' => e = .returned (.bool (isDayN l)) ∧ w' = w := by
  have HIX := hid (fun k h W => dayS_cut k h W)
  have HA := hid (fun k (h : k < 7) => anyN_at dayNs k l h)
  have HS : Hid (∀ k, k < 7 → (asS (dayNs.getD k [])).size ≤ 3) := fun k h => by
    have e : k = 0 ∨ k = 1 ∨ k = 2 ∨ k = 3 ∨ k = 4 ∨ k = 5 ∨ k = 6 := by omega
    rcases e with rfl | rfl | rfl | rfl | rfl | rfl | rfl <;> decide
  obtain ⟨M, HQ⟩ : ∃ M, Hid ((dayNs.drop 0).any (fun x => decide (l = x ++ [44])) = M) := ⟨(dayNs.drop 0).any (fun x => decide (l = x ++ [44])), hid rfl⟩
  rw [show isDayN l = M from HQ.out]
  have HZ : Hid (∀ k, 7 ≤ k → (dayNs.drop k).any (fun x => decide (l = x ++ [44])) = false) := fun k h => by rw [List.drop_eq_nil_of_le (by exact h)]; rfl
  have HEQ : Hid (∀ x : List UInt8, ((asS l).toList == (asS x ++ ⟨#[44]⟩).toList) = decide (l = x ++ [44])) := fun x => by
    rw [show (asS x ++ ⟨#[44]⟩ : ByteArray) = asS (x ++ [44]) from asS_app x [44], show (asS (x ++ [44])).toList = x ++ [44] from by rw [ByteArray.toList_eq]; rfl]; exact tl_eq l _
  generalize asS l = s at *
  go_enter Tryd.func49, Tryd.ntmps49
  go_wp2_with fail
  go_loop [4] (fun i => ∃ k : Nat, k ≤ 7 ∧ i = .int .i64 (k : Int) ∧ Hid ((dayNs.drop k).any (fun x => decide (l = x ++ [44])) = M)) (fun i => 7 - (intOf i).toNat)
  case atStart => exact ⟨0, by omega, rfl, HQ⟩
  case round =>
    obtain ⟨k, hk, rfl, HK⟩ := hrel
    by_cases hlt : k < 7
    · have hi : (k : Int) < 7 := by omega
      have hix := HIX.out k hlt
      have HAK := hid (HA.out k hlt)
      have hz := HS.out k hlt
      generalize dayNs.getD k [] = x at hix HAK hz
      have hcmp := HEQ.out x
      generalize asS x = t at hix hcmp hz
      generalize decide (l = x ++ [44]) = b at hcmp HAK
      cases b
      · have HR : Hid ((dayNs.drop (k + 1)).any (fun x => decide (l = x ++ [44])) = M) := by show _ = _; rw [← HK.out, HAK.out, Bool.false_or]
        go_wp2_with fail
        go_round
        case rel => exact ⟨k + 1, by omega, by go_num, HR⟩
        case measure => simp [intOf]; omega
      · have HR : Hid (M = true) := by show _ = _; rw [← HK.out, HAK.out, Bool.true_or]
        go_wp2_with fail
        go_ret
        exact ⟨by rw [HR.out]; rfl, rfl⟩
    · have hi : ¬ (k : Int) < 7 := by omega
      have HR : Hid (M = false) := by show _ = _; rw [← HK.out]; exact HZ.out k (by omega)
      go_wp2_with fail
      go_ret
      exact ⟨by rw [HR.out]; rfl, rfl⟩
/-- A zone in minutes. -/
def optZ (o : Option Int) : Value := match o with
  | some a => .tuple #[.int .i64 (a / 60), .bool true]
  | none => .tuple #[.int .i64 0, .bool false]
set_option maxHeartbeats 4000000 in
set_option maxRecDepth 1000000 in
theorem refZone_any (l : List UInt8) (hl : l.length ≤ 100000) (w : World) : Calls Tryd.prog 51 #[.string (asS l)] w fun e w' => e = .returned (optZ (zoneR l)) ∧ w' = w := by
  unfold zoneR
  cases hz : zName l with
  | some n =>
    have hm := zName_some hz
    clear hz hl
    simp only [zTab, List.mem_cons, List.not_mem_nil, or_false, Prod.mk.injEq] at hm
    rcases hm with ⟨rfl, rfl⟩ | ⟨rfl, rfl⟩ | ⟨rfl, rfl⟩ | ⟨rfl, rfl⟩ | ⟨rfl, rfl⟩ | ⟨rfl, rfl⟩ | ⟨rfl, rfl⟩ | ⟨rfl, rfl⟩ | ⟨rfl, rfl⟩ | ⟨rfl, rfl⟩ | ⟨rfl, rfl⟩ | ⟨rfl, rfl⟩
    · show Calls Tryd.prog 51 #[.string ⟨#[117, 116]⟩] w _
      go_enter Tryd.func51, Tryd.ntmps51
      go_wp2_with fail
      go_ret2
      exact ⟨rfl, rfl⟩
    · show Calls Tryd.prog 51 #[.string ⟨#[117, 116, 99]⟩] w _
      go_enter Tryd.func51, Tryd.ntmps51
      go_wp2_with fail
      go_ret2
      exact ⟨rfl, rfl⟩
    · show Calls Tryd.prog 51 #[.string ⟨#[103, 109, 116]⟩] w _
      go_enter Tryd.func51, Tryd.ntmps51
      go_wp2_with fail
      go_ret2
      exact ⟨rfl, rfl⟩
    · show Calls Tryd.prog 51 #[.string ⟨#[122]⟩] w _
      go_enter Tryd.func51, Tryd.ntmps51
      go_wp2_with fail
      go_ret2
      exact ⟨rfl, rfl⟩
    · show Calls Tryd.prog 51 #[.string ⟨#[101, 100, 116]⟩] w _
      go_enter Tryd.func51, Tryd.ntmps51
      go_wp2_with fail
      go_ret2
      exact ⟨rfl, rfl⟩
    · show Calls Tryd.prog 51 #[.string ⟨#[101, 115, 116]⟩] w _
      go_enter Tryd.func51, Tryd.ntmps51
      go_wp2_with fail
      go_ret2
      exact ⟨rfl, rfl⟩
    · show Calls Tryd.prog 51 #[.string ⟨#[99, 100, 116]⟩] w _
      go_enter Tryd.func51, Tryd.ntmps51
      go_wp2_with fail
      go_ret2
      exact ⟨rfl, rfl⟩
    · show Calls Tryd.prog 51 #[.string ⟨#[99, 115, 116]⟩] w _
      go_enter Tryd.func51, Tryd.ntmps51
      go_wp2_with fail
      go_ret2
      exact ⟨rfl, rfl⟩
    · show Calls Tryd.prog 51 #[.string ⟨#[109, 100, 116]⟩] w _
      go_enter Tryd.func51, Tryd.ntmps51
      go_wp2_with fail
      go_ret2
      exact ⟨rfl, rfl⟩
    · show Calls Tryd.prog 51 #[.string ⟨#[109, 115, 116]⟩] w _
      go_enter Tryd.func51, Tryd.ntmps51
      go_wp2_with fail
      go_ret2
      exact ⟨rfl, rfl⟩
    · show Calls Tryd.prog 51 #[.string ⟨#[112, 100, 116]⟩] w _
      go_enter Tryd.func51, Tryd.ntmps51
      go_wp2_with fail
      go_ret2
      exact ⟨rfl, rfl⟩
    · show Calls Tryd.prog 51 #[.string ⟨#[112, 115, 116]⟩] w _
      go_enter Tryd.func51, Tryd.ntmps51
      go_wp2_with fail
      go_ret2
      exact ⟨rfl, rfl⟩
  | none =>
    have hne := zName_none hz
    clear hz
    have HT1 := hid (fun W => refTwo_any l 1 24 hl (by omega) (by omega) W)
    have HT2 := hid (fun W => refTwo_any l 3 60 hl (by omega) (by omega) W)
    have HL : Hid ((asS l).size = l.length) := asS_size l
    have HIX : Hid (l.length = 5 → ∀ W : World, (Instr.index 9 (.string (asS l)) (.int .i64 0)).run Tryd.prog W = .ok (.int .u8 (l.getD 0 0).toNat) W) := fun h W => str_ix (asS l) 0 (by have := HL.out; omega) W
    have bA : twoR l 1 24 < 24 := by unfold twoR; split <;> omega
    have bB : twoR l 3 60 < 60 := by unfold twoR; split <;> omega
    have bA' : -1 ≤ twoR l 1 24 := by have := numT_ge l 1 3; unfold twoR; split <;> omega
    have bB' : -1 ≤ twoR l 3 60 := by have := numT_ge l 3 5; unfold twoR; split <;> omega
    have key : ∀ c n, (c, n) ∈ zTab → ((asS l).toList == c) = false := fun c n h => by rw [tl_eq]; exact decide_eq_false (hne _ h)
    have e0 := key [117, 116] (0) (by decide)
    have e1 := key [117, 116, 99] (0) (by decide)
    have e2 := key [103, 109, 116] (0) (by decide)
    have e3 := key [122] (0) (by decide)
    have e4 := key [101, 100, 116] (-14400) (by decide)
    have e5 := key [101, 115, 116] (-18000) (by decide)
    have e6 := key [99, 100, 116] (-18000) (by decide)
    have e7 := key [99, 115, 116] (-21600) (by decide)
    have e8 := key [109, 100, 116] (-21600) (by decide)
    have e9 := key [109, 115, 116] (-25200) (by decide)
    have e10 := key [112, 100, 116] (-25200) (by decide)
    have e11 := key [112, 115, 116] (-28800) (by decide)
    clear key
    show Calls Tryd.prog 51 #[.string (asS l)] w fun e w' => e = .returned (optZ (if l.length = 5 ∧ 0 ≤ twoR l 1 24 ∧ 0 ≤ twoR l 3 60 ∧ (l.getD 0 0 = 43 ∨ l.getD 0 0 = 45) then some (if l.getD 0 0 = 45 then -(twoR l 1 24 * 3600 + twoR l 3 60 * 60) else twoR l 1 24 * 3600 + twoR l 3 60 * 60) else none)) ∧ w' = w
    change Hid (∀ W : World, Calls Tryd.prog 41 #[.string (asS l), .int .i64 1, .int .i64 24] W fun e w' => e = .returned (.int .i64 (twoR l 1 24)) ∧ w' = W) at HT1
    change Hid (∀ W : World, Calls Tryd.prog 41 #[.string (asS l), .int .i64 3, .int .i64 60] W fun e w' => e = .returned (.int .i64 (twoR l 3 60)) ∧ w' = W) at HT2
    clear hne
    generalize twoR l 1 24 = A at *
    generalize twoR l 3 60 = B at *
    generalize l.getD 0 0 = c at *
    generalize asS l = s at *
    by_cases h5 : l.length = 5
    · have hix := HIX.out h5
      have g5 : ((s.size : Int) != 5) = false := by have := HL.out; simp; omega
      have g5' : ((s.size : Int) == 5) = true := by have := HL.out; simp; omega
      by_cases hA : A < 0
      · rw [if_neg (by omega)]
        go_enter Tryd.func51, Tryd.ntmps51
        go_wp2_with (first
          | (go_at_call_of 41 (Value.int .i64 24); refine (HT1.out _).mono ?_; rintro e w1 ⟨rfl, rfl⟩)
          | (go_at_call_of 41 (Value.int .i64 60); refine (HT2.out _).mono ?_; rintro e w1 ⟨rfl, rfl⟩)
          | fail)
        go_ret2
        exact ⟨rfl, rfl⟩
      · by_cases hB : B < 0
        · rw [if_neg (by omega)]
          go_enter Tryd.func51, Tryd.ntmps51
          go_wp2_with (first
            | (go_at_call_of 41 (Value.int .i64 24); refine (HT1.out _).mono ?_; rintro e w1 ⟨rfl, rfl⟩)
            | (go_at_call_of 41 (Value.int .i64 60); refine (HT2.out _).mono ?_; rintro e w1 ⟨rfl, rfl⟩)
            | fail)
          go_ret2
          exact ⟨rfl, rfl⟩
        · by_cases c1 : c = 43
          · rw [if_pos ⟨h5, by omega, by omega, .inl c1⟩, if_neg (by rw [c1]; decide)]
            subst c1
            change ∀ W : World, (Instr.index 9 (.string s) (.int .i64 0)).run Tryd.prog W = .ok (.int .u8 43) W at hix
            have HV : Hid (A * 60 + B = (A * 3600 + B * 60) / 60) := by show _ = _; omega
            go_enter Tryd.func51, Tryd.ntmps51
            go_wp2_with (first
              | (go_at_call_of 41 (Value.int .i64 24); refine (HT1.out _).mono ?_; rintro e w1 ⟨rfl, rfl⟩)
              | (go_at_call_of 41 (Value.int .i64 60); refine (HT2.out _).mono ?_; rintro e w1 ⟨rfl, rfl⟩)
              | fail)
            go_ret2
            exact ⟨by show Ending.returned (.tuple #[.int .i64 (A * 60 + B), .bool true]) = .returned (.tuple #[.int .i64 ((A * 3600 + B * 60) / 60), .bool true]); rw [← HV.out], rfl⟩
          · by_cases c2 : c = 45
            · rw [if_pos ⟨h5, by omega, by omega, .inr c2⟩, if_pos c2]
              subst c2
              change ∀ W : World, (Instr.index 9 (.string s) (.int .i64 0)).run Tryd.prog W = .ok (.int .u8 45) W at hix
              have HV : Hid (-A * 60 - B = (-(A * 3600 + B * 60)) / 60) := by show _ = _; omega
              go_enter Tryd.func51, Tryd.ntmps51
              go_wp2_with (first
                | (go_at_call_of 41 (Value.int .i64 24); refine (HT1.out _).mono ?_; rintro e w1 ⟨rfl, rfl⟩)
                | (go_at_call_of 41 (Value.int .i64 60); refine (HT2.out _).mono ?_; rintro e w1 ⟨rfl, rfl⟩)
                | fail)
              go_ret2
              exact ⟨by show Ending.returned (.tuple #[.int .i64 (-A * 60 - B), .bool true]) = .returned (.tuple #[.int .i64 (-(A * 3600 + B * 60) / 60), .bool true]); rw [← HV.out], rfl⟩
            · rw [if_neg (by rintro ⟨_, _, _, h | h⟩; exact c1 h; exact c2 h)]
              have b1 : ((c.toNat : Int) != 43) = true := by rw [bne_iff_ne]; exact fun h => c1 ((u8_eq_iff c 43).1 h)
              have b2 : ((c.toNat : Int) != 45) = true := by rw [bne_iff_ne]; exact fun h => c2 ((u8_eq_iff c 45).1 h)
              go_enter Tryd.func51, Tryd.ntmps51
              go_wp2_with (first
                | (go_at_call_of 41 (Value.int .i64 24); refine (HT1.out _).mono ?_; rintro e w1 ⟨rfl, rfl⟩)
                | (go_at_call_of 41 (Value.int .i64 60); refine (HT2.out _).mono ?_; rintro e w1 ⟨rfl, rfl⟩)
                | fail)
              go_ret2
              exact ⟨rfl, rfl⟩
    · rw [if_neg (fun h => h5 h.1)]
      have g5 : ((s.size : Int) != 5) = true := by have := HL.out; simp; omega
      have g5' : ((s.size : Int) == 5) = false := by have := HL.out; simp; omega
      go_enter Tryd.func51, Tryd.ntmps51
      go_wp2_with (first
        | (go_at_call_of 41 (Value.int .i64 24); refine (HT1.out _).mono ?_; rintro e w1 ⟨rfl, rfl⟩)
        | (go_at_call_of 41 (Value.int .i64 60); refine (HT2.out _).mono ?_; rintro e w1 ⟨rfl, rfl⟩)
        | fail)
      go_ret2
      exact ⟨rfl, rfl⟩
end Go.Proofs.YthpplcadpngdiaaDoor
