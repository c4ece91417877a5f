
/- What the reference's Prime does. -/
import Derived.Test.YtggbianodoneeaaDoorOfLaw
namespace Go.Proofs.YtggbianodoneeaaDoor
open Go.RowKit
set_option linter.unusedSimpArgs false
set_option linter.unusedVariables false

/-- No number from 2 up to d (not d itself) goes into p. -/
def noDiv (p : Nat) : Nat → Bool
  | 0 => true
  | d + 1 => noDiv p d && (decide (d < 2) || decide (p % d ≠ 0))
def isP (p : Nat) : Bool := noDiv p p
/-- How many of the numbers from 2 up to p are primes. -/
def cnt : Nat → Nat
  | 0 => 0
  | p + 1 => cnt p + (if 2 ≤ p + 1 ∧ isP (p + 1) = true then 1 else 0)
theorem cnt_311 : cnt 311 = 64 := by decide +kernel
theorem noDiv_two (p : Nat) : noDiv p 2 = true := by simp [noDiv]

set_option maxRecDepth 100000 in
set_option maxHeartbeats 1000000 in
theorem prime_any (n : Nat) (hn : n < 64) (w : World) :
    Calls Tryd.prog 11 #[.int .i64 (n : Int)] w fun e w' => (∃ p : Nat, e = .returned (.int .i64 (p : Int)) ∧ p ≤ 311 ∧ n < cnt p ∧ ∀ q, q < p → cnt q ≤ n) ∧ w' = w := by
  have H311 := hid cnt_311
  go_enter Tryd.func11, Tryd.ntmps11
  go_wp2_with fail
  go_loopw [3, 4] (fun pv kv wx => ∃ (p c : Nat), 1 ≤ p ∧ p ≤ 311 ∧ pv = .int .i64 (p : Int) ∧ kv = .int .i64 ((c : Int) - 1) ∧ c ≤ 64 ∧ Hid (c = cnt p) ∧ Hid (∀ q, q < p → cnt q ≤ n) ∧ wx = w) (fun pv _ _ => 312 - (intOf pv).toNat)
  case atStart => exact ⟨1, 0, by omega, by omega, rfl, rfl, by omega, (by show _ = _; rfl), (show ∀ q, q < 1 → cnt q ≤ n from fun q hq => by rw [show q = 0 from by omega]; exact Nat.zero_le _), (by first | rfl | trivial)⟩
  case round =>
    obtain ⟨p, c, hp1, hp, rfl, rfl, hc, HC, HQ, rfl⟩ := hrel
    by_cases hcn : c ≤ n
    · have hk : (c : Int) - 1 < (n : Int) := by omega
      have hp2 : p < 311 := by
        rcases Nat.lt_or_ge p 311 with h | h
        · exact h
        · exfalso
          have : p = 311 := by omega
          have e := HC.out
          rw [this, H311.out] at e
          omega
      go_wp2_with fail
      go_loopw [5, 6] (fun bv dv wx => ∃ (d : Nat) (b : Bool), 2 ≤ d ∧ (d ≤ p + 1 ∨ d = 2) ∧ bv = .bool b ∧ dv = .int .i64 (d : Int) ∧ Hid (b = noDiv (p + 1) d) ∧ wx = wr) (fun _ dv _ => p + 1 - (intOf dv).toNat)
      case atStart => exact ⟨2, true, by omega, .inr rfl, rfl, rfl, (noDiv_two _).symm, (by first | rfl | trivial)⟩
      case round =>
        obtain ⟨d, b, hd2, hdp, rfl, rfl, HD, rfl⟩ := hrel
        by_cases hlt : d < p + 1
        · have hdz : ¬ ((d : Int) = 0) := by omega
          have HND : Hid (noDiv (p + 1) (d + 1) = (b && decide ((p + 1) % d ≠ 0))) := by
            show _ = _
            rw [noDiv, ← HD.out]
            have : decide (d < 2) = false := by simp; omega
            rw [this, Bool.false_or]
          cases b
          · go_wp2_with fail
            go_roundw
            case rel => exact ⟨d + 1, false, by omega, .inl (by omega), rfl, by go_num, (by show _ = _; rw [HND.out]; rfl), (by first | rfl | trivial)⟩
            case measure => simp [intOf]; omega
          · by_cases hm : (p + 1) % d = 0
            · have hmi : ((p : Int) + 1) % (d : Int) = 0 := by
                have : ((p + 1 : Nat) : Int) % (d : Int) = (((p + 1) % d : Nat) : Int) := by simp
                rw [hm] at this; simpa using this
              go_wp2_with fail
              go_roundw
              case rel => exact ⟨d + 1, false, by omega, .inl (by omega), (by first | rfl | simp), by go_num, (by show _ = _; rw [HND.out, hm]; rfl), (by first | rfl | trivial)⟩
              case measure => simp [intOf]; omega
            · have hmi : ¬ (((p : Int) + 1) % (d : Int) = 0) := by
                have : ((p + 1 : Nat) : Int) % (d : Int) = (((p + 1) % d : Nat) : Int) := by simp
                intro h
                apply hm
                have h2 : ((p + 1 : Nat) : Int) % (d : Int) = 0 := by simpa using h
                omega
              go_wp2_with fail
              go_roundw
              case rel => exact ⟨d + 1, true, by omega, .inl (by omega), (by first | rfl | simp [hmi]), by go_num, (by show _ = _; rw [HND.out]; simp [hm]), (by first | rfl | trivial)⟩
              case measure => simp [intOf]; omega
        · have hde : d = p + 1 := by omega
          have HI : Hid (b = isP (p + 1)) := by show _ = _; rw [HD.out, hde]; rfl
          have HC1 : Hid (cnt (p + 1) = c + (if b = true then 1 else 0)) := by
            show _ = _
            rw [cnt, ← HC.out, ← HI.out]
            cases b <;> simp
            omega
          have HQ1 : Hid (∀ q, q < p + 1 → cnt q ≤ n) := fun q hq => by
            rcases Nat.lt_or_ge q p with h | h
            · exact HQ.out q h
            · rw [show q = p from by omega, ← HC.out]; exact hcn
          cases b
          · go_wp2_with fail
            go_roundw
            case rel => exact ⟨p + 1, c, by omega, by omega, by go_num, rfl, hc, (by show _ = _; rw [HC1.out]; rfl), HQ1, (by first | rfl | trivial)⟩
            case measure => simp [intOf]; omega
          · go_wp2_with fail
            go_roundw
            case rel => exact ⟨p + 1, c + 1, by omega, by omega, by go_num, (by first | rfl | (congr 1; omega)), by omega, (by show _ = _; rw [HC1.out]; rfl), HQ1, (by first | rfl | trivial)⟩
            case measure => simp [intOf]; omega
    · have hk : ¬ ((c : Int) - 1 < (n : Int)) := by omega
      go_wp2_with fail
      go_ret
      exact ⟨⟨p, rfl, hp, by rw [← HC.out]; omega, HQ.out⟩, rfl⟩

end Go.Proofs.YtggbianodoneeaaDoor
