
/- How many bytes pieces have: what the reference's Total and the statements' light do. -/
import Derived.Test.YtlgfepaicgnkpaaDoorChEnc
namespace Go.Proofs.YtlgfepaicgnkpaaDoor
set_option linter.unusedVariables false
set_option linter.unusedSimpArgs false
open Go.RowKit Go.BigFrame

set_option maxHeartbeats 1000000 in
set_option maxRecDepth 100000 in
theorem total_any (l : List (List UInt8)) (A : Option Addr) (n c : Nat) (hn : l.length = n) (hn2 : n ≤ 281474976710656) (w : World) (hP : PcsAt w A l) : Calls Tryd.prog 9 #[.slice A n c] w fun e w' => ∃ T : Nat, e = .returned (.int .i64 T) ∧ (l.flatten.length ≤ 32768 → T = l.flatten.length) ∧ (32768 < l.flatten.length → 32768 < T) ∧ w' = w := by
  have HP := hid hP
  have HN := hid hn
  have HFS := hid (fl_step l)
  have HFL := hid (fl_le l)
  have HFA := hid (fl_all l)
  rw [hn] at HFS HFA
  generalize l.flatten.length = FL at HFL HFA ⊢
  clear hP hn
  go_enter Tryd.func9, Tryd.ntmps9
  go_wp2_with fail
  go_loop [3, 4] (fun v i => ∃ k : Nat, k ≤ n ∧ i = .int .i64 (k : Int) ∧ ∃ m : Nat, m ≤ 281474976743424 ∧ v = .int .i64 (m : Int) ∧ Hid (m = (l.take k).flatten.length)) (fun v i => n - (intOf i).toNat)
  case atStart => exact ⟨0, Nat.zero_le _, rfl, 0, by omega, rfl, rfl⟩
  case round =>
    obtain ⟨k, hk, rfl, m, hm, rfl, HM⟩ := hrel
    by_cases hkn : k < n
    · obtain ⟨q, o, rfl, hq, hcc⟩ := HP.out (by rw [HN.out]; omega)
      obtain ⟨B, cB, h1, _, h3, h4⟩ := hcc k (by rw [HN.out]; omega)
      have HST := hid (HFS.out k hkn)
      have HLE := hid (HFL.out k)
      generalize (l.getD k []).length = p at h1 h3 h4 HST
      clear hcc
      by_cases hp : m ≤ 32768
      · have hp1 : (m : Int) ≤ 32768 := by omega
        go_wp2_with fail
        go_round
        case rel => exact ⟨k + 1, by omega, by go_num, m + p, by omega, by go_num, by show _ = _; rw [HST.out, ← HM.out]⟩
        case measure => simp [intOf]; omega
      · have hp1 : ¬ (m : Int) ≤ 32768 := by omega
        go_wp2_with fail
        go_ret
        exact ⟨m, rfl, fun h => by have := HLE.out; rw [← HM.out] at this; omega, fun _ => by omega, rfl⟩
    · obtain rfl : k = n := by omega
      go_wp2_with fail
      go_ret
      exact ⟨m, rfl, fun h => by rw [← HFA.out, ← HM.out], fun h => by rw [← HFA.out, ← HM.out] at h; exact h, rfl⟩
def lightC (l : List (List UInt8)) : Bool := decide (l.length ≤ 100) && decide (l.flatten.length ≤ 6000)
theorem light10_any (l : List (List UInt8)) (A : Option Addr) (n c : Nat) (hn : l.length = n) (hn2 : n ≤ 281474976710656) (w : World) (hP : PcsAt w A l) : Calls Tryd.prog 11 #[.slice A n c] w fun e w' => e = .returned (.bool (lightC l)) ∧ w' = w := by
  have HT := hid (total_any l A n c hn hn2 w hP)
  have HL : Hid (lightC l = (decide (n ≤ 100) && decide (l.flatten.length ≤ 6000))) := by show _ = _; unfold lightC; rw [hn]
  generalize lightC l = R at HL ⊢
  generalize l.flatten.length = FL at HL HT
  clear hP hn
  by_cases h1 : n ≤ 100
  · have h2 : (n : Int) ≤ 100 := by omega
    go_enter Tryd.func11, Tryd.ntmps11
    go_wp2_with fail
    refine HT.out.mono ?_
    rintro e W1 ⟨T, rfl, t1, t2, rfl⟩
    have HRE : Hid (R = decide ((T : Int) ≤ 6000)) := by
      show _ = _
      rw [HL.out, decide_eq_true h1, Bool.true_and]
      refine decide_eq_decide.2 ?_
      rcases Nat.lt_or_ge 32768 FL with h | h
      · have := t2 h; omega
      · have := t1 h; omega
    clear t1 t2 HL
    go_wp2_with fail
    go_ret
    exact ⟨by rw [HRE.out]; rfl, rfl⟩
  · have h2 : ¬ (n : Int) ≤ 100 := by omega
    have HRE : Hid (R = false) := by show _ = _; rw [HL.out, decide_eq_false h1]; rfl
    go_enter Tryd.func11, Tryd.ntmps11
    go_wp2_with fail
    go_ret
    exact ⟨by rw [HRE.out]; rfl, rfl⟩
end Go.Proofs.YtlgfepaicgnkpaaDoor
