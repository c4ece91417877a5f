
/- A message's first line: what line of the reference does. -/
import Derived.Test.YtclonnpglikddaaGreatDoorHtLine
import Derived.Test.YtclonnpglikddaaGreatDoorHdOne
namespace Go.Proofs.YtclonnpglikddaaGreatDoor
set_option linter.unusedVariables false
set_option linter.unusedSimpArgs false
open Go.RowKit Go.BigFrame

theorem u8_10 (x : UInt8) (h : x ≠ 10) : ((x.toNat : Int) == 10) = false := by
  show ((x.toNat : Int) == ((10 : Nat) : Int)) = false
  rw [u8_beq x 10 (by decide)]; exact beq_eq_false_iff_ne.2 h
theorem u8_13 (x : UInt8) (h : x ≠ 13) : ((x.toNat : Int) == 13) = false := by
  show ((x.toNat : Int) == ((13 : Nat) : Int)) = false
  rw [u8_beq x 13 (by decide)]; exact beq_eq_false_iff_ne.2 h
theorem getD_memL (l : List UInt8) (k : Nat) (h : k < l.length) : l.getD k 0 ∈ l := by
  rw [List.getD_eq_getElem?_getD, List.getElem?_eq_getElem h]; exact List.getElem_mem h
theorem getD_take (l : List UInt8) (m k : Nat) (h : k < m) : (l.take m).getD k 0 = l.getD k 0 := by
  simp [List.getD_eq_getElem?_getD, List.getElem?_take, h]
set_option maxHeartbeats 2000000 in
set_option maxRecDepth 100000 in
theorem refLine_any (b : List UInt8) (A : Option Addr) (c : Nat) (hb : b.length ≤ 1000000) (hc : b.length ≤ c) (w : World) (hA : BytesAt w A b) : Calls Tryz.prog 48 #[.slice A b.length c] w fun e w' => e = .returned (.tuple #[.string (asS (lineM b).1), .int .i64 (lineM b).2.1, .int .i64 (lineM b).2.2]) ∧ w' = w := by
  have HA := hid hA
  clear hA
  rcases first_dec 10 (b.take 4096) with hno | ⟨a, x, hax, hno⟩
  · rw [lineM_no b hno]
    have HNO : Hid (∀ k, k < b.length → k < 4096 → b.getD k 0 ≠ 10) := fun k h1 h2 h3 => hno (by
      rw [← h3, ← getD_take b 4096 k h2]
      exact getD_memL _ _ (by rw [List.length_take]; omega))
    clear hno
    have HAC : Hid (∀ k, k < b.length → ∃ q o, A = some ⟨q, o, none⟩ ∧ w.cell? ⟨q, o + k, none⟩ = some (.int .u8 (b.getD k 0).toNat)) := fun k hk => by
      obtain ⟨q, o, h1, _, h3⟩ := HA.out (by omega)
      exact ⟨q, o, h1, h3 k hk⟩
    clear HA
    generalize hn : b.length = n at hb hc HNO HAC ⊢
    clear hn
    by_cases hlong : 4096 < n
    · rw [if_pos hlong]
      have hl1 : (4096 : Int) < (n : Int) := by omega
      go_enter Tryz.func48, Tryz.ntmps48
      go_wp2_with fail
      go_loop [5] (fun i => ∃ k : Nat, k ≤ 4096 ∧ i = .int .i64 (k : Int)) (fun i => 4096 - (intOf i).toNat)
      case atStart => exact ⟨0, Nat.zero_le _, rfl⟩
      case round =>
        obtain ⟨k, hk, rfl⟩ := hrel
        by_cases hlt : k < 4096
        · obtain ⟨q, o, rfl, hcell⟩ := HAC.out k (by omega)
          have hne := u8_10 _ (HNO.out k (by omega) hlt)
          have h1 : (k : Int) < (n : Int) := by omega
          have h2 : (k : Int) < 4096 := by omega
          generalize ((b.getD k 0).toNat : Int) = y at hcell hne
          go_wp2_with fail
          go_round
          case rel => exact ⟨k + 1, by omega, by go_num⟩
          case measure => simp [intOf]; omega
        · have h1 : (k : Int) < (n : Int) := by omega
          have h2 : ¬ (k : Int) < 4096 := by omega
          go_wp2_with fail
          go_ret3
          exact ⟨rfl, rfl⟩
    · rw [if_neg hlong]
      have hl1 : ¬ (4096 : Int) < (n : Int) := by omega
      go_enter Tryz.func48, Tryz.ntmps48
      go_wp2_with fail
      go_loop [5] (fun i => ∃ k : Nat, k ≤ n ∧ i = .int .i64 (k : Int)) (fun i => n - (intOf i).toNat)
      case atStart => exact ⟨0, Nat.zero_le _, rfl⟩
      case round =>
        obtain ⟨k, hk, rfl⟩ := hrel
        by_cases hlt : k < n
        · obtain ⟨q, o, rfl, hcell⟩ := HAC.out k (by omega)
          have hne := u8_10 _ (HNO.out k (by omega) (by omega))
          have h1 : (k : Int) < (n : Int) := by omega
          have h2 : (k : Int) < 4096 := by omega
          generalize ((b.getD k 0).toNat : Int) = y at hcell hne
          go_wp2_with fail
          go_round
          case rel => exact ⟨k + 1, by omega, by go_num⟩
          case measure => simp [intOf]; omega
        · have h1 : ¬ (k : Int) < (n : Int) := by omega
          go_wp2_with fail
          go_ret3
          exact ⟨rfl, rfl⟩
  · rw [lineM_at b a x hno hax]
    have hal : a.length + 1 ≤ b.length ∧ a.length < 4096 := by
      have := congrArg List.length hax
      rw [List.length_take, List.length_append, List.length_cons] at this
      omega
    have hpre : b.take a.length = a := by
      have h1 : (b.take 4096).take a.length = a := by rw [hax, List.take_left]
      rw [List.take_take, Nat.min_eq_left (by omega)] at h1
      exact h1
    have HNO : Hid (∀ k, k < a.length → b.getD k 0 ≠ 10) := fun k h1 h3 => hno (by
      rw [← h3, ← getD_take b a.length k h1, hpre]
      exact getD_memL _ _ h1)
    have HAT : Hid (b.getD a.length 0 = 10) := by
      show _ = _
      rw [← getD_take b 4096 a.length hal.2, hax]
      simp [List.getD_eq_getElem?_getD]
    obtain ⟨q, o, hq, hqs, hcs⟩ := HA.out (by omega)
    subst hq
    have HCC : Hid (BytesAt w (some ⟨q, o, none⟩) (crH a)) := by
      have h1 := HA.out.take a.length
      rw [hpre] at h1
      have h2 := h1.take (crH a).length
      rw [← cr_take] at h2
      exact h2
    have hst : (convert 23 9 (.slice (some ⟨q, o, none⟩) (crH a).length c)).run Tryz.prog w = .ok (.string (asS (crH a))) w := str_part HCC.out rfl
    have hcl := cr_le a
    have HLAST : Hid (a.length ≠ 0 → b.getD (a.length - 1) 0 = a.getLastD 0) := fun h => by
      rw [← getD_take b a.length (a.length - 1) (by omega), hpre, last_at]
    have HCR : Hid ((crH a).length = if a.getLastD 0 = 13 then a.length - 1 else a.length) := by
      show _ = _
      unfold crH
      by_cases h : a.getLastD 0 = 13
      · rw [if_pos h, if_pos h, List.length_dropLast]
      · rw [if_neg h, if_neg h]
    have HZL : Hid (a.length = 0 → a.getLastD 0 = 0) := fun h => by rw [List.length_eq_zero_iff.1 h]; rfl
    have HCS := hid hcs
    clear HA hno hax hpre hqs hcs HCC
    generalize hcr : (crH a).length = z at hst hcl HCR
    generalize asS (crH a) = CS at hst ⊢
    generalize a.getLastD 0 = la at HLAST HCR HZL
    generalize a.length = al at hal HNO HAT hcl HLAST HCR HZL ⊢
    generalize hn : b.length = n at hb hc hal HCS ⊢
    clear hcr hn
    have hzc : (z : Int) ≤ (c : Int) := by omega
    have hz0 : (0 : Int) ≤ (z : Int) := by omega
    go_enter Tryz.func48, Tryz.ntmps48
    go_wp2_with fail
    go_loop [5] (fun i => ∃ k : Nat, k ≤ al ∧ i = .int .i64 (k : Int)) (fun i => n - (intOf i).toNat)
    case atStart => exact ⟨0, Nat.zero_le _, rfl⟩
    case round =>
      obtain ⟨k, hk, rfl⟩ := hrel
      have h1 : (k : Int) < (n : Int) := by omega
      have h2 : (k : Int) < 4096 := by omega
      have hcell := HCS.out k (by omega)
      by_cases hlt : k < al
      · have hne := u8_10 _ (HNO.out k hlt)
        generalize ((b.getD k 0).toNat : Int) = y at hcell hne
        go_wp2_with fail
        go_round
        case rel => exact ⟨k + 1, by omega, by go_num⟩
        case measure => simp [intOf]; omega
      · obtain rfl : k = al := by omega
        rw [HAT.out] at hcell
        by_cases h0 : k = 0
        · have hz : z = k := by
            rw [HCR.out, HZL.out h0]; rfl
          subst hz
          have h3 : ¬ (0 : Int) < (z : Int) := by omega
          clear h0
          go_wp2_with fail
          go_ret3
          exact ⟨rfl, rfl⟩
        · have h3 : (0 : Int) < (k : Int) := by omega
          have hcell2 := HCS.out (k - 1) (by omega)
          rw [HLAST.out h0] at hcell2
          obtain ⟨j, rfl⟩ : ∃ j, k = j + 1 := ⟨k - 1, by omega⟩
          rw [Nat.add_sub_cancel] at hcell2
          have hj : ((j + 1 : Nat) : Int) - 1 = (j : Int) := by omega
          by_cases h13 : la = 13
          · have hz : z = j := by rw [HCR.out, if_pos h13]; rfl
            subst hz
            have h9 : ((la.toNat : Int) == 13) = true := by rw [h13]; rfl
            generalize (la.toNat : Int) = y at hcell2 h9
            go_wp2_with fail
            go_ret3
            exact ⟨rfl, rfl⟩
          · have hz : z = j + 1 := by rw [HCR.out, if_neg h13]
            subst hz
            have h9 : ((la.toNat : Int) == 13) = false := u8_13 la h13
            generalize (la.toNat : Int) = y at hcell2 h9
            go_wp2_with fail
            go_ret3
            exact ⟨rfl, rfl⟩
end Go.Proofs.YtclonnpglikddaaGreatDoor
