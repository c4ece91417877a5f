
/- The reader: how many bytes stand for themselves; digits. -/
import Derived.Test.YtlgkbdebpnbndaaGreatDoorJsTake
namespace Go.Proofs.YtlgkbdebpnbndaaGreatDoor
set_option linter.unusedVariables false
set_option linter.unusedSimpArgs false
open Go.RowKit Go.BigFrame
attribute [local go_sem ↓] mkErr

theorem drop_tw (p : UInt8 → Bool) (l : List UInt8) : l.drop (l.takeWhile p).length = l.dropWhile p := by
  have h := List.takeWhile_append_dropWhile (p := p) (l := l)
  have h2 : (l.takeWhile p ++ l.dropWhile p).drop (l.takeWhile p).length = l.dropWhile p := List.drop_left
  rw [h] at h2
  exact h2
theorem take_tw (p : UInt8 → Bool) (l : List UInt8) : l.take (l.takeWhile p).length = l.takeWhile p := by
  have h := List.takeWhile_append_dropWhile (p := p) (l := l)
  have h2 : (l.takeWhile p ++ l.dropWhile p).take (l.takeWhile p).length = l.takeWhile p := List.take_left
  rw [h] at h2
  exact h2
theorem tw_le (p : UInt8 → Bool) (l : List UInt8) : (l.takeWhile p).length ≤ l.length := (List.takeWhile_prefix p).length_le
theorem u8_beq (c : UInt8) (k : Nat) (hk : k < 256) : (((c.toNat : Nat) : Int) == (k : Int)) = decide (c = UInt8.ofNat k) := by
  rw [Bool.eq_iff_iff, beq_iff_eq, decide_eq_true_iff]
  constructor
  · intro h
    rw [← UInt8.ofNat_toNat (x := c), show c.toNat = k by omega]
  · intro h
    rw [h]
    have : (UInt8.ofNat k).toNat = k := by simp; omega
    rw [this]
theorem u8_bne (c : UInt8) (k : Nat) (hk : k < 256) : (((c.toNat : Nat) : Int) != (k : Int)) = !decide (c = UInt8.ofNat k) := by
  rw [bne, u8_beq c k hk]
set_option maxHeartbeats 2000000 in
set_option maxRecDepth 100000 in
theorem plain_j (l : List UInt8) (hl : l.length ≤ 1000000) (w : World) : Calls Tryz.prog 111 #[.string (asS l)] w fun e w' => e = .returned (.int .i64 ((l.takeWhile plnJ).length : Nat)) ∧ w' = w := by
  have HIX := hid (fun k h W => str_ix (asS l) k h W)
  rw [asS_data] at HIX
  have hz : (asS l).size = l.length := asS_size l
  generalize asS l = L at hz HIX ⊢
  have HST := hid (fun k h1 h2 h3 => span_stop (p := plnJ) l k h1 h2 h3)
  generalize hn : l.length = n at hz hl HST
  generalize (l.takeWhile plnJ).length = T at HST ⊢
  clear hn
  go_enter Tryz.func111, Tryz.ntmps111
  go_wp2_with fail
  go_loopw [3] (fun i wr => ∃ k : Nat, k ≤ n ∧ i = .int .i64 (k : Int) ∧ Hid (∀ j, j < k → plnJ (l.getD j 0) = true) ∧ wr = w) (fun i wr => n - (intOf i).toNat)
  case atStart => exact ⟨0, Nat.zero_le _, rfl, (fun j hj => absurd hj (Nat.not_lt_zero _)), rfl⟩
  case round =>
    obtain ⟨k, hk, rfl, HA, rfl⟩ := hrel
    by_cases hlt : k < n
    · have hi : (k : Int) < (L.size : Int) := by omega
      have hix := HIX.out k (by omega)
      have HC : Hid (plnJ (l.getD k 0) = (decide (32 ≤ (l.getD k 0).toNat) && decide (l.getD k 0 ≠ 34) && decide (l.getD k 0 ≠ 92))) := rfl
      have hq1 : (((((l.getD k 0).toNat : Nat) : Int)) != 34) = !decide (l.getD k 0 = 34) := u8_bne (l.getD k 0) 34 (by decide)
      have hq2 : (((((l.getD k 0).toNat : Nat) : Int)) != 92) = !decide (l.getD k 0 = 92) := u8_bne (l.getD k 0) 92 (by decide)
      have HT := hid (fun h => HST.out k hk HA.out (fun _ => h))
      have HN : Hid (plnJ (l.getD k 0) = true → ∀ j, j < k + 1 → plnJ (l.getD j 0) = true) := fun h j hj => by
        rcases Nat.lt_succ_iff_lt_or_eq.1 hj with h2 | h2
        · exact HA.out j h2
        · rw [h2]; exact h
      generalize plnJ (l.getD k 0) = b at HC HT HN
      generalize l.getD k 0 = c at hix HC hq1 hq2
      clear HA HST
      by_cases h32 : 32 ≤ c.toNat
      · have hi32 : (32 : Int) ≤ (c.toNat : Int) := by omega
        by_cases h34 : c = 34
        · have hb : b = false := by rw [HC.out, h34]; rfl
          subst hb
          have ht := HT.out rfl
          rw [decide_eq_true h34, Bool.not_true] at hq1
          clear h34 HC hq2
          subst ht
          go_wp2_with fail
          go_ret
          exact ⟨rfl, rfl⟩
        · rw [decide_eq_false h34, Bool.not_false] at hq1
          by_cases h92 : c = 92
          · have hb : b = false := by rw [HC.out, h92]; rfl
            subst hb
            have ht := HT.out rfl
            rw [decide_eq_true h92, Bool.not_true] at hq2
            clear h92 HC h34
            subst ht
            go_wp2_with fail
            go_ret
            exact ⟨rfl, rfl⟩
          · rw [decide_eq_false h92, Bool.not_false] at hq2
            have hb : b = true := by rw [HC.out, decide_eq_true h32, decide_eq_true h34, decide_eq_true h92]; rfl
            have HN2 := hid (HN.out hb)
            clear h92 HC h34 HT HN hb
            go_wp2_with fail
            go_roundw
            case rel => exact ⟨k + 1, by omega, by go_num, HN2, trivial⟩
            case measure => simp [intOf]; omega
      · have hi32 : ¬ (32 : Int) ≤ (c.toNat : Int) := by omega
        have hb : b = false := by rw [HC.out, decide_eq_false h32]; rfl
        subst hb
        have ht := HT.out rfl
        clear HC hq1 hq2
        subst ht
        go_wp2_with fail
        go_ret
        exact ⟨rfl, rfl⟩
    · have hi : ¬ (k : Int) < (L.size : Int) := by omega
      have ht := HST.out k hk HA.out (fun h => absurd h hlt)
      subst ht
      go_wp2_with fail
      go_ret
      exact ⟨rfl, rfl⟩
theorem digJ_le (c : UInt8) : digJ c = (decide (48 ≤ c.toNat) && decide (c.toNat ≤ 57)) := by
  unfold digJ
  rw [Bool.eq_iff_iff]
  simp
set_option maxHeartbeats 2000000 in
set_option maxRecDepth 100000 in
theorem digits_j (l : List UInt8) (n d R : Nat) (hl : l.length ≤ 1000000) (w : World) (h : Rj w R l n d) : Calls Tryz.prog 115 #[.pointer (some ⟨R, 0, none⟩)] w fun e w' => (∀ r, digsJ l = some r → e = .returned (.tuple #[]) ∧ Rj w' R r n d) ∧ (digsJ l = none → e = dieJ 5) ∧ Only R w w' := by
  have HTK : Hid (∀ k, k = (l.takeWhile digJ).length → (digsJ l = none → Calls Tryz.prog 110 #[.pointer (some ⟨R, 0, none⟩), .int .i64 (k : Nat)] w fun e w' => e = dieJ 5 ∧ w' = w) ∧ (∀ r, digsJ l = some r → Calls Tryz.prog 110 #[.pointer (some ⟨R, 0, none⟩), .int .i64 (k : Nat)] w fun e w' => ∃ s, e = .returned (.string s) ∧ Rj w' R r n d ∧ Only R w w')) := fun k hk => by
    subst hk
    refine ⟨fun hd => ?_, fun r hd => ?_⟩
    · have h0 : (l.takeWhile digJ).length = 0 := by
        unfold digsJ at hd
        split at hd
        · rename_i hn
          simpa using hn
        · cases hd
      rw [h0]
      exact take_none l n d R w h
    · unfold digsJ at hd
      split at hd
      · cases hd
      · rename_i hn
        injection hd with hd
        subst hd
        have h0 : 1 ≤ (l.takeWhile digJ).length := by
          have : (l.takeWhile digJ).length ≠ 0 := fun h0 => hn (by rw [List.isEmpty_iff, List.length_eq_zero_iff.1 h0])
          omega
        refine (take_ok l n d R _ h0 (tw_le _ _) hl w h).mono ?_
        rintro e w' ⟨rfl, h1, h2⟩
        rw [drop_tw] at h1
        exact ⟨_, rfl, h1, h2⟩
  have HIX := hid (fun k h W => str_ix (asS l) k h W)
  rw [asS_data] at HIX
  have hz : (asS l).size = l.length := asS_size l
  obtain ⟨c0, _⟩ := h.cells
  clear h
  generalize asS l = L at hz HIX c0
  have HST := hid (fun k h1 h2 h3 => span_stop (p := digJ) l k h1 h2 h3)
  generalize hn : l.length = n1 at hz hl HST
  generalize (l.takeWhile digJ).length = T at HST HTK
  generalize digsJ l = DJ at HTK ⊢
  clear hn
  have fin : ∀ k : Nat, Hid (k = T) → Hid (Calls Tryz.prog 110 #[.pointer (some ⟨R, 0, none⟩), .int .i64 (k : Nat)] w fun e w' => (∀ r, DJ = some r → (∃ s, e = .returned (.string s)) ∧ Rj w' R r n d) ∧ (DJ = none → e = dieJ 5) ∧ (DJ ≠ none → ∃ s, e = .returned (.string s)) ∧ Only R w w') := fun k hk => by
    obtain ⟨h1, h2⟩ := HTK.out k hk.out
    cases hd : DJ with
    | none =>
      refine (h1 hd).mono ?_
      rintro e w' ⟨rfl, rfl⟩
      exact ⟨(fun r h => by cases h), fun _ => rfl, fun h => absurd rfl h, ⟨rfl, rfl, rfl, rfl, fun _ _ => rfl⟩⟩
    | some r0 =>
      refine (h2 r0 hd).mono ?_
      rintro e w' ⟨s, rfl, h3, h4⟩
      exact ⟨(fun r h => by injection h with h; subst h; exact ⟨⟨s, rfl⟩, h3⟩), (fun h => by cases h), fun _ => ⟨s, rfl⟩, h4⟩
  have FIN := hid fin
  clear fin HTK
  go_enter Tryz.func115, Tryz.ntmps115
  go_wp2_with fail
  go_loopw [2] (fun i wr => ∃ k : Nat, k ≤ n1 ∧ i = .int .i64 (k : Int) ∧ Hid (∀ j, j < k → digJ (l.getD j 0) = true) ∧ wr = w) (fun i wr => n1 - (intOf i).toNat)
  case atStart => exact ⟨0, Nat.zero_le _, rfl, (fun j hj => absurd hj (Nat.not_lt_zero _)), rfl⟩
  case round =>
    obtain ⟨k, hk, rfl, HA, rfl⟩ := hrel
    by_cases hlt : k < n1
    · have hi : (k : Int) < (L.size : Int) := by omega
      have hix := HIX.out k (by omega)
      have HC := hid (digJ_le (l.getD k 0))
      have HT := hid (fun h => HST.out k hk HA.out (fun _ => h))
      have HN : Hid (digJ (l.getD k 0) = true → ∀ j, j < k + 1 → digJ (l.getD j 0) = true) := fun h j hj => by
        rcases Nat.lt_succ_iff_lt_or_eq.1 hj with h2 | h2
        · exact HA.out j h2
        · rw [h2]; exact h
      generalize digJ (l.getD k 0) = b at HC HT HN
      generalize l.getD k 0 = c at hix HC
      clear HA HST
      by_cases h48 : 48 ≤ c.toNat
      · have hi48 : (48 : Int) ≤ (c.toNat : Int) := by omega
        by_cases h57 : c.toNat ≤ 57
        · have hi57 : (c.toNat : Int) ≤ 57 := by omega
          have hb : b = true := by rw [HC.out, decide_eq_true h48, decide_eq_true h57]; rfl
          have HN2 := hid (HN.out hb)
          clear HC HT HN hb FIN
          go_wp2_with fail
          go_roundw
          case rel => exact ⟨k + 1, by omega, by go_num, HN2, trivial⟩
          case measure => simp [intOf]; omega
        · have hi57 : ¬ (c.toNat : Int) ≤ 57 := by omega
          have hb : b = false := by rw [HC.out, decide_eq_false h57, Bool.and_false]
          have HF := FIN.out k (HT.out hb).symm
          clear HC HT HN hb FIN
          go_wp2_with fail
          refine HF.out.mono ?_
          intro e W1 hh
          cases hd : DJ with
          | none =>
            obtain ⟨-, h2, -, h4⟩ := hh
            have h5 := h2 hd
            subst h5
            exact ⟨rfl, (fun r h => by rw [hd] at h; cases h), fun _ => rfl, h4⟩
          | some r0 =>
            obtain ⟨h1, -, -, h4⟩ := hh
            obtain ⟨⟨s, rfl⟩, h3⟩ := h1 r0 hd
            have H3 := hid h3
            have H4 := hid h4
            clear h1 h3 h4
            go_wp2_with fail
            exact ⟨by simp, _, results_none rfl _ _ _, (fun r h => by rw [hd] at h; injection h with h; subst h; exact ⟨rfl, H3.out⟩), (fun h => by rw [hd] at h; cases h), H4.out⟩
      · have hi48 : ¬ (48 : Int) ≤ (c.toNat : Int) := by omega
        have hb : b = false := by rw [HC.out, decide_eq_false h48]; rfl
        have HF := FIN.out k (HT.out hb).symm
        clear HC HT HN hb FIN
        go_wp2_with fail
        refine HF.out.mono ?_
        intro e W1 hh
        cases hd : DJ with
        | none =>
          obtain ⟨-, h2, -, h4⟩ := hh
          have h5 := h2 hd
          subst h5
          exact ⟨rfl, (fun r h => by rw [hd] at h; cases h), fun _ => rfl, h4⟩
        | some r0 =>
          obtain ⟨h1, -, -, h4⟩ := hh
          obtain ⟨⟨s, rfl⟩, h3⟩ := h1 r0 hd
          have H3 := hid h3
          have H4 := hid h4
          clear h1 h3 h4
          go_wp2_with fail
          exact ⟨by simp, _, results_none rfl _ _ _, (fun r h => by rw [hd] at h; injection h with h; subst h; exact ⟨rfl, H3.out⟩), (fun h => by rw [hd] at h; cases h), H4.out⟩
    · have hi : ¬ (k : Int) < (L.size : Int) := by omega
      have HF := FIN.out k (HST.out k hk HA.out (fun h => absurd h hlt)).symm
      clear FIN HST
      go_wp2_with fail
      refine HF.out.mono ?_
      intro e W1 hh
      cases hd : DJ with
      | none =>
        obtain ⟨-, h2, -, h4⟩ := hh
        have h5 := h2 hd
        subst h5
        exact ⟨rfl, (fun r h => by rw [hd] at h; cases h), fun _ => rfl, h4⟩
      | some r0 =>
        obtain ⟨h1, -, -, h4⟩ := hh
        obtain ⟨⟨s, rfl⟩, h3⟩ := h1 r0 hd
        have H3 := hid h3
        have H4 := hid h4
        clear h1 h3 h4
        go_wp2_with fail
        exact ⟨by simp, _, results_none rfl _ _ _, (fun r h => by rw [hd] at h; injection h with h; subst h; exact ⟨rfl, H3.out⟩), (fun h => by rw [hd] at h; cases h), H4.out⟩
end Go.Proofs.YtlgkbdebpnbndaaGreatDoor
