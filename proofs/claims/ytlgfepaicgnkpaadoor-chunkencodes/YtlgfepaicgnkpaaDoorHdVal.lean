
/- Which texts are values, which headers may be: what isValue and mayBe of package header do, and the reference's blank and May. -/
import Derived.Test.YtlgfepaicgnkpaaDoorHdTok
namespace Go.Proofs.YtlgfepaicgnkpaaDoor
set_option linter.unusedVariables false
set_option linter.unusedSimpArgs false
open Go.RowKit Go.BigFrame

theorem tl_two (x y : List UInt8) : ((asS x).toList == (asS y).toList) = decide (x = y) := by
  rw [show (asS y).toList = y from by rw [ByteArray.toList_eq]; rfl]
  exact tl_eq x y
theorem u8_beq (x : UInt8) (n : Nat) (hn : n < 256) : ((x.toNat : Int) == (n : Int)) = (x == UInt8.ofNat n) := by
  by_cases h : x = UInt8.ofNat n
  · subst h
    have : (UInt8.ofNat n).toNat = n := by simp; omega
    rw [this]; simp
  · have : ¬ x.toNat = n := fun e => h (UInt8.toNat_inj.1 (by rw [e]; simp; omega))
    rw [beq_eq_false_iff_ne.2 h, beq_eq_false_iff_ne]
    omega
theorem trim9_any (l : List UInt8) (hl : l.length ≤ 1000000000) (w : World) : Calls Tryd.prog 46 #[.string (asS l), .string ⟨#[32, 9]⟩] w fun e w' => e = .returned (.string (asS (trimH l))) ∧ Below w.heap.size w w' := by
  have := Tryd.strings_Trim_laid (asS l) ⟨#[32, 9]⟩ w (by rw [asS_size]; omega) (by decide) (ascii_of_all (by decide))
  rw [show (⟨(Lib.trimS (asS l).data.toList (⟨#[32, 9]⟩ : ByteArray).data.toList).toArray⟩ : ByteArray) = asS (trimH l) from by rw [← trim_lib]; rfl] at this
  exact this
theorem blank_any (c : UInt8) (w : World) : Calls Tryd.prog 48 #[.int .u8 c.toNat] w fun e w' => e = .returned (.bool (blankH c)) ∧ w' = w := by
  have h1 : ((c.toNat : Int) == 32) = (c == 32) := u8_beq c 32 (by decide)
  have h2 : ((c.toNat : Int) == 9) = (c == 9) := u8_beq c 9 (by decide)
  have HB : Hid (blankH c = (c == 32 || c == 9)) := rfl
  generalize blankH c = R at HB ⊢
  generalize (c == 32) = x at h1 HB
  generalize (c == 9) = y at h2 HB
  cases x
  · cases y
    · go_enter Tryd.func48, Tryd.ntmps48
      go_wp2_with fail
      go_ret
      exact ⟨by rw [HB.out]; rfl, rfl⟩
    · go_enter Tryd.func48, Tryd.ntmps48
      go_wp2_with fail
      go_ret
      exact ⟨by rw [HB.out]; rfl, rfl⟩
  · go_enter Tryd.func48, Tryd.ntmps48
    go_wp2_with fail
    go_ret
    exact ⟨by rw [HB.out]; rfl, rfl⟩
def okH (c : UInt8) : Bool := !badH c
theorem value_def (v : List UInt8) : valueH v = (v.all okH && decide (v = trimH v)) := by
  rw [trim_iff, ← Bool.and_assoc]; rfl
theorem ok_cases (x : UInt8) : (okH x = false ∧ (((x.toNat : Int) < 32 ∧ ((x.toNat : Int) == 9) = false) ∨ (¬ (x.toNat : Int) < 32 ∧ ((x.toNat : Int) == 127) = true))) ∨ (okH x = true ∧ (((x.toNat : Int) < 32 ∧ ((x.toNat : Int) == 9) = true ∧ ((x.toNat : Int) == 127) = false) ∨ (¬ (x.toNat : Int) < 32 ∧ ((x.toNat : Int) == 127) = false))) := by
  have h1 : ((x.toNat : Int) == 127) = (x == 127) := u8_beq x 127 (by decide)
  have h2 : ((x.toNat : Int) == 9) = (x == 9) := u8_beq x 9 (by decide)
  have e : okH x = !(x == 127 || (decide (x.toNat < 32) && !(x == 9))) := rfl
  rw [e, h1, h2]
  by_cases h : x.toNat < 32
  · have h3 : (x == 127) = false := by rw [beq_eq_false_iff_ne]; rintro rfl; revert h; decide
    have hi : (x.toNat : Int) < 32 := by omega
    rw [decide_eq_true h, h3]
    cases x == 9
    · exact .inl ⟨rfl, .inl ⟨hi, rfl⟩⟩
    · exact .inr ⟨rfl, .inl ⟨hi, rfl, rfl⟩⟩
  · have hi : ¬ (x.toNat : Int) < 32 := by omega
    rw [decide_eq_false h]
    cases x == 127
    · exact .inr ⟨rfl, .inr ⟨hi, rfl⟩⟩
    · exact .inl ⟨rfl, .inr ⟨hi, rfl⟩⟩
set_option maxHeartbeats 1000000 in
set_option maxRecDepth 100000 in
theorem isValue_any (l : List UInt8) (hl : l.length ≤ 1000000000) (w : World) : Calls Tryd.prog 75 #[.string (asS l)] w fun e w' => e = .returned (.bool (valueH l)) ∧ Below w.heap.size w w' := by
  have HIX := hid (fun k h W => str_ix (asS l) k h W)
  have HLN : Hid ((asS l).size = l.length) := asS_size l
  have HTR := hid (fun W => trim9_any l hl W)
  have HE := tl_two l (trimH l)
  have HT := hid (value_def l)
  have hsz : (asS l).size ≤ 1000000000 := by rw [asS_size]; exact hl
  rw [asS_data] at HIX
  generalize valueH l = R at HT ⊢
  generalize asS l = S at HIX HLN HE hsz HTR ⊢
  generalize asS (trimH l) = TR at HE HTR
  go_enter Tryd.func75, Tryd.ntmps75
  go_wp2_with fail
  go_loop [7] (fun i => ∃ k : Nat, k ≤ S.size ∧ i = .int .i64 (k : Int) ∧ Hid (∀ j, j < k → okH (l.getD j 0) = true)) (fun i => S.size - (intOf i).toNat)
  case atStart => exact ⟨0, Nat.zero_le _, rfl, fun j hj => by omega⟩
  case round =>
    obtain ⟨k, hk, rfl, HP⟩ := hrel
    by_cases hlt : k < S.size
    · have hi : (k : Int) < (S.size : Int) := by omega
      have hix := HIX.out k hlt
      generalize hx : l.getD k 0 = x at hix
      rcases ok_cases x with ⟨ho, hc⟩ | ⟨ho, hc⟩
      · have HX : Hid (R = false) := by
          show _ = _
          rw [HT.out, not_all okH l k (by rw [← HLN.out]; exact hlt) (by rw [hx]; exact ho)]
          rfl
        clear hx ho HE
        rcases hc with ⟨h1, h2⟩ | ⟨h1, h2⟩
        · have h4 : ((x.toNat : Int) != 9) = true := by rw [bne, h2]; rfl
          go_wp2_with fail
          go_ret
          exact ⟨by rw [HX.out]; rfl, Below.refl _ _⟩
        · go_wp2_with fail
          go_ret
          exact ⟨by rw [HX.out]; rfl, Below.refl _ _⟩
      · have HX : Hid (okH (l.getD k 0) = true) := by show _ = _; rw [hx]; exact ho
        clear hx ho HE
        rcases hc with ⟨h1, h2, h3⟩ | ⟨h1, h2⟩
        · have h4 : ((x.toNat : Int) != 9) = false := by rw [bne, h2]; rfl
          go_wp2_with fail
          go_round
          case rel => exact ⟨k + 1, by omega, by go_num, step_all okH l k HP.out HX.out⟩
          case measure => simp [intOf]; omega
        · go_wp2_with fail
          go_round
          case rel => exact ⟨k + 1, by omega, by go_num, step_all okH l k HP.out HX.out⟩
          case measure => simp [intOf]; omega
    · have hi : ¬ (k : Int) < (S.size : Int) := by omega
      have HR : Hid (R = decide (l = trimH l)) := by
        show _ = _
        rw [HT.out, all_of okH l k (by rw [← HLN.out]; omega) HP.out]
        rfl
      clear HT
      generalize decide (l = trimH l) = Z at HE HR
      go_wp2_with fail
      refine (HTR.out _).mono ?_
      rintro e W ⟨rfl, hb⟩
      have HB := hid hb
      clear hb
      go_wp2_with fail
      go_ret
      exact ⟨by rw [HR.out]; rfl, HB.out⟩
theorem may_def (h : HdV) : mayH h = (valueH h.value && tokenH h.name) := rfl
set_option maxHeartbeats 1000000 in
set_option maxRecDepth 100000 in
theorem mayBe_any (h : HdV) (h1 : h.name.length ≤ 1000000000) (h2 : h.value.length ≤ 1000000000) (w : World) : Calls Tryd.prog 47 #[.agg (hcs h)] w fun e w' => e = .returned (.bool (mayH h)) ∧ Below w.heap.size w w' := by
  have HT := hid (fun W => token_any h.name h1 W)
  have HV := hid (fun W => isValue_any h.value h2 W)
  have HM := hid (may_def h)
  unfold hcs
  generalize mayH h = R at HM ⊢
  generalize asS h.name = N at HT ⊢
  generalize asS h.value = V at HV ⊢
  generalize tokenH h.name = t at HT HM
  generalize valueH h.value = v at HV HM
  cases t
  · go_enter Tryd.func47, Tryd.ntmps47
    go_wp2_with fail
    refine (HT.out _).mono ?_
    rintro e W ⟨rfl, rfl⟩
    go_wp2_with fail
    go_ret
    exact ⟨by rw [HM.out]; cases v <;> rfl, alloc_below (Below.refl _ _) (Nat.le_refl _) _⟩
  · go_enter Tryd.func47, Tryd.ntmps47
    go_wp2_with fail
    refine (HT.out _).mono ?_
    rintro e W ⟨rfl, rfl⟩
    go_wp2_with fail
    refine (HV.out _).mono ?_
    rintro e W ⟨rfl, hb⟩
    have HB := hid ((alloc_below (Below.refl _ w) (Nat.le_refl _) _).trans (hb.mono (by simp)))
    clear hb
    go_wp2_with fail
    go_ret
    exact ⟨by rw [HM.out]; cases v <;> rfl, HB.out⟩
end Go.Proofs.YtlgfepaicgnkpaaDoor
