
/- Which headers may be: what the reference's May does. -/
import Derived.Test.YtlgfepaicgnkpaaDoorHdVal
namespace Go.Proofs.YtlgfepaicgnkpaaDoor
set_option linter.unusedVariables false
set_option linter.unusedSimpArgs false
open Go.RowKit Go.BigFrame

theorem head_at (v : List UInt8) : v.headD 0 = v.getD 0 0 := by cases v <;> rfl
theorem last_at (v : List UInt8) : v.getLastD 0 = v.getD (v.length - 1) 0 := by
  rcases List.eq_nil_or_concat v with rfl | ⟨x, d, rfl⟩
  · rfl
  · simp
/-- Byte k of a value is as it may be. -/
def okE (v : List UInt8) (k : Nat) : Prop := okH (v.getD k 0) = true ∧ ((k = 0 ∨ k + 1 = v.length) → blankH (v.getD k 0) = false)
theorem val_yes (v : List UInt8) (k : Nat) (hk : v.length ≤ k) (h : ∀ j, j < k → okE v j) : valueH v = true := by
  show (v.all okH && !blankH (v.headD 0) && !blankH (v.getLastD 0)) = true
  rw [all_of okH v k hk (fun j hj => (h j hj).1), head_at, last_at]
  by_cases h0 : v.length = 0
  · obtain rfl := List.length_eq_zero_iff.1 h0
    rfl
  · rw [(h 0 (by omega)).2 (.inl rfl), (h (v.length - 1) (by omega)).2 (.inr (by omega))]
    rfl
theorem val_bad (v : List UInt8) (k : Nat) (hk : k < v.length) (h : okH (v.getD k 0) = false) : valueH v = false := by
  show (v.all okH && !blankH (v.headD 0) && !blankH (v.getLastD 0)) = false
  rw [not_all okH v k hk h]; rfl
theorem val_end (v : List UInt8) (k : Nat) (hk : k = 0 ∨ k + 1 = v.length) (h : blankH (v.getD k 0) = true) : valueH v = false := by
  show (v.all okH && !blankH (v.headD 0) && !blankH (v.getLastD 0)) = false
  rw [head_at, last_at]
  rcases hk with rfl | hk
  · rw [h]; simp
  · rw [show v.length - 1 = k from by omega, h]; simp
theorem step_okE (v : List UInt8) (k : Nat) (h : ∀ j, j < k → okE v j) (hk : okE v k) : ∀ j, j < k + 1 → okE v j := fun j hj => by
  rcases Nat.lt_succ_iff_lt_or_eq.1 hj with h1 | rfl
  · exact h j h1
  · exact hk
theorem ok_more (x : UInt8) (h : (x.toNat : Int) < 32) : ((x.toNat : Int) == 127) = false := by rw [beq_eq_false_iff_ne]; omega
set_option maxHeartbeats 4000000 in
set_option maxRecDepth 100000 in
theorem refMay_any (h : HdV) (h1 : h.name.length ≤ 1000000000) (h2 : h.value.length ≤ 1000000000) (w : World) : Calls Tryd.prog 49 #[.agg (hcs h)] w fun e w' => e = .returned (.bool (mayH h)) ∧ Below w.heap.size w w' := by
  obtain ⟨nm, v⟩ := h
  simp only at h1 h2
  have HIX := hid (fun k hk W => str_ix (asS v) k hk W)
  have HLN : Hid ((asS v).size = v.length) := asS_size v
  have HTK := hid (fun W => refToken_any nm h1 W)
  have HT : Hid (mayH ⟨nm, v⟩ = (valueH v && tokenH nm)) := rfl
  have hsz : (asS v).size ≤ 1000000000 := by rw [asS_size]; exact h2
  rw [asS_data] at HIX
  unfold hcs
  generalize mayH ⟨nm, v⟩ = R at HT ⊢
  generalize asS v = S at HIX HLN hsz ⊢
  generalize asS nm = N at HTK ⊢
  generalize tokenH nm = tk at HTK HT
  go_enter Tryd.func49, Tryd.ntmps49
  go_wp2_with fail
  have HW0 : Hid (Below w.heap.size w (w.alloc (.cells #[.string N, .string S] 67))) := alloc_below (Below.refl _ _) (Nat.le_refl _) _
  have HW1 : Hid ((w.alloc (.cells #[.string N, .string S] 67)).cell? ⟨w.heap.size, 0, none⟩ = some (.string N)) := cell_of_row _ _ _ _ _ _ (heap_alloc_new w _)
  generalize w.alloc (.cells #[.string N, .string S] 67) = W0 at HW0 HW1 ⊢
  go_loop [4] (fun i => ∃ k : Nat, k ≤ S.size ∧ i = .int .i64 (k : Int) ∧ Hid (∀ j, j < k → okE v j)) (fun i => S.size - (intOf i).toNat)
  case atStart => exact ⟨0, Nat.zero_le _, rfl, fun j hj => by omega⟩
  case round =>
    obtain ⟨k, hk, rfl, HP⟩ := hrel
    by_cases hlt : k < S.size
    · have hi : (k : Int) < (S.size : Int) := by omega
      have hix := HIX.out k hlt
      have HLT : Hid (k < v.length) := by show _ < _; rw [← HLN.out]; exact hlt
      generalize hx : v.getD k 0 = x at hix
      rcases ok_cases x with ⟨ho, hc⟩ | ⟨ho, hc⟩
      · have HX : Hid (R = false) := by
          show _ = _
          rw [HT.out, val_bad v k HLT.out (by rw [hx]; exact ho)]
          rfl
        clear hx ho
        rcases hc with ⟨h1, h2⟩ | ⟨h1, h2⟩
        · have h3 := ok_more x h1
          have h4 : ((x.toNat : Int) != 9) = true := by rw [bne, h2]; rfl
          go_wp2_with fail
          go_ret
          exact ⟨by rw [HX.out]; rfl, HW0.out⟩
        · go_wp2_with fail
          go_ret
          exact ⟨by rw [HX.out]; rfl, HW0.out⟩
      · have HO : Hid (okH (v.getD k 0) = true) := by show _ = _; rw [hx]; exact ho
        have HBL := hid (fun W => blank_any x W)
        have HXE : Hid (blankH (v.getD k 0) = blankH x) := by show _ = _; rw [hx]
        clear hx ho
        generalize blankH x = bl at HBL HXE
        obtain ⟨A, HA, hc⟩ : ∃ A : Bool, Hid (A = true) ∧ (((x.toNat : Int) < 32 ∧ ((x.toNat : Int) != 9) = false ∧ ((x.toNat : Int) == 127) = false) ∨ (¬ (x.toNat : Int) < 32 ∧ ((x.toNat : Int) == 127) = false)) := ⟨true, rfl, by
          rcases hc with ⟨h1, h2, h3⟩ | ⟨h1, h2⟩
          · exact .inl ⟨h1, by rw [bne, h2]; rfl, h3⟩
          · exact .inr ⟨h1, h2⟩⟩
        clear HA
        rcases Nat.eq_zero_or_pos k with hk0 | hk0
        · have HE : Hid (k = 0 ∨ k + 1 = v.length) := .inl hk0
          have hz : ((k : Int) == 0) = true := by rw [hk0]; rfl
          clear hk0
          cases bl
          · have HK : Hid (okE v k) := ⟨HO.out, fun _ => HXE.out⟩
            rcases hc with ⟨h1, h2, h3⟩ | ⟨h1, h2⟩
            · go_wp2_with fail
              refine (HBL.out _).mono ?_
              rintro e W ⟨rfl, rfl⟩
              go_wp2_with fail
              go_round
              case rel => exact ⟨k + 1, by omega, by go_num, step_okE v k HP.out HK.out⟩
              case measure => simp [intOf]; omega
            · go_wp2_with fail
              refine (HBL.out _).mono ?_
              rintro e W ⟨rfl, rfl⟩
              go_wp2_with fail
              go_round
              case rel => exact ⟨k + 1, by omega, by go_num, step_okE v k HP.out HK.out⟩
              case measure => simp [intOf]; omega
          · have HX : Hid (R = false) := by
              show _ = _
              rw [HT.out, val_end v k HE.out HXE.out]
              rfl
            rcases hc with ⟨h1, h2, h3⟩ | ⟨h1, h2⟩
            · go_wp2_with fail
              refine (HBL.out _).mono ?_
              rintro e W ⟨rfl, rfl⟩
              go_wp2_with fail
              go_ret
              exact ⟨by rw [HX.out]; rfl, HW0.out⟩
            · go_wp2_with fail
              refine (HBL.out _).mono ?_
              rintro e W ⟨rfl, rfl⟩
              go_wp2_with fail
              go_ret
              exact ⟨by rw [HX.out]; rfl, HW0.out⟩
        · have hz : ((k : Int) == 0) = false := by rw [beq_eq_false_iff_ne]; omega
          by_cases hkl : k + 1 = S.size
          · have HE : Hid (k = 0 ∨ k + 1 = v.length) := .inr (by rw [← HLN.out]; exact hkl)
            have hz2 : ((k : Int) == (S.size : Int) - 1) = true := by rw [beq_iff_eq]; omega
            clear hk0 hkl
            cases bl
            · have HK : Hid (okE v k) := ⟨HO.out, fun _ => HXE.out⟩
              rcases hc with ⟨h1, h2, h3⟩ | ⟨h1, h2⟩
              · go_wp2_with fail
                refine (HBL.out _).mono ?_
                rintro e W ⟨rfl, rfl⟩
                go_wp2_with fail
                go_round
                case rel => exact ⟨k + 1, by omega, by go_num, step_okE v k HP.out HK.out⟩
                case measure => simp [intOf]; omega
              · go_wp2_with fail
                refine (HBL.out _).mono ?_
                rintro e W ⟨rfl, rfl⟩
                go_wp2_with fail
                go_round
                case rel => exact ⟨k + 1, by omega, by go_num, step_okE v k HP.out HK.out⟩
                case measure => simp [intOf]; omega
            · have HX : Hid (R = false) := by
                show _ = _
                rw [HT.out, val_end v k HE.out HXE.out]
                rfl
              rcases hc with ⟨h1, h2, h3⟩ | ⟨h1, h2⟩
              · go_wp2_with fail
                refine (HBL.out _).mono ?_
                rintro e W ⟨rfl, rfl⟩
                go_wp2_with fail
                go_ret
                exact ⟨by rw [HX.out]; rfl, HW0.out⟩
              · go_wp2_with fail
                refine (HBL.out _).mono ?_
                rintro e W ⟨rfl, rfl⟩
                go_wp2_with fail
                go_ret
                exact ⟨by rw [HX.out]; rfl, HW0.out⟩
          · have hz2 : ((k : Int) == (S.size : Int) - 1) = false := by rw [beq_eq_false_iff_ne]; omega
            have HK : Hid (okE v k) := ⟨HO.out, fun h => by
              exfalso
              have := HLN.out
              omega⟩
            clear hk0 hkl
            rcases hc with ⟨h1, h2, h3⟩ | ⟨h1, h2⟩
            · go_wp2_with fail
              go_round
              case rel => exact ⟨k + 1, by omega, by go_num, step_okE v k HP.out HK.out⟩
              case measure => simp [intOf]; omega
            · go_wp2_with fail
              go_round
              case rel => exact ⟨k + 1, by omega, by go_num, step_okE v k HP.out HK.out⟩
              case measure => simp [intOf]; omega
    · have hi : ¬ (k : Int) < (S.size : Int) := by omega
      have HR : Hid (R = tk) := by
        show _ = _
        rw [HT.out, val_yes v k (by rw [← HLN.out]; omega) HP.out]
        rfl
      have hc0 := HW1.out
      go_wp2_with fail
      refine (HTK.out _).mono ?_
      rintro e W ⟨rfl, rfl⟩
      go_wp2_with fail
      go_ret
      exact ⟨by rw [HR.out]; rfl, HW0.out⟩
end Go.Proofs.YtlgfepaicgnkpaaDoor
