
/- How many bytes a line says there are: what the reference's Size does. -/
import Derived.Test.YtclonnpglikddaaGreatDoorChPU
import Derived.Test.YtclonnpglikddaaGreatDoorHdSmall
namespace Go.Proofs.YtclonnpglikddaaGreatDoor
set_option linter.unusedVariables false
set_option linter.unusedSimpArgs false
open Go.RowKit Go.BigFrame

theorem find_cons (c d : UInt8) (r : List UInt8) : findU [c] (d :: r) = if d = c then 0 else findU [c] r + 1 := by
  unfold findU
  rw [List.findIdx_cons]
  by_cases h : d = c
  · subst h; simp
  · rw [if_neg h]
    simp [h]
theorem drop_atC (l : List UInt8) (j : Nat) (h : j < l.length) : l.drop j = l.getD j 0 :: l.drop (j + 1) := by
  rw [List.drop_eq_getElem_cons h, List.getD_eq_getElem?_getD, List.getElem?_eq_getElem h]; rfl
/-- From the end: j bytes are left, the first sign of a note behind them at e, no carriage return. -/
structure BackC (s : List UInt8) (j e : Nat) : Prop where
  le : j ≤ s.length
  mark : e = j + findU [59] (s.drop j)
  free : (13 : UInt8) ∉ s.drop j
theorem BackC.zero (s : List UInt8) : BackC s s.length s.length := ⟨Nat.le_refl _, by rw [List.drop_length]; rfl, by rw [List.drop_length]; simp⟩
theorem BackC.step {s : List UInt8} {j e : Nat} (h : BackC s (j + 1) e) (h13 : s.getD j 0 ≠ 13) : BackC s j (if s.getD j 0 = 59 then j else e) := by
  have hl := h.le
  have hd := drop_atC s j (by omega)
  refine ⟨by omega, ?_, ?_⟩
  · rw [hd, find_cons]
    by_cases h59 : s.getD j 0 = 59
    · rw [if_pos h59, if_pos h59]; omega
    · rw [if_neg h59, if_neg h59, h.mark]; omega
  · rw [hd, List.mem_cons]
    rintro (hh | hh)
    · exact h13 hh.symm
    · exact h.free hh
theorem BackC.bad {s : List UInt8} {j e : Nat} (h : BackC s (j + 1) e) (h13 : s.getD j 0 = 13) : szC s = -1 := by
  have hl := h.le
  unfold szC
  refine if_pos (.inr (.inl ?_))
  have : s.getD j 0 ∈ s := by rw [List.getD_eq_getElem?_getD, List.getElem?_eq_getElem (by omega)]; exact List.getElem_mem _
  rwa [h13] at this
theorem BackC.le2 {s : List UInt8} {j e : Nat} (h : BackC s j e) : e ≤ s.length := by
  have h1 := h.mark
  have h2 := findU_le [59] (s.drop j)
  have h3 := h.le
  rw [List.length_drop] at h2
  omega
theorem BackC.ge {s : List UInt8} {j e : Nat} (h : BackC s j e) : j ≤ e := by rw [h.mark]; omega
theorem BackC.size {s : List UInt8} {e : Nat} (h : BackC s 0 e) (hs : s.length ≤ 256) : szC s = if e < 1 ∨ 8 < e ∨ (s.take e).all isHx = false then -1 else (valC (s.take e) : Int) := by
  have hm : findU [59] s = e := by have := h.mark; rw [List.drop_zero] at this; omega
  have hf := h.free
  rw [List.drop_zero] at hf
  unfold szC
  rw [hm]
  by_cases hc : e < 1 ∨ 8 < e ∨ (s.take e).all isHx = false
  · rw [if_pos hc, if_pos (.inr (.inr hc))]
  · rw [if_neg hc, if_neg]
    rintro (h1 | h1 | h1)
    · omega
    · exact hf h1
    · exact hc h1
theorem hx_fin : ∀ n : Fin 256, (isHx (UInt8.ofNat n.val) = true → (48 ≤ n.val ∧ n.val ≤ 57 ∧ hxv (UInt8.ofNat n.val) = n.val - 48) ∨ (97 ≤ n.val ∧ n.val ≤ 102 ∧ hxv (UInt8.ofNat n.val) = n.val - 97 + 10) ∨ (65 ≤ n.val ∧ n.val ≤ 70 ∧ hxv (UInt8.ofNat n.val) = n.val - 65 + 10)) ∧ (isHx (UInt8.ofNat n.val) = false → n.val < 48 ∨ (57 < n.val ∧ n.val < 65) ∨ (70 < n.val ∧ n.val < 97) ∨ 102 < n.val) := by decide +kernel
theorem hx_of (c : UInt8) : (isHx c = true → (48 ≤ c.toNat ∧ c.toNat ≤ 57 ∧ hxv c = c.toNat - 48) ∨ (97 ≤ c.toNat ∧ c.toNat ≤ 102 ∧ hxv c = c.toNat - 97 + 10) ∨ (65 ≤ c.toNat ∧ c.toNat ≤ 70 ∧ hxv c = c.toNat - 65 + 10)) ∧ (isHx c = false → c.toNat < 48 ∨ (57 < c.toNat ∧ c.toNat < 65) ∨ (70 < c.toNat ∧ c.toNat < 97) ∨ 102 < c.toNat) := by
  have := hx_fin ⟨c.toNat, c.toNat_lt⟩
  simp only [UInt8.ofNat_toNat] at this
  exact this
set_option maxHeartbeats 4000000 in
set_option maxRecDepth 100000 in
theorem refSizeC_any (s : List UInt8) (hs : s.length ≤ 1000000) (w : World) : Calls Tryz.prog 102 #[.string (asS s)] w fun e w' => e = .returned (.int .i64 (szC s)) ∧ w' = w := by
  have HIX := hid (fun k hk W => str_ix (asS s) k hk W)
  rw [asS_data] at HIX
  have HSZ : Hid ((asS s).size = s.length) := asS_size s
  have HBZ := hid (BackC.zero s)
  rw [← HSZ.out] at HBZ
  have hsz : (asS s).size ≤ 1000000 := by rw [asS_size]; exact hs
  obtain ⟨R, hR⟩ : ∃ R, R = szC s := ⟨_, rfl⟩
  rw [← hR]
  have HR := hid hR
  clear hR hs
  generalize asS s = S at HIX HSZ HBZ hsz ⊢
  by_cases hbig : 256 < S.size
  · have h1 : (256 : Int) < (S.size : Int) := by omega
    have HRE : Hid (R = -1) := by
      show _ = _
      rw [HR.out]
      unfold szC
      exact if_pos (.inl (by rw [← HSZ.out]; exact hbig))
    clear hbig
    go_enter Tryz.func102, Tryz.ntmps102
    go_wp2_with fail
    go_ret
    exact ⟨by rw [HRE.out]; rfl, rfl⟩
  · have h1 : ¬ (256 : Int) < (S.size : Int) := by omega
    have hl2 : S.size ≤ 256 := by omega
    have HL256 : Hid (s.length ≤ 256) := by show _ ≤ _; rw [← HSZ.out]; exact hl2
    clear hbig
    go_enter Tryz.func102, Tryz.ntmps102
    go_wp2_with fail
    go_loop [3, 4] (fun ev iv => ∃ (j e : Nat) (i : Int), j ≤ S.size ∧ e ≤ S.size ∧ ev = .int .i64 (e : Int) ∧ iv = .int .i64 i ∧ Hid (i = (j : Int) - 1) ∧ Hid (BackC s j e)) (fun ev iv => (intOf iv + 1).toNat)
    case atStart => exact ⟨S.size, S.size, (S.size : Int) - 1, Nat.le_refl _, Nat.le_refl _, rfl, rfl, rfl, HBZ⟩
    case round =>
      obtain ⟨j, e, i, hj, he, rfl, rfl, HI, HB⟩ := hrel
      have hi := HI.out
      by_cases hj0 : j = 0
      · subst hj0
        have HSE := hid (HB.out.size HL256.out)
        have hc1 : ¬ (0 : Int) ≤ i := by omega
        clear HB HI hi
        by_cases he1 : e < 1
        · have HRE : Hid (R = -1) := by show _ = _; rw [HR.out, HSE.out]; exact if_pos (.inl he1)
          have hd1 : (e : Int) < 1 := by omega
          go_wp2_with fail
          go_ret
          exact ⟨by rw [HRE.out]; rfl, rfl⟩
        · have hd1 : ¬ (e : Int) < 1 := by omega
          by_cases he8 : 8 < e
          · have HRE : Hid (R = -1) := by show _ = _; rw [HR.out, HSE.out]; exact if_pos (.inr (.inl he8))
            have hd8 : (8 : Int) < (e : Int) := by omega
            go_wp2_with fail
            go_ret
            exact ⟨by rw [HRE.out]; rfl, rfl⟩
          · have hd8 : ¬ (8 : Int) < (e : Int) := by omega
            have HFA : Hid (∀ k, k < e → isHx (s.getD k 0) = false → R = -1) := fun k hk h => by
              rw [HR.out, HSE.out]
              refine if_pos (.inr (.inr ?_))
              cases hh : (s.take e).all isHx with
              | false => rfl
              | true =>
                have hke : k < (s.take e).length := by rw [List.length_take, ← HSZ.out]; omega
                have hm : s.getD k 0 ∈ s.take e := by
                  have : (s.take e)[k]'hke = s.getD k 0 := by rw [List.getElem_take, List.getD_eq_getElem?_getD, List.getElem?_eq_getElem (by rw [← HSZ.out]; omega)]; rfl
                  rw [← this]
                  exact List.getElem_mem hke
                have := List.all_eq_true.1 hh _ hm
                rw [h] at this; cases this
            have HFE : Hid (∀ acc, AtP s e acc → R = (acc : Int)) := fun acc h => by
              rw [HR.out, HSE.out, if_neg, h.val]
              rintro (h5 | h5 | h5)
              · exact he1 h5
              · exact he8 h5
              · rw [h.all] at h5; cases h5
            have hee : e ≤ 8 := by omega
            clear he1 he8 HSE
            go_wp2_with fail
            go_loop [5, 6] (fun vn vi => ∃ (k : Nat) (a : Int), vn = .int .i64 a ∧ vi = .int .i64 (k : Int) ∧ k ≤ e ∧ Hid (0 ≤ a ∧ AtP s k a.toNat)) (fun _ vi => e - (intOf vi).toNat)
            case atStart => exact ⟨0, 0, rfl, rfl, Nat.zero_le _, Int.le_refl _, by rw [List.take_zero]; rfl, by rw [List.take_zero]; rfl⟩
            case round =>
              obtain ⟨k, a, rfl, rfl, hk, HA⟩ := hrel
              by_cases hke : k < e
              · have hke2 : (k : Int) < (e : Int) := by omega
                have hix := HIX.out k (by omega)
                have a0 := HA.out.1
                have a1 : a ≤ 268435455 := by have := HA.out.2.small (by omega); omega
                have HST := hid (HA.out.2.step (by rw [← HSZ.out]; omega))
                have HFK := hid (HFA.out k hke)
                obtain ⟨c, hcc⟩ : ∃ c, s.getD k 0 = c := ⟨_, rfl⟩
                rw [hcc] at hix HST HFK
                clear hcc
                have hh := hx_of c
                have hc256 := c.toNat_lt
                cases hx : isHx c
                · have HRE := hid (HFK.out hx)
                  have h6 := hh.2 hx
                  clear hh hx HST HFK
                  generalize c.toNat = x at hix h6 hc256
                  rcases h6 with h6 | h6 | h6 | h6
                  all_goals go_wp2_with fail
                  all_goals go_ret
                  all_goals exact ⟨by rw [HRE.out]; rfl, rfl⟩
                · have HS2 := hid (HST.out hx)
                  have h6 := hh.1 hx
                  clear hh hx HST HFK
                  rcases h6 with ⟨h6, h7, h8⟩ | ⟨h6, h7, h8⟩ | ⟨h6, h7, h8⟩
                  · rw [h8] at HS2
                    generalize c.toNat = x at hix h6 h7 HS2 hc256
                    have HS3 : Hid (0 ≤ a * 16 + ((x : Int) - 48) ∧ AtP s (k + 1) (a * 16 + ((x : Int) - 48)).toNat) := ⟨by omega, by rw [show (a * 16 + ((x : Int) - 48)).toNat = a.toNat * 16 + (x - 48) from by omega]; exact HS2.out⟩
                    clear HS2 h8
                    go_wp2_with fail
                    go_round
                    case rel => exact ⟨k + 1, _, rfl, by go_num, by omega, HS3⟩
                    case measure => simp [intOf]; omega
                  · rw [h8] at HS2
                    generalize c.toNat = x at hix h6 h7 HS2 hc256
                    have HS3 : Hid (0 ≤ a * 16 + ((x : Int) - 97) + 10 ∧ AtP s (k + 1) (a * 16 + ((x : Int) - 97) + 10).toNat) := ⟨by omega, by rw [show (a * 16 + ((x : Int) - 97) + 10).toNat = a.toNat * 16 + (x - 97 + 10) from by omega]; exact HS2.out⟩
                    clear HS2 h8
                    go_wp2_with fail
                    go_round
                    case rel => exact ⟨k + 1, _, rfl, by go_num, by omega, HS3⟩
                    case measure => simp [intOf]; omega
                  · rw [h8] at HS2
                    generalize c.toNat = x at hix h6 h7 HS2 hc256
                    have HS3 : Hid (0 ≤ a * 16 + ((x : Int) - 65) + 10 ∧ AtP s (k + 1) (a * 16 + ((x : Int) - 65) + 10).toNat) := ⟨by omega, by rw [show (a * 16 + ((x : Int) - 65) + 10).toNat = a.toNat * 16 + (x - 65 + 10) from by omega]; exact HS2.out⟩
                    clear HS2 h8
                    go_wp2_with fail
                    go_round
                    case rel => exact ⟨k + 1, _, rfl, by go_num, by omega, HS3⟩
                    case measure => simp [intOf]; omega
              · obtain rfl : k = e := by omega
                have a0 := HA.out.1
                have HRE : Hid (R = a) := by show _ = _; rw [HFE.out _ HA.out.2]; omega
                have hke2 : ¬ (k : Int) < (k : Int) := by omega
                go_wp2_with fail
                go_ret
                exact ⟨by rw [HRE.out]; rfl, rfl⟩
      · obtain ⟨j1, rfl⟩ : ∃ j1, j = j1 + 1 := ⟨j - 1, by omega⟩
        have hix := HIX.out j1 (by omega)
        have HST := hid (fun h => HB.out.step (j := j1) h)
        have HBD := hid (fun h => HB.out.bad (j := j1) h)
        have hij : i = (j1 : Int) := by omega
        subst hij
        have h13 : (((s.getD j1 0).toNat : Int) == 13) = (s.getD j1 0 == 13) := u8_beq (s.getD j1 0) 13 (by decide)
        have h59 : (((s.getD j1 0).toNat : Int) == 59) = (s.getD j1 0 == 59) := u8_beq (s.getD j1 0) 59 (by decide)
        clear hi HI HB
        generalize s.getD j1 0 = c at hix HST HBD h13 h59
        by_cases hc13 : c = 13
        · have HRE : Hid (R = -1) := by show _ = _; rw [HR.out]; exact HBD.out hc13
          rw [beq_iff_eq.2 hc13] at h13
          clear hc13 h59 HST HBD
          generalize c.toNat = x at hix h13
          go_wp2_with fail
          go_ret
          exact ⟨by rw [HRE.out]; rfl, rfl⟩
        · have HS2 := hid (HST.out hc13)
          rw [beq_eq_false_iff_ne.2 hc13] at h13
          by_cases hc59 : c = 59
          · rw [if_pos hc59] at HS2
            rw [beq_iff_eq.2 hc59] at h59
            clear hc13 hc59 HST HBD
            generalize c.toNat = x at hix h13 h59
            go_wp2_with fail
            go_round
            case rel => exact ⟨j1, j1, (j1 : Int) - 1, by omega, by omega, rfl, rfl, rfl, HS2⟩
            case measure => simp [intOf]; try omega
          · rw [if_neg hc59] at HS2
            rw [beq_eq_false_iff_ne.2 hc59] at h59
            clear hc13 hc59 HST HBD
            generalize c.toNat = x at hix h13 h59
            go_wp2_with fail
            go_round
            case rel => exact ⟨j1, e, (j1 : Int) - 1, by omega, he, rfl, rfl, rfl, HS2⟩
            case measure => simp [intOf]; try omega
end Go.Proofs.YtclonnpglikddaaGreatDoor
