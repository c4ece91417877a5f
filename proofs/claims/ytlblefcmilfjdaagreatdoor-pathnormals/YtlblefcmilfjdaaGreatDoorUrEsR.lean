
/- What the reference's Escape does, and the law UrlEscapes. -/
import Derived.Test.YtlblefcmilfjdaaGreatDoorUrEs
import Derived.Test.YtlblefcmilfjdaaGreatDoorUrRef
import Derived.Test.YtlblefcmilfjdaaGreatDoorUrPar
namespace Go.Proofs.YtlblefcmilfjdaaGreatDoor
set_option linter.unusedVariables false
set_option linter.unusedSimpArgs false
open Go.RowKit Go.BigFrame

theorem slice_up (r : Nat) (h : r < 16) (W : World) : (Instr.slice 9 (.string ⟨#[48, 49, 50, 51, 52, 53, 54, 55, 56, 57, 65, 66, 67, 68, 69, 70]⟩) (some (.int .u8 (r : Int))) (some (.int .u8 ((r : Int) + 1))) none).run Tryz.prog W = .ok (.string (asS [hexD r])) W := by
  rcases (show r = 0 ∨ r = 1 ∨ r = 2 ∨ r = 3 ∨ r = 4 ∨ r = 5 ∨ r = 6 ∨ r = 7 ∨ r = 8 ∨ r = 9 ∨ r = 10 ∨ r = 11 ∨ r = 12 ∨ r = 13 ∨ r = 14 ∨ r = 15 by omega) with rfl | rfl | rfl | rfl | rfl | rfl | rfl | rfl | rfl | rfl | rfl | rfl | rfl | rfl | rfl | rfl <;> kernel_rfl
set_option maxHeartbeats 4000000 in
set_option maxRecDepth 100000 in
theorem refEscape_any (l : List UInt8) (hl : l.length ≤ 100000) (w : World) : Calls Tryz.prog 53 #[.string (asS l)] w fun e w' => e = .returned (.string (asS (escU l))) ∧ Below w.heap.size w w' := by
  have HSZ := hid (asS_size l)
  have HIX : Hid (∀ k, k < l.length → ∀ W, (Instr.index 9 (.string (asS l)) (.int .i64 (k : Int))).run Tryz.prog W = .ok (.int .u8 (l.getD k 0).toNat) W) := fun k hk W => str_ix (asS l) k (by rw [asS_size]; exact hk) W
  have HSN := hid (esc_snoc l)
  have HX1 : Hid (∀ k, k < l.length → (asS l).extract k (k + 1) = asS [l.getD k 0]) := fun k hk => by
    rw [ext_asS, asS_data, drop_at l k hk, show k + 1 - k = 1 from by omega]; rfl
  have HEL : Hid (∀ k, (escU (l.take k)).length ≤ 300000) := fun k => by have := esc_len (l.take k); rw [List.length_take] at this; omega
  have HEN : Hid (∀ k, l.length ≤ k → escU (l.take k) = escU l) := fun k hk => by rw [List.take_of_length_le hk]
  have HLE := hid letter_any
  have HDI := hid digit7_any
  have HWI : Hid (∀ (c : UInt8) W, Calls Tryz.prog 58 #[.int .u8 c.toNat, .string ⟨#[45, 46, 95, 126]⟩] W fun e w' => e = .returned (.bool (([45, 46, 95, 126] : List UInt8).contains c)) ∧ w' = W) := fun c W => within_any c ⟨#[45, 46, 95, 126]⟩ (by decide) W
  have H0 : Hid (escU (l.take 0) = []) := rfl
  generalize escU l = R at HEN ⊢
  generalize asS l = S at HSZ HIX HX1 ⊢
  have hS : S.size ≤ 100000 := by rw [HSZ.out]; exact hl
  go_enter Tryz.func53, Tryz.ntmps53
  go_wp2_with fail
  go_loopw [3, 4] (fun v i wr => ∃ (k : Nat) (o : List UInt8), i = .int .i64 (k : Int) ∧ v = .string (asS o) ∧ k ≤ S.size ∧ Hid (escU (l.take k) = o) ∧ Hid (Below w.heap.size w wr)) (fun _ i _ => S.size - (intOf i).toNat)
  case atStart => exact ⟨0, [], rfl, rfl, by omega, H0, Below.refl _ _⟩
  case round =>
    obtain ⟨k, o, rfl, rfl, hk, HO, HB⟩ := hrel
    by_cases hlt : k < S.size
    · have hi : (k : Int) < (S.size : Int) := by omega
      have hkl : k < l.length := by have := HSZ.out; omega
      have hix := HIX.out k hkl
      have hx1 := HX1.out k hkl
      have hsn := HSN.out k hkl
      have hel := HEL.out k
      rw [HO.out] at hsn hel
      generalize l.getD k 0 = c at hix hx1 hsn
      have hEB : escB c = if (letterU c || digitU c || ([45, 46, 95, 126] : List UInt8).contains c) then [c] else [37, hexD (c.toNat / 16), hexD (c.toNat % 16)] := rfl
      rw [hEB] at hsn
      have HSNk := hid hsn
      have H1 := hid (HLE.out c)
      have H2 := hid (HDI.out c)
      have H3 := hid (HWI.out c)
      have hc := c.toNat_lt
      have hw1 : wrap64 ((k : Int) + 1) = (k : Int) + 1 := by unfold wrap64; omega
      clear hsn hEB
      generalize letterU c = b1 at H1 HSNk
      generalize digitU c = b2 at H2 HSNk
      generalize ([45, 46, 95, 126] : List UInt8).contains c = b3 at H3 HSNk
      have ep := asS_app o [c]
      have kp := cat_size o [c] (by simp; omega)
      have hsl := slice_run S k (k + 1) (k : Int) ((k : Int) + 1) rfl (by omega) (by omega) (by omega) _ hx1
      generalize asS [c] = SC at ep kp hsl hx1
      clear hx1
      cases b1 with
      | true =>
        go_wp2_with fail
        refine (H1.out _).mono ?_
        rintro e W ⟨rfl, rfl⟩
        go_wp2_with fail
        go_roundw
        case rel => exact ⟨k + 1, o ++ [c], by go_num, rfl, by omega, by rw [HSNk.out]; rfl, HB⟩
        case measure => simp [intOf]; omega
      | false =>
        cases b2 with
        | true =>
          go_wp2_with fail
          refine (H1.out _).mono ?_
          rintro e W ⟨rfl, rfl⟩
          go_wp2_with fail
          refine (H2.out _).mono ?_
          rintro e W ⟨rfl, rfl⟩
          go_wp2_with fail
          go_roundw
          case rel => exact ⟨k + 1, o ++ [c], by go_num, rfl, by omega, by rw [HSNk.out]; rfl, HB⟩
          case measure => simp [intOf]; omega
        | false =>
          go_wp2_with fail
          refine (H1.out _).mono ?_
          rintro e W ⟨rfl, rfl⟩
          go_wp2_with fail
          refine (H2.out _).mono ?_
          rintro e W ⟨rfl, rfl⟩
          go_wp2_with fail
          refine (H3.out _).mono ?_
          rintro e W ⟨rfl, rfl⟩
          cases b3 with
          | true =>
            go_wp2_with fail
            go_roundw
            case rel => exact ⟨k + 1, o ++ [c], by go_num, rfl, by omega, by rw [HSNk.out]; rfl, HB⟩
            case measure => simp [intOf]; omega
          | false =>
            have s1 := slice_up (c.toNat / 16) (by omega)
            have s2 := slice_up (c.toNat % 16) (by omega)
            have q1 : ((c.toNat / 16 : Nat) : Int) = (c.toNat : Int) / 16 := by omega
            have q2 : ((c.toNat % 16 : Nat) : Int) = (c.toNat : Int) % 16 := by omega
            rw [q1] at s1
            rw [q2] at s2
            have e1 : asS o ++ (⟨#[37]⟩ : ByteArray) = asS (o ++ [37]) := asS_app o [37]
            have e2 := asS_app (o ++ [37]) [hexD (c.toNat / 16)]
            have e3 := asS_app (o ++ [37] ++ [hexD (c.toNat / 16)]) [hexD (c.toNat % 16)]
            have k1 : ¬ (9223372036854775807 < (asS o).size + 1) := cat_size o [37] (by simp; omega)
            have k2 := cat_size (o ++ [37]) [hexD (c.toNat / 16)] (by simp; omega)
            have k3 := cat_size (o ++ [37] ++ [hexD (c.toNat / 16)]) [hexD (c.toNat % 16)] (by simp; omega)
            have HF : Hid (asS (o ++ [37] ++ [hexD (c.toNat / 16)] ++ [hexD (c.toNat % 16)]) = asS (o ++ [37, hexD (c.toNat / 16), hexD (c.toNat % 16)])) := by show _ = _; simp
            have r1 : IntKind.u8.wrap ((c.toNat : Int) / 16 + 1) = (c.toNat : Int) / 16 + 1 := by rw [IntKind.wrap_u8]; omega
            have r2 : IntKind.u8.wrap ((c.toNat : Int) % 16 + 1) = (c.toNat : Int) % 16 + 1 := by rw [IntKind.wrap_u8]; omega
            have r3 : ((c.toNat : Int) / 16 + 1) % 256 = (c.toNat : Int) / 16 + 1 := by omega
            have r4 : ((c.toNat : Int) % 16 + 1) % 256 = (c.toNat : Int) % 16 + 1 := by omega
            generalize asS (o ++ [37] ++ [hexD (c.toNat / 16)] ++ [hexD (c.toNat % 16)]) = Y4 at e3 HF
            generalize asS (o ++ [37] ++ [hexD (c.toNat / 16)]) = Y3 at e2 e3 k3
            generalize asS (o ++ [37]) = Y2 at e1 e2 k2
            generalize asS [hexD (c.toNat / 16)] = X1 at s1 e2 k2
            generalize asS [hexD (c.toNat % 16)] = X2 at s2 e3 k3
            generalize hexD (c.toNat / 16) = d1 at HSNk HF
            generalize hexD (c.toNat % 16) = d2 at HSNk HF
            clear q1 q2 ep kp hsl
            go_wp2_with fail
            go_quiet (fail)
            go_wp2_with fail
            go_roundw
            case rel => exact ⟨k + 1, o ++ [37, d1, d2], by go_num, by rw [HF.out], by omega, by rw [HSNk.out]; rfl, HB.out.trans (below_drewN _ _ _)⟩
            case measure => simp [intOf]; omega
    · have hi : ¬ (k : Int) < (S.size : Int) := by omega
      have HQ : Hid (o = R) := by show _ = _; rw [← HO.out]; exact HEN.out k (by have := HSZ.out; omega)
      go_wp2_with fail
      go_ret
      exact ⟨by rw [HQ.out]; rfl, HB.out⟩
end Go.Proofs.YtlblefcmilfjdaaGreatDoor
