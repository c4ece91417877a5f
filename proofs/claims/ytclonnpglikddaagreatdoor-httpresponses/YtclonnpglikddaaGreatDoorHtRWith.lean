
/- Headers with the one for the body: what Digits and With of the reference do. -/
import Derived.Test.YtclonnpglikddaaGreatDoorHtMsg
namespace Go.Proofs.YtclonnpglikddaaGreatDoor
set_option linter.unusedVariables false
set_option linter.unusedSimpArgs false
open Go.RowKit Go.BigFrame

/-! The reference's Digits. -/
theorem slice_ten (r : Nat) (h : r < 10) (W : World) : (Instr.slice 9 (.string ⟨#[48, 49, 50, 51, 52, 53, 54, 55, 56, 57]⟩) (some (.int .i64 (r : Int))) (some (.int .i64 ((r : Int) + 1))) none).run Tryz.prog W = .ok (.string (asS (Lib.decDigits r))) W := by
  rw [Lib.decDigits_one h]
  rcases (show r = 0 ∨ r = 1 ∨ r = 2 ∨ r = 3 ∨ r = 4 ∨ r = 5 ∨ r = 6 ∨ r = 7 ∨ r = 8 ∨ r = 9 by omega) with rfl | rfl | rfl | rfl | rfl | rfl | rfl | rfl | rfl | rfl <;> kernel_rfl
set_option maxHeartbeats 1000000 in
theorem dig_small (n : Nat) (h : n < 10) (w : World) : Calls Tryz.prog 40 #[.int .i64 n] w fun e w' => e = .returned (.string (asS (Lib.decDigits n))) ∧ Below w.heap.size w w' := by
  have hlit := fun W => slice_ten n h W
  have h2 : (n : Int) < 10 := by omega
  generalize asS (Lib.decDigits n) = D at hlit ⊢
  go_enter Tryz.func40, Tryz.ntmps40
  go_wp2_with fail
  go_ret
  exact ⟨rfl, Below.refl _ _⟩
set_option maxHeartbeats 1000000 in
theorem dig_step (n : Nat) (h : 10 ≤ n) (h2 : n ≤ 65535) (hd : ∀ W, Calls Tryz.prog 40 #[.int .i64 ((n / 10 : Nat) : Int)] W fun e w' => e = .returned (.string (asS (Lib.decDigits (n / 10)))) ∧ Below W.heap.size W w') (w : World) : Calls Tryz.prog 40 #[.int .i64 n] w fun e w' => e = .returned (.string (asS (Lib.decDigits n))) ∧ Below w.heap.size w w' := by
  have HD := hid hd
  have HM := hid (fun W => dig_small (n % 10) (by omega) W)
  have he : Lib.decDigits n = Lib.decDigits (n / 10) ++ Lib.decDigits (n % 10) := by
    rw [Lib.decDigits_one (show n % 10 < 10 by omega)]
    conv => lhs; rw [Lib.decDigits]
    rw [dif_neg (by omega)]
  have HE := hid he
  have hs1 := digs_len 4 (n / 10) (by omega)
  have hs2 := digs_len 4 (n % 10) (by omega)
  have hz : ¬ (9223372036854775807 < (asS (Lib.decDigits (n / 10))).size + (asS (Lib.decDigits (n % 10))).size) := by rw [asS_size, asS_size]; omega
  have HC := hid (asS_app (Lib.decDigits (n / 10)) (Lib.decDigits (n % 10)))
  clear hd he hs1 hs2
  rw [← HE.out] at HC
  generalize asS (Lib.decDigits n) = R at HC ⊢
  generalize asS (Lib.decDigits (n / 10)) = S1 at HD HC hz
  generalize asS (Lib.decDigits (n % 10)) = S2 at HM HC hz
  have h3 : ¬ (n : Int) < 10 := by omega
  have hq : (n : Int) / 10 = ((n / 10 : Nat) : Int) := by omega
  have hr : (n : Int) % 10 = ((n % 10 : Nat) : Int) := by omega
  generalize hqn : n / 10 = q at HD hq
  generalize hrn : n % 10 = r at HM hr
  have hq2 : (n : Int).tdiv 10 = (q : Int) := by rw [← hq]; exact Int.tdiv_eq_ediv_of_nonneg (by omega)
  have hr2 : (n : Int).tmod 10 = (r : Int) := by rw [← hr]; exact Int.tmod_eq_emod_of_nonneg (by omega)
  have HQN := hid hqn; have HRN := hid hrn
  clear hqn hrn HE
  go_enter Tryz.func40, Tryz.ntmps40
  go_wp2_with fail
  refine (HD.out _).mono ?_
  rintro e W1 ⟨rfl, hb1⟩
  go_wp2_with fail
  refine (HM.out _).mono ?_
  rintro e W2 ⟨rfl, hb2⟩
  go_wp2_with fail
  go_ret
  exact ⟨by rw [← HC.out]; rfl, hb1.trans (hb2.mono hb1.size)⟩
theorem refDigits_any (n : Nat) : n ≤ 65535 → ∀ w : World, Calls Tryz.prog 40 #[.int .i64 n] w fun e w' => e = .returned (.string (asS (Lib.decDigits n))) ∧ Below w.heap.size w w' := by
  induction n using Nat.strongRecOn with
  | _ n ih =>
    intro hn w
    by_cases h : n < 10
    · exact dig_small n h w
    · exact dig_step n (by omega) hn (ih (n / 10) (by omega) (by omega)) w
/-! With. -/
theorem hdvs_one (l : List HdV) : ∀ u ∈ hdvs l, u.oneCell' = true := fun u hu => by
  unfold hdvs at hu
  obtain ⟨h, _, hu2⟩ := List.mem_flatMap.1 hu
  simp only [List.mem_cons, List.not_mem_nil, or_false] at hu2
  rcases hu2 with rfl | rfl <;> rfl
theorem src_hds {w : World} {A : Option Addr} {l : List HdV} (hA : HdsAt w A l) (c : Nat) : Src Tryz.prog 2 22 (.slice A l.length c) l.length (hdvs l) w := by
  by_cases h0 : l.length = 0
  · obtain rfl := List.length_eq_zero_iff.1 h0
    cases A with
    | none => exact Src.ofNil w Tryz.underlying22 c
    | some a => exact Src.ofSlice w Tryz.underlying22 a 0 c [] rfl (fun j u h => by simp at h) (fun u h => by cases h)
  · obtain ⟨q, o, rfl, hq, hc⟩ := hA (by omega)
    refine Src.ofSlice w Tryz.underlying22 ⟨q, o, none⟩ l.length c (hdvs l) (hdvs_len l) (fun j u hu => ?_) (hdvs_one l)
    have hj : j < l.length * 2 := by have := (List.getElem?_eq_some_iff.1 hu).1; rw [hdvs_len] at this; exact this
    have hj2 : j / 2 < l.length := by omega
    have h1 := hdvs_at l (j / 2) hj2
    have h2 := hc (j / 2) hj2
    rw [Addr.add_mid]
    rcases (show j = j / 2 * 2 ∨ j = j / 2 * 2 + 1 by omega) with e | e
    · rw [e] at hu ⊢
      rw [h1.1] at hu
      rw [← hu]
      exact h2.1
    · rw [e] at hu ⊢
      rw [h1.2] at hu
      rw [← hu, ← Nat.add_assoc]
      exact h2.2
set_option maxHeartbeats 2000000 in
set_option maxRecDepth 100000 in
theorem refWith_any (l : List HdV) (A : Option Addr) (c n : Nat) (hl : l.length ≤ 100000) (hn : n ≤ 65535) (w : World) (hA : HdsAt w A l) : Calls Tryz.prog 14 #[.slice A l.length c, .int .i64 (n : Int)] w fun e w' => ∃ v, e = .returned v ∧ OwnH w' w.heap.size v (withM l n) ∧ Below w.heap.size w w' := by
  have HDG := hid (fun W => refDigits_any n hn W)
  have HSR : Hid (∀ W, Below w.heap.size w W → Src Tryz.prog 2 22 (.slice A l.length c) l.length (hdvs l) W) := fun W hb => src_hds (hA.below hb (Nat.le_refl _)) c
  have HB0 := hid (alloc_below (Below.refl w.heap.size w) (Nat.le_refl _) (.cells #[] 69))
  have HO0 := hid (OwnK.zero w 2 69 w.heap.size (Nat.le_refl _))
  have HWM : Hid (withM l n = l ++ [⟨clM, Lib.decDigits n⟩]) := rfl
  have HAP : Hid (hdvs (l ++ [⟨clM, Lib.decDigits n⟩]) = hdvs l ++ hdvs [⟨clM, Lib.decDigits n⟩]) := hdvs_app _ _
  have HLW : Hid ((withM l n).length = l.length + 1) := by show _ = _; unfold withM; simp
  have HS1 := hid (fun W => src_hd W ⟨clM, Lib.decDigits n⟩ (asS clM) (asS (Lib.decDigits n)) rfl rfl 1)
  clear hA hn
  generalize withM l n = WM at HWM HLW ⊢
  generalize hdvs [⟨clM, Lib.decDigits n⟩] = H1 at HAP HS1
  generalize asS (Lib.decDigits n) = D at HDG HS1
  have HS2 : Hid (∀ W : World, Src Tryz.prog 2 22 (.slice (some ⟨W.heap.size, 0, none⟩) 1 1) 1 H1 (W.alloc (.cells #[.string ⟨#[67, 111, 110, 116, 101, 110, 116, 45, 76, 101, 110, 103, 116, 104]⟩, .string D] 69))) := HS1.out
  generalize hln : l.length = ln at hl HSR HLW ⊢
  clear hln HS1
  go_enter Tryz.func14, Tryz.ntmps14
  go_wp2_with (first
    | (refine wpList_ownK hdK rfl _ _ rfl w.heap.size w.heap.size 0 0 ln _ (hdvs l) _ rfl rfl HO0.out (HSR.out _ HB0.out) (by omega) HB0.out.size ?_)
    | fail)
  intro g1 cap1 W1 ho1 hg1 _
  have HO1 := hid ho1
  have HB1 := hid (HO0.out.grown HB0.out HB0.out.size hg1)
  clear ho1 hg1 HO0
  go_wp2_with fail
  refine (HDG.out _).mono ?_
  rintro e W2 ⟨rfl, hb2⟩
  have HB2 := hid (HB1.out.trans (hb2.mono HB1.out.size))
  have HO3 := hid ((HO1.out.below hb2 (Nat.le_refl _)).alloc (.cells #[.string ⟨#[67, 111, 110, 116, 101, 110, 116, 45, 76, 101, 110, 103, 116, 104]⟩, .string D] 69))
  have HB3 := hid (alloc_below HB2.out HB2.out.size (.cells #[.string ⟨#[67, 111, 110, 116, 101, 110, 116, 45, 76, 101, 110, 103, 116, 104]⟩, .string D] 69))
  have HS3 := hid (HS2.out W2)
  clear hb2 HO1
  go_wp2_with (first
    | (refine wpList_ownK hdK rfl _ _ rfl w.heap.size g1 _ cap1 1 _ H1 _ rfl rfl HO3.out HS3.out (by omega) HB3.out.size ?_)
    | fail)
  intro g4 cap4 W4 ho4 hg4 _
  have HO4 := hid ho4
  have HB4 := hid (HO3.out.grown HB3.out HB3.out.size hg4)
  clear ho4 hg4
  go_wp2_with fail
  go_ret
  refine ⟨.slice (some ⟨g4, 0, none⟩) (ln + 1) cap4, by simp, .inr ⟨g4, cap4, by rw [HLW.out], ?_⟩, HB4.out⟩
  rw [HLW.out, HWM.out, HAP.out]
  have := HO4.out
  simpa using this
end Go.Proofs.YtclonnpglikddaaGreatDoor
