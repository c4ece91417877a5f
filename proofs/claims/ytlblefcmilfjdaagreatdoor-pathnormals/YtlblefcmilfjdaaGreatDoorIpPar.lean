
/- What ip.Parse does, and the reference's four. -/
import Derived.Test.YtlblefcmilfjdaaGreatDoorIpP6
namespace Go.Proofs.YtlblefcmilfjdaaGreatDoor
open Go.RowKit

theorem glue_len (g : Bool) (x y : Option (List UInt8)) (B : List UInt8) (h : glue g x y = some B) : B.length = 16 := by
  unfold glue at h
  split at h
  · split at h
    · cases h
    · rename_i a b hn
      cases h
      simp; omega
  · cases h
theorem ans6_len (l : List UInt8) : (ansB (parse6 l)).length = 16 := by
  cases h : parse6 l with
  | none => rfl
  | some B => exact glue_len _ _ _ B h
theorem paB_len (l : List UInt8) : (paB (parseA l)).length = 16 := by
  by_cases h : (58 : UInt8) ∈ l
  · rw [parse_dev l h]
    have := ans6_len l
    cases hq : parse6 l with
    | none => rfl
    | some B => rw [hq] at this; exact this
  · rw [(parse_p4 l h).2.1]; exact ansB_len l
set_option maxHeartbeats 1000000 in
theorem parse_any (s : ByteArray) (hs : s.size ≤ 1000000) (w : World) (hT : TabS w) : Calls Tryz.prog 120 #[.string s] w fun e w' => e = .returned (.tuple #[.agg (acs (paV (parseA s.data.toList)) (paB (parseA s.data.toList))), .int .i64 (paE (parseA s.data.toList))]) ∧ Below w.heap.size w w' := by
  by_cases h : (58 : UInt8) ∈ s.data.toList
  case neg => exact parse_plain s hs h w hT
  have e0 : paV (parseA s.data.toList) = (parse6 s.data.toList).isSome ∧ paB (parseA s.data.toList) = ansB (parse6 s.data.toList) ∧ paE (parseA s.data.toList) = ansE (parse6 s.data.toList) := by
    rw [parse_dev _ h]
    cases parse6 s.data.toList <;> exact ⟨rfl, rfl, rfl⟩
  obtain ⟨e1, e2, e3⟩ := e0
  rw [e1, e2, e3]
  have HN := hid (fun W => contains_any s 58 true (by rw [decide_eq_true h]) W)
  have HL := hid (ans6_len s.data.toList)
  have HP := hid (fun W hT => parse6_any s hs W hT)
  have HTA : Hid (∀ o, TabS (w.alloc o)) := fun o => alloc_tab hT o
  generalize ansB (parse6 s.data.toList) = R at HL HP ⊢
  generalize ansE (parse6 s.data.toList) = E at HP ⊢
  generalize (parse6 s.data.toList).isSome = u at HP ⊢
  clear h e1 e2 e3 hT
  go_enter Tryz.func120, Tryz.ntmps120
  go_wp2_with fail
  refine (HN.out _).mono ?_
  rintro e W1 ⟨rfl, rfl⟩
  go_wp2_with fail
  refine (HP.out _ (HTA.out _)).mono ?_
  rintro e W1 ⟨rfl, hb1⟩
  obtain ⟨hr, hb, hz⟩ := row1 hb1
  have HR := hid hr; have HB := hid hb
  clear hr hb hb1
  go_wp2_with (first
    | (refine store_addr rfl _ _ rfl w.heap.size u R HL.out rfl rfl _ HR.out rfl ?_)
    | fail)
  intro W2 hO2 hW2
  go_wp2
  exact bodyPost_ret (ret_addr2 (p := 2) (q := 3) Tryz.results120 _ _ w.heap.size u R HL.out (0, 0) _ rfl rfl hW2) rfl ⟨rfl, HB.out.trans (hO2.below (Nat.le_refl _))⟩

/-! The reference's four. -/
def fourTo (P : List (List UInt8)) : Nat → Nat
  | 0 => 0
  | k + 1 => fourTo P k * 256 + (num 10 (P.getD k [])).toNat
theorem four_done (P : List (List UInt8)) (hP : P.length = 4) (h : ∀ j, j < 4 → okFour (P.getD j []) = true) : fourP P = (fourTo P 4 : Int) := by
  match P, hP with
  | [a, b, c, d], _ =>
    have ha := h 0 (by omega); have hb := h 1 (by omega); have hc := h 2 (by omega); have hd := h 3 (by omega)
    simp only [List.getD_cons_zero, List.getD_cons_succ] at ha hb hc hd
    obtain ⟨na, la⟩ := okFour_num a ha
    obtain ⟨nb, lb⟩ := okFour_num b hb
    obtain ⟨nc, lc⟩ := okFour_num c hc
    obtain ⟨nd, ld⟩ := okFour_num d hd
    unfold fourP
    simp only [ha, hb, hc, hd, Bool.and_self, if_true]
    simp only [fourTo, List.getD_cons_zero, List.getD_cons_succ]
    rw [na, nb, nc, nd]
    omega
theorem fourP_cut (l : List UInt8) : four l = fourP (cutL 46 l) := rfl
theorem num_range (b : Nat) (l : List UInt8) : -1 ≤ num b l ∧ num b l ≤ 4294967296 := by
  unfold num; split
  · omega
  · omega
set_option maxHeartbeats 2000000 in
theorem refFour_any (s : ByteArray) (hs : s.size ≤ 1000000) (w : World) : Calls Tryz.prog 110 #[.string s] w fun e w' => e = .returned (.int .i64 (four s.data.toList)) ∧ Below w.heap.size w w' := by
  have HC := hid (fun W => refCut_any s 46 hs W)
  obtain ⟨P, hP⟩ : ∃ P, P = cutL 46 s.data.toList := ⟨_, rfl⟩
  have HF : Hid (four s.data.toList = fourP P) := by show _ = _; rw [hP]; rfl
  have HPS : Hid (∀ j, (P.getD j []).length ≤ 1000000) := fun j => by rw [hP]; have := getD_small 46 s.data.toList j; rw [← Lib.size_eq] at this; omega
  rw [← hP] at HC
  have hPm : P.length ≤ 1000001 := by rw [hP]; have := cut_len 46 s.data.toList; rw [← Lib.size_eq] at this; omega
  clear hP
  go_enter Tryz.func110, Tryz.ntmps110
  go_wp2_with fail
  refine (HC.out _).mono ?_
  rintro e W1 ⟨g, c, rfl, hown, hb⟩
  have HO := hid hown; have HB := hid hb
  clear hown hb
  by_cases hL : (P.length : Int) = 4
  case neg =>
    have HF0 : Hid (four s.data.toList = -1) := by show _ = _; rw [HF.out, four_len P (by omega)]
    go_wp2_with fail
    go_ret
    exact ⟨by rw [HF0.out]; rfl, HB.out⟩
  have hP4 : P.length = 4 := by omega
  have HP4 := hid hP4
  clear hP4
  go_wp2_with fail
  clear hL
  go_loop [4, 5] (fun av iv => ∃ k A : Nat, k ≤ 4 ∧ A ≤ 4294967296 ∧ iv = .int .i64 (k : Int) ∧ av = .int .i64 (A : Int) ∧ Hid (A = fourTo P k ∧ A < 256 ^ k) ∧ Hid (∀ j, j < k → okFour (P.getD j []) = true)) (fun _ i => 4 - (intOf i).toNat)
  case atStart => exact ⟨0, 0, by omega, by omega, rfl, rfl, ⟨rfl, by simp⟩, fun j hj => absurd hj (by omega)⟩
  case round =>
    obtain ⟨k, A, hk, hA, rfl, rfl, HA, HOK⟩ := hrel
    by_cases hk4 : (k : Int) < 4
    · have hP4 := HP4.out
      have hc := own_str HO.out k (by omega)
      have hxs := HPS.out k
      obtain ⟨x, hx⟩ : ∃ x, x = P.getD k [] := ⟨_, rfl⟩
      have HBAD : Hid (okFour x = false → four s.data.toList = -1) := fun h => by rw [HF.out, four_bad P k (by omega) (by rw [← hx]; exact h)]
      have HFT : Hid (fourTo P (k + 1) = fourTo P k * 256 + (num 10 x).toNat) := by show _ = _; rw [hx]; rfl
      have HX := hid hx
      rw [← hx] at hc hxs
      clear hx
      have hxz : (asS x).size ≤ 1000000 := by rw [asS_size]; exact hxs
      have hsz : (asS x).size = x.length := asS_size x
      obtain ⟨p, hp⟩ : ∃ p, p = num 10 x := ⟨_, rfl⟩
      have hC : ∀ w, Calls Tryz.prog 136 #[.string (asS x), .int .i64 10] w fun e w' => e = .returned (.int .i64 p) ∧ w' = w := fun w => by rw [hp]; exact refNumber_any (asS x) 10 (by omega) (by omega) w hxz
      have hpr := num_range 10 x
      rw [← hp] at hpr HFT
      have HOF : Hid (okFour x = (decide (0 ≤ p) && decide (p ≤ 255) && !(decide (1 < x.length) && decide (x.headD 0 = 48)))) := by show _ = _; rw [hp]; rfl
      have hkP : (k : Int) < (P.length : Int) := by omega
      clear hp hP4
      by_cases h1 : p < 0
      · have HF0 := hid (HBAD.out (by rw [HOF.out, decide_eq_false (by omega)]; rfl))
        go_wp2_with (go_at_call 136; refine (hC _).mono ?_; rintro r w' ⟨rfl, rfl⟩)
        go_ret
        exact ⟨by rw [HF0.out]; rfl, HB.out⟩
      by_cases h2 : (255 : Int) < p
      · have HF0 := hid (HBAD.out (by rw [HOF.out, decide_eq_false (show ¬ p ≤ 255 by omega)]; simp))
        go_wp2_with (go_at_call 136; refine (hC _).mono ?_; rintro r w' ⟨rfl, rfl⟩)
        go_ret
        exact ⟨by rw [HF0.out]; rfl, HB.out⟩
      obtain ⟨q, hq⟩ : ∃ q : Nat, p = (q : Int) := ⟨p.toNat, by omega⟩
      subst hq
      have hq2 : q ≤ 255 := by omega
      have HNA : Hid (A * 256 + q = fourTo P (k + 1) ∧ A * 256 + q < 256 ^ (k + 1)) := by
        have := HA.out
        refine ⟨by rw [HFT.out, ← this.1]; simp, ?_⟩
        rw [Nat.pow_succ]; omega
      have hnl : A * 256 + q ≤ 4294967296 := by have := pow_le4 (k + 1) (by omega); have := HNA.out.2; omega
      by_cases h3 : (1 : Int) < ((asS x).size : Int)
      · have hpos : 0 < (asS x).size := by omega
        have HH := hid (head_at (asS x) hpos)
        rw [asS_data] at HH
        by_cases h4 : ((((asS x)[0]'hpos).toNat : Nat) : Int) = 48
        · have HF0 := hid (HBAD.out (by
            have e1 : x.headD 0 = 48 := by rw [HH.out]; exact UInt8.toNat_inj.1 (by simpa using (by omega : ((asS x)[0]'hpos).toNat = 48))
            rw [HOF.out, decide_eq_true (show 1 < x.length by omega), decide_eq_true e1]; simp))
          clear hsz
          go_wp2_with (go_at_call 136; refine (hC _).mono ?_; rintro r w' ⟨rfl, rfl⟩)
          go_ret
          exact ⟨by rw [HF0.out]; rfl, HB.out⟩
        · have HOKx : Hid (okFour x = true) := by
            show _ = _
            have e1 : ¬ x.headD 0 = 48 := by rw [HH.out]; intro h; exact h4 (by rw [h]; rfl)
            rw [HOF.out, decide_eq_false e1, decide_eq_true (show (0 : Int) ≤ (q : Int) by omega), decide_eq_true (show (q : Int) ≤ 255 by omega)]; simp
          have h4b : (((((asS x)[0]'hpos).toNat : Nat) : Int) == 48) = false := by rw [beq_eq_false_iff_ne]; exact h4
          clear hsz h4
          go_wp2_with (go_at_call 136; refine (hC _).mono ?_; rintro r w' ⟨rfl, rfl⟩)
          go_round
          case rel =>
            refine ⟨k + 1, A * 256 + q, by omega, hnl, by go_num, by go_num, HNA, fun j hj => ?_⟩
            by_cases hjk : j < k
            · exact HOK.out j hjk
            · rw [show j = k from by omega, ← HX.out]; exact HOKx.out
          case measure => simp [intOf]; omega
      · have HOKx : Hid (okFour x = true) := by
          show _ = _
          rw [HOF.out, decide_eq_false (show ¬ 1 < x.length by omega), decide_eq_true (show (0 : Int) ≤ (q : Int) by omega), decide_eq_true (show (q : Int) ≤ 255 by omega)]; simp
        clear hsz
        go_wp2_with (go_at_call 136; refine (hC _).mono ?_; rintro r w' ⟨rfl, rfl⟩)
        go_round
        case rel =>
          refine ⟨k + 1, A * 256 + q, by omega, hnl, by go_num, by go_num, HNA, fun j hj => ?_⟩
          by_cases hjk : j < k
          · exact HOK.out j hjk
          · rw [show j = k from by omega, ← HX.out]; exact HOKx.out
        case measure => simp [intOf]; omega
    · have hk' : k = 4 := by omega
      subst hk'
      have HF0 : Hid (four s.data.toList = (A : Int)) := by show _ = _; rw [HF.out, four_done P HP4.out HOK.out, ← HA.out.1]
      go_wp2_with fail
      go_ret
      exact ⟨by rw [HF0.out]; rfl, HB.out⟩
end Go.Proofs.YtlblefcmilfjdaaGreatDoor
