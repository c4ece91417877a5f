
/- What reference of the document's answer for layer 12 does. -/
import Derived.Test.YtkeghpghhmajiaaDoorEnRN
namespace Go.Proofs.YtkeghpghhmajiaaDoor
set_option linter.unusedVariables false
set_option linter.unusedSimpArgs false
open Go.RowKit Go.BigFrame

theorem run_name (l : List UInt8) (h : l.length < 2 ∨ l.getD 0 0 ≠ 35) : runeR l = nameR l := by
  unfold runeR
  split
  · rcases h with h | h
    · simp at h; omega
    · exact absurd rfl h
  · rename_i d _
    rcases h with h | h
    · cases d with
      | nil => decide
      | cons x t => simp at h; omega
    · exact absurd rfl h
  · rfl
theorem run_hex (d : List UInt8) : runeR (35 :: 120 :: d) = numR 16 6 d := rfl
theorem run_dec (x : UInt8) (d : List UInt8) (h : x ≠ 120) : runeR (35 :: x :: d) = numR 10 7 (x :: d) := by
  unfold runeR
  split
  · rename_i heq
    simp at heq
    exact absurd heq.1 h
  · rename_i heq
    simp at heq
    rw [heq]
  · rename_i h1 h2
    exact absurd rfl (h2 (x :: d))
theorem numR_long {b most : Nat} {d : List UInt8} (h : most < d.length) : numR b most d = none := by
  unfold numR; rw [if_neg (fun x => by omega)]
theorem numR_nil (b most : Nat) : numR b most [] = none := by
  unfold numR; rw [if_neg (fun x => x.1 rfl)]
theorem numR_bad {b most : Nat} {d : List UInt8} (h : okD b d = false) : numR b most d = none := by
  unfold numR; rw [if_neg (fun x => by rw [h] at x; cases x.2.2)]
theorem numR_ok {b most : Nat} {d : List UInt8} (h0 : d ≠ []) (hl : d.length ≤ most) (h : okD b d = true) : numR b most d = runeN (numE b d) := by
  unfold numR; rw [if_pos ⟨h0, hl, h⟩]
theorem digE_at {c : UInt8} {x : Nat} (hx : c.toNat = x) : digE c = if 48 ≤ x ∧ x ≤ 57 then x - 48 else if 97 ≤ x ∧ x ≤ 102 then x - 97 + 10 else if 65 ≤ x ∧ x ≤ 70 then x - 65 + 10 else 99 := by subst hx; rfl
theorem xml_num (n : Nat) (w : World) : Calls Tryd.prog 24 #[.slice (some ⟨w.heap.size, 0, none⟩) 1 1] (w.alloc (.cells #[.int .i64 (n : Int)] 3)) fun e w' => e = .returned (.bool (xmlN n)) ∧ w' = w.alloc (.cells #[.int .i64 (n : Int)] 3) := by
  have c := refXml_some w.heap.size 1 [n] (w.alloc (.cells #[.int .i64 (n : Int)] 3)) (by simp) (fun j hj => by
    obtain rfl : j = 0 := by simp at hj; omega
    rw [cell_of_row _ _ _ _ _ _ (heap_alloc_new w (.cells #[.int .i64 (n : Int)] 3))]; rfl)
  simp only [List.all_cons, List.all_nil, Bool.and_true] at c
  exact c
set_option maxRecDepth 100000 in
theorem refRef_name (l : List UInt8) (hl : l.length ≤ 100000) (h : l.length < 2 ∨ l.getD 0 0 ≠ 35) (w : World) : Calls Tryd.prog 29 #[.string (asS l)] w fun e w' => e = .returned (.string (asS (strR (runeR l)))) ∧ Below w.heap.size w w' := by
  rw [run_name l h]
  have HN := hid (fun W => names_any l W)
  have hs := asS_size l
  have HIX := hid (fun k h W => str_ix (asS l) k h W)
  rw [asS_data] at HIX
  generalize asS (strR (nameR l)) = R at HN ⊢
  by_cases h2 : l.length < 2
  · generalize asS l = S at HN hs ⊢
    have h3 : (S.size : Int) < 2 := by omega
    clear hs h h2 HIX
    go_enter Tryd.func29, Tryd.ntmps29
    go_wp2_with (first | (go_at_call 40; refine (HN.out _).mono ?_; rintro e W1 ⟨rfl, rfl⟩) | fail)
    go_ret
    exact ⟨rfl, Below.refl _ _⟩
  · have hne : l.getD 0 0 ≠ 35 := by rcases h with h | h; exact absurd h h2; exact h
    have hix : ∀ W, (Instr.index 9 (.string (asS l)) (.int .i64 0)).run Tryd.prog W = _ := fun W => HIX.out 0 (by omega) W
    generalize l.getD 0 0 = c at hix hne
    have hc : ¬ (c.toNat : Int) = 35 := fun e => hne (UInt8.toNat_inj.1 (by show c.toNat = 35; omega))
    generalize asS l = S at HN hs hix ⊢
    have h3 : ¬ (S.size : Int) < 2 := by omega
    have h4 : (S.size : Int) ≤ 100000 := by omega
    clear hs h h2 HIX hne
    go_enter Tryd.func29, Tryd.ntmps29
    go_wp2_with (first | (go_at_call 40; refine (HN.out _).mono ?_; rintro e W1 ⟨rfl, rfl⟩) | fail)
    go_ret
    exact ⟨rfl, Below.refl _ _⟩
set_option maxHeartbeats 4000000 in
set_option maxRecDepth 100000 in
theorem refRef_hex (d : List UInt8) (hl : d.length ≤ 100000) (w : World) : Calls Tryd.prog 29 #[.string (asS (35 :: 120 :: d))] w fun e w' => e = .returned (.string (asS (strR (numR 16 6 d)))) ∧ Below w.heap.size w w' := by
  have hix0 : ∀ W, (Instr.index 9 (.string (asS (35 :: 120 :: d))) (.int .i64 0)).run Tryd.prog W = .ok (.int .u8 35) W := fun W => str_ix (asS (35 :: 120 :: d)) 0 (by rw [asS_size]; simp) W
  have hix1 : ∀ W, (Instr.index 9 (.string (asS (35 :: 120 :: d))) (.int .i64 1)).run Tryd.prog W = .ok (.int .u8 120) W := fun W => str_ix (asS (35 :: 120 :: d)) 1 (by rw [asS_size]; simp) W
  have hs : (asS (35 :: 120 :: d)).size = d.length + 2 := by rw [asS_size]; rfl
  have HIX : Hid (∀ j, j < d.length → ∀ W, (Instr.index 9 (.string (asS (35 :: 120 :: d))) (.int .i64 ((j : Int) + 2))).run Tryd.prog W = .ok (.int .u8 (d.getD j 0).toNat) W) := fun j hj W => by
    have c := str_ix (asS (35 :: 120 :: d)) (j + 2) (by rw [hs]; omega) W
    exact c
  generalize asS (35 :: 120 :: d) = S at hix0 hix1 hs HIX ⊢
  have hsz : (S.size : Int) = (d.length : Int) + 2 := by omega
  have h3 : ¬ (S.size : Int) < 2 := by omega
  have HSZ := hid hsz
  have h4 : (S.size : Int) ≤ 100002 := by omega
  clear hs hsz
  by_cases h0 : d = []
  · have hq : ((S.size : Int) == 2) = true := by rw [beq_iff_eq, HSZ.out, h0]; rfl
    have HR : Hid (numR 16 6 d = none) := by show _ = _; rw [h0]; exact numR_nil 16 6
    rw [HR.out]
    clear h0 HIX
    go_enter Tryd.func29, Tryd.ntmps29
    go_wp2_with fail
    go_ret
    exact ⟨rfl, Below.refl _ _⟩
  have hq : ((S.size : Int) == 2) = false := by
    rw [beq_eq_false_iff_ne, HSZ.out]
    have : 0 < d.length := List.length_pos_iff.2 h0
    omega
  by_cases hm : 6 < d.length
  · have hm' : (6 : Int) < (S.size : Int) - 2 := by rw [HSZ.out]; omega
    have HR : Hid (numR 16 6 d = none) := numR_long hm
    rw [HR.out]
    clear hm HIX h0
    go_enter Tryd.func29, Tryd.ntmps29
    go_wp2_with fail
    go_ret
    exact ⟨rfl, Below.refl _ _⟩
  have hm' : ¬ (6 : Int) < (S.size : Int) - 2 := by rw [HSZ.out]; omega
  have hdl : d.length ≤ 6 := by omega
  have HBAD : Hid (∀ j, j < d.length → ¬ digE (d.getD j 0) < 16 → numR 16 6 d = none) := fun j hj h => numR_bad (okD_false hj h)
  have HOK : Hid (∀ acc, AtE 16 d d.length acc → numR 16 6 d = runeN acc) := fun acc h => by
    have e1 := h.all
    have e2 := h.val
    rw [List.take_length] at e1 e2
    rw [numR_ok h0 hdl e1, e2]
  have HUT := hid (fun v hv W => Utf8_any v hv W)
  have HXN := hid (fun n W => xml_num n W)
  clear hm h0
  generalize numR 16 6 d = Q at HBAD HOK ⊢
  go_enter Tryd.func29, Tryd.ntmps29
  go_wp2_with fail
  go_loop [6, 7] (fun n i => ∃ (j acc : Nat), n = .int .i64 (acc : Int) ∧ i = .int .i64 ((j : Int) + 2) ∧ j ≤ d.length ∧ Hid (AtE 16 d j acc)) (fun _ i => d.length + 2 - (intOf i).toNat)
  case atStart => exact ⟨0, 0, rfl, rfl, Nat.zero_le _, AtE.zero _ _⟩
  case round =>
    obtain ⟨j, acc, rfl, rfl, hj, HA⟩ := hrel
    by_cases hlt : j < d.length
    · have hi : (j : Int) + 2 < (S.size : Int) := by rw [HSZ.out]; omega
      have hix := HIX.out j hlt
      have ha : (acc : Int) < 1048576 := by
        have h9 := HA.out.small 5 (by decide) (by omega)
        rw [show (16 : Nat) ^ 5 = 1048576 from by decide] at h9
        omega
      have HST := hid (HA.out.step hlt)
      have HBJ := hid (HBAD.out j hlt)
      obtain ⟨c, hc⟩ : ∃ c, d.getD j 0 = c := ⟨_, rfl⟩
      rw [hc] at hix HST HBJ
      clear hc
      obtain ⟨x, hx⟩ : ∃ x, c.toNat = x := ⟨_, rfl⟩
      have hdg := digE_at hx
      have hx256 : (x : Int) < 256 := by have := c.toNat_lt; omega
      rw [hx] at hix
      generalize digE c = g at HST HBJ hdg
      clear hx
      rcases (show (x < 48) ∨ (48 ≤ x ∧ x ≤ 57) ∨ (58 ≤ x ∧ x ≤ 64) ∨ (65 ≤ x ∧ x ≤ 70) ∨ (71 ≤ x ∧ x ≤ 96) ∨ (97 ≤ x ∧ x ≤ 102) ∨ (103 ≤ x) by omega) with hk | hk | hk | hk | hk | hk | hk
      · have hg : g = 99 := by
          rw [hdg]
          repeat' split
          all_goals omega
        clear hdg
        have f0 : ¬ 48 ≤ (x : Int) := by omega
        have f1 : ¬ 97 ≤ (x : Int) := by omega
        have f2 : ¬ 65 ≤ (x : Int) := by omega
        have HQ := hid (HBJ.out (by omega))
        have hb9 : (16 : Int) ≤ 99 := by omega
        clear hk hg HST HBJ
        go_wp2_with fail
        go_ret
        exact ⟨by rw [HQ.out]; rfl, Below.refl _ _⟩
      · have hg : g = x - 48 := by
          rw [hdg]
          repeat' split
          all_goals omega
        clear hdg
        have f0 : 48 ≤ (x : Int) := by omega
        have f1 : (x : Int) ≤ 57 := by omega
        have HS2 := hid (HST.out (by omega))
        have HE : Hid (((acc * 16 + g : Nat) : Int) = (acc : Int) * 16 + ((x : Int) - 48)) := by show _ = _; omega
        have hb9 : ¬ (16 : Int) ≤ (x : Int) - 48 := by omega
        clear hk hg HST HBJ
        go_wp2_with fail
        go_round
        case rel => exact ⟨j + 1, acc * 16 + g, by rw [HE.out], by go_num, by omega, HS2⟩
        case measure => simp [intOf]; omega
      · have hg : g = 99 := by
          rw [hdg]
          repeat' split
          all_goals omega
        clear hdg
        have f0 : 48 ≤ (x : Int) := by omega
        have f1 : ¬ (x : Int) ≤ 57 := by omega
        have f2 : ¬ 97 ≤ (x : Int) := by omega
        have f3 : ¬ 65 ≤ (x : Int) := by omega
        have HQ := hid (HBJ.out (by omega))
        have hb9 : (16 : Int) ≤ 99 := by omega
        clear hk hg HST HBJ
        go_wp2_with fail
        go_ret
        exact ⟨by rw [HQ.out]; rfl, Below.refl _ _⟩
      · have hg : g = x - 65 + 10 := by
          rw [hdg]
          repeat' split
          all_goals omega
        clear hdg
        have f0 : 48 ≤ (x : Int) := by omega
        have f1 : ¬ (x : Int) ≤ 57 := by omega
        have f2 : ¬ 97 ≤ (x : Int) := by omega
        have f3 : 65 ≤ (x : Int) := by omega
        have f4 : (x : Int) ≤ 70 := by omega
        have HS2 := hid (HST.out (by omega))
        have HE : Hid (((acc * 16 + g : Nat) : Int) = (acc : Int) * 16 + ((x : Int) - 65 + 10)) := by show _ = _; omega
        have hb9 : ¬ (16 : Int) ≤ (x : Int) - 65 + 10 := by omega
        clear hk hg HST HBJ
        go_wp2_with fail
        go_round
        case rel => exact ⟨j + 1, acc * 16 + g, by rw [HE.out], by go_num, by omega, HS2⟩
        case measure => simp [intOf]; omega
      · have hg : g = 99 := by
          rw [hdg]
          repeat' split
          all_goals omega
        clear hdg
        have f0 : 48 ≤ (x : Int) := by omega
        have f1 : ¬ (x : Int) ≤ 57 := by omega
        have f2 : ¬ 97 ≤ (x : Int) := by omega
        have f3 : 65 ≤ (x : Int) := by omega
        have f4 : ¬ (x : Int) ≤ 70 := by omega
        have HQ := hid (HBJ.out (by omega))
        have hb9 : (16 : Int) ≤ 99 := by omega
        clear hk hg HST HBJ
        go_wp2_with fail
        go_ret
        exact ⟨by rw [HQ.out]; rfl, Below.refl _ _⟩
      · have hg : g = x - 97 + 10 := by
          rw [hdg]
          repeat' split
          all_goals omega
        clear hdg
        have f0 : 48 ≤ (x : Int) := by omega
        have f1 : ¬ (x : Int) ≤ 57 := by omega
        have f2 : 97 ≤ (x : Int) := by omega
        have f3 : (x : Int) ≤ 102 := by omega
        have HS2 := hid (HST.out (by omega))
        have HE : Hid (((acc * 16 + g : Nat) : Int) = (acc : Int) * 16 + ((x : Int) - 97 + 10)) := by show _ = _; omega
        have hb9 : ¬ (16 : Int) ≤ (x : Int) - 97 + 10 := by omega
        clear hk hg HST HBJ
        go_wp2_with fail
        go_round
        case rel => exact ⟨j + 1, acc * 16 + g, by rw [HE.out], by go_num, by omega, HS2⟩
        case measure => simp [intOf]; omega
      · have hg : g = 99 := by
          rw [hdg]
          repeat' split
          all_goals omega
        clear hdg
        have f0 : 48 ≤ (x : Int) := by omega
        have f1 : ¬ (x : Int) ≤ 57 := by omega
        have f2 : 97 ≤ (x : Int) := by omega
        have f3 : ¬ (x : Int) ≤ 102 := by omega
        have f4 : 65 ≤ (x : Int) := by omega
        have f5 : ¬ (x : Int) ≤ 70 := by omega
        have HQ := hid (HBJ.out (by omega))
        have hb9 : (16 : Int) ≤ 99 := by omega
        clear hk hg HST HBJ
        go_wp2_with fail
        go_ret
        exact ⟨by rw [HQ.out]; rfl, Below.refl _ _⟩
    · obtain rfl : j = d.length := by omega
      have hi : ¬ (d.length : Int) + 2 < (S.size : Int) := by rw [HSZ.out]; omega
      have HQ := hid (HOK.out acc HA.out)
      have ha : acc < 16777216 := by
        have h9 := HA.out.small 6 (by decide) hdl
        rw [show (16 : Nat) ^ 6 = 16777216 from by decide] at h9
        exact h9
      have HU := hid (fun W => HUT.out acc (by omega) W)
      have HX := hid (fun W => HXN.out acc W)
      unfold utfS at HU
      clear HUT HXN HIX HBAD HOK HA
      cases hvr : validR acc with
      | false =>
        have HN : Hid (Q = none) := by show _ = _; rw [HQ.out]; unfold runeN; rw [hvr]; rfl
        rw [hvr] at HU
        simp only [Bool.false_eq_true, if_false] at HU
        clear hvr
        go_wp2_with (first | (go_at_call 17; refine (HU.out _).mono ?_; rintro e W1 ⟨rfl, hb⟩; have HB := hid hb; clear hb) | fail)
        go_ret
        exact ⟨by rw [HN.out]; rfl, HB.out⟩
      | true =>
        rw [hvr] at HU
        simp only [if_true] at HU
        cases hxn : xmlN acc with
        | false =>
          have HN : Hid (Q = none) := by show _ = _; rw [HQ.out]; unfold runeN; rw [hvr, hxn]; rfl
          rw [hxn] at HX
          clear hvr hxn
          go_wp2_with (first | (go_at_call 17; refine (HU.out _).mono ?_; rintro e W1 ⟨rfl, hb⟩; have HB := hid hb; clear hb) | (go_at_call 24; refine (HX.out _).mono ?_; rintro e W2 ⟨rfl, rfl⟩) | fail)
          go_ret
          exact ⟨by rw [HN.out]; rfl, alloc_below HB.out HB.out.size _⟩
        | true =>
          have HN : Hid (Q = some acc) := by show _ = _; rw [HQ.out]; unfold runeN; rw [hvr, hxn]; rfl
          rw [hxn] at HX
          clear hvr hxn
          go_wp2_with (first | (go_at_call 17; refine (HU.out _).mono ?_; rintro e W1 ⟨rfl, hb⟩; have HB := hid hb; clear hb) | (go_at_call 24; refine (HX.out _).mono ?_; rintro e W2 ⟨rfl, rfl⟩) | fail)
          go_ret
          exact ⟨by rw [HN.out]; rfl, alloc_below HB.out HB.out.size _⟩
set_option maxHeartbeats 4000000 in
set_option maxRecDepth 100000 in
theorem refRef_dec (d : List UInt8) (hl : d.length ≤ 100000) (x0 : UInt8) (hd0 : d.getD 0 0 = x0) (hx0 : x0 ≠ 120) (h1 : 1 ≤ d.length) (w : World) : Calls Tryd.prog 29 #[.string (asS (35 :: d))] w fun e w' => e = .returned (.string (asS (strR (numR 10 7 d)))) ∧ Below w.heap.size w w' := by
  have hix0 : ∀ W, (Instr.index 9 (.string (asS (35 :: d))) (.int .i64 0)).run Tryd.prog W = .ok (.int .u8 35) W := fun W => str_ix (asS (35 :: d)) 0 (by rw [asS_size]; simp) W
  have hix1 : ∀ W, (Instr.index 9 (.string (asS (35 :: d))) (.int .i64 1)).run Tryd.prog W = .ok (.int .u8 x0.toNat) W := fun W => by
    have c := str_ix (asS (35 :: d)) 1 (by rw [asS_size, List.length_cons]; omega) W
    rw [asS_data, List.getD_cons_succ, hd0] at c
    exact c
  have hxx : ¬ (x0.toNat : Int) = 120 := fun e => hx0 (UInt8.toNat_inj.1 (by show x0.toNat = 120; omega))
  have hs : (asS (35 :: d)).size = d.length + 1 := by rw [asS_size]; rfl
  have HIX : Hid (∀ j, j < d.length → ∀ W, (Instr.index 9 (.string (asS (35 :: d))) (.int .i64 ((j : Int) + 1))).run Tryd.prog W = .ok (.int .u8 (d.getD j 0).toNat) W) := fun j hj W => by
    have c := str_ix (asS (35 :: d)) (j + 1) (by rw [hs]; omega) W
    exact c
  generalize asS (35 :: d) = S at hix0 hix1 hs HIX ⊢
  have hsz : (S.size : Int) = (d.length : Int) + 1 := by omega
  have h3 : ¬ (S.size : Int) < 2 := by omega
  have HSZ := hid hsz
  have h4 : (S.size : Int) ≤ 100002 := by omega
  clear hs hsz hd0 hx0
  have h0 : d ≠ [] := fun h => by rw [h] at h1; simp at h1
  have hq : ((S.size : Int) == 1) = false := by
    rw [beq_eq_false_iff_ne, HSZ.out]
    omega
  clear h1
  by_cases hm : 7 < d.length
  · have hm' : (7 : Int) < (S.size : Int) - 1 := by rw [HSZ.out]; omega
    have HR : Hid (numR 10 7 d = none) := numR_long hm
    rw [HR.out]
    clear hm HIX h0
    go_enter Tryd.func29, Tryd.ntmps29
    go_wp2_with fail
    go_ret
    exact ⟨rfl, Below.refl _ _⟩
  have hm' : ¬ (7 : Int) < (S.size : Int) - 1 := by rw [HSZ.out]; omega
  have hdl : d.length ≤ 7 := by omega
  have HBAD : Hid (∀ j, j < d.length → ¬ digE (d.getD j 0) < 10 → numR 10 7 d = none) := fun j hj h => numR_bad (okD_false hj h)
  have HOK : Hid (∀ acc, AtE 10 d d.length acc → numR 10 7 d = runeN acc) := fun acc h => by
    have e1 := h.all
    have e2 := h.val
    rw [List.take_length] at e1 e2
    rw [numR_ok h0 hdl e1, e2]
  have HUT := hid (fun v hv W => Utf8_any v hv W)
  have HXN := hid (fun n W => xml_num n W)
  clear hm h0
  generalize numR 10 7 d = Q at HBAD HOK ⊢
  go_enter Tryd.func29, Tryd.ntmps29
  go_wp2_with fail
  go_loop [6, 7] (fun n i => ∃ (j acc : Nat), n = .int .i64 (acc : Int) ∧ i = .int .i64 ((j : Int) + 1) ∧ j ≤ d.length ∧ Hid (AtE 10 d j acc)) (fun _ i => d.length + 1 - (intOf i).toNat)
  case atStart => exact ⟨0, 0, rfl, rfl, Nat.zero_le _, AtE.zero _ _⟩
  case round =>
    obtain ⟨j, acc, rfl, rfl, hj, HA⟩ := hrel
    by_cases hlt : j < d.length
    · have hi : (j : Int) + 1 < (S.size : Int) := by rw [HSZ.out]; omega
      have hix := HIX.out j hlt
      have ha : (acc : Int) < 1000000 := by
        have h9 := HA.out.small 6 (by decide) (by omega)
        rw [show (10 : Nat) ^ 6 = 1000000 from by decide] at h9
        omega
      have HST := hid (HA.out.step hlt)
      have HBJ := hid (HBAD.out j hlt)
      obtain ⟨c, hc⟩ : ∃ c, d.getD j 0 = c := ⟨_, rfl⟩
      rw [hc] at hix HST HBJ
      clear hc
      obtain ⟨x, hx⟩ : ∃ x, c.toNat = x := ⟨_, rfl⟩
      have hdg := digE_at hx
      have hx256 : (x : Int) < 256 := by have := c.toNat_lt; omega
      rw [hx] at hix
      generalize digE c = g at HST HBJ hdg
      clear hx
      rcases (show (x < 48) ∨ (48 ≤ x ∧ x ≤ 57) ∨ (58 ≤ x ∧ x ≤ 64) ∨ (65 ≤ x ∧ x ≤ 70) ∨ (71 ≤ x ∧ x ≤ 96) ∨ (97 ≤ x ∧ x ≤ 102) ∨ (103 ≤ x) by omega) with hk | hk | hk | hk | hk | hk | hk
      · have hg : g = 99 := by
          rw [hdg]
          repeat' split
          all_goals omega
        clear hdg
        have f0 : ¬ 48 ≤ (x : Int) := by omega
        have f1 : ¬ 97 ≤ (x : Int) := by omega
        have f2 : ¬ 65 ≤ (x : Int) := by omega
        have HQ := hid (HBJ.out (by omega))
        have hb9 : (10 : Int) ≤ 99 := by omega
        clear hk hg HST HBJ
        go_wp2_with fail
        go_ret
        exact ⟨by rw [HQ.out]; rfl, Below.refl _ _⟩
      · have hg : g = x - 48 := by
          rw [hdg]
          repeat' split
          all_goals omega
        clear hdg
        have f0 : 48 ≤ (x : Int) := by omega
        have f1 : (x : Int) ≤ 57 := by omega
        have HS2 := hid (HST.out (by omega))
        have HE : Hid (((acc * 10 + g : Nat) : Int) = (acc : Int) * 10 + ((x : Int) - 48)) := by show _ = _; omega
        have hb9 : ¬ (10 : Int) ≤ (x : Int) - 48 := by omega
        clear hk hg HST HBJ
        go_wp2_with fail
        go_round
        case rel => exact ⟨j + 1, acc * 10 + g, by rw [HE.out], by go_num, by omega, HS2⟩
        case measure => simp [intOf]; omega
      · have hg : g = 99 := by
          rw [hdg]
          repeat' split
          all_goals omega
        clear hdg
        have f0 : 48 ≤ (x : Int) := by omega
        have f1 : ¬ (x : Int) ≤ 57 := by omega
        have f2 : ¬ 97 ≤ (x : Int) := by omega
        have f3 : ¬ 65 ≤ (x : Int) := by omega
        have HQ := hid (HBJ.out (by omega))
        have hb9 : (10 : Int) ≤ 99 := by omega
        clear hk hg HST HBJ
        go_wp2_with fail
        go_ret
        exact ⟨by rw [HQ.out]; rfl, Below.refl _ _⟩
      · have hg : g = x - 65 + 10 := by
          rw [hdg]
          repeat' split
          all_goals omega
        clear hdg
        have f0 : 48 ≤ (x : Int) := by omega
        have f1 : ¬ (x : Int) ≤ 57 := by omega
        have f2 : ¬ 97 ≤ (x : Int) := by omega
        have f3 : 65 ≤ (x : Int) := by omega
        have f4 : (x : Int) ≤ 70 := by omega
        have HQ := hid (HBJ.out (by omega))
        have hb9 : (10 : Int) ≤ (x : Int) - 65 + 10 := by omega
        clear hk hg HST HBJ
        go_wp2_with fail
        go_ret
        exact ⟨by rw [HQ.out]; rfl, Below.refl _ _⟩
      · have hg : g = 99 := by
          rw [hdg]
          repeat' split
          all_goals omega
        clear hdg
        have f0 : 48 ≤ (x : Int) := by omega
        have f1 : ¬ (x : Int) ≤ 57 := by omega
        have f2 : ¬ 97 ≤ (x : Int) := by omega
        have f3 : 65 ≤ (x : Int) := by omega
        have f4 : ¬ (x : Int) ≤ 70 := by omega
        have HQ := hid (HBJ.out (by omega))
        have hb9 : (10 : Int) ≤ 99 := by omega
        clear hk hg HST HBJ
        go_wp2_with fail
        go_ret
        exact ⟨by rw [HQ.out]; rfl, Below.refl _ _⟩
      · have hg : g = x - 97 + 10 := by
          rw [hdg]
          repeat' split
          all_goals omega
        clear hdg
        have f0 : 48 ≤ (x : Int) := by omega
        have f1 : ¬ (x : Int) ≤ 57 := by omega
        have f2 : 97 ≤ (x : Int) := by omega
        have f3 : (x : Int) ≤ 102 := by omega
        have HQ := hid (HBJ.out (by omega))
        have hb9 : (10 : Int) ≤ (x : Int) - 97 + 10 := by omega
        clear hk hg HST HBJ
        go_wp2_with fail
        go_ret
        exact ⟨by rw [HQ.out]; rfl, Below.refl _ _⟩
      · have hg : g = 99 := by
          rw [hdg]
          repeat' split
          all_goals omega
        clear hdg
        have f0 : 48 ≤ (x : Int) := by omega
        have f1 : ¬ (x : Int) ≤ 57 := by omega
        have f2 : 97 ≤ (x : Int) := by omega
        have f3 : ¬ (x : Int) ≤ 102 := by omega
        have f4 : 65 ≤ (x : Int) := by omega
        have f5 : ¬ (x : Int) ≤ 70 := by omega
        have HQ := hid (HBJ.out (by omega))
        have hb9 : (10 : Int) ≤ 99 := by omega
        clear hk hg HST HBJ
        go_wp2_with fail
        go_ret
        exact ⟨by rw [HQ.out]; rfl, Below.refl _ _⟩
    · obtain rfl : j = d.length := by omega
      have hi : ¬ (d.length : Int) + 1 < (S.size : Int) := by rw [HSZ.out]; omega
      have HQ := hid (HOK.out acc HA.out)
      have ha : acc < 10000000 := by
        have h9 := HA.out.small 7 (by decide) hdl
        rw [show (10 : Nat) ^ 7 = 10000000 from by decide] at h9
        exact h9
      have HU := hid (fun W => HUT.out acc (by omega) W)
      have HX := hid (fun W => HXN.out acc W)
      unfold utfS at HU
      clear HUT HXN HIX HBAD HOK HA
      cases hvr : validR acc with
      | false =>
        have HN : Hid (Q = none) := by show _ = _; rw [HQ.out]; unfold runeN; rw [hvr]; rfl
        rw [hvr] at HU
        simp only [Bool.false_eq_true, if_false] at HU
        clear hvr
        go_wp2_with (first | (go_at_call 17; refine (HU.out _).mono ?_; rintro e W1 ⟨rfl, hb⟩; have HB := hid hb; clear hb) | fail)
        go_ret
        exact ⟨by rw [HN.out]; rfl, HB.out⟩
      | true =>
        rw [hvr] at HU
        simp only [if_true] at HU
        cases hxn : xmlN acc with
        | false =>
          have HN : Hid (Q = none) := by show _ = _; rw [HQ.out]; unfold runeN; rw [hvr, hxn]; rfl
          rw [hxn] at HX
          clear hvr hxn
          go_wp2_with (first | (go_at_call 17; refine (HU.out _).mono ?_; rintro e W1 ⟨rfl, hb⟩; have HB := hid hb; clear hb) | (go_at_call 24; refine (HX.out _).mono ?_; rintro e W2 ⟨rfl, rfl⟩) | fail)
          go_ret
          exact ⟨by rw [HN.out]; rfl, alloc_below HB.out HB.out.size _⟩
        | true =>
          have HN : Hid (Q = some acc) := by show _ = _; rw [HQ.out]; unfold runeN; rw [hvr, hxn]; rfl
          rw [hxn] at HX
          clear hvr hxn
          go_wp2_with (first | (go_at_call 17; refine (HU.out _).mono ?_; rintro e W1 ⟨rfl, hb⟩; have HB := hid hb; clear hb) | (go_at_call 24; refine (HX.out _).mono ?_; rintro e W2 ⟨rfl, rfl⟩) | fail)
          go_ret
          exact ⟨by rw [HN.out]; rfl, alloc_below HB.out HB.out.size _⟩
theorem refRef_any (l : List UInt8) (hl : l.length ≤ 100000) (w : World) : Calls Tryd.prog 29 #[.string (asS l)] w fun e w' => e = .returned (.string (asS (strR (runeR l)))) ∧ Below w.heap.size w w' := by
  by_cases h : l.length < 2 ∨ l.getD 0 0 ≠ 35
  · exact refRef_name l hl h w
  · match l, h with
    | [], h => exact absurd (.inl (by simp)) h
    | [c], h => exact absurd (.inl (by simp)) h
    | c :: x :: d, h =>
      obtain rfl : c = 35 := by
        by_cases hc : c = 35
        · exact hc
        · exact absurd (.inr (by simpa using hc)) h
      simp only [List.length_cons] at hl
      by_cases hx : x = 120
      · subst hx
        rw [run_hex]
        exact refRef_hex d (by omega) w
      · rw [run_dec x d hx]
        exact refRef_dec (x :: d) (by simp; omega) x (by simp) hx (by simp) w
end Go.Proofs.YtkeghpghhmajiaaDoor
