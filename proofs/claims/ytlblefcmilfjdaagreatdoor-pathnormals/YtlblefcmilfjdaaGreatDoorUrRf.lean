
/- What the reference's find, digits and host do. -/
import Derived.Test.YtlblefcmilfjdaaGreatDoorUrRef
import Derived.Test.YtlblefcmilfjdaaGreatDoorIpRefP
namespace Go.Proofs.YtlblefcmilfjdaaGreatDoor
set_option linter.unusedVariables false
set_option linter.unusedSimpArgs false
open Go.RowKit Go.BigFrame

theorem find_cons (of : List UInt8) (c : UInt8) (r : List UInt8) : findU of (c :: r) = if of.contains c then 0 else findU of r + 1 := by
  unfold findU
  rw [List.findIdx_cons]
  cases of.contains c <;> rfl
set_option maxHeartbeats 2000000 in
/-- The first of some bytes from k on. -/
theorem find_any7 (l of : List UInt8) (hl : l.length ≤ 1000000) (ho : of.length ≤ 100) (k0 : Nat) (hk0 : k0 ≤ l.length) (w : World) : Calls Tryz.prog 55 #[.string (asS l), .int .i64 (k0 : Int), .string (asS of)] w fun e w' => e = .returned (.int .i64 ((k0 + findU of (l.drop k0) : Nat) : Int)) ∧ w' = w := by
  have HIX : Hid (∀ k, k < l.length → ∀ W, (Instr.index 9 (.string (asS l)) (.int .i64 (k : Int))).run Tryz.prog W = .ok (.int .u8 (l.getD k 0).toNat) W) := fun k hk W => str_ix (asS l) k (by rw [asS_size]; exact hk) W
  have HWI := hid (fun c W => within_any c (asS of) (by rw [asS_size]; omega) W)
  have HD : Hid (∀ k, k < l.length → findU of (l.drop k) = if of.contains (l.getD k 0) then 0 else findU of (l.drop (k + 1)) + 1) := fun k h => by rw [drop_at l k h, find_cons]
  have HEND : Hid (findU of (l.drop l.length) = 0) := by show _ = _; rw [List.drop_length]; rfl
  have hsz := asS_size l
  have HR0 : Hid (k0 + findU of (l.drop k0) = k0 + findU of (l.drop k0)) := rfl
  generalize hR : k0 + findU of (l.drop k0) = R at HR0 ⊢
  have HR1 : Hid (R = k0 + findU of (l.drop k0)) := hR.symm
  clear hR HR0
  generalize asS l = S at HIX hsz ⊢
  have HSZ := hid hsz
  have hS : S.size ≤ 1000000 := by omega
  have hk0' : k0 ≤ S.size := by omega
  clear hsz hk0 hl
  go_enter Tryz.func55, Tryz.ntmps55
  go_wp2_with fail
  go_loop [7] (fun i => ∃ k : Nat, k ≤ S.size ∧ i = .int .i64 (k : Int) ∧ Hid (R = k + findU of (l.drop k))) (fun i => S.size - (intOf i).toNat)
  case atStart => exact ⟨k0, hk0', rfl, HR1⟩
  case round =>
    obtain ⟨k, hk, rfl, HP⟩ := hrel
    by_cases hlt : k < S.size
    · have hi : (k : Int) < (S.size : Int) := by omega
      have hkl : k < l.length := by have := HSZ.out; omega
      have hix := HIX.out k hkl
      have hd := HD.out k hkl
      generalize l.getD k 0 = x at hix hd
      have HW := hid (HWI.out x)
      cases hb : of.contains x with
      | true =>
        rw [hb, if_pos rfl] at hd
        have HW2 : Hid (∀ W, Calls Tryz.prog 58 #[.int .u8 x.toNat, .string (asS of)] W fun e w' => e = .returned (.bool true) ∧ w' = W) := fun W => by have := HW.out W; rw [asS_data, hb] at this; exact this
        have HQ : Hid (R = k) := by show _ = _; rw [HP.out, hd]; rfl
        clear hb hd HW
        go_wp2_with fail
        refine (HW2.out _).mono ?_
        rintro e W ⟨rfl, rfl⟩
        go_wp2_with fail
        go_ret
        exact ⟨by rw [HQ.out]; rfl, rfl⟩
      | false =>
        rw [hb, if_neg (by decide)] at hd
        have HW2 : Hid (∀ W, Calls Tryz.prog 58 #[.int .u8 x.toNat, .string (asS of)] W fun e w' => e = .returned (.bool false) ∧ w' = W) := fun W => by have := HW.out W; rw [asS_data, hb] at this; exact this
        have HQ : Hid (R = (k + 1) + findU of (l.drop (k + 1))) := by show _ = _; rw [HP.out, hd]; omega
        clear hb hd HW
        go_wp2_with fail
        refine (HW2.out _).mono ?_
        rintro e W ⟨rfl, rfl⟩
        go_wp2_with fail
        go_round
        case rel => exact ⟨k + 1, by omega, by go_num, HQ⟩
        case measure => simp [intOf]; omega
    · have hi : ¬ (k : Int) < (S.size : Int) := by omega
      have HQ : Hid (R = S.size) := by
        show _ = _
        have h1 : k = l.length := by have := HSZ.out; omega
        rw [HP.out, h1, HEND.out, HSZ.out]; rfl
      go_wp2_with fail
      go_ret
      exact ⟨by rw [HQ.out]; rfl, rfl⟩
set_option maxHeartbeats 1000000 in
theorem digits7_any (l : List UInt8) (hl : l.length ≤ 1000000) (w : World) : Calls Tryz.prog 59 #[.string (asS l)] w fun e w' => e = .returned (.bool (l.all digitU)) ∧ w' = w := by
  have HIX : Hid (∀ k, k < l.length → ∀ W, (Instr.index 9 (.string (asS l)) (.int .i64 (k : Int))).run Tryz.prog W = .ok (.int .u8 (l.getD k 0).toNat) W) := fun k hk W => str_ix (asS l) k (by rw [asS_size]; exact hk) W
  have HDI := hid digit7_any
  have HBAD : Hid (∀ k, k < l.length → digitU (l.getD k 0) = false → l.all digitU = false) := fun k hk h => by
    rw [List.all_eq_false]
    refine ⟨l.getD k 0, ?_, by rw [h]; simp⟩
    rw [List.getD_eq_getElem?_getD, List.getElem?_eq_getElem hk]
    exact List.getElem_mem _
  have HGOOD : Hid (∀ k, l.length ≤ k → (l.take k).all digitU = true → l.all digitU = true) := fun k hk h => by
    rwa [List.take_of_length_le hk] at h
  have HSTEP := hid (fun k (h : k < l.length) => all_take digitU l k h)
  have HSZ := hid (asS_size l)
  generalize l.all digitU = R at HBAD HGOOD ⊢
  generalize asS l = S at HIX HSZ ⊢
  have hS : S.size ≤ 1000000 := by rw [HSZ.out]; exact hl
  go_enter Tryz.func59, Tryz.ntmps59
  go_wp2_with fail
  go_loop [3] (fun i => ∃ k : Nat, k ≤ S.size ∧ i = .int .i64 (k : Int) ∧ Hid ((l.take k).all digitU = true)) (fun i => S.size - (intOf i).toNat)
  case atStart => exact ⟨0, Nat.zero_le _, rfl, by show _ = _; simp⟩
  case round =>
    obtain ⟨k, hk, rfl, HP⟩ := hrel
    by_cases hlt : k < S.size
    · have hi : (k : Int) < (S.size : Int) := by omega
      have hkl : k < l.length := by have := HSZ.out; omega
      have hix := HIX.out k hkl
      have HST := hid (HSTEP.out k hkl)
      have HBA := hid (HBAD.out k hkl)
      generalize l.getD k 0 = x at hix HST HBA
      have HW := hid (HDI.out x)
      cases hb : digitU x with
      | true =>
        rw [hb] at HW HST
        clear hb
        go_wp2_with fail
        refine (HW.out _).mono ?_
        rintro e W ⟨rfl, rfl⟩
        go_wp2_with fail
        go_round
        case rel => exact ⟨k + 1, by omega, by go_num, by show _ = _; rw [HST.out, HP.out]; rfl⟩
        case measure => simp [intOf]; omega
      | false =>
        have HQ := hid (HBA.out hb)
        rw [hb] at HW
        clear hb
        go_wp2_with fail
        refine (HW.out _).mono ?_
        rintro e W ⟨rfl, rfl⟩
        go_wp2_with fail
        go_ret
        exact ⟨by rw [HQ.out]; rfl, rfl⟩
    · have hi : ¬ (k : Int) < (S.size : Int) := by omega
      have HQ := hid (HGOOD.out k (by have := HSZ.out; omega) HP.out)
      go_wp2_with fail
      go_ret
      exact ⟨by rw [HQ.out]; rfl, rfl⟩
theorem host_yes (l : List UInt8) (h : 2 ≤ l.length ∧ l.getD 0 0 = 91 ∧ l.getD (l.length - 1) 0 = 93) : hostU l = ((parseA ((l.drop 1).take (l.length - 2))).isSome && paV (parseA ((l.drop 1).take (l.length - 2)))) := by
  unfold hostU
  rw [if_pos h]
  cases parseA ((l.drop 1).take (l.length - 2)) with
  | none => rfl
  | some p => rfl
theorem host_not (l : List UInt8) (h : ¬ (2 ≤ l.length ∧ l.getD 0 0 = 91 ∧ l.getD (l.length - 1) 0 = 93)) : hostU l = decide (findU [58, 91, 93, 64] l = l.length) := by
  unfold hostU
  rw [if_neg h]
set_option maxHeartbeats 4000000 in
set_option maxRecDepth 100000 in
theorem host7_any (l : List UInt8) (hl : l.length ≤ 100000) (w : World) : Calls Tryz.prog 60 #[.string (asS l)] w fun e w' => e = .returned (.bool (hostU l)) ∧ Below w.heap.size w w' := by
  have HIX : Hid (∀ k, k < l.length → ∀ W, (Instr.index 9 (.string (asS l)) (.int .i64 (k : Int))).run Tryz.prog W = .ok (.int .u8 (l.getD k 0).toNat) W) := fun k hk W => str_ix (asS l) k (by rw [asS_size]; exact hk) W
  have hsz := asS_size l
  have HFI : Hid (∀ W, Calls Tryz.prog 55 #[.string (asS l), .int .i64 0, .string ⟨#[58, 91, 93, 64]⟩] W fun e w' => e = .returned (.int .i64 ((findU [58, 91, 93, 64] l : Nat) : Int)) ∧ w' = W) := fun W => by
    have := find_any7 l [58, 91, 93, 64] (by omega) (by simp) 0 (by omega) W
    rw [List.drop_zero, Nat.zero_add] at this
    exact this
  have hfl := findU_le [58, 91, 93, 64] l
  by_cases hY : 2 ≤ l.length ∧ l.getD 0 0 = 91 ∧ l.getD (l.length - 1) 0 = 93
  · have HH := hid (host_yes l hY)
    obtain ⟨h2, h0, h1⟩ := hY
    have i0 := HIX.out 0 (by omega)
    have i1 := HIX.out (l.length - 1) (by omega)
    rw [h0] at i0
    rw [h1] at i1
    have hE : (asS l).extract 1 (l.length - 1) = asS ((l.drop 1).take (l.length - 2)) := by
      rw [ext_asS, asS_data, show l.length - 1 - 1 = l.length - 2 from by omega]
    have hsl := slice_run (asS l) 1 (l.length - 1) 1 ((l.length : Int) - 1) rfl (by omega) (by omega) (by omega) _ hE
    have e1 : (((l.length - 1 : Nat)) : Int) = (l.length : Int) - 1 := by omega
    rw [e1] at i1
    have hin : ((l.drop 1).take (l.length - 2)).length ≤ 100000 := by rw [List.length_take]; omega
    have HP := hid (fun W => refParse_any (asS ((l.drop 1).take (l.length - 2))) (by rw [asS_size]; omega) W)
    rw [asS_data] at HP
    have HBL := hid (paB_len ((l.drop 1).take (l.length - 2)))
    generalize hostU l = R at HH ⊢
    generalize asS ((l.drop 1).take (l.length - 2)) = T at hsl HP
    generalize (parseA ((l.drop 1).take (l.length - 2))).isSome = ok at HP HH
    generalize paV (parseA ((l.drop 1).take (l.length - 2))) = V at HP HH
    generalize paB (parseA ((l.drop 1).take (l.length - 2))) = B at HP HBL
    have hs2 : (2 : Int) ≤ ((asS l).size : Int) := by omega
    rw [← hsz] at i1 hsl
    have i0' : ∀ W, (Instr.index 9 (.string (asS l)) (.int .i64 0)).run Tryz.prog W = .ok (.int .u8 91) W := i0
    have i1' : ∀ W, (Instr.index 9 (.string (asS l)) (.int .i64 (((asS l).size : Int) - 1))).run Tryz.prog W = .ok (.int .u8 93) W := i1
    have hbd : (asS l).size ≤ 100000 := by omega
    generalize asS l = S at hsl hs2 i0' i1' hbd ⊢
    have hw : wrap64 ((S.size : Int) - 1) = (S.size : Int) - 1 := by unfold wrap64; omega
    clear hE e1 h0 h1 h2 hsz HFI HIX hfl i0 i1 hin
    go_enter Tryz.func60, Tryz.ntmps60
    go_wp2_with fail
    refine (HP.out _).mono ?_
    rintro e W1 ⟨rfl, hb1⟩
    have HB1 := hid hb1
    clear hb1
    go_wp2_with (first
      | (refine store_addr rfl _ _ rfl W1.heap.size V B HBL.out rfl rfl _ (heap_alloc_new W1 _) rfl ?_)
      | fail)
    intro W2 hO2 hW2
    have HB2 := hid ((alloc_below HB1.out HB1.out.size _).trans (hO2.below HB1.out.size))
    have hc : W2.cell? ⟨W1.heap.size, 0, none⟩ = some (.bool V) := by rw [cell_of_row _ _ _ _ _ _ hW2]; exact acs_zero V B
    clear hO2 hW2
    cases ok with
    | true =>
      go_wp2_with fail
      go_ret
      exact ⟨by rw [HH.out]; rfl, HB2.out⟩
    | false =>
      clear hc
      go_wp2_with fail
      go_ret
      exact ⟨by rw [HH.out]; rfl, HB2.out⟩
  · have HH := hid (host_not l hY)
    have HQ : Hid (hostU l = decide (((findU [58, 91, 93, 64] l : Nat) : Int) = ((asS l).size : Int))) := by
      show _ = _
      rw [HH.out, hsz]
      exact decide_eq_decide.2 (by omega)
    generalize hostU l = R at HQ HH ⊢
    generalize findU [58, 91, 93, 64] l = f at HQ HFI HH hfl
    have hbd : (asS l).size ≤ 100000 := by omega
    by_cases h2 : 2 ≤ l.length
    · have i0 := HIX.out 0 (by omega)
      have i1 := HIX.out (l.length - 1) (by omega)
      have e1 : (((l.length - 1 : Nat)) : Int) = (l.length : Int) - 1 := by omega
      have hN : ¬ (l.getD 0 0 = 91 ∧ l.getD (l.length - 1) 0 = 93) := fun h => hY ⟨h2, h⟩
      generalize l.getD 0 0 = a at i0 hN
      generalize l.getD (l.length - 1) 0 = z at i1 hN
      rw [e1, ← hsz] at i1
      have hs2 : (2 : Int) ≤ ((asS l).size : Int) := by omega
      have hw : wrap64 (((asS l).size : Int) - 1) = ((asS l).size : Int) - 1 := by unfold wrap64; omega
      have i0' : ∀ W, (Instr.index 9 (.string (asS l)) (.int .i64 0)).run Tryz.prog W = .ok (.int .u8 a.toNat) W := i0
      generalize asS l = S at HFI HQ i0' i1 hs2 hw hbd ⊢
      clear HIX hY h2 e1 hsz HH hfl i0
      by_cases ha : a = 91
      · have hz : z ≠ 93 := fun h => hN ⟨ha, h⟩
        have ha' : (a.toNat : Int) = 91 := by rw [ha]; rfl
        have hz' : ¬ (z.toNat : Int) = 93 := fun h => hz (UInt8.toNat_inj.1 (by show z.toNat = 93; omega))
        clear hN ha hz
        go_enter Tryz.func60, Tryz.ntmps60
        go_wp2_with fail
        refine (HFI.out _).mono ?_
        rintro e W1 ⟨rfl, rfl⟩
        clear ha' hz'
        go_wp2_with fail
        go_ret
        exact ⟨by rw [HQ.out]; rfl, Below.refl _ _⟩
      · have ha' : ¬ (a.toNat : Int) = 91 := fun h => ha (UInt8.toNat_inj.1 (by show a.toNat = 91; omega))
        clear hN ha
        go_enter Tryz.func60, Tryz.ntmps60
        go_wp2_with fail
        refine (HFI.out _).mono ?_
        rintro e W1 ⟨rfl, rfl⟩
        go_wp2_with fail
        go_ret
        exact ⟨by rw [HQ.out]; rfl, Below.refl _ _⟩
    · have hs2 : ¬ (2 : Int) ≤ ((asS l).size : Int) := by omega
      generalize asS l = S at HFI HQ hs2 hbd ⊢
      clear HIX hY h2 hsz HH hfl
      go_enter Tryz.func60, Tryz.ntmps60
      go_wp2_with fail
      refine (HFI.out _).mono ?_
      rintro e W1 ⟨rfl, rfl⟩
      go_wp2_with fail
      go_ret
      exact ⟨by rw [HQ.out]; rfl, Below.refl _ _⟩
end Go.Proofs.YtlblefcmilfjdaaGreatDoor
