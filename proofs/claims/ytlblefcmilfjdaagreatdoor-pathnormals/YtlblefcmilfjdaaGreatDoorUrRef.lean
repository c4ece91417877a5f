
/- What the reference's small functions do: letter, digit, Within, Stands. -/
import Derived.Test.YtlblefcmilfjdaaGreatDoorUrUn
namespace Go.Proofs.YtlblefcmilfjdaaGreatDoor
set_option linter.unusedVariables false
set_option linter.unusedSimpArgs false
open Go.RowKit Go.BigFrame

theorem letter_any (c : UInt8) (w : World) : Calls Tryz.prog 56 #[.int .u8 c.toNat] w fun e w' => e = .returned (.bool (letterU c)) ∧ w' = w := by
  have hc := c.toNat_lt
  have HL : Hid (letterU c = (decide (97 ≤ c.toNat ∧ c.toNat ≤ 122) || decide (65 ≤ c.toNat ∧ c.toNat ≤ 90))) := rfl
  generalize letterU c = R at HL ⊢
  by_cases h1 : 97 ≤ c.toNat
  · by_cases h2 : c.toNat ≤ 122
    · have HQ : Hid (R = true) := by show _ = _; rw [HL.out, decide_eq_true ⟨h1, h2⟩]; rfl
      have h1' : (97 : Int) ≤ c.toNat := by omega
      have h2' : (c.toNat : Int) ≤ 122 := by omega
      go_enter Tryz.func56, Tryz.ntmps56
      go_wp2_with fail
      go_ret
      exact ⟨by rw [HQ.out]; rfl, rfl⟩
    · have HQ : Hid (R = false) := by show _ = _; rw [HL.out, decide_eq_false (by omega), decide_eq_false (by omega)]; rfl
      have h1' : (97 : Int) ≤ c.toNat := by omega
      have h2' : ¬ (c.toNat : Int) ≤ 122 := by omega
      have h3' : (65 : Int) ≤ c.toNat := by omega
      have h4' : ¬ (c.toNat : Int) ≤ 90 := by omega
      go_enter Tryz.func56, Tryz.ntmps56
      go_wp2_with fail
      go_ret
      exact ⟨by rw [HQ.out]; rfl, rfl⟩
  · have h1' : ¬ (97 : Int) ≤ c.toNat := by omega
    by_cases h3 : 65 ≤ c.toNat
    · have h3' : (65 : Int) ≤ c.toNat := by omega
      by_cases h4 : c.toNat ≤ 90
      · have HQ : Hid (R = true) := by show _ = _; rw [HL.out, decide_eq_false (by omega), decide_eq_true ⟨h3, h4⟩]; rfl
        have h4' : (c.toNat : Int) ≤ 90 := by omega
        go_enter Tryz.func56, Tryz.ntmps56
        go_wp2_with fail
        go_ret
        exact ⟨by rw [HQ.out]; rfl, rfl⟩
      · have HQ : Hid (R = false) := by show _ = _; rw [HL.out, decide_eq_false (by omega), decide_eq_false (by omega)]; rfl
        have h4' : ¬ (c.toNat : Int) ≤ 90 := by omega
        go_enter Tryz.func56, Tryz.ntmps56
        go_wp2_with fail
        go_ret
        exact ⟨by rw [HQ.out]; rfl, rfl⟩
    · have HQ : Hid (R = false) := by show _ = _; rw [HL.out, decide_eq_false (by omega), decide_eq_false (by omega)]; rfl
      have h3' : ¬ (65 : Int) ≤ c.toNat := by omega
      go_enter Tryz.func56, Tryz.ntmps56
      go_wp2_with fail
      go_ret
      exact ⟨by rw [HQ.out]; rfl, rfl⟩
theorem digit7_any (c : UInt8) (w : World) : Calls Tryz.prog 57 #[.int .u8 c.toNat] w fun e w' => e = .returned (.bool (digitU c)) ∧ w' = w := by
  have hc := c.toNat_lt
  have HL : Hid (digitU c = decide (48 ≤ c.toNat ∧ c.toNat ≤ 57)) := rfl
  generalize digitU c = R at HL ⊢
  by_cases h1 : 48 ≤ c.toNat
  · have h1' : (48 : Int) ≤ c.toNat := by omega
    by_cases h2 : c.toNat ≤ 57
    · have HQ : Hid (R = true) := by show _ = _; rw [HL.out, decide_eq_true ⟨h1, h2⟩]
      have h2' : (c.toNat : Int) ≤ 57 := by omega
      go_enter Tryz.func57, Tryz.ntmps57
      go_wp2_with fail
      go_ret
      exact ⟨by rw [HQ.out]; rfl, rfl⟩
    · have HQ : Hid (R = false) := by show _ = _; rw [HL.out, decide_eq_false (by omega)]
      have h2' : ¬ (c.toNat : Int) ≤ 57 := by omega
      go_enter Tryz.func57, Tryz.ntmps57
      go_wp2_with fail
      go_ret
      exact ⟨by rw [HQ.out]; rfl, rfl⟩
  · have HQ : Hid (R = false) := by show _ = _; rw [HL.out, decide_eq_false (by omega)]
    have h1' : ¬ (48 : Int) ≤ c.toNat := by omega
    go_enter Tryz.func57, Tryz.ntmps57
    go_wp2_with fail
    go_ret
    exact ⟨by rw [HQ.out]; rfl, rfl⟩
theorem u8_eq_iff (x c : UInt8) : ((x.toNat : Int) = (c.toNat : Int)) ↔ x = c := by
  constructor
  · intro h; exact UInt8.toNat_inj.1 (by omega)
  · rintro rfl; rfl
set_option maxHeartbeats 1000000 in
theorem within_any (c : UInt8) (s : ByteArray) (hs : s.size ≤ 1000000) (w : World) : Calls Tryz.prog 58 #[.int .u8 c.toNat, .string s] w fun e w' => e = .returned (.bool (s.data.toList.contains c)) ∧ w' = w := by
  have HIX := hid (fun k h W => str_ix s k h W)
  have HLN : Hid (s.data.toList.length = s.size) := ba_len s
  have HYES : Hid (∀ k, k < s.size → s.data.toList.getD k 0 = c → s.data.toList.contains c = true) := fun k hk h => by
    rw [List.contains_eq_mem, decide_eq_true_iff, ← h, List.getD_eq_getElem?_getD, List.getElem?_eq_getElem (by rw [HLN.out]; exact hk)]
    exact List.getElem_mem _
  have HNO : Hid (∀ k, s.size ≤ k → (∀ j, j < k → s.data.toList.getD j 0 ≠ c) → s.data.toList.contains c = false) := fun k hk h => by
    rw [List.contains_eq_mem, decide_eq_false_iff_not]
    intro hm
    obtain ⟨j, hj, hc⟩ := List.getElem_of_mem hm
    refine h j (by rw [HLN.out] at hj; omega) ?_
    rw [List.getD_eq_getElem?_getD, List.getElem?_eq_getElem hj]; exact hc
  generalize s.data.toList.contains c = R at HYES HNO ⊢
  go_enter Tryz.func58, Tryz.ntmps58
  go_wp2_with fail
  go_loop [5] (fun i => ∃ k : Nat, k ≤ s.size ∧ i = .int .i64 (k : Int) ∧ Hid (∀ j, j < k → s.data.toList.getD j 0 ≠ c)) (fun i => s.size - (intOf i).toNat)
  case atStart => exact ⟨0, Nat.zero_le _, rfl, fun j hj => by omega⟩
  case round =>
    obtain ⟨k, hk, rfl, HP⟩ := hrel
    by_cases hlt : k < s.size
    · have hi : (k : Int) < (s.size : Int) := by omega
      have hix := HIX.out k hlt
      generalize hx : s.data.toList.getD k 0 = x at hix
      by_cases hxc : x = c
      · have HR := hid (HYES.out k hlt (by rw [hx]; exact hxc))
        have he : (x.toNat : Int) = (c.toNat : Int) := by rw [hxc]
        clear hx hxc
        go_wp2_with fail
        go_ret
        exact ⟨by rw [HR.out]; rfl, rfl⟩
      · have hne : ¬ (x.toNat : Int) = (c.toNat : Int) := fun h => hxc ((u8_eq_iff x c).1 h)
        have HX : Hid (s.data.toList.getD k 0 ≠ c) := by show _ ≠ _; rw [hx]; exact hxc
        clear hx hxc
        go_wp2_with fail
        go_round
        case rel =>
          refine ⟨k + 1, by omega, by go_num, fun j hj => ?_⟩
          rcases Nat.lt_succ_iff_lt_or_eq.1 hj with h | rfl
          · exact HP.out j h
          · exact HX.out
        case measure => simp [intOf]; omega
    · have hi : ¬ (k : Int) < (s.size : Int) := by omega
      have HR := hid (HNO.out k (by omega) HP.out)
      go_wp2_with fail
      go_ret
      exact ⟨by rw [HR.out]; rfl, rfl⟩

/-! Stands -/
theorem two_of (r : List UInt8) (h : 2 ≤ r.length) : ∃ a b r2, r = a :: b :: r2 := by
  match r, h with
  | [], h => simp at h
  | [_], h => simp at h
  | a :: b :: r2, _ => exact ⟨a, b, r2, rfl⟩
def BAD8 : List UInt8 := [34, 60, 62, 92, 94, 123, 124, 125]
theorem byteU_ref (c : UInt8) : byteU c = (decide (33 ≤ c.toNat ∧ c.toNat ≤ 126) && !BAD8.contains c && c != 96) := rfl
theorem hexTwo_short (r : List UInt8) (h : r.length < 2) : hexTwo r = false := by
  match r, h with
  | [], _ => rfl
  | [_], _ => rfl
  | _ :: _ :: _, h => simp at h; omega
set_option maxHeartbeats 4000000 in
set_option maxRecDepth 100000 in
theorem refStands_any (l : List UInt8) (hl : l.length ≤ 1000000) (w : World) : Calls Tryz.prog 54 #[.string (asS l)] w fun e w' => e = .returned (.bool (standsU l)) ∧ Below w.heap.size w w' := by
  have HSZ := hid (asS_size l)
  have HUH := hid (fun a b W => refUnhex_two a b W)
  have HIX : Hid (∀ k, k < l.length → ∀ W, (Instr.index 9 (.string (asS l)) (.int .i64 (k : Int))).run Tryz.prog W = .ok (.int .u8 (l.getD k 0).toNat) W) := fun k hk W => str_ix (asS l) k (by rw [asS_size]; exact hk) W
  have HD := hid (fun k (h : k < l.length) => drop_at l k h)
  have HX2 : Hid (∀ k a b r, l.drop (k + 1) = a :: b :: r → (asS l).extract (k + 1) (k + 3) = asS [a, b]) := fun k a b r h => by
    rw [ext_asS, asS_data, h, show k + 3 - (k + 1) = 2 from by omega]; rfl
  have HWI : Hid (∀ (c : UInt8) W, Calls Tryz.prog 58 #[.int .u8 c.toNat, .string ⟨#[34, 60, 62, 92, 94, 123, 124, 125]⟩] W fun e w' => e = .returned (.bool (BAD8.contains c)) ∧ w' = W) := fun c W => within_any c ⟨#[34, 60, 62, 92, 94, 123, 124, 125]⟩ (by decide) W
  have HS0 : Hid (standsU l = standsU (l.drop 0)) := rfl
  generalize standsU l = R at HS0 ⊢
  generalize asS l = S at HSZ HIX HX2 ⊢
  have hS : S.size ≤ 1000000 := by rw [HSZ.out]; exact hl
  go_enter Tryz.func54, Tryz.ntmps54
  go_wp2_with fail
  go_loopw [3] (fun i wr => ∃ k : Nat, k ≤ S.size ∧ i = .int .i64 (k : Int) ∧ Hid (R = standsU (l.drop k)) ∧ Hid (Below w.heap.size w wr)) (fun i _ => S.size - (intOf i).toNat)
  case atStart => exact ⟨0, Nat.zero_le _, rfl, HS0, Below.refl _ _⟩
  case round =>
    obtain ⟨k, hk, rfl, HR, HB⟩ := hrel
    by_cases hlt : k < S.size
    · have hi : (k : Int) < (S.size : Int) := by omega
      have hkl : k < l.length := by have := HSZ.out; omega
      have hix := HIX.out k hkl
      have hdr := HD.out k hkl
      generalize l.getD k 0 = x at hix hdr
      generalize hrr : l.drop (k + 1) = r at hdr
      have HRR := hid hrr
      have HR2 : Hid (R = (byteU x && (x != 37 || hexTwo r) && standsU r)) := by show _ = _; rw [HR.out, hdr, stands_cons]
      have HBY := hid (byteU_ref x)
      have hx := x.toNat_lt
      have HW := hid (HWI.out x)
      have hrl : r.length = l.length - (k + 1) := by rw [← hrr, List.length_drop]
      have HRL := hid hrl
      clear hdr hrr hrl
      have hw1 : wrap64 ((k : Int) + 1) = (k : Int) + 1 := by unfold wrap64; omega
      have hw3 : wrap64 ((k : Int) + 3) = (k : Int) + 3 := by unfold wrap64; omega
      by_cases h1 : x.toNat < 33
      · have h1' : (x.toNat : Int) < 33 := by omega
        have HQ : Hid (R = false) := by show _ = _; rw [HR2.out, HBY.out, decide_eq_false (by omega)]; rfl
        go_wp2_with fail
        go_ret
        exact ⟨by rw [HQ.out]; rfl, HB.out⟩
      · have h1' : ¬ (x.toNat : Int) < 33 := by omega
        by_cases h2 : 126 < x.toNat
        · have h2' : (126 : Int) < (x.toNat : Int) := by omega
          have HQ : Hid (R = false) := by show _ = _; rw [HR2.out, HBY.out, decide_eq_false (by omega)]; rfl
          go_wp2_with fail
          go_ret
          exact ⟨by rw [HQ.out]; rfl, HB.out⟩
        · have h2' : ¬ (126 : Int) < (x.toNat : Int) := by omega
          cases hb : BAD8.contains x with
          | true =>
            have HQ : Hid (R = false) := by show _ = _; rw [HR2.out, HBY.out, hb]; simp
            rw [hb] at HW
            clear hb
            go_wp2_with fail
            refine (HW.out _).mono ?_
            rintro e W ⟨rfl, rfl⟩
            go_wp2_with fail
            go_ret
            exact ⟨by rw [HQ.out]; rfl, HB.out⟩
          | false =>
            rw [hb] at HW
            by_cases h96 : x = 96
            · have HQ : Hid (R = false) := by show _ = _; rw [HR2.out, HBY.out, h96]; simp
              have H96 : Hid ((x.toNat : Int) = 96) := by show _ = _; rw [h96]; rfl
              clear hb h96
              go_wp2_with fail
              refine (HW.out _).mono ?_
              rintro e W ⟨rfl, rfl⟩
              have h96' := H96.out
              go_wp2_with fail
              go_ret
              exact ⟨by rw [HQ.out]; rfl, HB.out⟩
            · have h96' : ¬ (x.toNat : Int) = 96 := fun h => h96 (UInt8.toNat_inj.1 (by show x.toNat = 96; omega))
              have HQ : Hid (R = ((x != 37 || hexTwo r) && standsU r)) := by
                show _ = _
                rw [HR2.out, HBY.out, hb, decide_eq_true (by omega), show (x != 96) = true from by simpa using h96]; rfl
              clear hb h96
              by_cases h37 : x = 37
              · have H37 : Hid ((x.toNat : Int) = 37) := by show _ = _; rw [h37]; rfl
                have HQ3 : Hid (R = (hexTwo r && standsU r)) := by show _ = _; rw [HQ.out, h37]; rfl
                clear h37
                by_cases h3 : S.size < k + 3
                · have h3' : (S.size : Int) < (k : Int) + 3 := by omega
                  have HQ4 : Hid (R = false) := by show _ = _; rw [HQ3.out, hexTwo_short r (by rw [HRL.out]; have := HSZ.out; omega)]; rfl
                  go_wp2_with fail
                  refine (HW.out _).mono ?_
                  rintro e W ⟨rfl, rfl⟩
                  have h37' := H37.out
                  go_wp2_with fail
                  go_ret
                  exact ⟨by rw [HQ4.out]; rfl, HB.out⟩
                · have h3' : ¬ (S.size : Int) < (k : Int) + 3 := by omega
                  obtain ⟨a, b, r2, hr⟩ := two_of r (by rw [HRL.out]; have := HSZ.out; omega)
                  have hx2 := HX2.out k a b r2 (by rw [HRR.out]; exact hr)
                  have hsl := slice_run S (k + 1) (k + 3) ((k : Int) + 1) ((k : Int) + 3) (by omega) (by omega) (by omega) (by omega) _ hx2
                  have HU3 := hid (HUH.out a b)
                  have HQ4 : Hid (R = ((hexU a && hexU b) && standsU r)) := by show _ = _; rw [HQ3.out, hr]; rfl
                  generalize UInt8.ofNat (hexV a * 16 + hexV b) = v at HU3
                  generalize (hexU a && hexU b) = g at HU3 HQ4
                  clear hr hx2
                  go_wp2_with fail
                  refine (HW.out _).mono ?_
                  rintro e W ⟨rfl, rfl⟩
                  have h37' := H37.out
                  go_wp2_with fail
                  refine (HU3.out _).mono ?_
                  rintro e W1 ⟨hb, ⟨rfl, q, cq, rfl, hcv⟩ | ⟨rfl, rfl⟩⟩
                  · have HB1 := hid (HB.out.trans (hb.mono HB.out.size))
                    clear hb hcv
                    go_wp2_with fail
                    go_roundw
                    case rel => exact ⟨k + 1, by omega, by go_num, by show _ = _; rw [HQ4.out, HRR.out]; rfl, HB1⟩
                    case measure => simp [intOf]; omega
                  · have HB1 := hid (HB.out.trans (hb.mono HB.out.size))
                    clear hb
                    go_wp2_with fail
                    go_ret
                    exact ⟨by rw [HQ4.out]; rfl, HB1.out⟩
              · have h37' : ¬ (x.toNat : Int) = 37 := fun h => h37 (UInt8.toNat_inj.1 (by show x.toNat = 37; omega))
                have HQ3 : Hid (R = standsU r) := by
                  show _ = _
                  rw [HQ.out, show (x != 37) = true from by simpa using h37]; rfl
                clear h37
                go_wp2_with fail
                refine (HW.out _).mono ?_
                rintro e W ⟨rfl, rfl⟩
                go_wp2_with fail
                go_roundw
                case rel => exact ⟨k + 1, by omega, by go_num, by show _ = _; rw [HQ3.out, HRR.out], HB⟩
                case measure => simp [intOf]; omega
    · have hi : ¬ (k : Int) < (S.size : Int) := by omega
      have HQ : Hid (R = true) := by
        show _ = _
        rw [HR.out, List.drop_of_length_le (by have := HSZ.out; omega)]; rfl
      go_wp2_with fail
      go_ret
      exact ⟨by rw [HQ.out]; rfl, HB.out⟩
end Go.Proofs.YtlblefcmilfjdaaGreatDoor
