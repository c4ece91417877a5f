
/- What Unescape of the document's answer for layer 12 does. -/
import Derived.Test.YtkeghpghhmajiaaDoorEnRR
import Derived.Test.YtkeghpghhmajiaaDoorEnUn
namespace Go.Proofs.YtkeghpghhmajiaaDoor
set_option linter.unusedVariables false
set_option linter.unusedSimpArgs false
open Go.RowKit Go.BigFrame

theorem sliceE_run (S : ByteArray) (a b : Nat) (i j : Int) (hi : i = (a : Int)) (hj : j = (b : Int)) (h1 : a ≤ b) (h2 : b ≤ S.size) (x : ByteArray) (hx : S.extract a b = x) (W : World) : (Instr.slice 9 (.string S) (some (.int .i64 i)) (some (.int .i64 j)) none).run Tryd.prog W = .ok (.string x) W := by
  subst hi; subst hj; subst hx
  rw [run_slice_string W 9 S .i64 .i64 a b Tryd.underlying9 (by omega) (by omega) (by omega)]
  simp
theorem catE_size (o x : List UInt8) (h : o.length + x.length ≤ 1000000) : ¬ (9223372036854775807 < (asS o).size + (asS x).size) := by rw [asS_size, asS_size]; omega
theorem dropE_at (l : List UInt8) (k : Nat) (h : k < l.length) : l.drop k = l.getD k 0 :: l.drop (k + 1) := by
  rw [List.drop_eq_getElem_cons h, List.getD_eq_getElem?_getD, List.getElem?_eq_getElem h]; rfl
theorem map_one (o : List UInt8) (c : UInt8) (x : Option (List UInt8)) : (x.map (c :: ·)).map (o ++ ·) = x.map ((o ++ [c]) ++ ·) := by
  cases x with
  | none => rfl
  | some y => simp
theorem getDE_drop (l : List UInt8) (a j : Nat) : (l.drop a).getD j 0 = l.getD (a + j) 0 := by
  rw [List.getD_eq_getElem?_getD, List.getD_eq_getElem?_getD, List.getElem?_drop]
theorem runesV_no (l : List UInt8) (hl : l.length ≤ 1000000) (h : V l = false) (w : World) : Calls Tryd.prog 23 #[.string (asS l)] w fun e w' => e = .returned (.tuple #[.slice none 0 0, .bool false]) ∧ Below w.heap.size w w' :=
  runes_no (asS l) w (by rw [asS_size]; exact hl) (by rw [vld_V, asS_data]; exact h)
theorem runesV_ok (l : List UInt8) (hl : l.length ≤ 1000000) (h : V l = true) (w : World) : Calls Tryd.prog 23 #[.string (asS l)] w fun e w' => ∃ v, e = .returned (.tuple #[v, .bool true]) ∧ Below w.heap.size w w' := by
  refine (runes_ok (asS l) w (by rw [asS_size]; exact hl) (by rw [vld_V, asS_data]; exact h)).mono ?_
  rintro e w' ⟨v, he, _, hb⟩
  exact ⟨v, he, hb⟩
set_option maxRecDepth 100000 in
theorem refUn_no (l : List UInt8) (hl : l.length ≤ 100000) (h : V l = false) (w : World) : Calls Tryd.prog 13 #[.string (asS l)] w fun e w' => e = .returned (.tuple #[.string ⟨#[]⟩, .bool false]) ∧ Below w.heap.size w w' := by
  have HR := hid (fun W => runesV_no l (by omega) h W)
  clear h hl
  generalize asS l = S at HR ⊢
  go_enter Tryd.func13, Tryd.ntmps13
  go_wp2_with (first | (go_at_call 23; refine (HR.out _).mono ?_; rintro e W1 ⟨rfl, hb⟩; have HB := hid hb; clear hb) | fail)
  go_ret2
  exact ⟨rfl, HB.out⟩
theorem strR_len (o : Option Nat) : (strR o).length ≤ 4 := by
  cases o with
  | none => simp [strR]
  | some n => exact (encL_len n).2
set_option maxHeartbeats 4000000 in
set_option maxRecDepth 100000 in
theorem refUn_V (l : List UInt8) (hl : l.length ≤ 100000) (hV : V l = true) (w : World) : Calls Tryd.prog 13 #[.string (asS l)] w fun e w' => e = .returned (.tuple #[.string (asS ((unL l).getD [])), .bool (unL l).isSome]) ∧ Below w.heap.size w w' := by
  have HU1 : Hid (unL l = (unL (l.drop 0)).map ([] ++ ·)) := by show _ = _; rw [List.drop_zero]; cases unL l <;> simp
  generalize unL l = R at HU1 ⊢
  have HRN := hid (fun W => runesV_ok l (by omega) hV W)
  have HRF := hid (fun b hb W => refRef_any b hb W)
  have HSZ := hid (asS_size l)
  have HIX : Hid (∀ k, k < l.length → ∀ W, (Instr.index 9 (.string (asS l)) (.int .i64 (k : Int))).run Tryd.prog W = .ok (.int .u8 (l.getD k 0).toNat) W) := fun k hk W => str_ix (asS l) k (by rw [asS_size]; exact hk) W
  have HX1 : Hid (∀ k, k < l.length → (asS l).extract k (k + 1) = asS [l.getD k 0]) := fun k hk => by
    rw [ext_asS, asS_data, dropE_at l k hk, show k + 1 - k = 1 from by omega]; rfl
  have HX2 : Hid (∀ k b r, l.drop (k + 1) = b ++ 59 :: r → (asS l).extract (k + 1) (k + 1 + b.length) = asS b) := fun k b r h => by
    rw [ext_asS, asS_data, h, show k + 1 + b.length - (k + 1) = b.length from by omega, List.take_left' rfl]
  generalize asS l = S at HSZ HRN HIX HX1 HX2 ⊢
  have hS : S.size ≤ 100000 := by rw [HSZ.out]; exact hl
  clear hV
  go_enter Tryd.func13, Tryd.ntmps13
  go_wp2_with fail
  refine (HRN.out _).mono ?_
  rintro e W0 ⟨v0, rfl, hb0⟩
  have HB0 := hid hb0
  clear hb0
  go_wp2_with fail
  go_loopw [6, 7] (fun v i wr => ∃ (k : Nat) (o : List UInt8), i = .int .i64 (k : Int) ∧ v = .string (asS o) ∧ k ≤ S.size ∧ o.length ≤ 4 * k ∧ Hid (R = (unL (l.drop k)).map (o ++ ·)) ∧ Hid (Below w.heap.size w wr)) (fun _ i _ => S.size - (intOf i).toNat)
  case atStart => exact ⟨0, [], rfl, rfl, by omega, by simp, HU1, HB0⟩
  case round =>
    obtain ⟨k, o, rfl, rfl, hk, ho, HU, HB⟩ := hrel
    by_cases hlt : k < S.size
    · have hi : (k : Int) < (S.size : Int) := by omega
      have hkl : k < l.length := by have := HSZ.out; omega
      have hix := HIX.out k hkl
      have hdr := dropE_at l k hkl
      have hx1 := HX1.out k hkl
      generalize l.getD k 0 = c at hix hdr hx1
      have hw1 : wrap64 ((k : Int) + 1) = (k : Int) + 1 := by unfold wrap64; omega
      by_cases hc : c = 38
      · subst hc
        obtain ⟨t, ht⟩ : ∃ t, l.drop (k + 1) = t := ⟨_, rfl⟩
        rw [ht] at hdr
        have htl : t.length + (k + 1) = l.length := by rw [← ht, List.length_drop]; omega
        have HTD : Hid (∀ q, k + 1 ≤ q → q < l.length → t.getD (q - (k + 1)) 0 = l.getD q 0) := fun q h1 h2 => by
          rw [← ht, getDE_drop, show k + 1 + (q - (k + 1)) = q from by omega]
        cases hct : cutE t with
        | none =>
          have HQ : Hid (R = none) := by show _ = _; rw [HU.out, hdr, unL_no t hct]; rfl
          have HNE : Hid (∀ q, k + 1 ≤ q → q < l.length → ¬ ((l.getD q 0).toNat : Int) = 59) := fun q h1 h2 e => by
            have h5 := (cutE_none t).1 hct (t.getD (q - (k + 1)) 0) (getD_mem (by omega))
            rw [HTD.out q h1 h2] at h5
            exact h5 (UInt8.toNat_inj.1 (by show (l.getD q 0).toNat = 59; omega))
          clear hct HTD htl ht hdr hx1 HU HX1 HX2 HRF HRN HB0 HU1
          go_wp2_with fail
          go_loop [8] (fun t8 => ∃ q : Nat, t8 = .int .i64 (q : Int) ∧ k + 1 ≤ q ∧ q ≤ S.size) (fun t8 => S.size - (intOf t8).toNat)
          case atStart => exact ⟨k + 1, by go_num, by omega, by omega⟩
          case round =>
            obtain ⟨q, rfl, hq1, hq2⟩ := hrel
            by_cases hqs : q < S.size
            · have hqi : (q : Int) < (S.size : Int) := by omega
              have hql : q < l.length := by have := HSZ.out; omega
              have hixq := HIX.out q hql
              have hne := HNE.out q hq1 hql
              generalize l.getD q 0 = d at hixq hne
              go_wp2_with fail
              go_round
              case rel => exact ⟨q + 1, by go_num, by omega, by omega⟩
              case measure => simp [intOf]; omega
            · have hqi : ¬ (q : Int) < (S.size : Int) := by omega
              have hqe : ((q : Int) == (S.size : Int)) = true := by rw [beq_iff_eq]; omega
              go_wp2_with fail
              go_ret2
              exact ⟨by rw [HQ.out]; rfl, HB.out⟩
        | some p =>
          obtain ⟨b, r⟩ := p
          obtain ⟨htb, hb59⟩ := cutE_some t b r hct
          have hbl : t.length = b.length + 1 + r.length := by rw [htb]; simp; omega
          obtain ⟨E, hE⟩ : ∃ E, E = k + 1 + b.length := ⟨_, rfl⟩
          have HNE : Hid (∀ q, k + 1 ≤ q → q < E → ¬ ((l.getD q 0).toNat : Int) = 59) := fun q h1 h2 e => by
            have h5 := HTD.out q h1 (by omega)
            rw [htb, List.getD_eq_getElem?_getD, List.getElem?_append_left (by omega), ← List.getD_eq_getElem?_getD] at h5
            have h6 := hb59 (b.getD (q - (k + 1)) 0) (getD_mem (by omega))
            rw [h5] at h6
            exact h6 (UInt8.toNat_inj.1 (by show (l.getD q 0).toNat = 59; omega))
          have HAT : Hid (((l.getD E 0).toNat : Int) = 59) := by
            show _ = _
            have h5 := HTD.out E (by omega) (by omega)
            rw [htb, hE, show k + 1 + b.length - (k + 1) = b.length from by omega, List.getD_eq_getElem?_getD, List.getElem?_append_right (Nat.le_refl _), Nat.sub_self] at h5
            rw [← hE] at h5
            rw [← h5]; rfl
          have hEl : E < l.length := by omega
          have hES : (E : Int) < (S.size : Int) := by have := HSZ.out; omega
          have hk1E : k + 1 ≤ E := by omega
          have hx2 := HX2.out k b r (by rw [ht, htb])
          rw [← hE] at hx2
          have hsl := sliceE_run S (k + 1) E ((k : Int) + 1) (E : Int) (by omega) rfl (by omega) (by have := HSZ.out; omega) _ hx2
          have HDE : Hid (l.drop (E + 1) = r) := by
            show _ = _
            rw [hE, show k + 1 + b.length + 1 = (k + 1) + (b.length + 1) from by omega, ← List.drop_drop, ht, htb]
            simp
          have HR := hid (HRF.out b (by omega))
          have HUN : Hid (R = (match runeR b with
              | none => none
              | some n => (unL r).map (encL n ++ ·)).map (o ++ ·)) := by
            show _ = _
            rw [HU.out, hdr]
            cases hrb : runeR b with
            | none => rw [unL_bad t b r hct hrb]
            | some n => rw [unL_ok t b r n hct hrb]
          clear hct HTD htl ht hdr hx1 hx2 HU HX1 HX2 HRF HRN HB0 HU1 htb hb59 hbl hE
          have hSz1 : ((E : Int) == (S.size : Int)) = false := by rw [beq_eq_false_iff_ne]; omega
          go_wp2_with fail
          go_loop [8] (fun t8 => ∃ q : Nat, t8 = .int .i64 (q : Int) ∧ k + 1 ≤ q ∧ q ≤ E) (fun t8 => E - (intOf t8).toNat)
          case atStart => exact ⟨k + 1, by go_num, by omega, by omega⟩
          case round =>
            obtain ⟨q, rfl, hq1, hq2⟩ := hrel
            by_cases hqs : q < E
            · have hqi : (q : Int) < (S.size : Int) := by omega
              have hql : q < l.length := by omega
              have hixq := HIX.out q hql
              have hne := HNE.out q hq1 hqs
              generalize l.getD q 0 = d at hixq hne
              go_wp2_with fail
              go_round
              case rel => exact ⟨q + 1, by go_num, by omega, by omega⟩
              case measure => simp [intOf]; omega
            · obtain rfl : q = E := by omega
              have hixq := HIX.out q hEl
              have hat := HAT.out
              generalize l.getD q 0 = d at hixq hat
              have hsl4 := strR_len (runeR b)
              cases hrb : runeR b with
              | none =>
                rw [hrb] at HR HUN
                have HQ : Hid (R = none) := by show _ = _; rw [HUN.out]; rfl
                have hem : (asS (strR none)).toList.isEmpty = true := by rw [emp8]; rfl
                generalize asS (strR none) = RS at HR hem
                clear hrb HUN
                go_wp2_with (first | (go_at_call 29; refine (HR.out _).mono ?_; rintro e W1 ⟨rfl, hb⟩; have HB1 := hid (HB.out.trans (hb.mono HB.out.size)); clear hb) | fail)
                go_ret2
                exact ⟨by rw [HQ.out]; rfl, HB1.out⟩
              | some n =>
                rw [hrb] at HR HUN hsl4
                have HQ : Hid (R = (unL (l.drop (q + 1))).map ((o ++ strR (some n)) ++ ·)) := by show _ = _; rw [HUN.out, HDE.out]; exact map_app _ _ _
                have hem : (asS (strR (some n))).toList.isEmpty = false := by rw [emp8]; exact decide_eq_false (enc_ne n)
                generalize strR (some n) = rs at HR HQ hem hsl4
                have e1 := asS_app o rs
                have e2 := catE_size o rs (by omega)
                generalize asS rs = RS at HR hem e1 e2
                clear hrb HUN
                go_wp2_with (first | (go_at_call 29; refine (HR.out _).mono ?_; rintro e W1 ⟨rfl, hb⟩; have HB1 := hid (HB.out.trans (hb.mono HB.out.size)); clear hb) | fail)
                go_roundw
                case rel => exact ⟨q + 1, o ++ rs, by go_num, rfl, by omega, by rw [List.length_append]; omega, HQ, HB1⟩
                case measure => simp [intOf]; omega
      · have hne : ¬ (c.toNat : Int) = 38 := fun h => hc (UInt8.toNat_inj.1 (by show c.toNat = 38; omega))
        have HQ : Hid (R = (unL (l.drop (k + 1))).map ((o ++ [c]) ++ ·)) := by show _ = _; rw [HU.out, hdr, unL_cons c _ hc]; exact map_one o c _
        have e1 := asS_app o [c]
        have e2 := catE_size o [c] (by simp; omega)
        have hle : (k : Int) + 1 ≤ (S.size : Int) := by omega
        have hsl := sliceE_run S k (k + 1) (k : Int) ((k : Int) + 1) rfl (by omega) (by omega) (by omega) _ hx1
        generalize asS [c] = SC at hx1 e1 e2 hsl
        clear hdr hc
        go_wp2_with fail
        go_roundw
        case rel => exact ⟨k + 1, o ++ [c], by go_num, rfl, by omega, by simp; omega, HQ, HB⟩
        case measure => simp [intOf]; omega
    · have hi : ¬ (k : Int) < (S.size : Int) := by omega
      have HQ : Hid (R = some o) := by
        show _ = _
        rw [HU.out, List.drop_of_length_le (by have := HSZ.out; omega), unL_nil]
        simp
      go_wp2_with fail
      go_ret2
      exact ⟨by rw [HQ.out]; rfl, HB.out⟩
theorem refUn_any (l : List UInt8) (hl : l.length ≤ 100000) (w : World) : Calls Tryd.prog 13 #[.string (asS l)] w fun e w' => e = .returned (.tuple #[.string (asS ((unA l).getD [])), .bool (unA l).isSome]) ∧ Below w.heap.size w w' := by
  unfold unA
  cases h : V l with
  | true => exact refUn_V l hl h w
  | false => exact refUn_no l hl h w
end Go.Proofs.YtkeghpghhmajiaaDoor
