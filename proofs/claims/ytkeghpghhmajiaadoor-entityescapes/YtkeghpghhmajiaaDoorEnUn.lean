
/- What Unescape of package entity does. -/
import Derived.Test.YtkeghpghhmajiaaDoorEnEsc
namespace Go.Proofs.YtkeghpghhmajiaaDoor
set_option linter.unusedVariables false
set_option linter.unusedSimpArgs false
open Go.RowKit Go.BigFrame

def unA (l : List UInt8) : Option (List UInt8) := if V l then unL l else none
def unE (o : Option (List UInt8)) : Int := if o.isSome then 0 else 5
theorem check_V (l : List UInt8) (w : World) : Calls Tryd.prog 25 #[.string (asS l)] w fun e w' => e = .returned (.int .i64 (if V l then 0 else 5)) ∧ Below w.heap.size w w' := by
  have c := check1_any (asS l) w
  unfold chk at c
  rw [vld_V, asS_data] at c
  exact c
/-- What is met behind &: no reference, or one. -/
theorem ref_cases (t : List UInt8) : (refP t = (0, 0) ∧ unL (38 :: t) = none) ∨ ∃ n b r, refP t = (n, b.length + 2) ∧ t = b ++ 59 :: r ∧ validR n = true ∧ (∀ c ∈ b, c.toNat < 128) ∧ unL (38 :: t) = (unL r).map (encL n ++ ·) := by
  cases hc : cutE t with
  | none => exact .inl ⟨by unfold refP; rw [hc], unL_no t hc⟩
  | some p =>
    obtain ⟨b, r⟩ := p
    cases hr : runeR b with
    | none => exact .inl ⟨by unfold refP; rw [hc]; simp only [hr], unL_bad t b r hc hr⟩
    | some n => exact .inr ⟨n, b, r, by unfold refP; rw [hc]; simp only [hr], (cutE_some t b r hc).1, runeR_valid hr, runeR_ascii hr, unL_ok t b r n hc hr⟩
theorem map_app (x : Option (List UInt8)) (o a : List UInt8) : (x.map (a ++ ·)).map (o ++ ·) = x.map ((o ++ a) ++ ·) := by
  cases x with
  | none => rfl
  | some y => simp
theorem drop_cons_getD {l : List UInt8} {pos : Nat} {c : UInt8} {t : List UInt8} (h : l.drop pos = c :: t) : l.getD pos 0 = c := by
  have := congrArg (fun x => x.getD 0 0) h
  simpa [List.getD_eq_getElem?_getD, List.getElem?_drop] using this
/-- A rune that begins with a byte of ASCII is that byte. -/
theorem ascii_rune {l : List UInt8} {pos v : Nat} {t : List UInt8} (hv : validR v = true) (h : l.drop pos = encL v ++ t) (ha : (l.getD pos 0).toNat < 128) : (encL v).length = 1 := by
  by_cases h1 : v < 128
  · rw [enc1 h1]; rfl
  · have hh := encL_high v hv (by omega)
    cases he : encL v with
    | nil => exact absurd he (enc_ne v)
    | cons c r =>
      rw [he] at h hh
      rw [drop_cons_getD h] at ha
      have := hh c (by simp)
      omega
theorem enc38 (v : Nat) (h : v = 38) : encL v = [38] := by subst h; decide
theorem getD_mem {l : List UInt8} {j : Nat} (h : j < l.length) : l.getD j 0 ∈ l := by
  rw [List.getD_eq_getElem?_getD, List.getElem?_eq_getElem h]; exact List.getElem_mem h
set_option maxRecDepth 100000 in
theorem unescape_no (l : List UInt8) (hV : V l = false) (w : World) : Calls Tryd.prog 10 #[.string (asS l)] w fun e w' => e = .returned (.tuple #[.string ⟨#[]⟩, .int .i64 5]) ∧ Below w.heap.size w w' := by
  have HX := hid (fun W => check_V l W)
  rw [hV] at HX
  simp only [Bool.false_eq_true, if_false] at HX
  clear hV
  generalize asS l = S at HX ⊢
  go_enter Tryd.func10, Tryd.ntmps10
  go_wp2_with (first | (go_at_call 25; refine (HX.out _).mono ?_; rintro e W1 ⟨rfl, hb⟩; have HB := hid hb; clear hb) | fail)
  go_ret2
  exact ⟨rfl, HB.out⟩
set_option maxHeartbeats 4000000 in
set_option maxRecDepth 100000 in
theorem unescape_V (l : List UInt8) (hl : l.length ≤ 100000) (hV : V l = true) (w : World) (hT : TabE w) : Calls Tryd.prog 10 #[.string (asS l)] w fun e w' => e = .returned (.tuple #[.string (asS ((unL l).getD [])), .int .i64 (unE (unL l))]) ∧ Below w.heap.size w w' := by
  have HV := hid hV
  have HX := hid (fun W => check_V l W)
  rw [hV] at HX
  simp only [if_true] at HX
  have HSZ : Hid ((asS l).size = l.length) := asS_size l
  have HDA : Hid (∀ pos v t, validR v = true → l.drop pos = encL v ++ t → Utf8.decode (asS l) pos = (v, (encL v).length)) := fun pos v t hv h => dec_at hv h
  have HEX : Hid (∀ pos, (asS l).extract pos (asS l).size = asS (l.drop pos)) := fun pos => ext8_from l pos
  have HRF := hid (fun t ht W hW => reference_any t ht W hW)
  have HES : Hid (unL l = (unL (l.drop (max 0 0))).map ([] ++ ·)) := by show _ = _; simp
  generalize unL l = R at HES ⊢
  generalize asS l = S at HX HSZ HDA HEX ⊢
  have HT := hid hT
  clear hV hT
  go_enter Tryd.func10, Tryd.ntmps10
  go_wp2_with fail
  refine (HX.out _).mono ?_
  rintro e W1 ⟨rfl, hb⟩
  have HB := hid hb
  have HT1 := hid (HT.out.below hb)
  clear hb
  have HNB := hid (Bx.new W1)
  have HB0 := hid (alloc_below (Below.refl W1.heap.size W1) (Nat.le_refl _) (.cells #[.pointer none, .slice none 0 0] 37))
  go_wp2_with fail
  go_loopw [6] (fun tb wr => ∃ (pos bh : Nat) (o : List UInt8), tb = .int .i64 (bh : Int) ∧ pos ≤ l.length ∧ bh ≤ l.length ∧ o.length ≤ 4 * pos ∧ Hid (wr.heap[W1.heap.size + 1]? = some (.stringIter S pos)) ∧ Hid (Bx W1.heap.size W1.heap.size o wr) ∧ Hid (Below W1.heap.size W1 wr) ∧ Hid (V (l.drop pos) = true) ∧ Hid (∀ j, pos ≤ j → j < bh → (l.getD j 0).toNat < 128) ∧ Hid (R = (unL (l.drop (max pos bh))).map (o ++ ·))) (fun _ wr => S.size - wr.iterPos (W1.heap.size + 1))
  case atStart =>
    refine ⟨0, 0, [], rfl, Nat.zero_le _, Nat.zero_le _, Nat.le_refl _, ?_, ?_, ?_, ?_, ?_, HES⟩
    · have := heap_alloc_new (W1.alloc (.cells #[.pointer none, .slice none 0 0] 37)) (.stringIter S 0)
      rwa [show (W1.alloc (.cells #[.pointer none, .slice none 0 0] 37)).heap.size = W1.heap.size + 1 from by simp] at this
    · exact HNB.out.alloc _
    · exact HB0.out.alloc (by simp) _
    · exact HV
    · exact fun j h1 h2 => by omega
  case round =>
    obtain ⟨pos, bh, o, rfl, hp, hbh, ho, HI, HD, HBW, HVP, HAS, HR⟩ := hrel
    have hszW := HBW.out.size
    by_cases hlt : pos < l.length
    · have hpS : pos < S.size := by rw [HSZ.out]; exact hlt
      obtain ⟨v, t, hv, hdr, hVt⟩ := V_open HVP.out (fun h => by have := congrArg List.length h; rw [List.length_drop] at this; simp at this; omega)
      have hdec := HDA.out pos v t hv hdr
      obtain ⟨hd1, hd2⟩ := drop_enc hdr
      have hnx : ∀ ty, (Instr.next (.pointer (some ⟨W1.heap.size + 1, 0, none⟩)) true ty).run Tryd.prog wr = _ := fun ty => Lib.run_next_any_at wr (W1.heap.size + 1) S pos ty HI.out hpS
      rw [hdec] at hnx
      simp only at hnx
      have h4 := encL_len v
      have HI2 := hid (Lib.iterAt_heap wr (W1.heap.size + 1) S pos (pos + (encL v).length) HI.out)
      have HD2 := hid (HD.out.iterAt HI.out (pos + (encL v).length))
      have HB2 := hid (Lib.below_iterAt HBW.out (k := W1.heap.size + 1) (by omega) S (pos + (encL v).length))
      have hv' := validR_iff.1 hv
      have HVN : Hid (V (l.drop (pos + (encL v).length)) = true) := by show _ = _; rw [hd1]; exact hVt
      have hsz2 : W1.heap.size ≤ (wr.iterAt (W1.heap.size + 1) S (pos + (encL v).length)).heap.size := by rw [Lib.iterAt_size]; exact hszW
      have HHS := hid hsz2
      have hne : W1.heap.size + 1 ≠ W1.heap.size := by omega
      have hk4 : pos + (encL v).length ≤ l.length := by omega
      clear hsz2 hdec hVt
      by_cases hskip : pos < bh
      · have hi : (pos : Int) < (bh : Int) := by omega
        have hk1 := ascii_rune hv hdr (HAS.out pos (Nat.le_refl _) hskip)
        rw [hk1] at hnx HI2 HD2 HB2 HVN hk4
        have HAS2 : Hid (∀ j, pos + 1 ≤ j → j < bh → (l.getD j 0).toNat < 128) := fun j h1 h2 => HAS.out j (by omega) h2
        have HR2 : Hid (R = (unL (l.drop (max (pos + 1) bh))).map (o ++ ·)) := by show _ = _; rw [HR.out, show max (pos + 1) bh = max pos bh from by omega]
        clear hdr hd1 hd2 hv hv' hk1 h4 hskip HR HAS HHS HD HVP
        go_wp2_with fail
        go_roundw
        case rel => exact ⟨pos + 1, bh, o, rfl, hk4, hbh, by omega, HI2, HD2, HB2, HVN, HAS2, HR2⟩
        case measure => rw [iterPos_of HI2.out, iterPos_of HI.out]; omega
      · have hi : ¬ (pos : Int) < (bh : Int) := by omega
        have hmx : max pos bh = pos := by omega
        rw [hmx, hdr] at HR
        by_cases h38 : v = 38
        · have he := enc38 v h38
          have heq : ((v : Int) == 38) = true := by rw [beq_iff_eq]; omega
          rw [he] at hdr hnx HI2 HD2 HB2 HVN hk4 HR hd2 HHS
          simp only [List.length_cons, List.length_nil, Nat.zero_add, List.cons_append, List.nil_append] at hdr hnx HI2 HD2 HB2 HVN hk4 HR hd2 HHS
          have hex := HEX.out pos
          rw [hdr] at hex
          have hsp : (pos : Int) ≤ (S.size : Int) := by omega
          have HRF2 := hid (HRF.out t (by omega))
          rcases ref_cases t with ⟨hrp, hun⟩ | ⟨n, b, r, hrp, htb, hvn, hba, hun⟩
          · have HQ : Hid (R = none) := by show _ = _; rw [HR.out, hun]; rfl
            rw [hrp] at HRF2
            simp only [Int.natCast_zero] at HRF2
            clear hdr hd1 hd2 hv hv' h4 hskip HR HAS HVP hun hrp h38 he hmx HRF HEX
            generalize asS (38 :: t) = T1 at hex HRF2
            go_wp2_with (first
              | (go_at_call 26; refine (HRF2.out _ (HT1.out.below (HB2.out.mono (Nat.le_refl _)))).mono ?_; rintro e W3 ⟨rfl, hb3⟩; have HB3 := hid (HB.out.trans ((HB2.out.trans (hb3.mono (by have := HHS.out; omega))).mono HB.out.size)); clear hb3)
              | fail)
            go_ret2
            exact ⟨by rw [HQ.out]; rfl, HB3.out⟩
          · rw [hrp] at HRF2
            simp only at HRF2
            have hbl : t.length = b.length + 1 + r.length := by rw [htb]; simp; omega
            have hz0 : (((b.length + 2 : Nat) : Int) == 0) = false := by rw [beq_eq_false_iff_ne]; omega
            have HDR : Hid (l.drop (pos + (b.length + 2)) = r) := by
              show _ = _
              rw [← List.drop_drop, hdr, htb]
              simp
            have HAS2 : Hid (∀ j, pos + 1 ≤ j → j < pos + (b.length + 2) → (l.getD j 0).toNat < 128) := fun j h1 h2 => by
              have e : l.getD j 0 = (b ++ [59]).getD (j - pos - 1) 0 := by
                have h5 : l.getD j 0 = (l.drop pos).getD (j - pos) 0 := by
                  rw [List.getD_eq_getElem?_getD, List.getD_eq_getElem?_getD, List.getElem?_drop, show pos + (j - pos) = j from by omega]
                rw [h5, hdr, htb, show j - pos = (j - pos - 1) + 1 from by omega, List.getD_cons_succ, show b ++ 59 :: r = (b ++ [59]) ++ r from by simp, List.getD_eq_getElem?_getD, List.getD_eq_getElem?_getD, List.getElem?_append_left (by simp; omega)]
                simp
              rw [e]
              have hm : (b ++ [59]).getD (j - pos - 1) 0 ∈ b ++ [59] := getD_mem (by simp; omega)
              rcases List.mem_append.1 hm with h6 | h6
              · exact hba _ h6
              · rw [List.mem_singleton.1 h6]; decide
            have HR2 : Hid (R = (unL (l.drop (max (pos + 1) (pos + (b.length + 2))))).map ((o ++ encL n) ++ ·)) := by
              show _ = _
              rw [show max (pos + 1) (pos + (b.length + 2)) = pos + (b.length + 2) from by omega, HDR.out, HR.out, hun, map_app]
            have hn4 := encL_len n
            have HWR := hid (fun W h1 h2 h3 => writeRune_x W1.heap.size W1.heap.size o n hvn W h1 h2 h3)
            have hbb : pos + (b.length + 2) ≤ l.length := by omega
            have hw9 : (pos : Int) + ((b.length + 2 : Nat) : Int) ≤ 100000 := by omega
            clear hdr hd1 hd2 hv hv' h4 hskip HR HAS HVP hun hrp h38 he hmx HRF HEX htb hba hbl HDR
            generalize b.length + 2 = q at HRF2 hz0 HAS2 HR2 hbb hw9
            obtain ⟨en, hen⟩ : ∃ en, encL n = en := ⟨_, rfl⟩
            rw [hen] at HR2 hn4 HWR
            clear hen
            generalize asS (38 :: t) = T1 at hex HRF2
            go_wp2_with (first
              | (go_at_call 26; refine (HRF2.out _ (HT1.out.below (HB2.out.mono (Nat.le_refl _)))).mono ?_; rintro e W3 ⟨rfl, hb3⟩; have HD3 := hid (HD2.out.below hb3); have HI3 := hid (row_keepX hb3 HI2.out); have HB3 := hid (HB2.out.trans (hb3.mono HHS.out)); have HS3 := hid (Nat.le_trans HHS.out hb3.size); clear hb3)
              | (go_at_call 21; refine (HWR.out _ HD3.out (by omega) HS3.out).mono ?_; rintro e W4 ⟨⟨ve, rfl⟩, hd4, hb4, hk5⟩; have HD4 := hid hd4; have HB4 := hid (HB3.out.trans hb4); have HI4 := hid (hk5.iter HI3.out hne); clear hd4 hb4 hk5)
              | fail)
            go_roundw
            case rel => exact ⟨pos + 1, pos + q, o ++ en, by go_num, hk4, hbb, by rw [List.length_append]; omega, HI4, HD4, HB4, HVN, HAS2, HR2⟩
            case measure => rw [iterPos_of HI4.out, iterPos_of HI.out]; omega
        · have heq : ((v : Int) == 38) = false := by rw [beq_eq_false_iff_ne]; omega
          have HR2 : Hid (R = (unL (l.drop (max (pos + (encL v).length) bh))).map ((o ++ encL v) ++ ·)) := by
            show _ = _
            rw [show max (pos + (encL v).length) bh = pos + (encL v).length from by omega, hd1, HR.out, unL_enc v hv h38, map_app]
          have HAS2 : Hid (∀ j, pos + (encL v).length ≤ j → j < bh → (l.getD j 0).toNat < 128) := fun j h1 h2 => by omega
          have HWR := hid (fun W h1 h2 h3 => writeRune_x W1.heap.size W1.heap.size o v hv W h1 h2 h3)
          obtain ⟨k, hkk⟩ : ∃ k, (encL v).length = k := ⟨_, rfl⟩
          rw [hkk] at hnx h4 HI2 HD2 HB2 HVN hk4 HR2 HAS2 HHS
          have HK := hid hkk
          clear hkk hdr hd1 hd2 hv hv' hskip HR HAS HVP h38 hmx HRF HEX
          go_wp2_with (first
            | (go_at_call 21; refine (HWR.out _ HD2.out (by omega) HHS.out).mono ?_; rintro e W4 ⟨⟨ve, rfl⟩, hd4, hb4, hk5⟩; have HD4 := hid hd4; have HB4 := hid (HB2.out.trans hb4); have HI4 := hid (hk5.iter HI2.out hne); clear hd4 hb4 hk5)
            | fail)
          go_roundw
          case rel => exact ⟨pos + k, bh, o ++ encL v, rfl, hk4, hbh, by rw [List.length_append, HK.out]; omega, HI4, HD4, HB4, HVN, HAS2, HR2⟩
          case measure => rw [iterPos_of HI4.out, iterPos_of HI.out]; omega
    · have hpS : ¬ pos < S.size := by rw [HSZ.out]; exact hlt
      have HQ : Hid (R = some o) := by show _ = _; rw [HR.out, List.drop_of_length_le (by omega), unL_nil]; simp
      have hnx : ∀ ty, (Instr.next (.pointer (some ⟨W1.heap.size + 1, 0, none⟩)) true ty).run Tryd.prog wr = _ := fun ty => Lib.run_next_end_at wr (W1.heap.size + 1) S pos ty HI.out hpS
      have HST := hid (bstr_x W1.heap.size W1.heap.size o wr HD.out hszW)
      go_wp2_with (first
        | (go_at_call 22; refine HST.out.mono ?_; rintro e W3 ⟨rfl, hb3⟩; have HB3 := hid (HB.out.trans ((HBW.out.trans hb3).mono HB.out.size)); clear hb3)
        | fail)
      go_ret2
      exact ⟨by rw [HQ.out]; rfl, HB3.out⟩
theorem unescape_any (l : List UInt8) (hl : l.length ≤ 100000) (w : World) (hT : TabE w) : Calls Tryd.prog 10 #[.string (asS l)] w fun e w' => e = .returned (.tuple #[.string (asS ((unA l).getD [])), .int .i64 (unE (unA l))]) ∧ Below w.heap.size w w' := by
  unfold unA
  cases h : V l with
  | true => exact unescape_V l hl h w hT
  | false => exact unescape_no l h w
end Go.Proofs.YtkeghpghhmajiaaDoor
