
/- Which parts a URL has that may be; what the reference tidy, Port, Normal and Origin of layer 8 do, and path.Origin. -/
import Derived.Test.YtlblefcmilfjdaaGreatDoorPaPort
import Derived.Test.YtlblefcmilfjdaaGreatDoorPaRes
import Derived.Test.YtlblefcmilfjdaaGreatDoorUrEsR
import Derived.Test.YtlblefcmilfjdaaGreatDoorPaRD
namespace Go.Proofs.YtlblefcmilfjdaaGreatDoor
set_option linter.unusedVariables false
set_option linter.unusedSimpArgs false

def noFrag (u : UrlV) : UrlV := { u with frag := [], hasFrag := false }
theorem headC_frag (s3 : List UInt8) (u : UrlV) : headC s3 (noFrag u) = noFrag (headC s3 u) := by
  unfold headC
  split
  · unfold authU noFrag
    simp only
    cases lastCut 64 (fun _ => false) (Lib.cut (s3.drop 2) [47]).1 with
    | none =>
      simp only
      cases lastCut 58 (fun c => c == 93) (Lib.cut (s3.drop 2) [47]).1 with
      | none => rfl
      | some p => rfl
    | some p =>
      simp only
      cases lastCut 58 (fun c => c == 93) p.2 with
      | none => rfl
      | some p => rfl
  · rfl
theorem headC_tail (s3 : List UInt8) (u : UrlV) : (headC s3 u).frag = u.frag ∧ (headC s3 u).hasFrag = u.hasFrag ∧ (headC s3 u).query = u.query ∧ (headC s3 u).hasQuery = u.hasQuery := by
  unfold headC
  split
  · obtain ⟨h1, h2, h3, h4, _⟩ := authU_more (Lib.cut (s3.drop 2) [47]).1 { u with hasAuth := true, path := (s3.drop 2).drop (Lib.cut (s3.drop 2) [47]).1.length }
    exact ⟨h3, h4, h1, h2⟩
  · exact ⟨rfl, rfl, rfl, rfl⟩
theorem okC_frag (u : UrlV) (h : okC u = true) : okC (noFrag u) = true := by
  unfold okC at h ⊢
  rw [anyC_eq] at h ⊢
  simp only [Bool.and_eq_true, List.any_append, Bool.not_eq_true', Bool.or_eq_false_iff] at h ⊢
  obtain ⟨⟨⟨h1, h2⟩, h3⟩, h4⟩ := h
  refine ⟨⟨⟨⟨h1.1, rfl⟩, ?_⟩, h3⟩, h4⟩
  rfl
/-- What a text's parts are, its tail aside. -/
theorem parts_of (l : List UInt8) (hs : standsU l = true) (u : UrlV) (h : parseU l = some u) : ∃ s3 sch, u = headC s3 { tailC l with scheme := sch } ∧ okC u = true ∧ (63 : UInt8) ∉ s3 ∧ (35 : UInt8) ∉ s3 := by
  obtain ⟨hl, h63, h35, hq, hq0, hf0⟩ := tailT_dec l
  rw [partsC_parse l hs] at h
  unfold partsC at h
  by_cases h0 : 0 ≤ firstC (restC l)
  · rw [if_pos h0] at h
    cases hb : isSchB ((restC l).take (firstC (restC l)).toNat) with
    | false => rw [hb] at h; simp at h
    | true =>
      rw [hb] at h
      simp only [if_true] at h
      split at h
      · rename_i ho
        injection h with h
        exact ⟨_, _, h.symm, h ▸ ho, fun hm => h63 (List.mem_of_mem_drop hm), fun hm => h35 (List.mem_of_mem_drop hm)⟩
      · cases h
  · rw [if_neg h0] at h
    simp only at h
    split at h
    · rename_i ho
      injection h with h
      exact ⟨_, _, h.symm, h ▸ ho, h63, h35⟩
    · cases h
theorem join_frag (u : UrlV) : joinU u = joinU (noFrag u) ++ (if u.hasFrag then 35 :: u.frag else []) := by
  unfold joinU noFrag
  simp
theorem parse_frag (u : UrlV) (h : parseU (joinU u) = some u) : parseU (joinU (noFrag u)) = some (noFrag u) := by
  have hs := (parse_okU _ u h).1
  obtain ⟨s3, sch, e, ho, _, _⟩ := parts_of _ hs u h
  obtain ⟨_, _, _, _, _, hf0⟩ := tailT_dec (joinU u)
  have ht := headC_tail s3 { tailC (joinU u) with scheme := sch }
  rw [← e] at ht
  cases hf : u.hasFrag with
  | false =>
    have : u.frag = [] := by rw [ht.1]; exact hf0 (by rw [← hf, ht.2.1])
    have e2 : noFrag u = u := by
      unfold noFrag
      obtain ⟨a1, a2, a3, a4, a5, a6, a7, a8, a9, a10, a11, a12⟩ := u
      simp only at hf this
      rw [hf, this]
    rw [e2]; exact h
  | true =>
    have hj := join_frag u
    rw [hf, if_pos rfl] at hj
    generalize hL' : joinU (noFrag u) = L' at hj ⊢
    have h35 : (35 : UInt8) ∉ L' := by
      rcases first_dec 35 (joinU u) with hn | ⟨a, x, ea, hna⟩
      · exact absurd (by rw [hj]; simp) hn
      · have hfx : u.frag = x := by
          rw [ht.1]
          show (Lib.cut (joinU u) [35]).2.1 = x
          rw [ea, cut_at 35 a x hna]
        rw [ea, hfx] at hj
        have := List.append_cancel_right hj
        rw [← this]; exact hna
    have hcut : Lib.cut (joinU u) [35] = (L', u.frag, true) := by rw [hj]; exact cut_at 35 L' u.frag h35
    have hcut' : Lib.cut L' [35] = (L', [], false) := cut_no 35 L' h35
    have hst' : standsU L' = true := by
      rw [hj] at hs
      exact (stands_cut 35 (by decide) L'.length L' u.frag (Nat.le_refl _) (.of hs)).1.to
    have hr : restC L' = restC (joinU u) := by unfold restC; rw [hcut, hcut']
    have htl : ∀ sch, ({ tailC L' with scheme := sch } : UrlV) = noFrag { tailC (joinU u) with scheme := sch } := fun sch => by
      unfold tailC noFrag
      rw [hcut, hcut']
    have htl0 : tailC L' = noFrag (tailC (joinU u)) := by
      unfold tailC noFrag
      rw [hcut, hcut']
    rw [partsC_parse L' hst']
    rw [partsC_parse _ hs] at h
    unfold partsC at h ⊢
    rw [hr]
    by_cases h0 : 0 ≤ firstC (restC (joinU u))
    · rw [if_pos h0] at h ⊢
      cases hb : isSchB ((restC (joinU u)).take (firstC (restC (joinU u))).toNat) with
      | false => rw [hb] at h; simp at h
      | true =>
        rw [hb] at h
        simp only [if_true] at h ⊢
        split at h
        · rename_i hok
          replace h := Option.some.inj h
          generalize (restC (joinU u)).take (firstC (restC (joinU u))).toNat = Y at h hok ⊢
          generalize (restC (joinU u)).drop ((firstC (restC (joinU u))).toNat + 1) = X at h hok ⊢
          have e1 : headC X { tailC L' with scheme := Y } = noFrag (headC X { tailC (joinU u) with scheme := Y }) := (congrArg (headC X) (htl Y)).trans (headC_frag _ _)
          have e2 := okC_frag _ hok
          rw [← e1] at e2
          rw [if_pos e2, e1]
          exact congrArg (fun x => some (noFrag x)) h
        · cases h
    · rw [if_neg h0] at h ⊢
      simp only at h ⊢
      split at h
      · rename_i hok
        replace h := Option.some.inj h
        generalize restC (joinU u) = X at h hok ⊢
        have e1 : headC X (tailC L') = noFrag (headC X (tailC (joinU u))) := (congrArg (headC X) htl0).trans (headC_frag _ _)
        have e2 := okC_frag _ hok
        rw [← e1] at e2
        rw [if_pos e2, e1]
        exact congrArg (fun x => some (noFrag x)) h
      · cases h
theorem pr_frag (u : UrlV) (h : prOk u = true) : prOk (noFrag u) = true := by
  obtain ⟨h1, h2⟩ := pr_ok u h
  refine ok_pr _ ?_ (parse_frag u h2)
  have := congrArg List.length (join_frag u)
  rw [List.length_append] at this
  omega
/-- Without dots no URL is longer. -/
theorem join_dots (u : UrlV) : (joinU { u with path := dotsU u.path }).length ≤ (joinU u).length := by
  have := dots_len u.path
  unfold joinU
  simp only [List.length_append]
  omega
end Go.Proofs.YtlblefcmilfjdaaGreatDoor
namespace Go.Proofs.YtlblefcmilfjdaaGreatDoor
set_option linter.unusedVariables false
set_option linter.unusedSimpArgs false
open Go.RowKit Go.BigFrame

def fOf (low : Bool) (c : UInt8) : UInt8 := if low then lowB c else c
theorem fok_of (low : Bool) : FOk (fOf low) := by
  cases low with
  | true => exact ⟨fok_low.byte, fok_low.plain, fok_low.twice, fok_low.dels⟩
  | false => exact ⟨fok_id.byte, fok_id.plain, fok_id.twice, fok_id.dels⟩
theorem drop_parts (l : List UInt8) (k : Nat) (c : UInt8) (t : List UInt8) (h : l.drop k = c :: t) : k < l.length ∧ l.getD k 0 = c ∧ l.drop (k + 1) = t := by
  have hk : k < l.length := by
    rcases Nat.lt_or_ge k l.length with h1 | h1
    · exact h1
    · rw [List.drop_eq_nil_of_le h1] at h; cases h
  rw [drop8 l k hk] at h
  injection h with h1 h2
  exact ⟨hk, h1, h2⟩
theorem ext_one (l : List UInt8) (k : Nat) (c : UInt8) (t : List UInt8) (h : l.drop k = c :: t) : (asS l).extract k (k + 1) = asS [c] := by
  rw [ext_asS, asS_data, h]
  simp
theorem ext_two (l : List UInt8) (k : Nat) (x a b : UInt8) (t : List UInt8) (h : l.drop k = x :: a :: b :: t) : (asS l).extract (k + 1) (k + 3) = asS [a, b] := by
  have := (drop_parts l k x _ h).2.2
  rw [ext_asS, asS_data, this]
  simp
set_option maxHeartbeats 8000000 in
set_option maxRecDepth 100000 in
theorem refTidy_any (l : List UInt8) (low : Bool) (hl : l.length ≤ 100000) (hs : StandsI l) (w : World) : Calls Tryz.prog 33 #[.string (asS l), .bool low] w fun e w' => e = .returned (.string (asS (tidyU (fOf low) l))) ∧ Below w.heap.size w w' := by
  have HU0 : Hid (tidyU (fOf low) l = [] ++ tidyU (fOf low) (l.drop 0)) := rfl
  generalize tidyU (fOf low) l = R at HU0 ⊢
  have HS0 : Hid (StandsI (l.drop 0)) := hs
  have HUN := hid (fun (a b : UInt8) W => refUnhex_two a b W)
  have HES := hid (fun (v : UInt8) W => refEscape_any [v] (by simp) W)
  have HLO := hid (fun (x : UInt8) W => refLower_any [x] W (by simp))
  have HIX : Hid (∀ k, k < l.length → ∀ W, (Instr.index 9 (.string (asS l)) (.int .i64 (k : Int))).run Tryz.prog W = .ok (.int .u8 (l.getD k 0).toNat) W) := fun k hk W => str_ix (asS l) k (by rw [asS_size]; exact hk) W
  have HE1 : Hid (∀ k c t, l.drop k = c :: t → ∀ W, (Instr.slice 9 (.string (asS l)) (some (.int .i64 (k : Int))) (some (.int .i64 ((k : Int) + 1))) none).run Tryz.prog W = .ok (.string (asS [c])) W) := fun k c t h W => slice_run2 (asS l) k (k + 1) _ _ rfl (by omega) (by omega) (by rw [asS_size]; exact (drop_parts l k c t h).1) _ (ext_one l k c t h) W
  have HE2 : Hid (∀ k x a b t, l.drop k = x :: a :: b :: t → ∀ W, (Instr.slice 9 (.string (asS l)) (some (.int .i64 ((k : Int) + 1))) (some (.int .i64 ((k : Int) + 3))) none).run Tryz.prog W = .ok (.string (asS [a, b])) W) := fun k x a b t h W => slice_run2 (asS l) (k + 1) (k + 3) _ _ (by omega) (by omega) (by omega) (by rw [asS_size]; have := congrArg List.length h; rw [List.length_drop] at this; simp at this; omega) _ (ext_two l k x a b t h) W
  have hsz := asS_size l
  generalize hS : asS l = S at HIX HE1 HE2 hsz ⊢
  clear hS hs
  have HSZ := hid hsz
  have hSl : S.size ≤ 100000 := by omega
  clear hsz
  go_enter Tryz.func33, Tryz.ntmps33
  go_wp2_with fail
  go_loopw [5, 6] (fun o i wr => ∃ (k : Nat) (out : List UInt8), o = .string (asS out) ∧ i = .int .i64 (k : Int) ∧ k ≤ S.size ∧ out.length ≤ k ∧ Hid (StandsI (l.drop k)) ∧ Hid (R = out ++ tidyU (fOf low) (l.drop k)) ∧ Hid (Below w.heap.size w wr)) (fun _ i _ => S.size - (intOf i).toNat)
  case atStart => exact ⟨0, [], rfl, rfl, Nat.zero_le _, Nat.le_refl _, HS0, HU0, Below.refl _ _⟩
  case round =>
    obtain ⟨k, out, rfl, rfl, hk, hout, HSI, HU, HB⟩ := hrel
    rcases HSI.out.parts with e | ⟨c, t, e, hcb, hc, ht⟩ | ⟨a, b, t, e, ha, hb, ht⟩
    · have hge : l.length ≤ k := by
        rcases Nat.lt_or_ge k l.length with h1 | h1
        · rw [drop8 l k h1] at e; cases e
        · exact h1
      have hi : ¬ (k : Int) < (S.size : Int) := by have := HSZ.out; omega
      have HQ : Hid (R = out) := by show _ = _; rw [HU.out, e]; simp [tidyU]
      clear e hge
      go_wp2_with fail
      go_ret
      exact ⟨by rw [HQ.out]; rfl, HB.out⟩
    · obtain ⟨hkl, hgc, hd1⟩ := drop_parts l k c t e
      have hi : (k : Int) < (S.size : Int) := by have := HSZ.out; omega
      have hix := HIX.out k hkl
      rw [hgc] at hix
      have hs1 := HE1.out k c t e
      have hq := u8_int c 37
      rw [show ((37 : UInt8).toNat : Int) = 37 from rfl, decide_eq_false hc] at hq
      have HT : Hid (StandsI (l.drop (k + 1))) := by show StandsI _; rw [hd1]; exact ht
      have HQ : Hid (R = (out ++ [fOf low c]) ++ tidyU (fOf low) (l.drop (k + 1))) := by show _ = _; rw [HU.out, e, tidy_cons _ c t hc, hd1]; simp
      have HLC := hid (HLO.out c)
      clear e hcb hc ht hgc hd1 HU HSI
      cases low with
      | true =>
        have hz : ¬ (9223372036854775807 < (asS out).size + (asS [lowB c]).size) := by rw [asS_size, asS_size]; simp; omega
        have hcat := asS_app out [lowB c]
        have HL2 : Hid (∀ W, Calls Tryz.prog 32 #[.string (asS [c])] W fun e w' => e = .returned (.string (asS [lowB c])) ∧ Below W.heap.size W w') := HLC
        go_wp2_with fail
        refine (HL2.out _).mono ?_
        rintro e W1 ⟨rfl, hb1⟩
        have HB1 := hid (HB.out.trans (hb1.mono HB.out.size))
        clear hb1
        go_wp2_with fail
        go_roundw
        case rel => exact ⟨k + 1, out ++ [lowB c], rfl, by go_num, by have := HSZ.out; omega, by simp; omega, HT, HQ, HB1⟩
        case measure => simp [intOf]; omega
      | false =>
        have hz : ¬ (9223372036854775807 < (asS out).size + (asS [c]).size) := by rw [asS_size, asS_size]; simp; omega
        have hcat := asS_app out [c]
        go_wp2_with fail
        go_roundw
        case rel => exact ⟨k + 1, out ++ [c], rfl, by go_num, by have := HSZ.out; omega, by simp; omega, HT, HQ, HB⟩
        case measure => simp [intOf]; omega
    · obtain ⟨hkl, hgc, hd1⟩ := drop_parts l k 37 _ e
      have hlen3 : k + 3 ≤ l.length := by have := congrArg List.length e; rw [List.length_drop] at this; simp at this; omega
      have hd3 : l.drop (k + 3) = t := by
        have h1 := (drop_parts l (k + 1) a _ hd1).2.2
        exact (drop_parts l (k + 1 + 1) b _ h1).2.2
      have hi : (k : Int) < (S.size : Int) := by have := HSZ.out; omega
      have hix := HIX.out k hkl
      rw [hgc] at hix
      have hs1 := HE1.out k 37 _ e
      have hs2 := HE2.out k 37 a b t e
      have HT : Hid (StandsI (l.drop (k + 3))) := by show StandsI _; rw [hd3]; exact ht
      have HQ : Hid (R = (out ++ signU (fOf low) (twoU a b)) ++ tidyU (fOf low) (l.drop (k + 3))) := by show _ = _; rw [HU.out, e, tidy_hex, hd3]; simp
      have HU2 : Hid (∀ W, Calls Tryz.prog 52 #[.string (asS [a, b])] W fun e w' => Below W.heap.size W w' ∧ ∃ g c, e = .returned (.tuple #[.slice (some ⟨g, 0, none⟩) 1 c, .bool true]) ∧ (convert 54 9 (.slice (some ⟨g, 0, none⟩) 1 c)).run Tryz.prog w' = .ok (.string (asS [twoU a b])) w') := fun W => (HUN.out a b W).mono (by
        rintro e w' ⟨hb1, h⟩
        rcases h with ⟨_, h⟩ | ⟨h, _⟩
        · exact ⟨hb1, h⟩
        · rw [ha, hb] at h; cases h)
      have HES2 : Hid (∀ W, Calls Tryz.prog 53 #[.string (asS [twoU a b])] W fun e w' => e = .returned (.string (asS (signU id (twoU a b)))) ∧ Below W.heap.size W w') := fun W => by
        have := HES.out (twoU a b) W
        rw [esc_one] at this
        exact this
      clear e hgc hd1 hd3 ht ha hb HU HSI HUN HES
      generalize twoU a b = v at HQ HU2 HES2
      generalize asS [a, b] = SAB at hs2 HU2
      have hkk : k + 3 ≤ S.size := by have := HSZ.out; omega
      have HLC := hid (HLO.out v)
      cases hpl : plainU v with
      | true =>
        have e1 : signU id v = [v] := by unfold signU; rw [hpl, if_pos rfl]; rfl
        have e2 : signU (fOf low) v = [fOf low v] := by unfold signU; rw [hpl, if_pos rfl]
        rw [e1] at HES2
        rw [e2] at HQ
        have hz1 : decide ((1 : Int) < ((asS [v]).size : Int)) = false := decide_eq_false (by rw [asS_size]; simp)
        clear e1 e2 hpl
        cases low with
        | true =>
          have hz : ¬ (9223372036854775807 < (asS out).size + (asS [lowB v]).size) := by rw [asS_size, asS_size]; simp; omega
          have hcat := asS_app out [lowB v]
          have HL2 : Hid (∀ W, Calls Tryz.prog 32 #[.string (asS [v])] W fun e w' => e = .returned (.string (asS [lowB v])) ∧ Below W.heap.size W w') := HLC
          generalize asS [v] = SV at HU2 HES2 hz1 HL2
          go_wp2_with fail
          refine (HU2.out _).mono ?_
          rintro e W1 ⟨hb1, g, cp, rfl, hcv⟩
          have HB1 := hid (HB.out.trans (hb1.mono HB.out.size))
          clear hb1
          go_wp2_with fail
          refine (HES2.out _).mono ?_
          rintro e W2 ⟨rfl, hb2⟩
          have HB2 := hid (HB1.out.trans (hb2.mono HB1.out.size))
          clear hb2 hcv
          go_wp2_with fail
          refine (HL2.out _).mono ?_
          rintro e W3 ⟨rfl, hb3⟩
          have HB3 := hid (HB2.out.trans (hb3.mono HB2.out.size))
          clear hb3
          go_wp2_with fail
          go_roundw
          case rel => exact ⟨k + 3, out ++ [lowB v], rfl, by go_num, by omega, by simp; omega, HT, HQ, HB3⟩
          case measure => simp [intOf]; omega
        | false =>
          have hz : ¬ (9223372036854775807 < (asS out).size + (asS [v]).size) := by rw [asS_size, asS_size]; simp; omega
          have hcat := asS_app out [v]
          generalize hSV : asS [v] = SV at HU2 HES2 hz1 hz hcat
          clear hSV
          go_wp2_with fail
          refine (HU2.out _).mono ?_
          rintro e W1 ⟨hb1, g, cp, rfl, hcv⟩
          have HB1 := hid (HB.out.trans (hb1.mono HB.out.size))
          clear hb1
          go_wp2_with fail
          refine (HES2.out _).mono ?_
          rintro e W2 ⟨rfl, hb2⟩
          have HB2 := hid (HB1.out.trans (hb2.mono HB1.out.size))
          clear hb2 hcv
          go_wp2_with fail
          go_roundw
          case rel => exact ⟨k + 3, out ++ [v], rfl, by go_num, by omega, by simp; omega, HT, HQ, HB2⟩
          case measure => simp [intOf]; omega
      | false =>
        have e1 : signU id v = [37, hexD (v.toNat / 16), hexD (v.toNat % 16)] := by unfold signU; rw [hpl, if_neg (by simp)]
        have e2 : signU (fOf low) v = signU id v := by unfold signU; rw [hpl, if_neg (by simp), if_neg (by simp)]
        rw [e2] at HQ
        have hl3 : (signU id v).length = 3 := by rw [e1]; rfl
        have hz1 : decide ((1 : Int) < ((asS (signU id v)).size : Int)) = true := decide_eq_true (by rw [asS_size, hl3]; omega)
        have hz : ¬ (9223372036854775807 < (asS out).size + (asS (signU id v)).size) := by rw [asS_size, asS_size, hl3]; omega
        have hcat := asS_app out (signU id v)
        clear e1 e2 hpl
        generalize signU id v = sg at HES2 HQ hl3 hz1 hz hcat
        generalize hSV : asS sg = SG at HES2 hz1 hz hcat
        clear hSV
        generalize asS [v] = SV at HU2 HES2
        cases low with
        | true =>
          go_wp2_with fail
          refine (HU2.out _).mono ?_
          rintro e W1 ⟨hb1, g, cp, rfl, hcv⟩
          have HB1 := hid (HB.out.trans (hb1.mono HB.out.size))
          clear hb1
          go_wp2_with fail
          refine (HES2.out _).mono ?_
          rintro e W2 ⟨rfl, hb2⟩
          have HB2 := hid (HB1.out.trans (hb2.mono HB1.out.size))
          clear hb2 hcv
          go_wp2_with fail
          go_roundw
          case rel => exact ⟨k + 3, out ++ sg, rfl, by go_num, by omega, by rw [List.length_append]; omega, HT, HQ, HB2⟩
          case measure => simp [intOf]; omega
        | false =>
          go_wp2_with fail
          refine (HU2.out _).mono ?_
          rintro e W1 ⟨hb1, g, cp, rfl, hcv⟩
          have HB1 := hid (HB.out.trans (hb1.mono HB.out.size))
          clear hb1
          go_wp2_with fail
          refine (HES2.out _).mono ?_
          rintro e W2 ⟨rfl, hb2⟩
          have HB2 := hid (HB1.out.trans (hb2.mono HB1.out.size))
          clear hb2 hcv
          go_wp2_with fail
          go_roundw
          case rel => exact ⟨k + 3, out ++ sg, rfl, by go_num, by omega, by rw [List.length_append]; omega, HT, HQ, HB2⟩
          case measure => simp [intOf]; omega
end Go.Proofs.YtlblefcmilfjdaaGreatDoor
namespace Go.Proofs.YtlblefcmilfjdaaGreatDoor
set_option linter.unusedVariables false
set_option linter.unusedSimpArgs false
open Go.RowKit Go.BigFrame
attribute [local go_sem ↓] loadU_eq

theorem pr_auth (u : UrlV) (h : prOk u = true) (hh : u.host ≠ []) : u.hasAuth = true := by
  have hp := (pr_ok u h).2
  obtain ⟨s3, sch, e, _⟩ := parts_of _ (parse_okU _ u hp).1 u hp
  cases ha : u.hasAuth with
  | true => rfl
  | false =>
    exfalso
    apply hh
    rw [e] at ha ⊢
    exact headC_auth s3 _ rfl rfl ha
theorem usual_cases (l : List UInt8) : (l = [104, 116, 116, 112] ∧ usualU l = 80) ∨ (l = [104, 116, 116, 112, 115] ∧ usualU l = 443) ∨ (l ≠ [104, 116, 116, 112] ∧ l ≠ [104, 116, 116, 112, 115] ∧ usualU l = 0) := by
  unfold usualU
  by_cases h1 : l = [104, 116, 116, 112]
  · exact .inl ⟨h1, by rw [if_pos h1]⟩
  · by_cases h2 : l = [104, 116, 116, 112, 115]
    · exact .inr (.inl ⟨h2, by rw [if_neg h1, if_pos h2]⟩)
    · exact .inr (.inr ⟨h1, h2, by rw [if_neg h1, if_neg h2]⟩)
theorem val_take (l : List UInt8) (k : Nat) (h : k < l.length) : valU 0 (l.take (k + 1)) = digN (valU 0 (l.take k)) (l.getD k 0) := by
  rw [take_snoc l k h, val_app, val_one]
theorem val_part (l : List UInt8) (k : Nat) : valU 0 (l.take k) ≤ valU 0 l := by
  conv => rhs; rw [← List.take_append_drop k l, val_app]
  exact val_ge _ _
theorem dig_at (l : List UInt8) (h : l.all digitU = true) (k : Nat) (hk : k < l.length) : 48 ≤ (l.getD k 0).toNat ∧ (l.getD k 0).toNat ≤ 57 := by
  have : l.getD k 0 ∈ l := by rw [List.getD_eq_getElem?_getD, List.getElem?_eq_getElem hk]; exact List.getElem_mem hk
  exact dig_of _ (List.all_eq_true.1 h _ this)
set_option maxHeartbeats 8000000 in
set_option maxRecDepth 100000 in
theorem refPort_any (u : UrlV) (hu : LenU 100000 u) (w : World) : Calls Tryz.prog 13 #[.agg (ucs u)] w fun e w' => e = .returned (.int .i64 (portU u : Int)) ∧ Below w.heap.size w w' := by
  have HLO := hid (fun W => refLower_any u.scheme W (by have := hu.scheme; omega))
  have HMA := hid (fun W => refMay_any u hu W)
  rw [may_pr] at HMA
  have HNO := hid (fun h => (port_no u h).1)
  have HPA := hid (pr_auth u)
  have HDG := hid (ok_port u)
  have HFU : Hid (forUs u = (prOk u && (!decide (usualU (u.scheme.map lowB) = 0) && (u.hasAuth && (!u.hasUser && (!decide (u.host = []) && !u.hasFrag)))))) := rfl
  have HPU : Hid (portU u = if forUs u then (if u.port = [] then usualU (u.scheme.map lowB) else numU u.port) else 0) := rfl
  have hr0 : (w.alloc (.cells (ucs u) 26)).heap[w.heap.size]? = some (.cells (ucs u) 26 (0, 0)) := heap_alloc_new w _
  have c0 := cellU hr0 0 (.string (asS u.scheme)) rfl
  have HR0 := hid hr0
  have eh := emp8 u.host
  have ep := emp8 u.port
  have hpl := hu.port
  have q1 := tl_eq (u.scheme.map lowB) [104, 116, 116, 112]
  have q2 := tl_eq (u.scheme.map lowB) [104, 116, 116, 112, 115]
  have huc := usual_cases (u.scheme.map lowB)
  clear hu hr0
  generalize hpU : portU u = pU at HNO HPU ⊢
  clear hpU
  go_enter Tryz.func13, Tryz.ntmps13
  go_wp2_with fail
  refine (HLO.out _).mono ?_
  rintro e W1 ⟨rfl, hb1⟩
  have HR1 := hid (row_keep hb1 HR0.out)
  have HB1 : Hid (Below w.heap.size w W1) := (alloc_below (Below.refl _ w) (Nat.le_refl _) _).trans (hb1.mono (by simp))
  have l1 := loadU_row HR1.out
  clear hb1 c0
  go_wp2_with fail
  refine (HMA.out _).mono ?_
  rintro e W3 ⟨rfl, hb3⟩
  have hr3 := row_keep hb3 HR1.out
  have HB3 := hid (HB1.out.trans (hb3.mono HB1.out.size))
  have c2 := cellU hr3 2 (.bool u.hasUser) rfl
  have c3 := cellU hr3 3 (.string (asS u.host)) rfl
  have c4 := cellU hr3 4 (.string (asS u.port)) rfl
  have c11 := cellU hr3 11 (.bool u.hasFrag) rfl
  clear hb3 l1 hr3 HR1 HR0 HLO HMA
  generalize forUs u = fu at HFU HPU HNO
  generalize hsl : u.scheme.map lowB = sl at HFU HPU huc q1 q2 ⊢
  clear hsl
  generalize hSL : asS sl = SL at q1 q2 ⊢
  clear hSL
  generalize hok : prOk u = ok at HFU HPA HDG ⊢
  clear hok
  cases ok with
  | false =>
    obtain rfl := HNO.out HFU.out
    clear c2 c3 c4 c11 eh ep q1 q2 huc
    go_wp2_with fail
    go_ret
    exact ⟨rfl, HB3.out⟩
  | true =>
    generalize u.hasUser = hU at c2 HFU
    generalize u.hasFrag = hf at c11 HFU
    have key : ∀ (us : Nat), us ≠ 0 → usualU sl = us → Hid (fu = (!hU && (!decide (u.host = []) && !hf))) := fun us h0 h1 => by
      show _ = _
      rw [HFU.out, h1, decide_eq_false h0]
      by_cases hh : u.host = []
      · rw [decide_eq_true hh]
        cases u.hasAuth <;> cases hU <;> rfl
      · rw [HPA.out rfl hh]; rfl
    have HKEY := hid key
    clear key
    have HD := hid (HDG.out rfl)
    generalize hHH : decide (u.host = []) = eH at eh HKEY
    clear hHH
    rcases huc with ⟨rfl, hus⟩ | ⟨rfl, hus⟩ | ⟨h1, h2, hus⟩
    · rw [decide_eq_true rfl] at q1
      rw [decide_eq_false (by decide)] at q2
      have HF2 := HKEY.out 80 (by omega) hus
      rw [hus] at HPU
      clear HFU HKEY hus
      cases hU with
      | true =>
        obtain rfl := HNO.out HF2.out
        clear c3 c4 c11 eh ep
        go_wp2_with fail
        go_ret
        exact ⟨rfl, HB3.out⟩
      | false =>
        cases eH with
        | true =>
          obtain rfl := HNO.out HF2.out
          generalize asS u.host = SH at c3 eh
          clear c4 c11 ep
          go_wp2_with fail
          go_ret
          exact ⟨rfl, HB3.out⟩
        | false =>
          generalize asS u.host = SH at c3 eh
          cases hf with
          | true =>
            obtain rfl := HNO.out HF2.out
            clear c4 ep
            go_wp2_with fail
            go_ret
            exact ⟨rfl, HB3.out⟩
          | false =>
            have HF3 : Hid (fu = true) := HF2.out
            have HP2 : Hid (pU = if u.port = [] then 80 else numU u.port) := by show _ = _; rw [HPU.out, HF3.out]; rfl
            clear HNO HF2 HPU HF3
            by_cases hp : u.port = []
            · rw [decide_eq_true hp] at ep
              have HP3 : Hid (pU = 80) := by show _ = _; rw [HP2.out, if_pos hp]
              generalize asS u.port = SP at c4 ep
              clear hp HP2
              go_wp2_with fail
              go_ret
              exact ⟨by rw [HP3.out]; rfl, HB3.out⟩
            · rw [decide_eq_false hp] at ep
              have HP3 : Hid (pU = if valU 0 u.port ≤ 65535 then valU 0 u.port else 0) := by show _ = _; rw [HP2.out, if_neg hp]; rfl
              have HIX : Hid (∀ k, k < u.port.length → ∀ W, (Instr.index 9 (.string (asS u.port)) (.int .i64 (k : Int))).run Tryz.prog W = .ok (.int .u8 (u.port.getD k 0).toNat) W) := fun k hk W => str_ix (asS u.port) k (by rw [asS_size]; exact hk) W
              have hzp := asS_size u.port
              have HDI := hid (dig_at u.port HD.out)
              have HVT := hid (val_take u.port)
              have HVP := hid (val_part u.port)
              have HV0 : Hid (∀ k, u.port.length ≤ k → valU 0 (u.port.take k) = valU 0 u.port) := fun k hk => by rw [List.take_of_length_le hk]
              generalize asS u.port = SP at c4 ep HIX hzp
              generalize u.port = pt at HP3 HIX hzp HDI HVT HVP HV0 hpl
              clear hp HP2 HD HDG HPA
              have HZ := hid hzp
              have hSP : SP.size ≤ 100000 := by omega
              clear hzp hpl
              go_wp2_with fail
              clear c2 c3 c11 eh q1 q2 ep
              go_loop [4, 5] (fun n i => ∃ k : Nat, k ≤ SP.size ∧ i = .int .i64 (k : Int) ∧ n = .int .i64 ((valU 0 (pt.take k) : Nat) : Int) ∧ valU 0 (pt.take k) ≤ 65535) (fun _ i => SP.size - (intOf i).toNat)
              case atStart => exact ⟨0, Nat.zero_le _, rfl, rfl, by show valU 0 [] ≤ 65535; decide⟩
              case round =>
                obtain ⟨k, hk, rfl, rfl, hv⟩ := hrel
                by_cases hlt : k < SP.size
                · have hi : (k : Int) < (SP.size : Int) := by omega
                  have hkl : k < pt.length := by have := HZ.out; omega
                  have hix := HIX.out k hkl
                  obtain ⟨hd1, hd2⟩ := HDI.out k hkl
                  have hvt := HVT.out k hkl
                  have hvp := HVP.out (k + 1)
                  have hdd : digN (valU 0 (pt.take k)) (pt.getD k 0) = valU 0 (pt.take k) * 10 + ((pt.getD k 0).toNat - 48) := by unfold digN; rfl
                  generalize pt.getD k 0 = c at hix hd1 hd2 hvt hdd
                  generalize hv1 : valU 0 (pt.take k) = v at hv hvt hdd
                  generalize hv2 : valU 0 (pt.take (k + 1)) = v2 at hvt hvp
                  have HV2 := hid hv2
                  clear hv1 hv2
                  have hc1 : (48 : Int) ≤ (c.toNat : Int) := by omega
                  have hc2 : (c.toNat : Int) ≤ 57 := by omega
                  have HEQ : Hid ((v : Int) * 10 + ((c.toNat : Int) - 48) = (v2 : Int)) := by show _ = _; omega
                  have hvI : (v : Int) ≤ 65535 := by omega
                  have hv0 : (0 : Int) ≤ (v : Int) := by omega
                  by_cases hbig : 65535 < v2
                  · have hgt : (65535 : Int) < (v : Int) * 10 + ((c.toNat : Int) - 48) := by rw [HEQ.out]; omega
                    have HP4 : Hid (pU = 0) := by show _ = _; rw [HP3.out, if_neg (by omega)]
                    clear hvt hdd hd1 hd2 hbig hvp hkl
                    go_wp2_with fail
                    go_ret
                    exact ⟨by rw [HP4.out]; rfl, HB3.out⟩
                  · have hgt : ¬ (65535 : Int) < (v : Int) * 10 + ((c.toNat : Int) - 48) := by rw [HEQ.out]; omega
                    have hv2l : v2 ≤ 65535 := by omega
                    clear hvt hdd hd1 hd2 hbig hvp hkl
                    go_wp2_with fail
                    go_round
                    case rel => exact ⟨k + 1, by omega, by go_num, by rw [HV2.out, ← HEQ.out], by rw [HV2.out]; exact hv2l⟩
                    case measure => simp [intOf]; omega
                · have hi : ¬ (k : Int) < (SP.size : Int) := by omega
                  have HE : Hid (valU 0 (pt.take k) = valU 0 pt) := HV0.out k (by have := HZ.out; omega)
                  have HP4 : Hid (pU = valU 0 (pt.take k)) := by show _ = _; rw [HP3.out, HE.out, if_pos (by rw [← HE.out]; exact hv)]
                  go_wp2_with fail
                  go_ret
                  exact ⟨by rw [HP4.out]; rfl, HB3.out⟩
    · rw [decide_eq_false (by decide)] at q1
      rw [decide_eq_true rfl] at q2
      have HF2 := HKEY.out 443 (by omega) hus
      rw [hus] at HPU
      clear HFU HKEY hus
      cases hU with
      | true =>
        obtain rfl := HNO.out HF2.out
        clear c3 c4 c11 eh ep
        go_wp2_with fail
        go_ret
        exact ⟨rfl, HB3.out⟩
      | false =>
        cases eH with
        | true =>
          obtain rfl := HNO.out HF2.out
          generalize asS u.host = SH at c3 eh
          clear c4 c11 ep
          go_wp2_with fail
          go_ret
          exact ⟨rfl, HB3.out⟩
        | false =>
          generalize asS u.host = SH at c3 eh
          cases hf with
          | true =>
            obtain rfl := HNO.out HF2.out
            clear c4 ep
            go_wp2_with fail
            go_ret
            exact ⟨rfl, HB3.out⟩
          | false =>
            have HF3 : Hid (fu = true) := HF2.out
            have HP2 : Hid (pU = if u.port = [] then 443 else numU u.port) := by show _ = _; rw [HPU.out, HF3.out]; rfl
            clear HNO HF2 HPU HF3
            by_cases hp : u.port = []
            · rw [decide_eq_true hp] at ep
              have HP3 : Hid (pU = 443) := by show _ = _; rw [HP2.out, if_pos hp]
              generalize asS u.port = SP at c4 ep
              clear hp HP2
              go_wp2_with fail
              go_ret
              exact ⟨by rw [HP3.out]; rfl, HB3.out⟩
            · rw [decide_eq_false hp] at ep
              have HP3 : Hid (pU = if valU 0 u.port ≤ 65535 then valU 0 u.port else 0) := by show _ = _; rw [HP2.out, if_neg hp]; rfl
              have HIX : Hid (∀ k, k < u.port.length → ∀ W, (Instr.index 9 (.string (asS u.port)) (.int .i64 (k : Int))).run Tryz.prog W = .ok (.int .u8 (u.port.getD k 0).toNat) W) := fun k hk W => str_ix (asS u.port) k (by rw [asS_size]; exact hk) W
              have hzp := asS_size u.port
              have HDI := hid (dig_at u.port HD.out)
              have HVT := hid (val_take u.port)
              have HVP := hid (val_part u.port)
              have HV0 : Hid (∀ k, u.port.length ≤ k → valU 0 (u.port.take k) = valU 0 u.port) := fun k hk => by rw [List.take_of_length_le hk]
              generalize asS u.port = SP at c4 ep HIX hzp
              generalize u.port = pt at HP3 HIX hzp HDI HVT HVP HV0 hpl
              clear hp HP2 HD HDG HPA
              have HZ := hid hzp
              have hSP : SP.size ≤ 100000 := by omega
              clear hzp hpl
              go_wp2_with fail
              clear c2 c3 c11 eh q1 q2 ep
              go_loop [4, 5] (fun n i => ∃ k : Nat, k ≤ SP.size ∧ i = .int .i64 (k : Int) ∧ n = .int .i64 ((valU 0 (pt.take k) : Nat) : Int) ∧ valU 0 (pt.take k) ≤ 65535) (fun _ i => SP.size - (intOf i).toNat)
              case atStart => exact ⟨0, Nat.zero_le _, rfl, rfl, by show valU 0 [] ≤ 65535; decide⟩
              case round =>
                obtain ⟨k, hk, rfl, rfl, hv⟩ := hrel
                by_cases hlt : k < SP.size
                · have hi : (k : Int) < (SP.size : Int) := by omega
                  have hkl : k < pt.length := by have := HZ.out; omega
                  have hix := HIX.out k hkl
                  obtain ⟨hd1, hd2⟩ := HDI.out k hkl
                  have hvt := HVT.out k hkl
                  have hvp := HVP.out (k + 1)
                  have hdd : digN (valU 0 (pt.take k)) (pt.getD k 0) = valU 0 (pt.take k) * 10 + ((pt.getD k 0).toNat - 48) := by unfold digN; rfl
                  generalize pt.getD k 0 = c at hix hd1 hd2 hvt hdd
                  generalize hv1 : valU 0 (pt.take k) = v at hv hvt hdd
                  generalize hv2 : valU 0 (pt.take (k + 1)) = v2 at hvt hvp
                  have HV2 := hid hv2
                  clear hv1 hv2
                  have hc1 : (48 : Int) ≤ (c.toNat : Int) := by omega
                  have hc2 : (c.toNat : Int) ≤ 57 := by omega
                  have HEQ : Hid ((v : Int) * 10 + ((c.toNat : Int) - 48) = (v2 : Int)) := by show _ = _; omega
                  have hvI : (v : Int) ≤ 65535 := by omega
                  have hv0 : (0 : Int) ≤ (v : Int) := by omega
                  by_cases hbig : 65535 < v2
                  · have hgt : (65535 : Int) < (v : Int) * 10 + ((c.toNat : Int) - 48) := by rw [HEQ.out]; omega
                    have HP4 : Hid (pU = 0) := by show _ = _; rw [HP3.out, if_neg (by omega)]
                    clear hvt hdd hd1 hd2 hbig hvp hkl
                    go_wp2_with fail
                    go_ret
                    exact ⟨by rw [HP4.out]; rfl, HB3.out⟩
                  · have hgt : ¬ (65535 : Int) < (v : Int) * 10 + ((c.toNat : Int) - 48) := by rw [HEQ.out]; omega
                    have hv2l : v2 ≤ 65535 := by omega
                    clear hvt hdd hd1 hd2 hbig hvp hkl
                    go_wp2_with fail
                    go_round
                    case rel => exact ⟨k + 1, by omega, by go_num, by rw [HV2.out, ← HEQ.out], by rw [HV2.out]; exact hv2l⟩
                    case measure => simp [intOf]; omega
                · have hi : ¬ (k : Int) < (SP.size : Int) := by omega
                  have HE : Hid (valU 0 (pt.take k) = valU 0 pt) := HV0.out k (by have := HZ.out; omega)
                  have HP4 : Hid (pU = valU 0 (pt.take k)) := by show _ = _; rw [HP3.out, HE.out, if_pos (by rw [← HE.out]; exact hv)]
                  go_wp2_with fail
                  go_ret
                  exact ⟨by rw [HP4.out]; rfl, HB3.out⟩
    · rw [decide_eq_false h1] at q1
      rw [decide_eq_false h2] at q2
      have HF3 : Hid (fu = false) := by show _ = _; rw [HFU.out, hus]; rfl
      obtain rfl := HNO.out HF3.out
      clear c2 c3 c4 c11 eh ep h1 h2 hus
      go_wp2_with fail
      go_ret
      exact ⟨rfl, HB3.out⟩
end Go.Proofs.YtlblefcmilfjdaaGreatDoor
namespace Go.Proofs.YtlblefcmilfjdaaGreatDoor
set_option linter.unusedVariables false
set_option linter.unusedSimpArgs false
open Go.RowKit Go.BigFrame
attribute [local go_sem ↓] loadU_eq

def rU1 (u : UrlV) : UrlV := { u with scheme := u.scheme.map lowB }
def rU2 (u : UrlV) : UrlV := { rU1 u with host := tidyU lowB u.host }
def rU3 (u : UrlV) : UrlV := { rU2 u with path := dotsU (tidyU id u.path) }
def rU4 (u : UrlV) : UrlV := { rU3 u with path := orU (dotsU (tidyU id u.path)) [47] }
def rU5 (u : UrlV) : UrlV := { rU4 u with query := tidyU id u.query }
def rU6 (u : UrlV) (b : Bool) : UrlV := { rU5 u with hasPort := b }
def rU7 (u : UrlV) (b : Bool) : UrlV := { rU6 u b with port := [] }
def rU8 (u : UrlV) : UrlV := { rU7 u true with port := Lib.decDigits (portU u) }
def rNorm (u : UrlV) : UrlV := if portU u = usualU (u.scheme.map lowB) then rU7 u false else rU8 u
set_option maxHeartbeats 8000000 in
set_option maxRecDepth 100000 in
theorem refNormal_any (u : UrlV) (hu : LenU 100000 u) (hus : usualU (u.scheme.map lowB) ≠ 0) (sh : StandsI u.host) (sp : StandsI u.path) (sq : StandsI u.query) (hpl : u.path.length ≤ 2048) (w : World) : Calls Tryz.prog 14 #[.agg (ucs u)] w fun e w' => e = .returned (.agg (ucs (rNorm u))) ∧ Below w.heap.size w w' := by
  have HPO := hid (fun W => refPort_any u hu W)
  have HLO := hid (fun W => refLower_any u.scheme W (by have := hu.scheme; omega))
  have HNH : Hid (∀ W, Calls Tryz.prog 33 #[.string (asS u.host), .bool true] W fun e w' => e = .returned (.string (asS (tidyU lowB u.host))) ∧ Below W.heap.size W w') := fun W => refTidy_any u.host true hu.host sh W
  have HNP : Hid (∀ W, Calls Tryz.prog 33 #[.string (asS u.path), .bool false] W fun e w' => e = .returned (.string (asS (tidyU id u.path))) ∧ Below W.heap.size W w') := fun W => refTidy_any u.path false hu.path sp W
  have HNQ : Hid (∀ W, Calls Tryz.prog 33 #[.string (asS u.query), .bool false] W fun e w' => e = .returned (.string (asS (tidyU id u.query))) ∧ Below W.heap.size W w') := fun W => refTidy_any u.query false hu.query sq W
  have HDO := hid (fun W => refDots_any (tidyU id u.path) (by have := tidy_len id sp; omega) W)
  have HDI := hid (fun W => refDigits_any (portU u) (port_le u) W)
  have ed := emp8 (dotsU (tidyU id u.path))
  generalize hED : decide (dotsU (tidyU id u.path) = []) = eD at ed
  have HED := hid hED
  clear hED
  have q1 := tl_eq (u.scheme.map lowB) [104, 116, 116, 112]
  have q2 := tl_eq (u.scheme.map lowB) [104, 116, 116, 112, 115]
  have HUC := hid (usual_cases (u.scheme.map lowB))
  have HRN : Hid (rNorm u = if portU u = usualU (u.scheme.map lowB) then rU7 u false else rU8 u) := rfl
  have HRB : Hid (((w.alloc (.cells (ucs u) 26)).alloc (.cells (ucs zeroU) 26)).heap[w.heap.size]? = some (.cells (ucs u) 26 (0, 0)) ∧ ((w.alloc (.cells (ucs u) 26)).alloc (.cells (ucs zeroU) 26)).heap[w.heap.size + 1]? = some (.cells (ucs zeroU) 26 (0, 0))) := ⟨heap_old (heap_alloc_new w _), heap_at _ _ _ (by simp)⟩
  have HB0 : Hid (Below w.heap.size w ((w.alloc (.cells (ucs u) 26)).alloc (.cells (ucs zeroU) 26))) := alloc_below (alloc_below (Below.refl _ w) (Nat.le_refl _) _) (by simp) _
  have HUS := hid hus
  clear hu sh sp sq hpl hus
  generalize rNorm u = RN at HRN ⊢
  go_enter Tryz.func14, Tryz.ntmps14
  go_upto_region 1 with (fail)
  show Code.wp Tryz.prog _ _ _ ((w.alloc (.cells (ucs u) 26)).alloc (.cells (ucs zeroU) 26))
  generalize ((w.alloc (.cells (ucs u) 26)).alloc (.cells (ucs zeroU) 26)) = V at HRB HB0 ⊢
  obtain ⟨HA0, HZ0⟩ : Hid (V.heap[w.heap.size]? = some (.cells (ucs u) 26 (0, 0))) ∧ Hid (V.heap[w.heap.size + 1]? = some (.cells (ucs zeroU) 26 (0, 0))) := HRB.out
  have l0 := loadU_row HA0.out
  go_wp2_with fail
  refine (HPO.out _).mono ?_
  rintro e W1 ⟨rfl, hb1⟩
  have HA1 := hid (row_keep hb1 HA0.out)
  have HZ1 := hid (row_keep hb1 HZ0.out)
  have HB1 := hid (HB0.out.trans (hb1.mono HB0.out.size))
  clear hb1 l0
  have c1 := cellU HA1.out 0 (.string (asS u.scheme)) rfl
  go_wp2_with fail
  refine (HLO.out _).mono ?_
  rintro e W2 ⟨rfl, hb2⟩
  have HA2 := hid (row_keep hb2 HA1.out)
  have HZ2 := hid (row_keep hb2 HZ1.out)
  have HB2 := hid (HB1.out.trans (hb2.mono HB1.out.size))
  clear hb2 c1
  go_wp2_with (first
    | (refine store_fld rfl 9 _ _ rfl w.heap.size 0 (.string (asS (u.scheme.map lowB))) (u) (rU1 u) rfl rfl info9 (by omega) rfl rfl HA2.out rfl ?_)
    | fail)
  intro W3 hO3 hW3
  have HZ3 := hid ((hO3.block (w.heap.size + 1) (by omega)).trans HZ2.out)
  have HB3 := hid (HB2.out.trans (hO3.below (B := w.heap.size) (by omega)))
  have HA3 := hid hW3
  clear hO3 hW3
  have c1 := cellU HA3.out 3 (.string (asS u.host)) rfl
  go_wp2_with fail
  refine (HNH.out _).mono ?_
  rintro e W4 ⟨rfl, hb4⟩
  have HA4 := hid (row_keep hb4 HA3.out)
  have HZ4 := hid (row_keep hb4 HZ3.out)
  have HB4 := hid (HB3.out.trans (hb4.mono HB3.out.size))
  clear hb4 c1
  go_wp2_with (first
    | (refine store_fld rfl 9 _ _ rfl w.heap.size 3 (.string (asS (tidyU lowB u.host))) (rU1 u) (rU2 u) rfl rfl info9 (by omega) rfl rfl HA4.out rfl ?_)
    | fail)
  intro W5 hO5 hW5
  have HZ5 := hid ((hO5.block (w.heap.size + 1) (by omega)).trans HZ4.out)
  have HB5 := hid (HB4.out.trans (hO5.below (B := w.heap.size) (by omega)))
  have HA5 := hid hW5
  clear hO5 hW5
  have c1 := cellU HA5.out 7 (.string (asS u.path)) rfl
  go_wp2_with fail
  refine (HNP.out _).mono ?_
  rintro e W6 ⟨rfl, hb6⟩
  have HA6 := hid (row_keep hb6 HA5.out)
  have HZ6 := hid (row_keep hb6 HZ5.out)
  have HB6 := hid (HB5.out.trans (hb6.mono HB5.out.size))
  clear hb6 c1
  go_wp2_with fail
  refine (HDO.out _).mono ?_
  rintro e Wd ⟨rfl, rfl⟩
  go_wp2_with (first
    | (refine store_fld rfl 9 _ _ rfl w.heap.size 7 (.string (asS (dotsU (tidyU id u.path)))) (rU2 u) (rU3 u) rfl rfl info9 (by omega) rfl rfl HA6.out rfl ?_)
    | fail)
  intro W7 hO7 hW7
  have HZ7 := hid ((hO7.block (w.heap.size + 1) (by omega)).trans HZ6.out)
  have HB7 := hid (HB6.out.trans (hO7.below (B := w.heap.size) (by omega)))
  have HA7 := hid hW7
  clear hO7 hW7
  have c1 := cellU HA7.out 7 (.string (asS (dotsU (tidyU id u.path)))) rfl
  go_upto_if 21 with (fail)
  go_cut [] (fun wx => Hid (wx.heap[w.heap.size]? = some (.cells (ucs (rU4 u)) 26 (0, 0))) ∧ Hid (wx.heap[w.heap.size + 1]? = some (.cells (ucs zeroU) 26 (0, 0))) ∧ Hid (Below w.heap.size w wx))
  case first =>
    cases eD with
    | true =>
      have hd := of_decide_eq_true HED.out
      have HO : Hid (rU4 u = { rU3 u with path := [47] }) := by show _ = _; unfold rU4 orU; rw [if_pos hd]
      generalize asS (dotsU (tidyU id u.path)) = SD at ed c1
      clear hd
      go_wp2_with (first
        | (refine store_fld rfl 9 _ _ rfl w.heap.size 7 (.string ⟨#[47]⟩) (rU3 u) ({ rU3 u with path := [47] }) rfl rfl info9 (by omega) rfl rfl HA7.out rfl ?_)
        | fail)
      intro Wc hOc hWc
      have HZc := hid ((hOc.block (w.heap.size + 1) (by omega)).trans HZ7.out)
      have HBc := hid (HB7.out.trans (hOc.below (B := w.heap.size) (by omega)))
      rw [← HO.out] at hWc
      have HAc := hid hWc
      clear hOc hWc
      go_wp2_with fail
      go_meet
      case rel => exact ⟨HAc, HZc, HBc⟩
    | false =>
      have hd := of_decide_eq_false HED.out
      have HO : Hid (rU4 u = rU3 u) := by show _ = _; unfold rU4 orU; rw [if_neg hd]; rfl
      generalize asS (dotsU (tidyU id u.path)) = SD at ed c1
      clear hd
      go_wp2_with fail
      go_meet
      case rel => exact ⟨by rw [HO.out]; exact HA7, HZ7, HB7⟩
  case rest =>
  obtain ⟨HA8, HZ8, HB8⟩ := hcut
  clear c1 ed HED HDO HNP HPO HLO HNH HA7 HZ7 HB7
  have c1 := cellU HA8.out 8 (.string (asS u.query)) rfl
  go_wp2_with fail
  refine (HNQ.out _).mono ?_
  rintro e W9 ⟨rfl, hb9⟩
  have HA9 := hid (row_keep hb9 HA8.out)
  have HZ9 := hid (row_keep hb9 HZ8.out)
  have HB9 := hid (HB8.out.trans (hb9.mono HB8.out.size))
  clear hb9 c1
  go_wp2_with (first
    | (refine store_fld rfl 9 _ _ rfl w.heap.size 8 (.string (asS (tidyU id u.query))) (rU4 u) (rU5 u) rfl rfl info9 (by omega) rfl rfl HA9.out rfl ?_)
    | fail)
  intro W10 hO10 hW10
  have HZ10 := hid ((hO10.block (w.heap.size + 1) (by omega)).trans HZ9.out)
  have HB10 := hid (HB9.out.trans (hO10.below (B := w.heap.size) (by omega)))
  have HA10 := hid hW10
  clear hO10 hW10
  have c1 := cellU HA10.out 0 (.string (asS (u.scheme.map lowB))) rfl
  have hpz : portU u ≤ 65535 := port_le u
  generalize hSL : asS (u.scheme.map lowB) = SL at q1 q2 c1
  clear hSL
  rcases HUC.out with ⟨hsl, hus⟩ | ⟨hsl, hus⟩ | ⟨_, _, hus⟩
  · rw [decide_eq_true hsl] at q1
    rw [decide_eq_false (by rw [hsl]; decide)] at q2
    clear hsl
    by_cases p80 : portU u = 80
    · have b80 : ((portU u : Int) == 80) = true := by rw [p80]; rfl
      have b443 : ((portU u : Int) == 443) = false := by rw [p80]; rfl
      have HF : Hid (RN = rU7 u false) := by show _ = _; rw [HRN.out, hus, if_pos p80]
      clear p80 hus hpz
      generalize hPU : (portU u : Int) = PU at b80 b443 HDI ⊢
      clear hPU
      go_wp2_with (first
        | (refine store_fld rfl 4 _ _ rfl w.heap.size 5 (.bool false) (rU5 u) (rU6 u false) rfl rfl info4 (by omega) rfl rfl HA10.out rfl ?_)
        | fail)
      intro W11 hO11 hW11
      have HZ11 := hid ((hO11.block (w.heap.size + 1) (by omega)).trans HZ10.out)
      have HB11 := hid (HB10.out.trans (hO11.below (B := w.heap.size) (by omega)))
      have HA11 := hid hW11
      clear hO11 hW11
      go_wp2_with (first
        | (refine store_fld rfl 9 _ _ rfl w.heap.size 4 (.string ⟨#[]⟩) (rU6 u false) (rU7 u false) rfl rfl info9 (by omega) rfl rfl HA11.out rfl ?_)
        | fail)
      intro W12 hO12 hW12
      have HZ12 := hid ((hO12.block (w.heap.size + 1) (by omega)).trans HZ11.out)
      have HB12 := hid (HB11.out.trans (hO12.below (B := w.heap.size) (by omega)))
      have HA12 := hid hW12
      clear hO12 hW12
      have c5 := cellU HA12.out 5 (.bool false) rfl
      have ld := loadU_row HA12.out
      go_wp2_with (first
        | (refine store_url rfl _ _ rfl (w.heap.size + 1) (rU7 u false) rfl rfl _ HZ12.out rfl ?_)
        | fail)
      intro We hOe hWe
      have HBe := hid (HB12.out.trans (hOe.below (B := w.heap.size) (by omega)))
      have HWe := hid hWe
      clear hOe hWe ld
      go_wp2_with fail
      exact bodyPost_ret (results_cell_row Tryz.results14 _ _ (w.heap.size + 1) 26 (ucs (rU7 u false)) (0, 0) _ rfl HWe.out Tryz.underlying26 rfl (ucs_info _)) rfl ⟨by rw [HF.out], HBe.out⟩
    by_cases p443 : portU u = 443
    · have b80 : ((portU u : Int) == 80) = false := by rw [p443]; rfl
      have b443 : ((portU u : Int) == 443) = true := by rw [p443]; rfl
      have HF : Hid (RN = rU8 u) := by show _ = _; rw [HRN.out, hus, if_neg (by omega)]
      clear p80 p443 hus hpz
      generalize hPU : (portU u : Int) = PU at b80 b443 HDI ⊢
      clear hPU
      go_wp2_with (first
        | (refine store_fld rfl 4 _ _ rfl w.heap.size 5 (.bool true) (rU5 u) (rU6 u true) rfl rfl info4 (by omega) rfl rfl HA10.out rfl ?_)
        | fail)
      intro W11 hO11 hW11
      have HZ11 := hid ((hO11.block (w.heap.size + 1) (by omega)).trans HZ10.out)
      have HB11 := hid (HB10.out.trans (hO11.below (B := w.heap.size) (by omega)))
      have HA11 := hid hW11
      clear hO11 hW11
      go_wp2_with (first
        | (refine store_fld rfl 9 _ _ rfl w.heap.size 4 (.string ⟨#[]⟩) (rU6 u true) (rU7 u true) rfl rfl info9 (by omega) rfl rfl HA11.out rfl ?_)
        | fail)
      intro W12 hO12 hW12
      have HZ12 := hid ((hO12.block (w.heap.size + 1) (by omega)).trans HZ11.out)
      have HB12 := hid (HB11.out.trans (hO12.below (B := w.heap.size) (by omega)))
      have HA12 := hid hW12
      clear hO12 hW12
      have c5 := cellU HA12.out 5 (.bool true) rfl
      go_wp2_with fail
      refine (HDI.out _).mono ?_
      rintro e W13 ⟨rfl, hb13⟩
      have HA13 := hid (row_keep hb13 HA12.out)
      have HZ13 := hid (row_keep hb13 HZ12.out)
      have HB13 := hid (HB12.out.trans (hb13.mono HB12.out.size))
      clear hb13 c5
      go_wp2_with (first
        | (refine store_fld rfl 9 _ _ rfl w.heap.size 4 (.string (asS (Lib.decDigits (portU u)))) (rU7 u true) (rU8 u) rfl rfl info9 (by omega) rfl rfl HA13.out rfl ?_)
        | fail)
      intro W14 hO14 hW14
      have HZ14 := hid ((hO14.block (w.heap.size + 1) (by omega)).trans HZ13.out)
      have HB14 := hid (HB13.out.trans (hO14.below (B := w.heap.size) (by omega)))
      have HA14 := hid hW14
      clear hO14 hW14
      have ld := loadU_row HA14.out
      go_wp2_with (first
        | (refine store_url rfl _ _ rfl (w.heap.size + 1) (rU8 u) rfl rfl _ HZ14.out rfl ?_)
        | fail)
      intro We hOe hWe
      have HBe := hid (HB14.out.trans (hOe.below (B := w.heap.size) (by omega)))
      have HWe := hid hWe
      clear hOe hWe ld
      go_wp2_with fail
      exact bodyPost_ret (results_cell_row Tryz.results14 _ _ (w.heap.size + 1) 26 (ucs (rU8 u)) (0, 0) _ rfl HWe.out Tryz.underlying26 rfl (ucs_info _)) rfl ⟨by rw [HF.out], HBe.out⟩
    have b80 : ((portU u : Int) == 80) = false := by rw [beq_eq_false_iff_ne]; omega
    have b443 : ((portU u : Int) == 443) = false := by rw [beq_eq_false_iff_ne]; omega
    have HF : Hid (RN = rU8 u) := by show _ = _; rw [HRN.out, hus, if_neg (by omega)]
    clear p80 p443 hus hpz
    generalize hPU : (portU u : Int) = PU at b80 b443 HDI ⊢
    clear hPU
    go_wp2_with (first
      | (refine store_fld rfl 4 _ _ rfl w.heap.size 5 (.bool true) (rU5 u) (rU6 u true) rfl rfl info4 (by omega) rfl rfl HA10.out rfl ?_)
      | fail)
    intro W11 hO11 hW11
    have HZ11 := hid ((hO11.block (w.heap.size + 1) (by omega)).trans HZ10.out)
    have HB11 := hid (HB10.out.trans (hO11.below (B := w.heap.size) (by omega)))
    have HA11 := hid hW11
    clear hO11 hW11
    go_wp2_with (first
      | (refine store_fld rfl 9 _ _ rfl w.heap.size 4 (.string ⟨#[]⟩) (rU6 u true) (rU7 u true) rfl rfl info9 (by omega) rfl rfl HA11.out rfl ?_)
      | fail)
    intro W12 hO12 hW12
    have HZ12 := hid ((hO12.block (w.heap.size + 1) (by omega)).trans HZ11.out)
    have HB12 := hid (HB11.out.trans (hO12.below (B := w.heap.size) (by omega)))
    have HA12 := hid hW12
    clear hO12 hW12
    have c5 := cellU HA12.out 5 (.bool true) rfl
    go_wp2_with fail
    refine (HDI.out _).mono ?_
    rintro e W13 ⟨rfl, hb13⟩
    have HA13 := hid (row_keep hb13 HA12.out)
    have HZ13 := hid (row_keep hb13 HZ12.out)
    have HB13 := hid (HB12.out.trans (hb13.mono HB12.out.size))
    clear hb13 c5
    go_wp2_with (first
      | (refine store_fld rfl 9 _ _ rfl w.heap.size 4 (.string (asS (Lib.decDigits (portU u)))) (rU7 u true) (rU8 u) rfl rfl info9 (by omega) rfl rfl HA13.out rfl ?_)
      | fail)
    intro W14 hO14 hW14
    have HZ14 := hid ((hO14.block (w.heap.size + 1) (by omega)).trans HZ13.out)
    have HB14 := hid (HB13.out.trans (hO14.below (B := w.heap.size) (by omega)))
    have HA14 := hid hW14
    clear hO14 hW14
    have ld := loadU_row HA14.out
    go_wp2_with (first
      | (refine store_url rfl _ _ rfl (w.heap.size + 1) (rU8 u) rfl rfl _ HZ14.out rfl ?_)
      | fail)
    intro We hOe hWe
    have HBe := hid (HB14.out.trans (hOe.below (B := w.heap.size) (by omega)))
    have HWe := hid hWe
    clear hOe hWe ld
    go_wp2_with fail
    exact bodyPost_ret (results_cell_row Tryz.results14 _ _ (w.heap.size + 1) 26 (ucs (rU8 u)) (0, 0) _ rfl HWe.out Tryz.underlying26 rfl (ucs_info _)) rfl ⟨by rw [HF.out], HBe.out⟩
  · rw [decide_eq_false (by rw [hsl]; decide)] at q1
    rw [decide_eq_true hsl] at q2
    clear hsl
    by_cases p80 : portU u = 80
    · have b80 : ((portU u : Int) == 80) = true := by rw [p80]; rfl
      have b443 : ((portU u : Int) == 443) = false := by rw [p80]; rfl
      have HF : Hid (RN = rU8 u) := by show _ = _; rw [HRN.out, hus, if_neg (by omega)]
      clear p80 hus hpz
      generalize hPU : (portU u : Int) = PU at b80 b443 HDI ⊢
      clear hPU
      go_wp2_with (first
        | (refine store_fld rfl 4 _ _ rfl w.heap.size 5 (.bool true) (rU5 u) (rU6 u true) rfl rfl info4 (by omega) rfl rfl HA10.out rfl ?_)
        | fail)
      intro W11 hO11 hW11
      have HZ11 := hid ((hO11.block (w.heap.size + 1) (by omega)).trans HZ10.out)
      have HB11 := hid (HB10.out.trans (hO11.below (B := w.heap.size) (by omega)))
      have HA11 := hid hW11
      clear hO11 hW11
      go_wp2_with (first
        | (refine store_fld rfl 9 _ _ rfl w.heap.size 4 (.string ⟨#[]⟩) (rU6 u true) (rU7 u true) rfl rfl info9 (by omega) rfl rfl HA11.out rfl ?_)
        | fail)
      intro W12 hO12 hW12
      have HZ12 := hid ((hO12.block (w.heap.size + 1) (by omega)).trans HZ11.out)
      have HB12 := hid (HB11.out.trans (hO12.below (B := w.heap.size) (by omega)))
      have HA12 := hid hW12
      clear hO12 hW12
      have c5 := cellU HA12.out 5 (.bool true) rfl
      go_wp2_with fail
      refine (HDI.out _).mono ?_
      rintro e W13 ⟨rfl, hb13⟩
      have HA13 := hid (row_keep hb13 HA12.out)
      have HZ13 := hid (row_keep hb13 HZ12.out)
      have HB13 := hid (HB12.out.trans (hb13.mono HB12.out.size))
      clear hb13 c5
      go_wp2_with (first
        | (refine store_fld rfl 9 _ _ rfl w.heap.size 4 (.string (asS (Lib.decDigits (portU u)))) (rU7 u true) (rU8 u) rfl rfl info9 (by omega) rfl rfl HA13.out rfl ?_)
        | fail)
      intro W14 hO14 hW14
      have HZ14 := hid ((hO14.block (w.heap.size + 1) (by omega)).trans HZ13.out)
      have HB14 := hid (HB13.out.trans (hO14.below (B := w.heap.size) (by omega)))
      have HA14 := hid hW14
      clear hO14 hW14
      have ld := loadU_row HA14.out
      go_wp2_with (first
        | (refine store_url rfl _ _ rfl (w.heap.size + 1) (rU8 u) rfl rfl _ HZ14.out rfl ?_)
        | fail)
      intro We hOe hWe
      have HBe := hid (HB14.out.trans (hOe.below (B := w.heap.size) (by omega)))
      have HWe := hid hWe
      clear hOe hWe ld
      go_wp2_with fail
      exact bodyPost_ret (results_cell_row Tryz.results14 _ _ (w.heap.size + 1) 26 (ucs (rU8 u)) (0, 0) _ rfl HWe.out Tryz.underlying26 rfl (ucs_info _)) rfl ⟨by rw [HF.out], HBe.out⟩
    by_cases p443 : portU u = 443
    · have b80 : ((portU u : Int) == 80) = false := by rw [p443]; rfl
      have b443 : ((portU u : Int) == 443) = true := by rw [p443]; rfl
      have HF : Hid (RN = rU7 u false) := by show _ = _; rw [HRN.out, hus, if_pos p443]
      clear p80 p443 hus hpz
      generalize hPU : (portU u : Int) = PU at b80 b443 HDI ⊢
      clear hPU
      go_wp2_with (first
        | (refine store_fld rfl 4 _ _ rfl w.heap.size 5 (.bool false) (rU5 u) (rU6 u false) rfl rfl info4 (by omega) rfl rfl HA10.out rfl ?_)
        | fail)
      intro W11 hO11 hW11
      have HZ11 := hid ((hO11.block (w.heap.size + 1) (by omega)).trans HZ10.out)
      have HB11 := hid (HB10.out.trans (hO11.below (B := w.heap.size) (by omega)))
      have HA11 := hid hW11
      clear hO11 hW11
      go_wp2_with (first
        | (refine store_fld rfl 9 _ _ rfl w.heap.size 4 (.string ⟨#[]⟩) (rU6 u false) (rU7 u false) rfl rfl info9 (by omega) rfl rfl HA11.out rfl ?_)
        | fail)
      intro W12 hO12 hW12
      have HZ12 := hid ((hO12.block (w.heap.size + 1) (by omega)).trans HZ11.out)
      have HB12 := hid (HB11.out.trans (hO12.below (B := w.heap.size) (by omega)))
      have HA12 := hid hW12
      clear hO12 hW12
      have c5 := cellU HA12.out 5 (.bool false) rfl
      have ld := loadU_row HA12.out
      go_wp2_with (first
        | (refine store_url rfl _ _ rfl (w.heap.size + 1) (rU7 u false) rfl rfl _ HZ12.out rfl ?_)
        | fail)
      intro We hOe hWe
      have HBe := hid (HB12.out.trans (hOe.below (B := w.heap.size) (by omega)))
      have HWe := hid hWe
      clear hOe hWe ld
      go_wp2_with fail
      exact bodyPost_ret (results_cell_row Tryz.results14 _ _ (w.heap.size + 1) 26 (ucs (rU7 u false)) (0, 0) _ rfl HWe.out Tryz.underlying26 rfl (ucs_info _)) rfl ⟨by rw [HF.out], HBe.out⟩
    have b80 : ((portU u : Int) == 80) = false := by rw [beq_eq_false_iff_ne]; omega
    have b443 : ((portU u : Int) == 443) = false := by rw [beq_eq_false_iff_ne]; omega
    have HF : Hid (RN = rU8 u) := by show _ = _; rw [HRN.out, hus, if_neg (by omega)]
    clear p80 p443 hus hpz
    generalize hPU : (portU u : Int) = PU at b80 b443 HDI ⊢
    clear hPU
    go_wp2_with (first
      | (refine store_fld rfl 4 _ _ rfl w.heap.size 5 (.bool true) (rU5 u) (rU6 u true) rfl rfl info4 (by omega) rfl rfl HA10.out rfl ?_)
      | fail)
    intro W11 hO11 hW11
    have HZ11 := hid ((hO11.block (w.heap.size + 1) (by omega)).trans HZ10.out)
    have HB11 := hid (HB10.out.trans (hO11.below (B := w.heap.size) (by omega)))
    have HA11 := hid hW11
    clear hO11 hW11
    go_wp2_with (first
      | (refine store_fld rfl 9 _ _ rfl w.heap.size 4 (.string ⟨#[]⟩) (rU6 u true) (rU7 u true) rfl rfl info9 (by omega) rfl rfl HA11.out rfl ?_)
      | fail)
    intro W12 hO12 hW12
    have HZ12 := hid ((hO12.block (w.heap.size + 1) (by omega)).trans HZ11.out)
    have HB12 := hid (HB11.out.trans (hO12.below (B := w.heap.size) (by omega)))
    have HA12 := hid hW12
    clear hO12 hW12
    have c5 := cellU HA12.out 5 (.bool true) rfl
    go_wp2_with fail
    refine (HDI.out _).mono ?_
    rintro e W13 ⟨rfl, hb13⟩
    have HA13 := hid (row_keep hb13 HA12.out)
    have HZ13 := hid (row_keep hb13 HZ12.out)
    have HB13 := hid (HB12.out.trans (hb13.mono HB12.out.size))
    clear hb13 c5
    go_wp2_with (first
      | (refine store_fld rfl 9 _ _ rfl w.heap.size 4 (.string (asS (Lib.decDigits (portU u)))) (rU7 u true) (rU8 u) rfl rfl info9 (by omega) rfl rfl HA13.out rfl ?_)
      | fail)
    intro W14 hO14 hW14
    have HZ14 := hid ((hO14.block (w.heap.size + 1) (by omega)).trans HZ13.out)
    have HB14 := hid (HB13.out.trans (hO14.below (B := w.heap.size) (by omega)))
    have HA14 := hid hW14
    clear hO14 hW14
    have ld := loadU_row HA14.out
    go_wp2_with (first
      | (refine store_url rfl _ _ rfl (w.heap.size + 1) (rU8 u) rfl rfl _ HZ14.out rfl ?_)
      | fail)
    intro We hOe hWe
    have HBe := hid (HB14.out.trans (hOe.below (B := w.heap.size) (by omega)))
    have HWe := hid hWe
    clear hOe hWe ld
    go_wp2_with fail
    exact bodyPost_ret (results_cell_row Tryz.results14 _ _ (w.heap.size + 1) 26 (ucs (rU8 u)) (0, 0) _ rfl HWe.out Tryz.underlying26 rfl (ucs_info _)) rfl ⟨by rw [HF.out], HBe.out⟩
  · exact absurd hus HUS.out
end Go.Proofs.YtlblefcmilfjdaaGreatDoor
namespace Go.Proofs.YtlblefcmilfjdaaGreatDoor
set_option linter.unusedVariables false
set_option linter.unusedSimpArgs false
open Go.RowKit Go.BigFrame
attribute [local go_sem ↓] loadU_eq

def originU (u : UrlV) : List UInt8 := (((u.scheme.map lowB ++ [58, 47, 47]) ++ tidyU lowB u.host) ++ [58]) ++ Lib.decDigits (portU u)
theorem or_part (u : UrlV) (X1 X2 X3 : ByteArray) (h1 : asS (u.scheme.map lowB) = X1) (h2 : asS (tidyU lowB u.host) = X2) (h3 : asS (Lib.decDigits (portU u)) = X3) : (((X1 ++ ⟨#[58, 47, 47]⟩) ++ X2) ++ ⟨#[58]⟩) ++ X3 = asS (originU u) := by
  subst h1; subst h2; subst h3
  show (((asS _ ++ asS [58, 47, 47]) ++ asS _) ++ asS [58]) ++ asS _ = _
  rw [asS_app, asS_app, asS_app, asS_app]
  rfl
theorem ba_app_size (a b : ByteArray) : (a ++ b).size = a.size + b.size := by simp
set_option maxHeartbeats 8000000 in
set_option maxRecDepth 100000 in
theorem origin_any (u : UrlV) (hu : LenU 100000 u) (hst : forUs u = true → StandsI u.host) (w : World) (hT : TabX w) : Calls Tryz.prog 11 #[.agg (ucs u)] w fun e w' => e = .returned (.tuple #[.string (if portU u = 0 then ⟨#[]⟩ else asS (originU u)), .int .i64 (portE u)]) ∧ Below w.heap.size w w' := by
  have HT := hid hT
  have HPO := hid (fun W h => port_any u hu W h)
  have HPE : Hid (portE u = if portU u = 0 then 1 else 0) := rfl
  have HFU : Hid (portU u ≠ 0 → forUs u = true) := fun h => by
    cases hf : forUs u with
    | true => rfl
    | false => exact absurd (port_no u hf).1 h
  have HST := hid hst
  have HLEN := hid hu
  generalize hR : (if portU u = 0 then (⟨#[]⟩ : ByteArray) else asS (originU u)) = R
  have HR := hid hR
  have HRB := hid (heap_alloc_new w (.cells (ucs u) 26))
  have HB0 := hid (alloc_below (Below.refl _ w) (Nat.le_refl _) (.cells (ucs u) 26))
  clear hT hst hu hR
  go_enter Tryz.func11, Tryz.ntmps11
  go_upto_region 1 with (fail)
  generalize w.alloc (.cells (ucs u) 26) = V at HRB HB0 ⊢
  have l0 := loadU_row HRB.out
  go_wp2_with fail
  refine (HPO.out _ (HT.out.below HB0.out)).mono ?_
  rintro e W1 ⟨rfl, hb1⟩
  have HR1 := hid (row_keep hb1 HRB.out)
  have HB1 := hid (HB0.out.trans (hb1.mono HB0.out.size))
  clear hb1 l0
  by_cases h0 : portU u = 0
  · rw [if_pos h0] at HR HPE
    have HE2 : Hid (portE u = 1) := HPE.out
    rw [h0, HE2.out]
    go_wp2_with fail
    go_ret2
    exact ⟨by rw [← HR.out, HE2.out]; rfl, HB1.out⟩
  · rw [if_neg h0] at HR HPE
    have sh := HST.out (HFU.out h0)
    have HE2 : Hid (portE u = 0) := HPE.out
    have HLO := hid (fun W => lower_any u.scheme W (by have := HLEN.out.scheme; omega))
    have HNH := hid (fun W => host8_any u.host HLEN.out.host sh W)
    have HIT := hid (fun W h => itoa8 (portU u) (port_le u) W h)
    have hl1 : (u.scheme.map lowB).length ≤ 100000 := by rw [List.length_map]; exact HLEN.out.scheme
    have hl2 : (tidyU lowB u.host).length ≤ 100000 := Nat.le_trans (tidy_len lowB sh) HLEN.out.host
    have hl3 : (Lib.decDigits (portU u)).length ≤ 5 := dec_len 4 _ (by have := port_le u; omega)
    have z1 := asS_size (u.scheme.map lowB)
    have z2 := asS_size (tidyU lowB u.host)
    have z3 := asS_size (Lib.decDigits (portU u))
    have HOP := hid (or_part u)
    rw [HE2.out]
    clear sh HST HFU
    generalize hX1 : asS (u.scheme.map lowB) = X1 at HLO z1
    generalize hX2 : asS (tidyU lowB u.host) = X2 at HNH z2
    generalize hX3 : asS (Lib.decDigits (portU u)) = X3 at HIT z3
    have hcat := HOP.out X1 X2 X3 hX1 hX2 hX3
    have y1 : ¬ (9223372036854775807 < X1.size + (⟨#[58, 47, 47]⟩ : ByteArray).size) := by show ¬ (9223372036854775807 < X1.size + 3); omega
    have s1 := ba_app_size X1 ⟨#[58, 47, 47]⟩
    rw [show (⟨#[58, 47, 47]⟩ : ByteArray).size = 3 from rfl] at s1
    generalize hC1 : X1 ++ ⟨#[58, 47, 47]⟩ = C1 at hcat s1
    have y2 : ¬ (9223372036854775807 < C1.size + X2.size) := by omega
    have s2 := ba_app_size C1 X2
    generalize hC2 : C1 ++ X2 = C2 at hcat s2
    have y3 : ¬ (9223372036854775807 < C2.size + (⟨#[58]⟩ : ByteArray).size) := by show ¬ (9223372036854775807 < C2.size + 1); omega
    have s3 := ba_app_size C2 ⟨#[58]⟩
    rw [show (⟨#[58]⟩ : ByteArray).size = 1 from rfl] at s3
    generalize hC3 : C2 ++ ⟨#[58]⟩ = C3 at hcat s3
    have y4 : ¬ (9223372036854775807 < C3.size + X3.size) := by omega
    have HCAT := hid hcat
    clear hcat s1 s2 s3 z1 z2 z3 hl1 hl2 hl3 hX1 hX2 hX3
    have k0 := cell_regrown (cellU HR1.out 0 (.string (asS u.scheme)) rfl)
    have k3 := cell_regrown (cellU HR1.out 3 (.string (asS u.host)) rfl)
    have c1 : REG7 24 #[.string (asS u.scheme)] W1 (.string X1) := fun d os => Calls.regrown_of (HLO.out _)
    have c2 : REG7 25 #[.string (asS u.host)] W1 (.string X2) := fun d os => Calls.regrown_of (HNH.out _)
    have c3 : REG7 29 #[.int .i64 (portU u : Int)] W1 (.string X3) := fun d os => Calls.regrown_of (HIT.out _ ((HT.out.below HB1.out).below (below_regrown W1 d os)))
    generalize asS u.scheme = S0 at k0 c1
    generalize asS u.host = H0 at k3 c2
    go_wp2_with fail
    refine wp_region_quiet_below (by kernel_rfl) (by kernel_rfl) ?_
    repeat (go_big_quiet_step (first | (go_at_call 24; exact c1 _ _) | (go_at_call 25; exact c2 _ _) | (go_at_call 29; exact c3 _ _)))
    refine wpQuiet_nil ?_
    rintro W9 ⟨⟨dq, osq⟩, hw⟩
    have HB9 : Hid (Below W1.heap.size W1 W9) := by rw [hw]; exact below_regrown W1 dq osq
    clear hw k0 k3 c1 c2 c3
    go_wp2_with fail
    go_ret2
    exact ⟨by rw [← HR.out, HE2.out, ← HCAT.out]; rfl, HB1.out.trans (HB9.out.mono HB1.out.size)⟩
theorem rn_parts (u : UrlV) : (rNorm u).scheme = u.scheme.map lowB ∧ (rNorm u).host = tidyU lowB u.host := by
  unfold rNorm; split <;> exact ⟨rfl, rfl⟩
set_option maxHeartbeats 8000000 in
set_option maxRecDepth 100000 in
theorem refOrigin_any (u : UrlV) (hu : LenU 100000 u) (hus : usualU (u.scheme.map lowB) ≠ 0) (sh : StandsI u.host) (sp : StandsI u.path) (sq : StandsI u.query) (hpl : u.path.length ≤ 2048) (w : World) : Calls Tryz.prog 15 #[.agg (ucs u)] w fun e w' => e = .returned (.string (asS (originU u))) ∧ Below w.heap.size w w' := by
  have HNO := hid (fun W => refNormal_any u hu hus sh sp sq hpl W)
  have HPO := hid (fun W => refPort_any u hu W)
  have HDI := hid (fun W => refDigits_any (portU u) (port_le u) W)
  have hl1 : (u.scheme.map lowB).length ≤ 100000 := by rw [List.length_map]; exact hu.scheme
  have hl2 : (tidyU lowB u.host).length ≤ 100000 := Nat.le_trans (tidy_len lowB sh) hu.host
  have hl3 : (Lib.decDigits (portU u)).length ≤ 5 := dec_len 4 _ (by have := port_le u; omega)
  have z1 := asS_size (u.scheme.map lowB)
  have z2 := asS_size (tidyU lowB u.host)
  have z3 := asS_size (Lib.decDigits (portU u))
  have HOP := hid (or_part u)
  have hrp := rn_parts u
  have HN0 : Hid ((ucs (rNorm u))[0]? = some (.string (asS (u.scheme.map lowB)))) := by show some (Value.string (asS (rNorm u).scheme)) = _; rw [hrp.1]
  have HN3 : Hid ((ucs (rNorm u))[3]? = some (.string (asS (tidyU lowB u.host)))) := by show some (Value.string (asS (rNorm u).host)) = _; rw [hrp.2]
  have l0 : (loadI 26 (.pointer (some ⟨w.heap.size, 0, none⟩))).run Tryz.prog (w.alloc (.cells (ucs u) 26)) = .ok (.agg (ucs u)) (w.alloc (.cells (ucs u) 26)) := loadU_row (heap_alloc_new w _)
  clear hu hus sh sp sq hpl hrp
  generalize hX1 : asS (u.scheme.map lowB) = X1 at HN0 z1
  generalize hX2 : asS (tidyU lowB u.host) = X2 at HN3 z2
  generalize hX3 : asS (Lib.decDigits (portU u)) = X3 at HDI z3
  have hcat := HOP.out X1 X2 X3 hX1 hX2 hX3
  have y1 : ¬ (9223372036854775807 < X1.size + (⟨#[58, 47, 47]⟩ : ByteArray).size) := by show ¬ (9223372036854775807 < X1.size + 3); omega
  have s1 := ba_app_size X1 ⟨#[58, 47, 47]⟩
  rw [show (⟨#[58, 47, 47]⟩ : ByteArray).size = 3 from rfl] at s1
  generalize hC1 : X1 ++ ⟨#[58, 47, 47]⟩ = C1 at hcat s1
  have y2 : ¬ (9223372036854775807 < C1.size + X2.size) := by omega
  have s2 := ba_app_size C1 X2
  generalize hC2 : C1 ++ X2 = C2 at hcat s2
  have y3 : ¬ (9223372036854775807 < C2.size + (⟨#[58]⟩ : ByteArray).size) := by show ¬ (9223372036854775807 < C2.size + 1); omega
  have s3 := ba_app_size C2 ⟨#[58]⟩
  rw [show (⟨#[58]⟩ : ByteArray).size = 1 from rfl] at s3
  generalize hC3 : C2 ++ ⟨#[58]⟩ = C3 at hcat s3
  have y4 : ¬ (9223372036854775807 < C3.size + X3.size) := by omega
  have HCAT := hid hcat
  clear hcat s1 s2 s3 z1 z2 z3 hl1 hl2 hl3 hX1 hX2 hX3
  go_enter Tryz.func15, Tryz.ntmps15
  go_wp2_with fail
  refine (HNO.out _).mono ?_
  rintro e W1 ⟨rfl, hb1⟩
  have HR1 := hid (row_keep hb1 (heap_alloc_new w _))
  have HB1 : Hid (Below w.heap.size w W1) := (alloc_below (Below.refl _ w) (Nat.le_refl _) _).trans (hb1.mono (by simp))
  clear hb1 l0
  go_upto_region 2 with (first
    | (refine store_url rfl _ _ rfl W1.heap.size (rNorm u) rfl rfl _ (heap_alloc_new W1 _) rfl ?_)
    | fail)
  intro W2 hO2 hW2
  have hg := row_lt HR1.out
  have HR2 : Hid (W2.heap[w.heap.size]? = some (.cells (ucs u) 26 (0, 0))) := (hO2.block _ (by omega)).trans (heap_old HR1.out)
  have HB2 : Hid (Below w.heap.size w W2) := (alloc_below HB1.out HB1.out.size _).trans (hO2.below (by omega))
  have k0 := cell_regrown (cellU hW2 0 _ HN0.out)
  have k3 := cell_regrown (cellU hW2 3 _ HN3.out)
  have ld : ∀ d os, (loadI 26 (.pointer (some ⟨w.heap.size, 0, none⟩))).run Tryz.prog (Sort.grow (redrawn W2 d) os) = .ok (.agg (ucs u)) (Sort.grow (redrawn W2 d) os) := fun d os => loadU_row (((below_regrown W2 d os).block _ (row_lt HR2.out)).trans HR2.out)
  have c1 : REG7 13 #[.agg (ucs u)] W2 (.int .i64 (portU u : Int)) := fun d os => Calls.regrown_of (HPO.out _)
  have c2 : REG7 34 #[.int .i64 (portU u : Int)] W2 (.string X3) := fun d os => Calls.regrown_of (HDI.out _)
  clear hO2 hW2
  generalize W1.heap.size = g at k0 k3 ⊢
  go_upto_region 2 with (fail)
  refine wp_region_quiet_below (by kernel_rfl) (by kernel_rfl) ?_
  repeat (go_big_quiet_step (first | (go_at_call 13; exact c1 _ _) | (go_at_call 34; exact c2 _ _)))
  refine wpQuiet_nil ?_
  rintro W9 ⟨⟨dq, osq⟩, hw⟩
  have HB9 : Hid (Below W2.heap.size W2 W9) := by rw [hw]; exact below_regrown W2 dq osq
  clear hw k0 k3 c1 c2 ld
  go_wp2_with fail
  go_ret
  exact ⟨by rw [← HCAT.out]; rfl, HB2.out.trans (HB9.out.mono HB2.out.size)⟩
end Go.Proofs.YtlblefcmilfjdaaGreatDoor
