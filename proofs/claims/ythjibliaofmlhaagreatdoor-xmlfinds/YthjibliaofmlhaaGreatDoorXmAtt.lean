
/- Attributes: what attributes of package xml does. -/
import Derived.Test.YthjibliaofmlhaaGreatDoorXmSet
import Derived.Test.YthjibliaofmlhaaGreatDoorXmReader
namespace Go.Proofs.YthjibliaofmlhaaGreatDoor
set_option linter.unusedVariables false
set_option linter.unusedSimpArgs false
open Go.RowKit Go.BigFrame

set_option maxHeartbeats 1000000 in
set_option maxRecDepth 100000 in
theorem attributes_ok : AtOk := by
  intro l m R w hl h13 hm hR hT h
  have HW := hid (fun (b : List UInt8) (m' : Nat) (h13 : (13 : UInt8) ∉ b) W hW => white_b b m' R h13 W hW)
  have HN := hid (fun (b : List UInt8) (m' : Nat) (hb : b.length ≤ 1000000) W hW => name_any b m' R hb W hW)
  have HVA := hid (fun (b : List UInt8) (m' : Nat) (hb : b.length ≤ 100000) (h13 : (13 : UInt8) ∉ b) W hT hW => valueR_any b m' R hb h13 hR W hT hW)
  have HCN := hid (fun (b : List UInt8) (m' : Nat) (hm : m' ≤ 1000000) W hW => count_any b m' R hm W hW)
  have HTO : Hid (∀ W, w.grownBy W (some R) → TabE W) := fun W hW => hT.to hW hR
  have HL := hid hl
  have H13 := hid h13
  have HRL := hid h.lt
  have HS0 : Hid (AS (atW l m) R w.heap.size l w (.slice none 0 0) [] l m (w.alloc (.map #[] 0))) := ⟨h.below ((Below.refl _ _).alloc (Nat.le_refl _) _), to_below ((Below.refl _ _).alloc (Nat.le_refl _) _), .inl ⟨rfl, rfl⟩, SetN.made w, rfl, List.suffix_refl _, hm, by simp, by simp⟩
  have hmm := @run_makeMap Tryz.prog
  unfold AtPost
  clear h hT hl h13 hR hm
  generalize hV : atW l m = V at HS0 ⊢
  clear hV
  generalize hB : w.heap.size = B at HS0 HRL
  have HB := hid hB
  go_enter Tryz.func87, Tryz.ntmps87
  go_wp2_with fail
  go_loopw [4] (fun v wr => ∃ al l' m', Hid (AS V R B l w v al l' m' wr)) (fun v wr => rdLen R wr)
  case atStart => exact ⟨[], l, m, HS0.out⟩
  case round =>
    obtain ⟨al, l', m', HS⟩ := hrel
    clear hmm
    have h13' : (13 : UInt8) ∉ l' := fun hh => H13.out (HS.out.suf.subset hh)
    have HW1 := hid (HW.out l' m' h13' _ HS.out.rd)
    have hlen : l'.length ≤ 65536 := Nat.le_trans HS.out.suf.length_le HL.out
    by_cases hw : (l'.dropWhile whX).length < l'.length
    · rw [decide_eq_true hw] at HW1
      have hdl : (l'.dropWhile whX).length ≤ 1000000 := by omega
      have HN1 := hid (fun W hW => HN.out (l'.dropWhile whX) m' hdl W hW)
      by_cases hn : nmX (l'.dropWhile whX) = []
      · have HX : Hid (V = .ok (al, l'.dropWhile whX, m')) := by show _ = _; rw [← HS.out.go]; exact atL_stop (.inr hn)
        rw [hn, nr_nil hn] at HN1
        have e4 : (asS []).toList.isEmpty = true := by rw [emp8]; rfl
        have HSF : Hid (l'.dropWhile whX <:+ l) := (dw_suf _ _).trans HS.out.suf
        clear hn hw hdl hlen h13'
        generalize l'.dropWhile whX = D at *
        generalize asS [] = E at HN1 e4
        go_wp2_with fail
        refine Calls.mono HW1.out ?_
        rintro e W1 ⟨rfl, hr, hg⟩
        have HR1 := hid hr
        have HG1 := hid hg
        clear hr hg
        go_wp2_with fail
        refine Calls.mono (HN1.out _ HR1.out) ?_
        rintro e W2 ⟨rfl, hr, hg⟩
        have HR2 := hid hr
        have HG2 := hid hg
        clear hr hg
        go_wp2_with fail
        go_ret2
        obtain ⟨k1, k2, k3, k4⟩ := HS.out.call HRL.out (HG1.out.trans HG2.out)
        obtain ⟨A, c, hv, hh⟩ := k2.hdsP (b0 := B) (by omega)
        refine ⟨k1, .inl ⟨al, D, m', A, c, HX.out, by rw [hv]; rfl, ?_, HR2.out, HSF.out, HS.out.max⟩⟩
        exact hh
      · have h13n : (13 : UInt8) ∉ nrX (l'.dropWhile whX) := fun hh => h13' (((List.drop_suffix _ _).trans (dw_suf _ _)).subset hh)
        have hnl : (nrX (l'.dropWhile whX)).length ≤ 100000 := by
          have := ((List.drop_suffix (nszX (l'.dropWhile whX)) (l'.dropWhile whX)).trans (dw_suf whX l')).length_le
          unfold nrX
          omega
        have HV1 := hid (fun W hT hW => HVA.out (nrX (l'.dropWhile whX)) m' hnl h13n W hT hW)
        have HST := hid (atL_step (al := al) (m := m') hw hn)
        have HVS := hid (fun v r hv => va_sh (al := []) (m := 0) (v := v) (r := r) hn hv)
        have HSD := hid (dw_suf whX l')
        have HNL : Hid ((nmX (l'.dropWhile whX)).length ≤ 1000000) := by
          show _ ≤ _
          have : (nmX (l'.dropWhile whX)).length ≤ (l'.dropWhile whX).length := by unfold nmX; rw [List.length_take]; omega
          omega
        have e4 : (asS (nmX (l'.dropWhile whX))).toList.isEmpty = false := by rw [emp8]; exact decide_eq_false hn
        clear hn hdl h13' h13n hnl
        generalize nrX (l'.dropWhile whX) = ND at *
        generalize hnm : nmX (l'.dropWhile whX) = nm at *
        generalize l'.dropWhile whX = D at *
        clear hnm
        have HNM : Hid (asS nm = asS nm) := rfl
        generalize hNM : asS nm = NM at HN1 e4
        have HNE : Hid (NM = asS nm) := hNM.symm
        clear hNM HNM
        cases hva : vaX ND with
        | none =>
          rw [hva] at HV1 HST
          have HX : Hid (V = .error 5) := by show _ = _; rw [← HS.out.go]; exact HST.out
          clear hva
          go_wp2_with fail
          refine Calls.mono HW1.out ?_
          rintro e W1 ⟨rfl, hr, hg⟩
          have HR1 := hid hr
          have HG1 := hid hg
          clear hr hg
          go_wp2_with fail
          refine Calls.mono (HN1.out _ HR1.out) ?_
          rintro e W2 ⟨rfl, hr, hg⟩
          have HR2 := hid hr
          have HG2 := hid (HG1.out.trans hg)
          clear hr hg
          obtain ⟨k1, k2, k3, k4⟩ := HS.out.call HRL.out HG2.out
          have HT2 := hid (HTO.out W2 k1)
          have HTo2 := hid k1
          clear k1 k2 k3 k4
          go_wp2_with fail
          refine Calls.mono (HV1.out W2 HT2.out HR2.out) ?_
          rintro e W3 ⟨hg, h3⟩
          obtain ⟨_, sv, rfl⟩ := h3.resolve_left (fun h => by obtain ⟨v, r, h, _⟩ := h; cases h)
          have HG3 := hid hg
          clear hg
          go_wp2_with fail
          go_ret2
          exact ⟨HTo2.out.trans HG3.out, .inr ⟨5, HX.out, .inr rfl, rfl⟩⟩
        | some q =>
          obtain ⟨vv, rr⟩ := q
          rw [hva] at HV1 HST
          have HVR := hid (HVS.out vv rr hva)
          clear hva
          simp only at HST
          have HCN1 := hid (fun W hW => HCN.out rr m' (by have := HS.out.max; omega) W hW)
          cases htw : (al.map (·.name)).contains nm with
          | true =>
            rw [htw] at HST
            have HX : Hid (V = .error 5) := by show _ = _; rw [← HS.out.go]; exact HST.out
            have HTW := hid htw
            clear htw
            go_wp2_with fail
            refine Calls.mono HW1.out ?_
            rintro e W1 ⟨rfl, hr, hg⟩
            have HR1 := hid hr
            have HG1 := hid hg
            clear hr hg
            go_wp2_with fail
            refine Calls.mono (HN1.out _ HR1.out) ?_
            rintro e W2 ⟨rfl, hr, hg⟩
            have HR2 := hid hr
            have HG2 := hid (HG1.out.trans hg)
            clear hr hg
            obtain ⟨k1, k2, k3, k4⟩ := HS.out.call HRL.out HG2.out
            have HT2 := hid (HTO.out W2 k1)
            have HTo2 := hid k1
            clear k1 k2 k3 k4
            go_wp2_with fail
            refine Calls.mono (HV1.out W2 HT2.out HR2.out) ?_
            rintro e W3 ⟨hg, h3⟩
            obtain ⟨v, r, h7, rfl, hr⟩ := h3.resolve_right (fun h => by cases h.1)
            obtain ⟨h4, h5⟩ : vv = v ∧ rr = r := by simpa using h7
            subst h4 h5
            clear h3 h7
            have HR3 := hid hr
            have HG3 := hid (HG2.out.trans hg)
            have HTo3 := hid (HTo2.out.trans hg)
            obtain ⟨k1, k2, k3, k4⟩ := HS.out.call HRL.out HG3.out
            have HSET := hid k3
            clear hr hg k1 k2 k3 k4
            go_wp2_with (first
              | (refine wpList_asked rfl _ _ rfl B al.length _ rfl HSET.out NM nm HNE.out rfl HNL.out ?_; rw [HTW.out])
              | fail)
            go_ret2
            exact ⟨grown_own (HTo3.out) (World.grownBy_alloc W3 _ none) (fun q hq => by cases hq), .inr ⟨5, HX.out, .inr rfl, rfl⟩⟩
          | false =>
            rw [htw] at HST
            simp only [Bool.false_eq_true, if_false] at HST
            have HTW := hid htw
            clear htw
            by_cases hm : m' + 1 ≤ 4096
            · rw [if_pos hm] at HST HCN1
              have HX : Hid (atL (al ++ [⟨nm, vv⟩]) rr (m' + 1) = V) := by show _ = _; rw [← HS.out.go]; exact HST.out.symm
              have HM := hid hm
              clear hm
              have HVE : Hid (asS vv = asS vv) := rfl
              go_wp2_with fail
              refine Calls.mono HW1.out ?_
              rintro e W1 ⟨rfl, hr, hg⟩
              have HR1 := hid hr
              have HG1 := hid hg
              clear hr hg
              go_wp2_with fail
              refine Calls.mono (HN1.out _ HR1.out) ?_
              rintro e W2 ⟨rfl, hr, hg⟩
              have HR2 := hid hr
              have HG2 := hid (HG1.out.trans hg)
              clear hr hg
              obtain ⟨k1, k2, k3, k4⟩ := HS.out.call HRL.out HG2.out
              have HT2 := hid (HTO.out W2 k1)
              have HTo2 := hid k1
              clear k1 k2 k3 k4
              go_wp2_with fail
              refine Calls.mono (HV1.out W2 HT2.out HR2.out) ?_
              rintro e W3 ⟨hg, h3⟩
              obtain ⟨v, r, h7, rfl, hr⟩ := h3.resolve_right (fun h => by cases h.1)
              obtain ⟨h4, h5⟩ : vv = v ∧ rr = r := by simpa using h7
              subst h4 h5
              clear h3 h7
              have HR3 := hid hr
              have HG3 := hid (HG2.out.trans hg)
              have HTo3 := hid (HTo2.out.trans hg)
              obtain ⟨k1, k2, k3, k4⟩ := HS.out.call HRL.out HG3.out
              have HSET := hid k3
              have HOWN := hid k2
              have HBIG := hid k4
              clear hr hg k1 k2 k3 k4
              have HVV : Hid (∃ VV, VV = asS vv) := ⟨_, rfl⟩
              generalize hVV : asS vv = VV
              have HVE2 : Hid (VV = asS vv) := hVV.symm
              clear hVV HVE HVV
              go_wp2_with (first
                | (refine wpList_asked rfl _ _ rfl B al.length _ rfl HSET.out NM nm HNE.out rfl HNL.out ?_; rw [HTW.out])
                | fail)
              refine Calls.mono (HCN1.out _ (HR3.out.below ((Below.refl _ _).alloc (Nat.le_refl _) _))) ?_
              rintro e W4 ⟨rfl, hr, ho⟩
              have hg4 := (World.grownBy_alloc W3 (.cells #[] 106) (some R)).trans (to_only ho)
              have HR4 := hid hr
              have HTo4 := hid (HTo3.out.trans hg4)
              have HOWN4 := hid (HOWN.out.to hg4 (by have := HRL.out; omega))
              have HSET4 := hid (HSET.out.to hg4 (fun e => by injection e with e; have := HRL.out; omega))
              have HBIG4 := hid (Nat.le_trans HBIG.out hg4.size)
              have HCNT : Hid (al.length ≤ 100000) := by show _ ≤ _; have h1 := HS.out.cnt; have h2 := HL.out; omega
              clear hr ho hg4
              go_wp2_with (first
                | (refine wpList_noted rfl _ _ _ rfl B al.length _ rfl HSET4.out (by have := HCNT.out; omega) NM nm HNE.out rfl rfl HNL.out ?_)
                | fail)
              intro W5 hs5 hg5
              have HSET5 := hid hs5
              have HG5 := hid hg5
              have HOWN5 := hid (HOWN4.out.to hg5 (Nat.lt_succ_self B))
              have HBIG5 := hid (Nat.le_trans HBIG4.out hg5.size)
              have HR5 : Hid (Rd W5 R rr (m' + 1)) := (hg5.block R HR4.out.lt (fun e => by injection e with e; have := HRL.out; omega)).trans HR4.out
              clear hs5 hg5
              go_wp2_with (first
                | (refine wpList_hd rfl _ _ rfl (B + 1) _ _ al [⟨nm, vv⟩] rfl rfl (HOWN5.out.below ((Below.refl _ _).alloc (Nat.le_refl _) _)) (src_hd W5 ⟨nm, vv⟩ NM VV HNE.out HVE2.out _) (by simp) (by have := HCNT.out; simp; omega) (by have := HBIG5.out; simp; omega) ?_)
                | fail)
              intro v6 W6 ho6 hb6
              have HO6 := hid ho6
              have HB6 := hid hb6
              clear ho6 hb6
              go_wp2_with fail
              go_roundw
              case rel =>
                have b5 : Below (B + 1) W5 W6 := ((Below.refl _ _).alloc HBIG5.out _).trans HB6.out
                have t5 : w.grownBy W5 (some R) := grown_own HTo4.out HG5.out (fun q hq => by injection hq with hq; have := HB.out; omega)
                refine ⟨al ++ [⟨nm, vv⟩], rr, m' + 1, ⟨(b5.block R (by have := HRL.out; omega)).trans HR5.out, ?_, HO6.out, ?_, HX.out, ?_, HM.out, ?_, ?_⟩⟩
                · exact ⟨b5.os.trans t5.os, b5.tape.trans t5.tape, b5.output.trans t5.output, Nat.le_trans t5.size b5.size, fun k hk hne => (b5.block k (by have := HB.out; omega)).trans (t5.block k hk hne)⟩
                · have := HSET5.out.same (b5.block B (Nat.lt_succ_self B))
                  simpa using this
                · exact (HVR.out.1.trans HSD.out).trans HS.out.suf
                · have h1 := HS.out.cnt
                  have h2 := HVR.out.2
                  have h3 := HSD.out.length_le
                  simp
                  omega
                · exact Nat.le_trans HBIG5.out b5.size
              case measure =>
                have b5 : Below (B + 1) W5 W6 := ((Below.refl _ _).alloc HBIG5.out _).trans HB6.out
                have r6 : Rd W6 R rr (m' + 1) := (b5.block R (by have := HRL.out; omega)).trans HR5.out
                rw [rdLen_eq r6, rdLen_eq HS.out.rd]
                have h2 := HVR.out.2
                have h3 := HSD.out.length_le
                omega
            · rw [if_neg hm] at HST HCN1
              have HX : Hid (V = .error 3) := by show _ = _; rw [← HS.out.go]; exact HST.out
              clear hm
              go_wp2_with fail
              refine Calls.mono HW1.out ?_
              rintro e W1 ⟨rfl, hr, hg⟩
              have HR1 := hid hr
              have HG1 := hid hg
              clear hr hg
              go_wp2_with fail
              refine Calls.mono (HN1.out _ HR1.out) ?_
              rintro e W2 ⟨rfl, hr, hg⟩
              have HR2 := hid hr
              have HG2 := hid (HG1.out.trans hg)
              clear hr hg
              obtain ⟨k1, k2, k3, k4⟩ := HS.out.call HRL.out HG2.out
              have HT2 := hid (HTO.out W2 k1)
              have HTo2 := hid k1
              clear k1 k2 k3 k4
              go_wp2_with fail
              refine Calls.mono (HV1.out W2 HT2.out HR2.out) ?_
              rintro e W3 ⟨hg, h3⟩
              obtain ⟨v, r, h7, rfl, hr⟩ := h3.resolve_right (fun h => by cases h.1)
              obtain ⟨h4, h5⟩ : vv = v ∧ rr = r := by simpa using h7
              subst h4 h5
              clear h3 h7
              have HR3 := hid hr
              have HG3 := hid (HG2.out.trans hg)
              have HTo3 := hid (HTo2.out.trans hg)
              obtain ⟨k1, k2, k3, k4⟩ := HS.out.call HRL.out HG3.out
              have HSET := hid k3
              clear hr hg k1 k2 k3 k4
              go_wp2_with (first
                | (refine wpList_asked rfl _ _ rfl B al.length _ rfl HSET.out NM nm HNE.out rfl HNL.out ?_; rw [HTW.out])
                | fail)
              refine Calls.mono (HCN1.out _ (HR3.out.below ((Below.refl _ _).alloc (Nat.le_refl _) _))) ?_
              rintro e W4 ⟨rfl, hr, ho⟩
              have HTo4 := hid (HTo3.out.trans ((World.grownBy_alloc W3 (.cells #[] 106) (some R)).trans (to_only ho)))
              clear hr ho
              go_wp2_with fail
              go_ret2
              exact ⟨HTo4.out, .inr ⟨3, HX.out, .inl rfl, rfl⟩⟩
    · rw [decide_eq_false hw] at HW1
      have HSF : Hid (l'.dropWhile whX <:+ l) := (dw_suf _ _).trans HS.out.suf
      have HX : Hid (V = .ok (al, l'.dropWhile whX, m')) := by
        show _ = _
        rw [← HS.out.go]
        have := (dw_suf whX l').length_le
        exact atL_stop (.inl (by omega))
      clear hw hlen h13'
      generalize l'.dropWhile whX = D at *
      go_wp2_with fail
      refine Calls.mono HW1.out ?_
      rintro e W1 ⟨rfl, hr, hg⟩
      have HR1 := hid hr
      have HG1 := hid hg
      clear hr hg
      go_wp2_with fail
      go_ret2
      obtain ⟨k1, k2, k3, k4⟩ := HS.out.call HRL.out HG1.out
      obtain ⟨A, c, hv, hh⟩ := k2.hdsP (b0 := B) (by omega)
      refine ⟨k1, .inl ⟨al, D, m', A, c, HX.out, by rw [hv]; rfl, ?_, HR1.out, HSF.out, HS.out.max⟩⟩
      exact hh
end Go.Proofs.YthjibliaofmlhaaGreatDoor
