import Derived.Test.YtgoiafndapemjaaGreatDoorQ21
import Derived.Test.YtgoiafndapemjaaGreatDoorQ15
import Derived.Test.YtgoiafndapemjaaGreatDoorQ19
import Derived.Test.YtgoiafndapemjaaGreatDoorQ22
import Derived.Test.YtgoiafndapemjaaGreatDoorQ20
import Derived.Test.YtgoiafndapemjaaGreatDoorRows
import Derived.Test.YtgoiafndapemjaaGreatDoorQ13
import Derived.Deep.Slices
import Derived.ProofKit
import Derived.OpenShut
import Derived.SizedLaws
import Derived.BigQuiet
import Derived.Test.YtgoiafndapemjaaGreatDoorQ10
import Derived.Test.YtgoiafndapemjaaGreatDoorQ05
set_option linter.unusedVariables false
set_option linter.unusedSimpArgs false
set_option maxHeartbeats 1000000
namespace Go.Proofs.YtgoiafndapemjaaGreatDoor
open Go.RowKit Go.BigFrame
set_option maxRecDepth 100000 in
theorem attributes_ok : AtOk := by
 intro l m R w hl h13 hm hR hT h
 have HW := hid (fun (b : List UInt8) (m' : Nat) (h13 : (13 : UInt8) ∉ b) W hW => white_b b m' R h13 W hW)
 have HN := hid (fun (b : List UInt8) (m' : Nat) (hb : b.length ≤ 1000000) W hW => name_any b m' R hb W hW)
 have HVA := hid (fun (b : List UInt8) (m' : Nat) (hb : b.length ≤ 100000) (h13 : (13 : UInt8) ∉ b) W hT hW => valueR_any b m' R hb h13 hR W hT hW)
 have HCN := hid (fun (b : List UInt8) (m' : Nat) (hm : m' ≤ 1000000) W hW => count_any b m' R hm W hW)
 have HTO : Hid (∀ W, w.grownBy W (some R) → TabE W) := fun W hW => hT.to hW hR
 have HL := hid hl
 have H13 := hid h13
 have HRL := hid h.lt
 have HS0 : Hid (AS (atW l m) R w.heap.size l w (.slice none 0 0) [] l m (w.alloc (.map #[] 0))) := ⟨h.below ((Below.refl _ _).alloc (Nat.le_refl _) _), to_below ((Below.refl _ _).alloc (Nat.le_refl _) _), .inl ⟨rfl, rfl⟩, SetN.made w, rfl, List.suffix_refl _, hm, by simp, by simp⟩
 have hmm := @run_makeMap Tryz.prog
 unfold AtPost
 clear h hT hl h13 hR hm
 generalize hV : atW l m = V at HS0 ⊢
 clear hV
 generalize hB : w.heap.size = B at HS0 HRL
 have HB := hid hB
 go_enter Tryz.func140, Tryz.ntmps140
 go_wp2_with fail
 go_loopw [4] (fun v wr => ∃ al l' m', Hid (AS V R B l w v al l' m' wr)) (fun v wr => rdLen R wr)
 case atStart => exact ⟨[], l, m, HS0.out⟩
 case round =>
  obtain ⟨al, l', m', HS⟩ := hrel
  clear hmm
  have h13' : (13 : UInt8) ∉ l' := fun hh => H13.out (HS.out.suf.subset hh)
  have HW1 := hid (HW.out l' m' h13' _ HS.out.rd)
  have hlen : l'.length ≤ 65536 := Nat.le_trans HS.out.suf.length_le HL.out
  by_cases hw : (l'.dropWhile whX).length < l'.length
  ·rw [decide_eq_true hw] at HW1
   have hdl : (l'.dropWhile whX).length ≤ 1000000 := by omega
   have HN1 := hid (fun W hW => HN.out (l'.dropWhile whX) m' hdl W hW)
   by_cases hn : nmX (l'.dropWhile whX) = []
   ·have HX : Hid (V = .ok (al, l'.dropWhile whX, m')) := by show _ = _; rw [← HS.out.go]; exact atL_stop (.inr hn)
    rw [hn, nr_nil hn] at HN1
    have e4 : (asS []).toList.isEmpty = true := by rw [emp8]; rfl
    have HSF : Hid (l'.dropWhile whX <:+ l) := (dw_suf _ _).trans HS.out.suf
    clear hn hw hdl hlen h13'
    generalize l'.dropWhile whX = D at *
    generalize asS [] = E at HN1 e4
    go_wp2_with fail
    refine Calls.mono HW1.out ?_
    rintro e W1 ⟨rfl, hr, hg⟩
    have HR1 := hid hr
    have HG1 := hid hg
    clear hr hg
    go_wp2_with fail
    refine Calls.mono (HN1.out _ HR1.out) ?_
    rintro e W2 ⟨rfl, hr, hg⟩
    have HR2 := hid hr
    have HG2 := hid hg
    clear hr hg
    go_wp2_with fail
    go_ret2
    obtain ⟨k1, k2, k3, k4⟩ := HS.out.call HRL.out (HG1.out.trans HG2.out)
    obtain ⟨A, c, hv, hh⟩ := k2.hdsP (b0 := B) (by omega)
    refine ⟨k1, .inl ⟨al, D, m', A, c, HX.out, by rw [hv]; rfl, ?_, HR2.out, HSF.out, HS.out.max⟩⟩
    exact hh
   ·have h13n : (13 : UInt8) ∉ nrX (l'.dropWhile whX) := fun hh => h13' (((List.drop_suffix _ _).trans (dw_suf _ _)).subset hh)
    have hnl : (nrX (l'.dropWhile whX)).length ≤ 100000 := by
     have := ((List.drop_suffix (nszX (l'.dropWhile whX)) (l'.dropWhile whX)).trans (dw_suf whX l')).length_le
     unfold nrX
     omega
    have HV1 := hid (fun W hT hW => HVA.out (nrX (l'.dropWhile whX)) m' hnl h13n W hT hW)
    have HST := hid (atL_step (al := al) (m := m') hw hn)
    have HVS := hid (fun v r hv => va_sh (al := []) (m := 0) (v := v) (r := r) hn hv)
    have HSD := hid (dw_suf whX l')
    have HNL : Hid ((nmX (l'.dropWhile whX)).length ≤ 1000000) := by
     show _ ≤ _
     have : (nmX (l'.dropWhile whX)).length ≤ (l'.dropWhile whX).length := by unfold nmX; rw [List.length_take]; omega
     omega
    have e4 : (asS (nmX (l'.dropWhile whX))).toList.isEmpty = false := by rw [emp8]; exact decide_eq_false hn
    clear hn hdl h13' h13n hnl
    generalize nrX (l'.dropWhile whX) = ND at *
    generalize hnm : nmX (l'.dropWhile whX) = nm at *
    generalize l'.dropWhile whX = D at *
    clear hnm
    have HNM : Hid (asS nm = asS nm) := rfl
    generalize hNM : asS nm = NM at HN1 e4
    have HNE : Hid (NM = asS nm) := hNM.symm
    clear hNM HNM
    cases hva : vaX ND with
    | none =>
     rw [hva] at HV1 HST
     have HX : Hid (V = .error 5) := by show _ = _; rw [← HS.out.go]; exact HST.out
     clear hva
     go_wp2_with fail
     refine Calls.mono HW1.out ?_
     rintro e W1 ⟨rfl, hr, hg⟩
     have HR1 := hid hr
     have HG1 := hid hg
     clear hr hg
     go_wp2_with fail
     refine Calls.mono (HN1.out _ HR1.out) ?_
     rintro e W2 ⟨rfl, hr, hg⟩
     have HR2 := hid hr
     have HG2 := hid (HG1.out.trans hg)
     clear hr hg
     obtain ⟨k1, k2, k3, k4⟩ := HS.out.call HRL.out HG2.out
     have HT2 := hid (HTO.out W2 k1)
     have HTo2 := hid k1
     clear k1 k2 k3 k4
     go_wp2_with fail
     refine Calls.mono (HV1.out W2 HT2.out HR2.out) ?_
     rintro e W3 ⟨hg, h3⟩
     obtain ⟨_, sv, rfl⟩ := h3.resolve_left (fun h => by obtain ⟨v, r, h, _⟩ := h; cases h)
     have HG3 := hid hg
     clear hg
     go_wp2_with fail
     go_ret2
     exact ⟨HTo2.out.trans HG3.out, .inr ⟨5, HX.out, .inr rfl, rfl⟩⟩
    | some q =>
     obtain ⟨vv, rr⟩ := q
     rw [hva] at HV1 HST
     have HVR := hid (HVS.out vv rr hva)
     clear hva
     simp only at HST
     have HCN1 := hid (fun W hW => HCN.out rr m' (by have := HS.out.max; omega) W hW)
     cases htw : (al.map (·.name)).contains nm with
     | true =>
      rw [htw] at HST
      have HX : Hid (V = .error 5) := by show _ = _; rw [← HS.out.go]; exact HST.out
      have HTW := hid htw
      clear htw
      go_wp2_with fail
      refine Calls.mono HW1.out ?_
      rintro e W1 ⟨rfl, hr, hg⟩
      have HR1 := hid hr
      have HG1 := hid hg
      clear hr hg
      go_wp2_with fail
      refine Calls.mono (HN1.out _ HR1.out) ?_
      rintro e W2 ⟨rfl, hr, hg⟩
      have HR2 := hid hr
      have HG2 := hid (HG1.out.trans hg)
      clear hr hg
      obtain ⟨k1, k2, k3, k4⟩ := HS.out.call HRL.out HG2.out
      have HT2 := hid (HTO.out W2 k1)
      have HTo2 := hid k1
      clear k1 k2 k3 k4
      go_wp2_with fail
      refine Calls.mono (HV1.out W2 HT2.out HR2.out) ?_
      rintro e W3 ⟨hg, h3⟩
      obtain ⟨v, r, h7, rfl, hr⟩ := h3.resolve_right (fun h => by cases h.1)
      obtain ⟨h4, h5⟩ : vv = v ∧ rr = r := by simpa using h7
      subst h4 h5
      clear h3 h7
      have HR3 := hid hr
      have HG3 := hid (HG2.out.trans hg)
      have HTo3 := hid (HTo2.out.trans hg)
      obtain ⟨k1, k2, k3, k4⟩ := HS.out.call HRL.out HG3.out
      have HSET := hid k3
      clear hr hg k1 k2 k3 k4
      go_wp2_with (first
       | (refine wpList_asked rfl _ _ rfl B al.length _ rfl HSET.out NM nm HNE.out rfl HNL.out ?_; rw [HTW.out])
       | fail)
      go_ret2
      exact ⟨grown_own (HTo3.out) (World.grownBy_alloc W3 _ none) (fun q hq => by cases hq), .inr ⟨5, HX.out, .inr rfl, rfl⟩⟩
     | false =>
      rw [htw] at HST
      simp only [Bool.false_eq_true, if_false] at HST
      have HTW := hid htw
      clear htw
      by_cases hm : m' + 1 ≤ 4096
      ·rw [if_pos hm] at HST HCN1
       have HX : Hid (atL (al ++ [⟨nm, vv⟩]) rr (m' + 1) = V) := by show _ = _; rw [← HS.out.go]; exact HST.out.symm
       have HM := hid hm
       clear hm
       have HVE : Hid (asS vv = asS vv) := rfl
       go_wp2_with fail
       refine Calls.mono HW1.out ?_
       rintro e W1 ⟨rfl, hr, hg⟩
       have HR1 := hid hr
       have HG1 := hid hg
       clear hr hg
       go_wp2_with fail
       refine Calls.mono (HN1.out _ HR1.out) ?_
       rintro e W2 ⟨rfl, hr, hg⟩
       have HR2 := hid hr
       have HG2 := hid (HG1.out.trans hg)
       clear hr hg
       obtain ⟨k1, k2, k3, k4⟩ := HS.out.call HRL.out HG2.out
       have HT2 := hid (HTO.out W2 k1)
       have HTo2 := hid k1
       clear k1 k2 k3 k4
       go_wp2_with fail
       refine Calls.mono (HV1.out W2 HT2.out HR2.out) ?_
       rintro e W3 ⟨hg, h3⟩
       obtain ⟨v, r, h7, rfl, hr⟩ := h3.resolve_right (fun h => by cases h.1)
       obtain ⟨h4, h5⟩ : vv = v ∧ rr = r := by simpa using h7
       subst h4 h5
       clear h3 h7
       have HR3 := hid hr
       have HG3 := hid (HG2.out.trans hg)
       have HTo3 := hid (HTo2.out.trans hg)
       obtain ⟨k1, k2, k3, k4⟩ := HS.out.call HRL.out HG3.out
       have HSET := hid k3
       have HOWN := hid k2
       have HBIG := hid k4
       clear hr hg k1 k2 k3 k4
       have HVV : Hid (∃ VV, VV = asS vv) := ⟨_, rfl⟩
       generalize hVV : asS vv = VV
       have HVE2 : Hid (VV = asS vv) := hVV.symm
       clear hVV HVE HVV
       go_wp2_with (first
        | (refine wpList_asked rfl _ _ rfl B al.length _ rfl HSET.out NM nm HNE.out rfl HNL.out ?_; rw [HTW.out])
        | fail)
       refine Calls.mono (HCN1.out _ (HR3.out.below ((Below.refl _ _).alloc (Nat.le_refl _) _))) ?_
       rintro e W4 ⟨rfl, hr, ho⟩
       have hg4 := (World.grownBy_alloc W3 (.cells #[] 145) (some R)).trans (to_only ho)
       have HR4 := hid hr
       have HTo4 := hid (HTo3.out.trans hg4)
       have HOWN4 := hid (HOWN.out.to hg4 (by have := HRL.out; omega))
       have HSET4 := hid (HSET.out.to hg4 (fun e => by injection e with e; have := HRL.out; omega))
       have HBIG4 := hid (Nat.le_trans HBIG.out hg4.size)
       have HCNT : Hid (al.length ≤ 100000) := by show _ ≤ _; have h1 := HS.out.cnt; have h2 := HL.out; omega
       clear hr ho hg4
       go_wp2_with (first
        | (refine wpList_noted rfl _ _ _ rfl B al.length _ rfl HSET4.out (by have := HCNT.out; omega) NM nm HNE.out rfl rfl HNL.out ?_)
        | fail)
       intro W5 hs5 hg5
       have HSET5 := hid hs5
       have HG5 := hid hg5
       have HOWN5 := hid (HOWN4.out.to hg5 (Nat.lt_succ_self B))
       have HBIG5 := hid (Nat.le_trans HBIG4.out hg5.size)
       have HR5 : Hid (Rd W5 R rr (m' + 1)) := (hg5.block R HR4.out.lt (fun e => by injection e with e; have := HRL.out; omega)).trans HR4.out
       clear hs5 hg5
       go_wp2_with (first
        | (refine wpList_hd rfl _ _ rfl (B + 1) _ _ al [⟨nm, vv⟩] rfl rfl (HOWN5.out.below ((Below.refl _ _).alloc (Nat.le_refl _) _)) (src_hd W5 ⟨nm, vv⟩ NM VV HNE.out HVE2.out _) (by simp) (by have := HCNT.out; simp; omega) (by have := HBIG5.out; simp; omega) ?_)
        | fail)
       intro v6 W6 ho6 hb6
       have HO6 := hid ho6
       have HB6 := hid hb6
       clear ho6 hb6
       go_wp2_with fail
       go_roundw
       case rel =>
        have b5 : Below (B + 1) W5 W6 := ((Below.refl _ _).alloc HBIG5.out _).trans HB6.out
        have t5 : w.grownBy W5 (some R) := grown_own HTo4.out HG5.out (fun q hq => by injection hq with hq; have := HB.out; omega)
        refine ⟨al ++ [⟨nm, vv⟩], rr, m' + 1, ⟨(b5.block R (by have := HRL.out; omega)).trans HR5.out, ?_, HO6.out, ?_, HX.out, ?_, HM.out, ?_, ?_⟩⟩
        ·exact ⟨b5.os.trans t5.os, b5.tape.trans t5.tape, b5.output.trans t5.output, Nat.le_trans t5.size b5.size, fun k hk hne => (b5.block k (by have := HB.out; omega)).trans (t5.block k hk hne)⟩
        ·have := HSET5.out.same (b5.block B (Nat.lt_succ_self B))
         simpa using this
        ·exact (HVR.out.1.trans HSD.out).trans HS.out.suf
        ·have h1 := HS.out.cnt
         have h2 := HVR.out.2
         have h3 := HSD.out.length_le
         simp
         omega
        ·exact Nat.le_trans HBIG5.out b5.size
       case measure =>
        have b5 : Below (B + 1) W5 W6 := ((Below.refl _ _).alloc HBIG5.out _).trans HB6.out
        have r6 : Rd W6 R rr (m' + 1) := (b5.block R (by have := HRL.out; omega)).trans HR5.out
        rw [rdLen_eq r6, rdLen_eq HS.out.rd]
        have h2 := HVR.out.2
        have h3 := HSD.out.length_le
        omega
      ·rw [if_neg hm] at HST HCN1
       have HX : Hid (V = .error 3) := by show _ = _; rw [← HS.out.go]; exact HST.out
       clear hm
       go_wp2_with fail
       refine Calls.mono HW1.out ?_
       rintro e W1 ⟨rfl, hr, hg⟩
       have HR1 := hid hr
       have HG1 := hid hg
       clear hr hg
       go_wp2_with fail
       refine Calls.mono (HN1.out _ HR1.out) ?_
       rintro e W2 ⟨rfl, hr, hg⟩
       have HR2 := hid hr
       have HG2 := hid (HG1.out.trans hg)
       clear hr hg
       obtain ⟨k1, k2, k3, k4⟩ := HS.out.call HRL.out HG2.out
       have HT2 := hid (HTO.out W2 k1)
       have HTo2 := hid k1
       clear k1 k2 k3 k4
       go_wp2_with fail
       refine Calls.mono (HV1.out W2 HT2.out HR2.out) ?_
       rintro e W3 ⟨hg, h3⟩
       obtain ⟨v, r, h7, rfl, hr⟩ := h3.resolve_right (fun h => by cases h.1)
       obtain ⟨h4, h5⟩ : vv = v ∧ rr = r := by simpa using h7
       subst h4 h5
       clear h3 h7
       have HR3 := hid hr
       have HG3 := hid (HG2.out.trans hg)
       have HTo3 := hid (HTo2.out.trans hg)
       obtain ⟨k1, k2, k3, k4⟩ := HS.out.call HRL.out HG3.out
       have HSET := hid k3
       clear hr hg k1 k2 k3 k4
       go_wp2_with (first
        | (refine wpList_asked rfl _ _ rfl B al.length _ rfl HSET.out NM nm HNE.out rfl HNL.out ?_; rw [HTW.out])
        | fail)
       refine Calls.mono (HCN1.out _ (HR3.out.below ((Below.refl _ _).alloc (Nat.le_refl _) _))) ?_
       rintro e W4 ⟨rfl, hr, ho⟩
       have HTo4 := hid (HTo3.out.trans ((World.grownBy_alloc W3 (.cells #[] 145) (some R)).trans (to_only ho)))
       clear hr ho
       go_wp2_with fail
       go_ret2
       exact ⟨HTo4.out, .inr ⟨3, HX.out, .inl rfl, rfl⟩⟩
  ·rw [decide_eq_false hw] at HW1
   have HSF : Hid (l'.dropWhile whX <:+ l) := (dw_suf _ _).trans HS.out.suf
   have HX : Hid (V = .ok (al, l'.dropWhile whX, m')) := by
    show _ = _
    rw [← HS.out.go]
    have := (dw_suf whX l').length_le
    exact atL_stop (.inl (by omega))
   clear hw hlen h13'
   generalize l'.dropWhile whX = D at *
   go_wp2_with fail
   refine Calls.mono HW1.out ?_
   rintro e W1 ⟨rfl, hr, hg⟩
   have HR1 := hid hr
   have HG1 := hid hg
   clear hr hg
   go_wp2_with fail
   go_ret2
   obtain ⟨k1, k2, k3, k4⟩ := HS.out.call HRL.out HG1.out
   obtain ⟨A, c, hv, hh⟩ := k2.hdsP (b0 := B) (by omega)
   refine ⟨k1, .inl ⟨al, D, m', A, c, HX.out, by rw [hv]; rfl, ?_, HR1.out, HSF.out, HS.out.max⟩⟩
   exact hh
end Go.Proofs.YtgoiafndapemjaaGreatDoor
namespace Go.Proofs.YtgoiafndapemjaaGreatDoor
def attW (al : List HdV) : Nat := (al.map fun a => 1 + a.name.length + a.value.length).sum
def wtT : (d : Nat) → Tr d → Nat
 | 0, t => 1 + t.1.length + t.2.2.length + attW t.2.1
 | d + 1, t => 1 + t.1.1.length + t.1.2.2.length + attW t.1.2.1 + (t.2.map (wtT d)).sum
theorem wt_eq : ∀ (d : Nat) (t : Tr d), wtT d t = 1 + (nmT d t).length + (txT d t).length + attW (lab d t).2.1 + ((kidsT d t).map (wtT (d - 1))).sum
 | 0, t => rfl
 | _ + 1, t => rfl
theorem wt_fit : ∀ (d : Nat) (t : Tr d) (N : Nat), wtT d t ≤ N → FitN N d t ∧ LeT N d t := by
 have top : ∀ (d : Nat) (t : Tr d) (N : Nat), wtT d t ≤ N → (lab d t).2.1.length ≤ N ∧ TopL N (lab d t) ∧ (kidsT d t).length ≤ N ∧ ∀ k ∈ kidsT d t, wtT (d - 1) k ≤ N := by
  intro d t N h
  rw [wt_eq] at h
  have a1 : (lab d t).2.1.length ≤ attW (lab d t).2.1 := by
   generalize (lab d t).2.1 = al
   induction al with
   | nil => exact Nat.zero_le _
   | cons a r ih =>
    have : attW (a :: r) = 1 + a.name.length + a.value.length + attW r := by simp [attW]
    rw [this, List.length_cons]
    omega
  have a2 : ∀ a ∈ (lab d t).2.1, a.value.length ≤ attW (lab d t).2.1 := by
   generalize (lab d t).2.1 = al
   induction al with
   | nil => exact fun a ha => by cases ha
   | cons b r ih =>
    intro a ha
    have : attW (b :: r) = 1 + b.name.length + b.value.length + attW r := by simp [attW]
    rw [this]
    rcases List.mem_cons.1 ha with rfl | ha
    ·omega
    ·have := ih a ha
     omega
  have a3 : (kidsT d t).length ≤ ((kidsT d t).map (wtT (d - 1))).sum := by
   generalize kidsT d t = l
   induction l with
   | nil => exact Nat.zero_le _
   | cons a r ih =>
    have : 1 ≤ wtT (d - 1) a := by rw [wt_eq]; omega
    rw [List.map_cons, List.sum_cons, List.length_cons]
    omega
  have e2 : (lab d t).2.2 = txT d t := rfl
  refine ⟨by omega, ⟨by rw [e2]; omega, fun a ha => by have := a2 a ha; omega⟩, by omega, fun k hk => ?_⟩
  have := sum_mem (wtT (d - 1)) hk
  omega
 intro d
 induction d with
 | zero =>
  intro t N h
  obtain ⟨h1, h2, _, _⟩ := top 0 t N h
  exact ⟨h1, h2⟩
 | succ d ih =>
  intro t N h
  obtain ⟨h1, h2, h3, h4⟩ := top (d + 1) t N h
  exact ⟨⟨h1, h3, fun k hk => (ih k N (h4 k hk)).1⟩, ⟨h2, fun k hk => (ih k N (h4 k hk)).2⟩⟩
theorem attW_mem : ∀ {al : List HdV} {a : HdV}, a ∈ al → 1 + a.name.length + a.value.length ≤ attW al
 | b :: r, a, h => by
  have e : attW (b :: r) = 1 + b.name.length + b.value.length + attW r := by simp [attW]
  rcases List.mem_cons.1 h with rfl | h
  ·omega
  ·have := attW_mem h
   omega
theorem attW_len : ∀ (al : List HdV), al.length ≤ attW al
 | [] => Nat.zero_le _
 | b :: r => by
  have e : attW (b :: r) = 1 + b.name.length + b.value.length + attW r := by simp [attW]
  have := attW_len r
  rw [List.length_cons]
  omega
theorem wt_parts {d : Nat} {t : Tr d} {N : Nat} (h : wtT d t ≤ N) : (lab d t).1.length ≤ N ∧ (lab d t).2.2.length ≤ N ∧ (lab d t).2.1.length ≤ N ∧ (∀ a ∈ (lab d t).2.1, a.name.length ≤ N ∧ a.value.length ≤ N) ∧ (kidsT d t).length ≤ N ∧ ∀ k ∈ kidsT d t, wtT (d - 1) k ≤ N := by
 rw [wt_eq] at h
 have e1 : (nmT d t).length = (lab d t).1.length := rfl
 have e2 : (txT d t).length = (lab d t).2.2.length := rfl
 have a1 := attW_len (lab d t).2.1
 have a3 : (kidsT d t).length ≤ ((kidsT d t).map (wtT (d - 1))).sum := by
  clear h
  generalize kidsT d t = l
  induction l with
  | nil => exact Nat.zero_le _
  | cons a r ih =>
   have : 1 ≤ wtT (d - 1) a := by rw [wt_eq]; omega
   rw [List.map_cons, List.sum_cons, List.length_cons]
   omega
 refine ⟨by omega, by omega, by omega, fun a ha => ?_, by omega, fun k hk => ?_⟩
 ·have := attW_mem ha
  omega
 ·have := sum_mem (wtT (d - 1)) hk
  omega
theorem list_wt (N : Nat) : ∀ (d k : Nat) (t : Tr d), wtT d t ≤ N → (∀ x ∈ listT d k t, wtT x.2.1 x.2.2 ≤ N) ∧ (listT d k t).length ≤ wtT d t
 | 0, k, t, h => by
  refine ⟨fun x hx => ?_, ?_⟩
  ·have : x = (k, ⟨0, t⟩) := by simpa [listT] using hx
   subst this
   exact h
  ·have : (listT 0 k t).length = 1 := rfl
   rw [this, wt_eq]
   omega
 | d + 1, k, t, h => by
  have hkd : ∀ y ∈ t.2, wtT d y ≤ N := (wt_parts h).2.2.2.2.2
  have hsum : (t.2.map (wtT d)).sum + 1 ≤ wtT (d + 1) t := by
   show (t.2.map (wtT d)).sum + 1 ≤ 1 + t.1.1.length + t.1.2.2.length + attW t.1.2.1 + (t.2.map (wtT d)).sum
   omega
  have e : listT (d + 1) k t = (k, (⟨d + 1, t⟩ : Sigma Tr)) :: (if t.1.1.isEmpty then [] else t.2.flatMap (listT d (k + 1))) := rfl
  rw [e]
  refine ⟨fun x hx => ?_, ?_⟩
  ·rcases List.mem_cons.1 hx with rfl | hx
   ·exact h
   ·split at hx
    ·cases hx
    ·obtain ⟨y, hy, hxy⟩ := List.mem_flatMap.1 hx
     exact (list_wt N d (k + 1) y (hkd y hy)).1 x hxy
  ·rw [List.length_cons]
   split
   ·simp; omega
   ·have : (t.2.flatMap (listT d (k + 1))).length ≤ (t.2.map (wtT d)).sum := by
     clear hsum e h
     generalize t.2 = l at hkd
     induction l with
     | nil => exact Nat.le_refl _
     | cons a r ih =>
      have h1 := (list_wt N d (k + 1) a (hkd a (by simp))).2
      have h2 := ih (fun y hy => hkd y (by simp [hy]))
      rw [List.flatMap_cons, List.length_append, List.map_cons, List.sum_cons]
      omega
    omega
end Go.Proofs.YtgoiafndapemjaaGreatDoor
namespace Go.Proofs.YtgoiafndapemjaaGreatDoor
open Go.ChangeShapes Go.WideShapes Go.ChangeAt Go.RowKit
set_option maxRecDepth 100000
theorem choose_at {α : Type} (z : α) (n : Nat) (p : Nat → α → Prop) (h : ∀ i, i < n → ∃ v, p i v) : ∃ l : List α, l.length = n ∧ ∀ i, i < n → p i (l.getD i z) := by
 have each : ∀ i, ∃ v : α, i < n → p i v := fun i => by
  by_cases hi : i < n
  ·obtain ⟨v, hv⟩ := h i hi; exact ⟨v, fun _ => hv⟩
  ·exact ⟨z, fun h => absurd h hi⟩
 refine ⟨(List.range n).map fun i => Classical.choose (each i), by simp, fun i hi => ?_⟩
 have e : ((List.range n).map fun i => Classical.choose (each i)).getD i z = Classical.choose (each i) := by simp [List.getD_eq_getElem?_getD, hi]
 rw [e]
 exact Classical.choose_spec (each i) hi
theorem mem_getD {α : Type} (z : α) {l : List α} {x : α} (h : x ∈ l) : ∃ i, i < l.length ∧ x = l.getD i z := by
 obtain ⟨i, hi, rfl⟩ := List.getElem_of_mem h
 exact ⟨i, hi, by rw [List.getD_eq_getElem?_getD, List.getElem?_eq_getElem hi]; rfl⟩
end Go.Proofs.YtgoiafndapemjaaGreatDoor
namespace Go.Proofs.YtgoiafndapemjaaGreatDoor
open Go.RowKit Go.BigFrame
attribute [local go_sem ↓] loadN_eq
theorem text_wt : ∀ (d : Nat) (t : Tr d), (textT d t).length ≤ wtT d t := by
 have step : ∀ (d : Nat) (t : Tr d), ((kidsT d t).flatMap (textT (d - 1))).length ≤ ((kidsT d t).map (wtT (d - 1))).sum → (textT d t).length ≤ wtT d t := by
  intro d t h
  rw [text_eq, wt_eq]
  split <;> omega
 intro d
 induction d with
 | zero => intro t; exact step 0 t (Nat.le_refl _)
 | succ d ih =>
  intro t
  refine step (d + 1) t ?_
  show ((kidsT (d + 1) t).flatMap (textT d)).length ≤ ((kidsT (d + 1) t).map (wtT d)).sum
  generalize kidsT (d + 1) t = l
  induction l with
  | nil => exact Nat.le_refl _
  | cons a r ih2 =>
   have := ih a
   rw [List.flatMap_cons, List.length_append, List.map_cons, List.sum_cons]
   have h2 : (r.flatMap (textT d)).length ≤ (r.map (wtT d)).sum := ih2
   omega
attribute [local go_sem ↓] loadN_eq
def fndP (nm : List UInt8) (d : Nat) (k : Tr d) : Bool := decide (nmT d k = nm) && !nm.isEmpty
def fndT (nm : List UInt8) (d : Nat) (l : List (Tr d)) : List (Tr d) := l.filter (fndP nm d)
theorem fnd_take (nm : List UInt8) (d : Nat) (l : List (Tr d)) (k : Nat) (hk : k < l.length) : fndT nm d (l.take (k + 1)) = fndT nm d (l.take k) ++ (if fndP nm d (l.getD k (zeroT d)) then [l.getD k (zeroT d)] else []) := by
 unfold fndT
 rw [take_getD l (zeroT d) k hk, List.filter_append]
 congr 1
 rw [List.filter_cons, List.filter_nil]
theorem fnd_len (nm : List UInt8) (d : Nat) (l : List (Tr d)) : (fndT nm d l).length ≤ l.length := List.length_filter_le _ _
end Go.Proofs.YtgoiafndapemjaaGreatDoor
namespace Go.Proofs.YtgoiafndapemjaaGreatDoor
def firstT (nm : List UInt8) (d : Nat) (t : Tr d) : Option (Tr (d - 1)) := (fndT nm (d - 1) (kidsT d t)).head?
def kidL (nm : List UInt8) (d : Nat) (t : Tr d) : List UInt8 := match firstT nm d t with
 | none => []
 | some k => textT (d - 1) k
def attsT (d : Nat) (t : Tr d) : List HdV := (lab d t).2.1
def altL : List UInt8 := [97, 108, 116, 101, 114, 110, 97, 116, 101]
def relL : List UInt8 := [114, 101, 108]
def hrefL : List UInt8 := [104, 114, 101, 102]
def linkN : List UInt8 := [108, 105, 110, 107]
def titleN : List UInt8 := [116, 105, 116, 108, 101]
def relOk (d : Nat) (t : Tr d) : Bool := match attrV relL (attsT d t) with
 | none => true
 | some r => decide (r = altL)
def hrefT (d : Nat) (t : Tr d) : List UInt8 := (attrV hrefL (attsT d t)).getD []
def linkA (d : Nat) (t : Tr d) : List UInt8 := match (fndT linkN (d - 1) (kidsT d t)).find? (relOk (d - 1)) with
 | none => []
 | some k => shL (hrefT (d - 1) k)
def orL (a b : List UInt8) : List UInt8 := if a = [] then b else a
def descN : List UInt8 := [100, 101, 115, 99, 114, 105, 112, 116, 105, 111, 110]
def pubN : List UInt8 := [112, 117, 98, 68, 97, 116, 101]
def guidN : List UInt8 := [103, 117, 105, 100]
def sumN' : List UInt8 := [115, 117, 109, 109, 97, 114, 121]
def contN : List UInt8 := [99, 111, 110, 116, 101, 110, 116]
def updN : List UInt8 := [117, 112, 100, 97, 116, 101, 100]
def pubdN : List UInt8 := [112, 117, 98, 108, 105, 115, 104, 101, 100]
def idN : List UInt8 := [105, 100]
def itemN : List UInt8 := [105, 116, 101, 109]
def entryN : List UInt8 := [101, 110, 116, 114, 121]
def chanN : List UInt8 := [99, 104, 97, 110, 110, 101, 108]
def rssN : List UInt8 := [114, 115, 115]
def feedN : List UInt8 := [102, 101, 101, 100]
theorem orL_len {a b : List UInt8} {n : Nat} (ha : a.length ≤ n) (hb : b.length ≤ n) : (orL a b).length ≤ n := by
 unfold orL; split
 ·exact hb
 ·exact ha
def leapD (y : Nat) : Bool := decide (y % 4 = 0) && (!decide (y % 100 = 0) || decide (y % 400 = 0))
def longD (y m : Nat) : Nat := if m = 4 ∨ m = 6 ∨ m = 9 ∨ m = 11 then 30 else if m = 2 then (if leapD y then 29 else 28) else 31
def aheadD (y : Nat) : Nat := (y - 1) * 365 + (y - 1) / 4 - (y - 1) / 100 + (y - 1) / 400
def yearD (y : Nat) : Nat := if leapD y then 366 else 365
def cumD (y : Nat) : Nat → Nat
 | 0 => 0
 | m + 1 => if m = 0 then 0 else cumD y m + longD y m
def DateD (y m d : Nat) : Prop := 1 ≤ y ∧ y ≤ 9999 ∧ 1 ≤ m ∧ m ≤ 12 ∧ 1 ≤ d ∧ d ≤ longD y m
def dayD (y m d : Nat) : Nat := aheadD y + cumD y m + d - 1
theorem leap_iff (y : Nat) : leapD y = true ↔ y % 4 = 0 ∧ (¬ y % 100 = 0 ∨ y % 400 = 0) := by
 unfold leapD
 rw [Bool.and_eq_true, Bool.or_eq_true, decide_eq_true_eq, decide_eq_true_eq, Bool.not_eq_true', decide_eq_false_iff_not]
theorem year_cases (y : Nat) : (yearD y = 366 ∧ y % 4 = 0 ∧ (¬ y % 100 = 0 ∨ y % 400 = 0)) ∨ (yearD y = 365 ∧ ¬ (y % 4 = 0 ∧ (¬ y % 100 = 0 ∨ y % 400 = 0))) := by
 unfold yearD
 by_cases h : leapD y = true
 ·exact .inl ⟨if_pos h, (leap_iff y).1 h⟩
 ·exact .inr ⟨if_neg h, fun e => h ((leap_iff y).2 e)⟩
theorem ahead_succ (y : Nat) (h : 1 ≤ y) : aheadD (y + 1) = aheadD y + yearD y := by
 obtain ⟨x, rfl⟩ : ∃ x, y = x + 1 := ⟨y - 1, by omega⟩
 unfold aheadD
 simp only [Nat.add_sub_cancel]
 have a4 : ((x + 1) / 4 = x / 4 + 1 ∧ (x + 1) % 4 = 0) ∨ ((x + 1) / 4 = x / 4 ∧ ¬ (x + 1) % 4 = 0) := by omega
 have a100 : ((x + 1) / 100 = x / 100 + 1 ∧ (x + 1) % 100 = 0) ∨ ((x + 1) / 100 = x / 100 ∧ ¬ (x + 1) % 100 = 0) := by omega
 have a400 : ((x + 1) / 400 = x / 400 + 1 ∧ (x + 1) % 400 = 0) ∨ ((x + 1) / 400 = x / 400 ∧ ¬ (x + 1) % 400 = 0) := by omega
 have b1 : (x + 1) % 400 = 0 → (x + 1) % 100 = 0 := by omega
 have b2 : (x + 1) % 100 = 0 → (x + 1) % 4 = 0 := by omega
 have b3 : x / 100 ≤ x / 4 := Nat.div_le_div_left (by omega) (by omega)
 rcases year_cases (x + 1) with ⟨e, h1, h2⟩ | ⟨e, h1⟩ <;> rw [e] <;> generalize (x + 1) / 4 = p4 at * <;> generalize (x + 1) / 100 = p100 at * <;> generalize (x + 1) / 400 = p400 at * <;> generalize x / 4 = q4 at * <;> generalize x / 100 = q100 at * <;> generalize x / 400 = q400 at * <;> generalize (x + 1) % 4 = m4 at * <;> generalize (x + 1) % 100 = m100 at * <;> generalize (x + 1) % 400 = m400 at * <;> omega
theorem long_ge (y m : Nat) : 28 ≤ longD y m ∧ longD y m ≤ 31 := by
 unfold longD
 split
 ·omega
 ·split
  ·split <;> omega
  ·omega
theorem cum_succ (y m : Nat) (h : 1 ≤ m) : cumD y (m + 1) = cumD y m + longD y m := by
 show (if m = 0 then 0 else _) = _
 rw [if_neg (by omega)]
theorem cum_one (y : Nat) : cumD y 1 = 0 := rfl
theorem cum_year (y : Nat) : cumD y 13 = yearD y := by
 unfold yearD
 by_cases h : leapD y = true
 ·rw [if_pos h]; simp [cumD, longD, h]
 ·rw [if_neg h]; simp [cumD, longD, h]
theorem cum_mono (y : Nat) : ∀ (k m : Nat), 1 ≤ m → cumD y m ≤ cumD y (m + k)
 | 0, m, _ => Nat.le_refl _
 | k + 1, m, h => by
  have := cum_mono y k m h
  rw [← Nat.add_assoc, cum_succ y (m + k) (by omega)]; omega
theorem cum_lt (y m m' : Nat) (h1 : 1 ≤ m) (h : m < m') : cumD y m + longD y m ≤ cumD y m' := by
 have := cum_mono y (m' - (m + 1)) (m + 1) (by omega)
 rw [show m + 1 + (m' - (m + 1)) = m' by omega, cum_succ y m h1] at this
 exact this
theorem ahead_mono : ∀ (k y : Nat), 1 ≤ y → aheadD y ≤ aheadD (y + k)
 | 0, y, _ => Nat.le_refl _
 | k + 1, y, h => by
  have := ahead_mono k y h
  rw [← Nat.add_assoc, ahead_succ (y + k) (by omega)]; omega
theorem ahead_lt (y y' : Nat) (h1 : 1 ≤ y) (h : y < y') : aheadD y + yearD y ≤ aheadD y' := by
 have := ahead_mono (y' - (y + 1)) (y + 1) (by omega)
 rw [show y + 1 + (y' - (y + 1)) = y' by omega, ahead_succ y h1] at this
 exact this
theorem date_in {y m d : Nat} (h : DateD y m d) : cumD y m + d - 1 < yearD y := by
 obtain ⟨h1, h2, h3, h4, h5, h6⟩ := h
 have := cum_lt y m 13 h3 (by omega)
 rw [cum_year] at this
 omega
theorem day_lt {y m d : Nat} (h : DateD y m d) : dayD y m d < 3652059 := by
 have i := date_in h
 obtain ⟨h1, h2, h3, h4, h5, h6⟩ := h
 have : aheadD y + yearD y ≤ aheadD 10000 := ahead_lt y 10000 h1 (by omega)
 have e : aheadD 10000 = 3652059 := by simp [aheadD]
 unfold dayD; omega
theorem ahead_le {y : Nat} (h1 : 1 ≤ y) (h2 : y ≤ 9999) : aheadD y ≤ 3651694 := by
 have := ahead_mono (9999 - y) y h1
 rw [show y + (9999 - y) = 9999 by omega] at this
 have e : aheadD 9999 = 3651694 := by simp [aheadD]
 omega
theorem cum_le (y m : Nat) (h1 : 1 ≤ m) (h2 : m ≤ 12) : cumD y m ≤ 366 := by
 have := cum_lt y m 13 h1 (by omega)
 rw [cum_year] at this
 rcases year_cases y with ⟨e, _⟩ | ⟨e, _⟩ <;> omega
end Go.Proofs.YtgoiafndapemjaaGreatDoor
