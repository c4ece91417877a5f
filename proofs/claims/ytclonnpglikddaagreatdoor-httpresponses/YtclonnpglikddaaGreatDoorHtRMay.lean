
/- Which requests may be, and how they are put together: what fits, MayRequest, join and Request of the reference do. -/
import Derived.Test.YtclonnpglikddaaGreatDoorHtRWith
import Derived.Test.YtclonnpglikddaaGreatDoorHtHds
import Derived.Test.YtclonnpglikddaaGreatDoorHdRPri
namespace Go.Proofs.YtclonnpglikddaaGreatDoor
set_option linter.unusedVariables false
set_option linter.unusedSimpArgs false
open Go.RowKit Go.BigFrame

set_option maxHeartbeats 2000000 in
set_option maxRecDepth 100000 in
theorem refFits_any (l : List HdV) (bd : List UInt8) (say : Bool) (A : Option Addr) (c : Nat) (B : Option Addr) (cb : Nat) (hl : l.length ≤ 100) (hz : sizeH l ≤ 20000) (hn : bd.length ≤ 65535) (w : World) (hA : HdsAt w A l) : Calls Tryz.prog 30 #[.slice A l.length c, .slice B bd.length cb, .bool say] w fun e w' => e = .returned (.bool (fitsM l bd say)) ∧ Below w.heap.size w w' := by
  have hs := light_small l (by omega)
  have HA := hid hA
  have HC1 := hid (fun W hW => refAll_any l clLow A c (by omega) hs (by decide) W hW)
  have HT1 := hid (fun W hW => refAll_any l teLow A c (by omega) hs (by decide) W hW)
  have HWI := hid (fun W hW => refWith_any l A c bd.length (by omega) hn W hW)
  have HK0 := hid (fun A' c' W hW => refCheck_any l A' c' (by omega) (by omega) W hW)
  have hwz := with_size l bd.length (by omega) hz
  have hwl := with_len l bd.length
  have HK1 := hid (fun A' c' W hW => refCheck_any (withM l bd.length) A' c' (by omega) (by omega) W hW)
  have HF : Hid (fitsM l bd say = (decide (allH l clLow = [] ∧ allH l teLow = [] ∧ bd.length ≤ 32768) && decide (checkH (if say then withM l bd.length else l) = 0))) := rfl
  have HLC : Hid ((allH l clLow).length = 0 ↔ allH l clLow = []) := List.length_eq_zero_iff
  have HLT : Hid ((allH l teLow).length = 0 ↔ allH l teLow = []) := List.length_eq_zero_iff
  clear hA hs hz hwz hwl hl
  generalize fitsM l bd say = R at HF ⊢
  generalize allH l clLow = C at HC1 HF HLC
  generalize allH l teLow = T at HT1 HF HLT
  generalize withM l bd.length = WM at HWI HK1 HF
  generalize bd.length = n at HWI HF hn ⊢
  generalize hln : l.length = ln at HC1 HT1 HWI HK0 ⊢
  clear hln
  have HC2 : Hid (∀ W, HdsAt W A l → Calls Tryz.prog 56 #[.slice A ln c, .string ⟨#[99, 111, 110, 116, 101, 110, 116, 45, 108, 101, 110, 103, 116, 104]⟩] W fun e w' => ∃ v, e = .returned v ∧ StrsV w' v C ∧ Below W.heap.size W w') := HC1.out
  have HT2 : Hid (∀ W, HdsAt W A l → Calls Tryz.prog 56 #[.slice A ln c, .string ⟨#[116, 114, 97, 110, 115, 102, 101, 114, 45, 101, 110, 99, 111, 100, 105, 110, 103]⟩] W fun e w' => ∃ v, e = .returned v ∧ StrsV w' v T ∧ Below W.heap.size W w') := HT1.out
  clear HC1 HT1
  go_enter Tryz.func30, Tryz.ntmps30
  go_wp2_with fail
  refine (HC2.out _ HA.out).mono ?_
  rintro e W1 ⟨v1, rfl, hv1, hb1⟩
  obtain ⟨A1, c1, rfl, _⟩ := hv1
  have HB1 := hid hb1
  clear hb1
  by_cases hC : 0 < C.length
  · have HX : Hid (R = false) := by show _ = _; rw [HF.out, decide_eq_false (fun h => by rw [h.1] at hC; simp at hC)]; rfl
    have hci : (0 : Int) < (C.length : Int) := by omega
    generalize C.length = cn at hci ⊢
    clear hC
    go_wp2_with fail
    go_ret
    exact ⟨by rw [HX.out]; rfl, HB1.out⟩
  have hci : ¬ (0 : Int) < (C.length : Int) := by omega
  have hc0 : C = [] := HLC.out.1 (by omega)
  generalize C.length = cn at hci hC ⊢
  go_wp2_with fail
  refine (HT2.out _ (HA.out.below HB1.out (Nat.le_refl _))).mono ?_
  rintro e W2 ⟨v2, rfl, hv2, hb2⟩
  obtain ⟨A2, c2, rfl, _⟩ := hv2
  have HB2 := hid (HB1.out.trans (hb2.mono HB1.out.size))
  clear hb2
  by_cases hT : 0 < T.length
  · have HX : Hid (R = false) := by show _ = _; rw [HF.out, decide_eq_false (fun h => by rw [h.2.1] at hT; simp at hT)]; rfl
    have hti : (0 : Int) < (T.length : Int) := by omega
    generalize T.length = tn at hti ⊢
    clear hT hc0
    go_wp2_with fail
    go_ret
    exact ⟨by rw [HX.out]; rfl, HB2.out⟩
  have hti : ¬ (0 : Int) < (T.length : Int) := by omega
  have ht0 : T = [] := HLT.out.1 (by omega)
  generalize T.length = tn at hti hT ⊢
  by_cases hb : 32768 < n
  · have HX : Hid (R = false) := by show _ = _; rw [HF.out, decide_eq_false (fun h => by omega)]; rfl
    have hbi : (32768 : Int) < (n : Int) := by omega
    clear hb hc0 ht0
    go_wp2_with fail
    go_ret
    exact ⟨by rw [HX.out]; rfl, HB2.out⟩
  have hbi : ¬ (32768 : Int) < (n : Int) := by omega
  have HF2 : Hid (R = decide (checkH (if say then WM else l) = 0)) := by show _ = _; rw [HF.out, decide_eq_true ⟨hc0, ht0, by omega⟩]; rfl
  clear hb hc0 ht0 HF
  cases say
  · rw [if_neg (by simp)] at HF2
    have HK3 := hid (HK0.out A c W2 (HA.out.below HB2.out (Nat.le_refl _)))
    generalize checkH l = E at HK3 HF2
    go_wp2_with fail
    refine HK3.out.mono ?_
    rintro e W4 ⟨rfl, hb4⟩
    have HB4 := hid (HB2.out.trans (hb4.mono HB2.out.size))
    clear hb4
    by_cases hE : E = 0
    · have HX : Hid (R = true) := by show _ = _; rw [HF2.out, decide_eq_true hE]
      subst hE
      go_wp2_with fail
      go_ret
      exact ⟨by rw [HX.out]; rfl, HB4.out⟩
    · have HX : Hid (R = false) := by show _ = _; rw [HF2.out, decide_eq_false hE]
      have hE9 : (E == 0) = false := beq_eq_false_iff_ne.2 hE
      clear hE
      go_wp2_with fail
      go_ret
      exact ⟨by rw [HX.out]; simp, HB4.out⟩
  · rw [if_pos rfl] at HF2
    have HWI2 := hid (HWI.out W2 (HA.out.below HB2.out (Nat.le_refl _)))
    go_wp2_with fail
    refine HWI2.out.mono ?_
    rintro e W3 ⟨v3, rfl, ho3, hb3⟩
    have HB3 := hid (HB2.out.trans (hb3.mono HB2.out.size))
    obtain ⟨A3, c3, rfl, hat3⟩ := ho3.hds
    have HK3 := hid (HK1.out A3 c3 W3 hat3)
    clear hb3 ho3 hat3
    generalize WM.length = wl at HK3 ⊢
    generalize checkH WM = E at HK3 HF2
    go_wp2_with fail
    refine HK3.out.mono ?_
    rintro e W4 ⟨rfl, hb4⟩
    have HB4 := hid (HB3.out.trans (hb4.mono HB3.out.size))
    clear hb4
    by_cases hE : E = 0
    · have HX : Hid (R = true) := by show _ = _; rw [HF2.out, decide_eq_true hE]
      subst hE
      go_wp2_with fail
      go_ret
      exact ⟨by rw [HX.out]; rfl, HB4.out⟩
    · have HX : Hid (R = false) := by show _ = _; rw [HF2.out, decide_eq_false hE]
      have hE9 : (E == 0) = false := beq_eq_false_iff_ne.2 hE
      clear hE
      go_wp2_with fail
      go_ret
      exact ⟨by rw [HX.out]; simp, HB4.out⟩
set_option maxHeartbeats 2000000 in
set_option maxRecDepth 100000 in
theorem refMayReq_any (m t : List UInt8) (l : List HdV) (bd : List UInt8) (A : Option Addr) (c : Nat) (B : Option Addr) (cb : Nat) (hm : m.length ≤ 1000000) (ht : t.length ≤ 1000000) (hl : l.length ≤ 100) (hz : sizeH l ≤ 20000) (hn : bd.length ≤ 65535) (w : World) (hA : HdsAt w A l) : Calls Tryz.prog 10 #[.agg #[.string (asS m), .string (asS t), .slice A l.length c, .slice B bd.length cb]] w fun e w' => e = .returned (.bool (mayReq ⟨m, t, l, bd⟩)) ∧ Below w.heap.size w w' := by
  have HA := hid hA
  have HTK := hid (fun W => refToken_any m (by omega) W)
  have HTG := hid (fun W => refTarget_any t (by omega) W)
  have HFI := hid (fun W hW => refFits_any l bd (decide (0 < bd.length)) A c B cb hl hz hn W hW)
  have HMA : Hid (mayReq ⟨m, t, l, bd⟩ = (tokenH m && targetM t && fitsM l bd (decide (0 < bd.length)))) := rfl
  have hdi : decide ((0 : Int) < (bd.length : Int)) = decide (0 < bd.length) := decide_eq_decide.2 (by omega)
  have HB0 := hid (alloc_below (Below.refl w.heap.size w) (Nat.le_refl _) (.cells #[.string (asS m), .string (asS t), .slice A l.length c, .slice B bd.length cb] 25))
  clear hA hm ht hl hz hn
  generalize mayReq ⟨m, t, l, bd⟩ = R at HMA ⊢
  generalize fitsM l bd (decide (0 < bd.length)) = fb at HFI HMA
  generalize tokenH m = tb at HTK HMA
  generalize targetM t = gb at HTG HMA
  generalize asS m = M at HTK HB0 ⊢
  generalize asS t = T at HTG HB0 ⊢
  generalize l.length = ln at HFI HB0 ⊢
  generalize hbn : bd.length = n at HFI HB0 hdi ⊢
  clear hbn
  generalize hdn : decide (0 < n) = db at HFI hdi
  go_enter Tryz.func10, Tryz.ntmps10
  go_wp2_with fail
  refine (HTK.out _).mono ?_
  rintro e W1 ⟨rfl, rfl⟩
  cases tb
  · go_wp2_with fail
    go_ret
    exact ⟨by rw [HMA.out]; rfl, HB0.out⟩
  go_wp2_with fail
  refine (HTG.out _).mono ?_
  rintro e W1 ⟨rfl, rfl⟩
  cases gb
  · go_wp2_with fail
    go_ret
    exact ⟨by rw [HMA.out]; rfl, HB0.out⟩
  have HF2 := hid (HFI.out _ (HA.out.below HB0.out (Nat.le_refl _)))
  clear HFI
  go_wp2_with fail
  refine HF2.out.mono ?_
  rintro e W2 ⟨rfl, hb2⟩
  have HB2 := hid (HB0.out.trans (hb2.mono HB0.out.size))
  clear hb2
  go_wp2_with fail
  go_ret
  exact ⟨by rw [HMA.out]; rfl, HB2.out⟩
end Go.Proofs.YtclonnpglikddaaGreatDoor
