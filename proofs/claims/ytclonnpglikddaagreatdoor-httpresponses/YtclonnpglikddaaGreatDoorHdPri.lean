
/- Headers put together: what Print of package header does, and the reference's. -/
import Derived.Test.YtclonnpglikddaaGreatDoorHdSame
namespace Go.Proofs.YtclonnpglikddaaGreatDoor
set_option linter.unusedVariables false
set_option linter.unusedSimpArgs false
open Go.RowKit Go.BigFrame

/-- The lines, without the empty one behind them. -/
def bodyH (l : List HdV) : List UInt8 := l.flatMap fun h => lineH h ++ [13, 10]
theorem body_print : ∀ l : List HdV, printH l = bodyH l ++ [13, 10]
  | [] => rfl
  | h :: r => by
    rw [printH, body_print r]
    show _ = (lineH h ++ [13, 10] ++ bodyH r) ++ [13, 10]
    simp
theorem body_snoc (l : List HdV) (h : HdV) : bodyH (l ++ [h]) = bodyH l ++ (lineH h ++ [13, 10]) := by simp [bodyH]
theorem body_take (l : List HdV) (k : Nat) (h : k < l.length) : bodyH (l.take (k + 1)) = bodyH (l.take k) ++ (lineH (l.getD k zeroH) ++ [13, 10]) := by rw [take_hd l k h, body_snoc]
theorem body_len (l : List HdV) : (bodyH l).length + 2 = sizeH l := by
  have := print_size l
  rw [body_print, List.length_append] at this
  simpa using this
set_option maxHeartbeats 1000000 in
set_option maxRecDepth 100000 in
theorem print9_no (l : List HdV) (A : Option Addr) (c : Nat) (hl : l.length ≤ 100) (hz : sizeH l ≤ 20000) (hc : checkH l ≠ 0) (w : World) (hA : HdsAt w A l) : Calls Tryz.prog 52 #[.slice A l.length c] w fun e w' => e = .returned (.tuple #[.slice none 0 0, .int .i64 (checkH l)]) ∧ Below w.heap.size w w' := by
  have HC := hid (check9_any l A c (by omega) (by omega) w hA)
  clear hA hl hz
  generalize checkH l = E at HC hc ⊢
  have h1 : (E == 0) = false := by rw [beq_eq_false_iff_ne]; exact hc
  have h2 : (E != 0) = true := by rw [bne, h1]; rfl
  clear hc
  go_enter Tryz.func52, Tryz.ntmps52
  go_wp2_with fail
  refine HC.out.mono ?_
  rintro e W ⟨rfl, hb⟩
  have HB := hid hb
  clear hb
  go_wp2_with fail
  go_ret2
  exact ⟨rfl, HB.out⟩
set_option maxHeartbeats 1000000 in
set_option maxRecDepth 100000 in
theorem print9_ok (l : List HdV) (A : Option Addr) (c : Nat) (hl : l.length ≤ 100) (hz : sizeH l ≤ 20000) (hc : checkH l = 0) (w : World) (hA : HdsAt w A l) : Calls Tryz.prog 52 #[.slice A l.length c] w fun e w' => ∃ g cap, e = .returned (.tuple #[.slice (some ⟨g, 0, none⟩) (sizeH l) cap, .int .i64 0]) ∧ Own w' w.heap.size g (sizeH l) cap (printH l) ∧ Below w.heap.size w w' := by
  have HC := hid (check9_any l A c (by omega) (by omega) w hA)
  have HA := hid hA
  have HST := hid (size_take l)
  have HSP := hid (size_part l)
  have HBT := hid (body_take l)
  have HBL := hid body_len
  have HALL : Hid (l.take l.length = l) := List.take_length
  have HHL : Hid (∀ k, k < l.length → hdl (l.getD k zeroH) ≤ 20000) := fun k hk => Nat.le_trans (hdl_le l k hk) hz
  have HTG := hid (fun (h : HdV) (hh : hdl h ≤ 20000) W => together_any h (by omega) W)
  have HTL : Hid (∀ h : HdV, (asS (lineH h ++ [13, 10])).size = hdl h) := fun h => by rw [asS_size]; unfold lineH hdl; simp; omega
  have HPR := hid (body_print l)
  have hlz : sizeH l = (bodyH l).length + 2 := (body_len l).symm
  rw [hc] at HC
  clear hA hc
  generalize hn : l.length = n at hl HA HST HALL HHL HBT HC ⊢
  have HN := hid hn
  clear hn
  generalize sizeH l = sz at hz hlz HSP ⊢
  have HLZ := hid hlz
  clear hlz
  generalize printH l = PR at HPR ⊢
  go_enter Tryz.func52, Tryz.ntmps52
  go_wp2_with fail
  refine HC.out.mono ?_
  rintro e W ⟨rfl, hb⟩
  have HB0 := hid hb
  clear hb HC
  go_wp2_with fail
  go_loopw [5, 15] (fun d i wr => ∃ k : Nat, k ≤ n ∧ i = .int .i64 (k : Int) ∧ Hid (Down wr w.heap.size d (bodyH (l.take k))) ∧ Hid (Below w.heap.size w wr)) (fun d i wr => n - (intOf i).toNat)
  case atStart => exact ⟨0, Nat.zero_le _, rfl, .inl ⟨rfl, rfl⟩, HB0.out⟩
  case round =>
    obtain ⟨k, hk, rfl, HD, HB⟩ := hrel
    by_cases hlt : k < n
    · have hi : (k : Int) < (n : Int) := by omega
      have HQ := hid (HA.out (by have := HN.out; omega))
      obtain ⟨q, o, hq, hqs, hcs⟩ := HQ.out
      have hc := hcs k (by have := HN.out; omega)
      have k1 := (HB.out.cell (p := ⟨q, o + k * 2, none⟩) hqs).trans hc.1
      have k2 := (HB.out.cell (p := ⟨q, o + k * 2 + 1, none⟩) hqs).trans hc.2
      clear hcs hc hqs HQ
      subst hq
      have HHL2 := hid (HHL.out k hlt)
      have HTG2 := hid (HTG.out _ HHL2.out)
      have htl := HTL.out (l.getD k zeroH)
      have HBT2 := hid (HBT.out k hlt)
      have hzk : (bodyH (l.take k)).length ≤ 20000 := by have := HBL.out (l.take k); have := HSP.out k; omega
      have HTD : Hid ((asS (lineH (l.getD k zeroH) ++ [13, 10])).data.toList = lineH (l.getD k zeroH) ++ [13, 10]) := rfl
      have hm0 : 0 < hdl (l.getD k zeroH) := by unfold hdl; omega
      have hm1 := HHL2.out
      unfold hcs at HTG2
      generalize hdl (l.getD k zeroH) = m at htl hm0 hm1
      generalize asS (lineH (l.getD k zeroH) ++ [13, 10]) = TG at HTG2 htl HTD
      generalize lineH (l.getD k zeroH) ++ [13, 10] = tg at HTD HBT2
      generalize asS (l.getD k zeroH).name = N at k1 HTG2
      generalize asS (l.getD k zeroH).value = V at k2 HTG2
      have HTS := hid htl
      clear htl HHL2
      rcases HD.out with ⟨rfl, ho⟩ | ⟨g, bn, cap, rfl, hown⟩
      · have HU : Hid (bodyH (l.take (k + 1)) = tg) := by show _ = _; rw [HBT2.out, ho]; rfl
        clear ho HD hzk
        go_wp2_with fail
        refine (HTG2.out _).mono ?_
        rintro e W3 ⟨rfl, hb⟩
        have HB3 := hid ((alloc_below HB.out HB.out.size _).trans (hb.mono (alloc_below HB.out HB.out.size _).size))
        clear hb k1 k2
        go_wp2_with (first
          | (refine wpList_app_nil rfl _ _ rfl w.heap.size m TG rfl rfl HTS.out hm0 (by omega) HB3.out.size ?_)
          | fail)
        intro cap W4 hown4 hb4
        have HB4 := hid (HB3.out.trans (hb4.mono HB3.out.size))
        have HO4 := hid hown4
        clear hown4 hb4
        go_wp2_with fail
        go_roundw
        case rel => exact ⟨k + 1, by omega, by go_num, .inr ⟨_, _, cap, rfl, by rw [HU.out, ← HTD.out]; exact HO4.out⟩, HB4⟩
        case measure => simp [intOf]; omega
      · have HOWN := hid hown
        have hbn : bn ≤ 20000 := by have := hown.len; omega
        clear hown HD hzk
        go_wp2_with fail
        refine (HTG2.out _).mono ?_
        rintro e W3 ⟨rfl, hb⟩
        have HB3 := hid ((alloc_below HB.out HB.out.size _).trans (hb.mono (alloc_below HB.out HB.out.size _).size))
        have HO3 := hid ((HOWN.out.alloc _).below hb (Nat.le_refl _))
        have HSR : Hid (Src Tryz.prog 1 9 (.string TG) m (bvs tg) W3) := by
          have := src_text W3 TG
          rw [HTS.out, HTD.out] at this
          exact this
        clear hb k1 k2
        go_wp2_with (first
          | (refine wpList_own rfl _ _ 9 rfl w.heap.size g bn cap m (bodyH (l.take k)) tg (.string TG) rfl rfl HO3.out HSR.out (by omega) HB3.out.size ?_)
          | fail)
        intro g2 cap2 W4 hown4 hg4 hor4
        have HB4 := hid (HO3.out.grown HB3.out HB3.out.size hg4)
        have HO4 := hid hown4
        clear hown4 hg4 hor4
        go_wp2_with fail
        go_roundw
        case rel => exact ⟨k + 1, by omega, by go_num, .inr ⟨_, _, cap2, rfl, by rw [HBT2.out]; exact HO4.out⟩, HB4⟩
        case measure => simp [intOf]; omega
    · have hi : ¬ (k : Int) < (n : Int) := by omega
      have HK : Hid (l.take k = l) := by
        show _ = _
        rw [show k = n from by omega, HALL.out]
      have HD2 : Hid (Down wr w.heap.size u5 (bodyH l)) := by have := HD.out; rw [HK.out] at this; exact this
      clear HD
      rcases HD2.out with ⟨rfl, ho⟩ | ⟨g, bn, cap, rfl, hown⟩
      · have HPZ : Hid (PR = [13, 10]) := by show _ = _; rw [HPR.out, ho]; rfl
        obtain rfl : sz = 2 := by rw [HLZ.out, ho]; rfl
        clear ho HD2 HLZ
        go_wp2_with (first
          | (refine wpList_app_nil rfl _ _ rfl w.heap.size 2 ⟨#[13, 10]⟩ rfl rfl rfl (by omega) (by omega) HB.out.size ?_)
          | fail)
        intro cap W4 hown4 hb4
        have HB4 := hid (HB.out.trans (hb4.mono HB.out.size))
        have HO4 := hid hown4
        clear hown4 hb4
        go_wp2_with fail
        go_ret2
        exact ⟨_, cap, rfl, by rw [HPZ.out]; exact HO4.out, HB4.out⟩
      · have HOWN := hid hown
        obtain rfl : sz = bn + 2 := by rw [HLZ.out, hown.len]
        have hbn : bn ≤ 20000 := by omega
        have HSR : Hid (Src Tryz.prog 1 9 (.string ⟨#[13, 10]⟩) 2 (bvs [13, 10]) wr) := src_text wr ⟨#[13, 10]⟩
        clear hown HD2 HLZ
        go_wp2_with (first
          | (refine wpList_own rfl _ _ 9 rfl w.heap.size g bn cap 2 (bodyH l) [13, 10] (.string ⟨#[13, 10]⟩) rfl rfl HOWN.out HSR.out (by omega) HB.out.size ?_)
          | fail)
        intro g2 cap2 W4 hown4 hg4 hor4
        have HB4 := hid (HOWN.out.grown HB.out HB.out.size hg4)
        have HO4 := hid hown4
        clear hown4 hg4 hor4
        go_wp2_with fail
        go_ret2
        exact ⟨_, cap2, rfl, by rw [HPR.out]; exact HO4.out, HB4.out⟩
end Go.Proofs.YtclonnpglikddaaGreatDoor
