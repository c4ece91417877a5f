
/- Which response any bytes begin with: the statement's walk. -/
import Derived.Test.YtclonnpglikddaaGreatDoorHtAw
import Derived.Test.YtclonnpglikddaaGreatDoorHtSame
import Derived.Test.YtclonnpglikddaaGreatDoorHtRPRes
import Derived.Test.YtclonnpglikddaaGreatDoorHtPRes
import Derived.OpenShut
namespace Go.Proofs.YtclonnpglikddaaGreatDoor
set_option linter.unusedVariables false
set_option linter.unusedSimpArgs false
open Go.RowKit Go.BigFrame

theorem resp_few (b : List UInt8) : (parseResp b).1.hds.length ≤ 1000000 := by
  have h := parse_few (b.drop (lineM b).2.1)
  unfold parseResp
  repeat (split <;> try (first | exact Nat.zero_le _ | (simp only; omega)))
set_option maxHeartbeats 2000000 in
set_option maxRecDepth 100000 in
theorem tells11_law (A : Option Addr) (len cap : Nat) (zs : List Int) (w : World) (h : IsRow .u8 w A len cap zs) (hT : TabC w) : Calls Tryz.prog 6 #[.slice A len cap] w fun e w' => e = .returned (.bool true) ∧ Below w.heap.size w w' := by
  obtain ⟨l, rfl, hcap, hA⟩ := row_at h (Nat.lt_of_le_of_lt (Nat.zero_le _) hT.big)
  have HT := hid hT
  have HAW := hid (fun W hW => awake11 W hW)
  clear h
  by_cases hl : 45000 < l.length
  · have h1 : (45000 : Int) < (l.length : Int) := by omega
    generalize l.length = n at h1 ⊢
    clear hl hcap hA
    go_enter Tryz.func6, Tryz.ntmps6
    go_wp2_with fail
    refine (HAW.out _ HT.out).mono ?_
    rintro e W ⟨rfl, hb⟩
    have HB := hid hb
    clear hb
    go_wp2_with fail
    go_ret
    exact ⟨rfl, HB.out⟩
  · have h1 : ¬ (45000 : Int) < (l.length : Int) := by omega
    have HA := hid hA
    have HP := hid (fun X c h W hW hX => parseRes_any l X c (by omega) h W hW hX)
    have HR := hid (fun W hX => refParseRes_any l A cap (by omega) hcap W hX)
    have HSR : Hid (∀ W, Below w.heap.size w W → Src Tryz.prog 1 23 (.slice A l.length cap) l.length (bvs l) W) := fun W hb => src_bytes (hA.below hb (Nat.le_refl _)) cap (fun _ => opt_any A)
    have hfew := resp_few l
    obtain ⟨P1, hP1⟩ : ∃ P1, P1 = parseResp l := ⟨_, rfl⟩
    rw [← hP1] at HP HR hfew
    generalize hn : l.length = n at h1 HP HR HSR ⊢
    have hn2 : n ≤ 45000 := by omega
    clear hl hcap hA hT hP1 hn
    obtain ⟨p1, p2, p3⟩ := P1
    simp only at HP HR hfew
    have HSA := hid (fun vh1 vb1 vh2 vb2 W g1 g2 g3 g4 => sameRes_any p1.status (asS p1.reason) p1.hds p1.body vh1 vb1 vh2 vb2 hfew W g1 g2 g3 g4)
    generalize p1.status = SM at HP HR HSA
    generalize asS p1.reason = ST at HP HR HSA
    clear hfew
    go_enter Tryz.func6, Tryz.ntmps6
    have HB0 := hid (alloc_below (Below.refl w.heap.size w) (Nat.le_refl _) (.cells #[] 5))
    go_wp2_with (first
      | (refine wpList_fresh rfl _ _ 23 rfl w.heap.size n l _ rfl rfl (HSR.out _ HB0.out) (by omega) ?_)
      | fail)
    intro X c1 W1 hX hc1 hb1
    have HX := hid hX
    have HB1 := hid (HB0.out.trans (hb1.mono (by omega)))
    have HC1 := hid hc1
    clear hX hb1 hc1
    go_wp2_with fail
    refine (HP.out X c1 HC1.out _ (HT.out.below HB1.out) HX.out).mono ?_
    rintro e W2 ⟨vh, vb, rfl, hh2, hbv2, hb2⟩
    have hsh : ∃ A1 d1, vh = .slice A1 p1.hds.length d1 := by obtain ⟨A1, d1, e1, _⟩ := hh2; exact ⟨A1, d1, e1⟩
    have hsb : ∃ A1 d1, vb = .slice A1 p1.body.length d1 := by obtain ⟨A1, d1, e1, _⟩ := hbv2; exact ⟨A1, d1, e1⟩
    obtain ⟨AH, dH, rfl⟩ := hsh
    obtain ⟨AB, dB, rfl⟩ := hsb
    have HB2 := hid (HB1.out.trans (hb2.mono HB1.out.size))
    generalize hLH : p1.hds.length = lh at hh2 ⊢
    generalize hLB : p1.body.length = lb at hbv2 ⊢
    have HLH := hid hLH
    have HLB := hid hLB
    have HR2 := hid (heap_alloc_new W2 (.cells #[.int .i64 SM, .string ST, .slice AH lh dH, .slice AB lb dB] 40))
    have HW3 := hid (alloc_below (Below.refl W2.heap.size W2) (Nat.le_refl _) (.cells #[.int .i64 SM, .string ST, .slice AH lh dH, .slice AB lb dB] 40))
    have HB3 := hid (HB2.out.trans (HW3.out.mono HB2.out.size))
    have HH3 := hid (hh2.below HW3.out)
    have HV3 := hid (hbv2.below HW3.out)
    clear hb2 hh2 hbv2 hLH hLB
    go_wp2_with fail
    refine (HR.out _ (HA.out.below HB3.out (Nat.le_refl _))).mono ?_
    rintro e W4 ⟨vh4, vb4, rfl, hh4, hbv4, hb4⟩
    have hsh : ∃ A1 d1, vh4 = .slice A1 p1.hds.length d1 := by obtain ⟨A1, d1, e1, _⟩ := hh4; exact ⟨A1, d1, e1⟩
    have hsb : ∃ A1 d1, vb4 = .slice A1 p1.body.length d1 := by obtain ⟨A1, d1, e1, _⟩ := hbv4; exact ⟨A1, d1, e1⟩
    obtain ⟨AH4, dH4, rfl⟩ := hsh
    obtain ⟨AB4, dB4, rfl⟩ := hsb
    rw [HLH.out] at hh4 ⊢
    rw [HLB.out] at hbv4 ⊢
    have HR4 := hid (row_keep hb4 HR2.out)
    have HB4 := hid (HB3.out.trans (hb4.mono HB3.out.size))
    have HS4 := hid (heap_alloc_new W4 (.cells #[.int .i64 SM, .string ST, .slice AH4 lh dH4, .slice AB4 lb dB4] 40))
    have HW5 := hid (alloc_below (Below.refl W4.heap.size W4) (Nat.le_refl _) (.cells #[.int .i64 SM, .string ST, .slice AH4 lh dH4, .slice AB4 lb dB4] 40))
    have HB5 := hid (HB4.out.trans (HW5.out.mono HB4.out.size))
    have HR5 := hid (row_keep HW5.out HR4.out)
    have HH5 := hid ((HH3.out.below hb4).below HW5.out)
    have HV5 := hid ((HV3.out.below hb4).below HW5.out)
    have HH6 := hid (hh4.below HW5.out)
    have HV6 := hid (hbv4.below HW5.out)
    clear hb4 hh4 hbv4 HR4 HR2
    have HSQ := hid (HSA.out _ _ _ _ _ HH5.out HH6.out HV5.out HV6.out)
    go_wp2_with (first
      | (refine load_msg rfl _ rfl W2.heap.size _ rfl (load40 HR5.out rfl) ?_)
      | (refine load_msg rfl _ rfl W4.heap.size _ rfl (load40 HS4.out rfl) ?_)
      | fail)
    refine HSQ.out.mono ?_
    rintro e W6 ⟨rfl, hb6⟩
    have HB6 := hid (HB5.out.trans (hb6.mono HB5.out.size))
    clear hb6 HSQ
    go_wp2_with fail
    refine (HAW.out _ (HT.out.below HB6.out)).mono ?_
    rintro e W7 ⟨rfl, hb7⟩
    have HB7 := hid (HB6.out.trans (hb7.mono HB6.out.size))
    clear hb7
    go_wp2_with fail
    go_ret
    exact ⟨rfl, HB7.out⟩
end Go.Proofs.YtclonnpglikddaaGreatDoor
