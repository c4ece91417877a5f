
/- Which body in chunks any bytes begin with: the statement's walk. -/
import Derived.Test.YtlgfepaicgnkpaaDoorChRDec
import Derived.Test.YtlgfepaicgnkpaaDoorChAw
import Derived.OpenShut
namespace Go.Proofs.YtlgfepaicgnkpaaDoor
set_option linter.unusedVariables false
set_option linter.unusedSimpArgs false
open Go.RowKit Go.BigFrame

set_option maxHeartbeats 1000000 in
set_option maxRecDepth 100000 in
theorem decodes10_law (A : Option Addr) (len cap : Nat) (zs : List Int) (w : World) (h : IsRow .u8 w A len cap zs) (hT : TabC w) : Calls Tryd.prog 4 #[.slice A len cap] w fun e w' => e = .returned (.bool true) ∧ Below w.heap.size w w' := by
  obtain ⟨l, rfl, hcap, hA⟩ := row_at h (Nat.lt_of_le_of_lt (Nat.zero_le _) hT.four.lt)
  have HT := hid hT
  have HAW := hid (fun W hW => awake10 W hW)
  clear h
  by_cases hl : 40000 < l.length
  · have h1 : (40000 : Int) < (l.length : Int) := by omega
    generalize l.length = n at h1 ⊢
    clear hl hcap hA
    go_enter Tryd.func4, Tryd.ntmps4
    go_wp2_with fail
    refine (HAW.out _ HT.out).mono ?_
    rintro e W ⟨rfl, hb⟩
    have HB := hid hb
    clear hb
    go_wp2_with fail
    go_ret
    exact ⟨rfl, HB.out⟩
  · have h1 : ¬ (40000 : Int) < (l.length : Int) := by omega
    have HA := hid hA
    have HP := hid (fun X c h W hW hX => decode_any l X c (by omega) h W hW hX)
    have HR := hid (fun W hX => refDecode_any l A cap (by omega) hcap W hX)
    have HSR : Hid (∀ W, Below w.heap.size w W → Src Tryd.prog 1 23 (.slice A l.length cap) l.length (bvs l) W) := fun W hb => src_bytes (hA.below hb (Nat.le_refl _)) cap (fun _ => opt_any A)
    obtain ⟨P1, hP1⟩ : ∃ P1, P1 = decodeC l := ⟨_, rfl⟩
    rw [← hP1] at HP HR
    generalize hn : l.length = n at h1 HP HR HSR ⊢
    have hn2 : n ≤ 40000 := by omega
    clear hl hcap hA hT hP1 hn
    obtain ⟨p1, p2, p3⟩ := P1
    simp only at HP HR
    go_enter Tryd.func4, Tryd.ntmps4
    have HB0 := hid (alloc_below (Below.refl w.heap.size w) (Nat.le_refl _) (.cells #[] 5))
    go_wp2_with (first
      | (refine wpList_fresh rfl _ _ 23 rfl w.heap.size n l _ rfl rfl (HSR.out _ HB0.out) (by omega) ?_)
      | fail)
    intro X c1 W1 hX hc1 hb1
    have HX := hid hX
    have HB1 := hid (HB0.out.trans (hb1.mono (by omega)))
    have HC1 := hid hc1
    clear hX hb1 hc1
    go_wp2_with fail
    refine (HP.out X c1 HC1.out _ (HT.out.below HB1.out) HX.out).mono ?_
    rintro e W2 ⟨v1, rfl, hv1, hb2⟩
    have HB2 := hid (HB1.out.trans (hb2.mono HB1.out.size))
    have HV1 := hid hv1
    clear hb2 hv1
    go_wp2_with fail
    refine (HR.out _ (HA.out.below HB2.out (Nat.le_refl _))).mono ?_
    rintro e W3 ⟨v2, rfl, hv2, hb3⟩
    have HB3 := hid (HB2.out.trans (hb3.mono HB2.out.size))
    have hs1 := (HV1.out.below hb3).str
    have hs2 := hv2.str
    clear hb3 hv2 HV1
    generalize asS p1 = S1 at hs1 hs2
    go_wp2_with fail
    refine (HAW.out _ (HT.out.below HB3.out)).mono ?_
    rintro e W5 ⟨rfl, hb5⟩
    have HB5 := hid (HB3.out.trans (hb5.mono HB3.out.size))
    clear hb5
    go_wp2_with fail
    go_ret
    exact ⟨rfl, HB5.out⟩
end Go.Proofs.YtlgfepaicgnkpaaDoor
