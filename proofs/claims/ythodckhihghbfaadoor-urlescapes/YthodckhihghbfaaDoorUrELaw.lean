
/- The law UrlEscapes, walked. -/
import Derived.Test.YthodckhihghbfaaDoorUrEsR
namespace Go.Proofs.YthodckhihghbfaaDoor
set_option linter.unusedVariables false
set_option linter.unusedSimpArgs false
open Go.RowKit Go.BigFrame

set_option maxHeartbeats 4000000 in
set_option maxRecDepth 100000 in
theorem escapes_law (s : ByteArray) (w : World) (hT : TabS w) : Calls Tryd.prog 5 #[.string s] w fun e w' => e = .returned (.bool true) ∧ Below w.heap.size w w' := by
  have HAW := hid awake7
  have HT := hid hT
  clear hT
  by_cases hs : (3000 : Int) < (s.size : Int)
  · go_enter Tryd.func5, Tryd.ntmps5
    go_wp2_with fail
    refine (HAW.out _ HT.out).mono ?_
    rintro e W1 ⟨rfl, hb1⟩
    go_wp2_with fail
    go_ret
    exact ⟨rfl, hb1⟩
  · have hl : s.data.toList.length ≤ 3000 := by rw [ba_len]; omega
    have hel := esc_len s.data.toList
    have HE := hid (fun W => escape_any s.data.toList (by omega) W)
    have HR := hid (fun W => refEscape_any s.data.toList (by omega) W)
    have HS := hid (fun W => refStands_any (escU s.data.toList) (by omega) W)
    have HU := hid (fun W => unescape_any (escU s.data.toList) (by omega) W)
    rw [stands_esc] at HS
    rw [unesc_esc] at HU
    have HU2 : Hid (∀ W, Calls Tryd.prog 16 #[.string (asS (escU s.data.toList))] W fun e w' => e = .returned (.tuple #[.string s, .int .i64 0]) ∧ Below W.heap.size W w') := fun W => by
      have := HU.out W
      rw [show (some s.data.toList).getD [] = s.data.toList from rfl, asS_all] at this
      exact this
    rw [asS_all] at HE HR
    generalize asS (escU s.data.toList) = T at HE HR HS HU2
    clear HU hl hel
    go_enter Tryd.func5, Tryd.ntmps5
    go_wp2_with fail
    refine (HE.out _).mono ?_
    rintro e W1 ⟨rfl, hb1⟩
    have HB1 := hid hb1
    clear hb1
    go_wp2_with fail
    refine (HU2.out _).mono ?_
    rintro e W2 ⟨rfl, hb2⟩
    have HB2 := hid (HB1.out.trans (hb2.mono HB1.out.size))
    clear hb2
    go_wp2_with fail
    refine (HR.out _).mono ?_
    rintro e W3 ⟨rfl, hb3⟩
    have HB3 := hid (HB2.out.trans (hb3.mono HB2.out.size))
    clear hb3
    go_wp2_with fail
    refine (HS.out _).mono ?_
    rintro e W4 ⟨rfl, hb4⟩
    have HB4 := hid (HB3.out.trans (hb4.mono HB3.out.size))
    clear hb4
    go_wp2_with fail
    refine (HAW.out _ (HT.out.below HB4.out)).mono ?_
    rintro e W5 ⟨rfl, hb5⟩
    have HB5 := hid (HB4.out.trans (hb5.mono HB4.out.size))
    clear hb5
    go_wp2_with fail
    go_ret
    exact ⟨rfl, HB5.out⟩
end Go.Proofs.YthodckhihghbfaaDoor
