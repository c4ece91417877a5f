
/- The law UrlUnescapes, walked. -/
import Derived.Test.YthodckhihghbfaaDoorUrUn
import Derived.Test.YthodckhihghbfaaDoorUrAwake
namespace Go.Proofs.YthodckhihghbfaaDoor
set_option linter.unusedVariables false
set_option linter.unusedSimpArgs false
open Go.RowKit Go.BigFrame

set_option maxHeartbeats 4000000 in
set_option maxRecDepth 100000 in
theorem unescapes_law (s : ByteArray) (w : World) (hT : TabS w) : Calls Tryd.prog 6 #[.string s] w fun e w' => e = .returned (.bool true) ∧ Below w.heap.size w w' := by
  have HAW := hid awake7
  have HT := hid hT
  clear hT
  by_cases hs : (3000 : Int) < (s.size : Int)
  · go_enter Tryd.func6, Tryd.ntmps6
    go_wp2_with fail
    refine (HAW.out _ HT.out).mono ?_
    rintro e W1 ⟨rfl, hb1⟩
    go_wp2_with fail
    go_ret
    exact ⟨rfl, hb1⟩
  · have HC := hid (fun W => unescape_any s.data.toList (by rw [ba_len]; omega) W)
    have HR := hid (fun W => refUnescape_any s.data.toList (by rw [ba_len]; omega) W)
    rw [asS_all] at HC HR
    generalize unescU s.data.toList = o at HC HR
    cases o with
    | none =>
      have HC2 : Hid (∀ W, Calls Tryd.prog 16 #[.string s] W fun e w' => e = .returned (.tuple #[.string ⟨#[]⟩, .int .i64 5]) ∧ Below W.heap.size W w') := HC.out
      have HR2 : Hid (∀ W, Calls Tryd.prog 19 #[.string s] W fun e w' => e = .returned (.tuple #[.string ⟨#[]⟩, .bool false]) ∧ Below W.heap.size W w') := HR.out
      clear HC HR
      go_enter Tryd.func6, Tryd.ntmps6
      go_wp2_with fail
      refine (HC2.out _).mono ?_
      rintro e W1 ⟨rfl, hb1⟩
      have HB1 := hid hb1
      clear hb1
      go_wp2_with fail
      refine (HR2.out _).mono ?_
      rintro e W2 ⟨rfl, hb2⟩
      have HB2 := hid (HB1.out.trans (hb2.mono HB1.out.size))
      clear hb2
      go_wp2_with fail
      refine (HAW.out _ (HT.out.below HB2.out)).mono ?_
      rintro e W3 ⟨rfl, hb3⟩
      have HB3 := hid (HB2.out.trans (hb3.mono HB2.out.size))
      clear hb3
      go_wp2_with fail
      go_ret
      exact ⟨rfl, HB3.out⟩
    | some y =>
      have HC2 : Hid (∀ W, Calls Tryd.prog 16 #[.string s] W fun e w' => e = .returned (.tuple #[.string (asS y), .int .i64 0]) ∧ Below W.heap.size W w') := HC.out
      have HR2 : Hid (∀ W, Calls Tryd.prog 19 #[.string s] W fun e w' => e = .returned (.tuple #[.string (asS y), .bool true]) ∧ Below W.heap.size W w') := HR.out
      generalize asS y = Y at HC2 HR2
      clear HC HR
      go_enter Tryd.func6, Tryd.ntmps6
      go_wp2_with fail
      refine (HC2.out _).mono ?_
      rintro e W1 ⟨rfl, hb1⟩
      have HB1 := hid hb1
      clear hb1
      go_wp2_with fail
      refine (HR2.out _).mono ?_
      rintro e W2 ⟨rfl, hb2⟩
      have HB2 := hid (HB1.out.trans (hb2.mono HB1.out.size))
      clear hb2
      go_wp2_with fail
      refine (HAW.out _ (HT.out.below HB2.out)).mono ?_
      rintro e W3 ⟨rfl, hb3⟩
      have HB3 := hid (HB2.out.trans (hb3.mono HB2.out.size))
      clear hb3
      go_wp2_with fail
      go_ret
      exact ⟨rfl, HB3.out⟩
end Go.Proofs.YthodckhihghbfaaDoor
