
/- The law UrlParses, walked. -/
import Derived.Test.YthodckhihghbfaaDoorUrMay
import Derived.Test.YthodckhihghbfaaDoorUrAwake
namespace Go.Proofs.YthodckhihghbfaaDoor
set_option linter.unusedVariables false
set_option linter.unusedSimpArgs false
open Go.RowKit Go.BigFrame
attribute [local go_sem ↓] loadU_eq

theorem eqZ (W : World) : (Op.equalIn 10000 23 (.agg (ucs zeroU)) (.agg #[.string ⟨#[]⟩, .string ⟨#[]⟩, .bool false, .string ⟨#[]⟩, .string ⟨#[]⟩, .bool false, .bool false, .string ⟨#[]⟩, .string ⟨#[]⟩, .bool false, .string ⟨#[]⟩, .bool false])).run Tryd.prog W = .ok true W := by
  have := eqU zeroU zeroU W
  rw [eqUV_self] at this
  exact this
theorem eqS (u : UrlV) (W : World) : (Op.equalIn 10000 23 (.agg (ucs u)) (.agg (ucs u))).run Tryd.prog W = .ok true W := by
  have := eqU u u W
  rw [eqUV_self] at this
  exact this
set_option maxHeartbeats 8000000 in
set_option maxRecDepth 100000 in
theorem parses_law (s : ByteArray) (w : World) (hT : TabS w) : Calls Tryd.prog 3 #[.string s] w fun e w' => e = .returned (.bool true) ∧ Below w.heap.size w w' := by
  have HAW := hid awake7
  have HT := hid hT
  have hsz := ba_len s
  have HPA := hid (fun W h => parseUrl_all s.data.toList W h)
  rw [asS_all] at HPA
  have HV : Hid (puV s.data.toList = if 2048 < s.data.toList.length then zeroU else (parseU s.data.toList).getD zeroU) := rfl
  have HE : Hid (puE s.data.toList = if 2048 < s.data.toList.length then 3 else if (parseU s.data.toList).isSome then 0 else 5) := rfl
  have hg := guardU
  have hz := eqZ
  clear hT
  by_cases hL : 2048 < s.data.toList.length
  · have e1 : puV s.data.toList = zeroU := by rw [HV.out, if_pos hL]
    have e2 : puE s.data.toList = 3 := by rw [HE.out, if_pos hL]
    rw [e1, e2] at HPA
    have hi : (2048 : Int) < (s.size : Int) := by omega
    clear e1 e2 HV HE hL hsz
    go_enter Tryd.func3, Tryd.ntmps3
    go_wp2_with fail
    refine (HPA.out _ HT.out).mono ?_
    rintro e W1 ⟨rfl, hb1⟩
    have HB1 := hid hb1
    clear hb1
    go_wp2_with (first
      | (refine store_url rfl _ _ rfl W1.heap.size zeroU rfl rfl _ (heap_alloc_new W1 _) rfl ?_)
      | fail)
    intro W2 hO2 hW2
    have HB2 : Hid (Below w.heap.size w W2) := (alloc_below HB1.out HB1.out.size _).trans (hO2.below HB1.out.size)
    have l2 := loadU_row hW2
    clear hO2 hW2
    generalize ucs zeroU = ZZ at l2 hz ⊢
    go_wp2_with fail
    refine (HAW.out _ (HT.out.below HB2.out)).mono ?_
    rintro e W3 ⟨rfl, hb3⟩
    have HB3 := hid (HB2.out.trans (hb3.mono HB2.out.size))
    clear hb3 l2 hz hg
    go_wp2_with fail
    go_ret
    exact ⟨rfl, HB3.out⟩
  · have hi : ¬ (2048 : Int) < (s.size : Int) := by omega
    have HRP := hid (fun W => refParse7_any s.data.toList (by omega) W)
    rw [asS_all] at HRP
    rw [if_neg hL] at HV HE
    cases hp : parseU s.data.toList with
    | none =>
      rw [hp] at HV HE HRP
      have e1 : puV s.data.toList = zeroU := HV.out
      have e2 : puE s.data.toList = 5 := HE.out
      rw [e1, e2] at HPA
      have HRP2 : Hid (∀ W, Calls Tryd.prog 9 #[.string s] W fun e w' => e = .returned (.tuple #[.agg (ucs zeroU), .bool false]) ∧ Below W.heap.size W w') := HRP.out
      clear e1 e2 HV HE hL hp HRP hsz
      go_enter Tryd.func3, Tryd.ntmps3
      go_wp2_with fail
      refine (HPA.out _ HT.out).mono ?_
      rintro e W1 ⟨rfl, hb1⟩
      have HB1 := hid hb1
      clear hb1
      go_wp2_with (first
        | (refine store_url rfl _ _ rfl W1.heap.size zeroU rfl rfl _ (heap_alloc_new W1 _) rfl ?_)
        | fail)
      intro W2 hO2 hW2
      have HB2 : Hid (Below w.heap.size w W2) := (alloc_below HB1.out HB1.out.size _).trans (hO2.below HB1.out.size)
      have HR2 := hid hW2
      clear hO2 hW2
      go_wp2_with fail
      refine (HRP2.out _).mono ?_
      rintro e W3 ⟨rfl, hb3⟩
      have HR3 := hid (row_keep hb3 HR2.out)
      have HB3 := hid (HB2.out.trans (hb3.mono HB2.out.size))
      clear hb3
      go_wp2_with (first
        | (refine store_url rfl _ _ rfl W3.heap.size zeroU rfl rfl _ (heap_alloc_new W3 _) rfl ?_)
        | fail)
      intro W4 hO4 hW4
      have HB4 : Hid (Below w.heap.size w W4) := (alloc_below HB3.out HB3.out.size _).trans (hO4.below HB3.out.size)
      have l4 := loadU_row ((hO4.block _ (by have := row_lt HR3.out; omega)).trans ((Below.heap_alloc _ _ _ (row_lt HR3.out)).trans HR3.out))
      clear hO4 hW4
      generalize ucs zeroU = ZZ at l4 hz HR2 HR3 ⊢
      go_wp2_with fail
      refine (HAW.out _ (HT.out.below HB4.out)).mono ?_
      rintro e W5 ⟨rfl, hb5⟩
      have HB5 := hid (HB4.out.trans (hb5.mono HB4.out.size))
      clear hb5 l4 hz hg
      go_wp2_with fail
      go_ret
      exact ⟨rfl, HB5.out⟩
    | some u =>
      have hpr := pr_parse s.data.toList u hL hp
      have hln := parse_len s.data.toList u 100000 (by omega) hp
      rw [hp] at HV HE HRP
      have e1 : puV s.data.toList = u := HV.out
      have e2 : puE s.data.toList = 0 := HE.out
      rw [e1, e2] at HPA
      have HRP2 : Hid (∀ W, Calls Tryd.prog 9 #[.string s] W fun e w' => e = .returned (.tuple #[.agg (ucs u), .bool true]) ∧ Below W.heap.size W w') := HRP.out
      have HPR := hid (fun W h => print_any u hln W h)
      have e3 : prS u = s := by unfold prS; rw [hpr.1, if_pos rfl, hpr.2, asS_all]
      have e4 : prE u = 0 := by unfold prE; rw [hpr.1, if_pos rfl]
      rw [e3, e4] at HPR
      have hq := eqS u
      clear e1 e2 e3 e4 HV HE hL hp HRP hpr hln hz hsz
      go_enter Tryd.func3, Tryd.ntmps3
      go_wp2_with fail
      refine (HPA.out _ HT.out).mono ?_
      rintro e W1 ⟨rfl, hb1⟩
      have HB1 := hid hb1
      clear hb1
      go_wp2_with (first
        | (refine store_url rfl _ _ rfl W1.heap.size u rfl rfl _ (heap_alloc_new W1 _) rfl ?_)
        | fail)
      intro W2 hO2 hW2
      have HB2 : Hid (Below w.heap.size w W2) := (alloc_below HB1.out HB1.out.size _).trans (hO2.below HB1.out.size)
      have HR2 := hid hW2
      clear hO2 hW2
      go_wp2_with fail
      refine (HRP2.out _).mono ?_
      rintro e W3 ⟨rfl, hb3⟩
      have HR3 := hid (row_keep hb3 HR2.out)
      have HB3 := hid (HB2.out.trans (hb3.mono HB2.out.size))
      clear hb3
      go_wp2_with (first
        | (refine store_url rfl _ _ rfl W3.heap.size u rfl rfl _ (heap_alloc_new W3 _) rfl ?_)
        | fail)
      intro W4 hO4 hW4
      have HB4 : Hid (Below w.heap.size w W4) := (alloc_below HB3.out HB3.out.size _).trans (hO4.below HB3.out.size)
      have HV4 := hid hW4
      have HR4 := hid ((hO4.block _ (by have := row_lt HR3.out; omega)).trans ((Below.heap_alloc _ _ _ (row_lt HR3.out)).trans HR3.out))
      have l4 := loadU_row HR4.out
      clear hO4 hW4
      go_wp2_with fail
      refine (HPR.out _ (HT.out.below HB4.out)).mono ?_
      rintro e W5 ⟨rfl, hb5⟩
      have k1 := loadU_row (row_keep hb5 HR4.out)
      have k2 := loadU_row (row_keep hb5 HV4.out)
      have HB5 := hid (HB4.out.trans (hb5.mono HB4.out.size))
      clear hb5 l4
      generalize ucs u = UU at k1 k2 hq HR2 HR3 HV4 HR4 ⊢
      go_wp2_with fail
      refine (HAW.out _ (HT.out.below HB5.out)).mono ?_
      rintro e W6 ⟨rfl, hb6⟩
      have HB6 := hid (HB5.out.trans (hb6.mono HB5.out.size))
      clear hb6 k1 k2 hq hg
      go_wp2_with fail
      go_ret
      exact ⟨rfl, HB6.out⟩
end Go.Proofs.YthodckhihghbfaaDoor
