
/- The law IpParses, walked. -/
import Derived.Test.YtggjblnbjigjmaaDoorIpRefP
import Derived.Test.YtggjblnbjigjmaaDoorIpLLaw
namespace Go.Proofs.YtggjblnbjigjmaaDoor
open Go.RowKit
attribute [local go_sem ↓] loadA_eq

set_option maxHeartbeats 2000000 in
theorem parses_any (s : ByteArray) (w : World) (hT : TabS w) : Calls Tryd.prog 3 #[.string s] w fun e w' => e = .returned (.bool true) ∧ Below w.heap.size w w' := by
  have HT := hid hT
  clear hT
  have HAW := hid (fun W h => awake_any W h)
  by_cases hbig : (300 : Int) < (s.size : Int)
  · go_enter Tryd.func3, Tryd.ntmps3
    go_wp2_with fail
    refine (HAW.out _ HT.out).mono ?_
    rintro e W1 ⟨rfl, hb1⟩
    go_wp2_with fail
    go_ret
    exact ⟨rfl, hb1⟩
  have hs : s.size ≤ 1000000 := by omega
  have HLo := hid (fun W h => parse_any s hs W h)
  have HRe := hid (fun W => refParse_any s hs W)
  have HBL := hid (paB_len s.data.toList)
  have hg := guardA
  cases hl : parseA s.data.toList with
  | none =>
    rw [hl] at HLo HRe
    clear hl HBL
    have HLo' : Hid (∀ W, TabS W → Calls Tryd.prog 9 #[.string s] W fun e w' => e = .returned (.tuple #[.agg (acs false (zer 16)), .int .i64 5]) ∧ Below W.heap.size W w') := HLo
    have HRe' : Hid (∀ W, Calls Tryd.prog 10 #[.string s] W fun e w' => e = .returned (.tuple #[.agg (acs false (zer 16)), .bool false]) ∧ Below W.heap.size W w') := HRe
    have hq : ∀ W, (Op.equalIn 10000 25 (.agg (acs false (zer 16))) (.agg #[.bool false, .int .u8 0, .int .u8 0, .int .u8 0, .int .u8 0, .int .u8 0, .int .u8 0, .int .u8 0, .int .u8 0, .int .u8 0, .int .u8 0, .int .u8 0, .int .u8 0, .int .u8 0, .int .u8 0, .int .u8 0, .int .u8 0])).run Tryd.prog W = .ok true W := fun W => by
      rw [eqZ false (zer 16) rfl W, decide_eq_true ⟨rfl, rfl⟩]
    have HZL : Hid ((zer 16).length = 16) := rfl
    clear HLo HRe
    generalize zer 16 = Z at HLo' HRe' hq HZL
    go_enter Tryd.func3, Tryd.ntmps3
    go_wp2_with fail
    refine (HLo'.out _ HT.out).mono ?_
    rintro e W1 ⟨rfl, hb1⟩
    have HB1 := hid hb1
    clear hb1
    go_wp2_with (first
      | (refine store_addr rfl _ _ rfl W1.heap.size false Z HZL.out rfl rfl _ (heap_alloc_new W1 _) rfl ?_)
      | fail)
    intro W2 hO2 hW2
    have HW2 := hid hW2
    have HB2 : Hid (Below W1.heap.size W1 W2) := (alloc_below (Below.refl _ W1) (Nat.le_refl _) _).trans (hO2.below (Nat.le_refl _))
    have hz2 : W1.heap.size < W2.heap.size := by rw [hO2.size]; simp
    clear hW2 hO2
    go_wp2_with fail
    refine (HRe'.out _).mono ?_
    rintro e W3 ⟨rfl, hb3⟩
    have HW3 : Hid (W3.heap[W1.heap.size]? = some (.cells (acs false Z) 25 (0, 0))) := (hb3.block _ hz2).trans HW2.out
    have HB3 : Hid (Below w.heap.size w W3) := (HB1.out.trans (HB2.out.mono HB1.out.size)).trans (hb3.mono (Nat.le_trans HB1.out.size HB2.out.size))
    have hz3 : W1.heap.size < W3.heap.size := Nat.lt_of_lt_of_le hz2 hb3.size
    clear hb3
    go_wp2_with (first
      | (refine store_addr rfl _ _ rfl W3.heap.size false Z HZL.out rfl rfl _ (heap_alloc_new W3 _) rfl ?_)
      | fail)
    intro W4 hO4 hW4
    have hl4 := loadA_row HZL.out ((hO4.block _ (by omega)).trans ((Below.heap_alloc _ _ _ hz3).trans HW3.out))
    have hl4b := loadA_row HZL.out hW4
    have HB4 : Hid (Below w.heap.size w W4) := (alloc_below HB3.out HB3.out.size _).trans (hO4.below HB3.out.size)
    have HT4 : Hid (TabS W4) := HT.out.below HB4.out
    clear hO4 hW4
    go_wp2_with fail
    refine (HAW.out _ HT4.out).mono ?_
    rintro e W5 ⟨rfl, hb5⟩
    go_wp2_with fail
    go_ret
    exact ⟨rfl, HB4.out.trans (hb5.mono HB4.out.size)⟩
  | some r =>
    obtain ⟨v, B⟩ := r
    rw [hl] at HLo HRe HBL
    have HBL' : Hid (B.length = 16) := HBL
    have HLo' : Hid (∀ W, TabS W → Calls Tryd.prog 9 #[.string s] W fun e w' => e = .returned (.tuple #[.agg (acs v B), .int .i64 0]) ∧ Below W.heap.size W w') := HLo
    have HRe' : Hid (∀ W, Calls Tryd.prog 10 #[.string s] W fun e w' => e = .returned (.tuple #[.agg (acs v B), .bool true]) ∧ Below W.heap.size W w') := HRe
    have hq : ∀ W, (Op.equalIn 10000 25 (.agg (acs v B)) (.agg (acs v B))).run Tryd.prog W = .ok true W := fun W => eqSame v B HBL'.out W
    clear HLo HRe hl HBL
    go_enter Tryd.func3, Tryd.ntmps3
    go_wp2_with fail
    refine (HLo'.out _ HT.out).mono ?_
    rintro e W1 ⟨rfl, hb1⟩
    have HB1 := hid hb1
    clear hb1
    go_wp2_with (first
      | (refine store_addr rfl _ _ rfl W1.heap.size v B HBL'.out rfl rfl _ (heap_alloc_new W1 _) rfl ?_)
      | fail)
    intro W2 hO2 hW2
    have HW2 := hid hW2
    have HB2 : Hid (Below W1.heap.size W1 W2) := (alloc_below (Below.refl _ W1) (Nat.le_refl _) _).trans (hO2.below (Nat.le_refl _))
    have hz2 : W1.heap.size < W2.heap.size := by rw [hO2.size]; simp
    clear hW2 hO2
    go_wp2_with fail
    refine (HRe'.out _).mono ?_
    rintro e W3 ⟨rfl, hb3⟩
    have HW3 : Hid (W3.heap[W1.heap.size]? = some (.cells (acs v B) 25 (0, 0))) := (hb3.block _ hz2).trans HW2.out
    have HB3 : Hid (Below w.heap.size w W3) := (HB1.out.trans (HB2.out.mono HB1.out.size)).trans (hb3.mono (Nat.le_trans HB1.out.size HB2.out.size))
    have hz3 : W1.heap.size < W3.heap.size := Nat.lt_of_lt_of_le hz2 hb3.size
    clear hb3
    go_wp2_with (first
      | (refine store_addr rfl _ _ rfl W3.heap.size v B HBL'.out rfl rfl _ (heap_alloc_new W3 _) rfl ?_)
      | fail)
    intro W4 hO4 hW4
    have hl4 := loadA_row HBL'.out ((hO4.block _ (by omega)).trans ((Below.heap_alloc _ _ _ hz3).trans HW3.out))
    have hl4b := loadA_row HBL'.out hW4
    have HB4 : Hid (Below w.heap.size w W4) := (alloc_below HB3.out HB3.out.size _).trans (hO4.below HB3.out.size)
    have HT4 : Hid (TabS W4) := HT.out.below HB4.out
    clear hO4 hW4
    go_wp2_with fail
    refine (HAW.out _ HT4.out).mono ?_
    rintro e W5 ⟨rfl, hb5⟩
    go_wp2_with fail
    go_ret
    exact ⟨rfl, HB4.out.trans (hb5.mono HB4.out.size)⟩
end Go.Proofs.YtggjblnbjigjmaaDoor
