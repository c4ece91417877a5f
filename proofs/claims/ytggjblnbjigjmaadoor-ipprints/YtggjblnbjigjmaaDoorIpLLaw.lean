
/- The law IpLooses, walked. -/
import Derived.Test.YtggjblnbjigjmaaDoorIpRefLo
namespace Go.Proofs.YtggjblnbjigjmaaDoor
open Go.RowKit

theorem loose_len (l B : List UInt8) (h : looseA l = some B) : B.length = 16 := by
  rw [loose_parts] at h
  split at h
  · cases h
  · cases hA : accL (cutK 46 4 (trimDot l)) (cutK 46 4 (trimDot l)).length with
    | none => rw [hA] at h; cases h
    | some A => rw [hA] at h; cases h; exact v4B_len A
theorem eqZ (v : Bool) (B : List UInt8) (hB : B.length = 16) (W : World) : (Op.equalIn 10000 25 (.agg (acs v B)) (.agg #[.bool false, .int .u8 0, .int .u8 0, .int .u8 0, .int .u8 0, .int .u8 0, .int .u8 0, .int .u8 0, .int .u8 0, .int .u8 0, .int .u8 0, .int .u8 0, .int .u8 0, .int .u8 0, .int .u8 0, .int .u8 0, .int .u8 0])).run Tryd.prog W = .ok (decide (v = false ∧ B = zer 16)) W :=
  eqA v false B (zer 16) hB rfl W
theorem eqSame (v : Bool) (B : List UInt8) (hB : B.length = 16) (W : World) : (Op.equalIn 10000 25 (.agg (acs v B)) (.agg (acs v B))).run Tryd.prog W = .ok true W := by
  rw [eqA v v B B hB hB W, decide_eq_true ⟨rfl, rfl⟩]
attribute [local go_sem ↓] loadA_eq

set_option maxHeartbeats 2000000 in
theorem looses_any (s : ByteArray) (w : World) (hT : TabS w) : Calls Tryd.prog 4 #[.string s] w fun e w' => e = .returned (.bool true) ∧ Below w.heap.size w w' := by
  have HT := hid hT
  clear hT
  have HAW := hid (fun W h => awake_any W h)
  by_cases hbig : (300 : Int) < (s.size : Int)
  · go_enter Tryd.func4, Tryd.ntmps4
    go_wp2_with fail
    refine (HAW.out _ HT.out).mono ?_
    rintro e W1 ⟨rfl, hb1⟩
    go_wp2_with fail
    go_ret
    exact ⟨rfl, hb1⟩
  have hs : s.size ≤ 1000000 := by omega
  have HLo := hid (fun W h => loose_any s hs W h)
  have HRe := hid (fun W => refLoose_any s hs W)
  have hg := guardA
  cases hl : looseA s.data.toList with
  | none =>
    rw [hl] at HLo HRe
    clear hl
    have HLo' : Hid (∀ W, TabS W → Calls Tryd.prog 11 #[.string s] W fun e w' => e = .returned (.tuple #[.agg (acs false (zer 16)), .int .i64 5]) ∧ Below W.heap.size W w') := HLo
    have HRe' : Hid (∀ W, Calls Tryd.prog 12 #[.string s] W fun e w' => e = .returned (.tuple #[.agg (acs false (zer 16)), .bool false]) ∧ Below W.heap.size W w') := HRe
    have hq : ∀ W, (Op.equalIn 10000 25 (.agg (acs false (zer 16))) (.agg #[.bool false, .int .u8 0, .int .u8 0, .int .u8 0, .int .u8 0, .int .u8 0, .int .u8 0, .int .u8 0, .int .u8 0, .int .u8 0, .int .u8 0, .int .u8 0, .int .u8 0, .int .u8 0, .int .u8 0, .int .u8 0, .int .u8 0])).run Tryd.prog W = .ok true W := fun W => by
      rw [eqZ false (zer 16) rfl W, decide_eq_true ⟨rfl, rfl⟩]
    have HZL : Hid ((zer 16).length = 16) := rfl
    clear HLo HRe
    generalize zer 16 = Z at HLo' HRe' hq HZL
    go_enter Tryd.func4, Tryd.ntmps4
    go_wp2_with fail
    refine (HLo'.out _ HT.out).mono ?_
    rintro e W1 ⟨rfl, hb1⟩
    have HB1 := hid hb1
    clear hb1
    go_wp2_with (first
      | (refine store_addr rfl _ _ rfl W1.heap.size false Z HZL.out rfl rfl _ (heap_alloc_new W1 _) rfl ?_)
      | fail)
    intro W2 hO2 hW2
    have HW2 := hid hW2
    have HB2 : Hid (Below W1.heap.size W1 W2) := (alloc_below (Below.refl _ W1) (Nat.le_refl _) _).trans (hO2.below (Nat.le_refl _))
    have hz2 : W1.heap.size < W2.heap.size := by rw [hO2.size]; simp
    clear hW2 hO2
    go_wp2_with fail
    refine (HRe'.out _).mono ?_
    rintro e W3 ⟨rfl, hb3⟩
    have HW3 : Hid (W3.heap[W1.heap.size]? = some (.cells (acs false Z) 25 (0, 0))) := (hb3.block _ hz2).trans HW2.out
    have HB3 : Hid (Below w.heap.size w W3) := (HB1.out.trans (HB2.out.mono HB1.out.size)).trans (hb3.mono (Nat.le_trans HB1.out.size HB2.out.size))
    have hz3 : W1.heap.size < W3.heap.size := Nat.lt_of_lt_of_le hz2 hb3.size
    clear hb3
    go_wp2_with (first
      | (refine store_addr rfl _ _ rfl W3.heap.size false Z HZL.out rfl rfl _ (heap_alloc_new W3 _) rfl ?_)
      | fail)
    intro W4 hO4 hW4
    have HW4 : Hid (W4.heap[W1.heap.size]? = some (.cells (acs false Z) 25 (0, 0))) := (hO4.block _ (by omega)).trans ((Below.heap_alloc _ _ _ hz3).trans HW3.out)
    have hl4 := loadA_row HZL.out HW4.out
    have HB4 : Hid (Below w.heap.size w W4) := (alloc_below HB3.out HB3.out.size _).trans (hO4.below HB3.out.size)
    have HT4 : Hid (TabS W4) := HT.out.below HB4.out
    clear hO4 hW4
    go_wp2_with fail
    refine (HAW.out _ HT4.out).mono ?_
    rintro e W5 ⟨rfl, hb5⟩
    go_wp2_with fail
    go_ret
    exact ⟨rfl, HB4.out.trans (hb5.mono HB4.out.size)⟩
  | some B =>
    have HBL := hid (loose_len _ B hl)
    have hno : (58 : UInt8) ∉ s.data.toList := fun h => by rw [loose_colon _ h] at hl; cases hl
    have HPa := hid (fun W h => parse_plain s hs hno W h)
    have HPR : Hid (∀ r, parseA s.data.toList = some r → r = (false, B)) := fun r h => loose_parse _ B r hl h
    rw [hl] at HLo HRe
    have HLo' : Hid (∀ W, TabS W → Calls Tryd.prog 11 #[.string s] W fun e w' => e = .returned (.tuple #[.agg (acs false B), .int .i64 0]) ∧ Below W.heap.size W w') := HLo
    have HRe' : Hid (∀ W, Calls Tryd.prog 12 #[.string s] W fun e w' => e = .returned (.tuple #[.agg (acs false B), .bool true]) ∧ Below W.heap.size W w') := HRe
    have hq : ∀ W, (Op.equalIn 10000 25 (.agg (acs false B)) (.agg (acs false B))).run Tryd.prog W = .ok true W := fun W => eqSame false B HBL.out W
    clear HLo HRe hl hno
    obtain ⟨o, ho⟩ : ∃ o, o = parseA s.data.toList := ⟨_, rfl⟩
    rw [← ho] at HPa HPR
    clear ho
    cases o with
    | none =>
      have HPa' : Hid (∀ W, TabS W → Calls Tryd.prog 9 #[.string s] W fun e w' => e = .returned (.tuple #[.agg (acs false (zer 16)), .int .i64 5]) ∧ Below W.heap.size W w') := HPa
      clear HPa HPR
      go_enter Tryd.func4, Tryd.ntmps4
      go_wp2_with fail
      refine (HLo'.out _ HT.out).mono ?_
      rintro e W1 ⟨rfl, hb1⟩
      have HB1 := hid hb1
      clear hb1
      go_wp2_with (first
        | (refine store_addr rfl _ _ rfl W1.heap.size false B HBL.out rfl rfl _ (heap_alloc_new W1 _) rfl ?_)
        | fail)
      intro W2 hO2 hW2
      have HW2 := hid hW2
      have HB2 : Hid (Below W1.heap.size W1 W2) := (alloc_below (Below.refl _ W1) (Nat.le_refl _) _).trans (hO2.below (Nat.le_refl _))
      have hz2 : W1.heap.size < W2.heap.size := by rw [hO2.size]; simp
      clear hW2 hO2
      go_wp2_with fail
      refine (HRe'.out _).mono ?_
      rintro e W3 ⟨rfl, hb3⟩
      have HW3 : Hid (W3.heap[W1.heap.size]? = some (.cells (acs false B) 25 (0, 0))) := (hb3.block _ hz2).trans HW2.out
      have HB3 : Hid (Below w.heap.size w W3) := (HB1.out.trans (HB2.out.mono HB1.out.size)).trans (hb3.mono (Nat.le_trans HB1.out.size HB2.out.size))
      have hz3 : W1.heap.size < W3.heap.size := Nat.lt_of_lt_of_le hz2 hb3.size
      clear hb3
      go_wp2_with (first
        | (refine store_addr rfl _ _ rfl W3.heap.size false B HBL.out rfl rfl _ (heap_alloc_new W3 _) rfl ?_)
        | fail)
      intro W4 hO4 hW4
      have HW4 : Hid (W4.heap[W1.heap.size]? = some (.cells (acs false B) 25 (0, 0))) := (hO4.block _ (by omega)).trans ((Below.heap_alloc _ _ _ hz3).trans HW3.out)
      have HW4b := hid hW4
      have hz4 : W3.heap.size < W4.heap.size := by rw [hO4.size]; simp
      have HB4 : Hid (Below w.heap.size w W4) := (alloc_below HB3.out HB3.out.size _).trans (hO4.below HB3.out.size)
      have HT4 : Hid (TabS W4) := HT.out.below HB4.out
      clear hO4 hW4
      go_wp2_with fail
      refine (HPa'.out _ HT4.out).mono ?_
      rintro e W5 ⟨rfl, hb5⟩
      have HW5 : Hid (W5.heap[W1.heap.size]? = some (.cells (acs false B) 25 (0, 0))) := (hb5.block _ (by omega)).trans HW4.out
      have HW5b : Hid (W5.heap[W3.heap.size]? = some (.cells (acs false B) 25 (0, 0))) := (hb5.block _ hz4).trans HW4b.out
      have HB5 : Hid (Below w.heap.size w W5) := HB4.out.trans (hb5.mono HB4.out.size)
      have hz5 : W3.heap.size < W5.heap.size := Nat.lt_of_lt_of_le hz4 hb5.size
      clear hb5
      go_wp2_with (first
        | (refine store_addr rfl _ _ rfl W5.heap.size false (zer 16) rfl rfl rfl _ (heap_alloc_new W5 _) rfl ?_)
        | fail)
      intro W6 hO6 hW6
      have hl6a := loadA_row HBL.out ((hO6.block _ (by omega)).trans ((Below.heap_alloc _ _ _ (by omega)).trans HW5.out))
      have hl6b := loadA_row HBL.out ((hO6.block _ (by omega)).trans ((Below.heap_alloc _ _ _ hz5).trans HW5b.out))
      have hl6c := loadA_row (B := zer 16) rfl hW6
      have HB6 : Hid (Below w.heap.size w W6) := (alloc_below HB5.out HB5.out.size _).trans (hO6.below HB5.out.size)
      have HT6 : Hid (TabS W6) := HT.out.below HB6.out
      clear hO6 hW6
      go_wp2_with fail
      refine (HAW.out _ HT6.out).mono ?_
      rintro e W7 ⟨rfl, hb7⟩
      go_wp2_with fail
      go_ret
      exact ⟨rfl, HB6.out.trans (hb7.mono HB6.out.size)⟩
    | some r =>
      obtain rfl := HPR.out r rfl
      have HPa' : Hid (∀ W, TabS W → Calls Tryd.prog 9 #[.string s] W fun e w' => e = .returned (.tuple #[.agg (acs false B), .int .i64 0]) ∧ Below W.heap.size W w') := HPa
      clear HPa HPR
      go_enter Tryd.func4, Tryd.ntmps4
      go_wp2_with fail
      refine (HLo'.out _ HT.out).mono ?_
      rintro e W1 ⟨rfl, hb1⟩
      have HB1 := hid hb1
      clear hb1
      go_wp2_with (first
        | (refine store_addr rfl _ _ rfl W1.heap.size false B HBL.out rfl rfl _ (heap_alloc_new W1 _) rfl ?_)
        | fail)
      intro W2 hO2 hW2
      have HW2 := hid hW2
      have HB2 : Hid (Below W1.heap.size W1 W2) := (alloc_below (Below.refl _ W1) (Nat.le_refl _) _).trans (hO2.below (Nat.le_refl _))
      have hz2 : W1.heap.size < W2.heap.size := by rw [hO2.size]; simp
      clear hW2 hO2
      go_wp2_with fail
      refine (HRe'.out _).mono ?_
      rintro e W3 ⟨rfl, hb3⟩
      have HW3 : Hid (W3.heap[W1.heap.size]? = some (.cells (acs false B) 25 (0, 0))) := (hb3.block _ hz2).trans HW2.out
      have HB3 : Hid (Below w.heap.size w W3) := (HB1.out.trans (HB2.out.mono HB1.out.size)).trans (hb3.mono (Nat.le_trans HB1.out.size HB2.out.size))
      have hz3 : W1.heap.size < W3.heap.size := Nat.lt_of_lt_of_le hz2 hb3.size
      clear hb3
      go_wp2_with (first
        | (refine store_addr rfl _ _ rfl W3.heap.size false B HBL.out rfl rfl _ (heap_alloc_new W3 _) rfl ?_)
        | fail)
      intro W4 hO4 hW4
      have HW4 : Hid (W4.heap[W1.heap.size]? = some (.cells (acs false B) 25 (0, 0))) := (hO4.block _ (by omega)).trans ((Below.heap_alloc _ _ _ hz3).trans HW3.out)
      have HW4b := hid hW4
      have hz4 : W3.heap.size < W4.heap.size := by rw [hO4.size]; simp
      have HB4 : Hid (Below w.heap.size w W4) := (alloc_below HB3.out HB3.out.size _).trans (hO4.below HB3.out.size)
      have HT4 : Hid (TabS W4) := HT.out.below HB4.out
      clear hO4 hW4
      go_wp2_with fail
      refine (HPa'.out _ HT4.out).mono ?_
      rintro e W5 ⟨rfl, hb5⟩
      have HW5 : Hid (W5.heap[W1.heap.size]? = some (.cells (acs false B) 25 (0, 0))) := (hb5.block _ (by omega)).trans HW4.out
      have HW5b : Hid (W5.heap[W3.heap.size]? = some (.cells (acs false B) 25 (0, 0))) := (hb5.block _ hz4).trans HW4b.out
      have HB5 : Hid (Below w.heap.size w W5) := HB4.out.trans (hb5.mono HB4.out.size)
      have hz5 : W3.heap.size < W5.heap.size := Nat.lt_of_lt_of_le hz4 hb5.size
      clear hb5
      go_wp2_with (first
        | (refine store_addr rfl _ _ rfl W5.heap.size false B HBL.out rfl rfl _ (heap_alloc_new W5 _) rfl ?_)
        | fail)
      intro W6 hO6 hW6
      have hl6a := loadA_row HBL.out ((hO6.block _ (by omega)).trans ((Below.heap_alloc _ _ _ (by omega)).trans HW5.out))
      have hl6b := loadA_row HBL.out ((hO6.block _ (by omega)).trans ((Below.heap_alloc _ _ _ hz5).trans HW5b.out))
      have hl6c := loadA_row HBL.out hW6
      have HB6 : Hid (Below w.heap.size w W6) := (alloc_below HB5.out HB5.out.size _).trans (hO6.below HB5.out.size)
      have HT6 : Hid (TabS W6) := HT.out.below HB6.out
      clear hO6 hW6
      go_wp2_with fail
      refine (HAW.out _ HT6.out).mono ?_
      rintro e W7 ⟨rfl, hb7⟩
      go_wp2_with fail
      go_ret
      exact ⟨rfl, HB6.out.trans (hb7.mono HB6.out.size)⟩
end Go.Proofs.YtggjblnbjigjmaaDoor
