
/- The law IpPrints, walked. -/
import Derived.Test.YtggjblnbjigjmaaDoorIpRPr
import Derived.Test.YtggjblnbjigjmaaDoorIpPLaw
import Derived.Test.YtggjblnbjigjmaaDoorIpRMay
namespace Go.Proofs.YtggjblnbjigjmaaDoor
open Go.RowKit
attribute [local go_sem ↓] loadA_eq

theorem printA_len (v : Bool) (B : List UInt8) (hB : B.length = 16) : (printA v B).length ≤ 1000 := by
  have h1 : (lastB B).length ≤ 84 := by rw [← dotsTo_four]; exact dots_len B 4 (by omega)
  unfold printA
  split
  · omega
  · split
    · rw [List.length_append]
      have : FFFF.length = 7 := rfl
      omega
    · rw [← sTo_short _ _ _ (by rw [toG_len, hB]) (best_run _).1]
      exact Nat.le_trans (sTo_len _ _ _ 8) (by omega)
set_option maxHeartbeats 4000000 in
theorem prints_yes (v : Bool) (B : List UInt8) (hB : B.length = 16) (T : List UInt8) (hTl : T.length ≤ 1000) (hp : parseA T = some (v, B)) (w : World) (hT : TabP w)
    (hpr : ∀ W, TabP W → Calls Tryd.prog 13 #[.agg (acs v B)] W fun e w' => e = .returned (.tuple #[.string (asS T), .int .i64 0]) ∧ Below W.heap.size W w')
    (hmay : ∀ W, Calls Tryd.prog 14 #[.agg (acs v B)] W fun e w' => e = .returned (.bool true) ∧ Below W.heap.size W w')
    (hchk : ∀ W, Calls Tryd.prog 15 #[.agg (acs v B)] W fun e w' => e = .returned (.int .i64 0) ∧ Below W.heap.size W w')
    (hrp : ∀ W, Calls Tryd.prog 16 #[.agg (acs v B)] W fun e w' => e = .returned (.string (asS T)) ∧ Below W.heap.size W w') :
    Calls Tryd.prog 5 #[.agg (acs v B)] w fun e w' => e = .returned (.bool true) ∧ Below w.heap.size w w' := by
  have HPR := hid hpr; have HMAY := hid hmay; have HCHK := hid hchk; have HRP := hid hrp
  have HTA : Hid (∀ o, TabP (w.alloc o)) := fun o => alloc_tabP hT o
  have HPA := hid (fun W h => parse_any (asS T) (by rw [asS_size]; omega) W h)
  rw [asS_data, hp] at HPA
  have HPA' : Hid (∀ W, TabS W → Calls Tryd.prog 9 #[.string (asS T)] W fun e w' => e = .returned (.tuple #[.agg (acs v B), .int .i64 0]) ∧ Below W.heap.size W w') := HPA
  have hg := guardA
  have hq : ∀ W, (Op.equalIn 10000 25 (.agg (acs v B)) (.agg (acs v B))).run Tryd.prog W = .ok true W := fun W => eqSame v B hB W
  have hl0 := loadA_row hB (heap_alloc_new w (.cells (acs v B) 25))
  have HLX : Hid (∀ {W : World} {g : Nat}, W.heap[g]? = some (.cells (acs v B) 25 (0, 0)) → (loadI 25 (.pointer (some ⟨g, 0, none⟩))).run Tryd.prog W = .ok (.agg (acs v B)) W) := fun h => loadA_row hB h
  generalize asS T = S at HPR HRP HPA'
  clear hpr hmay hchk hrp hT HPA hp hTl
  go_enter Tryd.func5, Tryd.ntmps5
  go_wp2_with fail
  refine (HPR.out _ (HTA.out _)).mono ?_
  rintro e W1 ⟨rfl, hb1⟩
  have HR := hid (row1 hb1)
  have HT1 : Hid (TabP W1) := (HTA.out _).below hb1
  have hz1 : w.heap.size + 1 ≤ W1.heap.size := HR.out.2.2
  have hl1 := HLX.out HR.out.1
  clear hb1 hl0
  go_wp2_with fail
  refine (HMAY.out _).mono ?_
  rintro e W2 ⟨rfl, hb2⟩
  have HB2 := hid hb2
  clear hb2 hl1
  go_wp2_with fail
  refine (HPA'.out _ (HT1.out.below HB2.out).tab).mono ?_
  rintro e W3 ⟨rfl, hb3⟩
  have HB3 : Hid (Below W1.heap.size W1 W3) := HB2.out.trans (hb3.mono HB2.out.size)
  clear hb3
  go_wp2_with (first
    | (refine store_addr rfl _ _ rfl W3.heap.size v B hB rfl rfl _ (heap_alloc_new W3 _) rfl ?_)
    | fail)
  intro W4 hO4 hW4
  have hs3 := HB3.out.size
  have HB4 : Hid (Below W1.heap.size W1 W4) := (alloc_below HB3.out hs3 _).trans (hO4.below hs3)
  have HW4 := hid hW4
  have hz4 : W3.heap.size < W4.heap.size := by rw [hO4.size]; simp
  have HX4 : Hid (W4.heap[w.heap.size]? = some (.cells (acs v B) 25 (0, 0))) := (HB4.out.block _ (by omega)).trans HR.out.1
  have hl4 := HLX.out HX4.out
  clear hO4 hW4
  go_wp2_with fail
  refine (HCHK.out _).mono ?_
  rintro e W5 ⟨rfl, hb5⟩
  have hs5 := hb5.size
  have HX5 : Hid (W5.heap[w.heap.size]? = some (.cells (acs v B) 25 (0, 0))) := (hb5.block _ (by omega)).trans HX4.out
  have HW5 : Hid (W5.heap[W3.heap.size]? = some (.cells (acs v B) 25 (0, 0))) := (hb5.block _ hz4).trans HW4.out
  have HB5 : Hid (Below W1.heap.size W1 W5) := HB4.out.trans (hb5.mono HB4.out.size)
  have hl5 := HLX.out HX5.out
  clear hb5 hl4
  go_wp2_with fail
  refine (HRP.out _).mono ?_
  rintro e W6 ⟨rfl, hb6⟩
  have HX6 : Hid (W6.heap[w.heap.size]? = some (.cells (acs v B) 25 (0, 0))) := (hb6.block _ (by omega)).trans HX5.out
  have HW6 : Hid (W6.heap[W3.heap.size]? = some (.cells (acs v B) 25 (0, 0))) := (hb6.block _ (by omega)).trans HW5.out
  have HB6 : Hid (Below W1.heap.size W1 W6) := HB5.out.trans (hb6.mono HB5.out.size)
  have HT6 : Hid (TabP W6) := HT1.out.below HB6.out
  have hl6 := HLX.out HX6.out
  have hl7 := HLX.out HW6.out
  clear hb6 hl5
  go_wp2_with fail
  refine (awake_any _ HT6.out.tab).mono ?_
  rintro e W7 ⟨rfl, hb7⟩
  clear hl6 hl7 hq hg
  go_wp2_with fail
  go_ret
  exact ⟨rfl, HR.out.2.1.trans ((HB6.out.trans (hb7.mono HB6.out.size)).mono (by omega))⟩
set_option maxHeartbeats 4000000 in
theorem prints_no (B : List UInt8) (hB : B.length = 16) (hn : ¬ B = lastL B) (w : World) (hT : TabP w) :
    Calls Tryd.prog 5 #[.agg (acs false B)] w fun e w' => e = .returned (.bool true) ∧ Below w.heap.size w w' := by
  have HTA : Hid (∀ o, TabP (w.alloc o)) := fun o => alloc_tabP hT o
  have HPR : Hid (∀ W, TabS W → Calls Tryd.prog 13 #[.agg (acs false B)] W fun e w' => e = .returned (.tuple #[.string (asS []), .int .i64 1]) ∧ Below W.heap.size W w') := fun W h => print4_any B hB W h false (by simp [hn])
  have HMAY : Hid (∀ W, Calls Tryd.prog 14 #[.agg (acs false B)] W fun e w' => e = .returned (.bool false) ∧ Below W.heap.size W w') := fun W => by
    have := may_four B hB W
    rw [decide_eq_false (fun h => hn ((last_eq B hB).2 h))] at this
    exact this
  have HCHK : Hid (∀ W, Calls Tryd.prog 15 #[.agg (acs false B)] W fun e w' => e = .returned (.int .i64 1) ∧ Below W.heap.size W w') := fun W => check_four B hB W false (by simp [hn])
  have hl0 := loadA_row hB (heap_alloc_new w (.cells (acs false B) 25))
  have HLX : Hid (∀ {W : World} {g : Nat}, W.heap[g]? = some (.cells (acs false B) 25 (0, 0)) → (loadI 25 (.pointer (some ⟨g, 0, none⟩))).run Tryd.prog W = .ok (.agg (acs false B)) W) := fun h => loadA_row hB h
  clear hn hT
  have he : (asS []).toList.isEmpty = true := emp_asS []
  go_enter Tryd.func5, Tryd.ntmps5
  go_wp2_with fail
  refine (HPR.out _ (HTA.out _).tab).mono ?_
  rintro e W1 ⟨rfl, hb1⟩
  have HR := hid (row1 hb1)
  have HT1 : Hid (TabP W1) := (HTA.out _).below hb1
  have hz1 : w.heap.size + 1 ≤ W1.heap.size := HR.out.2.2
  have hl1 := HLX.out HR.out.1
  clear hb1 hl0
  go_wp2_with fail
  refine (HMAY.out _).mono ?_
  rintro e W2 ⟨rfl, hb2⟩
  have HB2 := hid hb2
  have HX2 : Hid (W2.heap[w.heap.size]? = some (.cells (acs false B) 25 (0, 0))) := (hb2.block _ (by omega)).trans HR.out.1
  have hl2 := HLX.out HX2.out
  clear hb2 hl1
  go_wp2_with fail
  refine (HCHK.out _).mono ?_
  rintro e W5 ⟨rfl, hb5⟩
  have HB5 : Hid (Below W1.heap.size W1 W5) := HB2.out.trans (hb5.mono HB2.out.size)
  have HT5 : Hid (TabP W5) := HT1.out.below HB5.out
  clear hb5 hl2
  go_wp2_with fail
  refine (awake_any _ HT5.out.tab).mono ?_
  rintro e W7 ⟨rfl, hb7⟩
  go_wp2_with fail
  go_ret
  exact ⟨rfl, HR.out.2.1.trans ((HB5.out.trans (hb7.mono HB5.out.size)).mono (by omega))⟩
theorem prints_any (v : Bool) (B : List UInt8) (hB : B.length = 16) (w : World) (hT : TabP w) :
    Calls Tryd.prog 5 #[.agg (acs v B)] w fun e w' => e = .returned (.bool true) ∧ Below w.heap.size w w' := by
  cases v with
  | true =>
    refine prints_yes true B hB (printA true B) (printA_len true B hB) (print_back true B hB rfl) w hT (fun W h => print6_any B hB W h) (fun W => may_six B W) (fun W => check_six B W) (fun W => ?_)
    by_cases hm : mappedB B = true
    · have e : printA true B = FFFF ++ lastB B := by unfold printA; rw [if_neg (by simp), if_pos hm]
      rw [e]; exact refPrintM B hB hm W
    · have hm' : mappedB B = false := by simpa using hm
      have e : printA true B = shortB (toG B) (best (toG B)).1 (best (toG B)).2 := by unfold printA; rw [if_neg (by simp), if_neg hm]
      rw [e]; exact refPrintS B hB hm' W
  | false =>
    by_cases hl : B = lastL B
    · have ht : B.take 12 = zer 12 := (last_eq B hB).1 hl
      have e : printA false B = lastB B := rfl
      refine prints_yes false B hB (printA false B) (printA_len false B hB) (print_back false B hB ?_) w hT (fun W h => ?_) (fun W => ?_) (fun W => ?_) (fun W => ?_)
      · unfold mayB
        rw [Bool.false_or]
        exact decide_eq_true ht
      · rw [e]; exact print4_any B hB W h.tab true (by simp [← hl])
      · have := may_four B hB W
        rw [decide_eq_true ht] at this
        exact this
      · exact check_four B hB W true (by simp [← hl])
      · rw [e]; exact refPrint4 B hB W
    · exact prints_no B hB hl w hT
end Go.Proofs.YtggjblnbjigjmaaDoor
