
/- The law CidrParses, walked. -/
import Derived.Test.YtocdjgehjiolhaaDoorCiRPar
import Derived.Test.YtocdjgehjiolhaaDoorCiAwake
namespace Go.Proofs.YtocdjgehjiolhaaDoor
open Go.RowKit Go.BigFrame
set_option maxRecDepth 100000
attribute [local go_sem ↓] loadA_eq loadN_eq

theorem guardNP : Tryd.prog.eqGuardType Tryd.prog.depth 27 = false := by kernel_rfl
theorem eqNN (n : NetV) (h : n.B.length = 16) (W : World) : (Op.equalIn 10000 27 (.agg (ncs n)) (.agg (ncs n))).run Tryd.prog W = .ok true W := by
  have := eqN n n h h W
  rwa [eqNV_self] at this
theorem pn_len (l : List UInt8) : (pnN (parseN l)).B.length = 16 := by
  cases h : parseN l with
  | none => rfl
  | some p =>
    obtain ⟨v, B, k⟩ := p
    show B.length = 16
    rcases first_slash l with h2 | ⟨a, x, rfl, h2⟩
    · rw [cut_never l h2] at h; cases h
    · rw [cut_first a x h2] at h
      unfold readB at h
      cases ha : parseA a with
      | none => rw [ha] at h; cases h
      | some q =>
        obtain ⟨v', B'⟩ := q
        rw [ha] at h
        cases hb : bitsOf x with
        | none => rw [hb] at h; cases h
        | some k' =>
          rw [hb] at h
          simp only at h
          split at h
          · injection h with h
            injection h with h1 h3
            injection h3 with h3 h4
            rw [← h3]
            exact parseA_len a v' B' ha
          · cases h
set_option maxHeartbeats 4000000 in
theorem parses_law (s : ByteArray) (w : World) (hT : TabE w) : Calls Tryd.prog 3 #[.string s] w fun e w' => e = .returned (.bool true) ∧ Below w.heap.size w w' := by
  have HAW := hid awake6
  by_cases hs : (300 : Int) < (s.size : Int)
  · go_enter Tryd.func3, Tryd.ntmps3
    go_wp2_with fail
    refine (HAW.out _).mono ?_
    rintro e W1 ⟨rfl, hb1⟩
    go_wp2_with fail
    go_ret
    exact ⟨rfl, hb1⟩
  · have HP := hid (parseN_any s (by omega) w hT)
    have HR := hid (fun W => refParseN_any s (by omega) W)
    have HL := hid (pn_len s.data.toList)
    have HRA : Hid (∀ W e w', RAns s.data.toList W e w' → ∃ m : NetV, e = .returned (.tuple #[.agg (ncs m), .bool (parseN s.data.toList).isSome]) ∧ (∀ p, parseN s.data.toList = some p → m = pnN (some p)) ∧ m.B.length = 16 ∧ Below W.heap.size W w') := fun W e w' h => h
    generalize parseN s.data.toList = o at HP HL HRA
    generalize RAns s.data.toList = RA at HR HRA
    have hg := guardNP
    clear hT
    go_enter Tryd.func3, Tryd.ntmps3
    go_wp2_with fail
    refine HP.out.mono ?_
    rintro e W1 ⟨rfl, hb1⟩
    have HB1 := hid hb1
    clear hb1
    obtain ⟨n, hn⟩ : ∃ n, n = pnN o := ⟨_, rfl⟩
    rw [← hn] at HL ⊢
    have HN := hid hn
    clear hn
    go_wp2_with (first
      | (refine store_net rfl _ _ rfl W1.heap.size n HL.out rfl rfl _ (heap_alloc_new W1 _) rfl ?_)
      | fail)
    intro W2 hO2 hW2
    have HB2 : Hid (Below w.heap.size w W2) := (alloc_below HB1.out HB1.out.size _).trans (hO2.below HB1.out.size)
    have HW2 := hid hW2
    have z2 : W1.heap.size < W2.heap.size := by rw [hO2.size]; simp
    clear hO2 hW2
    go_wp2_with fail
    refine (HR.out _).mono ?_
    intro e W3 hra
    obtain ⟨m, rfl, hm, hml, hb3⟩ := HRA.out _ _ _ hra
    have HB3 : Hid (Below w.heap.size w W3) := HB2.out.trans (hb3.mono HB2.out.size)
    have HW3 : Hid (W3.heap[W1.heap.size]? = some (.cells (ncs n) 27 (0, 0))) := (hb3.block _ z2).trans HW2.out
    have z3 : W1.heap.size < W3.heap.size := Nat.lt_of_lt_of_le z2 hb3.size
    have HM := hid hm
    have HML := hid hml
    clear hra hm hml hb3
    go_wp2_with (first
      | (refine store_net rfl _ _ rfl W3.heap.size m HML.out rfl rfl _ (heap_alloc_new W3 _) rfl ?_)
      | fail)
    intro W4 hO4 hW4
    have HB4 : Hid (Below w.heap.size w W4) := (alloc_below HB3.out HB3.out.size _).trans (hO4.below HB3.out.size)
    have l1 := loadN_row HL.out ((hO4.block _ (by omega)).trans ((Below.heap_alloc _ _ _ z3).trans HW3.out))
    have l2 := loadN_row HML.out hW4
    clear hO4 hW4
    cases o with
    | none =>
      obtain rfl : n = ⟨false, zer 16, 0⟩ := HN.out
      have q1 : ∀ W, (Op.equalIn 10000 27 (.agg (ncs ⟨false, zer 16, 0⟩)) (.agg #[.bool false, .int .u8 0, .int .u8 0, .int .u8 0, .int .u8 0, .int .u8 0, .int .u8 0, .int .u8 0, .int .u8 0, .int .u8 0, .int .u8 0, .int .u8 0, .int .u8 0, .int .u8 0, .int .u8 0, .int .u8 0, .int .u8 0, .int .i64 0])).run Tryd.prog W = .ok true W := eqNN ⟨false, zer 16, 0⟩ rfl
      generalize ncs ⟨false, zer 16, 0⟩ = ZZ at q1 l1 HW2 HW3 ⊢
      clear l2
      go_wp2_with fail
      refine (HAW.out _).mono ?_
      rintro e W5 ⟨rfl, hb5⟩
      clear l1 q1 hg
      go_wp2_with fail
      go_ret
      exact ⟨rfl, HB4.out.trans (hb5.mono HB4.out.size)⟩
    | some p =>
      obtain rfl : m = n := (HM.out p rfl).trans HN.out.symm
      have q1 := eqNN m HML.out
      go_wp2_with fail
      refine (HAW.out _).mono ?_
      rintro e W5 ⟨rfl, hb5⟩
      clear l1 l2 q1 hg
      go_wp2_with fail
      go_ret
      exact ⟨rfl, HB4.out.trans (hb5.mono HB4.out.size)⟩
end Go.Proofs.YtocdjgehjiolhaaDoor
