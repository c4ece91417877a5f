
/- The law CidrPrints, walked. -/
import Derived.Test.YtocdjgehjiolhaaGreatDoorCiPri
import Derived.Test.YtocdjgehjiolhaaGreatDoorCiAwake
namespace Go.Proofs.YtocdjgehjiolhaaGreatDoor
open Go.RowKit Go.BigFrame
set_option maxRecDepth 100000
attribute [local go_sem ↓] loadA_eq loadN_eq

theorem guardNZ : Tryz.prog.eqGuardType Tryz.prog.depth 26 = false := by kernel_rfl
theorem eqNZ (n : NetV) (h : n.B.length = 16) (W : World) : (Op.equalIn 10000 26 (.agg (ncs n)) (.agg (ncs n))).run Tryz.prog W = .ok true W := by
  have := eqN n n h h W
  rwa [eqNV_self] at this
theorem printN_len (v : Bool) (B : List UInt8) (hB : B.length = 16) (k : Nat) : (printN v B k).length ≤ 1021 := by
  unfold printN
  have h1 := printA_len6 v B hB
  have h2 := digs_short 10 k
  simp only [List.length_append, List.length_cons]
  omega
set_option maxHeartbeats 4000000 in
theorem prints_law (n : NetV) (hB : n.B.length = 16) (w : World) (hT : TabZ w) : Calls Tryz.prog 3 #[.agg (ncs n)] w fun e w' => e = .returned (.bool true) ∧ Below w.heap.size w w' := by
  have HAW := hid awake6
  have HM := hid (fun W => refMay_net n hB W)
  have HC := hid (fun W => check_net n hB W)
  have HT := hid hT
  have HLN : Hid (∀ {W : World} {g : Nat}, W.heap[g]? = some (.cells (ncs n) 26 (0, 0)) → (loadI 26 (.pointer (some ⟨g, 0, none⟩))).run Tryz.prog W = .ok (.agg (ncs n)) W) := fun h => loadN_row hB h
  cases hm : mayV n with
  | false =>
    have HP := hid (fun W => print_no n hB hm W)
    rw [hm] at HM HC
    simp only [Bool.false_eq_true, if_false] at HC
    clear hm
    generalize ncs n = X at HM HC HLN HP ⊢
    have l0 := HLN.out (heap_alloc_new w (.cells X 26))
    go_enter Tryz.func3, Tryz.ntmps3
    go_wp2_with fail
    refine (HP.out _).mono ?_
    rintro e W1 ⟨rfl, hb1⟩
    obtain ⟨r1, b1, z1⟩ := row1 hb1
    have HR := hid r1; have HB := hid b1
    clear hb1 r1 b1 l0
    have l1 := HLN.out HR.out
    go_wp2_with fail
    refine (HM.out _).mono ?_
    rintro e W2 ⟨rfl, hb2⟩
    have HB2 : Hid (Below w.heap.size w W2) := HB.out.trans (hb2.mono HB.out.size)
    have l2 := HLN.out ((hb2.block _ z1).trans HR.out)
    clear hb2 l1
    go_wp2_with fail
    refine (HC.out _).mono ?_
    rintro e W3 ⟨rfl, hb3⟩
    have HB3 : Hid (Below w.heap.size w W3) := HB2.out.trans (hb3.mono HB2.out.size)
    clear hb3 l2
    go_wp2_with fail
    refine (HAW.out _).mono ?_
    rintro e W4 ⟨rfl, hb4⟩
    go_wp2_with fail
    go_ret
    exact ⟨rfl, HB3.out.trans (hb4.mono HB3.out.size)⟩
  | true =>
    obtain ⟨hmb, h0, h1⟩ := mayN_parts hm
    have htot := tot_le n.v
    obtain ⟨k, hk⟩ : ∃ k : Nat, n.k = (k : Int) := ⟨n.k.toNat, by omega⟩
    have HP := hid (fun W h => print_yes n hB hm k hk W h)
    have HRP := hid (fun W => refPrint_net n hB k hk (by omega) W)
    have hback := net_back n.v n.B k hB (by rw [← hk]; exact hm)
    have HPA : Hid (∀ W, TabE W → Calls Tryz.prog 8 #[.string (asS (printN n.v n.B k))] W fun e w' => e = .returned (.tuple #[.agg (ncs n), .int .i64 0]) ∧ Below W.heap.size W w') := fun W h => by
      have hp := parseN_any (asS (printN n.v n.B k)) (by rw [asS_len]; have := printN_len n.v n.B hB k; omega) W h
      rw [show (asS (printN n.v n.B k)).data.toList = printN n.v n.B k from rfl, hback] at hp
      have e : pnN (some (n.v, n.B, k)) = n := by
        show (⟨n.v, n.B, (k : Int)⟩ : NetV) = n
        rw [← hk]
      rw [e] at hp
      exact hp
    have q1 := eqNZ n hB
    have hg := guardNZ
    have HST : Hid (∀ {W : World} {ops : Array Oper} {rest : List Oper} {op : Oper} {c : Act} {Q : Exit → Act → World → Prop}, op.guard = none → ∀ (x y : Operand), op.op = .store 26 x y → ∀ g, c.eval x = .pointer (some ⟨g, 0, none⟩) → c.eval y = .agg (ncs n) → ∀ cs : Array Value, W.heap[g]? = some (.cells cs 26 (0, 0)) → cs.size = 18 → (∀ W', Only g W W' → W'.heap[g]? = some (.cells (ncs n) 26 (0, 0)) → wpList Tryz.prog ops Q rest (c.put op.dst undef) W') → wpList Tryz.prog ops Q (op :: rest) c W) := fun h1 x y h2 g h3 h4 cs h5 h6 h7 => store_net h1 x y h2 g n hB h3 h4 cs h5 h6 h7
    rw [hm] at HM HC
    simp only [if_true] at HC
    clear hm hmb h0 h1 hk hback hT
    generalize asS (printN n.v n.B k) = S at HP HRP HPA
    generalize ncs n = X at HM HC HLN HP HRP HPA q1 HST ⊢
    have hss : (S.toList == S.toList) = true := by simp
    have l0 := HLN.out (heap_alloc_new w (.cells X 26))
    go_enter Tryz.func3, Tryz.ntmps3
    go_wp2_with fail
    refine (HP.out _ (HT.out.below (alloc_below (Below.refl _ w) (Nat.le_refl _) _))).mono ?_
    rintro e W1 ⟨rfl, hb1⟩
    obtain ⟨r1, b1, z1⟩ := row1 hb1
    have HR := hid r1; have HB := hid b1
    clear hb1 r1 b1 l0
    have l1 := HLN.out HR.out
    go_wp2_with fail
    refine (HM.out _).mono ?_
    rintro e W2 ⟨rfl, hb2⟩
    have HB2 : Hid (Below W1.heap.size W1 W2) := hb2
    clear hb2 l1
    go_wp2_with fail
    refine (HPA.out _ (HT.out.below (HB.out.trans (HB2.out.mono HB.out.size))).e).mono ?_
    rintro e W3 ⟨rfl, hb3⟩
    have HB3 : Hid (Below W1.heap.size W1 W3) := HB2.out.trans (hb3.mono HB2.out.size)
    clear hb3
    go_wp2_with (first
      | (refine HST.out rfl _ _ rfl W3.heap.size rfl rfl _ (heap_alloc_new W3 _) rfl ?_)
      | fail)
    intro W4 hO4 hW4
    have HB4 : Hid (Below W1.heap.size W1 W4) := (alloc_below HB3.out HB3.out.size _).trans (hO4.below HB3.out.size)
    have HW4 := hid hW4
    have z4 : W3.heap.size < W4.heap.size := by rw [hO4.size]; simp
    clear hO4 hW4
    have l4 := HLN.out ((HB4.out.block _ z1).trans HR.out)
    go_wp2_with fail
    refine (HC.out _).mono ?_
    rintro e W5 ⟨rfl, hb5⟩
    have HB5 : Hid (Below W1.heap.size W1 W5) := HB4.out.trans (hb5.mono HB4.out.size)
    have HW5 : Hid (W5.heap[W3.heap.size]? = some (.cells X 26 (0, 0))) := (hb5.block _ z4).trans HW4.out
    have z5 : W3.heap.size < W5.heap.size := Nat.lt_of_lt_of_le z4 hb5.size
    clear hb5 l4
    have l5 := HLN.out ((HB5.out.block _ z1).trans HR.out)
    go_wp2_with fail
    refine (HRP.out _).mono ?_
    rintro e W6 ⟨rfl, hb6⟩
    have HB6 : Hid (Below W1.heap.size W1 W6) := HB5.out.trans (hb6.mono HB5.out.size)
    have l6 := HLN.out ((HB6.out.block _ z1).trans HR.out)
    have l7 := HLN.out ((hb6.block _ z5).trans HW5.out)
    clear hb6 l5
    go_wp2_with fail
    refine (HAW.out _).mono ?_
    rintro e W7 ⟨rfl, hb7⟩
    clear l6 l7 q1 hg
    go_wp2_with fail
    go_ret
    exact ⟨rfl, HB.out.trans ((HB6.out.trans (hb7.mono HB6.out.size)).mono HB.out.size)⟩
end Go.Proofs.YtocdjgehjiolhaaGreatDoor
