
/- What cidr.Parse does. -/
import Derived.Test.YtocdjgehjiolhaaGreatDoorIpBook
import Derived.Test.YtocdjgehjiolhaaGreatDoorCiChk
import Derived.Test.YtocdjgehjiolhaaGreatDoorIpPar
import Derived.Shelf.Strconv.ErrVarAll
import Derived.WalkSmall
namespace Go.Proofs.YtocdjgehjiolhaaGreatDoor
open Go.RowKit Go.BigFrame
attribute [local go_sem ↓] loadA_eq loadN_eq

/-- The library's tables, and its two errors. -/
structure TabE (w : World) : Prop where
  tab : TabS w
  syn : ∃ te pe, w.var? Tryz.prog "strconv.ErrSyntax" = some #[.iface te pe]
  rng : ∃ te pe, w.var? Tryz.prog "strconv.ErrRange" = some #[.iface te pe]
theorem gSyn : Tryz.prog.globalNamed "strconv.ErrSyntax" = some 1 := by kernel_rfl
theorem gRng : Tryz.prog.globalNamed "strconv.ErrRange" = some 2 := by kernel_rfl
theorem TabE.below {w w' : World} (h : TabE w) (hb : Below w.heap.size w w') : TabE w' := by
  have hlt := h.tab.lt
  obtain ⟨t1, p1, h1⟩ := h.syn
  obtain ⟨t2, p2, h2⟩ := h.rng
  exact ⟨h.tab.below hb, ⟨t1, p1, var?_below hb gSyn (by omega) h1⟩, ⟨t2, p2, var?_below hb gRng (by omega) h2⟩⟩
theorem bytes_below {w w' : World} {e : TypeId} (h : w' = w ∨ ∃ t, w' = Lib.bytesWorld w e t) : Below w.heap.size w w' := by
  rcases h with rfl | ⟨t, rfl⟩
  · exact Below.refl _ _
  · exact Lib.bytesWorld_below _ _ _
/-- strconv.Atoi, at every text. -/
theorem atoi_any (s : ByteArray) (hs : s.size ≤ 1000000) (w : World) (hT : TabE w) : Calls Tryz.prog 23 #[.string s] w fun e w' => ∃ v x, e = .returned (.tuple #[.int .i64 v, x]) ∧ ((Lib.atoiAll s.data.toList = .ok v ∧ x = .nilIface) ∨ ((∀ u, Lib.atoiAll s.data.toList ≠ .ok u) ∧ ∃ t p, x = .iface t p)) ∧ Below w.heap.size w w' := by
  obtain ⟨t1, p1, h1⟩ := hT.syn
  obtain ⟨t2, p2, h2⟩ := hT.rng
  cases ha : Lib.atoiAll s.data.toList with
  | ok v =>
    refine (Any.strconv_Atoi_ok Tryz.laysC172 s (by omega) v ha w).mono ?_
    rintro e w' ⟨rfl, hw⟩
    exact ⟨v, .nilIface, rfl, .inl ⟨rfl, rfl⟩, bytes_below hw⟩
  | range =>
    refine (Any.strconv_Atoi_range_var Tryz.laysC172 s (by omega) ha t2 p2 w h2).mono ?_
    rintro e w' ⟨N, rfl, _, _, hb⟩
    exact ⟨_, _, rfl, .inr ⟨(fun u h => by cases h), _, _, rfl⟩, hb⟩
  | _ =>
    refine (Any.strconv_Atoi_syntax_var Tryz.laysC172 s (by omega) ha t1 p1 w h1).mono ?_
    rintro e w' ⟨N, rfl, _, _, hb⟩
    exact ⟨0, _, rfl, .inr ⟨(fun u h => by cases h), _, _, rfl⟩, hb⟩
theorem itoa_all (n : Int) (h0 : -9223372036854775808 ≤ n) (h1 : n ≤ 9223372036854775807) (w : World) (h : TabS w) : Calls Tryz.prog 11 #[.int .i64 n] w fun e w' => e = .returned (.string (asS (Lib.itoa n))) ∧ Below w.heap.size w w' := by
  refine (Any.strconv_Itoa Tryz.laysM171 n h0 h1 w h.pow).mono ?_
  rintro e w' ⟨rfl, k, os, rfl⟩
  exact ⟨rfl, Lib.below_grow _ w (Nat.le_refl _) k os⟩
theorem cut47_any (s : ByteArray) (hs : s.size ≤ 1000000) (w : World) (hT : TabS w) : Calls Tryz.prog 21 #[.string s, .string ⟨#[47]⟩] w fun e w' => e = .returned (.tuple #[.string (asS (Lib.cut s.data.toList [47]).1), .string (asS (Lib.cut s.data.toList [47]).2.1), .bool (Lib.cut s.data.toList [47]).2.2]) ∧ Below w.heap.size w w' := by
  obtain ⟨m, hm⟩ := hT.max
  refine (Tryz.strings_Cut s ⟨#[47]⟩ m w (by omega) hm).mono ?_
  rintro e w' ⟨rfl, n, rfl⟩
  exact ⟨rfl, below_drewN _ _ _⟩
theorem first_slash (l : List UInt8) : (47 : UInt8) ∉ l ∨ ∃ a x, l = a ++ 47 :: x ∧ (47 : UInt8) ∉ a := by
  induction l with
  | nil => exact .inl (by simp)
  | cons y r ih =>
    by_cases hy : y = 47
    · exact .inr ⟨[], r, by rw [hy]; rfl, by simp⟩
    · rcases ih with h | ⟨a, x, e, h⟩
      · exact .inl (by rw [List.mem_cons]; rintro (h1 | h1); exact hy h1.symm; exact h h1)
      · exact .inr ⟨y :: a, x, by rw [e]; rfl, by rw [List.mem_cons]; rintro (h1 | h1); exact hy h1.symm; exact h h1⟩
theorem numOf_nil : numOf [] = none := rfl
/-- What is read is what stands at both sides of the cut. -/
theorem parse_cut (l : List UInt8) : parseN l = readN (Lib.cut l [47]).1 (Lib.cut l [47]).2.1 := by
  rcases first_slash l with h | ⟨a, x, rfl, h⟩
  · rw [cut_never l h]
    unfold Lib.cut
    rw [index_no 47 l h]
    unfold readN
    simp only [show ¬ (0 : Int) ≤ -1 from by omega, if_false, numOf_nil]
    cases parseA l with
    | none => rfl
    | some p => rfl
  · rw [cut_first a x h, ← read_same]
    unfold Lib.cut
    rw [index_at 47 x a h, if_pos (by omega)]
    simp
theorem cut_lens (l : List UInt8) : (Lib.cut l [47]).1.length ≤ l.length ∧ (Lib.cut l [47]).2.1.length ≤ l.length := by
  unfold Lib.cut
  split
  · simp; omega
  · simp
def pnN (o : Option (Bool × List UInt8 × Nat)) : NetV := match o with
  | some (v, B, k) => ⟨v, B, k⟩
  | none => ⟨false, zer 16, 0⟩
def pnE (o : Option (Bool × List UInt8 × Nat)) : Int := if o.isSome then 0 else 5
theorem asS_len (l : List UInt8) : (asS l).size = l.length := rfl
theorem strS (a b : List UInt8) : ((asS a).toList == (asS b).toList) = decide (a = b) := str_same a b
set_option maxHeartbeats 4000000 in
set_option maxRecDepth 100000 in
theorem parseN_any (s : ByteArray) (hs : s.size ≤ 1000000) (w : World) (hT : TabE w) : Calls Tryz.prog 8 #[.string s] w fun e w' => e = .returned (.tuple #[.agg (ncs (pnN (parseN s.data.toList))), .int .i64 (pnE (parseN s.data.toList))]) ∧ Below w.heap.size w w' := by
  have HCU := hid (fun W h => cut47_any s hs W h)
  have HPE := hid (parse_cut s.data.toList)
  have hle := cut_lens s.data.toList
  rw [← Lib.size_eq] at hle
  have hl1 : (Lib.cut s.data.toList [47]).1.length ≤ 1000000 := by omega
  have hl2 : (Lib.cut s.data.toList [47]).2.1.length ≤ 1000000 := by omega
  generalize parseN s.data.toList = o at HPE ⊢
  generalize (Lib.cut s.data.toList [47]).2.2 = ob at HCU
  generalize (Lib.cut s.data.toList [47]).1 = c1 at HCU HPE hl1
  generalize (Lib.cut s.data.toList [47]).2.1 = c2 at HCU HPE hl2
  clear hle hs
  have HIP : Hid (∀ W, TabS W → Calls Tryz.prog 22 #[.string (asS c1)] W fun e w' => e = .returned (.tuple #[.agg (acs (paV (parseA c1)) (paB (parseA c1))), .int .i64 (paE (parseA c1))]) ∧ Below W.heap.size W w') := fun W h => parse_any (asS c1) (by rw [asS_len]; exact hl1) W h
  have HAT : Hid (∀ W, TabE W → Calls Tryz.prog 23 #[.string (asS c2)] W fun e w' => ∃ v x, e = .returned (.tuple #[.int .i64 v, x]) ∧ ((Lib.atoiAll c2 = .ok v ∧ x = .nilIface) ∨ ((∀ u, Lib.atoiAll c2 ≠ .ok u) ∧ ∃ t p, x = .iface t p)) ∧ Below W.heap.size W w') := fun W h => atoi_any (asS c2) (by rw [asS_len]; exact hl2) W h
  have HBL := hid (paB_len c1)
  have HRE : Hid (o = readN c1 c2) := HPE.out
  clear HPE
  have HT := hid hT
  clear hT
  go_enter Tryz.func8, Tryz.ntmps8
  go_wp2_with fail
  obtain ⟨V, hV⟩ : ∃ V, V = w.alloc (Obj.cells (ncs ⟨false, zer 16, 0⟩) 26) := ⟨_, rfl⟩
  have HR : Hid (V.heap[w.heap.size]? = some (.cells (ncs ⟨false, zer 16, 0⟩) 26 (0, 0))) := by rw [hV]; exact heap_alloc_new w _
  have HB : Hid (Below w.heap.size w V) := by rw [hV]; exact alloc_below (Below.refl _ w) (Nat.le_refl _) _
  have hz : w.heap.size < V.heap.size := by rw [hV]; simp
  have hV2 : w.alloc (Obj.cells #[.bool false, .int .u8 0, .int .u8 0, .int .u8 0, .int .u8 0, .int .u8 0, .int .u8 0, .int .u8 0, .int .u8 0, .int .u8 0, .int .u8 0, .int .u8 0, .int .u8 0, .int .u8 0, .int .u8 0, .int .u8 0, .int .u8 0, .int .i64 0] 26) = V := by rw [hV]; rfl
  rw [hV2]
  clear hV hV2
  have HTV : Hid (∀ W, Below V.heap.size V W → TabE W) := fun W hW => HT.out.below (HB.out.trans (hW.mono HB.out.size))
  refine (HCU.out _ (HTV.out V (Below.refl _ _)).tab).mono ?_
  rintro e W1 ⟨rfl, hb1⟩
  have HB1 := hid hb1
  clear hb1
  go_wp2_with fail
  refine (HIP.out _ (HTV.out W1 HB1.out).tab).mono ?_
  rintro e W2 ⟨rfl, hb2⟩
  have HB2 : Hid (Below V.heap.size V W2) := HB1.out.trans (hb2.mono HB1.out.size)
  clear hb2
  obtain ⟨pa, hpa⟩ : ∃ pa, pa = parseA c1 := ⟨_, rfl⟩
  rw [← hpa] at HBL ⊢
  have HPA := hid hpa
  clear hpa
  have HLL := HBL.out
  generalize hBv : paB pa = Bv at HBL ⊢
  generalize hVv : paV pa = Vv
  generalize hEv : paE pa = Ev
  have HBv := hid hBv; have HVv := hid hVv; have HEv := hid hEv
  clear hBv hVv hEv HLL
  go_wp2_with (first
    | (refine store_addr rfl _ _ rfl W2.heap.size Vv Bv HBL.out rfl rfl _ (heap_alloc_new W2 _) rfl ?_)
    | fail)
  intro W3 hO3 hW3
  have HB3 : Hid (Below V.heap.size V W3) := (alloc_below HB2.out HB2.out.size _).trans (hO3.below HB2.out.size)
  have HW3 := hid hW3
  have z3 : W2.heap.size < W3.heap.size := by rw [hO3.size]; simp
  clear hO3 hW3
  go_wp2_with fail
  refine (HAT.out _ (HTV.out W3 HB3.out)).mono ?_
  rintro e W4 ⟨bn, x, rfl, hx, hb4⟩
  have HB4 : Hid (Below V.heap.size V W4) := HB3.out.trans (hb4.mono HB3.out.size)
  have HW4 : Hid (W4.heap[W2.heap.size]? = some (.cells (acs Vv Bv) 24 (0, 0))) := (hb4.block _ z3).trans HW3.out
  have z4 : W2.heap.size < W4.heap.size := Nat.lt_of_lt_of_le z3 hb4.size
  have HX := hid hx
  clear hb4 hx
  cases pa with
  | none =>
    have HQ : Hid (o = none) := by show _ = _; rw [HRE.out]; unfold readN; rw [← HPA.out]
    obtain rfl : Ev = 5 := HEv.out.symm
    clear HX
    go_wp2_with (first
      | (refine wpList_built rfl 26 _ rfl (ncs ⟨false, zer 16, 0⟩) built_netZ ?_)
      | (refine store_net rfl _ _ rfl w.heap.size ⟨false, zer 16, 0⟩ rfl rfl rfl _ ((HB4.out.block _ hz).trans HR.out) rfl ?_)
      | fail)
    intro Wf hOf hWf
    go_wp2
    refine bodyPost_ret (ret_net2 (p := 2) (q := 3) Tryz.results8 _ _ w.heap.size ⟨false, zer 16, 0⟩ rfl (0, 0) _ rfl rfl hWf) rfl ⟨?_, HB.out.trans ((HB4.out.mono (by omega)).trans (hOf.below (Nat.le_refl _)))⟩
    rw [HQ.out]; rfl
  | some p =>
    obtain ⟨v, B⟩ := p
    obtain rfl : Ev = 0 := HEv.out.symm
    obtain rfl : Vv = v := HVv.out.symm
    obtain rfl : Bv = B := HBv.out.symm
    rcases HX.out with ⟨hok, rfl⟩ | ⟨hno, t, q, rfl⟩
    · have hbd := Lib.atoiAll_bounds hok
      have HOK := hid hok
      have HIT := hid (fun W h => itoa_all bn hbd.1 hbd.2 W h)
      clear hok HX
      have hbd1 := hbd.1
      have hbd2 := hbd.2
      clear hbd
      go_wp2_with fail
      refine (HIT.out _ (HTV.out W4 HB4.out).tab).mono ?_
      rintro e W5 ⟨rfl, hb5⟩
      have HB5 : Hid (Below V.heap.size V W5) := HB4.out.trans (hb5.mono HB4.out.size)
      have HW5 : Hid (W5.heap[W2.heap.size]? = some (.cells (acs Vv Bv) 24 (0, 0))) := (hb5.block _ z4).trans HW4.out
      clear hb5
      by_cases hi : Lib.itoa bn = c2
      · have HNU : Hid (numOf c2 = some bn) := by show _ = _; unfold numOf; rw [HOK.out]; show (if Lib.itoa bn = c2 then some bn else none) = _; rw [if_pos hi]
        have heq : ((asS (Lib.itoa bn)).toList == (asS c2).toList) = true := by rw [strS, decide_eq_true hi]
        have HRD : Hid (o = if mayN Vv Bv bn then some (Vv, Bv, bn.toNat) else none) := by show _ = _; rw [HRE.out]; unfold readN; rw [← HPA.out, HNU.out]
        have HI := hid hi
        clear hi
        have HCK := hid (fun W => check_net ⟨Vv, Bv, bn⟩ HBL.out W)
        have HMV : Hid (mayV ⟨Vv, Bv, bn⟩ = mayN Vv Bv bn) := rfl
        rw [HMV.out] at HCK
        have l5 := loadA_row HBL.out HW5.out
        have HBU := hid (built_net Vv Bv bn HBL.out)
        have HLN : Hid ((⟨Vv, Bv, bn⟩ : NetV).B.length = 16) := HBL.out
        generalize asS (Lib.itoa bn) = S1 at heq
        generalize hNN : (⟨Vv, Bv, bn⟩ : NetV) = NN at HCK HBU HLN
        have HNN := hid hNN
        clear hNN
        go_wp2_with (first
          | (refine wpList_built rfl 26 _ rfl (ncs NN) HBU.out ?_)
          | (refine store_net rfl _ _ rfl W5.heap.size NN HLN.out rfl rfl _ (heap_alloc_new W5 _) rfl ?_)
          | fail)
        intro W6 hO6 hW6
        have HB6 : Hid (Below V.heap.size V W6) := (alloc_below HB5.out HB5.out.size _).trans (hO6.below HB5.out.size)
        have HW6 := hid hW6
        have l6 := loadN_row HLN.out hW6
        have z6 : W5.heap.size < W6.heap.size := by rw [hO6.size]; simp
        clear hO6 hW6 l5 heq
        go_wp2_with fail
        refine (HCK.out _).mono ?_
        rintro e W7 ⟨rfl, hb7⟩
        have HB7 : Hid (Below V.heap.size V W7) := HB6.out.trans (hb7.mono HB6.out.size)
        have HW7 : Hid (W7.heap[W5.heap.size]? = some (.cells (ncs NN) 26 (0, 0))) := (hb7.block _ z6).trans HW6.out
        clear hb7 l6
        cases hmm : mayN Vv Bv bn with
        | false =>
          have HQ : Hid (o = none) := by show _ = _; rw [HRD.out, hmm]; rfl
          clear hmm
          go_wp2_with (first
            | (refine wpList_built rfl 26 _ rfl (ncs ⟨false, zer 16, 0⟩) built_netZ ?_)
            | (refine store_net rfl _ _ rfl w.heap.size ⟨false, zer 16, 0⟩ rfl rfl rfl _ ((HB7.out.block _ hz).trans HR.out) rfl ?_)
            | fail)
          intro Wf hOf hWf
          go_wp2
          refine bodyPost_ret (ret_net2 (p := 2) (q := 3) Tryz.results8 _ _ w.heap.size ⟨false, zer 16, 0⟩ rfl (0, 0) _ rfl rfl hWf) rfl ⟨?_, HB.out.trans ((HB7.out.mono (by omega)).trans (hOf.below (Nat.le_refl _)))⟩
          rw [HQ.out]; rfl
        | true =>
          have hk := (mayN_parts hmm).2.1
          have HQ : Hid (o = some (Vv, Bv, bn.toNat)) := by show _ = _; rw [HRD.out, hmm]; rfl
          have HNE : Hid (pnN o = NN) := by show _ = _; rw [HQ.out, ← HNN.out]; show (⟨Vv, Bv, ((bn.toNat : Nat) : Int)⟩ : NetV) = _; rw [Int.toNat_of_nonneg hk]
          have HPE2 : Hid (pnE o = 0) := by show _ = _; rw [HQ.out]; rfl
          clear hmm
          go_wp2_with (first
            | (refine load_net rfl _ rfl W5.heap.size NN HLN.out rfl (0, 0) HW7.out ?_)
            | (refine store_net rfl _ _ rfl w.heap.size NN HLN.out rfl rfl _ ((HB7.out.block _ hz).trans HR.out) rfl ?_)
            | fail)
          intro Wf hOf hWf
          go_wp2
          refine bodyPost_ret (ret_net2 (p := 2) (q := 3) Tryz.results8 _ _ w.heap.size NN HLN.out (0, 0) _ rfl rfl hWf) rfl ⟨?_, HB.out.trans ((HB7.out.mono (by omega)).trans (hOf.below (Nat.le_refl _)))⟩
          rw [HNE.out, HPE2.out]; rfl
      · have HQ : Hid (o = none) := by
          show _ = _
          rw [HRE.out]
          unfold readN numOf
          rw [← HPA.out, HOK.out]
          simp only [if_neg hi]
        have heq : ((asS (Lib.itoa bn)).toList == (asS c2).toList) = false := by rw [strS, decide_eq_false hi]
        clear hi
        generalize asS (Lib.itoa bn) = S1 at heq
        go_wp2_with (first
          | (refine wpList_built rfl 26 _ rfl (ncs ⟨false, zer 16, 0⟩) built_netZ ?_)
          | (refine store_net rfl _ _ rfl w.heap.size ⟨false, zer 16, 0⟩ rfl rfl rfl _ ((HB5.out.block _ hz).trans HR.out) rfl ?_)
          | fail)
        intro Wf hOf hWf
        go_wp2
        refine bodyPost_ret (ret_net2 (p := 2) (q := 3) Tryz.results8 _ _ w.heap.size ⟨false, zer 16, 0⟩ rfl (0, 0) _ rfl rfl hWf) rfl ⟨?_, HB.out.trans ((HB5.out.mono (by omega)).trans (hOf.below (Nat.le_refl _)))⟩
        rw [HQ.out]; rfl
    · have HQ : Hid (o = none) := by
        show _ = _
        rw [HRE.out]
        unfold readN
        rw [← HPA.out]
        have : numOf c2 = none := by
          unfold numOf
          split
          · rename_i u hu
            exact absurd hu (hno u)
          · rfl
        rw [this]
      clear HX hno
      go_wp2_with (first
        | (refine wpList_built rfl 26 _ rfl (ncs ⟨false, zer 16, 0⟩) built_netZ ?_)
        | (refine store_net rfl _ _ rfl w.heap.size ⟨false, zer 16, 0⟩ rfl rfl rfl _ ((HB4.out.block _ hz).trans HR.out) rfl ?_)
        | fail)
      intro Wf hOf hWf
      go_wp2
      refine bodyPost_ret (ret_net2 (p := 2) (q := 3) Tryz.results8 _ _ w.heap.size ⟨false, zer 16, 0⟩ rfl (0, 0) _ rfl rfl hWf) rfl ⟨?_, HB.out.trans ((HB4.out.mono (by omega)).trans (hOf.below (Nat.le_refl _)))⟩
      rw [HQ.out]; rfl
end Go.Proofs.YtocdjgehjiolhaaGreatDoor
