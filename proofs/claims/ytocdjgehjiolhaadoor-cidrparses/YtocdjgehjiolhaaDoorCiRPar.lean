
/- What the reference's Parse of layer 6 does. -/
import Derived.Test.YtocdjgehjiolhaaDoorCiDig
namespace Go.Proofs.YtocdjgehjiolhaaDoor
open Go.RowKit Go.BigFrame
set_option maxRecDepth 100000

theorem storeN_eq (x v : Value) : Instr.storeAt 27 x v = storeI 27 x v := rfl
theorem storeN_any {w : World} {g : Nat} {cs : Array Value} (h : w.heap[g]? = some (.cells cs 27 (0, 0))) (hs : cs.size = 18) (n : NetV) (hn : n.B.length = 16) :
    ∃ W, (storeI 27 (.pointer (some ⟨g, 0, none⟩)) (.agg (ncs n))).run Tryd.prog w = .ok () W ∧ Only g w W ∧ W.heap[g]? = some (.cells (ncs n) 27 (0, 0)) := by
  refine ⟨_, run_storeAt_mid w g 0 27 (ncs n) (there_row h 0 _ (by rw [ncs_size n hn, hs]; omega)) (ncs_info n hn) (ncs_one n), only_setCells g _ 0 w, ?_⟩
  rw [setCells_heap g 27 _ 0 w cs h, over_whole cs (ncs n) (by rw [ncs_size n hn, hs])]
attribute [local go_sem ↓] loadA_eq loadN_eq storeN_eq

theorem drew_belowP {V W : World} (h : Below V.drew.heap.size V.drew W) : Below V.heap.size V W := ((Below.refl V.heap.size V).drew).trans h
theorem take_more (l : List UInt8) (i : Nat) (hi : i < l.length) (h : (47 : UInt8) ∉ l.take i) (hb : l.getD i 0 ≠ 47) : (47 : UInt8) ∉ l.take (i + 1) := by
  have := cutTo_more 47 l 0 i (by omega) hi (by simpa using h) hb
  simpa using this
theorem take_split (l : List UInt8) (i : Nat) (hi : i < l.length) (hb : l.getD i 0 = 47) : l = l.take i ++ 47 :: l.drop (i + 1) := by
  conv => lhs; rw [← List.take_append_drop i l]
  rw [List.drop_eq_getElem_cons hi]
  rw [List.getD_eq_getElem?_getD, List.getElem?_eq_getElem hi] at hb
  rw [show l[i] = 47 from hb]
theorem parseA_len (a : List UInt8) (v : Bool) (B : List UInt8) (h : parseA a = some (v, B)) : B.length = 16 := by
  have := paB_len a
  rw [h] at this
  exact this
/-- The reference's answer. -/
def RAns (l : List UInt8) (w : World) (e : Ending) (w' : World) : Prop := ∃ m : NetV, e = .returned (.tuple #[.agg (ncs m), .bool (parseN l).isSome]) ∧ (∀ p, parseN l = some p → m = pnN (some p)) ∧ m.B.length = 16 ∧ Below w.heap.size w w'
set_option maxHeartbeats 8000000 in
theorem refParseN_any (s : ByteArray) (hs : s.size ≤ 1000000) (w : World) : Calls Tryd.prog 6 #[.string s] w fun e w' => RAns s.data.toList w e w' := by
  have HZ : Hid (s.data.toList.length = s.size) := (Lib.size_eq s).symm
  obtain ⟨l, hl⟩ : ∃ l, l = s.data.toList := ⟨_, rfl⟩
  have HL := hid hl
  rw [← hl] at HZ ⊢
  clear hl
  have HANS : Hid (∀ (o : Option (Bool × List UInt8 × Nat)) (e : Ending) (w' : World) (m : NetV), parseN l = o → e = .returned (.tuple #[.agg (ncs m), .bool o.isSome]) → (∀ p, o = some p → m = pnN (some p)) → m.B.length = 16 → Below w.heap.size w w' → RAns l w e w') := fun o e w' m h1 h2 h3 h4 h5 => by
    subst h1
    exact ⟨m, h2, h3, h4, h5⟩
  generalize hRA : RAns l w = RA at HANS ⊢
  clear hRA
  go_enter Tryd.func6, Tryd.ntmps6
  go_wp2_with fail
  obtain ⟨V, hV⟩ : ∃ V, V = w.alloc (Obj.cells (ncs ⟨false, zer 16, 0⟩) 27) := ⟨_, rfl⟩
  have HR : Hid (V.heap[w.heap.size]? = some (.cells (ncs ⟨false, zer 16, 0⟩) 27 (0, 0))) := by rw [hV]; exact heap_alloc_new w _
  have HB : Hid (Below w.heap.size w V) := by rw [hV]; exact alloc_below (Below.refl _ w) (Nat.le_refl _) _
  have hz : w.heap.size < V.heap.size := by rw [hV]; simp
  have hV2 : w.alloc (Obj.cells #[.bool false, .int .u8 0, .int .u8 0, .int .u8 0, .int .u8 0, .int .u8 0, .int .u8 0, .int .u8 0, .int .u8 0, .int .u8 0, .int .u8 0, .int .u8 0, .int .u8 0, .int .u8 0, .int .u8 0, .int .u8 0, .int .u8 0, .int .i64 0] 27) = V := by rw [hV]; rfl
  rw [hV2]
  clear hV hV2
  go_loop [4] (fun iv => ∃ i : Nat, i ≤ s.size ∧ iv = .int .i64 (i : Int) ∧ Hid ((47 : UInt8) ∉ l.take i)) (fun i => s.size - (intOf i).toNat)
  case atStart => exact ⟨0, by omega, rfl, by show _ ∉ _; simp⟩
  case round =>
    obtain ⟨i, hi, rfl, HN⟩ := hrel
    by_cases his : (i : Int) < (s.size : Int)
    · have hks : i < s.size := by omega
      have HY := hid (byte_at s i hks)
      rw [← HL.out] at HY
      by_cases hb : ((s[i].toNat : Nat) : Int) = 47
      · have hbe : l.getD i 0 = 47 := by rw [HY.out]; exact UInt8.toNat_inj.1 (by simpa using (by omega : s[i].toNat = 47))
        have HSP := hid (take_split l i (by rw [HZ.out]; exact hks) hbe)
        have hbb : ((s[i].toNat : Int) == 47) = true := by rw [beq_iff_eq]; exact hb
        have HX1 := hid (ext_asS s 0 i)
        have HX2 := hid (ext_asS s (i + 1) s.size)
        rw [← HL.out] at HX1 HX2
        have HPN : Hid (parseN l = readB (l.take i) (l.drop (i + 1))) := by
          show _ = _
          conv => lhs; rw [HSP.out]
          exact cut_first _ _ HN.out
        have hE1 : s.extract 0 i = asS (l.take i) := by rw [HX1.out]; simp
        have hE2 : s.extract (i + 1) s.size = asS (l.drop (i + 1)) := by
          rw [HX2.out]
          exact congrArg asS (List.take_of_length_le (by rw [List.length_drop, HZ.out]; omega))
        have HLA : Hid ((l.take i).length ≤ 1000000) := by show _ ≤ _; rw [List.length_take, HZ.out]; omega
        have HPA2 := hid (parseA_len (l.take i))
        clear hbe hb
        generalize l.take i = a at HPN hE1 HLA HPA2
        generalize l.drop (i + 1) = x at HPN hE2
        have HIP : Hid (∀ W, Calls Tryd.prog 7 #[.string (asS a)] W fun e w' => e = .returned (.tuple #[.agg (acs (paV (parseA a)) (paB (parseA a))), .bool (parseA a).isSome]) ∧ Below W.heap.size W w') := fun W => refParse_any (asS a) (by rw [asS_len]; exact HLA.out) W
        have HRB : Hid (readB a x = match parseA a, bitsOf x with | some (v, B), some k => if mayN v B k then some (v, B, k) else none | _, _ => none) := rfl
        generalize parseA a = pa at HIP HRB HPA2
        go_wp2_with fail
        refine (HIP.out _).mono ?_
        rintro e W1 ⟨rfl, hb1⟩
        have HB1 := hid hb1
        clear hb1
        cases pa with
        | none =>
          have HQ : Hid (parseN l = none) := by show _ = _; rw [HPN.out, HRB.out]
          go_wp2_with (first
            | (refine store_addr rfl _ _ rfl W1.heap.size false (zer 16) rfl rfl rfl _ (heap_alloc_new W1 _) rfl ?_)
            | fail)
          intro W2 hO2 hW2
          have HB2 : Hid (Below V.heap.size V W2) := (alloc_below HB1.out HB1.out.size _).trans (hO2.below HB1.out.size)
          clear hO2 hW2 hE2 hE1
          go_wp2_with fail
          go_loop [7, 8] (fun kv _ => kv = .int .i64 0) (fun _ _ => 0)
          case atStart => rfl
          case round =>
            subst hrel
            go_wp2_with (first
              | (refine wpList_built rfl 27 _ rfl (ncs ⟨false, zer 16, 0⟩) built_netZ ?_)
              | (refine store_net rfl _ _ rfl w.heap.size ⟨false, zer 16, 0⟩ rfl rfl rfl _ ((HB2.out.block _ hz).trans HR.out) rfl ?_)
              | fail)
            intro Wf hOf hWf
            go_wp2
            exact bodyPost_ret (ret_net2 (p := 2) (q := 3) Tryd.results6 _ _ w.heap.size ⟨false, zer 16, 0⟩ rfl (0, 0) _ rfl rfl hWf) rfl (HANS.out none _ _ ⟨false, zer 16, 0⟩ HQ.out rfl (fun p hp => by cases hp) rfl (HB.out.trans ((HB2.out.mono (by omega)).trans (hOf.below (Nat.le_refl _)))))
        | some p =>
          obtain ⟨v, B⟩ := p
          have HBL := hid (HPA2.out v B rfl)
          have HRD : Hid (parseN l = match bitsOf x with | some k => if mayN v B k then some (v, B, k) else none | none => none) := by
            show _ = _
            rw [HPN.out, HRB.out]
            cases bitsOf x <;> rfl
          clear HPN HRB HPA2
          go_wp2_with (first
            | (refine store_addr rfl _ _ rfl W1.heap.size v B HBL.out rfl rfl _ (heap_alloc_new W1 _) rfl ?_)
            | fail)
          intro W2 hO2 hW2
          have HB2 : Hid (Below V.heap.size V W2) := (alloc_below HB1.out HB1.out.size _).trans (hO2.below HB1.out.size)
          have HW2 := hid hW2
          have z2 : W1.heap.size < W2.heap.size := by rw [hO2.size]; simp
          clear hO2 hW2 hE1
          go_wp2_with fail
          go_loopw [7, 8] (fun kv _ wx => ∃ k : Nat, k ≤ 129 ∧ kv = .int .i64 (k : Int) ∧ Hid (∀ j, j < k → x ≠ digs 10 j) ∧ Hid (Below W2.heap.size W2 wx)) (fun k _ _ => 129 - (intOf k).toNat)
          case atStart => exact ⟨0, by omega, rfl, fun j hj => absurd hj (Nat.not_lt_zero _), Below.refl _ _⟩
          case round =>
            obtain ⟨k, hk, rfl, HJ, HBk⟩ := hrel
            obtain ⟨U, hU⟩ : ∃ U, U = wr := ⟨_, rfl⟩
            subst hU
            have HBU : Hid (Below V.heap.size V U) := HB2.out.trans (HBk.out.mono HB2.out.size)
            by_cases hk128 : (k : Int) ≤ 128
            · have l1 := loadA_row HBL.out ((HBk.out.block _ z2).trans HW2.out)
              have HBUI := hid (built_net v B k HBL.out)
              have HDG := hid (fun W => dig_any k (by omega) W)
              have HMY := hid (fun W => refMay_net ⟨v, B, k⟩ HBL.out W)
              have HLN : Hid ((⟨v, B, (k : Int)⟩ : NetV).B.length = 16) := HBL.out
              have hsz : ¬ (s.size : Int) < (i : Int) + 1 := by omega
              have HMV : Hid (mayV ⟨v, B, (k : Int)⟩ = mayN v B k) := rfl
              rw [HMV.out] at HMY
              generalize hNN : (⟨v, B, (k : Int)⟩ : NetV) = NN at HBUI HMY HLN
              have HNN := hid hNN
              clear hNN
              go_wp2_with (first
                | (refine wpList_built rfl 27 _ rfl (ncs NN) HBUI.out ?_)
                | (refine store_net rfl _ _ rfl U.heap.size NN HLN.out rfl rfl _ (heap_alloc_new U _) rfl ?_)
                | fail)
              intro W3 hO3 hW3
              have HB3 : Hid (Below W2.heap.size W2 W3) := (alloc_below HBk.out HBk.out.size _).trans (hO3.below HBk.out.size)
              have HW3 := hid hW3
              have z3 : U.heap.size < W3.heap.size := by rw [hO3.size]; simp
              clear hO3 hW3 l1
              have c1 : REG 15 #[.int .i64 k] W3 (.string (asS (digs 10 k))) := fun d os => Calls.regrown_of (HDG.out _)
              have b1 : (i : Int) + 1 ≤ (s.size : Int) := by omega
              by_cases hx : x = digs 10 k
              · have heq : ((asS x).toList == (asS (digs 10 k)).toList) = true := by rw [strS, decide_eq_true hx]
                have HBX : Hid (bitsOf x = some k) := by show _ = _; rw [hx]; exact bits_of k (by omega)
                have HRE : Hid (parseN l = if mayN v B k then some (v, B, k) else none) := by show _ = _; rw [HRD.out, HBX.out]
                have HXE := hid hx
                clear hx
                generalize asS (digs 10 k) = S2 at c1 heq
                go_wp2_with fail
                refine wp_region_quiet_below (by kernel_rfl) (by kernel_rfl) ?_
                repeat (go_big_quiet_step (first | (go_at_call 15; exact c1 _ _)))
                refine wpQuiet_nil ?_
                rintro W4 ⟨⟨dq, osq⟩, hw⟩
                have HB4 : Hid (Below W3.heap.size W3 W4) := by rw [hw]; exact below_regrown W3 dq osq
                clear hw c1 heq
                have HBV4 : Hid (Below V.heap.size V W4) := HB2.out.trans ((HB3.out.trans (HB4.out.mono HB3.out.size)).mono HB2.out.size)
                have HR4 : Hid (W4.heap[w.heap.size]? = some (.cells (ncs ⟨false, zer 16, 0⟩) 27 (0, 0))) := (HBV4.out.block _ hz).trans HR.out
                have HN4 : Hid (W4.heap[U.heap.size]? = some (.cells (ncs NN) 27 (0, 0))) := (HB4.out.block _ z3).trans HW3.out
                have zw : w.heap.size < W4.heap.size := Nat.lt_of_lt_of_le hz HBV4.out.size
                have zu : U.heap.size < W4.heap.size := Nat.lt_of_lt_of_le z3 HB4.out.size
                have HSTO : Hid (∀ w1, Below W4.heap.size W4 w1 → (loadI 27 (.pointer (some ⟨U.heap.size, 0, none⟩))).run Tryd.prog w1 = .ok (.agg (ncs NN)) w1 ∧ ∃ W, (storeI 27 (.pointer (some ⟨w.heap.size, 0, none⟩)) (.agg (ncs NN))).run Tryd.prog w1 = .ok () W ∧ W.heap[w.heap.size]? = some (.cells (ncs NN) 27 (0, 0)) ∧ Below w.heap.size w W) := fun w1 h1 => by
                  refine ⟨loadN_row HLN.out ((h1.block _ zu).trans HN4.out), ?_⟩
                  obtain ⟨W, h2, h3, h4⟩ := storeN_any ((h1.block _ zw).trans HR4.out) rfl NN HLN.out
                  exact ⟨W, h2, h4, (HB.out.trans ((HBV4.out.trans (h1.mono HBV4.out.size)).mono HB.out.size)).trans (h3.below (Nat.le_refl _))⟩
                have ld := (HSTO.out W4.drew ((Below.refl _ W4).drew)).1
                have HANS2 : Hid (∀ (e : Ending) (w' : World), e = .returned (.tuple #[.agg (ncs NN), .bool (mayN v B k)]) → Below w.heap.size w w' → RA e w') := fun e w' h1 h2 => by
                  cases hm : mayN v B k with
                  | true =>
                    rw [hm] at h1
                    refine HANS.out (some (v, B, k)) e w' NN (by rw [HRE.out, hm]; rfl) h1 (fun p hp => ?_) HLN.out h2
                    injection hp with hp
                    rw [← hp, ← HNN.out]; rfl
                  | false =>
                    rw [hm] at h1
                    exact HANS.out none e w' NN (by rw [HRE.out, hm]; rfl) h1 (fun p hp => by cases hp) HLN.out h2
                go_wp2_with fail
                first
                  | (go_region_with ((go_at_call 16; refine (HMY.out _).mono ?_; rintro e w1 ⟨rfl, hb1⟩; obtain ⟨ld1, W7, hst, h7a, h7b⟩ := HSTO.out w1 (drew_belowP hb1); have H7a := hid h7a; have H7b := hid h7b; clear hb1 h7a h7b)))
                  | fail
                all_goals
                  go_wp2_with fail
                  exact bodyPost_ret (ret_net2 (p := 2) (q := 3) Tryd.results6 _ _ w.heap.size NN HLN.out (0, 0) _ rfl rfl H7a.out) rfl (HANS2.out _ _ rfl H7b.out)
              · have heq : ((asS x).toList == (asS (digs 10 k)).toList) = false := by rw [strS, decide_eq_false hx]
                have HJ2 : Hid (∀ j, j < k + 1 → x ≠ digs 10 j) := fun j hj => by
                  rcases Nat.lt_or_ge j k with h | h
                  · exact HJ.out j h
                  · have : j = k := by omega
                    rw [this]; exact hx
                clear hx
                generalize asS (digs 10 k) = S2 at c1 heq
                go_wp2_with fail
                refine wp_region_quiet_below (by kernel_rfl) (by kernel_rfl) ?_
                repeat (go_big_quiet_step (first | (go_at_call 15; exact c1 _ _)))
                refine wpQuiet_nil ?_
                rintro W4 ⟨⟨dq, osq⟩, hw⟩
                have HB4 : Hid (Below W2.heap.size W2 W4) := by rw [hw]; exact HB3.out.trans ((below_regrown W3 dq osq).mono HB3.out.size)
                clear hw c1 heq
                go_wp2_with fail
                go_roundw
                case rel => exact ⟨k + 1, by omega, by go_num, HJ2, HB4⟩
                case measure => simp [intOf]; omega
            · have hk' : k = 129 := by omega
              subst hk'
              have HQ : Hid (parseN l = none) := by
                show _ = _
                rw [HRD.out]
                have : bitsOf x = none := by
                  unfold bitsOf
                  rw [List.find?_eq_none]
                  intro j hj
                  have := HJ.out j (List.mem_range.1 hj)
                  simpa using this
                rw [this]
              go_wp2_with (first
                | (refine wpList_built rfl 27 _ rfl (ncs ⟨false, zer 16, 0⟩) built_netZ ?_)
                | (refine store_net rfl _ _ rfl w.heap.size ⟨false, zer 16, 0⟩ rfl rfl rfl _ ((HBU.out.block _ hz).trans HR.out) rfl ?_)
                | fail)
              intro Wf hOf hWf
              go_wp2
              exact bodyPost_ret (ret_net2 (p := 2) (q := 3) Tryd.results6 _ _ w.heap.size ⟨false, zer 16, 0⟩ rfl (0, 0) _ rfl rfl hWf) rfl (HANS.out none _ _ ⟨false, zer 16, 0⟩ HQ.out rfl (fun p hp => by cases hp) rfl (HB.out.trans ((HBU.out.mono (by omega)).trans (hOf.below (Nat.le_refl _)))))
      · have hbe : l.getD i 0 ≠ 47 := by rw [HY.out]; intro e; exact hb (by rw [e]; rfl)
        have HNX : Hid ((47 : UInt8) ∉ l.take (i + 1)) := take_more l i (by rw [HZ.out]; exact hks) HN.out hbe
        have hbb : ((s[i].toNat : Int) == 47) = false := by rw [beq_eq_false_iff_ne]; exact hb
        clear hbe
        go_wp2_with fail
        go_round
        case rel => exact ⟨i + 1, by omega, by go_num, HNX⟩
        case measure => simp [intOf]; omega
    · have hi' : i = s.size := by omega
      subst hi'
      have HQ : Hid (parseN l = none) := by
        show _ = _
        have h2 := HN.out
        rw [List.take_of_length_le (by rw [HZ.out]; exact Nat.le_refl _)] at h2
        exact cut_never l h2
      go_wp2_with (first
        | (refine wpList_built rfl 27 _ rfl (ncs ⟨false, zer 16, 0⟩) built_netZ ?_)
        | (refine store_net rfl _ _ rfl w.heap.size ⟨false, zer 16, 0⟩ rfl rfl rfl _ (((Below.refl V.heap.size V).block _ hz).trans HR.out) rfl ?_)
        | fail)
      intro Wf hOf hWf
      go_wp2
      exact bodyPost_ret (ret_net2 (p := 2) (q := 3) Tryd.results6 _ _ w.heap.size ⟨false, zer 16, 0⟩ rfl (0, 0) _ rfl rfl hWf) rfl (HANS.out none _ _ ⟨false, zer 16, 0⟩ HQ.out rfl (fun p hp => by cases hp) rfl (HB.out.trans (((Below.refl V.heap.size V).mono (by omega)).trans (hOf.below (Nat.le_refl _)))))
end Go.Proofs.YtocdjgehjiolhaaDoor
