
/- What ip.parseV6 and ip.Parse do. -/
import Derived.Test.YtlblefcmilfjdaaGreatDoorIpRG
import Derived.Test.YtlblefcmilfjdaaGreatDoorIpRefLo
namespace Go.Proofs.YtlblefcmilfjdaaGreatDoor
open Go.RowKit

theorem over_part (v : Bool) (X b : List UInt8) (o : Nat) (h : o + b.length ≤ X.length) : over (acs v X) (1 + o) (bvs b) = acs v (X.take o ++ b ++ X.drop (o + b.length)) := by
  have e : acs v X = ((Value.bool v :: bvs (X.take o)) ++ (bvs ((X.drop o).take b.length) ++ bvs (X.drop (o + b.length)))).toArray := by
    have e1 : X = X.take o ++ ((X.drop o).take b.length ++ X.drop (o + b.length)) := by
      rw [← List.drop_drop, List.take_append_drop, List.take_append_drop]
    conv => lhs; rw [e1]
    unfold acs
    rw [bvs_app, bvs_app]; rfl
  rw [e]
  have := over_mid (bvs ((X.drop o).take b.length)) (bvs b) (Value.bool v :: bvs (X.take o)) (bvs (X.drop (o + b.length))) (by rw [bvs_len, bvs_len, List.length_take, List.length_drop]; omega)
  have hl : (Value.bool v :: bvs (X.take o)).length = 1 + o := by rw [List.length_cons, bvs_len, List.length_take]; omega
  rw [hl] at this
  rw [this]
  unfold acs
  rw [bvs_app, bvs_app]; simp
theorem over_one (b1 : List UInt8) (h : b1.length ≤ 16) : over (acs true (zer 16)) 1 (bvs b1) = acs true (b1 ++ zer (16 - b1.length)) := by
  have := over_part true (zer 16) b1 0 (by rw [zer_len]; omega)
  rw [Nat.add_zero, Nat.zero_add, List.take_zero, List.nil_append] at this
  rw [this]
  unfold zer
  rw [List.drop_replicate]
theorem over_two (b1 b2 : List UInt8) (h : b1.length + b2.length ≤ 16) : over (acs true (b1 ++ zer (16 - b1.length))) (1 + (16 - b2.length)) (bvs b2) = acs true (b1 ++ List.replicate (16 - (b1.length + b2.length)) 0 ++ b2) := by
  rw [over_part true _ b2 (16 - b2.length) (by rw [List.length_append, zer_len]; omega)]
  have t1 : (b1 ++ zer (16 - b1.length)).take (16 - b2.length) = b1 ++ List.replicate (16 - (b1.length + b2.length)) 0 := by
    rw [List.take_append, List.take_of_length_le (by omega)]
    unfold zer
    rw [List.take_replicate, show min (16 - b2.length - b1.length) (16 - b1.length) = 16 - (b1.length + b2.length) from by omega]
  have t2 : (b1 ++ zer (16 - b1.length)).drop (16 - b2.length + b2.length) = [] := List.drop_eq_nil_of_le (by rw [List.length_append, zer_len]; omega)
  rw [t1, t2, List.append_nil]
theorem left_len (l : List UInt8) : (leftP l).length ≤ l.length ∧ (rightP l).length ≤ l.length := by
  unfold leftP rightP Lib.cut
  split
  · simp; omega
  · simp
theorem asS_all (s : ByteArray) : asS s.data.toList = s := by simp [asS]
theorem cut_any (s : ByteArray) (hs : s.size ≤ 1000000) (w : World) (hT : TabS w) : Calls Tryz.prog 66 #[.string s, .string ⟨#[58, 58]⟩] w fun e w' => e = .returned (.tuple #[.string (asS (Lib.cut s.data.toList [58, 58]).1), .string (asS (Lib.cut s.data.toList [58, 58]).2.1), .bool (gapP s.data.toList)]) ∧ Below w.heap.size w w' := by
  obtain ⟨m, hm⟩ := hT.max
  refine (Tryz.strings_Cut s ⟨#[58, 58]⟩ m w (by omega) hm).mono ?_
  rintro e w' ⟨rfl, n, rfl⟩
  exact ⟨rfl, below_drewN _ _ _⟩
set_option maxHeartbeats 4000000 in
theorem parse6_any (s : ByteArray) (hs : s.size ≤ 1000000) (w : World) (hT : TabS w) :
    Calls Tryz.prog 143 #[.string s] w fun e w' => e = .returned (.tuple #[.agg (acs (parse6 s.data.toList).isSome (ansB (parse6 s.data.toList))), .int .i64 (ansE (parse6 s.data.toList))]) ∧ Below w.heap.size w w' := by
  have HT := hid hT
  have HCU := hid (fun W h => cut_any s hs W h)
  have HLL := hid (left_len s.data.toList)
  have HLE : Hid (gapP s.data.toList = true → (Lib.cut s.data.toList [58, 58]).1 = leftP s.data.toList ∧ (Lib.cut s.data.toList [58, 58]).2.1 = rightP s.data.toList) := fun h => by
    unfold gapP at h; unfold leftP rightP; rw [h]; exact ⟨rfl, rfl⟩
  have HLN : Hid (gapP s.data.toList = false → leftP s.data.toList = [] ∧ rightP s.data.toList = s.data.toList) := fun h => by
    unfold gapP at h; unfold leftP rightP; rw [h]; exact ⟨rfl, rfl⟩
  have HPE : Hid (parse6 s.data.toList = glue (gapP s.data.toList) (rgA false (leftP s.data.toList)) (rgA true (rightP s.data.toList))) := rfl
  have hz : s.data.toList.length ≤ 1000000 := by rw [← Lib.size_eq]; exact hs
  obtain ⟨l, hl⟩ : ∃ l, l = s.data.toList := ⟨_, rfl⟩
  have HSL : Hid (s = asS l) := by show _ = _; rw [hl, asS_all]
  rw [← hl] at HCU HLL HLE HLN HPE hz ⊢
  have HRL : Hid (∀ W, TabS W → Calls Tryz.prog 159 #[.string (asS (leftP l)), .bool false] W fun r w' => ∃ (A : Option Addr) (b : List UInt8) (c : Nat), r = .returned (.tuple #[.slice A b.length c, .bool (rgA false (leftP l)).isSome]) ∧ BytesAt w' A b ∧ (∀ x, rgA false (leftP l) = some x → b = x) ∧ b.length ≤ 100 ∧ Below W.heap.size W w') := fun W h => readG_any (asS (leftP l)) false (by rw [asS_size]; have := HLL.out; omega) W h
  have HRR : Hid (∀ W, TabS W → Calls Tryz.prog 159 #[.string (asS (rightP l)), .bool true] W fun r w' => ∃ (A : Option Addr) (b : List UInt8) (c : Nat), r = .returned (.tuple #[.slice A b.length c, .bool (rgA true (rightP l)).isSome]) ∧ BytesAt w' A b ∧ (∀ x, rgA true (rightP l) = some x → b = x) ∧ b.length ≤ 100 ∧ Below W.heap.size W w') := fun W h => readG_any (asS (rightP l)) true (by rw [asS_size]; have := HLL.out; omega) W h
  generalize parse6 l = o at HPE ⊢
  obtain ⟨o1, ho1⟩ : ∃ o1, o1 = rgA false (leftP l) := ⟨_, rfl⟩
  obtain ⟨o2, ho2⟩ : ∃ o2, o2 = rgA true (rightP l) := ⟨_, rfl⟩
  rw [← ho1] at HRL HPE
  rw [← ho2] at HRR HPE
  clear ho1 ho2
  generalize leftP l = lp at HRL HLE HLN HLL
  generalize rightP l = rp at HRR HLE HLN HLL
  generalize (Lib.cut l [58, 58]).1 = c1 at HCU HLE
  generalize (Lib.cut l [58, 58]).2.1 = c2 at HCU HLE
  generalize gapP l = g at HCU HLE HLN HPE
  clear hT hl
  have HTA : Hid (∀ o, TabS (w.alloc o)) := fun o => alloc_tab HT.out o
  have main : ∀ (K : Prop), K → K := fun _ h => h
  have HLR : Hid ((g = true → c1 = lp ∧ c2 = rp) ∧ (g = false → lp = [] ∧ rp = l)) := ⟨HLE.out, HLN.out⟩
  clear main HLE HLN HLL
  go_enter Tryz.func143, Tryz.ntmps143
  go_wp2_with fail
  refine (HCU.out _ (HTA.out _)).mono ?_
  rintro e W1 ⟨rfl, hb1⟩
  obtain ⟨hr1, hbw1, hz1⟩ := row1 hb1
  have HR1 := hid hr1; have HB1 := hid hbw1
  have HT1 : Hid (TabS W1) := HT.out.below hbw1
  clear hb1 hr1 hbw1 HCU HTA
  cases g with
  | true =>
    obtain ⟨e1, e2⟩ := HLR.out.1 rfl
    subst e1 e2
    clear HLR
    go_wp2_with fail
    refine (HRL.out _ HT1.out).mono ?_
    rintro e W2 ⟨A1, b1, n1, rfl, hA1, hx1, hl1, hb2⟩
    have HBA1 := hid hA1; have HX1 := hid hx1
    have HB2 : Hid (Below w.heap.size w W2) := HB1.out.trans (hb2.mono HB1.out.size)
    have HR2 : Hid (W2.heap[w.heap.size]? = _) := (hb2.block _ (by omega)).trans HR1.out
    have hz2 : w.heap.size + 1 ≤ W2.heap.size := Nat.le_trans hz1 hb2.size
    have HT2 : Hid (TabS W2) := HT.out.below HB2.out
    clear hb2 hA1 hx1
    go_wp2_with fail
    refine (HRR.out _ HT2.out).mono ?_
    rintro e W3 ⟨A2, b2, n2, rfl, hA2, hx2, hl2, hb3⟩
    have HBA1' : Hid (BytesAt W3 A1 b1) := HBA1.out.below hb3 (Nat.le_refl _)
    have HBA2 := hid hA2; have HX2 := hid hx2
    have HB3 : Hid (Below w.heap.size w W3) := HB2.out.trans (hb3.mono HB2.out.size)
    have HR3 : Hid (W3.heap[w.heap.size]? = _) := (hb3.block _ (by omega)).trans HR2.out
    have hz3 : w.heap.size + 1 ≤ W3.heap.size := Nat.le_trans hz2 hb3.size
    clear hb3 hA2 hx2
    cases o1 with
    | none =>
      have HO : Hid (o = none) := by show _ = _; rw [HPE.out]; cases o2 <;> rfl
      go_wp2_with (first
        | (refine store_addr rfl _ _ rfl w.heap.size false (zer 16) rfl rfl rfl _ HR3.out rfl ?_)
        | fail)
      intro W9 hO9 hW9
      go_wp2
      refine bodyPost_ret (ret_addr2 (p := 2) (q := 3) Tryz.results143 _ _ w.heap.size false (zer 16) rfl (0, 0) _ rfl rfl hW9) rfl ⟨?_, HB3.out.trans (hO9.below (Nat.le_refl _))⟩
      rw [HO.out]; rfl
    | some x1 =>
    have e1 : b1 = x1 := HX1.out x1 rfl
    subst e1
    cases o2 with
    | none =>
      have HO : Hid (o = none) := by show _ = _; rw [HPE.out]; rfl
      go_wp2_with (first
        | (refine store_addr rfl _ _ rfl w.heap.size false (zer 16) rfl rfl rfl _ HR3.out rfl ?_)
        | fail)
      intro W9 hO9 hW9
      go_wp2
      refine bodyPost_ret (ret_addr2 (p := 2) (q := 3) Tryz.results143 _ _ w.heap.size false (zer 16) rfl (0, 0) _ rfl rfl hW9) rfl ⟨?_, HB3.out.trans (hO9.below (Nat.le_refl _))⟩
      rw [HO.out]; rfl
    | some x2 =>
    have e2 : b2 = x2 := HX2.out x2 rfl
    subst e2
    by_cases hbig : (16 : Int) < (b1.length : Int) + (b2.length : Int)
    · have HO : Hid (o = none) := by show _ = _; rw [HPE.out]; unfold glue; simp only; rw [if_pos (Or.inl (by omega))]
      go_wp2_with (first
        | (refine store_addr rfl _ _ rfl w.heap.size false (zer 16) rfl rfl rfl _ HR3.out rfl ?_)
        | fail)
      intro W9 hO9 hW9
      go_wp2
      refine bodyPost_ret (ret_addr2 (p := 2) (q := 3) Tryz.results143 _ _ w.heap.size false (zer 16) rfl (0, 0) _ rfl rfl hW9) rfl ⟨?_, HB3.out.trans (hO9.below (Nat.le_refl _))⟩
      rw [HO.out]; rfl
    have hn16 : ¬ 16 < b1.length + b2.length := by omega
    by_cases hless : (b1.length : Int) + (b2.length : Int) < 16
    · have HO : Hid (o = some (b1 ++ List.replicate (16 - (b1.length + b2.length)) 0 ++ b2)) := by
        show _ = _
        rw [HPE.out]; unfold glue; simp only; rw [if_neg (fun h => by rcases h with h | h; omega; exact absurd h.2 (by decide))]
      have HRL1 : Hid ((b1 ++ List.replicate (16 - (b1.length + b2.length)) 0 ++ b2).length = 16) := by show _ = _; simp; omega
      have HOV1 := hid (over_one b1 (by omega))
      have HOV2 := hid (over_two b1 b2 (by omega))
      generalize b1 ++ List.replicate (16 - (b1.length + b2.length)) 0 ++ b2 = R at HO HRL1 HOV2
      have HM1 : Hid ((acs true (b1 ++ zer (16 - b1.length))).size = 17) := acs_size _ _ (by rw [List.length_append, zer_len]; omega)
      generalize acs true (b1 ++ zer (16 - b1.length)) = M1 at HOV1 HOV2 HM1
      have hsl2 : b2.length ≠ 0 → ∀ W, (Instr.sliceAt 91 (.pointer (some ⟨W3.heap.size, 1, none⟩)) (some (.int .i64 ((16 : Int) - (b2.length : Int)))) none none).run Tryz.prog W = .ok (.slice (some ⟨W3.heap.size, 1 + (16 - b2.length), none⟩) b2.length b2.length) W := fun h0 W => by
        have := slice_from 91 16 5 Tryz.underlying91 Tryz.sizeOf5 W3.heap.size 1 (16 - b2.length) ((16 : Int) - (b2.length : Int)) (by omega) (by omega) W
        rw [show 16 - (16 - b2.length) = b2.length from by omega] at this
        exact this
      go_wp2_with (first
        | (refine store_addr rfl _ _ rfl W3.heap.size true (zer 16) rfl rfl rfl _ (heap_alloc_new W3 _) rfl ?_)
        | fail)
      intro W4 hO4 hW4
      have HW4 := hid hW4
      have HBA1'' : Hid (BytesAt W4 A1 b1) := HBA1'.out.below ((alloc_below (Below.refl _ W3) (Nat.le_refl _) _).trans (hO4.below (Nat.le_refl _))) (Nat.le_refl _)
      have HBA2'' : Hid (BytesAt W4 A2 b2) := HBA2.out.below ((alloc_below (Below.refl _ W3) (Nat.le_refl _) _).trans (hO4.below (Nat.le_refl _))) (Nat.le_refl _)
      have HR4 : Hid (W4.heap[w.heap.size]? = _) := (hO4.block _ (by omega)).trans ((Below.heap_alloc _ _ _ (by omega)).trans HR3.out)
      have HB4 : Hid (Below w.heap.size w W4) := (alloc_below HB3.out HB3.out.size _).trans (hO4.below HB3.out.size)
      clear hW4 hO4
      go_wp2_with (first
        | (refine wpList_copy_in rfl (.tmp 58) (.tmp 59) rfl W3.heap.size 1 16 16 n1 b1.length A1 b1 rfl rfl rfl 93 (acs true (zer 16)) HBA1''.out (by omega) HW4.out (by rw [acs_size true (zer 16) rfl]; omega) ?_)
        | fail)
      intro W5 hO5 hW5
      have hov : over (acs true (zer 16)) 1 (bvs b1) = M1 := HOV1.out
      rw [hov] at hW5
      have HW5 := hid hW5
      have HBA5 : Hid (b2.length ≠ 0 → BytesAt W5 A2 b2) := fun h0 => by
        intro h1
        obtain ⟨q, o5, e5, hq5, hc5⟩ := HBA2''.out h1
        exact ⟨q, o5, e5, by rw [hO5.size]; exact hq5, fun j hj => by
          have hqn : q ≠ W3.heap.size := fun e => by
            obtain ⟨q3, o3, e3, hq3, hc3⟩ := HBA2.out h1
            rw [e5] at e3
            cases e3
            omega
          rw [World.cell?_of_block (w := W4) (hO5.block q hqn)]; exact hc5 j hj⟩
      have HR5 : Hid (W5.heap[w.heap.size]? = _) := (hO5.block _ (by omega)).trans HR4.out
      have HB5 : Hid (Below w.heap.size w W5) := HB4.out.trans (hO5.below HB3.out.size)
      clear hW5 hO5 hov
      by_cases hb20 : b2.length = 0
      · have hb2n : b2 = [] := List.eq_nil_of_length_eq_zero hb20
        subst hb2n
        have hMR : M1 = acs true R := HOV2.out
        have HW5' : Hid (W5.heap[W3.heap.size]? = some (.cells (acs true R) 93 (0, 0))) := by show _ = _; rw [← hMR]; exact HW5.out
        clear hsl2 hb20 hMR
        go_wp2_with (first
          | (refine wpList_copy_in rfl (.tmp 65) (.tmp 66) rfl W3.heap.size 1 0 0 n2 0 A2 [] rfl rfl rfl 93 (acs true R) (fun h => by simp at h) (by simp) HW5'.out (by rw [acs_size true R HRL1.out]; simp) ?_)
          | fail)
        intro W6 hO6 hW6
        have HW6 : Hid (W6.heap[W3.heap.size]? = some (.cells (acs true R) 93 (0, 0))) := hW6
        have HR6 : Hid (W6.heap[w.heap.size]? = _) := (hO6.block _ (by omega)).trans HR5.out
        have HB6 : Hid (Below w.heap.size w W6) := HB5.out.trans (hO6.below HB3.out.size)
        clear hW6 hO6
        go_wp2_with (first
          | (refine load_addr rfl _ rfl W3.heap.size true R HRL1.out rfl (0, 0) HW6.out ?_)
          | (refine store_addr rfl _ _ rfl w.heap.size true R HRL1.out rfl rfl _ HR6.out rfl ?_)
          | fail)
        intro W9 hO9 hW9
        go_wp2
        refine bodyPost_ret (ret_addr2 (p := 2) (q := 3) Tryz.results143 _ _ w.heap.size true R HRL1.out (0, 0) _ rfl rfl hW9) rfl ⟨?_, HB6.out.trans (hO9.below (Nat.le_refl _))⟩
        rw [HO.out]; rfl
      · have hsl3 := hsl2 hb20
        have HB25 := hid (HBA5.out hb20)
        clear hsl2
        go_wp2_with (first
          | (refine wpList_copy_in rfl (.tmp 65) (.tmp 66) rfl W3.heap.size (1 + (16 - b2.length)) b2.length b2.length n2 b2.length A2 b2 rfl rfl rfl 93 M1 HB25.out (Nat.le_refl _) HW5.out (by rw [HM1.out]; omega) ?_)
          | fail)
        intro W6 hO6 hW6
        rw [HOV2.out] at hW6
        have HW6 : Hid (W6.heap[W3.heap.size]? = some (.cells (acs true R) 93 (0, 0))) := hW6
        have HR6 : Hid (W6.heap[w.heap.size]? = _) := (hO6.block _ (by omega)).trans HR5.out
        have HB6 : Hid (Below w.heap.size w W6) := HB5.out.trans (hO6.below HB3.out.size)
        clear hW6 hO6
        go_wp2_with (first
          | (refine load_addr rfl _ rfl W3.heap.size true R HRL1.out rfl (0, 0) HW6.out ?_)
          | (refine store_addr rfl _ _ rfl w.heap.size true R HRL1.out rfl rfl _ HR6.out rfl ?_)
          | fail)
        intro W9 hO9 hW9
        go_wp2
        refine bodyPost_ret (ret_addr2 (p := 2) (q := 3) Tryz.results143 _ _ w.heap.size true R HRL1.out (0, 0) _ rfl rfl hW9) rfl ⟨?_, HB6.out.trans (hO9.below (Nat.le_refl _))⟩
        rw [HO.out]; rfl
    · have HO : Hid (o = some (b1 ++ List.replicate (16 - (b1.length + b2.length)) 0 ++ b2)) := by
        show _ = _
        rw [HPE.out]; unfold glue; simp only; rw [if_neg (fun h => by rcases h with h | h; omega; exact absurd h.2 (by decide))]
      have HRL1 : Hid ((b1 ++ List.replicate (16 - (b1.length + b2.length)) 0 ++ b2).length = 16) := by show _ = _; simp; omega
      have HOV1 := hid (over_one b1 (by omega))
      have HOV2 := hid (over_two b1 b2 (by omega))
      generalize b1 ++ List.replicate (16 - (b1.length + b2.length)) 0 ++ b2 = R at HO HRL1 HOV2
      have HM1 : Hid ((acs true (b1 ++ zer (16 - b1.length))).size = 17) := acs_size _ _ (by rw [List.length_append, zer_len]; omega)
      generalize acs true (b1 ++ zer (16 - b1.length)) = M1 at HOV1 HOV2 HM1
      have hsl2 : b2.length ≠ 0 → ∀ W, (Instr.sliceAt 91 (.pointer (some ⟨W3.heap.size, 1, none⟩)) (some (.int .i64 ((16 : Int) - (b2.length : Int)))) none none).run Tryz.prog W = .ok (.slice (some ⟨W3.heap.size, 1 + (16 - b2.length), none⟩) b2.length b2.length) W := fun h0 W => by
        have := slice_from 91 16 5 Tryz.underlying91 Tryz.sizeOf5 W3.heap.size 1 (16 - b2.length) ((16 : Int) - (b2.length : Int)) (by omega) (by omega) W
        rw [show 16 - (16 - b2.length) = b2.length from by omega] at this
        exact this
      go_wp2_with (first
        | (refine store_addr rfl _ _ rfl W3.heap.size true (zer 16) rfl rfl rfl _ (heap_alloc_new W3 _) rfl ?_)
        | fail)
      intro W4 hO4 hW4
      have HW4 := hid hW4
      have HBA1'' : Hid (BytesAt W4 A1 b1) := HBA1'.out.below ((alloc_below (Below.refl _ W3) (Nat.le_refl _) _).trans (hO4.below (Nat.le_refl _))) (Nat.le_refl _)
      have HBA2'' : Hid (BytesAt W4 A2 b2) := HBA2.out.below ((alloc_below (Below.refl _ W3) (Nat.le_refl _) _).trans (hO4.below (Nat.le_refl _))) (Nat.le_refl _)
      have HR4 : Hid (W4.heap[w.heap.size]? = _) := (hO4.block _ (by omega)).trans ((Below.heap_alloc _ _ _ (by omega)).trans HR3.out)
      have HB4 : Hid (Below w.heap.size w W4) := (alloc_below HB3.out HB3.out.size _).trans (hO4.below HB3.out.size)
      clear hW4 hO4
      go_wp2_with (first
        | (refine wpList_copy_in rfl (.tmp 58) (.tmp 59) rfl W3.heap.size 1 16 16 n1 b1.length A1 b1 rfl rfl rfl 93 (acs true (zer 16)) HBA1''.out (by omega) HW4.out (by rw [acs_size true (zer 16) rfl]; omega) ?_)
        | fail)
      intro W5 hO5 hW5
      have hov : over (acs true (zer 16)) 1 (bvs b1) = M1 := HOV1.out
      rw [hov] at hW5
      have HW5 := hid hW5
      have HBA5 : Hid (b2.length ≠ 0 → BytesAt W5 A2 b2) := fun h0 => by
        intro h1
        obtain ⟨q, o5, e5, hq5, hc5⟩ := HBA2''.out h1
        exact ⟨q, o5, e5, by rw [hO5.size]; exact hq5, fun j hj => by
          have hqn : q ≠ W3.heap.size := fun e => by
            obtain ⟨q3, o3, e3, hq3, hc3⟩ := HBA2.out h1
            rw [e5] at e3
            cases e3
            omega
          rw [World.cell?_of_block (w := W4) (hO5.block q hqn)]; exact hc5 j hj⟩
      have HR5 : Hid (W5.heap[w.heap.size]? = _) := (hO5.block _ (by omega)).trans HR4.out
      have HB5 : Hid (Below w.heap.size w W5) := HB4.out.trans (hO5.below HB3.out.size)
      clear hW5 hO5 hov
      by_cases hb20 : b2.length = 0
      · have hb2n : b2 = [] := List.eq_nil_of_length_eq_zero hb20
        subst hb2n
        have hMR : M1 = acs true R := HOV2.out
        have HW5' : Hid (W5.heap[W3.heap.size]? = some (.cells (acs true R) 93 (0, 0))) := by show _ = _; rw [← hMR]; exact HW5.out
        clear hsl2 hb20 hMR
        go_wp2_with (first
          | (refine wpList_copy_in rfl (.tmp 65) (.tmp 66) rfl W3.heap.size 1 0 0 n2 0 A2 [] rfl rfl rfl 93 (acs true R) (fun h => by simp at h) (by simp) HW5'.out (by rw [acs_size true R HRL1.out]; simp) ?_)
          | fail)
        intro W6 hO6 hW6
        have HW6 : Hid (W6.heap[W3.heap.size]? = some (.cells (acs true R) 93 (0, 0))) := hW6
        have HR6 : Hid (W6.heap[w.heap.size]? = _) := (hO6.block _ (by omega)).trans HR5.out
        have HB6 : Hid (Below w.heap.size w W6) := HB5.out.trans (hO6.below HB3.out.size)
        clear hW6 hO6
        go_wp2_with (first
          | (refine load_addr rfl _ rfl W3.heap.size true R HRL1.out rfl (0, 0) HW6.out ?_)
          | (refine store_addr rfl _ _ rfl w.heap.size true R HRL1.out rfl rfl _ HR6.out rfl ?_)
          | fail)
        intro W9 hO9 hW9
        go_wp2
        refine bodyPost_ret (ret_addr2 (p := 2) (q := 3) Tryz.results143 _ _ w.heap.size true R HRL1.out (0, 0) _ rfl rfl hW9) rfl ⟨?_, HB6.out.trans (hO9.below (Nat.le_refl _))⟩
        rw [HO.out]; rfl
      · have hsl3 := hsl2 hb20
        have HB25 := hid (HBA5.out hb20)
        clear hsl2
        go_wp2_with (first
          | (refine wpList_copy_in rfl (.tmp 65) (.tmp 66) rfl W3.heap.size (1 + (16 - b2.length)) b2.length b2.length n2 b2.length A2 b2 rfl rfl rfl 93 M1 HB25.out (Nat.le_refl _) HW5.out (by rw [HM1.out]; omega) ?_)
          | fail)
        intro W6 hO6 hW6
        rw [HOV2.out] at hW6
        have HW6 : Hid (W6.heap[W3.heap.size]? = some (.cells (acs true R) 93 (0, 0))) := hW6
        have HR6 : Hid (W6.heap[w.heap.size]? = _) := (hO6.block _ (by omega)).trans HR5.out
        have HB6 : Hid (Below w.heap.size w W6) := HB5.out.trans (hO6.below HB3.out.size)
        clear hW6 hO6
        go_wp2_with (first
          | (refine load_addr rfl _ rfl W3.heap.size true R HRL1.out rfl (0, 0) HW6.out ?_)
          | (refine store_addr rfl _ _ rfl w.heap.size true R HRL1.out rfl rfl _ HR6.out rfl ?_)
          | fail)
        intro W9 hO9 hW9
        go_wp2
        refine bodyPost_ret (ret_addr2 (p := 2) (q := 3) Tryz.results143 _ _ w.heap.size true R HRL1.out (0, 0) _ rfl rfl hW9) rfl ⟨?_, HB6.out.trans (hO9.below (Nat.le_refl _))⟩
        rw [HO.out]; rfl
  | false =>
    obtain ⟨e1, e2⟩ := HLR.out.2 rfl
    subst e1 e2
    rw [← HSL.out] at HRR
    clear HLR
    go_wp2_with fail
    refine (HRL.out _ HT1.out).mono ?_
    rintro e W2 ⟨A1, b1, n1, rfl, hA1, hx1, hl1, hb2⟩
    have HBA1 := hid hA1; have HX1 := hid hx1
    have HB2 : Hid (Below w.heap.size w W2) := HB1.out.trans (hb2.mono HB1.out.size)
    have HR2 : Hid (W2.heap[w.heap.size]? = _) := (hb2.block _ (by omega)).trans HR1.out
    have hz2 : w.heap.size + 1 ≤ W2.heap.size := Nat.le_trans hz1 hb2.size
    have HT2 : Hid (TabS W2) := HT.out.below HB2.out
    clear hb2 hA1 hx1
    go_wp2_with fail
    refine (HRR.out _ HT2.out).mono ?_
    rintro e W3 ⟨A2, b2, n2, rfl, hA2, hx2, hl2, hb3⟩
    have HBA1' : Hid (BytesAt W3 A1 b1) := HBA1.out.below hb3 (Nat.le_refl _)
    have HBA2 := hid hA2; have HX2 := hid hx2
    have HB3 : Hid (Below w.heap.size w W3) := HB2.out.trans (hb3.mono HB2.out.size)
    have HR3 : Hid (W3.heap[w.heap.size]? = _) := (hb3.block _ (by omega)).trans HR2.out
    have hz3 : w.heap.size + 1 ≤ W3.heap.size := Nat.le_trans hz2 hb3.size
    clear hb3 hA2 hx2
    cases o1 with
    | none =>
      have HO : Hid (o = none) := by show _ = _; rw [HPE.out]; cases o2 <;> rfl
      go_wp2_with (first
        | (refine store_addr rfl _ _ rfl w.heap.size false (zer 16) rfl rfl rfl _ HR3.out rfl ?_)
        | fail)
      intro W9 hO9 hW9
      go_wp2
      refine bodyPost_ret (ret_addr2 (p := 2) (q := 3) Tryz.results143 _ _ w.heap.size false (zer 16) rfl (0, 0) _ rfl rfl hW9) rfl ⟨?_, HB3.out.trans (hO9.below (Nat.le_refl _))⟩
      rw [HO.out]; rfl
    | some x1 =>
    have e1 : b1 = x1 := HX1.out x1 rfl
    subst e1
    cases o2 with
    | none =>
      have HO : Hid (o = none) := by show _ = _; rw [HPE.out]; rfl
      go_wp2_with (first
        | (refine store_addr rfl _ _ rfl w.heap.size false (zer 16) rfl rfl rfl _ HR3.out rfl ?_)
        | fail)
      intro W9 hO9 hW9
      go_wp2
      refine bodyPost_ret (ret_addr2 (p := 2) (q := 3) Tryz.results143 _ _ w.heap.size false (zer 16) rfl (0, 0) _ rfl rfl hW9) rfl ⟨?_, HB3.out.trans (hO9.below (Nat.le_refl _))⟩
      rw [HO.out]; rfl
    | some x2 =>
    have e2 : b2 = x2 := HX2.out x2 rfl
    subst e2
    by_cases hbig : (16 : Int) < (b1.length : Int) + (b2.length : Int)
    · have HO : Hid (o = none) := by show _ = _; rw [HPE.out]; unfold glue; simp only; rw [if_pos (Or.inl (by omega))]
      go_wp2_with (first
        | (refine store_addr rfl _ _ rfl w.heap.size false (zer 16) rfl rfl rfl _ HR3.out rfl ?_)
        | fail)
      intro W9 hO9 hW9
      go_wp2
      refine bodyPost_ret (ret_addr2 (p := 2) (q := 3) Tryz.results143 _ _ w.heap.size false (zer 16) rfl (0, 0) _ rfl rfl hW9) rfl ⟨?_, HB3.out.trans (hO9.below (Nat.le_refl _))⟩
      rw [HO.out]; rfl
    by_cases hless : (b1.length : Int) + (b2.length : Int) < 16
    · have HO : Hid (o = none) := by show _ = _; rw [HPE.out]; unfold glue; simp only; rw [if_pos (Or.inr ⟨by omega, by trivial⟩)]
      go_wp2_with (first
        | (refine store_addr rfl _ _ rfl w.heap.size false (zer 16) rfl rfl rfl _ HR3.out rfl ?_)
        | fail)
      intro W9 hO9 hW9
      go_wp2
      refine bodyPost_ret (ret_addr2 (p := 2) (q := 3) Tryz.results143 _ _ w.heap.size false (zer 16) rfl (0, 0) _ rfl rfl hW9) rfl ⟨?_, HB3.out.trans (hO9.below (Nat.le_refl _))⟩
      rw [HO.out]; rfl
    have hn16 : ¬ 16 < b1.length + b2.length := by omega
    have HO : Hid (o = some (b1 ++ List.replicate (16 - (b1.length + b2.length)) 0 ++ b2)) := by
      show _ = _
      rw [HPE.out]; unfold glue; simp only; rw [if_neg (by omega)]
    have HRL1 : Hid ((b1 ++ List.replicate (16 - (b1.length + b2.length)) 0 ++ b2).length = 16) := by show _ = _; simp; omega
    have HOV1 := hid (over_one b1 (by omega))
    have HOV2 := hid (over_two b1 b2 (by omega))
    generalize b1 ++ List.replicate (16 - (b1.length + b2.length)) 0 ++ b2 = R at HO HRL1 HOV2
    have HM1 : Hid ((acs true (b1 ++ zer (16 - b1.length))).size = 17) := acs_size _ _ (by rw [List.length_append, zer_len]; omega)
    generalize acs true (b1 ++ zer (16 - b1.length)) = M1 at HOV1 HOV2 HM1
    have hsl2 : b2.length ≠ 0 → ∀ W, (Instr.sliceAt 91 (.pointer (some ⟨W3.heap.size, 1, none⟩)) (some (.int .i64 ((16 : Int) - (b2.length : Int)))) none none).run Tryz.prog W = .ok (.slice (some ⟨W3.heap.size, 1 + (16 - b2.length), none⟩) b2.length b2.length) W := fun h0 W => by
      have := slice_from 91 16 5 Tryz.underlying91 Tryz.sizeOf5 W3.heap.size 1 (16 - b2.length) ((16 : Int) - (b2.length : Int)) (by omega) (by omega) W
      rw [show 16 - (16 - b2.length) = b2.length from by omega] at this
      exact this
    go_wp2_with (first
      | (refine store_addr rfl _ _ rfl W3.heap.size true (zer 16) rfl rfl rfl _ (heap_alloc_new W3 _) rfl ?_)
      | fail)
    intro W4 hO4 hW4
    have HW4 := hid hW4
    have HBA1'' : Hid (BytesAt W4 A1 b1) := HBA1'.out.below ((alloc_below (Below.refl _ W3) (Nat.le_refl _) _).trans (hO4.below (Nat.le_refl _))) (Nat.le_refl _)
    have HBA2'' : Hid (BytesAt W4 A2 b2) := HBA2.out.below ((alloc_below (Below.refl _ W3) (Nat.le_refl _) _).trans (hO4.below (Nat.le_refl _))) (Nat.le_refl _)
    have HR4 : Hid (W4.heap[w.heap.size]? = _) := (hO4.block _ (by omega)).trans ((Below.heap_alloc _ _ _ (by omega)).trans HR3.out)
    have HB4 : Hid (Below w.heap.size w W4) := (alloc_below HB3.out HB3.out.size _).trans (hO4.below HB3.out.size)
    clear hW4 hO4
    go_wp2_with (first
      | (refine wpList_copy_in rfl (.tmp 58) (.tmp 59) rfl W3.heap.size 1 16 16 n1 b1.length A1 b1 rfl rfl rfl 93 (acs true (zer 16)) HBA1''.out (by omega) HW4.out (by rw [acs_size true (zer 16) rfl]; omega) ?_)
      | fail)
    intro W5 hO5 hW5
    have hov : over (acs true (zer 16)) 1 (bvs b1) = M1 := HOV1.out
    rw [hov] at hW5
    have HW5 := hid hW5
    have HBA5 : Hid (b2.length ≠ 0 → BytesAt W5 A2 b2) := fun h0 => by
      intro h1
      obtain ⟨q, o5, e5, hq5, hc5⟩ := HBA2''.out h1
      exact ⟨q, o5, e5, by rw [hO5.size]; exact hq5, fun j hj => by
        have hqn : q ≠ W3.heap.size := fun e => by
          obtain ⟨q3, o3, e3, hq3, hc3⟩ := HBA2.out h1
          rw [e5] at e3
          cases e3
          omega
        rw [World.cell?_of_block (w := W4) (hO5.block q hqn)]; exact hc5 j hj⟩
    have HR5 : Hid (W5.heap[w.heap.size]? = _) := (hO5.block _ (by omega)).trans HR4.out
    have HB5 : Hid (Below w.heap.size w W5) := HB4.out.trans (hO5.below HB3.out.size)
    clear hW5 hO5 hov
    by_cases hb20 : b2.length = 0
    · have hb2n : b2 = [] := List.eq_nil_of_length_eq_zero hb20
      subst hb2n
      have hMR : M1 = acs true R := HOV2.out
      have HW5' : Hid (W5.heap[W3.heap.size]? = some (.cells (acs true R) 93 (0, 0))) := by show _ = _; rw [← hMR]; exact HW5.out
      clear hsl2 hb20 hMR
      go_wp2_with (first
        | (refine wpList_copy_in rfl (.tmp 65) (.tmp 66) rfl W3.heap.size 1 0 0 n2 0 A2 [] rfl rfl rfl 93 (acs true R) (fun h => by simp at h) (by simp) HW5'.out (by rw [acs_size true R HRL1.out]; simp) ?_)
        | fail)
      intro W6 hO6 hW6
      have HW6 : Hid (W6.heap[W3.heap.size]? = some (.cells (acs true R) 93 (0, 0))) := hW6
      have HR6 : Hid (W6.heap[w.heap.size]? = _) := (hO6.block _ (by omega)).trans HR5.out
      have HB6 : Hid (Below w.heap.size w W6) := HB5.out.trans (hO6.below HB3.out.size)
      clear hW6 hO6
      go_wp2_with (first
        | (refine load_addr rfl _ rfl W3.heap.size true R HRL1.out rfl (0, 0) HW6.out ?_)
        | (refine store_addr rfl _ _ rfl w.heap.size true R HRL1.out rfl rfl _ HR6.out rfl ?_)
        | fail)
      intro W9 hO9 hW9
      go_wp2
      refine bodyPost_ret (ret_addr2 (p := 2) (q := 3) Tryz.results143 _ _ w.heap.size true R HRL1.out (0, 0) _ rfl rfl hW9) rfl ⟨?_, HB6.out.trans (hO9.below (Nat.le_refl _))⟩
      rw [HO.out]; rfl
    · have hsl3 := hsl2 hb20
      have HB25 := hid (HBA5.out hb20)
      clear hsl2
      go_wp2_with (first
        | (refine wpList_copy_in rfl (.tmp 65) (.tmp 66) rfl W3.heap.size (1 + (16 - b2.length)) b2.length b2.length n2 b2.length A2 b2 rfl rfl rfl 93 M1 HB25.out (Nat.le_refl _) HW5.out (by rw [HM1.out]; omega) ?_)
        | fail)
      intro W6 hO6 hW6
      rw [HOV2.out] at hW6
      have HW6 : Hid (W6.heap[W3.heap.size]? = some (.cells (acs true R) 93 (0, 0))) := hW6
      have HR6 : Hid (W6.heap[w.heap.size]? = _) := (hO6.block _ (by omega)).trans HR5.out
      have HB6 : Hid (Below w.heap.size w W6) := HB5.out.trans (hO6.below HB3.out.size)
      clear hW6 hO6
      go_wp2_with (first
        | (refine load_addr rfl _ rfl W3.heap.size true R HRL1.out rfl (0, 0) HW6.out ?_)
        | (refine store_addr rfl _ _ rfl w.heap.size true R HRL1.out rfl rfl _ HR6.out rfl ?_)
        | fail)
      intro W9 hO9 hW9
      go_wp2
      refine bodyPost_ret (ret_addr2 (p := 2) (q := 3) Tryz.results143 _ _ w.heap.size true R HRL1.out (0, 0) _ rfl rfl hW9) rfl ⟨?_, HB6.out.trans (hO9.below (Nat.le_refl _))⟩
      rw [HO.out]; rfl
end Go.Proofs.YtlblefcmilfjdaaGreatDoor
