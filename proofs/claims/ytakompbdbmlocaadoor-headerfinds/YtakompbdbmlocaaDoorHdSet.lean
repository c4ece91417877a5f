
/- Headers with one in place of others; without some names, by the reference. -/
import Derived.Test.YtakompbdbmlocaaDoorHdWith
import Derived.Lib.QuietBelow
namespace Go.Proofs.YtakompbdbmlocaaDoor
set_option linter.unusedVariables false
set_option linter.unusedSimpArgs false
open Go.RowKit Go.BigFrame

abbrev REG (f : Nat) (args : Array Value) (V : World) (x : Value) : Prop := ∀ d os, Calls Tryd.prog f args (Sort.grow (redrawn V d) os) fun e w'' => e = .returned x ∧ ∃ p : Regrown, w'' = Sort.grow (redrawn V p.d) p.os
theorem strs_one (w : World) (x : List UInt8) (N : ByteArray) (hN : N = asS x) : StrsAt (w.alloc (.cells #[.string N] 9)) (some ⟨w.heap.size, 0, none⟩) [x] := fun _ => ⟨w.heap.size, 0, rfl, by simp, fun j hj => by
  obtain rfl : j = 0 := by simp at hj; exact hj
  subst hN
  exact cell_of_row _ _ _ _ _ _ (heap_alloc_new w _)⟩
set_option maxHeartbeats 1000000 in
set_option maxRecDepth 100000 in
theorem set9_any (l : List HdV) (name value : List UInt8) (A : Option Addr) (c : Nat) (hl : l.length ≤ 100000) (hs : SmallH l) (hn : name.length ≤ 1000000) (hv : value.length ≤ 1000000) (w : World) (hA : HdsAt w A l) : Calls Tryd.prog 20 #[.slice A l.length c, .string (asS name), .string (asS value)] w fun e w' => ∃ v, e = .returned v ∧ HdsV w' v (withoutH l [name] ++ [⟨name, value⟩]) ∧ Below w.heap.size w w' := by
  have HA := hid hA
  have HWO : Hid (∀ W, HdsAt W A l → StrsAt W (some ⟨w.heap.size, 0, none⟩) [name] → Calls Tryd.prog 22 #[.slice A l.length c, .slice (some ⟨w.heap.size, 0, none⟩) 1 1] W fun e w' => ∃ v, e = .returned v ∧ OwnH w' W.heap.size v (withoutH l [name]) ∧ Below W.heap.size W w') := fun W h1 h2 => without9_any l [name] A (some ⟨w.heap.size, 0, none⟩) c 1 hl hs (by simp) (fun t ht => by
    obtain rfl : t = 0 := by simp at ht; exact ht
    exact hn) W h1 h2
  have HCP := hid (fun W => copied_any name value (by omega) (by omega) W)
  have HSN := hid (strs_one w name (asS name) rfl)
  have HSR := hid (fun W => src_hd W ⟨name, value⟩ (asS name) (asS value) rfl rfl 1)
  have HLE : Hid ((withoutH l [name]).length + [(⟨name, value⟩ : HdV)].length ≤ 1000000) := by
    have := without_len l [name]
    show _ ≤ _
    simp; omega
  unfold hcs at HCP
  simp only at HCP
  generalize asS name = NA at HCP HSN HSR ⊢
  generalize asS value = VA at HCP HSR ⊢
  generalize l.length = n at HWO ⊢
  clear hA hl hs hn hv
  go_enter Tryd.func20, Tryd.ntmps20
  go_wp2_with fail
  have HB0 := hid (alloc_below (Below.refl w.heap.size w) (Nat.le_refl _) (.cells #[.string NA] 9))
  refine (HWO.out _ (HA.out.below HB0.out (Nat.le_refl _)) HSN.out).mono ?_
  rintro e W1 ⟨v, rfl, hown, hb⟩
  have HB1 := hid (HB0.out.trans (hb.mono HB0.out.size))
  have HO1 := hid (hown.mono HB0.out.size)
  obtain ⟨AV, cv, hsh⟩ := hown.shape
  clear hb hown
  subst hsh
  go_wp2_with fail
  refine (HCP.out _).mono ?_
  rintro e W2 ⟨rfl, hb⟩
  have HB2 := hid (HB1.out.trans (hb.mono HB1.out.size))
  have HO2 := hid ((HO1.out.below hb).below (alloc_below (Below.refl _ W2) (Nat.le_refl _) (.cells #[.string NA, .string VA] 46)))
  have HB3 := hid (alloc_below HB2.out HB2.out.size (.cells #[.string NA, .string VA] 46))
  have HSR3 := hid (HSR.out W2)
  clear hb
  go_wp2_with (first
    | (refine wpList_hd rfl _ _ rfl w.heap.size _ _ (withoutH l [name]) [⟨name, value⟩] rfl rfl HO2.out HSR3.out (by simp) HLE.out HB3.out.size ?_)
    | fail)
  intro v6 W6 hown6 hb6
  have HB6 := hid (HB3.out.trans hb6)
  have HO6 := hid hown6
  clear hown6 hb6
  go_wp2_with fail
  go_ret
  exact ⟨_, rfl, HO6.out.hds, HB6.out⟩
theorem keep_take (names : List (List UInt8)) (nm : List UInt8) (t : Nat) (h : t < names.length) : ((names.take (t + 1)).all fun m => !likeH nm m) = (((names.take t).all fun m => !likeH nm m) && !likeH nm (names.getD t [])) := by
  rw [List.take_succ_eq_append_getElem h, List.all_append, List.getD_eq_getElem?_getD, List.getElem?_eq_getElem h]
  simp
set_option maxHeartbeats 4000000 in
set_option maxRecDepth 100000 in
theorem refWithout_any (l : List HdV) (names : List (List UInt8)) (A B : Option Addr) (c d : Nat) (hl : l.length ≤ 100000) (hs : SmallH l) (hn : names.length ≤ 1000) (hns : ∀ t, t < names.length → (names.getD t []).length ≤ 1000000) (w : World) (hA : HdsAt w A l) (hB : StrsAt w B names) : Calls Tryd.prog 21 #[.slice A l.length c, .slice B names.length d] w fun e w' => ∃ v, e = .returned v ∧ OwnH w' w.heap.size v (withoutH l names) ∧ Below w.heap.size w w' := by
  have HA := hid hA
  have HSM := hid hs
  have HB := hid hB
  have HNS := hid hns
  have HTK := hid (without_take l names)
  have HWL := hid (fun k => Nat.le_trans (without_len (l.take k) names) (by rw [List.length_take]; omega : _ ≤ l.length))
  have HALL : Hid (l.take l.length = l) := List.take_length
  have HALN : Hid (names.take names.length = names) := List.take_length
  have HKT := hid (fun nm => keep_take names nm)
  have HAX := hid (fun (x y : List UInt8) hx hy W => alike_any x y hx hy W)
  clear hA hs hB hns
  generalize hln : l.length = n at hl HTK HWL HALL ⊢
  have HN := hid hln
  clear hln
  generalize hnn : names.length = m at hn HNS HKT HALN ⊢
  have HM := hid hnn
  clear hnn
  go_enter Tryd.func21, Tryd.ntmps21
  go_wp2_with fail
  have HB0 := hid (alloc_below (Below.refl w.heap.size w) (Nat.le_refl _) (.cells #[] 46))
  have HO0 : Hid (OwnH (w.alloc (.cells #[] 46)) w.heap.size (.slice (some ⟨w.heap.size, 0, none⟩) 0 0) []) := .inr ⟨_, 0, rfl, OwnK.zero w 2 46 w.heap.size (Nat.le_refl _)⟩
  go_loopw [5, 6] (fun v i wr => ∃ k : Nat, i = .int .i64 (k : Int) ∧ Hid (k ≤ n) ∧ Hid (OwnH wr w.heap.size v (withoutH (l.take k) names)) ∧ Hid (Below w.heap.size w wr)) (fun v i wr => n - (intOf i).toNat)
  case atStart => exact ⟨0, rfl, Nat.zero_le _, HO0, HB0⟩
  case round =>
    obtain ⟨k, rfl, HK, HO, HBw⟩ := hrel
    by_cases hlt : k < n
    · have hi : (k : Int) < (n : Int) := by omega
      obtain ⟨V1, hV1⟩ : ∃ V1, V1 = wr := ⟨_, rfl⟩
      subst hV1
      have HQ := hid (HA.out (by have := HN.out; omega))
      obtain ⟨q, o, hq, hqs, hcs⟩ := HQ.out
      have hc := hcs k (by have := HN.out; omega)
      have HK1 : Hid (∀ W, Below w.heap.size w W → W.cell? ⟨q, o + k * 2, none⟩ = some (.string (asS (l.getD k zeroH).name))) := fun W hb => (hb.cell (p := ⟨q, o + k * 2, none⟩) hqs).trans hc.1
      have HK2 : Hid (∀ W, Below w.heap.size w W → W.cell? ⟨q, o + k * 2 + 1, none⟩ = some (.string (asS (l.getD k zeroH).value))) := fun W hb => (hb.cell (p := ⟨q, o + k * 2 + 1, none⟩) hqs).trans hc.2
      clear hcs hc hqs HQ
      subst hq
      have hsm := HSM.out k (by have := HN.out; omega)
      unfold hdl at hsm
      have HTK2 := hid (HTK.out k hlt)
      have hlen := HWL.out k
      have HAX2 := hid (fun (y : List UInt8) hy W => HAX.out (l.getD k zeroH).name y (by omega) hy W)
      have HKP : Hid (keepH names (l.getD k zeroH) = names.all fun x => !likeH (l.getD k zeroH).name x) := rfl
      have HKT2 := hid (HKT.out (l.getD k zeroH).name)
      generalize hhd : l.getD k zeroH = hd at HK1 HK2 HTK2 HAX2 HKP HKT2
      have HSRH := hid (fun W => src_hd W hd (asS hd.name) (asS hd.value) rfl rfl 1)
      generalize asS hd.name = N at HK1 HSRH HAX2
      generalize asS hd.value = X at HK2 HSRH
      generalize hd.name = nm at HAX2 HKP HKT2
      clear hsm hhd
      obtain ⟨AV, cv, hv⟩ := HO.out.shape
      subst hv
      generalize hAK : withoutH (l.take k) names = ak at HO HTK2 hlen
      clear hAK
      generalize hLN : ak.length = L at HO hlen ⊢
      have HLN := hid hLN
      clear hLN
      go_wp2_with fail
      go_loopw [7, 8] (fun b j wz => ∃ t : Nat, j = .int .i64 (t : Int) ∧ b = .bool ((names.take t).all fun x => !likeH nm x) ∧ Hid (t ≤ m) ∧ Hid (Below V1.heap.size V1 wz)) (fun b j wz => m - (intOf j).toNat)
      case atStart => exact ⟨0, rfl, rfl, Nat.zero_le _, Below.refl _ _⟩
      case round =>
        obtain ⟨t, rfl, rfl, HTM, HBz⟩ := hrel
        obtain ⟨V2, hV2⟩ : ∃ V2, V2 = wr := ⟨_, rfl⟩
        subst hV2
        have HBW := hid (HBw.out.trans (HBz.out.mono HBw.out.size))
        by_cases hlt2 : t < m
        · have hi2 : (t : Int) < (m : Int) := by omega
          have HKT3 := hid (HKT2.out t hlt2)
          generalize hkb : ((names.take t).all fun x => !likeH nm x) = kb at HKT3 ⊢
          clear hkb
          cases kb
          · go_wp2_with fail
            refine wp_region_quiet_below (by kernel_rfl) (by kernel_rfl) ?_
            repeat (go_big_quiet_step (fail))
            refine wpQuiet_nil ?_
            rintro W9 ⟨⟨dq, osq⟩, hw⟩
            have HB9 : Hid (Below V1.heap.size V1 W9) := by
              have := below_regrown V2 dq osq
              rw [← hw] at this
              exact HBz.out.trans (this.mono HBz.out.size)
            clear hw
            go_wp2_with fail
            go_roundw
            case rel => exact ⟨t + 1, by go_num, by rw [HKT3.out]; rfl, hid (by omega), HB9⟩
            case measure => simp [intOf]; omega
          · obtain ⟨q2, o2, hq2, hqs2, hcs2⟩ := HB.out (by have := HM.out; omega)
            have hc2 := hcs2 t (by have := HM.out; omega)
            have k3 := (HBW.out.cell (p := ⟨q2, o2 + t, none⟩) hqs2).trans hc2
            have k1 := HK1.out V2 HBW.out
            have HAX3 := hid (fun W => HAX2.out (names.getD t []) (HNS.out t hlt2) W)
            generalize asS (names.getD t []) = M at k3 HAX3
            generalize likeH nm (names.getD t []) = lk at HAX3 HKT3
            clear hcs2 hc2 hqs2
            subst hq2
            have k1r := cell_regrown k1
            have k3r := cell_regrown k3
            have c1 : REG 34 #[.string N, .string M] V2 (.bool lk) := fun dd os => Calls.regrown_of (HAX3.out _)
            clear k1 k3
            go_wp2_with fail
            refine wp_region_quiet_below (by kernel_rfl) (by kernel_rfl) ?_
            repeat (go_big_quiet_step (first | (go_at_call 34; exact c1 _ _)))
            refine wpQuiet_nil ?_
            rintro W9 ⟨⟨dq, osq⟩, hw⟩
            have HB9 : Hid (Below V1.heap.size V1 W9) := by
              have := below_regrown V2 dq osq
              rw [← hw] at this
              exact HBz.out.trans (this.mono HBz.out.size)
            clear hw k1r k3r c1
            go_wp2_with fail
            go_roundw
            case rel => exact ⟨t + 1, by go_num, by rw [HKT3.out]; rfl, hid (by omega), HB9⟩
            case measure => simp [intOf]; omega
        · have hi2 : ¬ (t : Int) < (m : Int) := by omega
          have HTE : Hid (names.take t = names) := by
            show _ = _
            rw [show t = m from by have := HTM.out; omega, HALN.out]
          rw [HTE.out, ← HKP.out]
          have HO2 := hid (HO.out.below HBz.out)
          clear HKT2 HTE
          generalize keepH names hd = kp at HTK2 ⊢
          cases kp
          · have HT3 : Hid (withoutH (l.take (k + 1)) names = ak) := by show _ = _; rw [HTK2.out]; simp
            go_wp2_with fail
            go_roundw
            case rel => exact ⟨k + 1, by go_num, hid (by omega), by rw [HT3.out]; exact HO2, HBW⟩
            case measure => simp [intOf]; omega
          · have HT3 : Hid (withoutH (l.take (k + 1)) names = ak ++ [hd]) := by show _ = _; rw [HTK2.out]; simp
            have k1 := HK1.out V2 HBW.out
            have k2 := HK2.out V2 HBW.out
            have HO4 := hid (HO2.out.below (alloc_below (Below.refl _ V2) (Nat.le_refl _) (.cells #[.string N, .string X] 46)))
            have HB5 := hid (alloc_below HBW.out HBW.out.size (.cells #[.string N, .string X] 46))
            have HSR5 := hid (HSRH.out V2)
            have HLE5 : Hid (ak.length + [hd].length ≤ 1000000) := by show _ ≤ _; rw [HLN.out]; simp; omega
            go_wp2_with (first
              | (refine wpList_hd rfl _ _ rfl w.heap.size _ _ ak [hd] rfl rfl HO4.out HSR5.out (by simp) HLE5.out HB5.out.size ?_)
              | fail)
            intro v6 W6 hown6 hb6
            have HB6 := hid (HB5.out.trans hb6)
            have HO6 := hid hown6
            clear hown6 hb6 k1 k2
            go_wp2_with fail
            go_roundw
            case rel => exact ⟨k + 1, by go_num, hid (by omega), by rw [HT3.out]; exact HO6, HB6⟩
            case measure => simp [intOf]; omega
    · have hi : ¬ (k : Int) < (n : Int) := by omega
      have HKE2 : Hid (l.take k = l) := by
        show _ = _
        rw [show k = n from by have := HK.out; omega, HALL.out]
      go_wp2_with fail
      go_ret
      exact ⟨_, rfl, by have := HO.out; rw [HKE2.out] at this; exact this, HBw.out⟩
end Go.Proofs.YtakompbdbmlocaaDoor
