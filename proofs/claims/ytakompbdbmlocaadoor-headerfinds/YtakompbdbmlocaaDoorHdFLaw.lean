
/- Which headers have a name, and headers with others in place of them, or without: the statement's walk. -/
import Derived.Test.YtakompbdbmlocaaDoorHdSet
import Derived.Test.YtakompbdbmlocaaDoorHdPLaw
namespace Go.Proofs.YtakompbdbmlocaaDoor
set_option linter.unusedVariables false
set_option linter.unusedSimpArgs false
open Go.RowKit Go.BigFrame

theorem src_hds {w : World} {A : Option Addr} {l : List HdV} (h : HdsAt w A l) (c : Nat) : Src Tryd.prog 2 22 (.slice A l.length c) l.length (hdvs l) w := by
  by_cases h0 : l.length = 0
  · obtain rfl := List.length_eq_zero_iff.1 h0
    cases A with
    | none => exact Src.ofNil w Tryd.underlying22 c
    | some a => exact Src.ofSlice w Tryd.underlying22 a 0 c [] rfl (fun j u hu => by simp at hu) (fun u hu => by cases hu)
  · obtain ⟨q, o, rfl, hq, hc⟩ := h (by omega)
    refine Src.ofSlice w Tryd.underlying22 ⟨q, o, none⟩ l.length c (hdvs l) (hdvs_len l) (fun j u hu => ?_) (fun u hu => ?_)
    · have hj : j < l.length * 2 := by have := (List.getElem?_eq_some_iff.1 hu).1; rw [hdvs_len] at this; exact this
      have hh := hc (j / 2) (by omega)
      have ha := hdvs_at l (j / 2) (by omega)
      rw [Addr.add_mid]
      rcases Nat.mod_two_eq_zero_or_one j with h2 | h2
      · have e : j / 2 * 2 = j := by omega
        rw [e] at hh ha
        rw [hh.1, ← ha.1, hu]
      · have e : j / 2 * 2 + 1 = j := by omega
        have h3 := hh.2
        rw [show o + j / 2 * 2 + 1 = o + j from by omega] at h3
        have h4 := ha.2
        rw [e] at h4
        rw [h3, ← h4, hu]
    · unfold hdvs at hu
      rw [List.mem_flatMap] at hu
      obtain ⟨x, _, hx⟩ := hu
      simp only [List.mem_cons, List.not_mem_nil, or_false] at hx
      rcases hx with rfl | rfl <;> rfl
theorem hds_ownK {w : World} {b g n cap : Nat} {l : List HdV} (h : OwnK w 2 46 b g n cap (hdvs l)) : HdsAt w (some ⟨g, 0, none⟩) l := fun _ => ⟨g, 0, rfl, h.lt, fun j hj => by
  have := hdvs_at l j hj
  exact ⟨by rw [Nat.zero_add]; exact h.at _ _ this.1, by rw [Nat.zero_add]; exact h.at _ _ this.2⟩⟩
theorem light_small (l : List HdV) (h : sizeH l ≤ 20000) : SmallH l := fun k hk => by have := hdl_le l k hk; omega
set_option maxHeartbeats 4000000 in
set_option maxRecDepth 100000 in
theorem finds9_law (l : List HdV) (A : Option Addr) (c : Nat) (hf : FitH l) (name : ByteArray) (names : List (List UInt8)) (B : Option Addr) (d : Nat) (w : World) (hA : HdsAt w A l) (hB : StrsAt w B names) (hT : TabS w) : Calls Tryd.prog 6 #[.slice A l.length c, .string name, .slice B names.length d] w fun e w' => e = .returned (.bool true) ∧ Below w.heap.size w w' := by
  have HT := hid hT
  have HA := hid hA
  have HB := hid hB
  have HAW := hid (fun W hW => awake9 W hW)
  have HLI := hid (light_any l A c hf w hA)
  clear hT hA hB hf
  obtain ⟨nm, rfl⟩ : ∃ nm : List UInt8, name = asS nm := ⟨name.data.toList, (asS_of name).symm⟩
  have hnz := asS_size nm
  cases hli : lightH l with
  | false =>
    rw [hli] at HLI
    generalize l.length = n at HLI ⊢
    generalize names.length = m
    generalize asS nm = NA
    clear hli hnz
    go_enter Tryd.func6, Tryd.ntmps6
    go_wp2_with fail
    refine HLI.out.mono ?_
    rintro e W1 ⟨rfl, hb1⟩
    have HB1 := hid hb1
    clear hb1 HLI
    go_wp2_with fail
    refine (HAW.out _ (HT.out.below HB1.out)).mono ?_
    rintro e W2 ⟨rfl, hb2⟩
    have HB2 := hid (HB1.out.trans (hb2.mono HB1.out.size))
    clear hb2
    go_wp2_with fail
    go_ret
    exact ⟨rfl, HB2.out⟩
  | true =>
    rw [hli] at HLI
    obtain ⟨hl1, hl2⟩ := light_fit l hli
    by_cases hnl : 2000 < nm.length
    · have h1 : (2000 : Int) < ((asS nm).size : Int) := by omega
      generalize l.length = n at HLI ⊢
      generalize names.length = m
      generalize asS nm = NA at h1
      clear hli hnz hnl hl1 hl2
      go_enter Tryd.func6, Tryd.ntmps6
      go_wp2_with fail
      refine HLI.out.mono ?_
      rintro e W1 ⟨rfl, hb1⟩
      have HB1 := hid hb1
      clear hb1 HLI
      go_wp2_with fail
      refine (HAW.out _ (HT.out.below HB1.out)).mono ?_
      rintro e W2 ⟨rfl, hb2⟩
      have HB2 := hid (HB1.out.trans (hb2.mono HB1.out.size))
      clear hb2
      go_wp2_with fail
      go_ret
      exact ⟨rfl, HB2.out⟩
    have h1 : ¬ (2000 : Int) < ((asS nm).size : Int) := by omega
    by_cases hml : 50 < names.length
    · have h2 : (50 : Int) < (names.length : Int) := by omega
      generalize l.length = n at HLI ⊢
      generalize names.length = m at h2 ⊢
      generalize asS nm = NA at h1
      clear hli hnz hnl hl1 hl2 hml
      go_enter Tryd.func6, Tryd.ntmps6
      go_wp2_with fail
      refine HLI.out.mono ?_
      rintro e W1 ⟨rfl, hb1⟩
      have HB1 := hid hb1
      clear hb1 HLI
      go_wp2_with fail
      refine (HAW.out _ (HT.out.below HB1.out)).mono ?_
      rintro e W2 ⟨rfl, hb2⟩
      have HB2 := hid (HB1.out.trans (hb2.mono HB1.out.size))
      clear hb2
      go_wp2_with fail
      go_ret
      exact ⟨rfl, HB2.out⟩
    have h2 : ¬ (50 : Int) < (names.length : Int) := by omega
    have hsm := light_small l hl2
    have HRA := hid (fun W hW => refAll_any l nm A c (by omega) hsm (by omega) W hW)
    have HGT := hid (fun W hW => get_any l nm A c (by omega) hsm (by omega) W hW)
    have HPA := hid (fun W hW => all9_any l nm A c (by omega) hsm (by omega) W hW)
    have hal1 := all_len l nm
    have HTX := hid (fun A1 A2 c1 c2 W h1 h2 => texts_same (allH l nm) A1 A2 c1 c2 (by omega) W h1 h2)
    have HSET := hid (fun X cap W hW => set9_any l nm [118] (some X) cap (by omega) hsm (by omega) (by decide) W hW)
    have HRW1 : Hid (∀ W g, HdsAt W A l → StrsAt W (some ⟨g, 0, none⟩) [nm] → Calls Tryd.prog 21 #[.slice A l.length c, .slice (some ⟨g, 0, none⟩) 1 1] W fun e w' => ∃ v, e = .returned v ∧ OwnH w' W.heap.size v (withoutH l [nm]) ∧ Below W.heap.size W w') := fun W g h3 h4 => refWithout_any l [nm] A (some ⟨g, 0, none⟩) c 1 (by omega) hsm (by simp) (fun t ht => by
      obtain rfl : t = 0 := by simp at ht; exact ht
      show nm.length ≤ _
      omega) W h3 h4
    have HW2 := hid (fun (hns : ∀ t, t < names.length → (names.getD t []).length ≤ 1000000) X cap W h3 h4 => without9_any l names (some X) B cap d (by omega) hsm (by omega) hns W h3 h4)
    have HRW2 := hid (fun (hns : ∀ t, t < names.length → (names.getD t []).length ≤ 1000000) W h3 h4 => refWithout_any l names A B c d (by omega) hsm (by omega) hns W h3 h4)
    have HSAME : Hid (∀ (k : List HdV), k.length ≤ 1000000 → ∀ A1 A2 c1 c2 W, HdsAt W A1 k → HdsAt W A2 k → Calls Tryd.prog 14 #[.slice A1 k.length c1, .slice A2 k.length c2] W fun e w' => e = .returned (.bool true) ∧ Below W.heap.size W w') := fun k hk A1 A2 c1 c2 W h3 h4 => by
      have := same_any k k A1 A2 c1 c2 hk W h3 h4
      rw [same_refl] at this
      exact this
    have HTK := hid (fun W => token_any nm (by omega) W)
    have HRT := hid (fun W => refToken_any nm (by omega) W)
    have HSRL := hid (fun W (hW : HdsAt W A l) => src_hds hW c)
    have HLKW : Hid ((withoutH l [nm] ++ [(⟨nm, [118]⟩ : HdV)]).length ≤ 1000000) := by
      have := without_len l [nm]
      show _ ≤ _
      simp; omega
    have HLK0 : Hid ((withoutH l [nm]).length + [(⟨nm, [118]⟩ : HdV)].length ≤ 1000000) := by
      have := without_len l [nm]
      show _ ≤ _
      simp; omega
    have HLWW : Hid ((withoutH l names).length ≤ 1000000) := by
      have := without_len l names
      show _ ≤ _
      omega
    have HLL : Hid (l.length ≤ 1000000) := by show _ ≤ _; omega
    have HSRN := hid (fun W => src_hd W ⟨nm, [118]⟩ (asS nm) ⟨#[118]⟩ rfl rfl 1)
    have HST1 := hid (fun W => strs_one W nm (asS nm) rfl)
    obtain ⟨al, hal⟩ : ∃ al, al = allH l nm := ⟨_, rfl⟩
    have HGV : Hid (getV l nm = al.headD [] ∧ getB l nm = !al.isEmpty) := by rw [hal]; exact ⟨rfl, rfl⟩
    rw [← hal] at HRA HPA HTX
    obtain ⟨GV, hGV⟩ : ∃ GV, GV = getV l nm := ⟨_, rfl⟩
    obtain ⟨GB, hGB⟩ : ∃ GB, GB = getB l nm := ⟨_, rfl⟩
    rw [← hGV, ← hGB] at HGT HGV
    have HAT : Hid (∀ v W, StrsV W v al → ∃ A1 c1, v = .slice A1 al.length c1 ∧ StrsAt W A1 al) := fun v W h => h
    generalize asS nm = NA at h1 hnz HRA HGT HPA HSET HTK HRT HSRN HST1 ⊢
    generalize tokenH nm = tk at HTK HRT
    obtain ⟨kw, hkw⟩ : ∃ kw, kw = withoutH l [nm] ++ [(⟨nm, [118]⟩ : HdV)] := ⟨_, rfl⟩
    have HKW := hid hkw
    rw [← hkw] at HSET HLKW
    obtain ⟨k0, hk0⟩ : ∃ k0, k0 = withoutH l [nm] := ⟨_, rfl⟩
    rw [← hk0] at HKW HRW1 HLK0
    obtain ⟨ww, hww⟩ : ∃ ww, ww = withoutH l names := ⟨_, rfl⟩
    rw [← hww] at HW2 HRW2 HLWW
    have HSM1 := hid (HSAME.out kw HLKW.out)
    have HSM2 := hid (HSAME.out l HLL.out)
    have HSM3 := hid (HSAME.out ww HLWW.out)
    clear hkw hk0 hww hal hGV hGB hsm hli hnl hml hal1 HSAME HLKW HLWW HLL hl2
    generalize hln : l.length = n at hl1 HLI HRA HGT HPA HSET HRW1 HW2 HRW2 HSM2 HSRL ⊢
    have HLN := hid hln
    clear hln
    generalize hnn : names.length = m at h2 HW2 HRW2 ⊢
    have HMN := hid hnn
    clear hnn
    generalize hKL : kw.length = KL at HSM1
    have HKL := hid hKL
    generalize hWL : ww.length = WL at HSM3
    have HWL := hid hWL
    clear hKL hWL
    go_enter Tryd.func6, Tryd.ntmps6
    go_wp2_with fail
    refine HLI.out.mono ?_
    rintro e W1 ⟨rfl, hb1⟩
    have HB1 := hid hb1
    clear hb1 HLI
    go_wp2_with fail
    have hm50 : m ≤ 50 := by omega
    clear h1 h2
    go_loopw [7] (fun i wr => ∃ t : Nat, i = .int .i64 (t : Int) ∧ Hid (t ≤ m) ∧ Hid (∀ j, j < t → (names.getD j []).length ≤ 1000000) ∧ Hid (Below w.heap.size w wr)) (fun i wr => m - (intOf i).toNat)
    case atStart => exact ⟨0, rfl, Nat.zero_le _, fun j hj => by omega, HB1⟩
    case round =>
      obtain ⟨t, rfl, HTM, HPS, HBw⟩ := hrel
      by_cases hlt : t < m
      · have hi : (t : Int) < (m : Int) := by omega
        obtain ⟨q, o, hq, hqs, hcs⟩ := HB.out (by have := HMN.out; omega)
        have k1 := (HBw.out.cell (p := ⟨q, o + t, none⟩) hqs).trans (hcs t (by have := HMN.out; omega))
        have hsz := asS_size (names.getD t [])
        have HPS2 : Hid ((names.getD t []).length ≤ 2000 → ∀ j, j < t + 1 → (names.getD j []).length ≤ 1000000) := fun h j hj => by
          rcases Nat.lt_succ_iff_lt_or_eq.1 hj with h1 | rfl
          · exact HPS.out j h1
          · omega
        generalize asS (names.getD t []) = N at k1 hsz
        have HSZ := hid hsz
        clear hcs hqs hsz
        subst hq
        by_cases h20 : 2000 < N.size
        · have h21 : (2000 : Int) < (N.size : Int) := by omega
          clear h20
          go_wp2_with fail
          refine (HAW.out _ (HT.out.below HBw.out)).mono ?_
          rintro e W2 ⟨rfl, hb2⟩
          have HB2 := hid (HBw.out.trans (hb2.mono HBw.out.size))
          clear hb2
          go_wp2_with fail
          go_ret
          exact ⟨rfl, HB2.out⟩
        · have h21 : ¬ (2000 : Int) < (N.size : Int) := by omega
          have HPS3 := hid (HPS2.out (by have := HSZ.out; omega))
          clear h20
          go_wp2_with fail
          go_roundw
          case rel => exact ⟨t + 1, by go_num, hid (by omega), HPS3, HBw⟩
          case measure => simp [intOf]; omega
      · have hi : ¬ (t : Int) < (m : Int) := by omega
        have HNS : Hid (∀ j, j < m → (names.getD j []).length ≤ 1000000) := fun j hj => HPS.out j (by omega)
        have HW3 := hid (HW2.out HNS.out)
        have HRW3 := hid (HRW2.out HNS.out)
        clear HW2 HRW2 HPS HTM
        go_wp2_with fail
        refine (HRA.out _ (HA.out.below HBw.out (Nat.le_refl _))).mono ?_
        rintro e W2 ⟨v2, rfl, hv2, hb2⟩
        have HB2 := hid (HBw.out.trans (hb2.mono HBw.out.size))
        have HV2 := hid hv2
        clear hb2 hv2
        go_wp2_with fail
        refine (HGT.out _ (HA.out.below HB2.out (Nat.le_refl _))).mono ?_
        rintro e W3 ⟨rfl, hb3⟩
        have HB3 := hid (HB2.out.trans (hb3.mono HB2.out.size))
        have HV3 := hid (HV2.out.below hb3)
        clear hb3 HV2
        go_wp2_with fail
        refine (HPA.out _ (HA.out.below HB3.out (Nat.le_refl _))).mono ?_
        rintro e W4 ⟨v4, rfl, hv4, hb4⟩
        have HB4 := hid (HB3.out.trans (hb4.mono HB3.out.size))
        have HV4 := hid (HV3.out.below hb4)
        clear hb4 HV3
        obtain ⟨A2, c2, he2, hat2⟩ := HV4.out
        obtain ⟨A4, c4, he4, hat4⟩ := hv4
        subst he2 he4
        have HAT2 := hid hat2
        have HTX2 := hid (HTX.out A4 A2 c4 c2 W4 hat4 hat2)
        clear hat2 hat4 HV4
        obtain ⟨GX, hGX⟩ : ∃ GX, GX = asS GV := ⟨_, rfl⟩
        rw [← hGX]
        have HGX := hid hGX
        clear hGX
        cases al with
        | nil =>
          have hgb : GB = false := HGV.out.2
          have hgx : GX = ⟨#[]⟩ := by rw [HGX.out, HGV.out.1]; rfl
          subst hgb hgx
          simp only [List.length_nil] at HTX2 ⊢
          have hne : ((⟨#[]⟩ : ByteArray).toList == (⟨#[]⟩ : ByteArray).toList) = true := by simp
          go_wp2_with fail
          refine HTX2.out.mono ?_
          rintro e W5 ⟨rfl, hb5⟩
          have HB5 := hid (HB4.out.trans (hb5.mono HB4.out.size))
          clear hb5 HTX2
          have HO6 : Hid (OwnK (W5.alloc (.cells #[] 46)) 2 46 w.heap.size W5.heap.size 0 0 []) := OwnK.zero W5 2 46 w.heap.size HB5.out.size
          have HB6 := hid (alloc_below HB5.out HB5.out.size (.cells #[] 46))
          have HSR6 := hid (HSRL.out _ (HA.out.below HB6.out (Nat.le_refl _)))
          go_wp2_with (first
            | (refine wpList_ownK hdK rfl _ _ rfl w.heap.size W5.heap.size 0 0 n [] (hdvs l) _ rfl rfl HO6.out HSR6.out (by omega) HB6.out.size ?_)
            | fail)
          intro g7 cap7 W7 hown7 hg7 hor7
          have HB7 := hid (HO6.out.grown HB6.out HB6.out.size hg7)
          have HH7 : Hid (HdsAt W7 (some ⟨g7, 0, none⟩) l) := by
            refine hid (hds_ownK (n := n) (cap := cap7) (b := w.heap.size) ?_)
            have := hown7
            simpa using this
          clear hown7 hg7 hor7
          go_wp2_with fail
          refine (HSET.out ⟨g7, 0, none⟩ cap7 _ HH7.out).mono ?_
          rintro e W8 ⟨v8, rfl, hv8, hb8⟩
          have HB8 := hid (HB7.out.trans (hb8.mono HB7.out.size))
          have HH8 := hid (HH7.out.below hb8 (Nat.le_refl _))
          have HV8 := hid hv8
          clear hb8 hv8
          have HB9 := hid (alloc_below HB8.out HB8.out.size (.cells #[.string NA] 9))
          have HA9 := hid (alloc_below (Below.refl W8.heap.size W8) (Nat.le_refl _) (.cells #[.string NA] 9))
          go_wp2_with fail
          refine (HRW1.out _ W8.heap.size (HA.out.below HB9.out (Nat.le_refl _)) (HST1.out W8)).mono ?_
          rintro e W10 ⟨v10, rfl, hv10, hb10⟩
          have HB10 := hid (HB9.out.trans (hb10.mono HB9.out.size))
          have HAB : Hid (Below W8.heap.size W8 W10) := HA9.out.trans (hb10.mono HA9.out.size)
          have HH10 := hid (HH8.out.below HAB.out (Nat.le_refl _))
          have HV10 := hid (HV8.out.below HAB.out)
          have HO10 := hid (hv10.mono HA9.out.size)
          clear hb10 hv10 HA9
          obtain ⟨AV, cv, hsh⟩ := HO10.out.shape
          subst hsh
          have HO11 := hid (HO10.out.below (alloc_below (Below.refl _ W10) (Nat.le_refl _) (.cells #[.string NA, .string ⟨#[118]⟩] 46)))
          have HB11 := hid (alloc_below HB10.out HB10.out.size (.cells #[.string NA, .string ⟨#[118]⟩] 46))
          have HAB11 := hid (alloc_below HAB.out HAB.out.size (.cells #[.string NA, .string ⟨#[118]⟩] 46))
          have HSR11 := hid (HSRN.out W10)
          generalize hk0l : k0.length = k0l at HO11 ⊢
          clear hk0l
          go_wp2_with (first
            | (refine wpList_hd rfl _ _ rfl W8.heap.size _ _ k0 [⟨nm, [118]⟩] rfl rfl HO11.out HSR11.out (by simp) HLK0.out HAB11.out.size ?_)
            | fail)
          intro v12 W12 hown12 hb12
          have HAB12 := hid (HAB11.out.trans hb12)
          have HB12 := hid (HB8.out.trans (HAB12.out.mono HB8.out.size))
          have HH12 := hid (HH8.out.below HAB12.out (Nat.le_refl _))
          have HV12 := hid (HV8.out.below HAB12.out)
          have HX12 : Hid (HdsV W12 v12 kw) := by rw [HKW.out]; exact hown12.hds
          clear hown12 hb12 HO11 HO10
          obtain ⟨A8, c8, he8, hat8⟩ := HV12.out
          obtain ⟨A12, c12, he12, hat12⟩ := HX12.out
          rw [HKL.out] at he8 he12
          subst he8 he12
          have HS13 := hid (HSM1.out A8 A12 c8 c12 W12 hat8 hat12)
          clear hat8 hat12 HV12 HX12
          go_wp2_with fail
          refine HS13.out.mono ?_
          rintro e W13 ⟨rfl, hb13⟩
          have HB13 := hid (HB12.out.trans (hb13.mono HB12.out.size))
          have HH13 := hid (HH12.out.below hb13 (Nat.le_refl _))
          clear hb13 HS13
          go_wp2_with fail
          refine (HSM2.out (some ⟨g7, 0, none⟩) A cap7 c _ HH13.out (HA.out.below HB13.out (Nat.le_refl _))).mono ?_
          rintro e W14 ⟨rfl, hb14⟩
          have HB14 := hid (HB13.out.trans (hb14.mono HB13.out.size))
          have HH14 := hid (HH13.out.below hb14 (Nat.le_refl _))
          clear hb14
          go_wp2_with fail
          refine (HW3.out ⟨g7, 0, none⟩ cap7 _ HH14.out (HB.out.below HB14.out (Nat.le_refl _))).mono ?_
          rintro e W15 ⟨v15, rfl, hv15, hb15⟩
          have HB15 := hid (HB14.out.trans (hb15.mono HB14.out.size))
          have HV15 := hid hv15.hds
          clear hb15 hv15
          go_wp2_with fail
          refine (HRW3.out _ (HA.out.below HB15.out (Nat.le_refl _)) (HB.out.below HB15.out (Nat.le_refl _))).mono ?_
          rintro e W16 ⟨v16, rfl, hv16, hb16⟩
          have HB16 := hid (HB15.out.trans (hb16.mono HB15.out.size))
          have HV16 := hid (HV15.out.below hb16)
          have HX16 := hid hv16.hds
          clear hb16 hv16 HV15
          obtain ⟨A15, c15, he15, hat15⟩ := HV16.out
          obtain ⟨A16, c16, he16, hat16⟩ := HX16.out
          rw [HWL.out] at he15 he16
          subst he15 he16
          have HS17 := hid (HSM3.out A15 A16 c15 c16 W16 hat15 hat16)
          clear hat15 hat16 HV16 HX16
          go_wp2_with fail
          refine HS17.out.mono ?_
          rintro e W17 ⟨rfl, hb17⟩
          have HB17 := hid (HB16.out.trans (hb17.mono HB16.out.size))
          clear hb17 HS17
          go_wp2_with fail
          refine (HTK.out _).mono ?_
          rintro e W18 ⟨rfl, hW18⟩
          rw [hW18]
          clear hW18
          go_wp2_with fail
          refine (HRT.out _).mono ?_
          rintro e W19 ⟨rfl, hW19⟩
          rw [hW19]
          clear hW19
          have htk : (tk == tk) = true := by simp
          have htk2 : decide (tk = tk) = true := by simp
          go_wp2_with fail
          refine (HAW.out _ (HT.out.below HB17.out)).mono ?_
          rintro e W20 ⟨rfl, hb20⟩
          have HB20 := hid (HB17.out.trans (hb20.mono HB17.out.size))
          clear hb20
          go_wp2_with fail
          go_ret
          exact ⟨rfl, HB20.out⟩
        | cons a0 r0 =>
          have hgb : GB = true := HGV.out.2
          have hgx : GX = asS a0 := by rw [HGX.out, HGV.out.1]; rfl
          subst hgb hgx
          obtain ⟨L, hL⟩ : ∃ L, L = (a0 :: r0).length := ⟨_, rfl⟩
          rw [← hL] at HTX2 ⊢
          have hL0 : (0 : Int) < (L : Int) := by rw [hL, List.length_cons]; omega
          have HL := hid hL
          clear hL
          obtain ⟨q, o, hq, hqs, hcs⟩ := HAT2.out (by simp)
          have hc0 := hcs 0 (by simp)
          subst hq
          have HC0 : Hid (∀ W, Below W4.heap.size W4 W → W.cell? ⟨q, o, none⟩ = some (.string (asS a0))) := fun W hb => (hb.cell (p := ⟨q, o, none⟩) hqs).trans hc0
          clear hcs hc0 hqs
          generalize asS a0 = S0 at HC0 ⊢
          go_wp2_with fail
          refine HTX2.out.mono ?_
          rintro e W5 ⟨rfl, hb5⟩
          have HB5 := hid (HB4.out.trans (hb5.mono HB4.out.size))
          have k0c := HC0.out W5 hb5
          have hne : (S0.toList == S0.toList) = true := by simp
          have hne2 : (S0.toList != S0.toList) = false := by simp
          clear hb5 HTX2
          have HO6 : Hid (OwnK (W5.alloc (.cells #[] 46)) 2 46 w.heap.size W5.heap.size 0 0 []) := OwnK.zero W5 2 46 w.heap.size HB5.out.size
          have HB6 := hid (alloc_below HB5.out HB5.out.size (.cells #[] 46))
          have HSR6 := hid (HSRL.out _ (HA.out.below HB6.out (Nat.le_refl _)))
          go_wp2_with (first
            | (refine wpList_ownK hdK rfl _ _ rfl w.heap.size W5.heap.size 0 0 n [] (hdvs l) _ rfl rfl HO6.out HSR6.out (by omega) HB6.out.size ?_)
            | fail)
          intro g7 cap7 W7 hown7 hg7 hor7
          have HB7 := hid (HO6.out.grown HB6.out HB6.out.size hg7)
          have HH7 : Hid (HdsAt W7 (some ⟨g7, 0, none⟩) l) := by
            refine hid (hds_ownK (n := n) (cap := cap7) (b := w.heap.size) ?_)
            have := hown7
            simpa using this
          clear hown7 hg7 hor7
          go_wp2_with fail
          refine (HSET.out ⟨g7, 0, none⟩ cap7 _ HH7.out).mono ?_
          rintro e W8 ⟨v8, rfl, hv8, hb8⟩
          have HB8 := hid (HB7.out.trans (hb8.mono HB7.out.size))
          have HH8 := hid (HH7.out.below hb8 (Nat.le_refl _))
          have HV8 := hid hv8
          clear hb8 hv8
          have HB9 := hid (alloc_below HB8.out HB8.out.size (.cells #[.string NA] 9))
          have HA9 := hid (alloc_below (Below.refl W8.heap.size W8) (Nat.le_refl _) (.cells #[.string NA] 9))
          go_wp2_with fail
          refine (HRW1.out _ W8.heap.size (HA.out.below HB9.out (Nat.le_refl _)) (HST1.out W8)).mono ?_
          rintro e W10 ⟨v10, rfl, hv10, hb10⟩
          have HB10 := hid (HB9.out.trans (hb10.mono HB9.out.size))
          have HAB : Hid (Below W8.heap.size W8 W10) := HA9.out.trans (hb10.mono HA9.out.size)
          have HH10 := hid (HH8.out.below HAB.out (Nat.le_refl _))
          have HV10 := hid (HV8.out.below HAB.out)
          have HO10 := hid (hv10.mono HA9.out.size)
          clear hb10 hv10 HA9
          obtain ⟨AV, cv, hsh⟩ := HO10.out.shape
          subst hsh
          have HO11 := hid (HO10.out.below (alloc_below (Below.refl _ W10) (Nat.le_refl _) (.cells #[.string NA, .string ⟨#[118]⟩] 46)))
          have HB11 := hid (alloc_below HB10.out HB10.out.size (.cells #[.string NA, .string ⟨#[118]⟩] 46))
          have HAB11 := hid (alloc_below HAB.out HAB.out.size (.cells #[.string NA, .string ⟨#[118]⟩] 46))
          have HSR11 := hid (HSRN.out W10)
          generalize hk0l : k0.length = k0l at HO11 ⊢
          clear hk0l
          go_wp2_with (first
            | (refine wpList_hd rfl _ _ rfl W8.heap.size _ _ k0 [⟨nm, [118]⟩] rfl rfl HO11.out HSR11.out (by simp) HLK0.out HAB11.out.size ?_)
            | fail)
          intro v12 W12 hown12 hb12
          have HAB12 := hid (HAB11.out.trans hb12)
          have HB12 := hid (HB8.out.trans (HAB12.out.mono HB8.out.size))
          have HH12 := hid (HH8.out.below HAB12.out (Nat.le_refl _))
          have HV12 := hid (HV8.out.below HAB12.out)
          have HX12 : Hid (HdsV W12 v12 kw) := by rw [HKW.out]; exact hown12.hds
          clear hown12 hb12 HO11 HO10
          obtain ⟨A8, c8, he8, hat8⟩ := HV12.out
          obtain ⟨A12, c12, he12, hat12⟩ := HX12.out
          rw [HKL.out] at he8 he12
          subst he8 he12
          have HS13 := hid (HSM1.out A8 A12 c8 c12 W12 hat8 hat12)
          clear hat8 hat12 HV12 HX12
          go_wp2_with fail
          refine HS13.out.mono ?_
          rintro e W13 ⟨rfl, hb13⟩
          have HB13 := hid (HB12.out.trans (hb13.mono HB12.out.size))
          have HH13 := hid (HH12.out.below hb13 (Nat.le_refl _))
          clear hb13 HS13
          go_wp2_with fail
          refine (HSM2.out (some ⟨g7, 0, none⟩) A cap7 c _ HH13.out (HA.out.below HB13.out (Nat.le_refl _))).mono ?_
          rintro e W14 ⟨rfl, hb14⟩
          have HB14 := hid (HB13.out.trans (hb14.mono HB13.out.size))
          have HH14 := hid (HH13.out.below hb14 (Nat.le_refl _))
          clear hb14
          go_wp2_with fail
          refine (HW3.out ⟨g7, 0, none⟩ cap7 _ HH14.out (HB.out.below HB14.out (Nat.le_refl _))).mono ?_
          rintro e W15 ⟨v15, rfl, hv15, hb15⟩
          have HB15 := hid (HB14.out.trans (hb15.mono HB14.out.size))
          have HV15 := hid hv15.hds
          clear hb15 hv15
          go_wp2_with fail
          refine (HRW3.out _ (HA.out.below HB15.out (Nat.le_refl _)) (HB.out.below HB15.out (Nat.le_refl _))).mono ?_
          rintro e W16 ⟨v16, rfl, hv16, hb16⟩
          have HB16 := hid (HB15.out.trans (hb16.mono HB15.out.size))
          have HV16 := hid (HV15.out.below hb16)
          have HX16 := hid hv16.hds
          clear hb16 hv16 HV15
          obtain ⟨A15, c15, he15, hat15⟩ := HV16.out
          obtain ⟨A16, c16, he16, hat16⟩ := HX16.out
          rw [HWL.out] at he15 he16
          subst he15 he16
          have HS17 := hid (HSM3.out A15 A16 c15 c16 W16 hat15 hat16)
          clear hat15 hat16 HV16 HX16
          go_wp2_with fail
          refine HS17.out.mono ?_
          rintro e W17 ⟨rfl, hb17⟩
          have HB17 := hid (HB16.out.trans (hb17.mono HB16.out.size))
          clear hb17 HS17
          go_wp2_with fail
          refine (HTK.out _).mono ?_
          rintro e W18 ⟨rfl, hW18⟩
          rw [hW18]
          clear hW18
          go_wp2_with fail
          refine (HRT.out _).mono ?_
          rintro e W19 ⟨rfl, hW19⟩
          rw [hW19]
          clear hW19
          have htk : (tk == tk) = true := by simp
          have htk2 : decide (tk = tk) = true := by simp
          go_wp2_with fail
          refine (HAW.out _ (HT.out.below HB17.out)).mono ?_
          rintro e W20 ⟨rfl, hb20⟩
          have HB20 := hid (HB17.out.trans (hb20.mono HB17.out.size))
          clear hb20
          go_wp2_with fail
          go_ret
          exact ⟨rfl, HB20.out⟩
end Go.Proofs.YtakompbdbmlocaaDoor
