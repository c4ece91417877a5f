
/- A node made anew, its kids as they lie: what renewed of package xml does. -/
import Derived.Test.YthjibliaofmlhaaGreatDoorXmFnB
import Derived.Test.YthjibliaofmlhaaGreatDoorXmREl
import Derived.Test.YthjibliaofmlhaaGreatDoorXmRnM
import Derived.Test.YthjibliaofmlhaaGreatDoorXmNil0
namespace Go.Proofs.YthjibliaofmlhaaGreatDoor
set_option linter.unusedVariables false
set_option linter.unusedSimpArgs false
open Go.RowKit Go.BigFrame
attribute [local go_sem ↓] loadN_eq storeN_eq

/-- append(nil, a row of nodes). -/
theorem step_nilN {ops : Array Oper} {o : Oper} {a : Act} {w : World} {K : Act → World → Prop} {Q : Exit → Act → World → Prop} {E : Prop} (hgd : o.guard = none) (s x : Operand)
    (ho : o.op = .call { callee := .builtin .append, args := #[s, x], argTypes := #[23, 23] })
    (xv : Value) (n : Nat) (ys : List Value) (hs : a.eval s = .slice none 0 0) (hx : a.eval x = xv)
    (hA : Src Tryz.prog 4 23 xv n ys w) (h0 : 0 < n) (hn : n ≤ 1000000) (b : Nat) (hb : b ≤ w.heap.size)
    (h : ∀ cap w', OwnK w' 4 25 b w.heap.size n cap ys → Below w.heap.size w w' → K (a.put o.dst (.slice (some ⟨w.heap.size, 0, none⟩) n cap)) w') :
    if Region.wanted o (yielded ops a.tmps) = true then Oper.wp Tryz.prog o a w K Q else E := by
  have hw : Region.wanted o (yielded ops a.tmps) = true := by simp [Region.wanted, hgd]
  rw [if_pos hw]
  obtain ⟨cap, w', hr, h2, h3⟩ := run_nilK ndK (b := b) o.type xv hA h0 (by omega) hb
  unfold Oper.wp
  simp [execOp, ho, resolve, invoke, builtin, hs, hx, hr, Result.andThen]
  exact h cap w' h2 h3
theorem step_nil0 {ops : Array Oper} {o : Oper} {a : Act} {w : World} {K : Act → World → Prop} {Q : Exit → Act → World → Prop} {E : Prop} (hgd : o.guard = none) (s x : Operand)
    (ho : o.op = .call { callee := .builtin .append, args := #[s, x], argTypes := #[23, 23] })
    (A : Option Addr) (c : Nat) (hs : a.eval s = .slice none 0 0) (hx : a.eval x = .slice A 0 c)
    (h : K (a.put o.dst (.slice none 0 0)) w) :
    if Region.wanted o (yielded ops a.tmps) = true then Oper.wp Tryz.prog o a w K Q else E := by
  have hw : Region.wanted o (yielded ops a.tmps) = true := by simp [Region.wanted, hgd]
  rw [if_pos hw]
  unfold Oper.wp
  simp [execOp, ho, resolve, invoke, builtin, hs, hx, run_nil0, Result.andThen]
  exact h
theorem step_kids {ops : Array Oper} {o : Oper} {a : Act} {w : World} {K : Act → World → Prop} {Q : Exit → Act → World → Prop} {E : Prop} (hgd : o.guard = none) (s x : Operand)
    (ho : o.op = .call { callee := .builtin .append, args := #[s, x], argTypes := #[23, 23] })
    (n0 d : Nat) (A : Option Addr) (c : Nat) (l : List (Tr d)) (n : Nat) (hl : l.length = n) (hs : a.eval s = .slice none 0 0) (hx : a.eval x = .slice A n c)
    (hk : NdsAt (fun q => q < n0) d w A l) (h0 : 0 < n) (hn : n ≤ 1000000) (hb : n0 ≤ w.heap.size) (w0 : World) (hw0 : Below w0.heap.size w0 w)
    (h : ∀ cap g w', w0.heap.size ≤ g → RowO n0 w' d g cap l → Below w0.heap.size w0 w' → K (a.put o.dst (.slice (some ⟨g, 0, none⟩) n cap)) w') :
    if Region.wanted o (yielded ops a.tmps) = true then Oper.wp Tryz.prog o a w K Q else E := by
  subst hl
  obtain ⟨css, q1, q2, q3, q4⟩ := kids_src hk h0 c
  refine step_nilN hgd s x ho _ l.length (ndvs css) hs hx q4 h0 hn n0 hb fun cap w' j1 j2 => ?_
  exact h cap _ w' hw0.size ⟨css, q1, j1, q2, fun j hj => (q3 j hj).frame j2.size fun q hq hl => ⟨j2.block q hl, hq⟩⟩ (hw0.trans (j2.mono hw0.size))
theorem RowO.below {n0 d g cap : Nat} {w W : World} {l : List (Tr d)} (h : RowO n0 w d g cap l) (hb : Below w.heap.size w W) : RowO n0 W d g cap l := h.keep hb.size (hb.block g h.lt.1) (fun q _ hl => hb.block q hl)
theorem OwnH.base {w : World} {b b' : Nat} {v : Value} {l : List HdV} (h : OwnH w b v l) (hb : b' ≤ b) : OwnH w b' v l := by
  rcases h with h | ⟨q, cap, h1, h2⟩
  · exact .inl h
  · exact .inr ⟨q, cap, h1, Nat.le_trans hb h2.ge, h2.len, h2.row⟩
theorem OwnH.only {w W : World} {b g : Nat} {v : Value} {l : List HdV} (h : OwnH w b v l) (ho : Only g w W) (hg : g < b) : OwnH W b v l := by
  rcases h with h | ⟨q, cap, h1, h2⟩
  · exact .inl h
  · exact .inr ⟨q, cap, h1, h2.kept (ho.block q (by have := h2.ge; omega))⟩
theorem OwnH.slice {w : World} {b : Nat} {v : Value} {l : List HdV} (h : OwnH w b v l) : ∃ A c, v = .slice A l.length c := by
  rcases h with ⟨rfl, rfl⟩ | ⟨g, cap, rfl, _⟩
  · exact ⟨none, 0, rfl⟩
  · exact ⟨_, cap, rfl⟩
set_option maxHeartbeats 1000000 in
set_option maxRecDepth 100000 in
theorem renewed_any (n0 d : Nat) (t : Tr d) (hw : wtT d t ≤ 12000) (cs : Array Value) (w : World) (hn0 : n0 ≤ w.heap.size) (hnd : NdAt (fun q => q < n0) d w cs t) : Calls Tryz.prog 73 #[.agg cs] w fun e w' => Below w.heap.size w w' ∧ ∃ v kv, e = .returned (.agg #[.string (asS (nmT d t)), v, .string (asS (txT d t)), kv]) ∧ OwnH w' w.heap.size v (lab d t).2.1 ∧ KidsO n0 w.heap.size w' (d - 1) kv (kidsT d t) := by
  obtain ⟨aA, ac, kA, kc, rfl, hats, hks, _⟩ := hnd.parts
  unfold ndcs
  obtain ⟨w1, w2, w3, w4, w5, _⟩ := wt_parts hw
  have HA := hid hats.1
  have HKS := hid hks
  have HCN : Hid (∀ j, j < (lab d t).2.1.length → ∀ W, Calls Tryz.prog 43 #[.string (asS ((lab d t).2.1.getD j zeroH).name)] W fun e w' => e = .returned (.string (asS ((lab d t).2.1.getD j zeroH).name)) ∧ Below W.heap.size W w') := fun j hj W => clone8 _ (by rw [asS_size]; have := (w4 _ (getD_mem9 (z := zeroH) hj)).1; omega) W
  have HCV : Hid (∀ j, j < (lab d t).2.1.length → ∀ W, Calls Tryz.prog 43 #[.string (asS ((lab d t).2.1.getD j zeroH).value)] W fun e w' => e = .returned (.string (asS ((lab d t).2.1.getD j zeroH).value)) ∧ Below W.heap.size W w') := fun j hj W => clone8 _ (by rw [asS_size]; have := (w4 _ (getD_mem9 (z := zeroH) hj)).2; omega) W
  have HCM := hid (clone8 (asS (lab d t).1) (by rw [asS_size]; omega))
  have HCT := hid (clone8 (asS (lab d t).2.2) (by rw [asS_size]; omega))
  have HEN := hid (enters_of Tryz.func43 (by kernel_rfl) rfl)
  have e1 : asS (nmT d t) = asS (lab d t).1 := rfl
  have e2 : asS (txT d t) = asS (lab d t).2.2 := rfl
  rw [e1, e2]
  clear hats hks hnd w1 w2 w4 hw e1 e2
  generalize asS (lab d t).1 = NM at HCM ⊢
  generalize asS (lab d t).2.2 = TX at HCT ⊢
  generalize (lab d t).2.1 = al at HA HCN HCV w3 ⊢
  generalize kidsT d t = ks at HKS w5 ⊢
  have HAD := hid (take_getD al zeroH)
  generalize hn : ks.length = n at w5 ⊢
  generalize hm : al.length = m at HCN HCV HAD w3 ⊢
  have HN := hid hn
  have HM := hid hm
  clear hn hm
  have HROW := hid (heap_alloc_new w (.cells #[.string NM, .slice aA m ac, .string TX, .slice kA n kc] 25))
  have HB0 := hid ((Below.refl w.heap.size w).alloc (Nat.le_refl _) (.cells #[.string NM, .slice aA m ac, .string TX, .slice kA n kc] 25))
  have HSZ : Hid ((w.alloc (.cells #[.string NM, .slice aA m ac, .string TX, .slice kA n kc] 25)).heap.size = w.heap.size + 1) := Array.size_push _
  obtain ⟨W0, hW0⟩ : ∃ W0, w.alloc (.cells #[.string NM, .slice aA m ac, .string TX, .slice kA n kc] 25) = W0 := ⟨_, rfl⟩
  rw [hW0] at HB0 HROW HSZ
  have HR0 := hid (heap_alloc_new W0 (.cells #[.string ⟨#[]⟩, .slice none 0 0, .string ⟨#[]⟩, .slice none 0 0] 25 (0, 0)))
  have HB1 := hid ((Below.refl W0.heap.size W0).alloc (Nat.le_refl _) (.cells #[.string ⟨#[]⟩, .slice none 0 0, .string ⟨#[]⟩, .slice none 0 0] 25 (0, 0)))
  obtain ⟨W1, hW1⟩ : ∃ W1, W0.alloc (.cells #[.string ⟨#[]⟩, .slice none 0 0, .string ⟨#[]⟩, .slice none 0 0] 25 (0, 0)) = W1 := ⟨_, rfl⟩
  rw [hW1] at HR0 HB1
  have HRW := hid (row_keep HB1.out HROW.out)
  have c1 : W1.cell? ⟨w.heap.size, 1, none⟩ = some (.slice aA m ac) := cell_of_row _ _ _ _ _ _ HRW.out
  go_enter Tryz.func73, Tryz.ntmps73
  go_wp2_with fail
  clear c1
  go_loopw [3, 9] (fun v i wr => ∃ (k : Nat), k ≤ m ∧ i = .int .i64 (k : Int) ∧ Hid (OwnH wr W1.heap.size v (al.take k)) ∧ Hid (Below W1.heap.size W1 wr)) (fun v i wr => m - (intOf i).toNat)
  case atStart => exact ⟨0, Nat.zero_le _, rfl, .inl ⟨rfl, rfl⟩, Below.refl _ _⟩
  case round =>
    obtain ⟨k, hk2, rfl, HOW, HB⟩ := hrel
    have hbw : Hid (Below w.heap.size w wr) := (HB0.out.trans (HB1.out.mono HB0.out.size)).trans (HB.out.mono (HB0.out.trans (HB1.out.mono HB0.out.size)).size)
    by_cases hlt : k < m
    · have hi : (k : Int) < (m : Int) := by omega
      have hal : k < al.length := by have := HM.out; omega
      obtain ⟨q, o, hq, hqs, hcs⟩ := HA.out (by omega)
      subst hq
      have hc := hcs k hal
      have k1 := (hbw.out.cell (p := ⟨q, o + k * 2, none⟩) hqs).trans hc.1
      have k2 := (hbw.out.cell (p := ⟨q, o + k * 2 + 1, none⟩) hqs).trans hc.2
      have HC1 := hid (HCN.out k hlt)
      have HC2 := hid (HCV.out k hlt)
      have HST := hid (HAD.out k hlt)
      clear hcs hc hqs hal
      obtain ⟨hdv, hhd⟩ : ∃ x, al.getD k zeroH = x := ⟨_, rfl⟩
      rw [hhd] at k1 k2 HC1 HC2 HST
      clear hhd
      obtain ⟨A1, hA1⟩ : ∃ x, asS hdv.name = x := ⟨_, rfl⟩
      obtain ⟨A2, hA2⟩ : ∃ x, asS hdv.value = x := ⟨_, rfl⟩
      rw [hA1] at k1 HC1
      rw [hA2] at k2 HC2
      have HA1 := hid hA1
      have HA2 := hid hA2
      clear hA1 hA2
      obtain ⟨V, hV⟩ : ∃ V, wr.alloc (.cells #[.string A1, .string A2] 59) = V := ⟨_, rfl⟩
      have HVR := hid (heap_alloc_new wr (.cells #[.string A1, .string A2] 59))
      have hbV : Below wr.heap.size wr (wr.alloc (.cells #[.string A1, .string A2] 59)) := (Below.refl _ _).alloc (Nat.le_refl _) _
      rw [hV] at HVR hbV
      have HBV := hid hbV
      have HOV := hid (HOW.out.below hbV)
      clear hbV
      have HCA : Hid (∀ W, Below V.heap.size V W → Calls Tryz.prog 43 #[.string A1] W fun x w' => ∃ v, x = .returned v ∧ (v = .string A1 ∧ Below V.heap.size V w')) := fun W hW => (HC1.out W).mono fun x w' hh => ⟨_, hh.1, rfl, hW.trans (hh.2.mono hW.size)⟩
      have HCB : Hid (∀ W, Below V.heap.size V W → Calls Tryz.prog 43 #[.string A2] W fun x w' => ∃ v, x = .returned v ∧ (v = .string A2 ∧ Below V.heap.size V w')) := fun W hW => (HC2.out W).mono fun x w' hh => ⟨_, hh.1, rfl, hW.trans (hh.2.mono hW.size)⟩
      have f0 : V.cell? ⟨wr.heap.size, 0, none⟩ = some (.string A1) := cell_of_row _ _ _ _ _ _ HVR.out
      have f1 : V.cell? ⟨wr.heap.size, 1, none⟩ = some (.string A2) := cell_of_row _ _ _ _ _ _ HVR.out
      go_wp2_with fail
      have HLK : Hid ((al.take k).length + [hdv].length ≤ 1000000) := by show _ ≤ _; rw [List.length_take]; simp; omega
      have HCL : Hid (∀ W, Below V.heap.size V W → W.cell? ⟨wr.heap.size, 0, none⟩ = some (.string A1) ∧ W.cell? ⟨wr.heap.size, 1, none⟩ = some (.string A2)) := fun W hW => ⟨cell_of_row _ _ _ _ _ _ (row_keep hW HVR.out), cell_of_row _ _ _ _ _ _ (row_keep hW HVR.out)⟩
      have HBx : Hid (Below V.heap.size V V) := Below.refl _ _
      have HWV : Hid (W1.heap.size ≤ V.heap.size) := Nat.le_trans HB.out.size HBV.out.size
      go_region_law ((first
        | (refine step_call1 (by rfl) 43 _ _ (by rfl) HEN.out (.string A1) (by rfl) (HCA.out _ (by first | exact HBx.out | exact HBx.out.drew | exact below_drewN _ _ _ | exact (below_drewN _ _ _).drew | exact HBx.out.trans ((below_drewN _ _ _).mono HBx.out.size))) ?_; intro v1 w1 ha; have hv1 := ha.1; subst hv1; have HBx := hid ha.2; clear ha; obtain ⟨g0, g1⟩ := HCL.out w1 HBx.out)
        | (refine step_call1 (by rfl) 43 _ _ (by rfl) HEN.out (.string A2) (by rfl) (HCB.out _ (by first | exact HBx.out | exact HBx.out.drew | exact below_drewN _ _ _ | exact (below_drewN _ _ _).drew | exact HBx.out.trans ((below_drewN _ _ _).mono HBx.out.size))) ?_; intro v1 w1 ha; have hv1 := ha.1; subst hv1; have HBx := hid ha.2; clear ha; obtain ⟨g0, g1⟩ := HCL.out w1 HBx.out)
        | (refine step_hd (by rfl) _ _ (by rfl) W1.heap.size _ _ (al.take k) [hdv] (by rfl) (by rfl) (HOV.out.below (HBx.out.trans (((Below.refl _ _).alloc (Nat.le_refl _) _).mono HBx.out.size))) (src_hd _ hdv A1 A2 HA1.out.symm HA2.out.symm 1) (by simp) HLK.out (Nat.le_trans (Nat.le_trans HWV.out HBx.out.size) ((Below.refl 0 _).alloc (Nat.zero_le _) _).size) ?_; intro v' w' j1 j2; have J1 := hid j1; have HBN : Hid (Below W1.heap.size W1 w') := HB.out.trans ((HBV.out.mono HB.out.size).trans ((HBx.out.mono HWV.out).trans ((((Below.refl _ _).alloc (Nat.le_refl _) _).mono (Nat.le_trans HWV.out HBx.out.size)).trans j2))); clear j1 j2)
        | fail))
      all_goals
        go_simp
        go_wp2_with fail
        go_roundw
        case rel => exact ⟨k + 1, by omega, by go_num, by show OwnH _ _ _ _; rw [HST.out]; exact J1.out, HBN.out⟩
        case measure => simp [intOf]; omega
    · have hkm : k = m := by omega
      have HAL : Hid (al.take k = al) := List.take_of_length_le (by have := HM.out; omega)
      have hV := HOW.out
      rw [HAL.out] at hV
      obtain ⟨vA, vc, hvs⟩ := hV.slice
      rw [HM.out] at hvs
      subst hvs
      have HV := hid hV
      have hrw := row_keep HB.out HRW.out
      have hr0 := row_keep HB.out HR0.out
      have HLV : Hid (al.length = m) := HM
      have HCL : Hid (∀ W, Below wr.heap.size wr W → W.cell? ⟨w.heap.size, 0, none⟩ = some (.string NM) ∧ W.cell? ⟨w.heap.size, 2, none⟩ = some (.string TX) ∧ W.cell? ⟨w.heap.size, 3, none⟩ = some (.slice kA n kc)) := fun W hW => ⟨cell_of_row _ _ _ _ _ _ (row_keep hW hrw), cell_of_row _ _ _ _ _ _ (row_keep hW hrw), cell_of_row _ _ _ _ _ _ (row_keep hW hrw)⟩
      have HSTO : Hid (∀ W, Below wr.heap.size wr W → ∀ A k' c, (storeI 25 (.pointer (some ⟨W0.heap.size, 0, none⟩)) (.agg #[.string NM, .slice vA m vc, .string TX, .slice A k' c])).run Tryz.prog W = .ok () (putM W W0.heap.size #[.string NM, .slice vA m vc, .string TX, .slice A k' c])) := fun W hW A k' c => storeM_row infoN _ _ _ _ rfl rfl rfl rfl (row_keep hW hr0) rfl
      have HCA : Hid (∀ W, Below wr.heap.size wr W → Calls Tryz.prog 43 #[.string NM] W fun x w' => ∃ v, x = .returned v ∧ (v = .string NM ∧ Below wr.heap.size wr w' ∧ Below W.heap.size W w')) := fun W hW => (HCM.out W).mono fun x w' hh => ⟨_, hh.1, rfl, hW.trans (hh.2.mono hW.size), hh.2⟩
      have HCB : Hid (∀ W, Below wr.heap.size wr W → Calls Tryz.prog 43 #[.string TX] W fun x w' => ∃ v, x = .returned v ∧ (v = .string TX ∧ Below wr.heap.size wr w' ∧ Below W.heap.size W w')) := fun W hW => (HCT.out W).mono fun x w' hh => ⟨_, hh.1, rfl, hW.trans (hh.2.mono hW.size), hh.2⟩
      have HBx : Hid (Below wr.heap.size wr wr) := Below.refl _ _
      have hi : ¬ (k : Int) < (m : Int) := by omega
      have HRX := hid hr0
      have HWR : Hid (w.heap.size < W0.heap.size ∧ W0.heap.size < W1.heap.size ∧ W1.heap.size ≤ wr.heap.size) := ⟨by have := HSZ.out; omega, by rw [← hW1]; simp, HB.out.size⟩
      have HFIN : Hid (∀ W, Below wr.heap.size wr W → ∀ cs', Below w.heap.size w (putM W W0.heap.size cs') ∧ OwnH (putM W W0.heap.size cs') w.heap.size (.slice vA m vc) al) := fun W hW cs' => ⟨(hbw.out.trans (hW.mono hbw.out.size)).trans ((putM_only W W0.heap.size cs').below (by have := HWR.out; omega)), ((HV.out.below hW).only (putM_only W W0.heap.size cs') HWR.out.2.1).base (by have := HWR.out; omega)⟩
      have HKW : Hid (∀ W, Below wr.heap.size wr W → NdsAt (fun q => q < n0) (d - 1) W kA ks) := fun W hW => HKS.out.below (hbw.out.trans (hW.mono hbw.out.size)) (Nat.le_refl _)
      have HSW : Hid (∀ W, Below wr.heap.size wr W → n0 ≤ W.heap.size) := fun W hW => by have := hW.size; have := HWR.out; show _ ≤ _; omega
      have HROF : Hid (∀ W G cap, RowO n0 W (d - 1) G cap ks → wr.heap.size ≤ G → 0 < n → ∀ cs', KidsO n0 w.heap.size (putM W W0.heap.size cs') (d - 1) (.slice (some ⟨G, 0, none⟩) n cap) ks) := fun W G cap h hG hn1 cs' => by
        have hh := HWR.out
        have ho := putM_only W W0.heap.size cs'
        have hp : 0 < ks.length := by have := HN.out; omega
        exact .inr ⟨G, cap, by rw [HN.out], by omega, hp, h.keep (by rw [ho.size]; exact Nat.le_refl _) (ho.block G (by omega)) (fun q hq _ => ho.block q (by omega))⟩
      clear hrw hr0 hV HOW HCN HCV HAD hn0
      by_cases hz : n = 0
      · have hkl : ks.length = 0 := HN.out.trans hz
        subst hz
        have HKL := hid hkl
        clear hkl
        go_wp2_with fail
        obtain ⟨g0, g2, g3⟩ := HCL.out wr HBx.out
        go_region_law ((first
          | (refine step_call1 (by rfl) 43 _ _ (by rfl) HEN.out (.string NM) (by rfl) (HCA.out _ (by first | exact HBx.out | exact HBx.out.drew | exact below_drewN _ _ _ | exact (below_drewN _ _ _).drew | exact HBx.out.trans ((below_drewN _ _ _).mono HBx.out.size))) ?_; intro v1 w1 ha; have hv1 := ha.1; subst hv1; have HBx := hid ha.2.1; first | (have HRO := hid (HRO.out.below ha.2.2)) | skip; clear ha; obtain ⟨g0, g2, g3⟩ := HCL.out w1 HBx.out; have hst := HSTO.out w1 HBx.out)
          | (refine step_call1 (by rfl) 43 _ _ (by rfl) HEN.out (.string TX) (by rfl) (HCB.out _ (by first | exact HBx.out | exact HBx.out.drew | exact below_drewN _ _ _ | exact (below_drewN _ _ _).drew | exact HBx.out.trans ((below_drewN _ _ _).mono HBx.out.size))) ?_; intro v1 w1 ha; have hv1 := ha.1; subst hv1; have HBx := hid ha.2.1; first | (have HRO := hid (HRO.out.below ha.2.2)) | skip; clear ha; obtain ⟨g0, g2, g3⟩ := HCL.out w1 HBx.out; have hst := HSTO.out w1 HBx.out)
          | (refine step_nil0 (by rfl) _ _ (by rfl) kA kc (by rfl) (by rfl) ?_)
          | fail))
        all_goals
          go_simp
          go_wp2_with fail
          have hfin := HFIN.out w1 HBx.out
          exact bodyPost_ret (ret_nd1 Tryz.results73 _ _ W0.heap.size _ rfl (0, 0) rfl (putM_row (row_keep HBx.out HRX.out) rfl)) rfl ⟨(hfin _).1, _, _, rfl, (hfin _).2, .inl ⟨HKL.out, rfl⟩⟩
      · have hnp : 0 < n := by omega
        have hn6 : n ≤ 1000000 := by omega
        clear hz
        go_wp2_with fail
        obtain ⟨g0, g2, g3⟩ := HCL.out wr HBx.out
        go_region_law ((first
          | (refine step_call1 (by rfl) 43 _ _ (by rfl) HEN.out (.string NM) (by rfl) (HCA.out _ (by first | exact HBx.out | exact HBx.out.drew | exact below_drewN _ _ _ | exact (below_drewN _ _ _).drew | exact HBx.out.trans ((below_drewN _ _ _).mono HBx.out.size))) ?_; intro v1 w1 ha; have hv1 := ha.1; subst hv1; have HBx := hid ha.2.1; first | (have HRO := hid (HRO.out.below ha.2.2)) | skip; clear ha; obtain ⟨g0, g2, g3⟩ := HCL.out w1 HBx.out; have hst := HSTO.out w1 HBx.out)
          | (refine step_call1 (by rfl) 43 _ _ (by rfl) HEN.out (.string TX) (by rfl) (HCB.out _ (by first | exact HBx.out | exact HBx.out.drew | exact below_drewN _ _ _ | exact (below_drewN _ _ _).drew | exact HBx.out.trans ((below_drewN _ _ _).mono HBx.out.size))) ?_; intro v1 w1 ha; have hv1 := ha.1; subst hv1; have HBx := hid ha.2.1; first | (have HRO := hid (HRO.out.below ha.2.2)) | skip; clear ha; obtain ⟨g0, g2, g3⟩ := HCL.out w1 HBx.out; have hst := HSTO.out w1 HBx.out)
          | (refine step_kids (by rfl) _ _ (by rfl) n0 (d - 1) kA kc ks n HN.out (by rfl) (by rfl) (HKW.out _ (by first | exact HBx.out | exact HBx.out.drew | exact below_drewN _ _ _ | exact (below_drewN _ _ _).drew | exact HBx.out.trans ((below_drewN _ _ _).mono HBx.out.size))) hnp hn6 (HSW.out _ (by first | exact HBx.out | exact HBx.out.drew | exact below_drewN _ _ _ | exact (below_drewN _ _ _).drew | exact HBx.out.trans ((below_drewN _ _ _).mono HBx.out.size))) wr (by first | exact HBx.out | exact HBx.out.drew | exact below_drewN _ _ _ | exact (below_drewN _ _ _).drew | exact HBx.out.trans ((below_drewN _ _ _).mono HBx.out.size)) ?_; intro cap gK w1 hge j1 j2; have HRO := hid j1; have HGE := hid hge; have HBx := hid j2; clear j1 j2 hge; obtain ⟨g0, g2, g3⟩ := HCL.out w1 HBx.out; have hst := HSTO.out w1 HBx.out)
          | fail))
        all_goals
          go_simp
          go_wp2_with fail
          have hfin := HFIN.out w1 HBx.out
          exact bodyPost_ret (ret_nd1 Tryz.results73 _ _ W0.heap.size _ rfl (0, 0) rfl (putM_row (row_keep HBx.out HRX.out) rfl)) rfl ⟨(hfin _).1, _, _, rfl, (hfin _).2, HROF.out _ _ _ HRO.out HGE.out hnp _⟩
end Go.Proofs.YthjibliaofmlhaaGreatDoor
