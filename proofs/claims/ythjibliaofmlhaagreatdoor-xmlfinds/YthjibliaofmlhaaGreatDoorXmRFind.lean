
/- The reference's Attr and Text, walked. -/
import Derived.Test.YthjibliaofmlhaaGreatDoorXmSize
import Derived.Test.YthjibliaofmlhaaGreatDoorXmInner
namespace Go.Proofs.YthjibliaofmlhaaGreatDoor
set_option linter.unusedVariables false
set_option linter.unusedSimpArgs false
open Go.RowKit Go.BigFrame
attribute [local go_sem ↓] loadN_eq

set_option maxHeartbeats 1000000 in
theorem refAttr_any (nm : List UInt8) (l : List HdV) (n : Nat) (hn : l.length = n) (hl : n ≤ 1000000) (A : Option Addr) (c : Nat) (N T : ByteArray) (kA : Option Addr) (kn kc : Nat) (w : World) (hA : HdsAt w A l) :
    Calls Tryz.prog 18 #[.agg #[.string N, .slice A n c, .string T, .slice kA kn kc], .string (asS nm)] w fun e w' => e = .returned (.tuple #[.string (asS ((attrV nm l).getD [])), .bool (attrV nm l).isSome]) ∧ Below w.heap.size w w' := by
  have HA := hid hA
  have HT := hid (attr_take nm l)
  have HNO := hid (attr_none nm l)
  have HN := hid hn
  have HEQ : Hid (∀ x : List UInt8, ((asS x).toList == (asS nm).toList) = decide (x = nm)) := fun x => tl_two x nm
  clear hA hn
  generalize attrV nm l = V at HT HNO ⊢
  generalize asS nm = NM at HEQ ⊢
  have HROW := hid (heap_alloc_new w (.cells #[.string N, .slice A n c, .string T, .slice kA kn kc] 25))
  have HB0 := hid ((Below.refl w.heap.size w).alloc (Nat.le_refl _) (.cells #[.string N, .slice A n c, .string T, .slice kA kn kc] 25))
  obtain ⟨W0, hW0⟩ : ∃ W0, w.alloc (.cells #[.string N, .slice A n c, .string T, .slice kA kn kc] 25) = W0 := ⟨_, rfl⟩
  rw [hW0] at HB0 HROW
  have c1 : W0.cell? ⟨w.heap.size, 1, none⟩ = some (.slice A n c) := cell_of_row _ _ _ _ _ _ HROW.out
  go_enter Tryz.func18, Tryz.ntmps18
  go_wp2_with fail
  go_loopw [6] (fun i wr => ∃ k : Nat, k ≤ n ∧ i = .int .i64 (k : Int) ∧ Hid (∀ j, j < k → (l.getD j zeroH).name ≠ nm) ∧ wr = W0) (fun i wr => n - (intOf i).toNat)
  case atStart => exact ⟨0, Nat.zero_le _, rfl, (fun j hj => by omega), rfl⟩
  case round =>
    obtain ⟨k, hk, rfl, HP, rfl⟩ := hrel
    by_cases hlt : k < n
    · have hi : (k : Int) < (n : Int) := by omega
      have hkl : k < l.length := by have := HN.out; omega
      obtain ⟨q, o, hq, hqs, hcs⟩ := HA.out (by omega)
      subst hq
      have hc := hcs k hkl
      have k1 := (HB0.out.cell (p := ⟨q, o + k * 2, none⟩) hqs).trans hc.1
      have k2 := (HB0.out.cell (p := ⟨q, o + k * 2 + 1, none⟩) hqs).trans hc.2
      have HTK := hid (HT.out k hkl HP.out)
      have heq := HEQ.out (l.getD k zeroH).name
      have HST : Hid ((l.getD k zeroH).name ≠ nm → ∀ j, j < k + 1 → (l.getD j zeroH).name ≠ nm) := fun h => step_no (P := fun j => (l.getD j zeroH).name ≠ nm) HP.out h
      clear hcs hc hqs hkl
      by_cases he : (l.getD k zeroH).name = nm
      · rw [decide_eq_true he] at heq
        have HV := hid (HTK.out he)
        clear he
        generalize asS (l.getD k zeroH).name = HN' at k1 heq
        obtain ⟨VV, hVV⟩ : ∃ VV, asS (l.getD k zeroH).value = VV := ⟨_, rfl⟩
        have HVV := hid hVV
        rw [hVV] at k2
        clear hVV
        go_wp2_with fail
        go_ret2
        refine ⟨?_, HB0.out⟩
        rw [HV.out]
        show Ending.returned (.tuple #[.string VV, .bool true]) = .returned (.tuple #[.string (asS (l.getD k zeroH).value), .bool true])
        rw [HVV.out]
      · rw [decide_eq_false he] at heq
        have HST2 := hid (HST.out he)
        clear he
        generalize asS (l.getD k zeroH).name = HN' at k1 heq
        generalize asS (l.getD k zeroH).value = VV at k2
        go_wp2_with fail
        go_roundw
        case rel => exact ⟨k + 1, by omega, by go_num, HST2.out, by first | trivial | rfl⟩
        case measure => simp [intOf]; omega
    · have hi : ¬ (k : Int) < (n : Int) := by omega
      have HV := hid (HNO.out (fun j hj => HP.out j (by have := HN.out; omega)))
      go_wp2_with fail
      go_ret2
      refine ⟨?_, HB0.out⟩
      rw [HV.out]
      rfl
theorem text_wt : ∀ (d : Nat) (t : Tr d), (textT d t).length ≤ wtT d t := by
  have step : ∀ (d : Nat) (t : Tr d), ((kidsT d t).flatMap (textT (d - 1))).length ≤ ((kidsT d t).map (wtT (d - 1))).sum → (textT d t).length ≤ wtT d t := by
    intro d t h
    rw [text_eq, wt_eq]
    split <;> omega
  intro d
  induction d with
  | zero => intro t; exact step 0 t (Nat.le_refl _)
  | succ d ih =>
    intro t
    refine step (d + 1) t ?_
    show ((kidsT (d + 1) t).flatMap (textT d)).length ≤ ((kidsT (d + 1) t).map (wtT d)).sum
    generalize kidsT (d + 1) t = l
    induction l with
    | nil => exact Nat.le_refl _
    | cons a r ih2 =>
      have := ih a
      rw [List.flatMap_cons, List.length_append, List.map_cons, List.sum_cons]
      have h2 : (r.flatMap (textT d)).length ≤ (r.map (wtT d)).sum := ih2
      omega
def RtxOk (P : Nat → Prop) (d : Nat) (t : Tr d) : Prop := ∀ (cs : Array Value) (w : World), NdAt P d w cs t → Calls Tryz.prog 20 #[.agg cs] w fun e w' => e = .returned (.string (asS (textT d t))) ∧ Below w.heap.size w w'
set_option maxHeartbeats 1000000 in
set_option maxRecDepth 100000 in
theorem rtx_of (d : Nat) (t : Tr d) (P : Nat → Prop) (hw : wtT d t ≤ 12000) (IH : ∀ j, j < (kidsT d t).length → RtxOk P (d - 1) ((kidsT d t).getD j (zeroT (d - 1)))) : RtxOk P d t := by
  intro cs w hnd
  obtain ⟨aA, ac, kA, kc, rfl, _, hks, _⟩ := hnd.parts
  unfold ndcs
  have HIH := hid IH
  unfold RtxOk at HIH
  have HKS := hid hks
  have HD := hid (text_eq d t)
  have HTK : Hid (∀ k, k < (kidsT d t).length → ((kidsT d t).take k).flatMap (textT (d - 1)) ++ textT (d - 1) ((kidsT d t).getD k (zeroT (d - 1))) = ((kidsT d t).take (k + 1)).flatMap (textT (d - 1))) := fun k hk => by rw [take_getD (kidsT d t) (zeroT (d - 1)) k hk]; simp
  have hq : ((asS (lab d t).1).toList == []) = (nmT d t).isEmpty := str_nil9 _
  have hw5 := (wt_parts hw).2.2.2.2.1
  have HLE : Hid (∀ k, (((kidsT d t).take k).flatMap (textT (d - 1))).length ≤ 12000) := fun k => by
    have h1 : ((kidsT d t).flatMap (textT (d - 1))).length ≤ ((kidsT d t).map (wtT (d - 1))).sum := by
      generalize kidsT d t = l
      induction l with
      | nil => exact Nat.le_refl _
      | cons a r ih2 =>
        have := text_wt (d - 1) a
        rw [List.flatMap_cons, List.length_append, List.map_cons, List.sum_cons]
        omega
    have h2 := wt_eq d t
    have h3 : ((kidsT d t).flatMap (textT (d - 1))) = ((kidsT d t).take k).flatMap (textT (d - 1)) ++ ((kidsT d t).drop k).flatMap (textT (d - 1)) := by rw [← List.flatMap_append, List.take_append_drop]
    rw [h3, List.length_append] at h1
    show _ ≤ _
    omega
  have e2 : asS (txT d t) = asS (lab d t).2.2 := rfl
  have HTX := hid e2
  clear IH hks hnd hw e2
  generalize asS (lab d t).2.2 = TX at HTX ⊢
  generalize (nmT d t).isEmpty = z at hq HD
  generalize asS (lab d t).1 = NM at hq ⊢
  generalize (lab d t).2.1.length = an
  generalize textT d t = R at HD ⊢
  generalize kidsT d t = ks at HIH HKS HD HTK HLE hw5 ⊢
  generalize hn : ks.length = n at HIH HTK hw5 ⊢
  have HN := hid hn
  clear hn
  have HROW := hid (heap_alloc_new w (.cells #[.string NM, .slice aA an ac, .string TX, .slice kA n kc] 25))
  have HB0 := hid ((Below.refl w.heap.size w).alloc (Nat.le_refl _) (.cells #[.string NM, .slice aA an ac, .string TX, .slice kA n kc] 25))
  obtain ⟨W0, hW0⟩ : ∃ W0, w.alloc (.cells #[.string NM, .slice aA an ac, .string TX, .slice kA n kc] 25) = W0 := ⟨_, rfl⟩
  rw [hW0] at HB0 HROW
  have c0 : W0.cell? ⟨w.heap.size, 0, none⟩ = some (.string NM) := cell_of_row _ _ _ _ _ _ HROW.out
  have c2 : W0.cell? ⟨w.heap.size, 2, none⟩ = some (.string TX) := cell_of_row _ _ _ _ _ _ HROW.out
  cases z
  · rw [if_neg (by simp)] at HD
    go_enter Tryz.func20, Tryz.ntmps20
    go_wp2_with fail
    clear c0 c2 hW0
    go_loopw [3, 4] (fun v i wr => ∃ (k : Nat) (o : List UInt8), k ≤ n ∧ i = .int .i64 (k : Int) ∧ v = .string (asS o) ∧ Hid (o = (ks.take k).flatMap (textT (d - 1))) ∧ Hid (Below W0.heap.size W0 wr)) (fun v i wr => n - (intOf i).toNat)
    case atStart => exact ⟨0, [], Nat.zero_le _, rfl, rfl, rfl, Below.refl _ _⟩
    case round =>
      obtain ⟨k, o, hk2, rfl, rfl, HO, HB⟩ := hrel
      have c3 : wr.cell? ⟨w.heap.size, 3, none⟩ = some (.slice kA n kc) := cell_of_row _ _ _ _ _ _ (row_keep HB.out HROW.out)
      by_cases hlt : k < n
      · have hi : (k : Int) < (n : Int) := by omega
        have hkl : k < ks.length := by have := HN.out; omega
        have hbw : Below w.heap.size w wr := HB0.out.trans (HB.out.mono HB0.out.size)
        obtain ⟨q, o', a, b, c, e, rfl, hql, k1, k2, k3, k4, hnd⟩ := (HKS.out.below hbw (Nat.le_refl _)).at k hkl
        have hldq := loadN_mid k1 k2 k3 k4
        have HC := hid (HIH.out k hlt _ wr hnd)
        have HST := hid (HTK.out k hlt)
        rw [← HO.out] at HST
        have hlen := HLE.out (k + 1)
        rw [← HST.out] at hlen
        clear k1 k2 k3 k4 hnd hbw hkl hql
        generalize textT (d - 1) (ks.getD k (zeroT (d - 1))) = x at HC HST hlen
        have q1 : asS o ++ asS x = asS (o ++ x) := asS_app o x
        have q2 : ¬ (9223372036854775807 < (asS o).size + (asS x).size) := catB _ _ (by rw [List.length_append] at hlen; omega)
        generalize asS x = XS at HC q1 q2
        generalize asS o = OS at q1 q2 ⊢
        clear hlen
        go_wp2_with fail
        refine HC.out.mono ?_
        rintro e W2 ⟨rfl, hb2⟩
        have HB2 := hid (HB.out.trans (hb2.mono HB.out.size))
        clear hb2
        go_wp2_with fail
        go_roundw
        case rel => exact ⟨k + 1, o ++ x, by omega, by go_num, by first | rfl | rw [q1], HST.out, HB2.out⟩
        case measure => simp [intOf]; omega
      · have hi : ¬ (k : Int) < (n : Int) := by omega
        have HR : Hid (R = o) := by
          show _ = _
          rw [HD.out, HO.out, List.take_of_length_le (by have := HN.out; omega)]
        go_wp2_with fail
        go_ret
        exact ⟨by rw [HR.out]; rfl, HB0.out.trans (HB.out.mono HB0.out.size)⟩
  · rw [if_pos rfl] at HD
    go_enter Tryz.func20, Tryz.ntmps20
    go_wp2_with fail
    go_ret
    exact ⟨by rw [HD.out, HTX.out]; rfl, HB0.out⟩
theorem refTextT_any (P : Nat → Prop) : ∀ (d : Nat) (t : Tr d), wtT d t ≤ 12000 → RtxOk P d t
  | 0, t, h => rtx_of 0 t P h (fun j hj => absurd hj (Nat.not_lt_zero _))
  | d + 1, t, h => rtx_of (d + 1) t P h (fun j hj => refTextT_any P d _ ((wt_parts h).2.2.2.2.2 _ (getD_mem9 hj)))
end Go.Proofs.YthjibliaofmlhaaGreatDoor
