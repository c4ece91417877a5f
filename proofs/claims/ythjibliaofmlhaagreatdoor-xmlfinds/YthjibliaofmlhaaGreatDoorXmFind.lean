
/- What Find of package xml does. -/
import Derived.Test.YthjibliaofmlhaaGreatDoorXmRnW
namespace Go.Proofs.YthjibliaofmlhaaGreatDoor
set_option linter.unusedVariables false
set_option linter.unusedSimpArgs false
open Go.RowKit Go.BigFrame
attribute [local go_sem ↓] loadN_eq

set_option maxHeartbeats 1000000 in
set_option maxRecDepth 100000 in
theorem renew_nil (w : World) : Calls Tryz.prog 45 #[.slice none 0 0] w fun e w' => (∃ v, e = .returned v) ∧ Below w.heap.size w w' := by
  obtain ⟨W0, hW0⟩ : ∃ W0, w.alloc (.cells #[.slice none 0 0] 23) = W0 := ⟨_, rfl⟩
  have hb0 : Below w.heap.size w W0 := by rw [← hW0]; exact (Below.refl _ _).alloc (Nat.le_refl _) _
  have hnw : W0.heap[w.heap.size]? = some (.cells #[.slice none 0 0] 23 (0, 0)) := by rw [← hW0]; exact heap_alloc_new w _
  have cB : W0.cell? ⟨w.heap.size, 0, none⟩ = some (.slice none 0 0) := cell_of_row _ _ _ _ _ _ hnw
  have HB0 := hid hb0
  clear hb0 hnw
  go_enter Tryz.func45, Tryz.ntmps45
  go_wp2_with fail
  clear hW0
  go_loop [2] (fun v => v = .slice (some ⟨w.heap.size, 0, none⟩) 1 1 ∨ v = .slice (some ⟨w.heap.size, 0, none⟩) 0 1) (fun v => (tri v).2.1)
  case atStart => exact .inl rfl
  case round =>
    rcases hrel with rfl | rfl
    · go_wp2_with fail
      go_loop [2, 23] (fun v i => v = .slice (some ⟨w.heap.size, 0, none⟩) 0 1 ∧ i = .int .i64 0) (fun v i => 0)
      case atStart => exact ⟨rfl, rfl⟩
      case round =>
        obtain ⟨rfl, rfl⟩ := hrel
        go_wp2_with fail
        go_round
        case rel => exact .inr rfl
        case measure => simp [tri]
    · go_wp2_with fail
      exact ⟨by simp, _, results_none rfl _ _ _, ⟨⟨_, rfl⟩, HB0.out⟩⟩
theorem b_thru {w w1 w2 : World} (h1 : Below w.heap.size w w1) (h2 : Below w1.heap.size w1 w2) : Below w.heap.size w w2 := h1.trans (h2.mono h1.size)
theorem sum_filter (d : Nat) (p : Tr d → Bool) : ∀ l : List (Tr d), sumN d (l.filter p) ≤ sumN d l
  | [] => Nat.le_refl _
  | t :: l => by
    have ih := sum_filter d p l
    have e : sumN d (t :: l) = szN d t + sumN d l := rfl
    rw [List.filter_cons]
    split
    · have e2 : sumN d (t :: l.filter p) = szN d t + sumN d (l.filter p) := rfl
      omega
    · omega
theorem sum_wt (d : Nat) (h : ∀ t : Tr d, szN d t ≤ 2 * wtT d t) : ∀ l : List (Tr d), sumN d l ≤ 2 * (l.map (wtT d)).sum
  | [] => Nat.le_refl _
  | t :: l => by
    have ih := sum_wt d h l
    have e : sumN d (t :: l) = szN d t + sumN d l := rfl
    have := h t
    rw [List.map_cons, List.sum_cons]
    omega
theorem szN_wt : ∀ (d : Nat) (t : Tr d), szN d t ≤ 2 * wtT d t
  | 0, t => by
    show 2 ≤ 2 * (1 + t.1.length + t.2.2.length + attW t.2.1)
    omega
  | d + 1, t => by
    have h := sum_wt d (szN_wt d) t.2
    show 2 + sumN d t.2 ≤ 2 * (1 + t.1.1.length + t.1.2.2.length + attW t.1.2.1 + (t.2.map (wtT d)).sum)
    omega
theorem wt_sum {d : Nat} {t : Tr d} (h : wtT d t ≤ 12000) : sumN (d - 1) (kidsT d t) ≤ 500000 := by
  have h1 := sum_wt (d - 1) (szN_wt (d - 1)) (kidsT d t)
  rw [wt_eq] at h
  omega
set_option maxHeartbeats 2000000 in
set_option maxRecDepth 100000 in
theorem find_any (nm : List UInt8) (d : Nat) (t : Tr d) (hw : wtT d t ≤ 12000) (cs : Array Value) (w : World) (hnd : NdAt (fun q => q < w.heap.size) d w cs t) : Calls Tryz.prog 22 #[.agg cs, .string (asS nm)] w fun e w' => Below w.heap.size w w' ∧ ∃ A c, e = .returned (.slice A (fndT nm (d - 1) (kidsT d t)).length c) ∧ NdsAt (fun _ => True) (d - 1) w' A (fndT nm (d - 1) (kidsT d t)) := by
  obtain ⟨aA, ac, kA, kc, rfl, _, hks, _⟩ := hnd.parts
  unfold ndcs
  have hk : (kidsT d t).length ≤ 12000 := (wt_parts hw).2.2.2.2.1
  have HKW : Hid (∀ t' ∈ kidsT d t, wtT (d - 1) t' ≤ 12000) := (wt_parts hw).2.2.2.2.2
  have HSUM := hid (wt_sum hw)
  have HKS := hid hks
  have HTK := hid (fnd_take nm (d - 1) (kidsT d t))
  have hqn : ((asS nm).toList == []) = nm.isEmpty := str_nil9 nm
  have HEQ : Hid (∀ x : List UInt8, ((asS x).toList == (asS nm).toList) = decide (x = nm)) := fun x => tl_two x nm
  clear hks hnd hw
  generalize asS (lab d t).2.2 = TX
  generalize asS (lab d t).1 = NM
  generalize (lab d t).2.1.length = an
  generalize kidsT d t = ks at HKS HTK hk HKW HSUM ⊢
  have HFL : Hid (∀ k, (fndT nm (d - 1) (ks.take k)).length ≤ 100000) := fun k => by
    have := fnd_len nm (d - 1) (ks.take k)
    rw [List.length_take] at this
    show _ ≤ _
    omega
  generalize hn : ks.length = n at hk HTK ⊢
  have HN := hid hn
  clear hn
  cases hz : nm.isEmpty with
  | true =>
    have HFE : Hid (fndT nm (d - 1) ks = []) := by
      show _ = _
      unfold fndT
      rw [List.filter_eq_nil_iff]
      intro x _
      unfold fndP
      rw [hz]
      simp
    rw [hz] at hqn
    rw [HFE.out]
    clear hz
    generalize asS nm = NS at hqn ⊢
    go_enter Tryz.func22, Tryz.ntmps22
    go_wp2_with fail
    go_ret
    exact ⟨(Below.refl _ _).alloc (Nat.le_refl _) _, none, 0, rfl, NdsAt.nil _ _ _ _⟩
  | false =>
    rw [hz] at hqn
    have HROW := hid (heap_alloc_new w (.cells #[.string NM, .slice aA an ac, .string TX, .slice kA n kc] 25))
    have HB0 := hid ((Below.refl w.heap.size w).alloc (Nat.le_refl _) (.cells #[.string NM, .slice aA an ac, .string TX, .slice kA n kc] 25))
    have HSZ : Hid ((w.alloc (.cells #[.string NM, .slice aA an ac, .string TX, .slice kA n kc] 25)).heap.size = w.heap.size + 1) := Array.size_push _
    obtain ⟨W0, hW0⟩ : ∃ W0, w.alloc (.cells #[.string NM, .slice aA an ac, .string TX, .slice kA n kc] 25) = W0 := ⟨_, rfl⟩
    rw [hW0] at HB0 HROW HSZ
    have c3 : W0.cell? ⟨w.heap.size, 3, none⟩ = some (.slice kA n kc) := cell_of_row _ _ _ _ _ _ HROW.out
    go_enter Tryz.func22, Tryz.ntmps22
    go_wp2_with fail
    clear c3
    go_loopw [5, 13] (fun v i wr => ∃ (k : Nat) (o : List (Tr (d - 1))), k ≤ n ∧ i = .int .i64 (k : Int) ∧ Hid (o = fndT nm (d - 1) (ks.take k)) ∧ Hid (KidsO w.heap.size W0.heap.size wr (d - 1) v o) ∧ Hid (Below W0.heap.size W0 wr)) (fun v i wr => n - (intOf i).toNat)
    case atStart => exact ⟨0, [], Nat.zero_le _, rfl, rfl, .inl ⟨rfl, rfl⟩, Below.refl _ _⟩
    case round =>
      obtain ⟨k, o, hk2, rfl, HO, HOW, HB⟩ := hrel
      have hbw : Hid (Below w.heap.size w wr) := HB0.out.trans (HB.out.mono HB0.out.size)
      by_cases hlt : k < n
      · have hi : (k : Int) < (n : Int) := by omega
        have hkl : k < ks.length := by have := HN.out; omega
        obtain ⟨q, o', aA2, ac2, kA2, kc2, rfl, hql, k1, k2, k3, k4, hnd⟩ := (HKS.out.below hbw.out (Nat.le_refl _)).at2 k hkl
        have hldq := loadN_mid k1 k2 k3 k4
        unfold ndcs at hnd
        have e1 : (lab (d - 1) (ks.getD k (zeroT (d - 1)))).1 = nmT (d - 1) (ks.getD k (zeroT (d - 1))) := rfl
        have e2 : (lab (d - 1) (ks.getD k (zeroT (d - 1)))).2.2 = txT (d - 1) (ks.getD k (zeroT (d - 1))) := rfl
        rw [e1, e2] at hnd
        have HND := hid hnd
        have HST := hid (HTK.out k hlt)
        rw [← HO.out] at HST
        have heq := HEQ.out (nmT (d - 1) (ks.getD k (zeroT (d - 1))))
        have HLE := hid (HFL.out k)
        rw [← HO.out] at HLE
        clear e1 e2 k2 k3 k4 hnd hkl hql
        unfold fndP at HST
        generalize (lab (d - 1) (ks.getD k (zeroT (d - 1)))).2.1.length = ln1 at hldq HND
        generalize (kidsT (d - 1) (ks.getD k (zeroT (d - 1)))).length = ln2 at hldq HND
        generalize asS (txT (d - 1) (ks.getD k (zeroT (d - 1)))) = KT at hldq HND
        by_cases he : nmT (d - 1) (ks.getD k (zeroT (d - 1))) = nm
        · rw [decide_eq_true he] at heq HST
          clear he
          generalize asS (nmT (d - 1) (ks.getD k (zeroT (d - 1)))) = KN at hldq HND k1 heq
          generalize ks.getD k (zeroT (d - 1)) = kid at HST HND
          rw [hz] at HST
          have HS2 : Hid (fndT nm (d - 1) (ks.take (k + 1)) = o ++ [kid]) := HST.out
          clear HST
          generalize asS nm = NS at heq hqn ⊢
          obtain ⟨V1, hV1⟩ : ∃ V1, wr.alloc (.cells #[.string KN, .slice aA2 ln1 ac2, .string KT, .slice kA2 ln2 kc2] 25) = V1 := ⟨_, rfl⟩
          have hrowV : V1.heap[wr.heap.size]? = some (.cells #[.string KN, .slice aA2 ln1 ac2, .string KT, .slice kA2 ln2 kc2] 25 (0, 0)) := by rw [← hV1]; exact heap_alloc_new wr _
          have hbV : Below wr.heap.size wr V1 := by rw [← hV1]; exact (Below.refl _ _).alloc (Nat.le_refl _) _
          have f0 : V1.cell? ⟨wr.heap.size, 0, none⟩ = some (.string KN) := cell_of_row _ _ _ _ _ _ hrowV
          have hld2 := loadN_run hrowV rfl
          have HBV := hid hbV
          have HNV := hid (HND.out.below hbV (Nat.le_refl _))
          have HOV := hid (HOW.out.below hbV)
          have HSV : Hid (w.heap.size ≤ W0.heap.size ∧ W0.heap.size ≤ V1.heap.size) := ⟨HB0.out.size, Nat.le_trans HB.out.size hbV.size⟩
          clear hrowV hbV
          go_wp2_with (first
            | (refine wpList_rowO rfl _ _ rfl w.heap.size W0.heap.size (d - 1) _ _ o _ kid rfl rfl (HOV.out.below ((Below.refl _ _).alloc (Nat.le_refl _) _)) (src_nd (HNV.out.below ((Below.refl V1.heap.size V1).alloc (Nat.le_refl _) _) (Nat.le_refl _)) V1.heap.size 1 (heap_alloc_new V1 _)) rfl (HNV.out.below ((Below.refl V1.heap.size V1).alloc (Nat.le_refl _) _) (Nat.le_refl _)) (by have := HLE.out; omega) HSV.out.1 (Nat.le_trans HSV.out.2 (by simp)) ?_)
            | fail)
          intro v' w' j1 j2
          have J1 := hid j1
          have HBN : Hid (Below W0.heap.size W0 w') := HB.out.trans ((HBV.out.mono HB.out.size).trans (((((Below.refl V1.heap.size V1).alloc (Nat.le_refl _) _)).mono HSV.out.2).trans j2))
          clear j1 j2
          go_wp2_with fail
          go_roundw
          case rel => exact ⟨k + 1, o ++ [kid], by omega, by go_num, HS2.out.symm, J1, HBN⟩
          case measure => simp [intOf]; omega
        · rw [decide_eq_false he] at heq HST
          have HS2 : Hid (fndT nm (d - 1) (ks.take (k + 1)) = o) := by
            show _ = _
            rw [HST.out]
            simp
          clear he HST
          generalize asS (nmT (d - 1) (ks.getD k (zeroT (d - 1)))) = KN at hldq HND k1 heq
          generalize asS nm = NS at heq hqn ⊢
          go_wp2_with fail
          go_roundw
          case rel => exact ⟨k + 1, o, by omega, by go_num, HS2.out.symm, HOW.out.below ((Below.refl _ _).alloc (Nat.le_refl _) _), HB.out.trans (((Below.refl _ _).alloc (Nat.le_refl _) _).mono HB.out.size)⟩
          case measure => simp [intOf]; omega
      · have hi : ¬ (k : Int) < (n : Int) := by omega
        have HFN : Hid (o = fndT nm (d - 1) ks) := by
          have := HO.out
          rw [List.take_of_length_le (by have := HN.out; omega)] at this
          exact this
        have HON := HOW.out
        rcases HON with ⟨h0, rfl⟩ | ⟨gF, cF, rfl, hge, hpos, hrow⟩
        · have ho : o = [] := List.length_eq_zero_iff.1 h0
          have HRN := hid (renew_nil wr)
          go_wp2_with (first
            | (go_at_call 45; refine HRN.out.mono ?_; rintro e w1 ⟨⟨v9, rfl⟩, hb1⟩)
            | fail)
          go_ret
          rw [← HFN.out]
          refine ⟨b_thru hbw.out hb1, none, 0, ?_, ?_⟩
          · rw [h0]; rfl
          · rw [ho]; exact NdsAt.nil _ _ _ _
        · have HLW : Hid (∀ t ∈ o, wtT (d - 1) t ≤ 12000) := fun t' h' => HKW.out t' (by rw [HFN.out] at h'; exact (List.mem_filter.1 h').1)
          have HSZ2 : Hid (szR (d - 1) o ≤ 1000000) := by
            have h1 := sum_filter (d - 1) (fndP nm (d - 1)) ks
            have h2 := HSUM.out
            show _ ≤ _
            rw [szR_eq, HFN.out]
            unfold fndT
            omega
          have HRN := hid (renew_any w.heap.size (d - 1) gF cF o wr hbw.out.size hrow hpos HLW.out HSZ2.out)
          clear hge hrow
          go_wp2_with (first
            | (go_at_call 45; refine HRN.out.mono ?_; rintro e w1 ⟨⟨v9, rfl⟩, hnds, hb1⟩)
            | fail)
          go_ret
          rw [← HFN.out]
          exact ⟨hbw.out.trans hb1, some ⟨gF, 0, none⟩, cF, rfl, hnds⟩
end Go.Proofs.YthjibliaofmlhaaGreatDoor
