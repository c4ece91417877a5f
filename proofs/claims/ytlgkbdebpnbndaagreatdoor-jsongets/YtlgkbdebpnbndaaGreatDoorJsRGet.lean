
/- What the reference's Get does. -/
import Derived.Test.YtlgkbdebpnbndaaGreatDoorJsGet
namespace Go.Proofs.YtlgkbdebpnbndaaGreatDoor
set_option linter.unusedVariables false
set_option linter.unusedSimpArgs false
open Go.RowKit Go.BigFrame
attribute [local go_sem ↓] buildV_eq loadV_eq

theorem idx_hit (nm : List UInt8) : ∀ (l : List (List UInt8)) (k : Nat), k < l.length → k ≤ l.idxOf nm → l.getD k [] = nm → l.idxOf nm = k
  | [], k, h, _, _ => by simp at h
  | a :: l, k, h, h2, h3 => by
    rw [List.idxOf_cons] at h2 ⊢
    cases k with
    | zero =>
      have : a = nm := h3
      subst this
      simp
    | succ k =>
      by_cases ha : (a == nm) = true
      · rw [ha] at h2
        simp at h2
      · have hf : (a == nm) = false := by simpa using ha
        rw [hf] at h2 ⊢
        simp only [cond_false] at h2 ⊢
        rw [idx_hit nm l k (by simpa using h) (by omega) h3]
theorem idx_miss (nm : List UInt8) : ∀ (l : List (List UInt8)) (k : Nat), k < l.length → k ≤ l.idxOf nm → l.getD k [] ≠ nm → k + 1 ≤ l.idxOf nm
  | [], k, h, _, _ => by simp at h
  | a :: l, k, h, h2, h3 => by
    rw [List.idxOf_cons] at h2 ⊢
    cases k with
    | zero =>
      have hf : (a == nm) = false := by simpa using h3
      rw [hf]
      simp
    | succ k =>
      by_cases ha : (a == nm) = true
      · rw [ha] at h2
        simp at h2
      · have hf : (a == nm) = false := by simpa using ha
        rw [hf] at h2 ⊢
        simp only [cond_false] at h2 ⊢
        have := idx_miss nm l k (by simpa using h) (by omega) h3
        omega
/-- What Get answers, when the place is O. -/
def GetP (P : Nat → Prop) (d : Nat) (ks : List (VJ (d - 1))) (O : Option Nat) (w : World) (e : Ending) (w' : World) : Prop :=
  (O = none → e = .returned (.tuple #[.agg #[.int .i64 0, .int .i64 0, .string ⟨#[]⟩, .slice none 0 0, .slice none 0 0], .bool false])) ∧ (∀ i, O = some i → ∃ cs', e = .returned (.tuple #[.agg cs', .bool true]) ∧ VAt P (d - 1) w' cs' (ks.getD i (zeroJ (d - 1)))) ∧ Below w.heap.size w w'
set_option maxHeartbeats 8000000 in
set_option maxRecDepth 100000 in
theorem refGet_any {P : Nat → Prop} {d : Nat} {w : World} {cs : Array Value} {t : VJ d} (h : VAt P d w cs t) (hw : wtJ d t ≤ 100000) (nm : List UInt8) : Calls Tryz.prog 19 #[.agg cs, .string (asS nm)] w fun e w' => GetP P d (kidsJ d t) (placeJ d t nm) w e w' := by
  obtain ⟨kA, kc, nA, nc, rfl, hna, hks, hkc⟩ := h.parts
  obtain ⟨_, w2, _, w4, _⟩ := wtJ_parts hw
  unfold vcs
  clear h hw
  have HNA := hid hna
  have HKS := hid hks
  have HIH := hid (idx_hit nm (labJ d t).2.2.2)
  have HIM := hid (idx_miss nm (labJ d t).2.2.2)
  have HTW : Hid (∀ k, ((asS ((labJ d t).2.2.2.getD k [])).toList == (asS nm).toList) = decide ((labJ d t).2.2.2.getD k [] = nm)) := fun k => tl_two _ _
  clear hna hks
  generalize hO : placeJ d t nm = O
  unfold placeJ at hO
  generalize asS (labJ d t).2.2.1 = TX
  generalize (labJ d t).1 = KI at hO ⊢
  generalize (labJ d t).2.1 = NU
  generalize (labJ d t).2.2.2 = al at HNA HIH HIM HTW w2 hO ⊢
  generalize kidsJ d t = ks at HKS w4 hkc hO ⊢
  generalize asS nm = NM at HTW ⊢
  generalize al.idxOf nm = x0 at HIH HIM hO ⊢
  generalize hm : al.length = m at HIH HIM w2 hO ⊢
  generalize hn : ks.length = n at w4 hkc hO ⊢
  have HM := hid hm
  have HN := hid hn
  have HYES : Hid (KI = 5 → x0 < m → x0 < n → O = some x0) := fun a b c => by rw [← hO, if_pos ⟨a, b, c⟩]
  have HNO : Hid ((KI ≠ 5 ∨ m ≤ x0 ∨ n ≤ x0) → O = none) := fun a => by rw [← hO, if_neg (by omega)]
  have HNONE : Hid (∀ W9, Below w.heap.size w W9 → O = none → GetP P d ks O w (.returned (.tuple #[.agg #[.int .i64 0, .int .i64 0, .string ⟨#[]⟩, .slice none 0 0, .slice none 0 0], .bool false])) W9) := fun W9 ho hp => ⟨fun _ => rfl, fun i hi => (by rw [hp] at hi; cases hi), ho⟩
  have HSOME : Hid (∀ W9 cs' k, Below w.heap.size w W9 → O = some k → VAt P (d - 1) W9 cs' (ks.getD k (zeroJ (d - 1))) → GetP P d ks O w (.returned (.tuple #[.agg cs', .bool true])) W9) := fun W9 cs' k ho hp hv => ⟨fun h => (by rw [hp] at h; cases h), fun i hi => (by rw [hp] at hi; injection hi with hi; subst hi; exact ⟨_, rfl, hv⟩), ho⟩
  clear hm hn hO
  have HB0 : Hid (Below w.heap.size w ((w.alloc (.cells #[.int .i64 KI, .int .i64 NU, .string TX, .slice kA n kc, .slice nA m nc] 25)).alloc (.cells #[.int .i64 0, .int .i64 0, .string ⟨#[]⟩, .slice none 0 0, .slice none 0 0] 25))) := ((Below.refl _ _).alloc (Nat.le_refl _) _).alloc (by simp) _
  have HX0 : Hid (((w.alloc (.cells #[.int .i64 KI, .int .i64 NU, .string TX, .slice kA n kc, .slice nA m nc] 25)).alloc (.cells #[.int .i64 0, .int .i64 0, .string ⟨#[]⟩, .slice none 0 0, .slice none 0 0] 25)).heap[w.heap.size]? = some (.cells #[.int .i64 KI, .int .i64 NU, .string TX, .slice kA n kc, .slice nA m nc] 25 (0, 0))) := heap_first w _ _
  have HQ0 : Hid (((w.alloc (.cells #[.int .i64 KI, .int .i64 NU, .string TX, .slice kA n kc, .slice nA m nc] 25)).alloc (.cells #[.int .i64 0, .int .i64 0, .string ⟨#[]⟩, .slice none 0 0, .slice none 0 0] 25)).heap[w.heap.size + 1]? = some (.cells #[.int .i64 0, .int .i64 0, .string ⟨#[]⟩, .slice none 0 0, .slice none 0 0] 25 (0, 0))) := heap_second w _ _
  have hbu : ∀ W, (buildI 25 #[]).run Tryz.prog W = .ok (.agg #[.int .i64 0, .int .i64 0, .string ⟨#[]⟩, .slice none 0 0, .slice none 0 0]) W := fun W => run_build W 25 _ _ built_vz
  go_enter Tryz.func19, Tryz.ntmps19
  go_wp2_with fail
  go_loopw [6] (fun i wr => ∃ k : Nat, k ≤ m ∧ i = .int .i64 (k : Int) ∧ Hid (k ≤ x0) ∧ Hid (Below w.heap.size w wr) ∧ Hid (wr.heap[w.heap.size]? = some (.cells #[.int .i64 KI, .int .i64 NU, .string TX, .slice kA n kc, .slice nA m nc] 25 (0, 0))) ∧ Hid (wr.heap[w.heap.size + 1]? = some (.cells #[.int .i64 0, .int .i64 0, .string ⟨#[]⟩, .slice none 0 0, .slice none 0 0] 25 (0, 0)))) (fun i wr => m - (intOf i).toNat)
  case atStart => exact ⟨0, Nat.zero_le _, rfl, Nat.zero_le _, HB0.out, HX0.out, HQ0.out⟩
  case round =>
    clear HB0 HX0 HQ0
    obtain ⟨k, hk2, rfl, HK, HB0, HX, HQ⟩ := hrel
    have c0 : wr.cell? ⟨w.heap.size, 0, none⟩ = some (.int .i64 KI) := cell_of_row _ _ _ _ _ _ HX.out
    have c3 : wr.cell? ⟨w.heap.size, 3, none⟩ = some (.slice kA n kc) := cell_of_row _ _ _ _ _ _ HX.out
    have c4 : wr.cell? ⟨w.heap.size, 4, none⟩ = some (.slice nA m nc) := cell_of_row _ _ _ _ _ _ HX.out
    by_cases hlt : k < m
    · have hi : (k : Int) < (m : Int) := by omega
      by_cases h5 : KI = 5
      · have hk5 : (KI == 5) = true := by simpa using h5
        have hal : k < al.length := by have := HM.out; omega
        obtain ⟨q, o, hq, _, hql, hc⟩ := HNA.out (by omega)
        have k1 := (HB0.out.cell (p := ⟨q, o + k, none⟩) hql).trans (hc k hal)
        have htw := HTW.out k
        subst hq
        clear hc hql HNA
        by_cases he : al.getD k [] = nm
        · have hx := HIH.out k hlt HK.out he
          rw [decide_eq_true he] at htw
          clear he HTW HIH HIM hal
          subst hx
          generalize asS (al.getD x0 []) = A1 at k1 htw
          by_cases hin : x0 < n
          · have hge : ¬ ((n : Int) ≤ (x0 : Int)) := by omega
            have hlt2 : (x0 : Int) < (n : Int) := by omega
            have HP := hid (HYES.out h5 hlt hin)
            obtain ⟨q2, o2, a, b, c, e, f, rfl, hq2, j1, j2, j3, j4, j5, hv⟩ := HKS.out.at x0 (by have := HN.out; omega)
            have hld := loadV_mid ((HB0.out.cell (p := ⟨q2, _, none⟩) hq2).trans j1) ((HB0.out.cell (p := ⟨q2, _, none⟩) hq2).trans j2) ((HB0.out.cell (p := ⟨q2, _, none⟩) hq2).trans j3) ((HB0.out.cell (p := ⟨q2, _, none⟩) hq2).trans j4) ((HB0.out.cell (p := ⟨q2, _, none⟩) hq2).trans j5)
            have HV := hid hv
            clear j1 j2 j3 j4 j5 hv HNONE HNO HYES HKS h5
            go_wp2_with (first
              | (refine wpList_store_abs rfl 25 (.tmp 4) (.tmp 36) rfl (w.heap.size + 1) 0 #[a, b, c, e, f] rfl rfl 25 _ HQ.out (Nat.le_refl 5) infoVj (vcs_one HV.out) ?_; intro W9 hO9 hW9)
              | fail)
            rw [over_whole #[.int .i64 0, .int .i64 0, .string ⟨#[]⟩, .slice none 0 0, .slice none 0 0] #[a, b, c, e, f] rfl] at hW9
            exact bodyPost_ret (ret_v2 (p := 4) (q := 5) Tryz.results19 _ _ (w.heap.size + 1) _ rfl (0, 0) _ rfl rfl hW9) rfl (HSOME.out _ _ x0 (HB0.out.trans (hO9.below (by omega))) HP.out (HV.out.frame (Nat.le_trans HB0.out.size (Nat.le_of_eq hO9.size.symm)) fun q hq hl => ⟨(hO9.block q (by omega)).trans (HB0.out.block q hl), hq⟩))
          · have hge : (n : Int) ≤ (x0 : Int) := by omega
            have HP := hid (HNO.out (.inr (.inr (by omega))))
            clear HNO HYES HSOME h5 HKS hin
            go_wp2_with (first
              | (refine wpList_store_abs rfl 25 (.tmp 4) (.tmp 31) rfl (w.heap.size + 1) 0 #[.int .i64 0, .int .i64 0, .string ⟨#[]⟩, .slice none 0 0, .slice none 0 0] rfl rfl 25 _ HQ.out (Nat.le_refl 5) infoVj (vcs_all _ _ _ _ _ _ _ _ _) ?_; intro W9 hO9 hW9)
              | fail)
            rw [over_whole #[.int .i64 0, .int .i64 0, .string ⟨#[]⟩, .slice none 0 0, .slice none 0 0] #[.int .i64 0, .int .i64 0, .string ⟨#[]⟩, .slice none 0 0, .slice none 0 0] rfl] at hW9
            exact bodyPost_ret (ret_v2 (p := 4) (q := 5) Tryz.results19 _ _ (w.heap.size + 1) _ rfl (0, 0) _ rfl rfl hW9) rfl (HNONE.out W9 (HB0.out.trans (hO9.below (by omega))) HP.out)
        · have HK2 := hid (HIM.out k hlt HK.out he)
          rw [decide_eq_false he] at htw
          clear he hal
          generalize asS (al.getD k []) = A1 at k1 htw
          go_wp2_with fail
          go_roundw
          case rel => exact ⟨k + 1, by omega, by go_num, HK2, HB0, HX, HQ⟩
          case measure => simp [intOf]; omega
      · have hk5 : (KI == 5) = false := by simpa using h5
        have HP := hid (HNO.out (.inl h5))
        clear HNO HYES HSOME h5 HKS HNA HIH HIM HTW
        go_wp2_with (first
          | (refine wpList_store_abs rfl 25 (.tmp 4) (.tmp 37) rfl (w.heap.size + 1) 0 #[.int .i64 0, .int .i64 0, .string ⟨#[]⟩, .slice none 0 0, .slice none 0 0] rfl rfl 25 _ HQ.out (Nat.le_refl 5) infoVj (vcs_all _ _ _ _ _ _ _ _ _) ?_; intro W9 hO9 hW9)
          | fail)
        rw [over_whole #[.int .i64 0, .int .i64 0, .string ⟨#[]⟩, .slice none 0 0, .slice none 0 0] #[.int .i64 0, .int .i64 0, .string ⟨#[]⟩, .slice none 0 0, .slice none 0 0] rfl] at hW9
        exact bodyPost_ret (ret_v2 (p := 4) (q := 5) Tryz.results19 _ _ (w.heap.size + 1) _ rfl (0, 0) _ rfl rfl hW9) rfl (HNONE.out W9 (HB0.out.trans (hO9.below (by omega))) HP.out)
    · have hi : ¬ (k : Int) < (m : Int) := by omega
      have HP := hid (HNO.out (.inr (.inl (by have := HK.out; omega))))
      clear HNO HYES HSOME HKS HNA HIH HIM HTW
      go_wp2_with (first
        | (refine wpList_store_abs rfl 25 (.tmp 4) (.tmp 37) rfl (w.heap.size + 1) 0 #[.int .i64 0, .int .i64 0, .string ⟨#[]⟩, .slice none 0 0, .slice none 0 0] rfl rfl 25 _ HQ.out (Nat.le_refl 5) infoVj (vcs_all _ _ _ _ _ _ _ _ _) ?_; intro W9 hO9 hW9)
        | fail)
      rw [over_whole #[.int .i64 0, .int .i64 0, .string ⟨#[]⟩, .slice none 0 0, .slice none 0 0] #[.int .i64 0, .int .i64 0, .string ⟨#[]⟩, .slice none 0 0, .slice none 0 0] rfl] at hW9
      exact bodyPost_ret (ret_v2 (p := 4) (q := 5) Tryz.results19 _ _ (w.heap.size + 1) _ rfl (0, 0) _ rfl rfl hW9) rfl (HNONE.out W9 (HB0.out.trans (hO9.below (by omega))) HP.out)
end Go.Proofs.YtlgkbdebpnbndaaGreatDoor
