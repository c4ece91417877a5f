
/- Where an object has the value of a name; Get. -/
import Derived.Test.YtlgkbdebpnbndaaGreatDoorJsRnW
namespace Go.Proofs.YtlgkbdebpnbndaaGreatDoor
set_option linter.unusedVariables false
set_option linter.unusedSimpArgs false
open Go.RowKit Go.BigFrame
attribute [local go_sem ↓] buildV_eq

/-- Where an object has the value of a name. -/
def placeJ (d : Nat) (t : VJ d) (nm : List UInt8) : Option Nat :=
  if (labJ d t).1 = 5 ∧ (labJ d t).2.2.2.idxOf nm < (labJ d t).2.2.2.length ∧ (labJ d t).2.2.2.idxOf nm < (kidsJ d t).length then some ((labJ d t).2.2.2.idxOf nm) else none
theorem asS_eqJ {a b : List UInt8} : asS a = asS b ↔ a = b := ⟨fun h => by
  have := congrArg (fun s : ByteArray => s.data.toList) h
  simpa [asS_data] using this, fun h => by rw [h]⟩
theorem idx_from (nm : List UInt8) : ∀ (l : List (List UInt8)) (i : Nat), Lib.idxFromS (l.map asS) (asS nm) i = if l.idxOf nm < l.length then ((i + l.idxOf nm : Nat) : Int) else -1
  | [], i => rfl
  | a :: l, i => by
    rw [List.map_cons]
    unfold Lib.idxFromS
    by_cases h : a = nm
    · subst h
      simp
    · have h2 : ¬ asS a = asS nm := fun e => h (asS_eqJ.1 e)
      have h3 : (a == nm) = false := by simpa using h
      rw [if_neg h2, idx_from nm l (i + 1), List.idxOf_cons, h3]
      simp only [List.length_cons, cond_false]
      by_cases h4 : l.idxOf nm < l.length
      · rw [if_pos h4, if_pos (by omega)]
        congr 1
        omega
      · rw [if_neg h4, if_neg (by omega)]
theorem index_any {P : Nat → Prop} {w : World} {A : Option Addr} {l : List (List UInt8)} (h : NmsP P w A l) (hl : l.length ≤ 1000000) (c : Nat) (nm : List UInt8) : Calls Tryz.prog 74 #[.slice A l.length c, .string (asS nm)] w fun e w' => e = .returned (.int .i64 (if l.idxOf nm < l.length then ((l.idxOf nm : Nat) : Int) else -1)) ∧ w' = w := by
  have hi := idx_from nm l 0
  rw [Nat.zero_add] at hi
  by_cases h0 : l.length = 0
  · have hl0 := List.length_eq_zero_iff.1 h0
    subst hl0
    exact Tryz.slices_Index_string_empty A c (asS nm) w
  · obtain ⟨q, o, rfl, _, _, hc⟩ := h (by omega)
    refine (Tryz.slices_Index_string q o l.length c (l.map asS) (asS nm) w (by rw [List.length_map]; exact Nat.le_refl _) (by omega) (fun j hj => ?_)).mono fun e w' hh => ⟨?_, hh.2⟩
    · rw [List.length_map] at hj
      rw [hc j hj]
      simp [List.getD_eq_getElem?_getD, hj]
    · rw [hh.1, ← hi]
      congr 3
      exact List.take_of_length_le (by rw [List.length_map]; exact Nat.le_refl _)
set_option maxHeartbeats 2000000 in
set_option maxRecDepth 100000 in
theorem place_any {P : Nat → Prop} {d : Nat} {w : World} {cs : Array Value} {t : VJ d} (h : VAt P d w cs t) (hw : wtJ d t ≤ 100000) (nm : List UInt8) : Calls Tryz.prog 43 #[.agg cs, .string (asS nm)] w fun e w' => (∀ i, placeJ d t nm = some i → e = .returned (.int .i64 i)) ∧ (placeJ d t nm = none → e = .returned (.int .i64 (-1))) ∧ Below w.heap.size w w' := by
  obtain ⟨kA, kc, nA, nc, rfl, hn, _, _⟩ := h.parts
  obtain ⟨_, w2, _, w4, _⟩ := wtJ_parts hw
  unfold vcs placeJ
  generalize asS (labJ d t).2.2.1 = TX
  generalize (labJ d t).1 = KI
  generalize (labJ d t).2.1 = NU
  generalize (labJ d t).2.2.2 = al at hn w2 ⊢
  generalize (kidsJ d t).length = n at w4 ⊢
  have HIX := hid (fun W (hb : Below w.heap.size w W) => index_any (hn.frame (P' := fun _ => True) hb.size fun q hq hl => ⟨hb.block q hl, trivial⟩) (by omega) nc nm)
  generalize asS nm = NM at HIX ⊢
  have hix := List.idxOf_le_length (l := al) (a := nm)
  generalize al.idxOf nm = i0 at HIX hix ⊢
  generalize al.length = m at HIX w2 hix ⊢
  clear h hw hn
  have HB := hid ((Below.refl w.heap.size w).alloc (Nat.le_refl _) (.cells #[.int .i64 KI, .int .i64 NU, .string TX, .slice kA n kc, .slice nA m nc] 25))
  have HRW := hid (heap_alloc_new w (.cells #[.int .i64 KI, .int .i64 NU, .string TX, .slice kA n kc, .slice nA m nc] 25 (0, 0)))
  have HI1 := hid (HIX.out _ HB.out)
  obtain ⟨W0, hW0⟩ : ∃ W0, w.alloc (.cells #[.int .i64 KI, .int .i64 NU, .string TX, .slice kA n kc, .slice nA m nc] 25) = W0 := ⟨_, rfl⟩
  rw [hW0] at HB HRW HI1
  have c0 : W0.cell? ⟨w.heap.size, 0, none⟩ = some (.int .i64 KI) := cell_of_row _ _ _ _ _ _ HRW.out
  have c3 : W0.cell? ⟨w.heap.size, 3, none⟩ = some (.slice kA n kc) := cell_of_row _ _ _ _ _ _ HRW.out
  have c4 : W0.cell? ⟨w.heap.size, 4, none⟩ = some (.slice nA m nc) := cell_of_row _ _ _ _ _ _ HRW.out
  clear HIX HRW
  by_cases h5 : KI = 5
  · subst h5
    by_cases h6 : i0 < m
    · rw [if_pos h6] at HI1
      have HIM := hid h6
      clear h6
      by_cases h7 : i0 < n
      · have hi : ¬ ((n : Int) ≤ (i0 : Int)) := by omega
        have HPO : Hid ((if (5 : Int) = 5 ∧ i0 < m ∧ i0 < n then some i0 else none) = some i0) := if_pos ⟨rfl, HIM.out, h7⟩
        rw [HPO.out]
        go_enter Tryz.func43, Tryz.ntmps43
        go_wp2_with fail
        refine HI1.out.mono ?_
        rintro e W ⟨rfl, hww⟩
        obtain rfl := hww.symm
        go_wp2_with fail
        go_ret
        exact ⟨(fun i h => by injection h with h; subst h; rfl), (fun h => by cases h), HB.out⟩
      · have hi : (n : Int) ≤ (i0 : Int) := by omega
        have HPO : Hid ((if (5 : Int) = 5 ∧ i0 < m ∧ i0 < n then some i0 else none) = none) := if_neg (fun h => h7 h.2.2)
        rw [HPO.out]
        go_enter Tryz.func43, Tryz.ntmps43
        go_wp2_with fail
        refine HI1.out.mono ?_
        rintro e W ⟨rfl, hww⟩
        obtain rfl := hww.symm
        go_wp2_with fail
        go_ret
        exact ⟨(fun i h => by cases h), (fun _ => rfl), HB.out⟩
    · rw [if_neg h6] at HI1
      have hi : ¬ ((n : Int) ≤ -1) := by omega
      have HPO : Hid ((if (5 : Int) = 5 ∧ i0 < m ∧ i0 < n then some i0 else none) = none) := if_neg (fun h => h6 h.2.1)
      rw [HPO.out]
      clear h6
      go_enter Tryz.func43, Tryz.ntmps43
      go_wp2_with fail
      refine HI1.out.mono ?_
      rintro e W ⟨rfl, hww⟩
      obtain rfl := hww.symm
      go_wp2_with fail
      go_ret
      exact ⟨(fun i h => by cases h), (fun _ => rfl), HB.out⟩
  · have hk : (KI == 5) = false := by simpa using h5
    have HPO : Hid ((if KI = 5 ∧ i0 < m ∧ i0 < n then some i0 else none) = none) := if_neg (fun h => h5 h.1)
    rw [HPO.out]
    go_enter Tryz.func43, Tryz.ntmps43
    go_wp2_with fail
    go_ret
    exact ⟨(fun i h => by cases h), (fun _ => rfl), HB.out⟩
set_option maxHeartbeats 2000000 in
set_option maxRecDepth 100000 in
theorem get_none {P : Nat → Prop} {d : Nat} {w : World} {cs : Array Value} {t : VJ d} (h : VAt P d w cs t) (hw : wtJ d t ≤ 100000) (nm : List UInt8) (hp : placeJ d t nm = none) : Calls Tryz.prog 18 #[.agg cs, .string (asS nm)] w fun e w' => e = .returned (.tuple #[.agg #[.int .i64 0, .int .i64 0, .string ⟨#[]⟩, .slice none 0 0, .slice none 0 0], .bool false]) ∧ Below w.heap.size w w' := by
  have HPL : Hid (∀ W, Below w.heap.size w W → Calls Tryz.prog 43 #[.agg cs, .string (asS nm)] W fun e w' => e = .returned (.int .i64 (-1)) ∧ Below W.heap.size W w') := fun W hb => (place_any (h.below hb (Nat.le_refl _)) hw nm).mono fun e w' hh => ⟨hh.2.1 hp, hh.2.2⟩
  obtain ⟨kA, kc, nA, nc, rfl, _⟩ := h.parts
  clear h hw hp
  unfold vcs at HPL ⊢
  generalize asS (labJ d t).2.2.1 = TX at HPL ⊢
  generalize (labJ d t).1 = KI at HPL ⊢
  generalize (labJ d t).2.1 = NU at HPL ⊢
  generalize (labJ d t).2.2.2.length = m at HPL ⊢
  generalize (kidsJ d t).length = n at HPL ⊢
  generalize asS nm = NM at HPL ⊢
  have HB := hid (((Below.refl w.heap.size w).alloc (Nat.le_refl _) (.cells #[.int .i64 KI, .int .i64 NU, .string TX, .slice kA n kc, .slice nA m nc] 25)).alloc (by simp) (.cells #[.int .i64 0, .int .i64 0, .string ⟨#[]⟩, .slice none 0 0, .slice none 0 0] 25))
  have HX := hid (heap_first w (.cells #[.int .i64 KI, .int .i64 NU, .string TX, .slice kA n kc, .slice nA m nc] 25 (0, 0)) (.cells #[.int .i64 0, .int .i64 0, .string ⟨#[]⟩, .slice none 0 0, .slice none 0 0] 25 (0, 0)))
  have HQ := hid (heap_second w (.cells #[.int .i64 KI, .int .i64 NU, .string TX, .slice kA n kc, .slice nA m nc] 25 (0, 0)) (.cells #[.int .i64 0, .int .i64 0, .string ⟨#[]⟩, .slice none 0 0, .slice none 0 0] 25 (0, 0)))
  have HP2 := hid (HPL.out _ HB.out)
  have hbu : ∀ W, (buildI 25 #[]).run Tryz.prog W = .ok (.agg #[.int .i64 0, .int .i64 0, .string ⟨#[]⟩, .slice none 0 0, .slice none 0 0]) W := fun W => run_build W 25 _ _ built_vz
  clear HPL
  go_enter Tryz.func18, Tryz.ntmps18
  go_wp2_with (first
    | (refine load_msg rfl _ rfl w.heap.size #[.int .i64 KI, .int .i64 NU, .string TX, .slice kA n kc, .slice nA m nc] rfl (load_v5 HX.out rfl) ?_)
    | fail)
  refine HP2.out.mono ?_
  rintro e W ⟨rfl, hb⟩
  have HQ2 := hid (row_keep hb HQ.out)
  have HB2 := hid (HB.out.trans (hb.mono HB.out.size))
  clear hb HP2 HQ HX
  go_wp2_with (first
    | (refine wpList_store_abs rfl 25 (.tmp 4) (.tmp 12) rfl (w.heap.size + 1) 0 #[.int .i64 0, .int .i64 0, .string ⟨#[]⟩, .slice none 0 0, .slice none 0 0] rfl rfl 25 _ HQ2.out (Nat.le_refl 5) infoVj (vcs_all _ _ _ _ _ _ _ _ _) ?_; intro W9 hO9 hW9)
    | fail)
  rw [over_whole #[.int .i64 0, .int .i64 0, .string ⟨#[]⟩, .slice none 0 0, .slice none 0 0] #[.int .i64 0, .int .i64 0, .string ⟨#[]⟩, .slice none 0 0, .slice none 0 0] rfl] at hW9
  exact bodyPost_ret (ret_v2 (p := 4) (q := 5) Tryz.results18 _ _ (w.heap.size + 1) _ rfl (0, 0) _ rfl rfl hW9) rfl ⟨rfl, HB2.out.trans (hO9.below (by omega))⟩
attribute [local go_sem ↓] loadV_eq
set_option maxHeartbeats 2000000 in
set_option maxRecDepth 100000 in
theorem get_some {P : Nat → Prop} {d : Nat} {w : World} {cs : Array Value} {t : VJ d} (h : VAt P d w cs t) (hw : wtJ d t ≤ 100000) (nm : List UInt8) (i : Nat) (hp : placeJ d t nm = some i) : Calls Tryz.prog 18 #[.agg cs, .string (asS nm)] w fun e w' => (∃ cs', e = .returned (.tuple #[.agg cs', .bool true]) ∧ VAt (fun q => w.heap.size ≤ q) (d - 1) w' cs' ((kidsJ d t).getD i (zeroJ (d - 1)))) ∧ Below w.heap.size w w' := by
  have HPL : Hid (∀ W, Below w.heap.size w W → Calls Tryz.prog 43 #[.agg cs, .string (asS nm)] W fun e w' => e = .returned (.int .i64 i) ∧ Below W.heap.size W w') := fun W hb => (place_any (h.below hb (Nat.le_refl _)) hw nm).mono fun e w' hh => ⟨hh.1 i hp, hh.2.2⟩
  obtain ⟨kA, kc, nA, nc, rfl, _, hks, hkc⟩ := h.parts
  have hin : i < (kidsJ d t).length := by
    unfold placeJ at hp
    split at hp
    · rename_i h3
      injection hp with hp
      omega
    · cases hp
  obtain ⟨w1, w2, w3, w4, w5⟩ := wtJ_parts hw
  obtain ⟨q, o, a, b, c, e, f, rfl, hq, k1, k2, k3, k4, k5, hv⟩ := hks.at i hin
  have hwk := w5 _ (getD_mem9 (z := zeroJ (d - 1)) hin)
  generalize (kidsJ d t).getD i (zeroJ (d - 1)) = y at hv hwk ⊢
  have HRN : Hid (∀ W, Below w.heap.size w W → Calls Tryz.prog 44 #[.agg #[a, b, c, e, f]] W fun e w' => Below W.heap.size W w' ∧ ∃ cs', e = .returned (.agg cs') ∧ VAt (fun q => W.heap.size ≤ q) (d - 1) w' cs' y) := fun W hb => renewed_any (d - 1) y P hwk _ W (hv.below hb (Nat.le_refl _))
  have HKC : Hid (∀ W, Below w.heap.size w W → W.cell? ⟨q, o + i * 5, none⟩ = some a ∧ W.cell? ⟨q, o + i * 5 + 1, none⟩ = some b ∧ W.cell? ⟨q, o + i * 5 + 2, none⟩ = some c ∧ W.cell? ⟨q, o + i * 5 + 3, none⟩ = some e ∧ W.cell? ⟨q, o + i * 5 + 4, none⟩ = some f) := fun W hb => ⟨(hb.cell (p := ⟨q, _, none⟩) hq).trans k1, (hb.cell (p := ⟨q, _, none⟩) hq).trans k2, (hb.cell (p := ⟨q, _, none⟩) hq).trans k3, (hb.cell (p := ⟨q, _, none⟩) hq).trans k4, (hb.cell (p := ⟨q, _, none⟩) hq).trans k5⟩
  clear h hw hp k1 k2 k3 k4 k5 hv hwk w1 w2 w3 w5 hks hq
  unfold vcs at HPL ⊢
  generalize asS (labJ d t).2.2.1 = TX at HPL ⊢
  generalize (labJ d t).1 = KI at HPL ⊢
  generalize (labJ d t).2.1 = NU at HPL ⊢
  generalize (labJ d t).2.2.2.length = m at HPL ⊢
  generalize (kidsJ d t).length = n at HPL hin w4 hkc ⊢
  generalize asS nm = NM at HPL ⊢
  generalize hkA : some (⟨q, o, none⟩ : Addr) = kA at HPL ⊢
  have HB := hid (((Below.refl w.heap.size w).alloc (Nat.le_refl _) (.cells #[.int .i64 KI, .int .i64 NU, .string TX, .slice kA n kc, .slice nA m nc] 25)).alloc (by simp) (.cells #[.int .i64 0, .int .i64 0, .string ⟨#[]⟩, .slice none 0 0, .slice none 0 0] 25))
  have HX := hid (heap_first w (.cells #[.int .i64 KI, .int .i64 NU, .string TX, .slice kA n kc, .slice nA m nc] 25 (0, 0)) (.cells #[.int .i64 0, .int .i64 0, .string ⟨#[]⟩, .slice none 0 0, .slice none 0 0] 25 (0, 0)))
  have HQ := hid (heap_second w (.cells #[.int .i64 KI, .int .i64 NU, .string TX, .slice kA n kc, .slice nA m nc] 25 (0, 0)) (.cells #[.int .i64 0, .int .i64 0, .string ⟨#[]⟩, .slice none 0 0, .slice none 0 0] 25 (0, 0)))
  have HP2 := hid (HPL.out _ HB.out)
  clear HPL
  have hneg : ¬ ((i : Int) < 0) := by omega
  have hii : (i : Int) < (n : Int) := by omega
  go_enter Tryz.func18, Tryz.ntmps18
  go_wp2_with (first
    | (refine load_msg rfl _ rfl w.heap.size #[.int .i64 KI, .int .i64 NU, .string TX, .slice kA n kc, .slice nA m nc] rfl (load_v5 HX.out rfl) ?_)
    | fail)
  refine HP2.out.mono ?_
  rintro e9 W ⟨rfl, hb⟩
  have HQ2 := hid (row_keep hb HQ.out)
  have HX2 := hid (row_keep hb HX.out)
  have HB2 := hid (HB.out.trans (hb.mono HB.out.size))
  have HRN2 := hid (HRN.out W HB2.out)
  obtain ⟨k1, k2, k3, k4, k5⟩ := HKC.out W HB2.out
  have hld := loadV_mid k1 k2 k3 k4 k5
  have c3 : W.cell? ⟨w.heap.size, 3, none⟩ = some (.slice kA n kc) := cell_of_row _ _ _ _ _ _ HX2.out
  clear hb HP2 HQ HX HRN HKC k1 k2 k3 k4 k5 HX2
  subst hkA
  go_wp2_with fail
  refine HRN2.out.mono ?_
  rintro e9 W3 ⟨hb3, cs', rfl, hv⟩
  have HQ3 := hid (row_keep hb3 HQ2.out)
  have HB3 := hid (HB2.out.trans (hb3.mono HB2.out.size))
  have HV := hid hv
  have hzW : w.heap.size + 1 < W.heap.size := (Array.getElem?_eq_some_iff.1 HQ2.out).1
  clear hb3 HRN2 HQ2 hld c3 hv
  go_wp2_with (first
    | (refine wpList_store_abs rfl 25 (.tmp 4) (.tmp 18) rfl (w.heap.size + 1) 0 cs' rfl rfl 25 _ HQ3.out (by rw [HV.out.size]; exact Nat.le_refl _) (by rw [HV.out.size]; exact infoVj) (vcs_one HV.out) ?_; intro W9 hO9 hW9)
    | fail)
  rw [over_whole #[.int .i64 0, .int .i64 0, .string ⟨#[]⟩, .slice none 0 0, .slice none 0 0] cs' (by rw [HV.out.size]; rfl)] at hW9
  exact bodyPost_ret (ret_v2 (p := 4) (q := 5) Tryz.results18 _ _ (w.heap.size + 1) cs' HV.out.size (0, 0) _ rfl rfl hW9) rfl ⟨⟨cs', rfl, HV.out.frame (Nat.le_of_eq hO9.size.symm) fun q hq hl => ⟨hO9.block q (by omega), by omega⟩⟩, HB3.out.trans (hO9.below (by omega))⟩
end Go.Proofs.YtlgkbdebpnbndaaGreatDoor
