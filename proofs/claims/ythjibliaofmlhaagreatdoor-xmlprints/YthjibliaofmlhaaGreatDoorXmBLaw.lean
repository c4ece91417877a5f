
/- The law XmlBack: what was read, put together, is read alike. -/
import Derived.Test.YthjibliaofmlhaaGreatDoorXmPrT
import Derived.Test.YthjibliaofmlhaaGreatDoorXmRPr
import Derived.Test.YthjibliaofmlhaaGreatDoorXmNdP
import Derived.Test.YthjibliaofmlhaaGreatDoorXmAw
import Derived.Test.YthjibliaofmlhaaGreatDoorXmAtt
import Derived.Test.YthjibliaofmlhaaGreatDoorXmOpen
namespace Go.Proofs.YthjibliaofmlhaaGreatDoor
set_option linter.unusedVariables false
set_option linter.unusedSimpArgs false
open Go.RowKit Go.BigFrame
attribute [local go_sem ↓] loadN_eq

theorem list_fit (N : Nat) : ∀ (d k : Nat) (t : Tr d), FitN N d t → ∀ x ∈ listT d k t, FitN N x.2.1 x.2.2
  | 0, k, t, h, x, hx => by
    have : x = (k, ⟨0, t⟩) := by simpa [listT] using hx
    subst this
    exact h
  | d + 1, k, t, h, x, hx => by
    have hx' : x ∈ (k, (⟨d + 1, t⟩ : Sigma Tr)) :: (if t.1.1.isEmpty then [] else t.2.flatMap (listT d (k + 1))) := hx
    rcases List.mem_cons.1 hx' with rfl | hx'
    · exact h
    · split at hx'
      · cases hx'
      · obtain ⟨y, hy, hxy⟩ := List.mem_flatMap.1 hx'
        exact list_fit N d (k + 1) y (h.2.2 y hy) x hxy
theorem sound_top {d : Nat} {t : Tr d} (h : soundT d t = true) (hf : FitN 100000 d t) : TopC d t := by
  obtain ⟨h1, h2⟩ := hf.top
  have n64 : ∀ x : List UInt8, nameX x = true → x.length ≤ 64 := fun x hx => by
    unfold nameX at hx
    simp only [Bool.and_eq_true, decide_eq_true_eq] at hx
    exact hx.1.1.2
  unfold soundT mayTop at h
  cases he : (lab d t).1.isEmpty with
  | true =>
    have hn : (lab d t).1 = [] := List.isEmpty_iff.1 he
    rw [if_pos he] at h
    simp only [Bool.and_eq_true] at h
    have ha : (lab d t).2.1 = [] := List.isEmpty_iff.1 h.1.1.2
    exact ⟨by rw [hn]; simp, h1, (fun a hx => by rw [ha] at hx; cases hx), by omega⟩
  | false =>
    rw [if_neg (by rw [he]; simp)] at h
    simp only [Bool.and_eq_true] at h
    refine ⟨by have := n64 _ h.1.1.1; omega, h1, fun a hx => ?_, by omega⟩
    have h3 := h.1.2
    unfold attsOk at h3
    rw [Bool.and_eq_true] at h3
    have := List.all_eq_true.1 h3.1 a hx
    rw [Bool.and_eq_true] at this
    have := n64 _ this.1
    omega
theorem cnt_ge : ∀ l : List Nd, l.length ≤ (l.map cntN).sum
  | [] => Nat.zero_le _
  | a :: r => by
    have := cnt_ge r
    rw [List.map_cons, List.sum_cons, List.length_cons]
    unfold cntN at *
    omega
/-- What Print asks of a tree that may be. -/
theorem may_print {t : Tr 40} (h : checkT 40 t = 0) : (listT 40 1 t).length ≤ 100000 ∧ (∀ x ∈ listT 40 1 t, TopC x.2.1 x.2.2) ∧ ((listT 40 1 t).map cntN).sum ≤ 1000000000000 ∧ FitN 1000000 40 t := by
  obtain ⟨_, hm, _, hn⟩ := check_parts h
  have hc := cnt_list 40 1 t hm
  have hg := cnt_ge (listT 40 1 t)
  have hf := fit_may 100000 40 t hm (by omega)
  have hs := all_sound 40 1 t
  rw [hm] at hs
  refine ⟨by omega, fun x hx => sound_top (List.all_eq_true.1 hs x hx) (list_fit 100000 40 1 t hf x hx), by omega, fit_may 1000000 40 t hm (by omega)⟩
set_option maxHeartbeats 2000000 in
set_option maxRecDepth 100000 in
theorem back13_law (s : List UInt8) (w : World) (hT : TabX w) : Calls Tryz.prog 7 #[.string (asS s)] w fun e w' => e = .returned (.bool true) ∧ Below w.heap.size w w' := by
  have HPA := hid (fun W h1 h2 => parse13_any attributes_ok s W h1 h2)
  have HAW := hid (fun W h1 h2 => awake13_any attributes_ok W h1 h2)
  have HT := hid hT.1
  have H8 := hid hT.2
  have hz := asS_size s
  clear hT
  have HTB : Hid (∀ W, Below w.heap.size w W → 8 ≤ W.heap.size ∧ TabE W) := fun W hb => ⟨Nat.le_trans H8.out hb.size, HT.out.below hb⟩
  by_cases hl : 12000 < s.length
  · have hl' : (12000 : Int) < ((asS s).size : Int) := by rw [hz]; omega
    generalize asS s = S at hl' ⊢
    clear HPA hz hl
    go_enter Tryz.func7, Tryz.ntmps7
    go_wp2_with fail
    refine Calls.mono (HAW.out w H8.out HT.out) ?_
    rintro e W1 ⟨rfl, hb⟩
    have HB := hid hb
    clear hb
    go_wp2_with fail
    go_ret
    exact ⟨rfl, HB.out⟩
  · have hl' : ¬ (12000 : Int) < ((asS s).size : Int) := by rw [hz]; omega
    clear hz hl
    cases hV : parX s with
    | error er =>
      rw [hV] at HPA
      have hne : ((er : Int) != 0) = true ∨ True := .inr trivial
      clear hne
      generalize asS s = S at hl' HPA ⊢
      clear hV
      go_enter Tryz.func7, Tryz.ntmps7
      go_wp2_with fail
      refine Calls.mono (HPA.out w H8.out HT.out) ?_
      rintro e W1 ⟨hb1, ⟨t, cs, h1, _⟩ | ⟨er', h1, her, rfl⟩⟩
      · cases h1
      have hne : ((er' : Int) != 0) = true := by rw [bne_iff_ne]; omega
      have HB1 := hid hb1
      clear hb1 h1 her
      go_wp2_with (first
        | (refine store_msg infoN rfl _ _ rfl W1.heap.size _ _ _ _ rfl rfl rfl rfl rfl rfl _ (heap_alloc_new W1 _) rfl ?_)
        | fail)
      intro W2 ho hr
      have hb2 : Below W1.heap.size W1 W2 := ((Below.refl _ _).alloc (Nat.le_refl _) _).trans (ho.below (Nat.le_refl _))
      have HB2 := hid (HB1.out.trans (hb2.mono HB1.out.size))
      clear ho hr hb2
      go_wp2_with fail
      refine Calls.mono (HAW.out W2 (HTB.out W2 HB2.out).1 (HTB.out W2 HB2.out).2) ?_
      rintro e W3 ⟨rfl, hb3⟩
      have HB3 := hid (HB2.out.trans (hb3.mono HB2.out.size))
      clear hb3
      go_wp2_with fail
      go_ret
      exact ⟨rfl, HB3.out⟩
    | ok t =>
      rw [hV] at HPA
      have hck := par_may hV
      obtain ⟨m1, m2, m3, m4⟩ := may_print hck
      obtain ⟨hnm, hmay, _, hmany⟩ := check_parts hck
      have hle := par_le hV
      have hpl := print_len 40 t hmay hle
      have HPR := hid (fun cs W h1 h2 h3 => print13_any 40 t cs W h1 h2 h3 m1 m2 m3 m4)
      have HRP := hid (rpr_all 40 t hle m4 (by omega))
      unfold RprOk at HRP
      have HSM := hid (same_all 40 t m4)
      have HPB : Hid ((printT 40 t).length ≤ 65536 → ∀ W h1 h2, Calls Tryz.prog 14 #[.string (asS (printT 40 t))] W (ParPost (.ok t) W)) := fun hle W h1 h2 => by
        have := parse13_any attributes_ok (printT 40 t) W h1 h2
        rw [par_back t hck hle] at this
        exact this
      have HZP := hid (asS_size (printT 40 t))
      have HCK := hid hck
      clear hck m1 m2 m3 m4 hnm hmay hmany hle hpl hV
      generalize asS s = S at hl' HPA ⊢
      generalize hpt : printT 40 t = PT at *
      go_enter Tryz.func7, Tryz.ntmps7
      go_wp2_with fail
      refine Calls.mono (HPA.out w H8.out HT.out) ?_
      intro e W1 hp
      obtain ⟨hb1, A, B, C, D, he1, hnd, o1, o2, o3, o4⟩ := hp.node
      have he2 : e = .returned (.tuple #[.agg #[A, B, C, D], .int .i64 0]) := he1
      subst he2
      have HB1 := hid hb1
      have HN1 : Hid (NdAt (fun q => w.heap.size ≤ q) 40 W1 #[A, B, C, D] t) := hnd
      clear hb1 hnd hp he1
      go_wp2_with (first
        | (refine store_msg infoN rfl _ _ rfl W1.heap.size A B C D o1 o2 o3 o4 rfl rfl _ (heap_alloc_new W1 _) rfl ?_)
        | fail)
      intro W2 ho hr
      have hb2 : Below W1.heap.size W1 W2 := ((Below.refl _ _).alloc (Nat.le_refl _) _).trans (ho.below (Nat.le_refl _))
      have HB2 := hid (HB1.out.trans (hb2.mono HB1.out.size))
      have HR2 := hid hr
      have hl2 := loadN_run hr rfl
      have HN2 := hid (HN1.out.below hb2 (Nat.le_refl _))
      have HPC := hid (HPR.out #[A, B, C, D] W2 (HTB.out W2 HB2.out).1 (HTB.out W2 HB2.out).2 (HN2.out.mono fun q _ hl => hl))
      clear ho hr hb2 o1 o2 o3 o4
      go_wp2_with fail
      refine Calls.mono HPC.out ?_
      rintro e W3 ⟨hb3, hx⟩
      have HB3 := hid (HB2.out.trans (hb3.mono HB2.out.size))
      have HR3 := hid (row_keep hb3 HR2.out)
      have hl3 := loadN_run (row_keep hb3 HR2.out) rfl
      have HN3 := hid (HN2.out.below hb3 (Nat.le_refl _))
      clear hb3
      rcases hx with ⟨h0, _⟩ | ⟨_, hlen, he⟩ | ⟨_, hlen, he⟩
      · exact absurd HCK.out h0
      · subst he
        rw [hpt] at hlen ⊢
        have HPK := hid (HPB.out hlen W3 (HTB.out W3 HB3.out).1 (HTB.out W3 HB3.out).2)
        clear hlen
        generalize asS PT = PS at HPK ⊢
        go_wp2_with fail
        refine Calls.mono HPK.out ?_
        intro e W4 hp
        obtain ⟨hb4, A', B', C', D', he1, hnd, p1, p2, p3, p4⟩ := hp.node
        have he2 : e = .returned (.tuple #[.agg #[A', B', C', D'], .int .i64 0]) := he1
        subst he2
        have HB4 := hid (HB3.out.trans (hb4.mono HB3.out.size))
        have HN4 : Hid (NdAt (fun q => W3.heap.size ≤ q) 40 W4 #[A', B', C', D'] t) := hnd
        have HM4 := hid (HN3.out.below hb4 (Nat.le_refl _))
        have HR4 := hid (row_keep hb4 HR3.out)
        clear hb4 hnd hp he1
        go_wp2_with (first
          | (refine store_msg infoN rfl _ _ rfl W4.heap.size A' B' C' D' p1 p2 p3 p4 rfl rfl _ (heap_alloc_new W4 _) rfl ?_)
          | fail)
        intro W5 ho hr
        have hb5 : Below W4.heap.size W4 W5 := ((Below.refl _ _).alloc (Nat.le_refl _) _).trans (ho.below (Nat.le_refl _))
        have HB5 := hid (HB4.out.trans (hb5.mono HB4.out.size))
        have hl5 := loadN_run hr rfl
        have hl6 := loadN_run (row_keep hb5 HR4.out) rfl
        have HSC := hid (HSM.out _ _ _ _ W5 (HN4.out.below hb5 (Nat.le_refl _)) (HM4.out.below hb5 (Nat.le_refl _)))
        clear ho hr hb5 p1 p2 p3 p4
        go_wp2_with fail
        refine Calls.mono HSC.out ?_
        rintro e W6 ⟨rfl, hb6⟩
        have HB6 := hid (HB5.out.trans (hb6.mono HB5.out.size))
        clear hb6
        go_wp2_with fail
        refine Calls.mono (HAW.out W6 (HTB.out W6 HB6.out).1 (HTB.out W6 HB6.out).2) ?_
        rintro e W7 ⟨rfl, hb7⟩
        have HB7 := hid (HB6.out.trans (hb7.mono HB6.out.size))
        clear hb7
        go_wp2_with fail
        go_ret
        exact ⟨rfl, HB7.out⟩
      · subst he
        rw [hpt] at hlen
        have HRC := hid (HRP.out _ _ W3 HN3.out)
        have hgt : (65536 : Int) < ((asS PT).size : Int) := by rw [HZP.out]; omega
        clear hlen
        generalize asS PT = PS at HRC hgt
        go_wp2_with fail
        refine Calls.mono HRC.out ?_
        rintro e W4 ⟨rfl, hb4⟩
        have HB4 := hid (HB3.out.trans (hb4.mono HB3.out.size))
        clear hb4
        go_wp2_with fail
        refine Calls.mono (HAW.out W4 (HTB.out W4 HB4.out).1 (HTB.out W4 HB4.out).2) ?_
        rintro e W5 ⟨rfl, hb5⟩
        have HB5 := hid (HB4.out.trans (hb5.mono HB4.out.size))
        clear hb5
        go_wp2_with fail
        go_ret
        exact ⟨rfl, HB5.out⟩
theorem back13_walk (a : ByteArray) (w : World) (hT : TabX w) : Calls Tryz.prog 7 #[.string a] w fun e w' => e = .returned (.bool true) ∧ Below w.heap.size w w' := by
  have := back13_law a.data.toList w hT
  rw [asS_back] at this
  exact this
end Go.Proofs.YthjibliaofmlhaaGreatDoor
