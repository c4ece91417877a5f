
/- The law XmlPrints: what is put together of a node, and when. -/
import Derived.Test.YthjibliaofmlhaaGreatDoorXmPrL
namespace Go.Proofs.YthjibliaofmlhaaGreatDoor
set_option linter.unusedVariables false
set_option linter.unusedSimpArgs false
open Go.RowKit Go.BigFrame
attribute [local go_sem ↓] loadN_eq

set_option maxHeartbeats 2000000 in
set_option maxRecDepth 100000 in
theorem prints13_walk (d : Nat) (t0 : Tr d) (cs : Array Value) (w : World) (hs : StrB 140737488355328 d t0) (hnd0 : NdAt (fun q => q < w.heap.size) d w cs t0) (hT : TabX w) : Calls Tryz.prog 3 #[.agg cs] w fun e w' => e = .returned (.bool true) ∧ Below w.heap.size w w' := by
  have HAW := hid (fun W h1 h2 => awake13_any attributes_ok W h1 h2)
  have HT := hid hT.1
  have H8 := hid hT.2
  clear hT
  have HTB : Hid (∀ W, Below w.heap.size w W → 8 ≤ W.heap.size ∧ TabE W) := fun W hb => ⟨Nat.le_trans H8.out hb.size, HT.out.below hb⟩
  have HLI : Hid (∀ W, Below w.heap.size w W → Calls Tryz.prog 8 #[.agg cs] W fun e w' => e = .returned (.bool (decide (0 < szT d t0 0 12000))) ∧ Below W.heap.size W w') := fun W hb => light_any _ d t0 hs cs W (hnd0.below hb (Nat.le_refl _))
  obtain ⟨A, B, C, D, hcs, o1, o2, o3, o4⟩ := nd_four hnd0
  subst hcs
  have HROW := hid (heap_alloc_new w (.cells #[A, B, C, D] 25))
  have HB0 := hid ((Below.refl w.heap.size w).alloc (Nat.le_refl _) (.cells #[A, B, C, D] 25))
  obtain ⟨W0, hW0⟩ : ∃ W0, w.alloc (.cells #[A, B, C, D] 25) = W0 := ⟨_, rfl⟩
  rw [hW0] at HB0 HROW
  have hld0 := loadN_run HROW.out rfl
  have HLI0 := hid (HLI.out W0 HB0.out)
  clear HLI o1 o2 o3 o4
  by_cases hlt : 0 < szT d t0 0 12000
  · rw [decide_eq_true hlt] at HLI0
    obtain ⟨hz1, _, _, hhg⟩ := sz_pos d t0 0 12000 hlt
    have hnd := cut_nd 40 d _ t0 hhg hnd0
    have hwt := cut_wt 40 d t0 hhg
    have hz2 : szT d t0 0 12000 = 12000 - (wtT d t0 : Int) := hz1
    have hw : wtT 40 (cutT 40 d t0) ≤ 12000 := by omega
    clear hz1 hz2 hwt hhg hlt hnd0 hs
    generalize cutT 40 d t0 = t at hnd hw
    obtain ⟨m1, m2, m3, m4, hle, _, _⟩ := wt_print hw
    have HND : Hid (∀ W, Below w.heap.size w W → NdAt (fun q => q < W.heap.size) 40 W #[A, B, C, D] t) := fun W hb => (hnd.below hb (Nat.le_refl _)).mono fun q _ hl => hl
    have HPR : Hid (∀ W, Below w.heap.size w W → Calls Tryz.prog 10 #[.agg #[A, B, C, D]] W (PrPost 40 t W)) := fun W hb => print13_any 40 t _ W (HTB.out W hb).1 (HTB.out W hb).2 (HND.out W hb) m1 m2 m3 m4
    have HCK : Hid (∀ W, Below w.heap.size w W → Calls Tryz.prog 12 #[.agg #[A, B, C, D]] W fun e w' => e = .returned (.int .i64 (checkT 40 t : Nat)) ∧ Below W.heap.size W w') := fun W hb => check13_any 40 t _ W (HND.out W hb) m1 m2 m3
    have HRC : Hid (∀ W, Below w.heap.size w W → Calls Tryz.prog 11 #[.agg #[A, B, C, D]] W fun e w' => e = .returned (.int .i64 (checkT 40 t : Nat)) ∧ Below W.heap.size W w') := fun W hb => refCheck13_any _ t hw _ W (HND.out W hb)
    have HRP : Hid (checkT 40 t = 0 → ∀ W, Below w.heap.size w W → Calls Tryz.prog 13 #[.agg #[A, B, C, D]] W fun e w' => e = .returned (.string (asS (printT 40 t))) ∧ Below W.heap.size W w') := fun hc W hb => by
      obtain ⟨_, hmay, _, hmany⟩ := check_parts hc
      have hpl := print_len 40 t hmay hle
      exact rpr_all 40 t hle m4 (by omega) _ _ W (HND.out W hb)
    have HSM := hid (same_all 40 t m4)
    have HPB : Hid (checkT 40 t = 0 → (printT 40 t).length ≤ 65536 → ∀ W h1 h2, Calls Tryz.prog 14 #[.string (asS (printT 40 t))] W (ParPost (.ok t) W)) := fun hc hle W h1 h2 => by
      have := parse13_any attributes_ok (printT 40 t) W h1 h2
      rw [par_back t hc hle] at this
      exact this
    have HZP := hid (asS_size (printT 40 t))
    clear m1 m2 m3 m4 hle hw hnd
    unfold PrPost at HPR
    generalize hpt : printT 40 t = PT at HPR HRP HPB HZP
    clear hpt
    go_enter Tryz.func3, Tryz.ntmps3
    go_wp2_with fail
    refine Calls.mono HLI0.out ?_
    rintro e W1 ⟨rfl, hb1⟩
    have HB1 := hid (HB0.out.trans (hb1.mono HB0.out.size))
    have HR1 := hid (row_keep hb1 HROW.out)
    have hld1 := loadN_run HR1.out rfl
    have HPR1 := hid (HPR.out W1 HB1.out)
    clear hb1 hld0 HPR
    go_wp2_with fail
    refine Calls.mono HPR1.out ?_
    rintro e W2 ⟨hb2, hpost⟩
    have HB2 := hid (HB1.out.trans (hb2.mono HB1.out.size))
    have HR2 := hid (row_keep hb2 HR1.out)
    have hld2 := loadN_run HR2.out rfl
    have HRC2 := hid (HRC.out W2 HB2.out)
    clear hb2 hld1 HPR1
    have HPO := hid hpost
    clear hpost
    by_cases hc0 : checkT 40 t = 0
    · have HRP' := hid (HRP.out hc0)
      have HPB' := hid (HPB.out hc0)
      rw [hc0] at HRC2 HCK HPO
      clear HRP HPB hc0
      rcases HPO.out with ⟨h0, _⟩ | ⟨_, hlen, he⟩ | ⟨_, hlen, he⟩
      · exact absurd rfl h0
      · have HPB2 := hid (HPB'.out hlen)
        have hgt : ¬ (65536 : Int) < ((asS PT).size : Int) := by rw [HZP.out]; omega
        clear HPO hlen HPB' HZP
        subst he
        generalize asS PT = PS at HRP' HPB2 hgt ⊢
        go_wp2_with fail
        refine Calls.mono HRC2.out ?_
        rintro e W3 ⟨rfl, hb3⟩
        have HB3 := hid (HB2.out.trans (hb3.mono HB2.out.size))
        have HR3 := hid (row_keep hb3 HR2.out)
        have hld3 := loadN_run HR3.out rfl
        have HCK3 := hid (HCK.out W3 HB3.out)
        clear hb3 hld2
        go_wp2_with fail
        refine Calls.mono HCK3.out ?_
        rintro e W4 ⟨rfl, hb4⟩
        have HB4 := hid (HB3.out.trans (hb4.mono HB3.out.size))
        have HR4 := hid (row_keep hb4 HR3.out)
        have hld4 := loadN_run HR4.out rfl
        have HRP4 := hid (HRP'.out W4 HB4.out)
        clear hb4 hld3
        go_wp2_with fail
        refine Calls.mono HRP4.out ?_
        rintro e W5 ⟨rfl, hb5⟩
        have HB5 := hid (HB4.out.trans (hb5.mono HB4.out.size))
        have HR5 := hid (row_keep hb5 HR4.out)
        have HPB5 := hid (HPB2.out W5 (HTB.out W5 HB5.out).1 (HTB.out W5 HB5.out).2)
        clear hb5 hld4
        go_wp2_with fail
        refine Calls.mono HPB5.out ?_
        intro e W6 hp
        obtain ⟨hb6, A', B', C', D', he1, hnd6, p1, p2, p3, p4⟩ := hp.node
        have he2 : e = .returned (.tuple #[.agg #[A', B', C', D'], .int .i64 0]) := he1
        subst he2
        have HB6 := hid (HB5.out.trans (hb6.mono HB5.out.size))
        have HN6 : Hid (NdAt (fun q => W5.heap.size ≤ q) 40 W6 #[A', B', C', D'] t) := hnd6
        have HR6 := hid (row_keep hb6 HR5.out)
        clear hb6 hnd6 hp he1
        go_wp2_with (first
          | (refine store_msg infoN rfl _ _ rfl W6.heap.size A' B' C' D' p1 p2 p3 p4 rfl rfl _ (heap_alloc_new W6 _) rfl ?_)
          | fail)
        intro W7 ho hr
        have hb7 : Below W6.heap.size W6 W7 := ((Below.refl _ _).alloc (Nat.le_refl _) _).trans (ho.below (Nat.le_refl _))
        have HB7 := hid (HB6.out.trans (hb7.mono HB6.out.size))
        have hl7 := loadN_run hr rfl
        have hl8 := loadN_run (row_keep hb7 HR6.out) rfl
        have HSC := hid (HSM.out _ _ _ _ W7 (HN6.out.below hb7 (Nat.le_refl _)) (HND.out W7 HB7.out))
        clear ho hr hb7 p1 p2 p3 p4
        go_wp2_with fail
        refine Calls.mono HSC.out ?_
        rintro e W8 ⟨rfl, hb8⟩
        have HB8 := hid (HB7.out.trans (hb8.mono HB7.out.size))
        clear hb8
        go_wp2_with fail
        refine Calls.mono (HAW.out W8 (HTB.out W8 HB8.out).1 (HTB.out W8 HB8.out).2) ?_
        rintro e W9 ⟨rfl, hb9⟩
        have HB9 := hid (HB8.out.trans (hb9.mono HB8.out.size))
        clear hb9
        go_wp2_with fail
        go_ret
        exact ⟨rfl, HB9.out⟩
      · have hgt : (65536 : Int) < ((asS PT).size : Int) := by rw [HZP.out]; omega
        clear HPO hlen HPB' HZP
        subst he
        generalize asS PT = PS at HRP' hgt ⊢
        go_wp2_with fail
        refine Calls.mono HRC2.out ?_
        rintro e W3 ⟨rfl, hb3⟩
        have HB3 := hid (HB2.out.trans (hb3.mono HB2.out.size))
        have HR3 := hid (row_keep hb3 HR2.out)
        have hld3 := loadN_run HR3.out rfl
        have HCK3 := hid (HCK.out W3 HB3.out)
        clear hb3 hld2
        go_wp2_with fail
        refine Calls.mono HCK3.out ?_
        rintro e W4 ⟨rfl, hb4⟩
        have HB4 := hid (HB3.out.trans (hb4.mono HB3.out.size))
        have HR4 := hid (row_keep hb4 HR3.out)
        have hld4 := loadN_run HR4.out rfl
        have HRP4 := hid (HRP'.out W4 HB4.out)
        clear hb4 hld3
        go_wp2_with fail
        refine Calls.mono HRP4.out ?_
        rintro e W5 ⟨rfl, hb5⟩
        have HB5 := hid (HB4.out.trans (hb5.mono HB4.out.size))
        clear hb5 hld4
        go_wp2_with fail
        refine Calls.mono (HAW.out W5 (HTB.out W5 HB5.out).1 (HTB.out W5 HB5.out).2) ?_
        rintro e W9 ⟨rfl, hb9⟩
        have HB9 := hid (HB5.out.trans (hb9.mono HB5.out.size))
        clear hb9
        go_wp2_with fail
        go_ret
        exact ⟨rfl, HB9.out⟩
    · have he : e = .returned (.tuple #[.string ⟨#[]⟩, .int .i64 (checkT 40 t : Nat)]) := by
        rcases HPO.out with ⟨_, h⟩ | ⟨h, _⟩ | ⟨h, _⟩
        · exact h
        · exact absurd h hc0
        · exact absurd h hc0
      clear HPO HRP HPB HZP
      subst he
      generalize checkT 40 t = CK at HRC2 HCK hc0 ⊢
      have hne : ((CK : Int) != 0) = true := by rw [bne_iff_ne]; omega
      go_wp2_with fail
      refine Calls.mono HRC2.out ?_
      rintro e W3 ⟨rfl, hb3⟩
      have HB3 := hid (HB2.out.trans (hb3.mono HB2.out.size))
      have HR3 := hid (row_keep hb3 HR2.out)
      have hld3 := loadN_run HR3.out rfl
      have HCK3 := hid (HCK.out W3 HB3.out)
      clear hb3 hld2
      go_wp2_with fail
      refine Calls.mono HCK3.out ?_
      rintro e W4 ⟨rfl, hb4⟩
      have HB4 := hid (HB3.out.trans (hb4.mono HB3.out.size))
      clear hb4 hld3
      go_wp2_with fail
      refine Calls.mono (HAW.out W4 (HTB.out W4 HB4.out).1 (HTB.out W4 HB4.out).2) ?_
      rintro e W9 ⟨rfl, hb9⟩
      have HB9 := hid (HB4.out.trans (hb9.mono HB4.out.size))
      clear hb9
      go_wp2_with fail
      go_ret
      exact ⟨rfl, HB9.out⟩
  · rw [decide_eq_false hlt] at HLI0
    clear hlt hs hnd0
    go_enter Tryz.func3, Tryz.ntmps3
    go_wp2_with fail
    refine Calls.mono HLI0.out ?_
    rintro e W1 ⟨rfl, hb1⟩
    have HB1 := hid (HB0.out.trans (hb1.mono HB0.out.size))
    clear hb1 hld0
    go_wp2_with fail
    refine Calls.mono (HAW.out W1 (HTB.out W1 HB1.out).1 (HTB.out W1 HB1.out).2) ?_
    rintro e W9 ⟨rfl, hb9⟩
    have HB9 := hid (HB1.out.trans (hb9.mono HB1.out.size))
    clear hb9
    go_wp2_with fail
    go_ret
    exact ⟨rfl, HB9.out⟩
end Go.Proofs.YthjibliaofmlhaaGreatDoor
