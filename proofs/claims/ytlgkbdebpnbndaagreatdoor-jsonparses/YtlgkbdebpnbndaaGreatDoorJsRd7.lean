
/- The reference's reader: a text is read. -/
import Derived.Test.YtlgkbdebpnbndaaGreatDoorJsRd6
import Derived.Test.YtlgkbdebpnbndaaGreatDoorJsList
namespace Go.Proofs.YtlgkbdebpnbndaaGreatDoor
set_option linter.unusedVariables false
set_option linter.unusedSimpArgs false
open Go.RowKit Go.BigFrame

theorem src_oneQ (w : World) (a : UInt8) (x : Int) (hx : x = (a.toNat : Int)) : Src Tryz.prog 1 47 (.slice (some ⟨w.heap.size, 0, none⟩) 1 1) 1 (bvs [a]) (w.alloc (.cells #[.int .u8 x] 5)) := by
  subst hx
  exact src_bytes (l := [a]) (BytesAt.of_row (heap_alloc_new w (.cells (bcs [a]) 5))) 1 (fun _ => .inr ⟨_, rfl⟩)
theorem src_strQ (l : List UInt8) (W : World) : Src Tryz.prog 1 9 (.string (asS l)) l.length (bvs l) W := by
  have h := src_text W (asS l)
  rw [asS_size, asS_data] at h
  exact h
/-- How much a loop over the reader still has to do. -/
def mQ (n R : Nat) (w : World) : Nat := match w.cell? ⟨R, 3, none⟩ with
  | some (.int _ v) => if v = 0 then n + 1 - rqAt R w else 0
  | _ => 0
theorem mQ_rl {w : World} {R m : Nat} {s l : List UInt8} (h : Rl w R s l m) : mQ s.length R w = l.length + 1 := by
  have hr := h.row5.1
  have hl := h.len
  unfold mQ
  rw [hr.cells.2.2.2]
  simp only
  rw [if_pos (by rfl), rqAt_eq hr]
  omega
theorem mQ_re {w : World} {R m k : Nat} {s : List UInt8} (h : Re w R s m k) (hk : k ≠ 0) (n : Nat) : mQ n R w = 0 := by
  obtain ⟨p, _, hr⟩ := h
  unfold mQ
  rw [hr.cells.2.2.2]
  simp only
  rw [if_neg (by omega)]
theorem name_grown {w wx : World} {R : Option Nat} (h : Hid (w.grownBy wx R)) : ∃ W, W = wx := ⟨wx, rfl⟩
def resS (l : List UInt8) : Option (List UInt8 × List UInt8) := if preX [34] l then strW [] (l.drop 1) else none
/-- What str does. -/
def StrP (l s : List UInt8) (R m : Nat) (w : World) (x : Ending) (w' : World) : Prop :=
  (∀ t r, resS l = some (t, r) → x = .returned (.string (asS t)) ∧ Rl w' R s r m ∧ t.length ≤ 4000000) ∧ (resS l = none → x = .returned (.string ⟨#[]⟩) ∧ Re w' R s m 5) ∧ w.grownBy w' (some R)
theorem StrP.no {l s : List UInt8} {R m : Nat} {w w' : World} (h : resS l = none) (hr : Re w' R s m 5) (hg : w.grownBy w' (some R)) : StrP l s R m w (.returned (.string ⟨#[]⟩)) w' := ⟨fun n r h2 => (by rw [h] at h2; cases h2), fun _ => ⟨rfl, hr⟩, hg⟩
theorem StrP.yes {l s t r : List UInt8} {R m : Nat} {w w' : World} (h : resS l = some (t, r)) (ht : t.length ≤ 4000000) (hr : Rl w' R s r m) (hg : w.grownBy w' (some R)) : StrP l s R m w (.returned (.string (asS t))) w' := ⟨fun a b h2 => (by rw [h] at h2; injection h2 with h2; injection h2 with h3 h4; subst h3 h4; exact ⟨rfl, hr, ht⟩), fun h2 => (by rw [h] at h2; cases h2), hg⟩
theorem encL_le4 (v : Nat) : (encL v).length ≤ 4 := (encL_len v).2
theorem Rl.to {w w' : World} {R m g : Nat} {s l : List UInt8} (h : Rl w R s l m) (hg : w.grownBy w' (some g)) (hne : R ≠ g) : Rl w' R s l m := by
  obtain ⟨p, h1, h2, h3⟩ := h
  exact ⟨p, h1, h2, to_row hg h3 hne⟩
theorem Re.to {w w' : World} {R m g k : Nat} {s : List UInt8} (h : Re w R s m k) (hg : w.grownBy w' (some g)) (hne : R ≠ g) : Re w' R s m k := by
  obtain ⟨p, h2, h3⟩ := h
  exact ⟨p, h2, to_row hg h3 hne⟩
theorem Own.to {w w' : World} {b g n cap R : Nat} {o : List UInt8} (h : Own w b g n cap o) (hg : w.grownBy w' (some R)) (hR : R < b) : Own w' b g n cap o := h.other hg (by have := h.ge; omega)
set_option maxHeartbeats 16000000 in
set_option maxRecDepth 100000 in
theorem strQ (l s : List UInt8) (R m : Nat) (hs : s.length ≤ 1000000) (w : World) (h : Rl w R s l m) : Calls Tryz.prog 70 #[.pointer (some ⟨R, 0, none⟩)] w fun x w' => StrP l s R m w x w' := by
  have hll := h.len
  have hRl := h.lt
  have HP := hid (h.past 34 hs)
  have HW5 : Hid (∀ l W, Rl W R s l m → Calls Tryz.prog 42 #[.pointer (some ⟨R, 0, none⟩), .int .i64 5] W fun x w' => x = .returned (.tuple #[]) ∧ Re w' R s m 5 ∧ W.grownBy w' (some R)) := fun l W hW => hW.wrong 5
  have HE := hid (fun l W (hW : Rl W R s l m) => escapeQ l s R m hs W hW)
  have HPQ : Hid (∀ l W, Rl W R s l m → Calls Tryz.prog 96 #[.pointer (some ⟨R, 0, none⟩), .int .u8 34] W fun x w' => x = .returned (.bool (preX [34] l)) ∧ Rl w' R s (passJ [34] l) m ∧ W.grownBy w' (some R)) := fun l W hW => hW.past 34 hs
  have HPB : Hid (∀ l W, Rl W R s l m → Calls Tryz.prog 96 #[.pointer (some ⟨R, 0, none⟩), .int .u8 92] W fun x w' => x = .returned (.bool (preX [92] l)) ∧ Rl w' R s (passJ [92] l) m ∧ W.grownBy w' (some R)) := fun l W hW => hW.past 92 hs
  obtain ⟨RES, hRES⟩ : ∃ RES, resS l = RES := ⟨_, rfl⟩
  have HRES := hid hRES
  have HST : Hid ((preX [34] l = true ∧ passJ [34] l = l.drop 1 ∧ RES = strW [] (l.drop 1)) ∨ (preX [34] l = false ∧ RES = none)) := by
    cases hp : preX [34] l with
    | true => exact .inl ⟨rfl, passJ_yes hp, by rw [← hRES]; unfold resS; rw [hp]; rfl⟩
    | false => exact .inr ⟨rfl, by rw [← hRES]; unfold resS; rw [hp]; rfl⟩
  clear h hRES
  go_enter Tryz.func70, Tryz.ntmps70
  go_wp2_with fail
  refine HP.out.mono ?_
  rintro e W1 ⟨rfl, hr, hg⟩
  have HG1 := hid hg
  have HR1 := hid hr
  clear hr hg HP
  go_upto_if 6 with (fail)
  go_cut [] (fun wx => Hid (w.grownBy wx (some R)) ∧ ((∃ lx, Hid (lx.length ≤ l.length ∧ RES = strW [] lx) ∧ Hid (Rl wx R s lx m)) ∨ (Hid (RES = none) ∧ Hid (Re wx R s m 5))))
  case first =>
    clear HE HPQ HPB HRES
    rcases HST.out with ⟨h1, h2, h3⟩ | ⟨h1, h2⟩
    · have HX : Hid ((l.drop 1).length ≤ l.length ∧ RES = strW [] (l.drop 1)) := ⟨by rw [List.length_drop]; omega, h3⟩
      rw [h2] at HR1
      rw [h1]
      clear h1 h2 h3 HST
      go_wp2_with fail
      go_meet
      case rel => exact ⟨HG1, .inl ⟨_, HX, HR1⟩⟩
    · have HX := hid h2
      have HW1 := hid (HW5.out _ _ HR1.out)
      rw [h1]
      clear h1 h2 HST HW5 HR1
      go_wp2_with fail
      refine HW1.out.mono ?_
      rintro e W2 ⟨rfl, hr, hg⟩
      have HR2 := hid hr
      have HG2 := hid (HG1.out.trans hg)
      clear hr hg
      go_wp2_with fail
      go_meet
      case rel => exact ⟨HG2, .inr ⟨HX, HR2⟩⟩
  case rest =>
    clear HR1 HG1 HST
    obtain ⟨HGa, HIa⟩ := hcut
    obtain ⟨wa, hwa⟩ := name_grown HGa
    subst hwa
    have hsz := HGa.out.size
    have HAL := hid ((Below.refl wa.heap.size wa).alloc (Nat.le_refl _) (.cells #[] 5))
    have HOWN := hid (Own.zero wa wa.heap.size (Nat.le_refl _))
    have HGB := hid (HGa.out.trans (to_below (R := R) HAL.out))
    have HIB : Hid ((∃ lx, Hid (lx.length ≤ l.length ∧ RES = strW [] lx) ∧ Hid (Rl (wa.alloc (.cells #[] 5)) R s lx m)) ∨ (Hid (RES = none) ∧ Hid (Re (wa.alloc (.cells #[] 5)) R s m 5))) := by
      rcases HIa with ⟨lx, h1, h2⟩ | ⟨h1, h2⟩
      · exact .inl ⟨lx, h1, h2.out.below HAL.out⟩
      · exact .inr ⟨h1, h2.out.below HAL.out⟩
    clear HGa HIa HAL
    obtain ⟨B, hB⟩ : ∃ B, B = wa.heap.size := ⟨_, rfl⟩
    have hRB : R < B := by omega
    have hwB : w.heap.size ≤ B := by omega
    go_wp2_with fail
    rw [← hB] at HOWN ⊢
    have hBs : B ≤ (wa.alloc (.cells #[] 5)).heap.size := by rw [hB]; simp
    obtain ⟨wz, hwz⟩ : ∃ wz, wa.alloc (.cells #[] 5) = wz := ⟨_, rfl⟩
    rw [hwz] at HOWN HGB HIB hBs ⊢
    clear hwz hB hsz
    go_loopw [3] (fun ov wr => ∃ (g n cap : Nat) (o : List UInt8), ov = .slice (some ⟨g, 0, none⟩) n cap ∧ n ≤ 4000000 ∧ Hid (B ≤ wr.heap.size) ∧ Hid (Own wr B g n cap o) ∧ Hid (w.grownBy wr (some R)) ∧ ((∃ lx, Hid (n + 4 * lx.length ≤ 4000000 ∧ RES = strW o lx) ∧ Hid (Rl wr R s lx m)) ∨ (Hid (RES = none) ∧ Hid (Re wr R s m 5)))) (fun ov wr => mQ s.length R wr)
    case atStart =>
      refine ⟨B, 0, 0, [], rfl, by omega, hBs, HOWN, HGB, ?_⟩
      rcases HIB.out with ⟨lx, h1, h2⟩ | ⟨h1, h2⟩
      · exact .inl ⟨lx, ⟨by have := h1.out.1; omega, h1.out.2⟩, h2⟩
      · exact .inr ⟨h1, h2⟩
    case round =>
      clear HOWN HGB HIB hBs
      obtain ⟨g, n, cap, o, rfl, hn, HBS, HO, HG, ⟨lx, HX, HRx⟩ | ⟨HX, HRx⟩⟩ := hrel
      · have HM1 := hid (mQ_rl HRx.out)
        have hrow := HRx.out.row5.1
        obtain ⟨d0, d1, _, d3⟩ := hrow.cells
        have hxl := HRx.out.len
        have z1 := asS_size s
        cases lx with
        | nil =>
          have HNO : Hid (resS l = none) := HRES.out.trans (by rw [HX.out.2]; exact strW_nil o)
          rw [List.length_nil, Nat.sub_zero] at d1
          have hge : decide ((s.length : Int) ≤ (s.length : Int)) = true := decide_eq_true (Int.le_refl _)
          generalize asS s = S at d0 z1
          clear hrow HX HM1
          go_wp2_with fail
          go_quiet (fail)
          go_wp2_with fail
          refine (HW5.out [] _ (HRx.out.below (below_drewN _ _ _))).mono ?_
          rintro e W2 ⟨rfl, hr, hg⟩
          have HR2 := hid hr
          have HG2 := hid (HG.out.trans ((to_below (R := R) (below_drewN _ _ _)).trans hg))
          clear hr hg
          go_wp2_with fail
          go_ret
          exact StrP.no HNO.out HR2.out HG2.out
        | cons c r =>
          have hstp := strW_cons o c r
          have HN := hid (fun W (hW : Rl W R s (c :: r) m) => hW.now)
          have hhd : (c :: r).headD 0 = c := rfl
          rw [hhd] at HN
          have hp1 : s.length - (c :: r).length < s.length := by rw [List.length_cons] at hxl ⊢; omega
          have hge : ¬ (s.length : Int) ≤ ((s.length - (c :: r).length : Nat) : Int) := by omega
          have hge' : decide ((s.length : Int) ≤ ((s.length - (c :: r).length : Nat) : Int)) = false := decide_eq_false hge
          have HNEXT := hid (fun w' h2 => HRx.out.next (w' := w') h2)
          have hpb : s.length - (c :: r).length ≤ 1000000 := by omega
          have HROW := hid hrow
          generalize hpp : s.length - (c :: r).length = p at d1 hge hge' hp1 HNEXT HROW hpb
          have HXL := hid hxl
          have hl4 : n + 4 * r.length + 4 ≤ 4000000 := by have := HX.out.1; rw [List.length_cons] at this; omega
          clear hrow hpp hhd hxl
          obtain ⟨S, hS⟩ : ∃ S, asS s = S := ⟨_, rfl⟩
          have HSS := hid hS
          rw [hS] at d0 z1
          clear hS
          have HND := hid (fun W (hW : Rl W R s (c :: r) m) => hW.nowD)
          rw [show (c :: r).headD 0 = c from rfl] at HND
          by_cases h32 : c.toNat < 32
          · have k32 : (c.toNat : Int) < 32 := by omega
            have hnn : strW o (c :: r) = none := by
              rw [hstp, if_neg (fun e => by rw [e] at h32; revert h32; decide), if_neg (fun e => by rw [e] at h32; revert h32; decide), if_pos h32]
            have HNO : Hid (resS l = none) := HRES.out.trans (by rw [HX.out.2]; exact hnn)
            clear hstp hnn HX HN HNEXT HM1
            go_wp2_with fail
            go_quiet ((go_at_call 68; exact Calls.quiet_of (HND.out _ (HRx.out.below (below_drewN _ _ _)))))
            go_wp2_with fail
            refine (HW5.out _ _ (HRx.out.below (below_drewN _ _ _))).mono ?_
            rintro e W2 ⟨rfl, hr, hg⟩
            have HR2 := hid hr
            have HG2 := hid (HG.out.trans ((to_below (R := R) (below_drewN _ _ _)).trans hg))
            clear hr hg
            go_wp2_with fail
            go_ret
            exact StrP.no HNO.out HR2.out HG2.out
          · have k32 : ¬ (c.toNat : Int) < 32 := by omega
            have HP1 := hid (HPQ.out (c :: r))
            go_wp2_with fail
            go_quiet ((go_at_call 68; exact Calls.quiet_of (HND.out _ (HRx.out.below (below_drewN _ _ _)))))
            go_wp2_with fail
            by_cases h34 : c = 34
            · have hpre : preX [34] (c :: r) = true := by rw [h34]; rfl
              have hY : strW o (c :: r) = some (o, r) := by rw [hstp, if_pos h34]
              have HY : Hid (resS l = some (o, r)) := HRES.out.trans (by rw [HX.out.2]; exact hY)
              rw [hpre, passJ_yes hpre] at HP1
              clear hstp hY HX HN HNEXT h34 hpre HM1 h32 k32
              refine (HP1.out _ (HRx.out.below (below_drewN _ _ _))).mono ?_
              rintro e W2 ⟨rfl, hr, hg⟩
              have HR2 : Hid (Rl W2 R s r m) := hr
              have HO2 := hid ((HO.out.to (R := R) (to_below (below_drewN _ _ _)) hRB).to hg hRB)
              have HG2 := hid (HG.out.trans ((to_below (R := R) (below_drewN _ _ _)).trans hg))
              have hst := str_row (c := cap) HO2.out.bytes HO2.out.len
              have HL := hid HO2.out.len
              clear hr hg HP1
              go_wp2_with fail
              go_ret
              exact StrP.yes HY.out (by rw [HL.out]; exact hn) HR2.out HG2.out
            · have hpre : preX [34] (c :: r) = false := by
                show ((34 == c) && true) = false
                rw [Bool.and_true, beq_eq_false_iff_ne]
                exact fun e => h34 e.symm
              rw [if_neg h34] at hstp
              rw [hpre, passJ_no hpre] at HP1
              clear hpre
              refine (HP1.out _ (HRx.out.below (below_drewN _ _ _))).mono ?_
              rintro e W2 ⟨rfl, hr, hg⟩
              have HR2 := hid hr
              have HO2 := hid ((HO.out.to (R := R) (to_below (below_drewN _ _ _)) hRB).to hg hRB)
              have HG2 := hid (HG.out.trans ((to_below (R := R) (below_drewN _ _ _)).trans hg))
              have HBS2 : Hid (B ≤ W2.heap.size) := Nat.le_trans HBS.out (show wr.heap.size ≤ W2.heap.size from hg.size)
              have HP2 := hid (HPB.out _ W2 hr)
              clear hr hg HP1 HO HG HBS HRx
              go_wp2_with fail
              by_cases h92 : c = 92
              · have hpre : preX [92] (c :: r) = true := by rw [h92]; rfl
                rw [if_pos h92] at hstp
                rw [hpre, passJ_yes hpre] at HP2
                clear hpre h32 k32
                refine HP2.out.mono ?_
                rintro e W3 ⟨rfl, hr, hg⟩
                have HO3 := hid (HO2.out.to hg hRB)
                have HG3 := hid (HG2.out.trans hg)
                have HBS3 : Hid (B ≤ W3.heap.size) := Nat.le_trans HBS2.out hg.size
                have HE3 := hid (HE.out r W3 hr)
                clear hr hg HP2 HO2 HG2 HBS2 HR2
                cases he : escJ r with
                | none =>
                  rw [he] at hstp
                  have HNO : Hid (RES = none) := HX.out.2.trans hstp
                  have HC3 : Hid (Calls Tryz.prog 97 #[.pointer (some ⟨R, 0, none⟩)] W3 fun x w' => x = .returned (.string ⟨#[]⟩) ∧ Re w' R s m 5 ∧ W3.grownBy w' (some R)) := HE3.out.mono fun x w' hh => ⟨(hh.2.1 he).1, (hh.2.1 he).2, hh.2.2⟩
                  clear hstp HX HE3 he h92 h34 HN HNEXT
                  go_wp2_with fail
                  refine HC3.out.mono ?_
                  rintro e W4 ⟨rfl, hr, hg⟩
                  have HR4 := hid hr
                  have HO4 := hid (HO3.out.to hg hRB)
                  have HG4 := hid (HG3.out.trans hg)
                  have HBS4 : Hid (B ≤ W4.heap.size) := Nat.le_trans HBS3.out hg.size
                  have HSR : Hid (Src Tryz.prog 1 9 (.string ⟨#[]⟩) 0 (bvs []) W4) := src_strQ [] W4
                  clear hr hg HC3 HO3 HG3 HBS3
                  go_wp2_with (first
                    | (refine wpList_own rfl _ _ 9 rfl B g n cap 0 o [] _ rfl rfl HO4.out HSR.out (by omega) HBS4.out ?_)
                    | fail)
                  intro g1 cap1 W5 hown1 hg1 hor1
                  have HR5 := hid (HR4.out.to hg1 (by have := HO4.out.ge; omega))
                  have HO5 := hid hown1
                  have HG5 := hid (grow_own HG4.out hg1 (fun q e => by injection e with e; have := HO4.out.ge; omega))
                  have HBS5 : Hid (B ≤ W5.heap.size) := Nat.le_trans HBS4.out hg1.size
                  clear hown1 hg1 hor1
                  go_wp2_with fail
                  go_roundw
                  case rel => exact ⟨g1, n, cap1, o, by simp, hn, HBS5, by simpa using HO5, HG5, .inr ⟨HNO, HR5⟩⟩
                  case measure => rw [mQ_re HR5.out (by decide), HM1.out]; omega
                | some q =>
                  obtain ⟨v, r3⟩ := q
                  rw [he] at hstp
                  have hlr := esc_len he
                  have hl5 := encL_le4 v
                  have HX3 : Hid (RES = strW (o ++ encL v) r3) := HX.out.2.trans hstp
                  have HC3 : Hid (Calls Tryz.prog 97 #[.pointer (some ⟨R, 0, none⟩)] W3 fun x w' => x = .returned (.string (asS (encL v))) ∧ Rl w' R s r3 m ∧ W3.grownBy w' (some R)) := HE3.out.mono fun x w' hh => ⟨(hh.1 v r3 he).1, (hh.1 v r3 he).2, hh.2.2⟩
                  have HSR0 := hid (fun W => src_strQ (encL v) W)
                  generalize encL v = EV at hl5 HX3 HC3 HSR0
                  generalize asS EV = SV at HC3 HSR0
                  clear hstp HX HE3 he h92 h34 HN HNEXT
                  go_wp2_with fail
                  refine HC3.out.mono ?_
                  rintro e W4 ⟨rfl, hr, hg⟩
                  have HR4 := hid hr
                  have HO4 := hid (HO3.out.to hg hRB)
                  have HG4 := hid (HG3.out.trans hg)
                  have HBS4 : Hid (B ≤ W4.heap.size) := Nat.le_trans HBS3.out hg.size
                  have HSR := hid (HSR0.out W4)
                  clear hr hg HC3 HO3 HG3 HBS3 HSR0
                  go_wp2_with (first
                    | (refine wpList_own rfl _ _ 9 rfl B g n cap EV.length o EV _ rfl rfl HO4.out HSR.out (by omega) HBS4.out ?_)
                    | fail)
                  intro g1 cap1 W5 hown1 hg1 hor1
                  have HR5 := hid (HR4.out.to hg1 (by have := HO4.out.ge; omega))
                  have HO5 := hid hown1
                  have HG5 := hid (grow_own HG4.out hg1 (fun q e => by injection e with e; have := HO4.out.ge; omega))
                  have HBS5 : Hid (B ≤ W5.heap.size) := Nat.le_trans HBS4.out hg1.size
                  clear hown1 hg1 hor1
                  go_wp2_with fail
                  go_roundw
                  case rel => exact ⟨g1, n + EV.length, cap1, o ++ EV, rfl, by omega, HBS5, HO5, HG5, .inl ⟨r3, ⟨by omega, HX3.out⟩, HR5⟩⟩
                  case measure => rw [mQ_rl HR5.out, HM1.out, List.length_cons]; omega
              · have hpre : preX [92] (c :: r) = false := by
                  show ((92 == c) && true) = false
                  rw [Bool.and_true, beq_eq_false_iff_ne]
                  exact fun e => h92 e.symm
                rw [if_neg h92, if_neg h32] at hstp
                have HX3 : Hid (RES = strW (o ++ [c]) r) := HX.out.2.trans hstp
                rw [hpre, passJ_no hpre] at HP2
                clear hpre hstp HX
                refine HP2.out.mono ?_
                rintro e W3 ⟨rfl, hr, hg⟩
                have HR3 := hid hr
                have HO3 := hid (HO2.out.to hg hRB)
                have HG3 := hid (HG2.out.trans hg)
                have HBS3 : Hid (B ≤ W3.heap.size) := Nat.le_trans HBS2.out hg.size
                have HN3 := hid (HN.out W3 hr)
                clear hr hg HP2 HO2 HG2 HBS2 HR2
                go_wp2_with fail
                refine HN3.out.mono ?_
                rintro e W4 ⟨rfl, hb⟩
                have HR4 := hid (HR3.out.below hb)
                have HO4 := hid (HO3.out.to (R := R) (to_below hb) hRB)
                have HG4 := hid (HG3.out.trans (to_below (R := R) hb))
                have HBS4 : Hid (B ≤ W4.heap.size) := Nat.le_trans HBS3.out hb.size
                have HOA := hid (HO4.out.alloc (.cells #[.int .u8 (c.toNat : Int)] 5))
                have HAL := hid ((Below.refl W4.heap.size W4).alloc (Nat.le_refl _) (.cells #[.int .u8 (c.toNat : Int)] 5))
                have HBA : Hid (B ≤ (W4.alloc (.cells #[.int .u8 (c.toNat : Int)] 5)).heap.size) := Nat.le_trans HBS4.out HAL.out.size
                have HSR := hid (src_oneQ W4 c (c.toNat : Int) rfl)
                clear hb HN3 HN HR3 HO3 HG3 HBS3
                go_wp2_with (first
                  | (refine wpList_own rfl _ _ 47 rfl B g n cap 1 o [c] _ rfl rfl HOA.out HSR.out (by omega) HBA.out ?_)
                  | fail)
                intro g1 cap1 W5 hown1 hg1 hor1
                have hge1 := HO4.out.ge
                have HR5 := hid ((HR4.out.below HAL.out).to hg1 (by omega))
                have HO5 := hid hown1
                have HG5 := hid (grow_own (HG4.out.trans (to_below (R := R) HAL.out)) hg1 (fun q e => by injection e with e; omega))
                have HBS5 : Hid (B ≤ W5.heap.size) := Nat.le_trans HBA.out hg1.size
                clear hown1 hg1 hor1 HOA HAL HBA HSR HR4 HO4 HG4 HBS4
                have hrow5 := HR5.out.row5.1
                have hpq : s.length - (c :: r).length ≤ 1000000 := by have := HXL.out; omega
                have HNX := hid (fun w' h2 => HR5.out.next (w' := w') h2)
                generalize s.length - (c :: r).length = p5 at hrow5 hpq HNX
                obtain ⟨_, f1, _, _⟩ := hrow5.cells
                unfold Rq at hrow5
                have HRW5 := hid hrow5
                clear hrow5
                go_wp2_with (first
                  | (refine store_part rfl 3 _ _ rfl R 1 (.int .i64 ((p5 : Int) + 1)) _ _ #[.string (asS s), .int .i64 ((p5 : Int) + 1), .int .i64 m, .int .i64 ((0 : Nat) : Int)] rfl rfl info3q (by simp) rfl rfl HRW5.out rfl ?_)
                  | fail)
                intro W6 ho hr
                have HR6 : Hid (Rl W6 R s r m) := HNX.out W6 (by unfold Rq; rw [show ((p5 + 1 : Nat) : Int) = (p5 : Int) + 1 from by omega]; exact hr)
                have HO6 := hid (HO5.out.to (to_only ho) hRB)
                have HG6 := hid (HG5.out.trans (to_only ho))
                have HBS6 : Hid (B ≤ W6.heap.size) := Nat.le_trans HBS5.out (Nat.le_of_eq ho.size.symm)
                clear ho hr HNX
                go_wp2_with fail
                go_roundw
                case rel => exact ⟨g1, n + 1, cap1, o ++ [c], rfl, by omega, HBS6, HO6, HG6, .inl ⟨r, ⟨by omega, HX3.out⟩, HR6⟩⟩
                case measure => rw [mQ_rl HR6.out, HM1.out, List.length_cons]; omega
      · have hrr := HRx.out
        obtain ⟨px, hpx, hrx⟩ := hrr
        obtain ⟨_, _, _, b3⟩ := hrx.cells
        have HNO := hid (HRES.out.trans HX.out)
        clear hrx hpx
        go_wp2_with fail
        go_ret
        exact StrP.no HNO.out HRx.out HG.out
end Go.Proofs.YtlgkbdebpnbndaaGreatDoor
