
/- The reference's reader: what list does behind a brace. -/
import Derived.Test.YtlgkbdebpnbndaaGreatDoorJsRdB
namespace Go.Proofs.YtlgkbdebpnbndaaGreatDoor
set_option linter.unusedVariables false
set_option linter.unusedSimpArgs false
open Go.RowKit Go.BigFrame
attribute [local go_sem ↓] loadV_eq storeVs_eq

abbrev ovv (vv nv : Value) : Array Value := #[.int .i64 5, .int .i64 0, .string ⟨#[]⟩, vv, nv]
theorem ovv_one {v u : Value} (h : v.oneCell' = true) (h2 : u.oneCell' = true) : (ovv v u).all (·.oneCell') = true := by
  unfold ovv
  simp [Array.all, h, h2]
  rfl
theorem row_cell4 {w : World} {g : Nat} {a b c e f : Value} (hrow : w.heap[g]? = some (.cells #[a, b, c, e, f] 25 (0, 0))) : w.cell? ⟨g, 4, none⟩ = some f := cell_of_row _ _ _ _ _ _ hrow
/-- What the reference's list does, behind a brace. -/
def LstO (d lev : Nat) (l : List UInt8) (n : Nat) (s : List UInt8) (R : Nat) (w : World) (x : Ending) (w' : World) : Prop :=
  (∀ ns ks r m, objJ (valJ d (lev + 1)) l n = .ok (ns, ks, r, m) → ∃ A c B c2, x = .returned (.agg #[.int .i64 5, .int .i64 0, .string ⟨#[]⟩, .slice A ks.length c, .slice B ns.length c2]) ∧ ks.length ≤ c ∧ NmsP (fun q => w.heap.size ≤ q) w' B ns ∧ VsAt (fun q => w.heap.size ≤ q) d w' A ks ∧ Rl w' R s r m) ∧ (∀ k, objJ (valJ d (lev + 1)) l n = .error k → ∃ cs m, x = .returned (.agg cs) ∧ cs.size = 5 ∧ (cs.all (·.oneCell') = true) ∧ k ≠ 0 ∧ Re w' R s m k) ∧ w.grownBy w' (some R)
/-- Was a name read, that none of those is; else something was wrong. -/
def NmQ (bad : Bool) (pre : List (List UInt8)) (nm r3 s : List UInt8) (R k : Nat) (w : World) : Prop := (bad = false ∧ pre.contains nm = false ∧ Rl w R s r3 k) ∨ ((bad = true ∨ pre.contains nm = true) ∧ Re w R s k 5)
set_option maxHeartbeats 16000000 in
set_option maxRecDepth 100000 in
theorem listO_of (d lev : Nat) (IH : ValQOk d (lev + 1)) (l : List UInt8) (n : Nat) (s : List UInt8) (R : Nat) (w : World) (c0 : UInt8) (hs : s.length ≤ 100000) (hn : n ≤ 8192) (hd : lev + 1 ≤ 16) (h : Rl w R s (c0 :: l) n) :
    Calls Tryz.prog 69 #[.pointer (some ⟨R, 0, none⟩), .agg #[.int .i64 5, .int .i64 0, .string ⟨#[]⟩, .slice none 0 0, .slice none 0 0], .int .u8 125, .int .i64 ((lev + 1 : Nat) : Int)] w fun x w' => LstO d lev l n s R w x w' := by
  have hRl := h.lt
  have hll := h.len
  have HIH := hid IH
  have hs6 : s.length ≤ 1000000 := by omega
  have hel := val_shr d (lev + 1)
  have HWAY := hid (fun ns ks l n h => objW_way (el := valJ d (lev + 1)) hel ns ks l n h)
  have HSH := hid hel
  have hlw := dw_len whX l
  obtain ⟨RES, hRES⟩ : ∃ RES, objJ (valJ d (lev + 1)) l n = RES := ⟨_, rfl⟩
  have HPOST : Hid (∀ e w', ((∀ ns ks r m, RES = .ok (ns, ks, r, m) → ∃ A c B c2, e = .returned (.agg #[.int .i64 5, .int .i64 0, .string ⟨#[]⟩, .slice A ks.length c, .slice B ns.length c2]) ∧ ks.length ≤ c ∧ NmsP (fun q => w.heap.size ≤ q) w' B ns ∧ VsAt (fun q => w.heap.size ≤ q) d w' A ks ∧ Rl w' R s r m) ∧ (∀ k, RES = .error k → ∃ cs m, e = .returned (.agg cs) ∧ cs.size = 5 ∧ (cs.all (·.oneCell') = true) ∧ k ≠ 0 ∧ Re w' R s m k) ∧ w.grownBy w' (some R)) → LstO d lev l n s R w e w') := fun e w' hh => by
    rw [← hRES] at hh
    exact hh
  have HFIRST : Hid ((preX [125] (l.dropWhile whX) = true ∧ RES = .ok ([], [], (l.dropWhile whX).drop 1, n)) ∨ (preX [125] (l.dropWhile whX) = false ∧ RES = objW (valJ d (lev + 1)) [] [] (l.dropWhile whX) n)) := by
    rw [← hRES]
    unfold objJ
    cases preX [125] (l.dropWhile whX) with
    | true => exact .inl ⟨rfl, rfl⟩
    | false => exact .inr ⟨rfl, rfl⟩
  clear hRES hel IH
  have hi : ¬ (16 : Int) < ((lev + 1 : Nat) : Int) := by omega
  have hi' : ¬ (16 : Int) < (lev : Int) + 1 := by omega
  have HB := hid ((((Below.refl w.heap.size w).alloc (Nat.le_refl _) (.cells #[.int .i64 5, .int .i64 0, .string ⟨#[]⟩, .slice none 0 0, .slice none 0 0] 25)).alloc (by show _ ≤ (Array.push _ _).size; rw [Array.size_push]; omega) (.cells #[.int .i64 0, .int .i64 0, .string ⟨#[]⟩, .slice none 0 0, .slice none 0 0] 25)))
  have HX := hid (heap_first w (.cells #[.int .i64 5, .int .i64 0, .string ⟨#[]⟩, .slice none 0 0, .slice none 0 0] 25 (0, 0)) (.cells #[.int .i64 0, .int .i64 0, .string ⟨#[]⟩, .slice none 0 0, .slice none 0 0] 25 (0, 0)))
  have HQ := hid (heap_second w (.cells #[.int .i64 5, .int .i64 0, .string ⟨#[]⟩, .slice none 0 0, .slice none 0 0] 25 (0, 0)) (.cells #[.int .i64 0, .int .i64 0, .string ⟨#[]⟩, .slice none 0 0, .slice none 0 0] 25 (0, 0)))
  obtain ⟨W0, hW0⟩ : ∃ W0, (w.alloc (.cells #[.int .i64 5, .int .i64 0, .string ⟨#[]⟩, .slice none 0 0, .slice none 0 0] 25)).alloc (.cells #[.int .i64 0, .int .i64 0, .string ⟨#[]⟩, .slice none 0 0, .slice none 0 0] 25) = W0 := ⟨_, rfl⟩
  rw [hW0] at HB HX HQ
  have hz0 : w.heap.size + 2 ≤ W0.heap.size := by rw [← hW0]; simp
  have h0 := h.below HB.out
  have hrow := h0.row5.1
  have HNX := hid (fun w' h2 => h0.next (w' := w') h2)
  have hpb : s.length - (c0 :: l).length ≤ 1000000 := by omega
  generalize s.length - (c0 :: l).length = p at hrow HNX hpb
  obtain ⟨_, f1, _, _⟩ := hrow.cells
  unfold Rq at hrow
  have HROW := hid hrow
  clear h h0 hrow
  go_enter Tryz.func69, Tryz.ntmps69
  go_wp2_with (first
    | (refine store_part rfl 3 _ _ rfl R 1 (.int .i64 ((p : Int) + 1)) _ _ #[.string (asS s), .int .i64 ((p : Int) + 1), .int .i64 n, .int .i64 ((0 : Nat) : Int)] rfl rfl info3q (by simp) rfl rfl HROW.out rfl ?_; intro W1 ho hr; have HR1 : Hid (Rl W1 R s l n) := HNX.out W1 (by unfold Rq; rw [show ((p + 1 : Nat) : Int) = (p : Int) + 1 from by omega]; exact hr); have HX1 := hid ((ho.block w.heap.size (by omega)).trans HX.out); have HQ1 := hid ((ho.block (w.heap.size + 1) (by omega)).trans HQ.out); have HG1 := hid ((to_below (R := R) HB.out).trans (to_only ho)); have hz1 : w.heap.size + 2 ≤ W1.heap.size := Nat.le_trans hz0 (Nat.le_of_eq ho.size.symm); have HWT := hid (HR1.out.white hs6); clear ho hr)
    | fail)
  refine HWT.out.mono ?_
  rintro x W2 ⟨rfl, hr, hg⟩
  have HX2 := hid (to_row hg HX1.out (by omega))
  have HQ2 := hid (to_row hg HQ1.out (by omega))
  have HG2 := hid (HG1.out.trans hg)
  have hz2 := Nat.le_trans hz1 hg.size
  have HP2 := hid (hr.past 125 hs6)
  clear hr hg HWT HX1 HQ1 HG1 HR1 HX HQ HB HROW HNX f1 hW0
  generalize l.dropWhile whX = l1 at HFIRST hlw HP2
  rcases HFIRST.out with ⟨b1, hres⟩ | ⟨b1, hres⟩
  · rw [b1, passJ_yes b1] at HP2
    have HRS := hid hres
    clear b1 hres HFIRST HWAY HSH HIH
    go_wp2_with fail
    refine HP2.out.mono ?_
    rintro x W3 ⟨rfl, hr, hg⟩
    have hx3 := to_row hg HX2.out (by omega)
    have HQ3 := hid (to_row hg HQ2.out (by omega))
    have HG3 := hid (HG2.out.trans hg)
    have HR3 := hid hr
    have hld := loadV_run hx3 rfl
    clear hr hg hx3 HP2
    go_wp2_with (first
      | (refine wpList_store_abs rfl 25 (.tmp 8) (.tmp 28) rfl (w.heap.size + 1) 0 #[.int .i64 5, .int .i64 0, .string ⟨#[]⟩, .slice none 0 0, .slice none 0 0] rfl rfl 25 _ HQ3.out (Nat.le_refl 5) infoVj (vcs_all _ _ _ _ _ _ _ _ _) ?_; intro W9 hO9 hW9)
      | fail)
    rw [over_whole #[.int .i64 0, .int .i64 0, .string ⟨#[]⟩, .slice none 0 0, .slice none 0 0] #[.int .i64 5, .int .i64 0, .string ⟨#[]⟩, .slice none 0 0, .slice none 0 0] rfl] at hW9
    refine bodyPost_ret (ret_v (p := 8) Tryz.results69 _ _ (w.heap.size + 1) _ rfl (0, 0) rfl hW9) rfl (HPOST.out _ _ ⟨(fun ns ks r m h => ?_), (fun k h => by rw [HRS.out] at h; cases h), grow_own HG3.out (to_only hO9) (fun q e => by injection e with e; omega)⟩)
    rw [HRS.out] at h
    injection h with h
    injection h with h0 h
    injection h with h1 h
    injection h with h2 h3
    subst h0 h1 h2 h3
    exact ⟨none, 0, none, 0, rfl, Nat.le_refl _, NmsP.nil _ _ _, VsAt.nil _ _ _ _, HR3.out.to (to_only hO9) (by omega)⟩
  · rw [b1, passJ_no b1] at HP2
    have HRS := hid hres
    clear b1 hres HFIRST
    go_wp2_with fail
    refine HP2.out.mono ?_
    rintro x W3 ⟨rfl, hr, hg⟩
    have HX3 := hid (to_row hg HX2.out (by omega))
    have HQ3 := hid (to_row hg HQ2.out (by omega))
    have HG3 := hid (HG2.out.trans hg)
    have HR3 := hid hr
    clear hr hg HP2 HX2 HQ2 HG2
    go_wp2_with fail
    go_loopw [9, 10] (fun a9 a10 wr => Hid (w.grownBy wr (some R)) ∧ Hid (wr.heap[w.heap.size + 1]? = some (.cells #[.int .i64 0, .int .i64 0, .string ⟨#[]⟩, .slice none 0 0, .slice none 0 0] 25 (0, 0))) ∧ ((∃ (vv nv : Value) (ns : List (List UInt8)) (ks : List (VJ d)) (rest : List UInt8) (k : Nat), k ≤ 8192 ∧ ks.length + rest.length ≤ l1.length ∧ ns.length = ks.length ∧ Hid (wr.heap[w.heap.size]? = some (.cells (ovv vv nv) 25 (0, 0))) ∧ Hid (RES = objW (valJ d (lev + 1)) ns ks rest k) ∧ Hid (Rl wr R s rest k) ∧ Hid (OwnVj (fun q => w.heap.size + 2 ≤ q ∧ blk nv ≠ some q) wr d vv ks) ∧ Hid (OwnNm (fun q => w.heap.size + 2 ≤ q) wr nv ns)) ∨ (∃ (cs : Array Value) (m er : Nat), Hid (wr.heap[w.heap.size]? = some (.cells cs 25 (0, 0))) ∧ Hid (cs.size = 5 ∧ (cs.all (·.oneCell') = true)) ∧ er ≠ 0 ∧ Hid (RES = .error er) ∧ Hid (Re wr R s m er)))) (fun a9 a10 wr => mQ s.length R wr)
    case atStart => exact ⟨HG3, HQ3, .inl ⟨.slice none 0 0, .slice none 0 0, [], [], l1, n, hn, by simp, rfl, HX3, HRS, HR3, OwnVj.nil _ _ _, OwnNm.nil _ _⟩⟩
    case round =>
      clear HX3 HQ3 HG3 HR3 HRS
      obtain ⟨HG, HQR, ⟨vv, nv, ns, ks, rest, k, hk, hkl, hnk, HX, HRS, HR, HO, HN⟩ | ⟨cs, m, er, HX, HCS, her, HRS, HR⟩⟩ := hrel
      · obtain ⟨px, _, _, hrx⟩ := HR.out
        obtain ⟨_, _, _, f3⟩ := hrx.cells
        have HME := hid (mQ_rl HR.out)
        have hrl := HR.out.len
        have HENv := hid (enters_of Tryz.func40 (by kernel_rfl) rfl)
        have HWY : Hid (WayO (valJ d (lev + 1)) ns ks rest k RES) := by
          have := HWAY.out ns ks rest k hk
          rw [← HRS.out] at this
          exact this
        have HC1 := hid (HR.out.white hs6)
        have hdr := dw_len whX rest
        have hns6 : ns.length ≤ 1000000 := by simp only [List.length_cons] at hll; omega
        have HNK := hid hnk
        clear hnk
        have hzd0 : w.heap.size + 1 < wr.heap.size := (Array.getElem?_eq_some_iff.1 HQR.out).1
        clear hrx
        go_wp2_with fail
        refine HC1.out.mono ?_
        rintro x W4 ⟨rfl, hr, hg⟩
        have HX4 := hid (to_row hg HX.out (by omega))
        have HQ4 := hid (to_row hg HQR.out (by omega))
        have HG4 := hid (HG.out.trans hg)
        have HO4 := hid (HO.out.to hg (fun q hq => by omega))
        have HN4 := hid (HN.out.frame (P' := fun q => w.heap.size + 2 ≤ q) fun q _ hp hl => ⟨hg.block q hl (fun e => by injection e with e; omega), hp⟩)
        have HC2 : Hid (Calls Tryz.prog 70 #[.pointer (some ⟨R, 0, none⟩)] W4 fun x w' => ∃ (nm r3 : List UInt8) (bad : Bool), x = .returned (.string (asS nm)) ∧ nm.length ≤ 4000000 ∧ Hid ((bad = false ∧ textJ (rest.dropWhile whX) = some (nm, r3) ∧ Rl w' R s r3 k) ∨ (bad = true ∧ textJ (rest.dropWhile whX) = none ∧ Re w' R s k 5)) ∧ W4.grownBy w' (some R)) := (strQ (rest.dropWhile whX) s R k hs6 W4 hr).mono fun x w' hh => by
          cases htx : textJ (rest.dropWhile whX) with
          | none =>
            obtain ⟨h1, h2⟩ := hh.2.1 htx
            exact ⟨[], [], true, h1, by decide, .inr ⟨rfl, rfl, h2⟩, hh.2.2⟩
          | some q =>
            obtain ⟨h1, h2, h3⟩ := hh.1 q.1 q.2 htx
            exact ⟨q.1, q.2, false, h1, h3, .inl ⟨rfl, rfl, h2⟩, hh.2.2⟩
        clear hr hg HC1 HX HQR HG HO HN HR HRS
        go_wp2_with fail
        refine HC2.out.mono ?_
        rintro x W5 ⟨nm, r3, bad, rfl, hnl, HBAD, hg⟩
        have HX5 := hid (to_row hg HX4.out (by omega))
        have HQ5 := hid (to_row hg HQ4.out (by omega))
        have HG5 := hid (HG4.out.trans hg)
        have HO5 := hid (HO4.out.to hg (fun q hq => by omega))
        have HN5 := hid (HN4.out.frame (P' := fun q => w.heap.size + 2 ≤ q) fun q _ hp hl => ⟨hg.block q hl (fun e => by injection e with e; omega), hp⟩)
        obtain ⟨NM, hNM⟩ : ∃ NM, NM = asS nm := ⟨_, rfl⟩
        rw [← hNM]
        have HNM := hid hNM
        obtain ⟨A2, c2, hnv, HNA⟩ : ∃ A c, nv = .slice A ns.length c ∧ Hid (NmsP (fun q => w.heap.size + 2 ≤ q) W5 A ns) := by
          obtain ⟨A, c, h1, h2⟩ := HN5.out.shape
          exact ⟨A, c, h1, h2⟩
        subst hnv
        have HNQ : Hid (NmQ bad [] nm r3 s R k W5) := by
          rcases HBAD.out with ⟨h1, _, h2⟩ | ⟨h1, _, h2⟩
          · exact .inl ⟨h1, rfl, h2⟩
          · exact .inr ⟨.inl h1, h2⟩
        have HBM : Hid ((bad = false ∧ textJ (rest.dropWhile whX) = some (nm, r3)) ∨ (bad = true ∧ textJ (rest.dropWhile whX) = none)) := by
          rcases HBAD.out with ⟨h1, h2, _⟩ | ⟨h1, h2, _⟩
          · exact .inl ⟨h1, h2⟩
          · exact .inr ⟨h1, h2⟩
        clear hg hNM HC2 HX4 HQ4 HG4 HO4 HN4 HBAD
        go_wp2_with fail
        obtain ⟨V5, hV5⟩ : ∃ V5, V5 = wr := ⟨_, rfl⟩
        subst hV5
        go_loopw [10] (fun a10 wr => ∃ i : Nat, a10 = .int .i64 (i : Int) ∧ i ≤ ns.length ∧ Hid (W5.grownBy wr (some R)) ∧ Hid (NmQ bad (ns.take i) nm r3 s R k wr)) (fun a10 wr => ns.length - (intOf a10).toNat)
        case atStart => exact ⟨0, rfl, Nat.zero_le _, ⟨rfl, rfl, rfl, Nat.le_refl _, fun _ _ _ => rfl⟩, HNQ⟩
        case round =>
          obtain ⟨i, rfl, hi0, HGi, HQi⟩ := hrel
          clear HNQ
          have HXi := hid (to_row HGi.out HX5.out (by omega))
          have k4 := row_cell4 HXi.out
          by_cases hlt : i < ns.length
          · have hi : (i : Int) < (ns.length : Int) := by omega
            have HNi : Hid (NmsP (fun q => w.heap.size + 2 ≤ q) wr A2 ns) := HNA.out.frame HGi.out.size fun q hp hl => ⟨HGi.out.block q hl (fun e => by injection e with e; omega), hp⟩
            obtain ⟨qb, qo, hAq, -, -, hqc⟩ := HNi.out (by omega)
            subst hAq
            have k5 := hqc i hlt
            have htw : ((asS (ns.getD i [])).toList == NM.toList) = decide (ns.getD i [] = nm) := by rw [HNM.out]; exact tl_two _ _
            have htk : ns.take (i + 1) = ns.take i ++ [ns.getD i []] := by
              rw [List.take_add_one, List.getElem?_eq_getElem hlt, List.getD_eq_getElem?_getD, List.getElem?_eq_getElem hlt]
              rfl
            have HTK := hid htk
            clear htk hqc HNi
            by_cases heq : ns.getD i [] = nm
            · rw [decide_eq_true heq] at htw
              have HNX : Hid (∀ w', Re w' R s k 5 → NmQ bad (ns.take (i + 1)) nm r3 s R k w') := fun w' h => .inr ⟨.inr (by rw [HTK.out, heq]; simp), h⟩
              have HWR : Hid (Calls Tryz.prog 42 #[.pointer (some ⟨R, 0, none⟩), .int .i64 5] wr fun x w' => x = .returned (.tuple #[]) ∧ Re w' R s k 5 ∧ wr.grownBy w' (some R)) := by
                rcases HQi.out with ⟨_, _, h⟩ | ⟨_, h⟩
                · exact h.wrong 5
                · exact h.wrong (by decide) 5
              clear heq HTK HQi
              generalize asS (ns.getD i []) = XB at k5 htw
              go_wp2_with fail
              refine HWR.out.mono ?_
              rintro x W6 ⟨rfl, hr, hg⟩
              have HQ6 := hid (HNX.out W6 hr)
              have HG6 := hid (HGi.out.trans hg)
              clear hr hg HWR HNX k4 k5
              go_wp2_with fail
              go_roundw
              case rel => exact ⟨i + 1, by go_num, by omega, HG6, HQ6⟩
              case measure => simp [intOf]; omega
            · rw [decide_eq_false heq] at htw
              have HNX : Hid (NmQ bad (ns.take (i + 1)) nm r3 s R k wr) := by
                have hne : (nm == ns.getD i []) = false := by rw [beq_eq_false_iff_ne]; exact fun e => heq e.symm
                have hct : (ns.take (i + 1)).contains nm = (ns.take i).contains nm := by
                  rw [HTK.out]
                  rw [List.contains_eq_any_beq, List.contains_eq_any_beq, List.any_append]
                  simp only [List.any_append, List.any_cons, List.any_nil, hne, Bool.or_false]
                rcases HQi.out with ⟨h1, h2, h3⟩ | ⟨h1, h3⟩
                · exact .inl ⟨h1, hct.trans h2, h3⟩
                · exact .inr ⟨by rw [hct]; exact h1, h3⟩
              clear heq HTK HQi
              generalize asS (ns.getD i []) = XB at k5 htw
              go_wp2_with fail
              go_roundw
              case rel => exact ⟨i + 1, by go_num, by omega, HGi, HNX⟩
              case measure => simp [intOf]; omega
          · have hi : ¬ (i : Int) < (ns.length : Int) := by omega
            obtain rfl : i = ns.length := by omega
            rw [List.take_length] at HQi
            obtain ⟨W6, hW6⟩ : ∃ W6, W6 = wr := ⟨_, rfl⟩
            subst hW6
            have HQX := hid (to_row HGi.out HQ5.out (by omega))
            have HG6 := hid (HG5.out.trans HGi.out)
            have HO6 := hid (HO5.out.to HGi.out (fun q hq => by omega))
            have HN6 := hid (HN5.out.frame (P' := fun q => w.heap.size + 2 ≤ q) fun q _ hp hl => ⟨HGi.out.block q hl (fun e => by injection e with e; omega), hp⟩)
            clear hlt hi0 HX5 HQ5 HG5 HO5 HN5 HNA
            have HBA6 := hid ((Below.refl W6.heap.size W6).alloc (Nat.le_refl _) (.cells #[.string NM] 9))
            have HN6a := hid (HN6.out.frame (P' := fun q => w.heap.size + 2 ≤ q) fun q _ hp hl => ⟨HBA6.out.block q hl, hp⟩)
            have HX6a := hid (row_keep HBA6.out HXi.out)
            have HBN6 := hid (fun q (hq : blk (.slice A2 ns.length c2) = some q) => HN6.out.blk_P q hq)
            have hz6 : w.heap.size + 2 ≤ W6.heap.size := by have := (Array.getElem?_eq_some_iff.1 HQX.out).1; omega
            have hRl6 : R < W6.heap.size := Nat.lt_of_lt_of_le (by omega) hz6
            have hz6a := HBA6.out.size
            obtain ⟨nv, hnv⟩ : ∃ nv, nv = Value.slice A2 ns.length c2 := ⟨_, rfl⟩
            have HVV : Hid (vv.oneCell' = true) := HO6.out.one
            go_wp2_with (first
              | (refine wpList_nm rfl _ _ rfl (fun q => w.heap.size + 2 ≤ q) (.slice A2 ns.length c2) _ ns nm rfl rfl HN6a.out (src_st _ W6.heap.size 1 nm NM HNM.out (heap_alloc_new W6 _)) hns6 (Nat.le_trans hz6 hz6a) ?_; intro v9 w9 h9 hg9 hb9; have HN9 := hid h9; have HG9 := hid hg9; have HE9 := hid hb9; have HX9 : Hid (w9.heap[w.heap.size]? = some (.cells (ovv vv (.slice A2 ns.length c2)) 25 (0, 0))) := (hg9.block w.heap.size (Array.getElem?_eq_some_iff.1 HX6a.out).1 (fun e => by have := (HBN6.out _ e.symm).1; omega)).trans HX6a.out; clear h9 hg9 hb9)
              | (refine store_part rfl 23 _ _ rfl w.heap.size 4 v9 _ (ovv vv (.slice A2 ns.length c2)) (ovv vv v9) HN9.out.one HN9.out.cel info23 (by simp) rfl rfl HX9.out rfl ?_; intro W10 ho hr; have HO10 := hid ho; have HX10 := hid hr; clear ho hr)
              | fail)
            have hz9 := HG9.out.size
            have hlv9 : ∀ q, q < W6.heap.size → blk (.slice A2 ns.length c2) ≠ some q → blk v9 ≠ some q := fun q hq hn e => by
              rcases HE9.out with h | h
              · exact hn (h ▸ e)
              · rw [h] at e
                injection e with e
                omega
            have hkeep : ∀ q, q < W6.heap.size → q ≠ w.heap.size → blk (.slice A2 ns.length c2) ≠ some q → W10.heap[q]? = W6.heap[q]? := fun q hq h1 h2 => (HO10.out.block q h1).trans ((HG9.out.block q (Nat.lt_of_lt_of_le hq hz6a) (fun e => h2 e.symm)).trans (HBA6.out.block q hq))
            have HM10 := hid (HN9.out.frame (P' := fun q => w.heap.size + 2 ≤ q) fun q _ hp hl => ⟨HO10.out.block q (by omega), hp⟩)
            have HMONE : Hid (v9.oneCell' = true) := HM10.out.one
            have HO11 : Hid (OwnVj (fun q => w.heap.size + 2 ≤ q ∧ blk v9 ≠ some q) W10 d vv ks) := HO6.out.frame (Nat.le_trans hz6a (Nat.le_trans hz9 (Nat.le_of_eq HO10.out.size.symm))) fun q hq hl => ⟨hkeep q hl (by omega) hq.2, hq.1, hlv9 q hl hq.2⟩
            have hnR : blk (.slice A2 ns.length c2) ≠ some R := fun e => by have := (HBN6.out R e).1; omega
            have HQ10 : Hid (W10.heap[w.heap.size + 1]? = some (.cells #[.int .i64 0, .int .i64 0, .string ⟨#[]⟩, .slice none 0 0, .slice none 0 0] 25 (0, 0))) := (hkeep _ (Array.getElem?_eq_some_iff.1 HQX.out).1 (by omega) (fun e => by have := (HBN6.out _ e).1; omega)).trans HQX.out
            have HG10 : Hid (w.grownBy W10 (some R)) := grow_own (grow_own (HG6.out.trans (to_below HBA6.out)) HG9.out (fun q e => by have := (HBN6.out q e).1; omega)) (to_only HO10.out) (fun q e => by injection e with e; omega)
            have HQi10 : Hid (NmQ bad ns nm r3 s R k W10) := by
              have hkR := hkeep R hRl6 (by omega) hnR
              rcases HQi.out with ⟨h1, h2, p, h3, h4, h5⟩ | ⟨h1, p, h3, h5⟩
              · exact .inl ⟨h1, h2, p, h3, h4, hkR.trans h5⟩
              · exact .inr ⟨h1, p, h3, hkR.trans h5⟩
            clear hkeep hlv9 hnR HN9 HG9 HE9 HX9 HBA6 HN6 HN6a HX6a HBN6 HO6 HQX HG6 HQi HXi k4 HGi HO10 hnv hz9 hz6a hRl6
            rcases HQi10.out with ⟨hbad, hct, hrl10⟩ | ⟨hbad, hre10⟩
            · have htx : textJ (rest.dropWhile whX) = some (nm, r3) := by
                rcases HBM.out with ⟨_, h⟩ | ⟨h, _⟩
                · exact h
                · rw [hbad] at h; cases h
              have HW3 := hid ((HWY.out.2 nm r3 htx).2.1 hct)
              have HW4 := hid ((HWY.out.2 nm r3 htx).2.2 hct)
              obtain ⟨hsr, hsl⟩ := text_len htx
              have hdr3 := dw_len whX r3
              have HWT := hid (hrl10.white hs6)
              clear htx HWY HBM hct HQi10 hrl10
              go_wp2_with fail
              refine HWT.out.mono ?_
              rintro x W11 ⟨rfl, hr, hg⟩
              have HX11 := hid (to_row hg HX10.out (by omega))
              have HQ11 := hid (to_row hg HQ10.out (by omega))
              have HG11 := hid (HG10.out.trans hg)
              have HO12 := hid (HO11.out.to hg (fun q hq => by omega))
              have HM11 := hid (HM10.out.frame (P' := fun q => w.heap.size + 2 ≤ q) fun q _ hp hl => ⟨hg.block q hl (fun e => by injection e with e; omega), hp⟩)
              have HP11 := hid (hr.past 58 hs6)
              obtain ⟨px, -, -, hrx⟩ := hr
              obtain ⟨-, -, -, b3⟩ := hrx.cells
              clear hg hrx HWT HX10 HQ10 HG10 HO11 HM10
              cases hcol : preX [58] (r3.dropWhile whX) with
              | false =>
                have HER := hid (HW3.out hcol)
                rw [hcol, passJ_no hcol] at HP11
                clear HW3 HW4 hcol
                go_wp2_with fail
                refine HP11.out.mono ?_
                rintro x W12 ⟨rfl, hr, hg⟩
                have HWR := hid (hr.wrong 5)
                have HX12 := hid (to_row hg HX11.out (by omega))
                have HQ12 := hid (to_row hg HQ11.out (by omega))
                have HG12 := hid (HG11.out.trans hg)
                clear hr hg HP11 HX11 HQ11 HG11 HO12 HM11 b3 f3
                go_wp2_with fail
                refine HWR.out.mono ?_
                rintro x W13 ⟨rfl, hr, hg⟩
                have HR13 := hid hr
                have HX13 := hid (to_row hg HX12.out (by omega))
                have HQ13 := hid (to_row hg HQ12.out (by omega))
                have HG13 := hid (HG12.out.trans hg)
                clear hr hg HWR HX12 HQ12 HG12
                have HCZ13 : Hid ((ovv vv v9).size = 5 ∧ ((ovv vv v9).all (·.oneCell') = true)) := ⟨rfl, ovv_one HVV.out HMONE.out⟩
                obtain ⟨px13, -, hrx13⟩ := HR13.out
                obtain ⟨-, -, -, b313⟩ := hrx13.cells
                have hld13 := loadV_run HX13.out HCZ13.out.1
                clear hrx13
                go_wp2_with (first
                  | (refine wpList_store_abs rfl 25 (.tmp 8) (.tmp 81) rfl (w.heap.size + 1) 0 (ovv vv v9) rfl rfl 25 _ HQ13.out (by rw [HCZ13.out.1]; exact Nat.le_refl _) (by rw [HCZ13.out.1]; exact infoVj) HCZ13.out.2 ?_; intro W99 hO9 hW9)
                  | fail)
                rw [over_whole #[.int .i64 0, .int .i64 0, .string ⟨#[]⟩, .slice none 0 0, .slice none 0 0] (ovv vv v9) (by rw [HCZ13.out.1]; rfl)] at hW9
                refine bodyPost_ret (ret_v (p := 8) Tryz.results69 _ _ (w.heap.size + 1) _ HCZ13.out.1 (0, 0) rfl hW9) rfl (HPOST.out _ _ ⟨(fun ns ks r m h => by rw [HER.out] at h; cases h), (fun k h => ?_), grow_own HG13.out (to_only hO9) (fun q e => by injection e with e; omega)⟩)
                rw [HER.out] at h
                injection h with h
                subst h
                exact ⟨_, _, rfl, HCZ13.out.1, HCZ13.out.2, by decide, HR13.out.to (to_only hO9) (by omega)⟩
              | true =>
                have HVE := hid ((HW4.out hcol).1)
                have HVO := hid ((HW4.out hcol).2)
                have hd1c := drop_one hcol
                rw [hcol, passJ_yes hcol] at HP11
                clear HW3 HW4 hcol
                generalize (r3.dropWhile whX).drop 1 = l3 at HP11 HVE HVO hd1c
                go_wp2_with fail
                refine HP11.out.mono ?_
                rintro x W12 ⟨rfl, hr, hg⟩
                have HR := hid hr
                have HX := hid (to_row hg HX11.out (by omega))
                have HQR := hid (to_row hg HQ11.out (by omega))
                have HG := hid (HG11.out.trans hg)
                have HO := hid (HO12.out.to hg (fun q hq => by omega))
                have HM := hid (HM11.out.frame (P' := fun q => w.heap.size + 2 ≤ q) fun q _ hp hl => ⟨hg.block q hl (fun e => by injection e with e; omega), hp⟩)
                obtain ⟨px, -, -, hrx⟩ := hr
                obtain ⟨-, -, -, b3⟩ := hrx.cells
                clear hg hrx HP11 HX11 HQ11 HG11 HO12 HM11 f3
                go_wp2_with fail
                have HRd := hid (HR.out.below (show Below W12.heap.size W12 W12.drew from (Below.refl _ _).drew))
                have HVC := hid (HIH.out l3 k s R W12.drew hs hk HRd.out)
                rw [show ((lev + 1 : Nat) : Int) = (lev : Int) + 1 from by omega] at HVC
                have HXd : Hid (W12.drew.heap[w.heap.size]? = some (.cells (ovv vv v9) 25 (0, 0))) := HX.out
                have HQd : Hid (W12.drew.heap[w.heap.size + 1]? = some (.cells #[.int .i64 0, .int .i64 0, .string ⟨#[]⟩, .slice none 0 0, .slice none 0 0] 25 (0, 0))) := HQR.out
                have HGd : Hid (w.grownBy W12.drew (some R)) := HG.out.trans (to_below ((Below.refl _ _).drew))
                have HOd : Hid (OwnVj (fun q => w.heap.size + 2 ≤ q ∧ blk v9 ≠ some q) W12.drew d vv ks) := HO.out.below ((Below.refl _ _).drew)
                have HMd := hid (HM.out.frame (W := W12.drew) (P' := fun q => w.heap.size + 2 ≤ q) fun q _ hp hl => ⟨rfl, hp⟩)
                have HBN := hid (fun q (hq : blk v9 = some q) => HMd.out.blk_P q hq)
                have hzd : w.heap.size + 1 < W12.drew.heap.size := (Array.getElem?_eq_some_iff.1 HQd.out).1
                have hRd := HRd.out.lt
                have HBV := hid (fun q (hq : blk vv = some q) => HOd.out.blk_P q hq)
                have k1 := row_cell3 HXd.out
                have hks6 : ks.length ≤ 1000000 := by simp only [List.length_cons] at hll; omega
                have HONE := hid HOd.out.one
                cases hv : valJ d (lev + 1) l3 k with
                | error er =>
                  have HER : Hid (RES = .error er) := by
                    exact HVE.out er hv
                  have HVC2 : Hid (Calls Tryz.prog 40 #[.pointer (some ⟨R, 0, none⟩), .int .i64 ((lev : Int) + 1)] W12.drew fun e w' => ∃ v, e = .returned v ∧ ∃ a b c e f m, v = .agg #[a, b, c, e, f] ∧ (#[a, b, c, e, f] : Array Value).all (·.oneCell') = true ∧ er ≠ 0 ∧ Re w' R s m er ∧ W12.drew.grownBy w' (some R)) := HVC.out.mono fun e w' hh => by
                    obtain ⟨cs, m, h1, h2, h3, h4, h5⟩ := hh.2.1 er hv
                    obtain ⟨a, b, c, e2, f, rfl⟩ := arr5 cs h2
                    exact ⟨_, h1, a, b, c, e2, f, m, rfl, h3, h4, h5, hh.2.2⟩
                  clear HVE HVO HVC hv HWAY HSH HX HQR HG HO HR HM
                  go_region_law ((first
                      | (refine step_giveQ (by rfl) 40 _ _ _ (by rfl) HENv.out (.pointer (some ⟨R, 0, none⟩)) (.int .i64 ((lev : Int) + 1)) (by rfl) (by rfl) HVC2.out ?_; intro v1 w1 ha; obtain ⟨a, b, c, e, f, m, rfl, hca, her, hr, hg⟩ := ha; have HCA := hid hca; have HR1 := hid hr; have HX1 := hid (to_row hg HXd.out (by omega)); have HQ1 := hid (to_row hg HQd.out (by omega)); have HG1 := hid (HGd.out.trans hg); have HO1 := hid (HOd.out.to hg (fun q hq => by omega)); have hz1 := hg.size; have k2 := row_cell3 HX1.out; have HBA := hid ((Below.refl w1.heap.size w1).alloc (Nat.le_refl _) (.cells #[a, b, c, e, f] 25)); have HX2 := hid (row_keep HBA.out HX1.out); have HQ2 := hid (row_keep HBA.out HQ1.out); have HG2 := hid (HG1.out.trans (to_below HBA.out)); have HR2 := hid (HR1.out.below HBA.out); have HO2 := hid (HO1.out.below HBA.out); have k3 := row_cell3 HX2.out; clear hca hr hg)
                      | (refine step_vjAny (by rfl) _ _ (by rfl) (fun q => w.heap.size + 2 ≤ q ∧ blk v9 ≠ some q) d vv _ ks #[a, b, c, e, f] (by rfl) (by rfl) HO2.out (src_vcs rfl HCA.out (heap_alloc_new w1 _)) hks6 ?_; intro v3 w3 h1 h2; have HN3 := hid h1; have HG3 := hid h2; have HX3 : Hid (w3.heap[w.heap.size]? = some (.cells (ovv vv v9) 25 (0, 0))) := (h2.block _ (Array.getElem?_eq_some_iff.1 HX2.out).1 (fun e => by have := (HBV.out _ e.symm).1; omega)).trans HX2.out; have HQ3 : Hid (w3.heap[w.heap.size + 1]? = some (.cells #[.int .i64 0, .int .i64 0, .string ⟨#[]⟩, .slice none 0 0, .slice none 0 0] 25 (0, 0))) := (h2.block _ (Array.getElem?_eq_some_iff.1 HQ2.out).1 (fun e => by have := (HBV.out _ e.symm).1; omega)).trans HQ2.out; have hst := storeQ3_run rfl HN3.out (cells_one HN3.out) HX3.out; clear h1 h2)
                      | fail))
                  all_goals
                    have HRz : Hid (Re (putQ3 w3 w.heap.size v3) R s m er) := (HR2.out.toB HG3.out (fun e => by have := (HBV.out R e).1; omega)).to (to_only (putQ3_only w3 w.heap.size v3)) (by omega)
                    have HXz : Hid ((putQ3 w3 w.heap.size v3).heap[w.heap.size]? = some (.cells (ovv v3 v9) 25 (0, 0))) := putQ3_row HX3.out
                    have HQz : Hid ((putQ3 w3 w.heap.size v3).heap[w.heap.size + 1]? = some (.cells #[.int .i64 0, .int .i64 0, .string ⟨#[]⟩, .slice none 0 0, .slice none 0 0] 25 (0, 0))) := ((putQ3_only w3 w.heap.size v3).block _ (by omega)).trans HQ3.out
                    have HGz : Hid (w.grownBy (putQ3 w3 w.heap.size v3) (some R)) := grow_own (grow_own HG2.out HG3.out (fun q e => by have := (HBV.out q e).1; omega)) (to_only (putQ3_only w3 w.heap.size v3)) (fun q e => by injection e with e; omega)
                    have HCZ : Hid ((ovv v3 v9).size = 5 ∧ ((ovv v3 v9).all (·.oneCell') = true)) := ⟨rfl, ovv_one HN3.out HMONE.out⟩
                    generalize putQ3 w3 w.heap.size v3 = wz at HRz HXz HQz HGz ⊢
                    clear hst k1 k2 k3 HX3 HQ3 HG3 HX2 HQ2 HG2 HR2 HO2 HX1 HQ1 HG1 HR1 HO1 HBA HVC2 HOd HRd HXd HQd HGd HBV HCA
                    have HWT := hid (HRz.out.white hs6)
                    clear HRz
                    go_wp2_with fail
                    refine HWT.out.mono ?_
                    rintro x W6 ⟨rfl, hr, hg⟩
                    have HR6 := hid hr
                    have HX6 := hid (to_row hg HXz.out (by omega))
                    have HQ6 := hid (to_row hg HQz.out (by omega))
                    have HG6 := hid (HGz.out.trans hg)
                    obtain ⟨px, hpx, hrx⟩ := hr
                    obtain ⟨_, _, _, b3⟩ := hrx.cells
                    have hke : ((er : Int) == 0) = false := by rw [beq_eq_false_iff_ne]; omega
                    have hld := loadV_run HX6.out HCZ.out.1
                    clear hg hrx hpx HWT HXz HQz HGz
                    go_wp2_with (first
                      | (refine wpList_store_abs rfl 25 (.tmp 8) (.tmp 102) rfl (w.heap.size + 1) 0 (ovv v3 v9) rfl rfl 25 _ HQ6.out (by rw [HCZ.out.1]; exact Nat.le_refl _) (by rw [HCZ.out.1]; exact infoVj) HCZ.out.2 ?_; intro W9 hO9 hW9)
                      | fail)
                    rw [over_whole #[.int .i64 0, .int .i64 0, .string ⟨#[]⟩, .slice none 0 0, .slice none 0 0] (ovv v3 v9) (by rw [HCZ.out.1]; rfl)] at hW9
                    refine bodyPost_ret (ret_v (p := 8) Tryz.results69 _ _ (w.heap.size + 1) _ HCZ.out.1 (0, 0) rfl hW9) rfl (HPOST.out _ _ ⟨(fun ns ks r m h => by rw [HER.out] at h; cases h), (fun k h => ?_), grow_own HG6.out (to_only hO9) (fun q e => by injection e with e; omega)⟩)
                    rw [HER.out] at h
                    injection h with h
                    subst h
                    exact ⟨_, m, rfl, HCZ.out.1, HCZ.out.2, her, HR6.out.to (to_only hO9) (by omega)⟩
                | ok q =>
                  obtain ⟨t, l2, n2⟩ := q
                  obtain ⟨hl2, hn2⟩ := HSH.out _ _ _ _ _ hk hv
                  have HWQ := hid (HVO.out t l2 n2 hv)
                  have HVC2 : Hid (Calls Tryz.prog 40 #[.pointer (some ⟨R, 0, none⟩), .int .i64 ((lev : Int) + 1)] W12.drew fun e w' => ∃ v, e = .returned v ∧ ∃ cs, v = .agg cs ∧ VAt (fun q => W12.drew.heap.size ≤ q) d w' cs t ∧ Rl w' R s l2 n2 ∧ W12.drew.grownBy w' (some R)) := HVC.out.mono fun e w' hh => by
                    obtain ⟨cs, h1, h2, h3⟩ := hh.1 t l2 n2 hv
                    exact ⟨_, h1, cs, rfl, h2, h3, hh.2.2⟩
                  have hdw2 := dw_len whX l2
                  clear HVE HVO HVC hv HX HQR HG HO HR HM
                  go_region_law ((first
                      | (refine step_giveQ (by rfl) 40 _ _ _ (by rfl) HENv.out (.pointer (some ⟨R, 0, none⟩)) (.int .i64 ((lev : Int) + 1)) (by rfl) (by rfl) HVC2.out ?_; intro v1 w1 ha; obtain ⟨cs, rfl, hva, hr, hg⟩ := ha; have HV1 := hid hva; obtain ⟨kA, kc, nA, nc, hcs, _⟩ := hva.parts; unfold vcs at hcs; have HR1 := hid hr; have HX1 := hid (to_row hg HXd.out (by omega)); have HQ1 := hid (to_row hg HQd.out (by omega)); have HG1 := hid (HGd.out.trans hg); have HO1 := hid (HOd.out.to hg (fun q hq => by omega)); have HM1 := hid (HMd.out.frame (P' := fun q => w.heap.size + 2 ≤ q) fun q _ hp hl => ⟨hg.block q hl (fun e => by injection e with e; omega), hp⟩); have hz1 := hg.size; have k2 := row_cell3 HX1.out; clear hva hr hg; generalize asS (labJ d t).2.2.1 = S1 at hcs; generalize (kidsJ d t).length = kn at hcs; generalize (labJ d t).2.2.2.length = nn at hcs; generalize (labJ d t).1 = K1 at hcs; generalize (labJ d t).2.1 = N1 at hcs; subst hcs; have HBA := hid ((Below.refl w1.heap.size w1).alloc (Nat.le_refl _) (.cells #[.int .i64 K1, .int .i64 N1, .string S1, .slice kA kn kc, .slice nA nn nc] 25)); have HX2 := hid (row_keep HBA.out HX1.out); have HQ2 := hid (row_keep HBA.out HQ1.out); have HG2 := hid (HG1.out.trans (to_below HBA.out)); have HR2 := hid (HR1.out.below HBA.out); have HO2 := hid (HO1.out.below HBA.out); have HV2 := hid (HV1.out.below HBA.out (Nat.le_refl _)); have HM2 := hid (HM1.out.frame (P' := fun q => w.heap.size + 2 ≤ q) fun q _ hp hl => ⟨HBA.out.block q hl, hp⟩); have k3 := row_cell3 HX2.out)
                      | (refine step_vj (by rfl) _ _ (by rfl) (fun q => w.heap.size + 2 ≤ q ∧ blk v9 ≠ some q) d vv _ ks _ t (by rfl) (by rfl) HO2.out (src_vj HV2.out w1.heap.size 1 (heap_alloc_new w1 _)) (by rfl) (HV2.out.mono fun q hq _ => ⟨⟨by omega, fun e => Nat.lt_irrefl q (Nat.lt_of_lt_of_le (HBN.out q e).2 hq)⟩, fun e => Nat.lt_irrefl q (Nat.lt_of_lt_of_le (HBV.out q e).2 hq)⟩) hks6 ⟨by have := HBA.out.size; omega, fun e => by have := (HBN.out _ e).2; have := HBA.out.size; omega⟩ ?_; intro v3 w3 h1 h2 h3; have HN3 := hid h1; have HG3 := hid h2; have HX3 : Hid (w3.heap[w.heap.size]? = some (.cells (ovv vv v9) 25 (0, 0))) := (h2.block _ (Array.getElem?_eq_some_iff.1 HX2.out).1 (fun e => by have := (HBV.out _ e.symm).1; omega)).trans HX2.out; have HQ3 : Hid (w3.heap[w.heap.size + 1]? = some (.cells #[.int .i64 0, .int .i64 0, .string ⟨#[]⟩, .slice none 0 0, .slice none 0 0] 25 (0, 0))) := (h2.block _ (Array.getElem?_eq_some_iff.1 HQ2.out).1 (fun e => by have := (HBV.out _ e.symm).1; omega)).trans HQ2.out; have hst := storeQ3_run rfl HN3.out.one HN3.out.cel HX3.out; clear h1 h2 h3)
                      | fail))
                  all_goals
                    have HRz : Hid (Rl (putQ3 w3 w.heap.size v3) R s l2 n2) := (HR2.out.toB HG3.out (fun e => by have := (HBV.out R e).1; omega)).to (to_only (putQ3_only w3 w.heap.size v3)) (by omega)
                    have HXz : Hid ((putQ3 w3 w.heap.size v3).heap[w.heap.size]? = some (.cells (ovv v3 v9) 25 (0, 0))) := putQ3_row HX3.out
                    have HQz : Hid ((putQ3 w3 w.heap.size v3).heap[w.heap.size + 1]? = some (.cells #[.int .i64 0, .int .i64 0, .string ⟨#[]⟩, .slice none 0 0, .slice none 0 0] 25 (0, 0))) := ((putQ3_only w3 w.heap.size v3).block _ (by omega)).trans HQ3.out
                    have HGz : Hid (w.grownBy (putQ3 w3 w.heap.size v3) (some R)) := grow_own (grow_own HG2.out HG3.out (fun q e => by have := (HBV.out q e).1; omega)) (to_only (putQ3_only w3 w.heap.size v3)) (fun q e => by injection e with e; omega)
                    have HOz : Hid (OwnVj (fun q => w.heap.size + 2 ≤ q ∧ blk v9 ≠ some q) (putQ3 w3 w.heap.size v3) d v3 (ks ++ [t])) := HN3.out.to (to_only (putQ3_only w3 w.heap.size v3)) (fun q hq => by omega)
                    have HMz := hid ((HM2.out.frame (W := w3) (P' := fun q => w.heap.size + 2 ≤ q) fun q hq hp hl => ⟨HG3.out.block q hl (fun e => (HBV.out q e.symm).1.2 hq), hp⟩).frame (W := putQ3 w3 w.heap.size v3) (P' := fun q => w.heap.size + 2 ≤ q) fun q _ hp hl => ⟨(putQ3_only w3 w.heap.size v3).block q (by omega), hp⟩)
                    generalize putQ3 w3 w.heap.size v3 = wz at HRz HXz HQz HGz HOz HMz ⊢
                    clear hst k1 k2 k3 HX3 HQ3 HG3 HX2 HQ2 HG2 HR2 HO2 HV2 HX1 HQ1 HG1 HR1 HO1 HV1 HBA HVC2 HOd HRd HXd HQd HGd HBV HONE HN3
                    have HWT := hid (HRz.out.white hs6)
                    clear HRz
                    go_wp2_with fail
                    refine HWT.out.mono ?_
                    rintro x W6 ⟨rfl, hr, hg⟩
                    have HX6 := hid (to_row hg HXz.out (by omega))
                    have HQ6 := hid (to_row hg HQz.out (by omega))
                    have HG6 := hid (HGz.out.trans hg)
                    have HO6 := hid (HOz.out.to hg (fun q hq => by omega))
                    have HM6 := hid (HMz.out.frame (P' := fun q => w.heap.size + 2 ≤ q) fun q _ hp hl => ⟨hg.block q hl (fun e => by injection e with e; omega), hp⟩)
                    have HP6 := hid (hr.past 125 hs6)
                    have hl6 := hr.len
                    obtain ⟨px, -, -, hrx⟩ := hr
                    obtain ⟨-, -, -, b3⟩ := hrx.cells
                    clear hg hrx HWT HXz HQz HGz HOz
                    cases hp : preX [125] (l2.dropWhile whX) with
                    | true =>
                      have HRS := hid (HWQ.out.1 hp)
                      rw [hp, passJ_yes hp] at HP6
                      clear HWQ hp
                      go_wp2_with fail
                      refine HP6.out.mono ?_
                      rintro x W7 ⟨rfl, hr, hg⟩
                      have HR7 := hid hr
                      have HX7 := hid (to_row hg HX6.out (by omega))
                      have HQ7 := hid (to_row hg HQ6.out (by omega))
                      have HG7 := hid (HG6.out.trans hg)
                      have HO7 := hid (HO6.out.to hg (fun q hq => by omega))
                      have HM7 := hid (HM6.out.frame (P' := fun q => w.heap.size + 2 ≤ q) fun q _ hp hl => ⟨hg.block q hl (fun e => by injection e with e; omega), hp⟩)
                      have HCZ : Hid ((ovv v3 v9).size = 5 ∧ ((ovv v3 v9).all (·.oneCell') = true)) := ⟨rfl, ovv_one HO7.out.one HMONE.out⟩
                      have hld := loadV_run HX7.out HCZ.out.1
                      clear hr hg HP6 HX6 HQ6 HG6 HO6
                      go_wp2_with (first
                        | (refine wpList_store_abs rfl 25 (.tmp 8) (.tmp 102) rfl (w.heap.size + 1) 0 (ovv v3 v9) rfl rfl 25 _ HQ7.out (by rw [HCZ.out.1]; exact Nat.le_refl _) (by rw [HCZ.out.1]; exact infoVj) HCZ.out.2 ?_; intro W9 hO9 hW9)
                        | fail)
                      rw [over_whole #[.int .i64 0, .int .i64 0, .string ⟨#[]⟩, .slice none 0 0, .slice none 0 0] (ovv v3 v9) (by rw [HCZ.out.1]; rfl)] at hW9
                      refine bodyPost_ret (ret_v (p := 8) Tryz.results69 _ _ (w.heap.size + 1) _ HCZ.out.1 (0, 0) rfl hW9) rfl (HPOST.out _ _ ⟨(fun ns2 ks2 r2 m2 h => ?_), (fun k h => by rw [HRS.out] at h; cases h), grow_own HG7.out (to_only hO9) (fun q e => by injection e with e; omega)⟩)
                      rw [HRS.out] at h
                      injection h with h
                      injection h with h0 h
                      injection h with h1 h
                      injection h with h2 h3
                      subst h0 h1 h2 h3
                      have hO9' := HO7.out.to (to_only hO9) (fun q hq => by omega)
                      obtain ⟨A, c, rfl, -, hvs⟩ := hO9'.shape
                      have hM9' := HM7.out.frame (W := W9) (P' := fun q => w.heap.size + 2 ≤ q) fun q _ hp hl => ⟨hO9.block q (by omega), hp⟩
                      obtain ⟨B, c3, rfl, hns⟩ := hM9'.shape
                      exact ⟨A, c, B, c3, rfl, hO9'.cap, hns.frame (Nat.le_refl _) (fun q hq _ => ⟨rfl, by omega⟩), hvs.mono fun q hq _ => by omega, HR7.out.to (to_only hO9) (by omega)⟩
                    | false =>
                      rw [hp, passJ_no hp] at HP6
                      have HWG2 := hid (HWQ.out.2.1 hp)
                      have HWE2 := hid (HWQ.out.2.2 hp)
                      clear HWQ hp
                      go_wp2_with fail
                      refine HP6.out.mono ?_
                      rintro x W7 ⟨rfl, hr, hg⟩
                      have HX7 := hid (to_row hg HX6.out (by omega))
                      have HQ7 := hid (to_row hg HQ6.out (by omega))
                      have HG7 := hid (HG6.out.trans hg)
                      have HO7 := hid (HO6.out.to hg (fun q hq => by omega))
                      have HM7 := hid (HM6.out.frame (P' := fun q => w.heap.size + 2 ≤ q) fun q _ hp hl => ⟨hg.block q hl (fun e => by injection e with e; omega), hp⟩)
                      have HP7 := hid (hr.past 44 hs6)
                      clear hr hg HP6 HX6 HQ6 HG6 HO6
                      cases hp : preX [44] (l2.dropWhile whX) with
                      | true =>
                        have HRS := hid (HWG2.out hp)
                        rw [hp, passJ_yes hp] at HP7
                        have hd1 := drop_one hp
                        clear HWG2 HWE2 hp
                        generalize (l2.dropWhile whX).drop 1 = l4 at HP7 HRS hd1
                        go_wp2_with fail
                        refine HP7.out.mono ?_
                        rintro x W8 ⟨rfl, hr, hg⟩
                        have HR8 := hid hr
                        have HX8 := hid (to_row hg HX7.out (by omega))
                        have HQ8 := hid (to_row hg HQ7.out (by omega))
                        have HG8 := hid (HG7.out.trans hg)
                        have HO8 := hid (HO7.out.to hg (fun q hq => by omega))
                        have HM8 := hid (HM7.out.frame (P' := fun q => w.heap.size + 2 ≤ q) fun q _ hp hl => ⟨hg.block q hl (fun e => by injection e with e; omega), hp⟩)
                        clear hr hg HP7 HX7 HQ7 HG7 HO7 b3
                        go_wp2_with fail
                        go_roundw
                        case rel => exact ⟨HG8, HQ8, .inl ⟨v3, v9, ns ++ [nm], ks ++ [t], l4, n2, hn2, by rw [List.length_append, List.length_singleton]; omega, by rw [List.length_append, List.length_append, HNK.out]; rfl, HX8, HRS, HR8, HO8, HM8⟩⟩
                        case measure => rw [mQ_rl HR8.out, HME.out]; omega
                      | false =>
                        have HRS := hid (HWE2.out hp)
                        rw [hp, passJ_no hp] at HP7
                        clear HWG2 HWE2 hp
                        go_wp2_with fail
                        refine HP7.out.mono ?_
                        rintro x W8 ⟨rfl, hr, hg⟩
                        have HWR := hid (hr.wrong 5)
                        have HX8 := hid (to_row hg HX7.out (by omega))
                        have HQ8 := hid (to_row hg HQ7.out (by omega))
                        have HG8 := hid (HG7.out.trans hg)
                        have HCZ : Hid ((ovv v3 v9).size = 5 ∧ ((ovv v3 v9).all (·.oneCell') = true)) := ⟨rfl, ovv_one HO7.out.one HMONE.out⟩
                        clear hr hg HP7 HX7 HQ7 HG7 HO7 b3
                        go_wp2_with fail
                        refine HWR.out.mono ?_
                        rintro x W9 ⟨rfl, hr, hg⟩
                        have HR9 := hid hr
                        have HX9 := hid (to_row hg HX8.out (by omega))
                        have HQ9 := hid (to_row hg HQ8.out (by omega))
                        have HG9 := hid (HG8.out.trans hg)
                        clear hr hg HWR HX8 HQ8 HG8
                        go_wp2_with fail
                        go_roundw
                        case rel => exact ⟨HG9, HQ9, .inr ⟨ovv v3 v9, n2, 5, HX9, HCZ, by decide, HRS, HR9⟩⟩
                        case measure => rw [mQ_re HR9.out (by decide), HME.out]; omega
            · have HER : Hid (RES = .error 5) := by
                rcases HBM.out with ⟨h1, h2⟩ | ⟨h1, h2⟩
                · refine (HWY.out.2 nm r3 h2).1 ?_
                  rcases hbad with h | h
                  · rw [h1] at h; cases h
                  · exact h
                · exact HWY.out.1 h2
              have HWT := hid (hre10.white hs6)
              clear HWY HBM hbad HQi10 hre10 HO11 HM10
              go_wp2_with fail
              refine HWT.out.mono ?_
              rintro x W11 ⟨rfl, hr, hg⟩
              have HR11 := hid hr
              have HX11 := hid (to_row hg HX10.out (by omega))
              have HQ11 := hid (to_row hg HQ10.out (by omega))
              have HG11 := hid (HG10.out.trans hg)
              clear hr hg HWT HX10 HQ10 HG10 f3
              have HCZ11 : Hid ((ovv vv v9).size = 5 ∧ ((ovv vv v9).all (·.oneCell') = true)) := ⟨rfl, ovv_one HVV.out HMONE.out⟩
              obtain ⟨px11, -, hrx11⟩ := HR11.out
              obtain ⟨-, -, -, b311⟩ := hrx11.cells
              have hld11 := loadV_run HX11.out HCZ11.out.1
              clear hrx11
              go_wp2_with (first
                | (refine wpList_store_abs rfl 25 (.tmp 8) (.tmp 81) rfl (w.heap.size + 1) 0 (ovv vv v9) rfl rfl 25 _ HQ11.out (by rw [HCZ11.out.1]; exact Nat.le_refl _) (by rw [HCZ11.out.1]; exact infoVj) HCZ11.out.2 ?_; intro W99 hO9 hW9)
                | fail)
              rw [over_whole #[.int .i64 0, .int .i64 0, .string ⟨#[]⟩, .slice none 0 0, .slice none 0 0] (ovv vv v9) (by rw [HCZ11.out.1]; rfl)] at hW9
              refine bodyPost_ret (ret_v (p := 8) Tryz.results69 _ _ (w.heap.size + 1) _ HCZ11.out.1 (0, 0) rfl hW9) rfl (HPOST.out _ _ ⟨(fun ns ks r m h => by rw [HER.out] at h; cases h), (fun k h => ?_), grow_own HG11.out (to_only hO9) (fun q e => by injection e with e; omega)⟩)
              rw [HER.out] at h
              injection h with h
              subst h
              exact ⟨_, _, rfl, HCZ11.out.1, HCZ11.out.2, by decide, HR11.out.to (to_only hO9) (by omega)⟩
      · obtain ⟨px, hpx, hrx⟩ := HR.out
        obtain ⟨_, _, _, b3⟩ := hrx.cells
        have hke : ((er : Int) == 0) = false := by rw [beq_eq_false_iff_ne]; omega
        have hld := loadV_run HX.out HCS.out.1
        clear hrx hpx HWAY HSH HIH
        go_wp2_with (first
          | (refine wpList_store_abs rfl 25 (.tmp 8) (.tmp 108) rfl (w.heap.size + 1) 0 cs rfl rfl 25 _ HQR.out (by rw [HCS.out.1]; exact Nat.le_refl _) (by rw [HCS.out.1]; exact infoVj) HCS.out.2 ?_; intro W9 hO9 hW9)
          | fail)
        rw [over_whole #[.int .i64 0, .int .i64 0, .string ⟨#[]⟩, .slice none 0 0, .slice none 0 0] cs (by rw [HCS.out.1]; rfl)] at hW9
        refine bodyPost_ret (ret_v (p := 8) Tryz.results69 _ _ (w.heap.size + 1) _ HCS.out.1 (0, 0) rfl hW9) rfl (HPOST.out _ _ ⟨(fun ns ks r m h => by rw [HRS.out] at h; cases h), (fun k h => ?_), grow_own HG.out (to_only hO9) (fun q e => by injection e with e; omega)⟩)
        rw [HRS.out] at h
        injection h with h
        subst h
        exact ⟨cs, m, rfl, HCS.out.1, HCS.out.2, her, HR.out.to (to_only hO9) (by omega)⟩
end Go.Proofs.YtlgkbdebpnbndaaGreatDoor
