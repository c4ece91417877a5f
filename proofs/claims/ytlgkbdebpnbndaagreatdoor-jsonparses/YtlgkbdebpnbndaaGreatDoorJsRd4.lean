
/- The reference's reader: a number is read. -/
import Derived.Test.YtlgkbdebpnbndaaGreatDoorJsRd3
import Derived.Test.YtlgkbdebpnbndaaGreatDoorJsNumW
namespace Go.Proofs.YtlgkbdebpnbndaaGreatDoor
set_option linter.unusedVariables false
set_option linter.unusedSimpArgs false
open Go.RowKit Go.BigFrame

theorem Rl.row {w : World} {R : Nat} {s l : List UInt8} {m : Nat} (h : Rl w R s l m) : Rq w R s (s.length - l.length) m 0 ∧ s.drop (s.length - l.length) = l := by
  obtain ⟨p, h1, h2, h3⟩ := h
  have e : s.length - l.length = p := by rw [← h1, List.length_drop]; omega
  rw [e]
  exact ⟨h3, h1⟩
theorem Rl.digs_no {w : World} {R : Nat} {s l : List UInt8} {m : Nat} (h : Rl w R s l m) (hs : s.length ≤ 1000000) (hd : digsJ l = none) : Calls Tryz.prog 98 #[.pointer (some ⟨R, 0, none⟩)] w fun x w' => x = .returned (.int .i64 0) ∧ Rl w' R s l m ∧ w.grownBy w' (some R) := by
  have he : (l.takeWhile digJ) = [] := by
    unfold digsJ at hd
    split at hd
    · rename_i h2
      simpa using h2
    · cases hd
  have hw : l.dropWhile digJ = l := by
    have h2 := List.takeWhile_append_dropWhile (p := digJ) (l := l)
    rw [he] at h2
    exact h2
  refine (h.digits hs).mono fun x w' hh => ?_
  rw [he, hw] at hh
  exact hh
theorem Rl.digs_yes {w : World} {R : Nat} {s l r : List UInt8} {m : Nat} (h : Rl w R s l m) (hs : s.length ≤ 1000000) (hd : digsJ l = some r) : Calls Tryz.prog 98 #[.pointer (some ⟨R, 0, none⟩)] w fun x w' => (∃ k : Nat, x = .returned (.int .i64 (k : Int)) ∧ 0 < k ∧ k ≤ 1000000) ∧ Rl w' R s r m ∧ w.grownBy w' (some R) := by
  have hll := h.len
  unfold digsJ at hd
  split at hd
  · cases hd
  · rename_i h2
    injection hd with hd
    subst hd
    refine (h.digits hs).mono fun x w' hh => ⟨⟨_, hh.1, List.length_pos_iff.2 (by simpa using h2), ?_⟩, hh.2.1, hh.2.2⟩
    have : (l.takeWhile digJ).length ≤ l.length := (List.takeWhile_sublist digJ).length_le
    omega
def LenF (f : Bool) (l3 l2 : List UInt8) : Prop := l3.length ≤ l2.length ∧ (f = true → l3.length < l2.length) ∧ (f = false → l3 = l2)
/-- What num does. -/
def NumQ (l s : List UInt8) (R m : Nat) (w : World) (x : Ending) (w' : World) : Prop :=
  (∀ v r, numJ l = .ok (v, r) → x = .returned (.int .i64 v) ∧ Rl w' R s r m) ∧ (∀ k, numJ l = .error k → (∃ v, x = .returned (.int .i64 v)) ∧ Re w' R s m k) ∧ w.grownBy w' (some R)
theorem NumQ.err {l s : List UInt8} {R m k : Nat} {w w' : World} {v : Int} (h : numJ l = .error k) (hr : Re w' R s m k) (hg : w.grownBy w' (some R)) : NumQ l s R m w (.returned (.int .i64 v)) w' := ⟨fun a b h2 => (by rw [h] at h2; cases h2), fun k2 h2 => (by rw [h] at h2; injection h2 with h2; subst h2; exact ⟨⟨_, rfl⟩, hr⟩), hg⟩
theorem NumQ.ok {l s r : List UInt8} {R m : Nat} {w w' : World} {v : Int} (h : numJ l = .ok (v, r)) (hr : Rl w' R s r m) (hg : w.grownBy w' (some R)) : NumQ l s R m w (.returned (.int .i64 v)) w' := ⟨fun a b h2 => (by rw [h] at h2; injection h2 with h2; injection h2 with h3 h4; subst h3 h4; exact ⟨rfl, hr⟩), fun k2 h2 => (by rw [h] at h2; cases h2), hg⟩
set_option maxHeartbeats 16000000 in
set_option maxRecDepth 100000 in
theorem numQ (l s : List UInt8) (R m : Nat) (hs : s.length ≤ 1000000) (w : World) (h : Rl w R s l m) : Calls Tryz.prog 72 #[.pointer (some ⟨R, 0, none⟩)] w fun x w' => NumQ l s R m w x w' := by
  have HPM := hid (h.past 45 hs)
  have hlen := h.len
  obtain ⟨_, c1, _, _⟩ := h.row.1.cells
  have hpm : passJ [45] l = minJ l := by
    unfold passJ minJ
    rfl
  rw [hpm] at HPM
  have HP0 : Hid (∀ W, Rl W R s (minJ l) m → Calls Tryz.prog 96 #[.pointer (some ⟨R, 0, none⟩), .int .u8 48] W fun x w' => x = .returned (.bool (preX [48] (minJ l))) ∧ Rl w' R s (passJ [48] (minJ l)) m ∧ W.grownBy w' (some R)) := fun W hW => hW.past 48 hs
  have HW5 : Hid (∀ l W, Rl W R s l m → Calls Tryz.prog 42 #[.pointer (some ⟨R, 0, none⟩), .int .i64 5] W fun x w' => x = .returned (.tuple #[]) ∧ Re w' R s m 5 ∧ W.grownBy w' (some R)) := fun l W hW => hW.wrong 5
  have hps : s.length - l.length ≤ 1000000 := by omega
  clear hpm
  cases hi : intJ (minJ l) with
  | none =>
    obtain ⟨q1, q2⟩ := int_none hi
    rw [q1, passJ_no q1] at HP0
    have HER := hid (num_e0 hi)
    have HDG : Hid (∀ W, Rl W R s (minJ l) m → Calls Tryz.prog 98 #[.pointer (some ⟨R, 0, none⟩)] W fun x w' => x = .returned (.int .i64 0) ∧ Rl w' R s (minJ l) m ∧ W.grownBy w' (some R)) := fun W hW => hW.digs_no hs q2
    clear hi q1 q2
    generalize s.length - l.length = p0 at c1 hps
    go_enter Tryz.func72, Tryz.ntmps72
    go_wp2_with fail
    refine HPM.out.mono ?_
    rintro e W1 ⟨rfl, hr, hg⟩
    have HG1 := hid hg
    have HP1 := hid (HP0.out W1 hr)
    clear hr hg HPM HP0 c1
    go_wp2_with fail
    refine HP1.out.mono ?_
    rintro e W2 ⟨rfl, hr, hg⟩
    have HG2 := hid (HG1.out.trans hg)
    have HD2 := hid (HDG.out W2 hr)
    clear hr hg HP1 HG1 HDG
    go_wp2_with fail
    refine HD2.out.mono ?_
    rintro e W3 ⟨rfl, hr, hg⟩
    have HG3 := hid (HG2.out.trans hg)
    have HW3 := hid (HW5.out _ W3 hr)
    clear hr hg HD2 HG2 HW5
    go_wp2_with fail
    refine HW3.out.mono ?_
    rintro e W4 ⟨rfl, hr, hg⟩
    have HRE := hid hr
    have HG4 := hid (HG3.out.trans hg)
    clear hr hg
    go_wp2_with fail
    go_ret
    exact NumQ.err HER.out HRE.out HG4.out
  | some q =>
    obtain ⟨ds, l2⟩ := q
    obtain ⟨i1, i2, i3⟩ := int_parts hi
    have p1 : l = ((if preX [45] l then [45] else []) ++ ds) ++ l2 := by
      rw [List.append_assoc, ← i1]
      exact min_parts l
    have hl12 : l.length = ((if preX [45] l then [45] else []) ++ ds).length + l2.length := by
      have := congrArg List.length p1
      rw [List.length_append] at this
      exact this
    have hdl : ds.length ≤ 1000000 := by rw [List.length_append] at hl12; omega
    have HWH := hid (fun W => wholeQ (preX [45] l) ds i2 i3 hdl W)
    have HEX : Hid ((asS s).extract (s.length - l.length) (s.length - l2.length) = asS ((if preX [45] l then [45] else []) ++ ds)) := by
      show _ = _
      rw [ext_asS, asS_data, h.row.2]
      congr 1
      have e : s.length - l2.length - (s.length - l.length) = ((if preX [45] l then [45] else []) ++ ds).length := by omega
      rw [e]
      have := congrArg (List.take ((if preX [45] l then [45] else []) ++ ds).length) p1
      rw [List.take_left] at this
      exact this
    have HE1 := hid (fun h => num_e1 (l := l) hi h)
    have HE2 := hid (fun l3 f h h' => num_e2 (l := l) (l3 := l3) (f := f) hi h h')
    have HOK := hid (fun l3 l4 f g h h' => num_ok (l := l) (l3 := l3) (l4 := l4) (f := f) (g := g) hi h h')
    have HFIRST : Hid ((preX [48] (minJ l) = true ∧ passJ [48] (minJ l) = l2) ∨ (preX [48] (minJ l) = false ∧ passJ [48] (minJ l) = minJ l ∧ ∀ W, Rl W R s (minJ l) m → Calls Tryz.prog 98 #[.pointer (some ⟨R, 0, none⟩)] W fun x w' => (∃ k : Nat, x = .returned (.int .i64 (k : Int)) ∧ 0 < k ∧ k ≤ 1000000) ∧ Rl w' R s l2 m ∧ W.grownBy w' (some R))) := by
      cases hp : preX [48] (minJ l) with
      | true =>
        have := int_zero hp
        rw [hi] at this
        injection this with this
        injection this with _ this
        exact .inl ⟨rfl, by rw [passJ_yes hp]; exact this.symm⟩
      | false => exact .inr ⟨rfl, passJ_no hp, fun W h => h.digs_yes hs (int_some hp hi)⟩
    generalize hVV : (if preX [45] l then -(decJ ds : Int) else (decJ ds : Int)) = VV at HWH HOK
    generalize hSD : asS ((if preX [45] l then [45] else []) ++ ds) = SD at HWH HEX
    generalize preX [48] (minJ l) = b0 at HP0 HFIRST
    generalize passJ [48] (minJ l) = lp at HP0 HFIRST
    have hp01 : s.length - l.length ≤ s.length - l2.length := by omega
    have hp02 : s.length - l2.length ≤ s.length := by omega
    have HPS : Hid (s.length - l.length ≤ s.length - l2.length ∧ s.length - l2.length ≤ s.length ∧ l2.length ≤ s.length) := ⟨hp01, hp02, by omega⟩
    clear p1 hl12 hdl i1 i2 i3 hVV hSD hp01 hp02 hi
    generalize hp0 : s.length - l.length = p0 at c1 hps HEX HPS
    clear hp0
    go_enter Tryz.func72, Tryz.ntmps72
    go_wp2_with fail
    refine HPM.out.mono ?_
    rintro e W1 ⟨rfl, hr, hg⟩
    have HG1 := hid hg
    have HP1 := hid (HP0.out W1 hr)
    clear hr hg HPM HP0 c1
    go_upto_region 3 with (fail)
    go_cut [20] (fun v20 wx => v20 = .bool false ∧ Hid (Rl wx R s l2 m) ∧ Hid (w.grownBy wx (some R)))
    case first =>
      clear HE1 HE2 HOK HWH HEX HPS HW5
      rcases HFIRST.out with ⟨rfl, rfl⟩ | ⟨rfl, rfl, hd⟩
      · go_wp2_with fail
        refine HP1.out.mono ?_
        rintro e W2 ⟨rfl, hr, hg⟩
        have HG2 := hid (HG1.out.trans hg)
        have HR2 := hid hr
        clear hr hg HP1
        go_wp2_with fail
        go_meet
        case rel => exact ⟨by simp, HR2, HG2⟩
      · have HD := hid hd
        clear hd HFIRST
        go_wp2_with fail
        refine HP1.out.mono ?_
        rintro e W2 ⟨rfl, hr, hg⟩
        have HG2 := hid (HG1.out.trans hg)
        have HD2 := hid (HD.out W2 hr)
        clear hr hg HP1
        go_wp2_with fail
        refine HD2.out.mono ?_
        rintro e W3 ⟨⟨kk, rfl, hk1, hk2⟩, hr, hg⟩
        have HR3 := hid hr
        have HG3 := hid (HG2.out.trans hg)
        have hk3 : ((kk : Int) == 0) = false := by rw [beq_eq_false_iff_ne]; omega
        clear hr hg
        go_wp2_with fail
        go_meet
        case rel => exact ⟨by simp, HR3, HG3⟩
    case rest =>
      clear HFIRST HP1 HG1
      obtain ⟨rfl, HRa, HGa⟩ := hcut
      rename_i wa _
      have hra := HRa.out.row.1
      obtain ⟨_, a1, _, _⟩ := hra.cells
      have HPT := hid (HRa.out.past 46 hs)
      generalize hp2 : s.length - l2.length = p2 at a1 HEX HPS
      clear hra HRa
      go_upto_region 7 with (fail)
      clear a1
      go_cut [33] (fun v33 wx => Hid (w.grownBy wx (some R)) ∧ ((∃ (f : Bool) (l3 : List UInt8), v33 = .bool false ∧ Hid (LenF f l3 l2) ∧ Hid (fracJ l2 = some (f, l3)) ∧ Hid (Rl wx R s l3 m)) ∨ (v33 = .bool true ∧ Hid (fracJ l2 = none) ∧ ∃ lx, Hid (Rl wx R s lx m))))
      case first =>
        clear HE1 HE2 HOK HWH HEX HPS HW5
        cases hp : preX [46] l2 with
        | false =>
          have hf : fracJ l2 = some (false, l2) := by unfold fracJ; rw [hp]; rfl
          rw [hp, passJ_no hp] at HPT
          have HF := hid hf
          clear hf hp
          go_wp2_with fail
          refine HPT.out.mono ?_
          rintro e W2 ⟨rfl, hr, hg⟩
          have HR2 := hid hr
          have HG2 := hid (HGa.out.trans hg)
          clear hr hg HPT
          go_wp2_with fail
          go_meet
          case rel => exact ⟨HG2, .inl ⟨false, l2, by simp, ⟨Nat.le_refl _, (fun h => by cases h), (fun _ => rfl)⟩, HF, HR2⟩⟩
        | true =>
          rw [hp, passJ_yes hp] at HPT
          cases hd : digsJ (l2.drop 1) with
          | none =>
            have hf : fracJ l2 = none := by unfold fracJ; rw [hp, if_pos rfl, hd]; rfl
            have HF := hid hf
            have HDN : Hid (∀ W, Rl W R s (l2.drop 1) m → Calls Tryz.prog 98 #[.pointer (some ⟨R, 0, none⟩)] W fun x w' => x = .returned (.int .i64 0) ∧ Rl w' R s (l2.drop 1) m ∧ W.grownBy w' (some R)) := fun W h => h.digs_no hs hd
            clear hf hp hd
            go_wp2_with fail
            refine HPT.out.mono ?_
            rintro e W2 ⟨rfl, hr, hg⟩
            have HG2 := hid (HGa.out.trans hg)
            have HD2 := hid (HDN.out W2 hr)
            clear hr hg HPT HDN
            go_wp2_with fail
            refine HD2.out.mono ?_
            rintro e W3 ⟨rfl, hr, hg⟩
            have HR3 := hid hr
            have HG3 := hid (HG2.out.trans hg)
            clear hr hg HD2
            go_wp2_with fail
            go_meet
            case rel => exact ⟨HG3, .inr ⟨by simp, HF, _, HR3⟩⟩
          | some l3 =>
            have hf : fracJ l2 = some (true, l3) := by unfold fracJ; rw [hp, if_pos rfl, hd]; rfl
            have HF := hid hf
            have hl3 := digs_len hd
            have hl4 := drop_one hp
            have HLL : Hid (LenF true l3 l2) := ⟨by omega, (fun _ => by omega), (fun h => by cases h)⟩
            have HDN : Hid (∀ W, Rl W R s (l2.drop 1) m → Calls Tryz.prog 98 #[.pointer (some ⟨R, 0, none⟩)] W fun x w' => (∃ k : Nat, x = .returned (.int .i64 (k : Int)) ∧ 0 < k ∧ k ≤ 1000000) ∧ Rl w' R s l3 m ∧ W.grownBy w' (some R)) := fun W h => h.digs_yes hs hd
            clear hf hp hd hl3 hl4
            go_wp2_with fail
            refine HPT.out.mono ?_
            rintro e W2 ⟨rfl, hr, hg⟩
            have HG2 := hid (HGa.out.trans hg)
            have HD2 := hid (HDN.out W2 hr)
            clear hr hg HPT HDN
            go_wp2_with fail
            refine HD2.out.mono ?_
            rintro e W3 ⟨⟨kk, rfl, hk1, hk2⟩, hr, hg⟩
            have HR3 := hid hr
            have HG3 := hid (HG2.out.trans hg)
            have hk3 : ((kk : Int) == 0) = false := by rw [beq_eq_false_iff_ne]; omega
            clear hr hg HD2
            go_wp2_with fail
            go_meet
            case rel => exact ⟨HG3, .inl ⟨true, l3, by simp, HLL, HF, HR3⟩⟩
      case rest =>
        clear HPT HGa
        rename_i wb _
        obtain ⟨HGb, ⟨f, l3, rfl, HLL, HF, HRb⟩ | ⟨rfl, HF, lx, HRb⟩⟩ := hcut
        · have HE2' := hid (fun h => HE2.out l3 f HF.out h)
          have HOK' := hid (fun l4 g h => HOK.out l3 l4 f g HF.out h)
          clear HE1 HE2 HOK HF
          obtain ⟨pz, hz1, hz2, hz3⟩ := HRb.out
          obtain ⟨_, _, _, b3⟩ := hz3.cells
          clear hz1 hz2 hz3
          have HPe : Hid (∀ W, Rl W R s l3 m → Calls Tryz.prog 96 #[.pointer (some ⟨R, 0, none⟩), .int .u8 101] W fun x w' => x = .returned (.bool (preX [101] l3)) ∧ Rl w' R s (passJ [101] l3) m ∧ W.grownBy w' (some R)) := fun W h => h.past 101 hs
          have HPE : Hid (∀ W, Rl W R s l3 m → Calls Tryz.prog 96 #[.pointer (some ⟨R, 0, none⟩), .int .u8 69] W fun x w' => x = .returned (.bool (preX [69] l3)) ∧ Rl w' R s (passJ [69] l3) m ∧ W.grownBy w' (some R)) := fun W h => h.past 69 hs
          have HP1 := hid (HPe.out _ HRb.out)
          obtain ⟨be, hbe⟩ : ∃ be, (preX [101] l3 || preX [69] l3) = be := ⟨_, rfl⟩
          clear HPe HRb
          go_upto_region 9 with (fail)
          go_cut [48] (fun v48 wx => v48 = .bool be ∧ Hid (Rl wx R s (if be then l3.drop 1 else l3) m) ∧ Hid (w.grownBy wx (some R)))
          case first =>
            clear HE2' HOK' HWH HEX HPS HW5 HLL
            cases h1 : preX [101] l3 with
            | true =>
              rw [h1] at hbe HP1
              rw [passJ_yes h1] at HP1
              obtain rfl : be = true := hbe.symm
              clear HPE hbe h1
              go_wp2_with fail
              refine HP1.out.mono ?_
              rintro e W3 ⟨rfl, hr, hg⟩
              have HR3 := hid hr
              have HG3 := hid (HGb.out.trans hg)
              clear hr hg HP1
              go_wp2_with fail
              go_meet
              case rel => exact ⟨by simp, HR3, HG3⟩
            | false =>
              rw [h1] at hbe HP1
              rw [passJ_no h1] at HP1
              have hbe2 : preX [69] l3 = be := hbe
              have hps : passJ [69] l3 = if be then l3.drop 1 else l3 := by
                cases be with
                | true => exact passJ_yes hbe2
                | false => exact passJ_no hbe2
              rw [hbe2, hps] at HPE
              generalize h44 : (if be = true then l3.drop 1 else l3) = l4 at HPE
              clear hbe hbe2 hps h1
              go_wp2_with fail
              refine HP1.out.mono ?_
              rintro e W3 ⟨rfl, hr, hg⟩
              have HG3 := hid (HGb.out.trans hg)
              have HP3 := hid (HPE.out _ hr)
              clear hr hg HP1 HPE
              go_wp2_with fail
              refine HP3.out.mono ?_
              rintro e W4 ⟨rfl, hr, hg⟩
              have HR4 := hid hr
              have HG4 := hid (HG3.out.trans hg)
              clear hr hg HP3
              go_wp2_with fail
              go_meet
              case rel => exact ⟨by simp, by rw [h44]; exact HR4, HG4⟩
          case rest =>
            clear HP1 HGb HPE b3
            obtain ⟨rfl, HRe, HGe⟩ := hcut
            go_upto_if 48 with (fail)
            go_cut [] (fun wx => Hid (w.grownBy wx (some R)) ∧ ((∃ (g : Bool) (l4 : List UInt8), Hid (expJ l3 = some (g, l4)) ∧ Hid (LenF g l4 l3) ∧ Hid (Rl wx R s l4 m)) ∨ (Hid (expJ l3 = none) ∧ Hid (Re wx R s m 5))))
            case first =>
              clear HE2' HOK' HWH HEX HPS HLL
              cases be with
              | false =>
                have hex : expJ l3 = some (false, l3) := by unfold expJ; rw [hbe]; rfl
                have HX := hid hex
                have HRf : Hid (Rl _ R s l3 m) := HRe.out
                clear hex hbe HW5 HRe
                go_wp2_with fail
                go_meet
                case rel => exact ⟨HGe, .inl ⟨false, l3, HX, ⟨Nat.le_refl _, (fun h => by cases h), (fun _ => rfl)⟩, HRf⟩⟩
              | true =>
                have hex : expJ l3 = (digsJ (signJ (l3.drop 1))).map fun r => (true, r) := by unfold expJ; rw [hbe]; rfl
                have HRf : Hid (Rl _ R s (l3.drop 1) m) := HRe.out
                have hlt3 : (l3.drop 1).length < l3.length := by
                  rcases Bool.or_eq_true_iff.1 hbe with h | h
                  · exact drop_one h
                  · exact drop_one h
                have hsl := sign_len (l3.drop 1)
                have HLAST : Hid (∀ W, Rl W R s (signJ (l3.drop 1)) m → Calls Tryz.prog 98 #[.pointer (some ⟨R, 0, none⟩)] W fun x w' => ((∃ k : Nat, ∃ l4, x = .returned (.int .i64 (k : Int)) ∧ 0 < k ∧ k ≤ 1000000 ∧ Hid (expJ l3 = some (true, l4)) ∧ Hid (LenF true l4 l3) ∧ Hid (Rl w' R s l4 m)) ∨ (x = .returned (.int .i64 0) ∧ Hid (expJ l3 = none) ∧ Rl w' R s (signJ (l3.drop 1)) m)) ∧ W.grownBy w' (some R)) := fun W h => by
                  cases hd : digsJ (signJ (l3.drop 1)) with
                  | none => exact (h.digs_no hs hd).mono fun x w' hh => ⟨.inr ⟨hh.1, (by show _ = _; rw [hex, hd]; rfl), hh.2.1⟩, hh.2.2⟩
                  | some l4 =>
                    have := digs_len hd
                    refine (h.digs_yes hs hd).mono fun x w' hh => ⟨.inl ?_, hh.2.2⟩
                    obtain ⟨k, e1, e2, e3⟩ := hh.1
                    exact ⟨k, l4, e1, e2, e3, (by show _ = _; rw [hex, hd]; rfl), ⟨by omega, (fun _ => by omega), (fun h => by cases h)⟩, hh.2.1⟩
                have HPP := hid (HRf.out.past 43 hs)
                have HPN : Hid (∀ W, Rl W R s (l3.drop 1) m → Calls Tryz.prog 96 #[.pointer (some ⟨R, 0, none⟩), .int .u8 45] W fun x w' => x = .returned (.bool (preX [45] (l3.drop 1))) ∧ Rl w' R s (passJ [45] (l3.drop 1)) m ∧ W.grownBy w' (some R)) := fun W h => h.past 45 hs
                have HSG : Hid (signJ (l3.drop 1) = if preX [43] (l3.drop 1) then passJ [43] (l3.drop 1) else passJ [45] (l3.drop 1)) := by
                  unfold signJ passJ
                  cases preX [43] (l3.drop 1) <;> rfl
                clear hex hbe HRe hsl hlt3
                generalize l3.drop 1 = lx at HPP HPN HSG HLAST HRf
                clear HRf
                cases h1 : preX [43] lx with
                | true =>
                  rw [h1] at HPP HSG
                  have hsj : signJ lx = passJ [43] lx := HSG.out
                  rw [← hsj] at HPP
                  clear HSG hsj h1 HPN
                  go_wp2_with fail
                  refine HPP.out.mono ?_
                  rintro e W3 ⟨rfl, hr, hg⟩
                  have HG3 := hid (HGe.out.trans hg)
                  have HL3 := hid (HLAST.out W3 hr)
                  clear hr hg HPP HLAST
                  go_wp2_with fail
                  refine HL3.out.mono ?_
                  rintro e W5 ⟨⟨kk, l4, rfl, hk1, hk2, HX, HL, HR5⟩ | ⟨rfl, HX, hr⟩, hg⟩
                  · have HG5 := hid (HG3.out.trans hg)
                    have hk3 : ((kk : Int) == 0) = false := by rw [beq_eq_false_iff_ne]; omega
                    clear hg HL3
                    go_wp2_with fail
                    go_meet
                    case rel => exact ⟨HG5, .inl ⟨true, l4, HX, HL, HR5⟩⟩
                  · have HG5 := hid (HG3.out.trans hg)
                    have HW5' := hid (HW5.out _ W5 hr)
                    clear hg hr HL3
                    go_wp2_with fail
                    refine HW5'.out.mono ?_
                    rintro e W6 ⟨rfl, hr, hg⟩
                    have HR6 := hid hr
                    have HG6 := hid (HG5.out.trans hg)
                    clear hr hg
                    go_wp2_with fail
                    go_meet
                    case rel => exact ⟨HG6, .inr ⟨HX, HR6⟩⟩
                | false =>
                  rw [h1] at HPP HSG
                  have hsj : signJ lx = passJ [45] lx := HSG.out
                  rw [passJ_no h1] at HPP
                  rw [← hsj] at HPN
                  clear HSG hsj h1
                  go_wp2_with fail
                  refine HPP.out.mono ?_
                  rintro e W2 ⟨rfl, hr, hg⟩
                  have HG2 := hid (HGe.out.trans hg)
                  have HP2 := hid (HPN.out W2 hr)
                  clear hr hg HPP HPN
                  go_wp2_with fail
                  refine HP2.out.mono ?_
                  rintro e W3 ⟨rfl, hr, hg⟩
                  have HG3 := hid (HG2.out.trans hg)
                  have HL3 := hid (HLAST.out W3 hr)
                  clear hr hg HP2 HLAST HG2
                  go_wp2_with fail
                  refine HL3.out.mono ?_
                  rintro e W5 ⟨⟨kk, l4, rfl, hk1, hk2, HX, HL, HR5⟩ | ⟨rfl, HX, hr⟩, hg⟩
                  · have HG5 := hid (HG3.out.trans hg)
                    have hk3 : ((kk : Int) == 0) = false := by rw [beq_eq_false_iff_ne]; omega
                    clear hg HL3
                    go_wp2_with fail
                    go_meet
                    case rel => exact ⟨HG5, .inl ⟨true, l4, HX, HL, HR5⟩⟩
                  · have HG5 := hid (HG3.out.trans hg)
                    have HW5' := hid (HW5.out _ W5 hr)
                    clear hg hr HL3
                    go_wp2_with fail
                    refine HW5'.out.mono ?_
                    rintro e W6 ⟨rfl, hr, hg⟩
                    have HR6 := hid hr
                    have HG6 := hid (HG5.out.trans hg)
                    clear hr hg
                    go_wp2_with fail
                    go_meet
                    case rel => exact ⟨HG6, .inr ⟨HX, HR6⟩⟩
            case rest =>
              clear HRe HGe hbe HW5
              rename_i wc _
              obtain ⟨HGc, ⟨g, l4, HX, HL4, HRc⟩ | ⟨HX, HRc⟩⟩ := hcut
              · have hnum := HOK'.out l4 g HX.out
                have hrc := HRc.out.row.1
                obtain ⟨d0, d1, _, d3⟩ := hrc.cells
                have hln4 := HRc.out.len
                obtain ⟨ps1, ps2, ps3⟩ := HPS.out
                have hne : ((p2 : Int) != ((s.length - l4.length : Nat) : Int)) = (f || g) := by
                  obtain ⟨u1, u2, u3⟩ := HLL.out
                  obtain ⟨t1, t2, t3⟩ := HL4.out
                  cases f with
                  | true =>
                    have := u2 rfl
                    rw [Bool.true_or, bne_iff_ne]
                    omega
                  | false =>
                    rw [u3 rfl] at t1 t2 t3
                    cases g with
                    | true =>
                      have := t2 rfl
                      rw [Bool.or_true, bne_iff_ne]
                      omega
                    | false =>
                      rw [t3 rfl, Bool.or_false, bne_eq_false_iff_eq]
                      omega
                have hp4 : s.length - l4.length ≤ 1000000 := by omega
                generalize (f || g) = nb at hnum hne
                have hex := HEX.out
                have hsz := asS_size s
                obtain ⟨fb, hfb⟩ : ∃ fb, fitsJ VV = fb := ⟨_, rfl⟩
                rw [hfb] at hnum
                have HW1 : Hid (Calls Tryz.prog 99 #[.string SD] wc fun x w' => ∃ v, x = .returned (.tuple #[.int .i64 v, .bool fb]) ∧ (fb = true → v = VV) ∧ Below wc.heap.size wc w') := (HWH.out wc).mono fun x w' hh => by
                  cases fb with
                  | true => exact ⟨VV, hh.1.1 hfb, fun _ => rfl, hh.2⟩
                  | false =>
                    obtain ⟨nn, hn⟩ := hh.1.2 hfb
                    exact ⟨nn, hn, (fun h => by cases h), hh.2⟩
                have HNUM := hid hnum
                clear HE2' HOK' HX HL4 HLL HPS HEX HWH hnum hfb hrc
                generalize s.length - l4.length = p4 at d1 hne hp4
                generalize asS s = S at d0 hex hsz
                go_wp2_with fail
                refine HW1.out.mono ?_
                rintro e W7 ⟨v, rfl, hv, hb⟩
                have HV := hid hv
                have HR7 := hid (HRc.out.below hb)
                have HG7 := hid (HGc.out.trans (to_below hb))
                have f1 : W7.cell? ⟨R, 1, none⟩ = some (.int .i64 p4) := (hb.cell (p := ⟨R, 1, none⟩) HRc.out.lt).trans d1
                have HWZ := hid (HR7.out.wrong 1)
                clear hb hv d0 d1 d3 HW1 HGc
                cases fb with
                | false =>
                  have HER : Hid (numJ l = .error 1) := by
                    show _ = _
                    rw [HNUM.out]
                    cases nb <;> rfl
                  clear HNUM HV
                  go_wp2_with fail
                  refine HWZ.out.mono ?_
                  rintro e W8 ⟨rfl, hr, hg⟩
                  have HR8 := hid hr
                  have HG8 := hid (HG7.out.trans hg)
                  clear hr hg
                  go_wp2_with fail
                  go_ret
                  exact NumQ.err HER.out HR8.out HG8.out
                | true =>
                  cases nb with
                  | true =>
                    have HER : Hid (numJ l = .error 1) := HNUM.out
                    clear HNUM HV
                    go_wp2_with fail
                    refine HWZ.out.mono ?_
                    rintro e W8 ⟨rfl, hr, hg⟩
                    have HR8 := hid hr
                    have HG8 := hid (HG7.out.trans hg)
                    clear hr hg
                    go_wp2_with fail
                    go_ret
                    exact NumQ.err HER.out HR8.out HG8.out
                  | false =>
                    have HOKN : Hid (numJ l = .ok (VV, l4)) := HNUM.out
                    obtain rfl := HV.out rfl
                    clear HNUM HV HWZ
                    go_wp2_with fail
                    go_ret
                    exact NumQ.ok HOKN.out HR7.out HG7.out
              · have HER := hid (HE2'.out HX.out)
                obtain ⟨px, hpx, hrx⟩ := HRc.out
                obtain ⟨_, _, _, d3⟩ := hrx.cells
                clear HE2' HOK' HWH HEX HPS hpx hrx
                go_wp2_with fail
                go_ret
                exact NumQ.err HER.out HRc.out HGc.out
        · have HER := hid (HE1.out HF.out)
          have HWb := hid (HW5.out lx _ HRb.out)
          clear HE1 HE2 HOK HWH HEX HPS HW5
          go_wp2_with fail
          refine HWb.out.mono ?_
          rintro e W2 ⟨rfl, hr, hg⟩
          obtain ⟨px, hpx, hrx⟩ := hr
          obtain ⟨_, _, _, b3⟩ := hrx.cells
          have HRE : Hid (Re W2 R s m 5) := ⟨px, hpx, hrx⟩
          have HG2 := hid (HGb.out.trans hg)
          clear hg hpx hrx
          go_wp2_with fail
          go_ret
          exact NumQ.err HER.out HRE.out HG2.out
end Go.Proofs.YtlgkbdebpnbndaaGreatDoor
