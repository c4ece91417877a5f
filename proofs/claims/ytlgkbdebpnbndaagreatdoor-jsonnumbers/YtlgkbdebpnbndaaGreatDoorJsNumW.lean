
/- The reader: a number. -/
import Derived.Test.YtlgkbdebpnbndaaGreatDoorJsNum
import Derived.Lib.ConvBytes
import Derived.Deep.DeepCutAuto
namespace Go.Proofs.YtlgkbdebpnbndaaGreatDoor
set_option linter.unusedVariables false
set_option linter.unusedSimpArgs false
open Go.RowKit Go.BigFrame
attribute [local go_sem ↓] mkErr

/-- What is read of the library's variables. -/
structure TabJ (w : World) : Prop where
  e : TabE w
  rng : ∃ te pe, w.cell? ⟨5, 0, none⟩ = some (.iface te pe)
theorem TabJ.to {w w' : World} {R : Nat} (h : TabJ w) (hg : w.grownBy w' (some R)) (hR : 7 < R) : TabJ w' := by
  obtain ⟨te, pe, hs⟩ := h.rng
  have l2 := block_lt_of_cell hs
  exact ⟨h.e.to hg hR, te, pe, by rw [hg.cell_far ⟨5, 0, none⟩ l2 (fun e => by injection e with e; simp at e; omega)]; exact hs⟩
theorem TabJ.below {w w' : World} (h : TabJ w) (hb : Below w.heap.size w w') : TabJ w' := by
  obtain ⟨te, pe, hs⟩ := h.rng
  have l2 := block_lt_of_cell hs
  exact ⟨h.e.below hb, te, pe, by rw [hb.cell (p := ⟨5, 0, none⟩) l2]; exact hs⟩
theorem below_bytes (w : World) (s : ByteArray) : Below w.heap.size w (Lib.bytesWorld w 5 s) := ⟨rfl, rfl, rfl, by rw [Lib.bytesWorld_size]; omega, fun k hk => Lib.bytesWorld_at_old w 5 s k hk⟩
/-- ParseInt of a sign and digits. -/
theorem pint_j (l ds r : List UInt8) (hl : l.length ≤ 1000000) (h : intJ (minJ l) = some (ds, r)) (w : World) (hT : TabJ w) : Calls Tryz.prog 116 #[.string (asS ((if preX [45] l then [45] else []) ++ ds)), .int .i64 10, .int .i64 64] w fun e w' => ∃ (v : Int) (er : Value), e = .returned (.tuple #[.int .i64 v, er]) ∧ (fitsJ (if preX [45] l then -(decJ ds : Int) else decJ ds) = true → v = (if preX [45] l then -(decJ ds : Int) else decJ ds) ∧ er = .nilIface) ∧ (fitsJ (if preX [45] l then -(decJ ds : Int) else decJ ds) = false → ∃ t p, er = .iface t p) ∧ Below w.heap.size w w' := by
  obtain ⟨h1, h2, h3⟩ := intB_num l ds r h
  obtain ⟨te, pe, hv⟩ := hT.rng
  generalize (if preX [45] l then -(decJ ds : Int) else decJ ds) = v at h3 ⊢
  have hsz : ((if preX [45] l then [45] else []) ++ ds).length ≤ 1000000 := by
    have := congrArg List.length h1
    rw [List.length_append] at this
    omega
  generalize ((if preX [45] l then [45] else []) ++ ds) = s at h1 h2 h3 hsz ⊢
  cases hf : fitsJ v with
  | true =>
    rw [hf] at h3
    refine (Tryz.strconv_ParseInt_10_at64_ok (asS s) (by rw [asS_size]; omega) v h3 w).mono ?_
    rintro e w' ⟨rfl, hw⟩
    refine ⟨v, _, rfl, fun _ => ⟨rfl, rfl⟩, (fun h => by cases h), ?_⟩
    rcases hw with rfl | ⟨t, rfl⟩
    · exact Below.refl _ _
    · exact below_bytes _ _
  | false =>
    rw [hf] at h3
    refine (Tryz.strconv_ParseInt_10_at64_range (asS s) (by rw [asS_size]; omega) h3 _ w hv (.inr ⟨te, pe, rfl⟩)).mono ?_
    rintro e w' ⟨N, rfl, _, _, hb⟩
    exact ⟨_, _, rfl, (fun h => by cases h), fun _ => ⟨_, _, rfl⟩, hb⟩
theorem num_e0 {l : List UInt8} (h : intJ (minJ l) = none) : numJ l = .error 5 := by unfold numJ; rw [h]
theorem num_e1 {l ds l2 : List UInt8} (h : intJ (minJ l) = some (ds, l2)) (h2 : fracJ l2 = none) : numJ l = .error 5 := by unfold numJ; rw [h]; simp only; rw [h2]
theorem num_e2 {l ds l2 l3 : List UInt8} {f : Bool} (h : intJ (minJ l) = some (ds, l2)) (h2 : fracJ l2 = some (f, l3)) (h3 : expJ l3 = none) : numJ l = .error 5 := by unfold numJ; rw [h]; simp only; rw [h2]; simp only; rw [h3]
theorem num_ok {l ds l2 l3 l4 : List UInt8} {f g : Bool} (h : intJ (minJ l) = some (ds, l2)) (h2 : fracJ l2 = some (f, l3)) (h3 : expJ l3 = some (g, l4)) : numJ l = if f || g then .error 1 else if fitsJ (if preX [45] l then -(decJ ds : Int) else decJ ds) then .ok (if preX [45] l then -(decJ ds : Int) else decJ ds, l4) else .error 1 := by
  unfold numJ
  rw [h]
  simp only
  rw [h2]
  simp only
  rw [h3]
theorem minJ_pass (l : List UInt8) : passJ [45] l = minJ l := rfl
/-- What digits answers, of one that must stand there. -/
theorem digs_some {l r : List UInt8} {n d R : Nat} (hl : l.length ≤ 1000000) (hd : digsJ l = some r) (w : World) (h : Rj w R l n d) : Calls Tryz.prog 115 #[.pointer (some ⟨R, 0, none⟩)] w fun e w' => e = .returned (.tuple #[]) ∧ Rj w' R r n d ∧ Only R w w' :=
  (digits_j l n d R hl w h).mono fun e w' hh => ⟨(hh.1 r hd).1, (hh.1 r hd).2, hh.2.2⟩
theorem digs_none {l : List UInt8} {n d R : Nat} (hl : l.length ≤ 1000000) (hd : digsJ l = none) (w : World) (h : Rj w R l n d) : Calls Tryz.prog 115 #[.pointer (some ⟨R, 0, none⟩)] w fun e w' => e = dieJ 5 ∧ Only R w w' :=
  (digits_j l n d R hl w h).mono fun e w' hh => ⟨hh.2.1 hd, hh.2.2⟩
theorem int_zero {l : List UInt8} (h : preX [48] l = true) : intJ l = some ([48], l.drop 1) := by unfold intJ; rw [if_pos h]
theorem int_some {l ds r : List UInt8} (h : preX [48] l = false) (hi : intJ l = some (ds, r)) : digsJ l = some r := by
  unfold intJ at hi
  rw [if_neg (by rw [h]; simp)] at hi
  unfold digsJ
  split at hi
  · cases hi
  · rename_i hn
    rw [if_neg hn]
    injection hi with hi
    injection hi with _ hi
    rw [hi]
theorem int_none {l : List UInt8} (hi : intJ l = none) : preX [48] l = false ∧ digsJ l = none := by
  unfold intJ at hi
  split at hi
  · cases hi
  · rename_i h
    refine ⟨by simpa using h, ?_⟩
    split at hi
    · rename_i hn
      unfold digsJ
      rw [if_pos hn]
    · cases hi
/-- The post of number. -/
def NumP (l : List UInt8) (n d R : Nat) (w : World) (e : Ending) (w' : World) : Prop := (∀ v r, numJ l = .ok (v, r) → e = .returned (.int .i64 v) ∧ Rj w' R r n d) ∧ (∀ k, numJ l = .error k → e = dieJ k) ∧ w.grownBy w' (some R)
theorem NumP.err {l : List UInt8} {n d R : Nat} {w w' : World} {k : Nat} (h : numJ l = .error k) (hg : w.grownBy w' (some R)) : NumP l n d R w (dieJ k) w' := ⟨(fun v r h2 => by rw [h] at h2; cases h2), (fun k2 h2 => by rw [h] at h2; injection h2 with h2; rw [h2]), hg⟩
theorem NumP.ok {l r : List UInt8} {n d R : Nat} {w w' : World} {v : Int} (h : numJ l = .ok (v, r)) (hr : Rj w' R r n d) (hg : w.grownBy w' (some R)) : NumP l n d R w (.returned (.int .i64 v)) w' := ⟨(fun v2 r2 h2 => by rw [h] at h2; injection h2 with h2; injection h2 with h2 h3; subst h2 h3; exact ⟨rfl, hr⟩), (fun k2 h2 => by rw [h] at h2; cases h2), hg⟩
set_option maxHeartbeats 8000000 in
set_option maxRecDepth 100000 in
theorem number_j (l : List UInt8) (n d R : Nat) (hl : l.length ≤ 1000000) (hR : 7 < R) (w : World) (hT : TabJ w) (h : Rj w R l n d) : Calls Tryz.prog 93 #[.pointer (some ⟨R, 0, none⟩)] w (NumP l n d R w) := by
  have HPM : Hid (Calls Tryz.prog 88 #[.pointer (some ⟨R, 0, none⟩), .string ⟨#[45]⟩] w fun e w' => e = .returned (.bool (preX [45] l)) ∧ Rj w' R (minJ l) n d ∧ Only R w w') := passJ_any l [45] n d R w h
  have HTT := hid (fun (W : World) (hg : w.grownBy W (some R)) => hT.to hg hR)
  have hml : (minJ l).length ≤ 1000000 := Nat.le_trans (min_len l) hl
  have HP0 : Hid (∀ W, Rj W R (minJ l) n d → Calls Tryz.prog 88 #[.pointer (some ⟨R, 0, none⟩), .string ⟨#[48]⟩] W fun e w' => e = .returned (.bool (preX [48] (minJ l))) ∧ Rj w' R (passJ [48] (minJ l)) n d ∧ Only R W w') := fun W h => passJ_any (minJ l) [48] n d R W h
  obtain ⟨c0, _⟩ := h.cells
  clear hT h
  cases hi : intJ (minJ l) with
  | none =>
    obtain ⟨q1, q2⟩ := int_none hi
    rw [q1, passJ_no q1] at HP0
    have HD := hid (fun W h => digs_none (n := n) (d := d) (R := R) hml q2 W h)
    have HER := hid (num_e0 hi)
    clear hi q1 q2
    generalize asS l = L at c0
    go_enter Tryz.func93, Tryz.ntmps93
    go_wp2_with fail
    refine HPM.out.mono ?_
    rintro e W1 ⟨rfl, hr, ho⟩
    have HG1 := hid (to_only ho)
    have HP1 := hid (HP0.out W1 hr)
    clear hr ho HPM HP0 c0
    go_wp2_with fail
    refine HP1.out.mono ?_
    rintro e W2 ⟨rfl, hr, ho⟩
    have HG2 := hid (HG1.out.trans (to_only ho))
    have HD2 := hid (HD.out W2 hr)
    clear hr ho HP1 HG1 HD
    go_wp2_with fail
    refine HD2.out.mono ?_
    rintro e W3 ⟨rfl, ho⟩
    exact ⟨rfl, NumP.err HER.out (HG2.out.trans (to_only ho))⟩
  | some q =>
    obtain ⟨ds, l2⟩ := q
    obtain ⟨p1, p2, _⟩ := intB_num l ds l2 hi
    have hlen : l.length = ((if preX [45] l then [45] else []) ++ ds).length + l2.length := by
      have := congrArg List.length p1
      rw [List.length_append] at this
      exact this
    have hl2 : l2.length ≤ 1000000 := by omega
    have hz : (asS l).size = l.length := asS_size l
    have hz2 : (asS l2).size = l2.length := asS_size l2
    have HEX : Hid (∀ k, k = ((if preX [45] l then [45] else []) ++ ds).length → (asS l).extract 0 k = asS ((if preX [45] l then [45] else []) ++ ds)) := fun k hk => by
      rw [ext_take l k (by omega), hk]
      congr 1
      have := congrArg (List.take ((if preX [45] l then [45] else []) ++ ds).length) p1
      rw [List.take_left] at this
      exact this
    have HPI := hid (fun W (hW : TabJ W) => pint_j l ds l2 hl hi W hW)
    have HE1 := hid (fun h => num_e1 (l := l) hi h)
    have HE2 := hid (fun l3 f h h' => num_e2 (l := l) (l3 := l3) (f := f) hi h h')
    have HOK := hid (fun l3 l4 f g h h' => num_ok (l := l) (l3 := l3) (l4 := l4) (f := f) (g := g) hi h h')
    have HC2 : Hid (∀ W, Rj W R l2 n d → W.cell? ⟨R, 0, none⟩ = some (.string (asS l2))) := fun W h => h.cells.1
    have HPD : Hid (∀ W, Rj W R l2 n d → Calls Tryz.prog 88 #[.pointer (some ⟨R, 0, none⟩), .string ⟨#[46]⟩] W fun e w' => e = .returned (.bool (preX [46] l2)) ∧ Rj w' R (passJ [46] l2) n d ∧ Only R W w') := fun W h => passJ_any l2 [46] n d R W h
    have HFIRST : Hid ((preX [48] (minJ l) = true ∧ passJ [48] (minJ l) = l2) ∨ (preX [48] (minJ l) = false ∧ passJ [48] (minJ l) = minJ l ∧ ∀ W, Rj W R (minJ l) n d → Calls Tryz.prog 115 #[.pointer (some ⟨R, 0, none⟩)] W fun e w' => e = .returned (.tuple #[]) ∧ Rj w' R l2 n d ∧ Only R W w')) := by
      cases hp : preX [48] (minJ l) with
      | true =>
        have := int_zero hp
        rw [hi] at this
        injection this with this
        injection this with _ this
        exact .inl ⟨rfl, by rw [passJ_yes hp]; exact this.symm⟩
      | false => exact .inr ⟨rfl, passJ_no hp, fun W h => digs_some hml (int_some hp hi) W h⟩
    generalize (if preX [45] l then -(decJ ds : Int) else decJ ds) = V at HPI HOK
    generalize asS ((if preX [45] l then [45] else []) ++ ds) = SD at HPI HEX
    generalize ((if preX [45] l then [45] else []) ++ ds).length = sn at hlen HEX
    generalize asS l = L at hz HEX c0
    generalize asS l2 = L2 at hz2 HC2
    generalize preX [48] (minJ l) = b0 at HP0 HFIRST
    generalize passJ [48] (minJ l) = lp at HP0 HFIRST
    clear p1 p2
    go_enter Tryz.func93, Tryz.ntmps93
    go_wp2_with fail
    refine HPM.out.mono ?_
    rintro e W1 ⟨rfl, hr, ho⟩
    have HG1 := hid (to_only ho)
    have HP1 := hid (HP0.out W1 hr)
    clear hr ho HPM HP0 c0
    go_wp2_with fail
    refine HP1.out.mono ?_
    rintro e W2 ⟨rfl, hr, ho⟩
    have HG2 := hid (HG1.out.trans (to_only ho))
    have HR2 := hid hr
    clear hr ho HP1 HG1
    go_upto_if 15 with (fail)
    go_cut [] (fun wx => Hid (Rj wx R l2 n d) ∧ Hid (w.grownBy wx (some R)))
    case first =>
      clear HPI HE1 HE2 HOK HC2 HPD HEX HTT
      rcases HFIRST.out with ⟨rfl, rfl⟩ | ⟨rfl, rfl, hd⟩
      · go_wp2_with fail
        go_meet
        case rel => exact ⟨HR2, HG2⟩
      · have HD2 := hid (hd W2 HR2.out)
        clear hd HFIRST
        go_wp2_with fail
        refine HD2.out.mono ?_
        rintro e W3 ⟨rfl, hr, ho⟩
        have HR3 := hid hr
        have HG3 := hid (HG2.out.trans (to_only ho))
        clear hr ho
        go_wp2_with fail
        go_meet
        case rel => exact ⟨HR3, HG3⟩
    case rest =>
      clear HFIRST HR2 HG2
      obtain ⟨HRa, HGa⟩ := hcut
      have c1 := HC2.out _ HRa.out
      have HTa := hid (HTT.out _ HGa.out)
      have hk : (L.size : Int) - (L2.size : Int) = (sn : Int) := by omega
      have hk0 : (0 : Int) ≤ (sn : Int) := by omega
      have hw64 : wrap64 (sn : Int) = (sn : Int) := by unfold wrap64; omega
      have hk1 : (sn : Int) ≤ (L.size : Int) := by omega
      have hex := HEX.out sn rfl
      have HPa := hid (HPI.out _ HTa.out)
      clear HPI HC2 HEX HTa hz hz2 hlen
      go_wp2_with fail
      refine HPa.out.mono ?_
      rintro e Wb ⟨v, er, rfl, hf1, hf2, hb⟩
      have HRb := hid (HRa.out.below hb)
      have HGb := hid (HGa.out.trans (to_below hb))
      have HPb := hid (HPD.out _ HRb.out)
      obtain ⟨fb, hfb⟩ : ∃ fb, fitsJ V = fb := ⟨_, rfl⟩
      rw [hfb] at hf1 hf2
      have hnil : ∀ W, (binOp .eql 109 er .nilIface).run Tryz.prog W = .ok (.bool fb) W := fun W => by
        cases fb with
        | true => rw [(hf1 rfl).2]; rfl
        | false =>
          obtain ⟨t, p, rfl⟩ := hf2 rfl
          rfl
      have heg : ∀ W, (eqGuard .eql 109 (.tmp 32) (.const .nilIface) er .nilIface).run Tryz.prog W = .ok () W := fun W => by
        cases fb with
        | true => rw [(hf1 rfl).2]; rfl
        | false =>
          obtain ⟨t, p, rfl⟩ := hf2 rfl
          rfl
      have HV : Hid (fb = true → v = V) := fun h => (hf1 h).1
      have HFB := hid hfb
      clear hb hf1 hf2 hfb HRa HGa HPa HPD c1 hk hk0 hk1 hw64 hex
      go_wp2_with fail
      refine HPb.out.mono ?_
      rintro e Wc ⟨rfl, hr, ho⟩
      have HGc := hid (HGb.out.trans (to_only ho))
      have HRc := hid hr
      clear hr ho HPb HRb HGb hnil heg
      go_upto_if 35 with (fail)
      go_cut [6] (fun v6 wx => ∃ (f : Bool) (l3 : List UInt8), v6 = .bool (fb && !f) ∧ l3.length ≤ 1000000 ∧ Hid (fracJ l2 = some (f, l3)) ∧ Hid (Rj wx R l3 n d) ∧ Hid (w.grownBy wx (some R)))
      case first =>
        clear HE2 HOK HTT HV HFB
        cases hp : preX [46] l2 with
        | false =>
          have hf : fracJ l2 = some (false, l2) := by unfold fracJ; rw [hp]; rfl
          rw [passJ_no hp] at HRc
          clear HE1 hp
          go_wp2_with fail
          go_meet
          case rel => exact ⟨false, l2, by simp, hl2, hf, HRc, HGc⟩
        | true =>
          rw [passJ_yes hp] at HRc
          have hd1 : (l2.drop 1).length ≤ 1000000 := by rw [List.length_drop]; omega
          cases hd : digsJ (l2.drop 1) with
          | none =>
            have hf : fracJ l2 = none := by unfold fracJ; rw [hp, if_pos rfl, hd]; rfl
            have HD := hid (digs_none (n := n) (d := d) (R := R) hd1 hd _ HRc.out)
            have HER := hid (HE1.out hf)
            clear HE1 hp hd hf HRc
            go_wp2_with fail
            refine HD.out.mono ?_
            rintro e W3 ⟨rfl, ho⟩
            exact ⟨rfl, NumP.err HER.out (HGc.out.trans (to_only ho))⟩
          | some l3 =>
            have hf : fracJ l2 = some (true, l3) := by unfold fracJ; rw [hp, if_pos rfl, hd]; rfl
            have hl3 := digs_len hd
            have HD := hid (digs_some (n := n) (d := d) (R := R) hd1 hd _ HRc.out)
            clear HE1 hp hd HRc
            go_wp2_with fail
            refine HD.out.mono ?_
            rintro e W3 ⟨rfl, hr, ho⟩
            have HR3 := hid hr
            have HG3 := hid (HGc.out.trans (to_only ho))
            clear hr ho
            go_wp2_with fail
            go_meet
            case rel => exact ⟨true, l3, by simp, by omega, hf, HR3, HG3⟩
      case rest =>
        clear HRc HGc HE1 HTT
        obtain ⟨f, l3, rfl, hl3, HFR, HRd, HGd⟩ := hcut
        have HE2' := hid (fun h => HE2.out l3 f HFR.out h)
        have HOK' := hid (fun l4 g h => HOK.out l3 l4 f g HFR.out h)
        clear HE2 HOK HFR
        have HPe : Hid (∀ W, Rj W R l3 n d → Calls Tryz.prog 88 #[.pointer (some ⟨R, 0, none⟩), .string ⟨#[101]⟩] W fun e w' => e = .returned (.bool (preX [101] l3)) ∧ Rj w' R (passJ [101] l3) n d ∧ Only R W w') := fun W h => passJ_any l3 [101] n d R W h
        have HPE : Hid (∀ W, Rj W R l3 n d → Calls Tryz.prog 88 #[.pointer (some ⟨R, 0, none⟩), .string ⟨#[69]⟩] W fun e w' => e = .returned (.bool (preX [69] l3)) ∧ Rj w' R (passJ [69] l3) n d ∧ Only R W w') := fun W h => passJ_any l3 [69] n d R W h
        obtain ⟨be, hbe⟩ : ∃ be, (preX [101] l3 || preX [69] l3) = be := ⟨_, rfl⟩
        go_upto_region 10 with (fail)
        go_cut [43] (fun v43 wx => v43 = .bool be ∧ Hid (Rj wx R (if be then l3.drop 1 else l3) n d) ∧ Hid (w.grownBy wx (some R)))
        case first =>
          have HP1 := hid (HPe.out _ HRd.out)
          clear HPe HE2' HOK' HV HFB
          cases h1 : preX [101] l3 with
          | true =>
            rw [h1] at hbe HP1
            rw [passJ_yes h1] at HP1
            obtain rfl : be = true := hbe.symm
            clear HPE hbe h1 HRd
            go_wp2_with fail
            refine HP1.out.mono ?_
            rintro e W3 ⟨rfl, hr, ho⟩
            have HR3 := hid hr
            have HG3 := hid (HGd.out.trans (to_only ho))
            clear hr ho
            go_wp2_with fail
            go_meet
            case rel => exact ⟨rfl, HR3, HG3⟩
          | false =>
            rw [h1] at hbe HP1
            rw [passJ_no h1] at HP1
            have hbe2 : preX [69] l3 = be := hbe
            have hps : passJ [69] l3 = if be then l3.drop 1 else l3 := by
              cases be with
              | true => exact passJ_yes hbe2
              | false => exact passJ_no hbe2
            rw [hbe2, hps] at HPE
            generalize h44 : (if be = true then l3.drop 1 else l3) = l4 at HPE
            clear hbe hbe2 hps h1 HRd
            go_wp2_with fail
            refine HP1.out.mono ?_
            rintro e W3 ⟨rfl, hr, ho⟩
            have HG3 := hid (HGd.out.trans (to_only ho))
            have HP3 := hid (HPE.out _ hr)
            clear hr ho HP1 HPE HGd
            go_wp2_with fail
            refine HP3.out.mono ?_
            rintro e W4 ⟨rfl, hr, ho⟩
            have HR4 := hid hr
            have HG4 := hid (HG3.out.trans (to_only ho))
            clear hr ho
            go_wp2_with fail
            go_meet
            case rel => exact ⟨by simp, by rw [h44]; exact HR4, HG4⟩
        case rest =>
          clear HRd HGd HPe HPE
          obtain ⟨rfl, HRe, HGe⟩ := hcut
          cases be with
          | false =>
            have hex : expJ l3 = some (false, l3) := by unfold expJ; rw [hbe]; rfl
            have hn := HOK'.out l3 false hex
            rw [Bool.or_false] at hn
            have HRe2 : Hid (Rj _ R l3 n d) := HRe.out
            clear hex hbe HOK' HE2' HRe
            cases f with
            | true =>
              have HER : Hid (numJ l = .error 1) := hn
              rw [Bool.not_true, Bool.and_false]
              clear hn HV HFB
              go_wp2_with fail
              exact ⟨rfl, NumP.err HER.out HGe.out⟩
            | false =>
              rw [Bool.not_false, Bool.and_true]
              cases fb with
              | true =>
                have hn2 : numJ l = .ok (V, l3) := by rw [hn, HFB.out]; rfl
                obtain rfl := HV.out rfl
                have HN := hid hn2
                clear hn hn2 HV HFB
                go_wp2_with fail
                go_ret
                exact NumP.ok HN.out HRe2.out HGe.out
              | false =>
                have hn2 : numJ l = .error 1 := by rw [hn, HFB.out]; rfl
                have HER := hid hn2
                clear hn hn2 HV HFB
                go_wp2_with fail
                exact ⟨rfl, NumP.err HER.out HGe.out⟩
          | true =>
            have hex : expJ l3 = (digsJ (signJ (l3.drop 1))).map fun r => (true, r) := by unfold expJ; rw [hbe]; rfl
            have HRe2 : Hid (Rj _ R (l3.drop 1) n d) := HRe.out
            have hd1 : (l3.drop 1).length ≤ 1000000 := by rw [List.length_drop]; omega
            have hs1 := sign_len (l3.drop 1)
            have HNE : Hid (digsJ (signJ (l3.drop 1)) = none → numJ l = .error 5) := fun h => HE2'.out (by rw [hex, h]; rfl)
            have HNO : Hid (∀ r, digsJ (signJ (l3.drop 1)) = some r → numJ l = .error 1) := fun r h => by
              have := HOK'.out r true (by rw [hex, h]; rfl)
              rw [Bool.or_true] at this
              exact this
            have hsg : (signJ (l3.drop 1)).length ≤ 1000000 := by omega
            clear hex hbe HOK' HE2' HRe HV HFB hs1
            generalize hlx : l3.drop 1 = lx at HRe2 hd1 HNE HNO hsg
            clear hlx
            have HPP : Hid (∀ W, Rj W R lx n d → Calls Tryz.prog 88 #[.pointer (some ⟨R, 0, none⟩), .string ⟨#[43]⟩] W fun e w' => e = .returned (.bool (preX [43] lx)) ∧ Rj w' R (passJ [43] lx) n d ∧ Only R W w') := fun W h => passJ_any lx [43] n d R W h
            have HPM : Hid (∀ W, Rj W R lx n d → Calls Tryz.prog 88 #[.pointer (some ⟨R, 0, none⟩), .string ⟨#[45]⟩] W fun e w' => e = .returned (.bool (preX [45] lx)) ∧ Rj w' R (passJ [45] lx) n d ∧ Only R W w') := fun W h => passJ_any lx [45] n d R W h
            have HP1 := hid (HPP.out _ HRe2.out)
            have HSG : Hid (signJ lx = if preX [43] lx then passJ [43] lx else passJ [45] lx) := by
              unfold signJ passJ
              cases preX [43] lx <;> rfl
            have HLAST : Hid (∀ W, w.grownBy W (some R) → Rj W R (signJ lx) n d → Calls Tryz.prog 115 #[.pointer (some ⟨R, 0, none⟩)] W fun e w' => ((e = .returned (.tuple #[]) ∧ numJ l = .error 1) ∨ (e = dieJ 5 ∧ numJ l = .error 5)) ∧ w.grownBy w' (some R)) := fun W hg h => by
              cases hd : digsJ (signJ lx) with
              | none => exact (digs_none hsg hd W h).mono fun e w' hh => ⟨.inr ⟨hh.1, HNE.out hd⟩, hg.trans (to_only hh.2)⟩
              | some r => exact (digs_some hsg hd W h).mono fun e w' hh => ⟨.inl ⟨hh.1, HNO.out r hd⟩, hg.trans (to_only hh.2.2)⟩
            clear HPP HNE HNO hsg HRe2
            cases h1 : preX [43] lx with
            | true =>
              rw [h1] at HP1 HSG
              have hsj : signJ lx = passJ [43] lx := HSG.out
              rw [← hsj] at HP1
              clear HSG hsj h1 HPM
              go_wp2_with fail
              refine HP1.out.mono ?_
              rintro e W3 ⟨rfl, hr, ho⟩
              have HL3 := hid (HLAST.out W3 (HGe.out.trans (to_only ho)) hr)
              clear hr ho HP1 HLAST
              go_wp2_with fail
              refine HL3.out.mono ?_
              rintro e W5 ⟨⟨rfl, hn⟩ | ⟨rfl, hn⟩, hg⟩
              · have HER := hid hn
                have HG5 := hid hg
                clear hn hg
                go_wp2_with fail
                exact ⟨rfl, NumP.err HER.out HG5.out⟩
              · exact ⟨rfl, NumP.err hn hg⟩
            | false =>
              rw [h1] at HP1 HSG
              have hsj : signJ lx = passJ [45] lx := HSG.out
              rw [passJ_no h1] at HP1
              rw [← hsj] at HPM
              clear HSG hsj h1
              go_wp2_with fail
              refine HP1.out.mono ?_
              rintro e W3 ⟨rfl, hr, ho⟩
              have HG3 := hid (HGe.out.trans (to_only ho))
              have HP3 := hid (HPM.out W3 hr)
              clear hr ho HP1 HPM
              go_wp2_with fail
              refine HP3.out.mono ?_
              rintro e W4 ⟨rfl, hr, ho⟩
              have HL3 := hid (HLAST.out W4 (HG3.out.trans (to_only ho)) hr)
              clear hr ho HP3 HLAST HG3
              go_wp2_with fail
              refine HL3.out.mono ?_
              rintro e W5 ⟨⟨rfl, hn⟩ | ⟨rfl, hn⟩, hg⟩
              · have HER := hid hn
                have HG5 := hid hg
                clear hn hg
                go_wp2_with fail
                exact ⟨rfl, NumP.err HER.out HG5.out⟩
              · exact ⟨rfl, NumP.err hn hg⟩
end Go.Proofs.YtlgkbdebpnbndaaGreatDoor
