
/- The reader: a value, whatever it is. -/
import Derived.Test.YtlgkbdebpnbndaaGreatDoorJsObj
namespace Go.Proofs.YtlgkbdebpnbndaaGreatDoor
set_option linter.unusedVariables false
set_option linter.unusedSimpArgs false
open Go.RowKit Go.BigFrame

theorem mkB (x : Value) (w : World) : (Instr.makeInterface 4 x).run Tryz.prog w = .ok (.iface 4 x) w := run_makeInterface w _ x (by kernel_rfl)
theorem mkS (x : Value) (w : World) : (Instr.makeInterface 9 x).run Tryz.prog w = .ok (.iface 9 x) w := run_makeInterface w _ x (by kernel_rfl)
theorem mkI (x : Value) (w : World) : (Instr.makeInterface 2 x).run Tryz.prog w = .ok (.iface 2 x) w := run_makeInterface w _ x (by kernel_rfl)
theorem mkV (x : Value) (w : World) : (Instr.makeInterface 22 x).run Tryz.prog w = .ok (.iface 22 x) w := run_makeInterface w _ x (by kernel_rfl)
theorem mkO (x : Value) (w : World) : (Instr.makeInterface 86 x).run Tryz.prog w = .ok (.iface 86 x) w := run_makeInterface w _ x (by kernel_rfl)
section
variable {α : Type} {leaf : LabJ → α} {nest : Bool → List UInt8 → Nat → Except Nat (α × List UInt8 × Nat)} {l : List UInt8} {m : Nat}
theorem no_of {p l : List UInt8} (h : preX p l = false) : ¬ (preX p l = true) := by rw [h]; simp
theorem atom_null (h : preX nullN l = true) : atomJ leaf nest l m = .ok (leaf (0, 0, [], []), l.drop 4, m) := by unfold atomJ; rw [if_pos h]
theorem atom_true (h1 : preX nullN l = false) (h : preX trueN l = true) : atomJ leaf nest l m = .ok (leaf (1, 1, [], []), l.drop 4, m) := by unfold atomJ; rw [if_neg (no_of h1), if_pos h]
theorem atom_fals (h1 : preX nullN l = false) (h2 : preX trueN l = false) (h : preX falsN l = true) : atomJ leaf nest l m = .ok (leaf (1, 0, [], []), l.drop 5, m) := by unfold atomJ; rw [if_neg (no_of h1), if_neg (no_of h2), if_pos h]
theorem atom_str (h1 : preX nullN l = false) (h2 : preX trueN l = false) (h3 : preX falsN l = false) (h : preX [34] l = true) {s r : List UInt8} (hs : textJ l = some (s, r)) : atomJ leaf nest l m = .ok (leaf (3, 0, s, []), r, m) := by
  unfold textJ at hs
  rw [if_pos h] at hs
  unfold atomJ; rw [if_neg (no_of h1), if_neg (no_of h2), if_neg (no_of h3), if_pos h, hs]
theorem atom_sno (h1 : preX nullN l = false) (h2 : preX trueN l = false) (h3 : preX falsN l = false) (h : preX [34] l = true) (hs : textJ l = none) : atomJ leaf nest l m = .error 5 := by
  unfold textJ at hs
  rw [if_pos h] at hs
  unfold atomJ; rw [if_neg (no_of h1), if_neg (no_of h2), if_neg (no_of h3), if_pos h, hs]
theorem atom_list (h1 : preX nullN l = false) (h2 : preX trueN l = false) (h3 : preX falsN l = false) (h4 : preX [34] l = false) (h : preX [91] l = true) : atomJ leaf nest l m = nest false (l.drop 1) m := by unfold atomJ; rw [if_neg (no_of h1), if_neg (no_of h2), if_neg (no_of h3), if_neg (no_of h4), if_pos h]
theorem atom_obj (h1 : preX nullN l = false) (h2 : preX trueN l = false) (h3 : preX falsN l = false) (h4 : preX [34] l = false) (h5 : preX [91] l = false) (h : preX [123] l = true) : atomJ leaf nest l m = nest true (l.drop 1) m := by unfold atomJ; rw [if_neg (no_of h1), if_neg (no_of h2), if_neg (no_of h3), if_neg (no_of h4), if_neg (no_of h5), if_pos h]
theorem atom_num (h1 : preX nullN l = false) (h2 : preX trueN l = false) (h3 : preX falsN l = false) (h4 : preX [34] l = false) (h5 : preX [91] l = false) (h6 : preX [123] l = false) {v : Int} {r : List UInt8} (h : numJ l = .ok (v, r)) : atomJ leaf nest l m = .ok (leaf (2, v, [], []), r, m) := by unfold atomJ; rw [if_neg (no_of h1), if_neg (no_of h2), if_neg (no_of h3), if_neg (no_of h4), if_neg (no_of h5), if_neg (no_of h6), h]
theorem atom_nno (h1 : preX nullN l = false) (h2 : preX trueN l = false) (h3 : preX falsN l = false) (h4 : preX [34] l = false) (h5 : preX [91] l = false) (h6 : preX [123] l = false) {k : Nat} (h : numJ l = .error k) : atomJ leaf nest l m = .error k := by unfold atomJ; rw [if_neg (no_of h1), if_neg (no_of h2), if_neg (no_of h3), if_neg (no_of h4), if_neg (no_of h5), if_neg (no_of h6), h]
end
theorem ValP.err {d lev n R : Nat} {l : List UInt8} {w w' : World} {k : Nat} (h : valJ d lev l n = .error k) (hg : w.grownBy w' (some R)) : ValP d lev l n R w (dieJ k) w' := ⟨(fun t r m h2 => by rw [h] at h2; cases h2), (fun k2 h2 => by rw [h] at h2; injection h2 with h2; rw [h2]), hg⟩
theorem ValP.got {d lev n R m : Nat} {l r : List UInt8} {w w' : World} {t : VJ d} {x : Value} {cs : Array Value} (h : valJ d lev l n = .ok (t, r, m)) (ha : AnyJ x cs) (hv : VAt (fun q => w.heap.size ≤ q) d w' cs t) (hr : Rj w' R r m lev) (hg : w.grownBy w' (some R)) : ValP d lev l n R w (.returned x) w' :=
  ⟨(fun t2 r2 m2 h2 => by rw [h] at h2; injection h2 with h2; injection h2 with h2 h3; injection h3 with h3 h4; subst h2 h3 h4; exact ⟨x, cs, rfl, ha, hv, hr⟩), (fun k2 h2 => by rw [h] at h2; cases h2), hg⟩
theorem ValP.leaf {d lev n R m : Nat} {l r : List UInt8} {w w' : World} {L : LabJ} {x : Value} (h : valJ d lev l n = .ok (leafJ d L, r, m)) (hL : L.2.2.2 = []) (ha : AnyJ x (vcs L none 0 0 none 0)) (hr : Rj w' R r m lev) (hg : w.grownBy w' (some R)) : ValP d lev l n R w (.returned x) w' :=
  ValP.got h ha (VAt.mk0 (by rw [hL]; exact NmsP.nil _ _ _)) hr hg
/-- What list and object do, for value. -/
def NestP (d lev : Nat) (res : Except Nat (VJ d × List UInt8 × Nat)) (ty R : Nat) (w : World) (e : Ending) (w' : World) : Prop :=
  (∀ t r m, res = .ok (t, r, m) → ∃ x cs, e = .returned x ∧ AnyJ (.iface ty x) cs ∧ VAt (fun q => w.heap.size ≤ q) d w' cs t ∧ Rj w' R r m lev) ∧ (∀ k, res = .error k → e = dieJ k) ∧ w.grownBy w' (some R)
def NestOk (d lev F ty : Nat) (nest : List UInt8 → Nat → Except Nat (VJ d × List UInt8 × Nat)) : Prop := ∀ (l : List UInt8) (n R : Nat) (w : World), l.length ≤ 100000 → n ≤ 8192 → 7 < R → TabJ w → Rj w R l n lev → Calls Tryz.prog F #[.pointer (some ⟨R, 0, none⟩)] w (NestP d lev (nest l n) ty R w)
attribute [local go_sem ↓] mkB mkS mkI mkV mkO
set_option maxHeartbeats 8000000 in
set_option maxRecDepth 100000 in
theorem value_top (d lev : Nat) (nest : Bool → List UInt8 → Nat → Except Nat (VJ d × List UInt8 × Nat)) (hval : ∀ l n, valJ d lev l n = topJ (leafJ d) nest l n) (HL : NestOk d lev 91 22 (nest false)) (HO : NestOk d lev 92 86 (nest true)) : ValOk d lev := by
  intro l n R w hl hn hR hT h
  have HW := hid (white_j l n lev R w h)
  have HTT := hid (fun (W : World) (hg : w.grownBy W (some R)) => hT.to hg hR)
  have HLL := hid HL
  have HOO := hid HO
  have HV := hid (show valJ d lev l n = (match cntJ (l.dropWhile whX) n with | .error e => .error e | .ok m => atomJ (leafJ d) nest (l.dropWhile whX) m) from hval l n)
  have hl1 := dw_len whX l
  clear HL HO hT h hval
  generalize l.dropWhile whX = l1 at HW HV hl1
  have HC := hid (fun W (h : Rj W R l1 n lev) => count_j l1 n lev R hn W h)
  have HCN := hid (fun m (h : cntJ l1 n = .ok m) => cnt_le h hn)
  cases hc : cntJ l1 n with
  | error k =>
    have HV2 : Hid (valJ d lev l n = .error k) := by
      have := HV.out
      rw [hc] at this
      exact this
    have HC2 : Hid (∀ W, Rj W R l1 n lev → Calls Tryz.prog 87 #[.pointer (some ⟨R, 0, none⟩)] W fun e w' => e = dieJ k ∧ Only R W w') := fun W h => (HC.out W h).mono fun e w' hh => ⟨hh.2.1 k hc, hh.2.2⟩
    clear HC hc HV HTT HLL HOO HCN
    go_enter Tryz.func63, Tryz.ntmps63
    go_wp2_with fail
    refine HW.out.mono ?_
    rintro e W1 ⟨rfl, hr, hg⟩
    have HC3 := hid (HC2.out W1 hr)
    have HG1 := hid hg
    clear hr hg HC2 HW
    go_wp2_with fail
    refine HC3.out.mono ?_
    rintro e W2 ⟨rfl, ho⟩
    exact ⟨rfl, ValP.err HV2.out (HG1.out.trans (to_only ho))⟩
  | ok m =>
    have hm := HCN.out m hc
    have HV2 : Hid (valJ d lev l n = atomJ (leafJ d) nest l1 m) := by
      have := HV.out
      rw [hc] at this
      exact this
    have HC2 : Hid (∀ W, Rj W R l1 n lev → Calls Tryz.prog 87 #[.pointer (some ⟨R, 0, none⟩)] W fun e w' => e = .returned (.tuple #[]) ∧ Rj w' R l1 m lev ∧ Only R W w') := fun W h => (HC.out W h).mono fun e w' hh => ⟨(hh.1 m hc).1, (hh.1 m hc).2, hh.2.2⟩
    clear HC hc HV HCN
    go_enter Tryz.func63, Tryz.ntmps63
    go_wp2_with fail
    refine HW.out.mono ?_
    rintro e W1 ⟨rfl, hr, hg⟩
    have HC3 := hid (HC2.out W1 hr)
    have HG1 := hid hg
    clear hr hg HC2 HW
    go_wp2_with fail
    refine HC3.out.mono ?_
    rintro e W2 ⟨rfl, hr, ho⟩
    have HR2 := hid hr
    have HG2 := hid (HG1.out.trans (to_only ho))
    clear hr ho HC3 HG1
    have HP2 : Hid (Calls Tryz.prog 88 #[.pointer (some ⟨R, 0, none⟩), .string ⟨#[110, 117, 108, 108]⟩] W2 fun e w' => e = .returned (.bool (preX nullN l1)) ∧ Rj w' R (passJ nullN l1) m lev ∧ Only R W2 w') := passJ_any l1 nullN m lev R W2 HR2.out
    cases h1 : preX nullN l1 with
    | true =>
      rw [h1, passJ_yes h1, show (nullN : List UInt8).length = 4 from rfl] at HP2
      have HV3 := hid (HV2.out.trans (atom_null  h1))
      clear HV2 HTT HLL HOO  h1
      go_wp2_with fail
      refine HP2.out.mono ?_
      rintro e W3 ⟨rfl, hr, ho⟩
      have HR3 := hid hr
      have HG3 := hid (HG2.out.trans (to_only ho))
      clear hr ho HP2
      go_wp2_with fail
      go_ret
      exact ValP.leaf HV3.out rfl (.inl ⟨rfl, rfl⟩) HR3.out HG3.out
    | false =>
      rw [h1, passJ_no h1] at HP2
      go_wp2_with fail
      refine HP2.out.mono ?_
      rintro e W3 ⟨rfl, hr, ho⟩
      have HR3 := hid hr
      have HG3 := hid (HG2.out.trans (to_only ho))
      clear hr ho HP2 HR2 HG2
      have HP3 : Hid (Calls Tryz.prog 88 #[.pointer (some ⟨R, 0, none⟩), .string ⟨#[116, 114, 117, 101]⟩] W3 fun e w' => e = .returned (.bool (preX trueN l1)) ∧ Rj w' R (passJ trueN l1) m lev ∧ Only R W3 w') := passJ_any l1 trueN m lev R W3 HR3.out
      cases h2 : preX trueN l1 with
      | true =>
        rw [h2, passJ_yes h2, show (trueN : List UInt8).length = 4 from rfl] at HP3
        have HV3 := hid (HV2.out.trans (atom_true h1 h2))
        clear HV2 HTT HLL HOO h1 h2
        go_wp2_with fail
        refine HP3.out.mono ?_
        rintro e W4 ⟨rfl, hr, ho⟩
        have HR4 := hid hr
        have HG4 := hid (HG3.out.trans (to_only ho))
        clear hr ho HP3
        go_wp2_with fail
        go_ret
        exact ValP.leaf HV3.out rfl (.inr (.inl ⟨rfl, rfl⟩)) HR4.out HG4.out
      | false =>
        rw [h2, passJ_no h2] at HP3
        go_wp2_with fail
        refine HP3.out.mono ?_
        rintro e W4 ⟨rfl, hr, ho⟩
        have HR4 := hid hr
        have HG4 := hid (HG3.out.trans (to_only ho))
        clear hr ho HP3 HR3 HG3
        have HP4 : Hid (Calls Tryz.prog 88 #[.pointer (some ⟨R, 0, none⟩), .string ⟨#[102, 97, 108, 115, 101]⟩] W4 fun e w' => e = .returned (.bool (preX falsN l1)) ∧ Rj w' R (passJ falsN l1) m lev ∧ Only R W4 w') := passJ_any l1 falsN m lev R W4 HR4.out
        cases h3 : preX falsN l1 with
        | true =>
          rw [h3, passJ_yes h3, show (falsN : List UInt8).length = 5 from rfl] at HP4
          have HV3 := hid (HV2.out.trans (atom_fals h1 h2 h3))
          clear HV2 HTT HLL HOO h1 h2 h3
          go_wp2_with fail
          refine HP4.out.mono ?_
          rintro e W5 ⟨rfl, hr, ho⟩
          have HR5 := hid hr
          have HG5 := hid (HG4.out.trans (to_only ho))
          clear hr ho HP4
          go_wp2_with fail
          go_ret
          exact ValP.leaf HV3.out rfl (.inr (.inr (.inl ⟨rfl, rfl⟩))) HR5.out HG5.out
        | false =>
          rw [h3, passJ_no h3] at HP4
          go_wp2_with fail
          refine HP4.out.mono ?_
          rintro e W5 ⟨rfl, hr, ho⟩
          have HR5 := hid hr
          have HG5 := hid (HG4.out.trans (to_only ho))
          clear hr ho HP4 HR4 HG4
          have HP5 : Hid (Calls Tryz.prog 89 #[.pointer (some ⟨R, 0, none⟩), .string ⟨#[34]⟩] W5 fun e w' => e = .returned (.bool (preX [34] l1)) ∧ w' = W5) := atJ_any l1 [34] m lev R W5 HR5.out
          cases h4 : preX [34] l1 with
          | true =>
            rw [h4] at HP5
            have HTX := hid (text_j l1 m lev R (by omega) hR W5 (HTT.out W5 HG5.out).e HR5.out)
            cases htx : textJ l1 with
            | none =>
              have HV3 := hid (HV2.out.trans (atom_sno h1 h2 h3 h4 htx))
              have HT2 : Hid (Calls Tryz.prog 90 #[.pointer (some ⟨R, 0, none⟩)] W5 fun e w' => e = dieJ 5 ∧ W5.grownBy w' (some R)) := HTX.out.mono fun e w' hh => ⟨hh.2.1 htx, hh.2.2⟩
              clear HV2 HTT HLL HOO HTX htx h1 h2 h3 h4
              go_wp2_with fail
              refine HP5.out.mono ?_
              rintro e W ⟨rfl, hww⟩
              obtain rfl := hww.symm
              go_wp2_with fail
              refine HT2.out.mono ?_
              rintro e W6 ⟨rfl, hg⟩
              exact ⟨rfl, ValP.err HV3.out (HG5.out.trans hg)⟩
            | some q =>
              obtain ⟨s, r⟩ := q
              have HV3 := hid (HV2.out.trans (atom_str h1 h2 h3 h4 htx))
              have HT2 : Hid (Calls Tryz.prog 90 #[.pointer (some ⟨R, 0, none⟩)] W5 fun e w' => e = .returned (.string (asS s)) ∧ Rj w' R r m lev ∧ W5.grownBy w' (some R)) := HTX.out.mono fun e w' hh => ⟨(hh.1 s r htx).1, (hh.1 s r htx).2, hh.2.2⟩
              have HAN : Hid (AnyJ (.iface 9 (.string (asS s))) (vcs (3, 0, s, []) none 0 0 none 0)) := .inr (.inr (.inr (.inr (.inl ⟨asS s, rfl, rfl⟩))))
              clear HV2 HTT HLL HOO HTX htx h1 h2 h3 h4
              generalize asS s = SB at HT2 HAN
              go_wp2_with fail
              refine HP5.out.mono ?_
              rintro e W ⟨rfl, hww⟩
              obtain rfl := hww.symm
              go_wp2_with fail
              refine HT2.out.mono ?_
              rintro e W6 ⟨rfl, hr, hg⟩
              have HR6 := hid hr
              have HG6 := hid (HG5.out.trans hg)
              clear hr hg HT2 HP5
              go_wp2_with fail
              go_ret
              exact ValP.leaf HV3.out rfl HAN.out HR6.out HG6.out
          | false =>
            rw [h4] at HP5
            go_wp2_with fail
            refine HP5.out.mono ?_
            rintro e W ⟨rfl, hww⟩
            obtain rfl := hww.symm
            clear HP5
            have HP5 : Hid (Calls Tryz.prog 88 #[.pointer (some ⟨R, 0, none⟩), .string ⟨#[91]⟩] W5 fun e w' => e = .returned (.bool (preX [91] l1)) ∧ Rj w' R (passJ [91] l1) m lev ∧ Only R W5 w') := passJ_any l1 [91] m lev R W5 HR5.out
            cases h5 : preX [91] l1 with
            | true =>
              rw [h5, passJ_yes h5, show ([91] : List UInt8).length = 1 from rfl] at HP5
              have HV3 := hid (HV2.out.trans (atom_list h1 h2 h3 h4 h5))
              have hd1 : (l1.drop 1).length ≤ 100000 := by rw [List.length_drop]; omega
              generalize l1.drop 1 = l2 at HP5 HV3 hd1
              have HN : Hid (∀ W, w.grownBy W (some R) → Rj W R l2 m lev → Calls Tryz.prog 91 #[.pointer (some ⟨R, 0, none⟩)] W (NestP d lev (nest false l2 m) 22 R W)) := fun W hg hr => HLL.out l2 m R W hd1 hm hR (HTT.out W hg) hr
              clear HV2 HTT HLL HOO h1 h2 h3 h4 h5
              go_wp2_with fail
              refine HP5.out.mono ?_
              rintro e W6 ⟨rfl, hr, ho⟩
              have HR6 := hid hr
              have HG6 := hid (HG5.out.trans (to_only ho))
              clear hr ho HP5
              have HN2 := hid (HN.out _ HG6.out HR6.out)
              cases hnn : nest false l2 m with
              | error k =>
                have HV4 := hid (HV3.out.trans hnn)
                have HN3 : Hid (Calls Tryz.prog 91 #[.pointer (some ⟨R, 0, none⟩)] W6 fun e w' => e = dieJ k ∧ W6.grownBy w' (some R)) := HN2.out.mono fun e w' hh => ⟨hh.2.1 k hnn, hh.2.2⟩
                clear HN HN2 HV3 hnn
                go_wp2_with fail
                refine HN3.out.mono ?_
                rintro e W9 ⟨rfl, hg⟩
                exact ⟨rfl, ValP.err HV4.out (HG6.out.trans hg)⟩
              | ok q =>
                obtain ⟨t, r, m2⟩ := q
                have HV4 := hid (HV3.out.trans hnn)
                have HN3 : Hid (Calls Tryz.prog 91 #[.pointer (some ⟨R, 0, none⟩)] W6 fun e w' => ∃ x cs, e = .returned x ∧ Hid (AnyJ (.iface 22 x) cs) ∧ Hid (VAt (fun q => W6.heap.size ≤ q) d w' cs t) ∧ Hid (Rj w' R r m2 lev) ∧ Hid (W6.grownBy w' (some R))) := HN2.out.mono fun e w' hh => by
                  obtain ⟨x, cs, h1, h2, h3, h4⟩ := hh.1 t r m2 hnn
                  exact ⟨x, cs, h1, h2, h3, h4, hh.2.2⟩
                clear HN HN2 HV3 hnn
                go_wp2_with fail
                refine HN3.out.mono ?_
                rintro e W9 ⟨x, cs, rfl, HA9, HV9, HR9, HG9⟩
                go_wp2_with fail
                go_ret
                exact ValP.got HV4.out HA9.out (HV9.out.mono fun q hq _ => Nat.le_trans HG6.out.size hq) HR9.out (HG6.out.trans HG9.out)
            | false =>
              rw [h5, passJ_no h5] at HP5
              go_wp2_with fail
              refine HP5.out.mono ?_
              rintro e W6 ⟨rfl, hr, ho⟩
              have HR6 := hid hr
              have HG6 := hid (HG5.out.trans (to_only ho))
              clear hr ho HP5 HR5 HG5
              have HP6 : Hid (Calls Tryz.prog 88 #[.pointer (some ⟨R, 0, none⟩), .string ⟨#[123]⟩] W6 fun e w' => e = .returned (.bool (preX [123] l1)) ∧ Rj w' R (passJ [123] l1) m lev ∧ Only R W6 w') := passJ_any l1 [123] m lev R W6 HR6.out
              cases h6 : preX [123] l1 with
              | true =>
                rw [h6, passJ_yes h6, show ([123] : List UInt8).length = 1 from rfl] at HP6
                have HV3 := hid (HV2.out.trans (atom_obj h1 h2 h3 h4 h5 h6))
                have hd1 : (l1.drop 1).length ≤ 100000 := by rw [List.length_drop]; omega
                generalize l1.drop 1 = l2 at HP6 HV3 hd1
                have HN : Hid (∀ W, w.grownBy W (some R) → Rj W R l2 m lev → Calls Tryz.prog 92 #[.pointer (some ⟨R, 0, none⟩)] W (NestP d lev (nest true l2 m) 86 R W)) := fun W hg hr => HOO.out l2 m R W hd1 hm hR (HTT.out W hg) hr
                clear HV2 HTT HLL HOO h1 h2 h3 h4 h5 h6
                go_wp2_with fail
                refine HP6.out.mono ?_
                rintro e W7 ⟨rfl, hr, ho⟩
                have HR7 := hid hr
                have HG7 := hid (HG6.out.trans (to_only ho))
                clear hr ho HP6
                have HN2 := hid (HN.out _ HG7.out HR7.out)
                cases hnn : nest true l2 m with
                | error k =>
                  have HV4 := hid (HV3.out.trans hnn)
                  have HN3 : Hid (Calls Tryz.prog 92 #[.pointer (some ⟨R, 0, none⟩)] W7 fun e w' => e = dieJ k ∧ W7.grownBy w' (some R)) := HN2.out.mono fun e w' hh => ⟨hh.2.1 k hnn, hh.2.2⟩
                  clear HN HN2 HV3 hnn
                  go_wp2_with fail
                  refine HN3.out.mono ?_
                  rintro e W9 ⟨rfl, hg⟩
                  exact ⟨rfl, ValP.err HV4.out (HG7.out.trans hg)⟩
                | ok q =>
                  obtain ⟨t, r, m2⟩ := q
                  have HV4 := hid (HV3.out.trans hnn)
                  have HN3 : Hid (Calls Tryz.prog 92 #[.pointer (some ⟨R, 0, none⟩)] W7 fun e w' => ∃ x cs, e = .returned x ∧ Hid (AnyJ (.iface 86 x) cs) ∧ Hid (VAt (fun q => W7.heap.size ≤ q) d w' cs t) ∧ Hid (Rj w' R r m2 lev) ∧ Hid (W7.grownBy w' (some R))) := HN2.out.mono fun e w' hh => by
                    obtain ⟨x, cs, h1, h2, h3, h4⟩ := hh.1 t r m2 hnn
                    exact ⟨x, cs, h1, h2, h3, h4, hh.2.2⟩
                  clear HN HN2 HV3 hnn
                  go_wp2_with fail
                  refine HN3.out.mono ?_
                  rintro e W9 ⟨x, cs, rfl, HA9, HV9, HR9, HG9⟩
                  go_wp2_with fail
                  go_ret
                  exact ValP.got HV4.out HA9.out (HV9.out.mono fun q hq _ => Nat.le_trans HG7.out.size hq) HR9.out (HG7.out.trans HG9.out)
              | false =>
                rw [h6, passJ_no h6] at HP6
                go_wp2_with fail
                refine HP6.out.mono ?_
                rintro e W7 ⟨rfl, hr, ho⟩
                have HR7 := hid hr
                have HG7 := hid (HG6.out.trans (to_only ho))
                clear hr ho HP6 HR6 HG6
                have HNU := hid (number_j l1 m lev R (by omega) hR W7 (HTT.out W7 HG7.out) HR7.out)
                cases hnu : numJ l1 with
                | error k =>
                  have HV3 := hid (HV2.out.trans (atom_nno h1 h2 h3 h4 h5 h6 hnu))
                  have HN3 : Hid (Calls Tryz.prog 93 #[.pointer (some ⟨R, 0, none⟩)] W7 fun e w' => e = dieJ k ∧ W7.grownBy w' (some R)) := HNU.out.mono fun e w' hh => ⟨hh.2.1 k hnu, hh.2.2⟩
                  clear HV2 HTT HLL HOO HNU hnu h1 h2 h3 h4 h5 h6
                  go_wp2_with fail
                  refine HN3.out.mono ?_
                  rintro e W9 ⟨rfl, hg⟩
                  exact ⟨rfl, ValP.err HV3.out (HG7.out.trans hg)⟩
                | ok q =>
                  obtain ⟨v, r⟩ := q
                  have HV3 := hid (HV2.out.trans (atom_num h1 h2 h3 h4 h5 h6 hnu))
                  have HN3 : Hid (Calls Tryz.prog 93 #[.pointer (some ⟨R, 0, none⟩)] W7 fun e w' => e = .returned (.int .i64 v) ∧ Rj w' R r m lev ∧ W7.grownBy w' (some R)) := HNU.out.mono fun e w' hh => ⟨(hh.1 v r hnu).1, (hh.1 v r hnu).2, hh.2.2⟩
                  have HAN : Hid (AnyJ (.iface 2 (.int .i64 v)) (vcs (2, v, [], []) none 0 0 none 0)) := .inr (.inr (.inr (.inl ⟨v, rfl, rfl⟩)))
                  clear HV2 HTT HLL HOO HNU hnu h1 h2 h3 h4 h5 h6
                  go_wp2_with fail
                  refine HN3.out.mono ?_
                  rintro e W9 ⟨rfl, hr, hg⟩
                  have HR9 := hid hr
                  have HG9 := hid (HG7.out.trans hg)
                  clear hr hg HN3
                  go_wp2_with fail
                  go_ret
                  exact ValP.leaf HV3.out rfl HAN.out HR9.out HG9.out
theorem list_nest (d lev : Nat) (hlev : lev ≤ 1000) (IH : ValOk d (lev + 1)) : NestOk (d + 1) lev 91 22 (nestJ d lev (valJ d (lev + 1)) false) := by
  intro l n R w hl hn hR hT h
  by_cases hd : 16 < lev + 1
  · have e : nestJ d lev (valJ d (lev + 1)) false l n = .error 9 := by unfold nestJ; rw [if_pos hd]
    rw [e]
    exact (list_deep l n lev R hd hlev w h).mono fun e w' hh => ⟨(fun t r m h2 => by cases h2), (fun k h2 => by injection h2 with h2; rw [← h2]; exact hh.1), hh.2⟩
  · refine (list_of d lev IH l n R w hl hn hR hT h (by omega)).mono fun e w' hh => ⟨fun t r m h2 => ?_, fun k h2 => ?_, hh.2.2⟩
    all_goals
      unfold nestJ at h2
      rw [if_neg hd] at h2
      simp only [Bool.false_eq_true, if_false] at h2
      cases hx : lstJ (valJ d (lev + 1)) l n with
    | error k2 =>
      rw [hx] at h2
      first | (cases h2; done) | (injection h2 with h2; rw [← h2]; exact hh.2.1 k2 hx)
    | ok q =>
      obtain ⟨ks, r2, m2⟩ := q
      rw [hx] at h2
      first
        | (cases h2; done)
        | (injection h2 with h2; injection h2 with h2 h3; injection h3 with h3 h4; subst h2 h3 h4; obtain ⟨A, c, h5, h6, h7, h8⟩ := hh.1 ks r2 m2 hx; exact ⟨_, vcs (4, 0, [], []) A ks.length c none 0, h5, .inr (.inr (.inr (.inr (.inr (.inl ⟨A, ks.length, c, rfl, rfl⟩))))), VAt.mk (NmsP.nil _ _ _) h7 h6, h8⟩)
theorem object_nest (d lev : Nat) (hlev : lev ≤ 1000) (IH : ValOk d (lev + 1)) : NestOk (d + 1) lev 92 86 (nestJ d lev (valJ d (lev + 1)) true) := by
  intro l n R w hl hn hR hT h
  by_cases hd : 16 < lev + 1
  · have e : nestJ d lev (valJ d (lev + 1)) true l n = .error 9 := by unfold nestJ; rw [if_pos hd]
    rw [e]
    exact (object_deep l n lev R hd hlev w h).mono fun e w' hh => ⟨(fun t r m h2 => by cases h2), (fun k h2 => by injection h2 with h2; rw [← h2]; exact hh.1), hh.2⟩
  · refine (object_of d lev IH l n R w hl hn hR hT h (by omega)).mono fun e w' hh => ⟨fun t r m h2 => ?_, fun k h2 => ?_, hh.2.2⟩
    all_goals
      unfold nestJ at h2
      rw [if_neg hd] at h2
      simp only [if_true] at h2
      cases hx : objJ (valJ d (lev + 1)) l n with
    | error k2 =>
      rw [hx] at h2
      first | (cases h2; done) | (injection h2 with h2; rw [← h2]; exact hh.2.1 k2 hx)
    | ok q =>
      obtain ⟨ns, ks, r2, m2⟩ := q
      rw [hx] at h2
      first
        | (cases h2; done)
        | (injection h2 with h2; injection h2 with h2 h3; injection h3 with h3 h4; subst h2 h3 h4; obtain ⟨A, c, B, e2, h5, h6, h7, h8, h9⟩ := hh.1 ns ks r2 m2 hx; exact ⟨_, vcs (5, 0, [], ns) A ks.length c B e2, h5, .inr (.inr (.inr (.inr (.inr (.inr ⟨A, ks.length, c, B, ns.length, e2, rfl, rfl⟩))))), VAt.mk h7 h8 h6, h9⟩)
theorem nest_last (lev F ty : Nat) (hd : 16 < lev + 1) (hF : ∀ (l : List UInt8) (n R : Nat) (w : World), Rj w R l n lev → Calls Tryz.prog F #[.pointer (some ⟨R, 0, none⟩)] w fun e w' => e = dieJ 9 ∧ w.grownBy w' (some R)) : NestOk 0 lev F ty (fun _ _ => if 16 < lev + 1 then .error 9 else .error 98) := by
  intro l n R w hl hn hR hT h
  rw [if_pos hd]
  exact (hF l n R w h).mono fun e w' hh => ⟨(fun t r m h2 => by cases h2), (fun k h2 => by injection h2 with h2; rw [← h2]; exact hh.1), hh.2⟩
/-- What value does, however deep it reads. -/
theorem value_ok : ∀ (d lev : Nat), 16 ≤ d + lev → lev + d ≤ 100 → ValOk d lev
  | 0, lev, h, h2 => value_top 0 lev (fun _ _ _ => if 16 < lev + 1 then .error 9 else .error 98) (fun _ _ => rfl) (nest_last lev _ _ (by omega) fun l n R w hr => list_deep l n lev R (by omega) (by omega) w hr) (nest_last lev _ _ (by omega) fun l n R w hr => object_deep l n lev R (by omega) (by omega) w hr)
  | d + 1, lev, h, h2 => value_top (d + 1) lev (nestJ d lev (valJ d (lev + 1))) (fun _ _ => rfl) (list_nest d lev (by omega) (value_ok d (lev + 1) (by omega) (by omega))) (object_nest d lev (by omega) (value_ok d (lev + 1) (by omega) (by omega)))
end Go.Proofs.YtlgkbdebpnbndaaGreatDoor
