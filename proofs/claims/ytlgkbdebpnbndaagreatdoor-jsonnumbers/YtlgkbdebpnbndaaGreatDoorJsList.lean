
/- The reader: a list. -/
import Derived.Test.YtlgkbdebpnbndaaGreatDoorJsTold
namespace Go.Proofs.YtlgkbdebpnbndaaGreatDoor
set_option linter.unusedVariables false
set_option linter.unusedSimpArgs false
open Go.RowKit Go.BigFrame
attribute [local go_sem ↓] mkErr

theorem grow_own {w W W' : World} {R : Nat} {b : Option Nat} (h : w.grownBy W (some R)) (h2 : W.grownBy W' b) (hb : ∀ q, b = some q → w.heap.size ≤ q) : w.grownBy W' (some R) :=
  ⟨h2.os.trans h.os, h2.tape.trans h.tape, h2.output.trans h.output, Nat.le_trans h.size h2.size, fun k hk hne => (h2.block k (Nat.lt_of_lt_of_le hk h.size) (fun e => by have := hb k e.symm; omega)).trans (h.block k hk hne)⟩
theorem OwnVj.blk_P {P : Nat → Prop} {w : World} {d : Nat} {v : Value} {l : List (VJ d)} (h : OwnVj P w d v l) (q : Nat) (hq : blk v = some q) : P q ∧ q < w.heap.size := by
  obtain ⟨A, c, rfl, h1, _⟩ := h.shape
  cases A with
  | none => cases hq
  | some a =>
    have := h1 a rfl
    have e : a.block = q := by injection hq
    rw [← e]
    exact this
/-- What value does with what is left. -/
def ValP (d lev : Nat) (l : List UInt8) (n R : Nat) (w : World) (e : Ending) (w' : World) : Prop :=
  (∀ t r m, valJ d lev l n = .ok (t, r, m) → ∃ x cs, e = .returned x ∧ AnyJ x cs ∧ VAt (fun q => w.heap.size ≤ q) d w' cs t ∧ Rj w' R r m lev) ∧ (∀ k, valJ d lev l n = .error k → e = dieJ k) ∧ w.grownBy w' (some R)
def ValOk (d lev : Nat) : Prop := ∀ (l : List UInt8) (n R : Nat) (w : World), l.length ≤ 100000 → n ≤ 8192 → 7 < R → TabJ w → Rj w R l n lev → Calls Tryz.prog 63 #[.pointer (some ⟨R, 0, none⟩)] w (ValP d lev l n R w)
/-- What list does, behind its bracket. -/
def LstP (d lev : Nat) (l : List UInt8) (n R : Nat) (w : World) (e : Ending) (w' : World) : Prop :=
  (∀ ks r m, lstJ (valJ d (lev + 1)) l n = .ok (ks, r, m) → ∃ A c, e = .returned (.slice A ks.length c) ∧ ks.length ≤ c ∧ VsAt (fun q => w.heap.size ≤ q) d w' A ks ∧ Rj w' R r m lev) ∧ (∀ k, lstJ (valJ d (lev + 1)) l n = .error k → e = dieJ k) ∧ w.grownBy w' (some R)
theorem LstP.err {d lev : Nat} {l : List UInt8} {n R : Nat} {w w' : World} {k : Nat} (h : lstJ (valJ d (lev + 1)) l n = .error k) (hg : w.grownBy w' (some R)) : LstP d lev l n R w (dieJ k) w' := ⟨(fun v r m h2 => by rw [h] at h2; cases h2), (fun k2 h2 => by rw [h] at h2; injection h2 with h2; rw [h2]), hg⟩
set_option maxRecDepth 100000 in
theorem list_deep (l : List UInt8) (n lev R : Nat) (hd : 16 < lev + 1) (hd2 : lev ≤ 1000) (w : World) (h : Rj w R l n lev) : Calls Tryz.prog 91 #[.pointer (some ⟨R, 0, none⟩)] w fun e w' => e = dieJ 9 ∧ w.grownBy w' (some R) := by
  have HD := hid (deeper_no l n lev R hd hd2 w h)
  clear h
  go_enter Tryz.func91, Tryz.ntmps91
  go_wp2_with fail
  refine HD.out.mono ?_
  rintro e W ⟨rfl, ho⟩
  exact ⟨rfl, rfl, to_only ho⟩
set_option maxHeartbeats 8000000 in
set_option maxRecDepth 100000 in
theorem list_of (d lev : Nat) (IH : ValOk d (lev + 1)) (l : List UInt8) (n R : Nat) (w : World) (hl : l.length ≤ 100000) (hn : n ≤ 8192) (hR : 7 < R) (hT : TabJ w) (h : Rj w R l n lev) (hd : lev + 1 ≤ 16) : Calls Tryz.prog 91 #[.pointer (some ⟨R, 0, none⟩)] w (LstP d lev l n R w) := by
  have HD := hid (deeper_ok l n lev R hd w h)
  have hRw := h.lt
  have HTT := hid (fun (W : World) (hg : w.grownBy W (some R)) => hT.to hg hR)
  have HEN := hid (fun W h => ends_j l [93] n (lev + 1) R W h)
  have hel := val_shr d (lev + 1)
  have HST := hid (fun ks l n h => lstW_step (el := valJ d (lev + 1)) hel ks l n h)
  have HSH := hid hel
  have hlw := dw_len whX l
  generalize hRES : lstJ (valJ d (lev + 1)) l n = RES
  have HPOST : Hid (∀ e w', ((∀ ks r m, RES = .ok (ks, r, m) → ∃ A c, e = .returned (.slice A ks.length c) ∧ ks.length ≤ c ∧ VsAt (fun q => w.heap.size ≤ q) d w' A ks ∧ Rj w' R r m lev) ∧ (∀ k, RES = .error k → e = dieJ k) ∧ w.grownBy w' (some R)) → LstP d lev l n R w e w') := fun e w' hh => by
    rw [← hRES] at hh
    exact hh
  have HFIRST : Hid ((preX [93] (l.dropWhile whX) = true ∧ RES = .ok ([], (l.dropWhile whX).drop 1, n)) ∨ (preX [93] (l.dropWhile whX) = false ∧ RES = lstW (valJ d (lev + 1)) [] (l.dropWhile whX) n)) := by
    rw [← hRES]
    unfold lstJ
    cases preX [93] (l.dropWhile whX) with
    | true => exact .inl ⟨rfl, rfl⟩
    | false => exact .inr ⟨rfl, rfl⟩
  clear hRES hT h hel
  generalize l.dropWhile whX = l1 at HEN HFIRST hlw
  obtain ⟨b1, hb1⟩ : ∃ b1, preX [93] l1 = b1 := ⟨_, rfl⟩
  rw [hb1] at HEN HFIRST
  have HP1 := hid (fun (h : b1 = true) => passJ_yes (hb1.trans h))
  have HP0 := hid (fun (h : b1 = false) => passJ_no (hb1.trans h))
  clear hb1
  go_enter Tryz.func91, Tryz.ntmps91
  go_wp2_with fail
  refine HD.out.mono ?_
  rintro e W1 ⟨rfl, hr, ho⟩
  have HG1 := hid (to_only ho)
  have HE1 := hid (HEN.out W1 hr)
  clear hr ho HD HEN
  go_wp2_with fail
  refine HE1.out.mono ?_
  rintro e W2 ⟨rfl, hr, hg⟩
  have HR2 := hid hr
  have HG2 := hid (HG1.out.trans hg)
  clear hr hg HE1 HG1
  go_wp2_with fail
  go_loopw [3, 4] (fun v more wr => ∃ (vv : Value) (ks : List (VJ d)) (rest : List UInt8) (k : Nat) (b : Bool), vv = v ∧ more = .bool b ∧ rest.length ≤ l1.length ∧ k ≤ 8192 ∧ Hid ((b = false ∧ RES = .ok (ks, rest, k)) ∨ (b = true ∧ RES = lstW (valJ d (lev + 1)) ks rest k)) ∧ Hid (Rj wr R rest k (lev + 1)) ∧ Hid (OwnVj (fun q => w.heap.size ≤ q) wr d vv ks) ∧ ks.length + rest.length ≤ l1.length ∧ Hid (w.grownBy wr (some R))) (fun v more wr => restJ R wr)
  case atStart =>
    refine ⟨.slice none 0 0, [], passJ [93] l1, n, !b1, rfl, rfl, ?_, hn, ?_, HR2, OwnVj.nil _ _ _, ?_, HG2⟩
    · cases b1 with
      | true => rw [HP1.out rfl, List.length_drop]; omega
      | false => rw [HP0.out rfl]; exact Nat.le_refl _
    · rcases HFIRST.out with ⟨e1, e2⟩ | ⟨e1, e2⟩
      · exact .inl ⟨by rw [e1]; rfl, by rw [HP1.out e1]; exact e2⟩
      · exact .inr ⟨by rw [e1]; rfl, by rw [HP0.out e1]; exact e2⟩
    · cases b1 with
      | true => rw [HP1.out rfl, List.length_drop]; simp
      | false => rw [HP0.out rfl]; simp
  case round =>
    obtain ⟨vv, ks, rest, k, b, rfl, rfl, hr1, hk, HS, HR, HO, hkl, HG⟩ := hrel
    cases b with
    | false =>
      have HRS : Hid (RES = .ok (ks, rest, k)) := by
        rcases HS.out with ⟨_, h⟩ | ⟨h, _⟩
        · exact h
        · cases h
      obtain ⟨A, c, rfl, hA1, hA2⟩ := HO.out.shape
      have HC := hid HO.out.cap
      have HV := hid hA2
      have HRR := hid HR.out
      obtain ⟨_, _, c2⟩ := HR.out.cells
      have hlv : ((lev + 1 : Nat) : Int) = (lev : Int) + 1 := by omega
      rw [hlv] at c2
      unfold Rj at HRR
      rw [hlv] at HRR
      generalize hLS : asS rest = LS at HRR
      have HLS := hid hLS
      clear hLS hlv HS HR HO hA1 hA2 HTT HST HFIRST HP1 HP0 HR2 HG2
      go_wp2_with (first
        | (refine store_part rfl 3 _ _ rfl R 2 (.int .i64 (lev : Int)) _ _ #[.string LS, .int .i64 k, .int .i64 (lev : Int)] rfl rfl info3j (by simp) rfl rfl HRR.out rfl ?_; intro W9 ho hr; have HO9 := hid ho; have HR9 := hid hr; clear ho hr)
        | fail)
      go_ret
      refine HPOST.out _ _ ⟨(fun ks2 r m h => ?_), (fun k h => by rw [HRS.out] at h; cases h), HG.out.trans (to_only HO9.out)⟩
      rw [HRS.out] at h
      injection h with h
      injection h with h1 h
      injection h with h2 h3
      subst h1 h2 h3
      refine ⟨A, c, rfl, HC.out, HV.out.frame (Nat.le_of_eq HO9.out.size.symm) (fun q hq hl => ⟨HO9.out.block q (fun e => by omega), hq⟩), ?_⟩
      unfold Rj
      rw [HLS.out]
      exact HR9.out
    | true =>
      have HRS : Hid (RES = lstW (valJ d (lev + 1)) ks rest k) := by
        rcases HS.out with ⟨h, _⟩ | ⟨_, h⟩
        · cases h
        · exact h
      have HME := hid (restJ_eq HR.out)
      have HVC := hid (IH rest k R wr (by omega) hk hR (HTT.out wr HG.out) HR.out)
      have HSTP := hid (HRS.out.trans (HST.out ks rest k hk))
      clear HS HRS HST HFIRST HP1 HP0 HR2 HG2
      cases hv : valJ d (lev + 1) rest k with
      | error er =>
        have HER : Hid (RES = .error er) := by
          have := HSTP.out
          rw [hv] at this
          exact this
        have HVC2 : Hid (Calls Tryz.prog 63 #[.pointer (some ⟨R, 0, none⟩)] wr fun e w' => e = dieJ er ∧ wr.grownBy w' (some R)) := HVC.out.mono fun e w' hh => ⟨hh.2.1 er hv, hh.2.2⟩
        clear HSTP HVC hv HTT
        go_wp2_with fail
        refine HVC2.out.mono ?_
        rintro e W3 ⟨rfl, hg⟩
        refine ⟨rfl, HPOST.out _ _ ⟨(fun ks2 r m h => by rw [HER.out] at h; cases h), (fun k h => by rw [HER.out] at h; injection h with h; subst h; rfl), HG.out.trans hg⟩⟩
      | ok q =>
        obtain ⟨t, l2, n2⟩ := q
        obtain ⟨hl2, hn2⟩ := HSH.out _ _ _ _ _ hk hv
        have HVC2 : Hid (Calls Tryz.prog 63 #[.pointer (some ⟨R, 0, none⟩)] wr fun e w' => (∃ x cs, e = .returned x ∧ AnyJ x cs ∧ VAt (fun q => wr.heap.size ≤ q) d w' cs t ∧ Rj w' R l2 n2 (lev + 1)) ∧ wr.grownBy w' (some R)) := HVC.out.mono fun e w' hh => ⟨hh.1 t l2 n2 hv, hh.2.2⟩
        have HSTQ : Hid (RES = if preX [93] (l2.dropWhile whX) then .ok (ks ++ [t], (l2.dropWhile whX).drop 1, n2) else if preX [44] (l2.dropWhile whX) then lstW (valJ d (lev + 1)) (ks ++ [t]) ((l2.dropWhile whX).drop 1) n2 else .error 5) := by
          have := HSTP.out
          rw [hv] at this
          exact this
        have hdl := dw_len whX l2
        have HGO : Hid (∀ W, Rj W R l2 n2 (lev + 1) → Calls Tryz.prog 114 #[.pointer (some ⟨R, 0, none⟩), .string ⟨#[93]⟩] W fun e w' => W.grownBy w' (some R) ∧ ((e = .returned (.bool false) ∧ RES = .ok (ks ++ [t], (l2.dropWhile whX).drop 1, n2) ∧ Rj w' R ((l2.dropWhile whX).drop 1) n2 (lev + 1)) ∨ (e = .returned (.bool true) ∧ RES = lstW (valJ d (lev + 1)) (ks ++ [t]) ((l2.dropWhile whX).drop 1) n2 ∧ Rj w' R ((l2.dropWhile whX).drop 1) n2 (lev + 1)) ∨ (e = dieJ 5 ∧ RES = .error 5))) := fun W h => by
          have hq := HSTQ.out
          cases hp : preX [93] (l2.dropWhile whX) with
          | true =>
            rw [hp] at hq
            exact (goes_no l2 [93] n2 (lev + 1) R W h hp).mono fun e w' hh => ⟨hh.2.2, .inl ⟨hh.1, hq, hh.2.1⟩⟩
          | false =>
            rw [hp] at hq
            cases hp2 : preX [44] (l2.dropWhile whX) with
            | true =>
              rw [hp2] at hq
              refine (goes_on l2 [93] n2 (lev + 1) R W h hp).mono fun e w' hh => ⟨hh.2.1, .inr (.inl ⟨?_, hq, ?_⟩)⟩
              · rw [hh.2.2, hp2]; rfl
              · have := hh.1
                rw [passJ_yes hp2] at this
                exact this
            | false =>
              rw [hp2] at hq
              refine (goes_on l2 [93] n2 (lev + 1) R W h hp).mono fun e w' hh => ⟨hh.2.1, .inr (.inr ⟨?_, hq⟩)⟩
              rw [hh.2.2, hp2]; rfl
        have hd1 : ((l2.dropWhile whX).drop 1).length ≤ l2.length := by rw [List.length_drop]; omega
        generalize (l2.dropWhile whX).drop 1 = l3 at HGO hd1
        clear HSTP HSTQ HVC hv HTT hdl
        go_wp2_with fail
        refine HVC2.out.mono ?_
        rintro e W3 ⟨⟨x, cs, rfl, hany, hva, hr⟩, hg⟩
        have HTO := hid (fun W => told_any x cs hany W)
        have HVA := hid hva
        have HR3 := hid hr
        have HG3 := hid (HG.out.trans hg)
        have HO3 := hid (HO.out.to hg (fun q hq e => by omega))
        have hz3 := hg.size
        have hzw := HG.out.size
        have HBK := hid (fun q (hq : blk vv = some q) => (HO.out.blk_P q hq))
        obtain ⟨kA, kc, nA, nc, hcs, _⟩ := hva.parts
        unfold vcs at hcs
        clear hany hva hr hg HVC2 HG HO HR
        generalize asS (labJ d t).2.2.1 = S1 at hcs
        generalize (kidsJ d t).length = kn at hcs
        generalize (labJ d t).2.2.2.length = nn at hcs
        generalize (labJ d t).1 = K1 at hcs
        generalize (labJ d t).2.1 = N1 at hcs
        subst hcs
        go_wp2_with fail
        refine (HTO.out W3).mono ?_
        rintro e W4 ⟨rfl, hb4⟩
        have HR4 := hid (HR3.out.below hb4)
        have HG4 := hid (HG3.out.trans (to_below hb4))
        have HO4 := hid (HO3.out.below hb4)
        have HV4 := hid (HVA.out.below hb4 (Nat.le_refl _))
        have hz4 := hb4.size
        clear hb4 HR3 HG3 HO3 HVA HTO
        go_wp2_with (first
          | (refine wpList_vj rfl _ _ rfl (fun q => w.heap.size ≤ q) d _ _ ks _ t rfl rfl (HO4.out.below ((Below.refl _ _).alloc (Nat.le_refl _) _)) (src_vj (HV4.out.below ((Below.refl W4.heap.size W4).alloc (Nat.le_refl _) _) (Nat.le_refl _)) W4.heap.size 1 (heap_alloc_new W4 _)) rfl ((HV4.out.below ((Below.refl W4.heap.size W4).alloc (Nat.le_refl _) _) (Nat.le_refl _)).mono fun q hq _ => ⟨Nat.le_trans hzw hq, fun e => Nat.lt_irrefl q (Nat.lt_of_lt_of_le (HBK.out q e).2 hq)⟩) (by omega) (Nat.le_trans HG4.out.size (Below.size ((Below.refl W4.heap.size W4).alloc (Nat.le_refl _) _))) ?_; intro v5 w5 h5 hg5 hb5; have HO5 := hid h5; have HGR5 := hid hg5; clear h5 hg5 hb5)
          | fail)
        have HR5 : Hid (Rj w5 R l2 n2 (lev + 1)) := by
          have h1 : Rj (W4.alloc (.cells #[.int .i64 K1, .int .i64 N1, .string S1, .slice kA kn kc, .slice nA nn nc] 25)) R l2 n2 (lev + 1) := HR4.out.below ((Below.refl _ _).alloc (Nat.le_refl _) _)
          exact (HGR5.out.block R h1.lt (fun e => by have := (HBK.out R e.symm).1; omega)).trans h1
        have HG5 : Hid (w.grownBy w5 (some R)) := grow_own (HG4.out.trans (to_below ((Below.refl _ _).alloc (Nat.le_refl _) _))) HGR5.out (fun q hq => (HBK.out q hq).1)
        have HGO5 := hid (HGO.out w5 HR5.out)
        clear HGR5 HR4 HG4 HO4 HV4 HR5 HGO
        go_wp2_with fail
        refine HGO5.out.mono ?_
        rintro e W6 ⟨hg, ⟨rfl, hq, hr⟩ | ⟨rfl, hq, hr⟩ | ⟨rfl, hq⟩⟩
        · have HQ := hid hq
          have HR6 := hid hr
          have HG6 := hid (HG5.out.trans hg)
          have HO6 := hid (HO5.out.to hg (fun q hq e => by omega))
          clear hg hq hr HO5 HG5 HGO5
          go_wp2_with fail
          go_roundw
          case rel => exact ⟨v5, ks ++ [t], l3, n2, false, rfl, rfl, by omega, hn2, .inl ⟨rfl, HQ.out⟩, HR6, HO6, by rw [List.length_append, List.length_singleton]; omega, HG6⟩
          case measure => rw [restJ_eq HR6.out, HME.out]; omega
        · have HQ := hid hq
          have HR6 := hid hr
          have HG6 := hid (HG5.out.trans hg)
          have HO6 := hid (HO5.out.to hg (fun q hq e => by omega))
          clear hg hq hr HO5 HG5 HGO5
          go_wp2_with fail
          go_roundw
          case rel => exact ⟨v5, ks ++ [t], l3, n2, true, rfl, rfl, by omega, hn2, .inr ⟨rfl, HQ.out⟩, HR6, HO6, by rw [List.length_append, List.length_singleton]; omega, HG6⟩
          case measure => rw [restJ_eq HR6.out, HME.out]; omega
        · exact ⟨rfl, HPOST.out _ _ ⟨(fun ks2 r m h => by rw [hq] at h; cases h), (fun k h => by rw [hq] at h; injection h with h; subst h; rfl), HG5.out.trans hg⟩⟩
end Go.Proofs.YtlgkbdebpnbndaaGreatDoor
