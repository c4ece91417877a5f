
/- The reader: a text, put together in a builder. -/
import Derived.Test.YtlgkbdebpnbndaaGreatDoorJsEsc
import Derived.Test.YtlgkbdebpnbndaaGreatDoorJsBuild
namespace Go.Proofs.YtlgkbdebpnbndaaGreatDoor
set_option linter.unusedVariables false
set_option linter.unusedSimpArgs false
open Go.RowKit Go.BigFrame
attribute [local go_sem ↓] mkErr

theorem ownJ_to {B R : Nat} {e : TypeId} {v : Value} {n : Nat} {xs : List Value} {w w' : World} (h : w.ownsRowF B e 1 v n xs) (hb : w.grownBy w' (some R)) (hR : R < B) : w'.ownsRowF B e 1 v n xs := by
  obtain ⟨hl, ho⟩ := h
  refine ⟨hl, ?_⟩
  rcases ho with ho | ⟨g, c, cur, fz, h1, h2, h3, h4⟩
  · exact .inl ho
  · exact .inr ⟨g, c, cur, fz, h1, h2, to_row hb h3 (by omega), h4⟩
/-- A builder that holds these bytes. -/
def Bj (B b : Nat) (o : List UInt8) (w : World) : Prop := Lib.IsBuilderF 49 5 B b (Lib.byteCells o) w
theorem Bj.to {B b R : Nat} {o : List UInt8} {w w' : World} (h : Bj B b o w) (hb : w.grownBy w' (some R)) (hR : R < B) : Bj B b o w' := by
  rcases h with ⟨h1, v, h2, h3, h4⟩ | ⟨h1, v, h2, h3, h4⟩
  · exact .inl ⟨h1, v, to_row hb h2 (by omega), ownJ_to h3 hb hR, h4⟩
  · exact .inr ⟨h1, v, to_row hb h2 (by omega), ownJ_to h3 hb hR, h4⟩
theorem Bj.new (w : World) : Bj w.heap.size w.heap.size [] (w.alloc (.cells #[.pointer none, .slice none 0 0] 49)) := Lib.IsBuilderF.of (Lib.fresh_isBuilder 49 5 w)
theorem cellsJ_app (o p : List UInt8) : Lib.byteCells (o ++ p) = Lib.byteCells o ++ Lib.byteCells p := by simp [Lib.byteCells]
theorem writeStr_j (B b : Nat) (o : List UInt8) (x : List UInt8) (w : World) (h : Bj B b o w) (hl : o.length + x.length ≤ 100000000) (hB : B ≤ w.heap.size) : Calls Tryz.prog 81 #[.pointer (some ⟨b, 0, none⟩), .string (asS x)] w fun e w' => (∃ v, e = .returned v) ∧ Bj B b (o ++ x) w' ∧ Below B w w' ∧ w.heap.size ≤ w'.heap.size := by
  refine (Any.Builder_WriteString_k (P := Tryz.prog) (ρ := Tryz.lays166_ren) Tryz.lays166 Tryz.Builder_Extra_166 B b (Lib.byteCells o) (asS x) w h (by rw [Lib.byteCells_length, asS_size]; omega) hB).mono ?_
  rintro e w' ⟨rfl, hb, hbel, hk⟩
  refine ⟨⟨_, rfl⟩, .inr ?_, hbel, hbel.size⟩
  rw [cellsJ_app]
  exact hb
theorem writeRune_j (B b : Nat) (o : List UInt8) (v : Nat) (hv : validR v = true) (w : World) (h : Bj B b o w) (hl : o.length ≤ 1000000) (hB : B ≤ w.heap.size) : Calls Tryz.prog 108 #[.pointer (some ⟨b, 0, none⟩), .int .i32 (v : Int)] w fun e w' => (∃ v, e = .returned v) ∧ Bj B b (o ++ encL v) w' ∧ Below B w w' := by
  have hv' := validR_iff.1 hv
  refine (Any.Builder_WriteRune_k (P := Tryz.prog) (ρ := Tryz.lays168_ren) Tryz.lays168 Tryz.Builder_Extra_168 B b (Lib.byteCells o) (v : Int) (by omega) (by omega) w h (by rw [Lib.byteCells_length]; omega) hB).mono ?_
  rintro e w' ⟨rfl, hb, hbel, hk⟩
  refine ⟨⟨_, rfl⟩, .inr ?_, hbel⟩
  rw [cellsJ_app, show Lib.byteCells (encL v) = Lib.runeCells (v : Int) from Lib.byteCells_encodeRune (v : Int)]
  exact hb
theorem bstr_j (B b : Nat) (o : List UInt8) (w : World) (h : Bj B b o w) (hB : B ≤ w.heap.size) : Calls Tryz.prog 27 #[.pointer (some ⟨b, 0, none⟩)] w fun e w' => e = .returned (.string (asS o)) ∧ Below B w w' := by
  refine (Any.Builder_String_any_k (P := Tryz.prog) (ρ := Tryz.lays169_ren) Tryz.lays169 Tryz.Builder_Extra_169 B b o w h hB).mono ?_
  rintro e w' ⟨rfl, _, hb, _⟩
  exact ⟨rfl, hb⟩
def restJ (R : Nat) (w : World) : Nat := match w.cell? ⟨R, 0, none⟩ with
  | some (.string s) => s.size
  | _ => 0
theorem restJ_eq {w : World} {R : Nat} {l : List UInt8} {n d : Nat} (h : Rj w R l n d) : restJ R w = l.length := by
  unfold restJ
  rw [h.cells.1]
  exact asS_size l
/-- A text, its quote ahead. -/
def textJ (l : List UInt8) : Option (List UInt8 × List UInt8) := if preX [34] l then strW [] (l.drop 1) else none
theorem strW_plain : ∀ (p out r : List UInt8), (∀ c ∈ p, plnJ c = true) → strW out (p ++ r) = strW (out ++ p) r
  | [], out, r, _ => by simp
  | c :: p, out, r, h => by
    have hc := h c (by simp)
    unfold plnJ at hc
    simp only [Bool.and_eq_true, decide_eq_true_eq] at hc
    rw [List.cons_append, strW_cons, if_neg hc.1.2, if_neg hc.2, if_neg (by omega), strW_plain p _ r (fun x hx => h x (by simp [hx])), List.append_assoc]
    rfl
theorem tw_all (p : UInt8 → Bool) (l : List UInt8) : ∀ c ∈ l.takeWhile p, p c = true := fun c hc => by
  have := List.all_takeWhile (l := l) (p := p)
  exact List.all_eq_true.1 this c hc
theorem strW_chunk (out l : List UInt8) : strW out l = strW (out ++ l.takeWhile plnJ) (l.dropWhile plnJ) := by
  have h := strW_plain (l.takeWhile plnJ) out (l.dropWhile plnJ) (tw_all plnJ l)
  rw [List.takeWhile_append_dropWhile] at h
  exact h
theorem strW_stuck (out l : List UInt8) (h1 : preX [34] l = false) (h2 : preX [92] l = false) (h3 : (l.takeWhile plnJ).length = 0) : strW out l = none := by
  cases l with
  | nil => rfl
  | cons c r =>
    have n1 : c ≠ 34 := fun e => by rw [e] at h1; cases h1
    have n2 : c ≠ 92 := fun e => by rw [e] at h2; cases h2
    rw [strW_cons, if_neg n1, if_neg n2]
    have n3 : plnJ c = false := by
      cases hp : plnJ c with
      | false => rfl
      | true => rw [List.takeWhile_cons, if_pos hp] at h3; simp at h3
    unfold plnJ at n3
    rw [decide_eq_true n1, decide_eq_true n2, Bool.and_true, Bool.and_true] at n3
    rw [if_pos (by have := of_decide_eq_false n3; omega)]
theorem pre_one {c : UInt8} {l : List UInt8} (h : preX [c] l = true) : l = c :: l.drop 1 := by
  cases l with
  | nil => cases h
  | cons a r =>
    have : (c == a && true) = true := h
    rw [Bool.and_true, beq_iff_eq] at this
    rw [this]
    rfl
theorem strW_end (out l : List UInt8) (h : preX [34] l = true) : strW out l = some (out, l.drop 1) := by
  rw [pre_one h, strW_cons, if_pos rfl]
  rfl
theorem strW_esc (out l : List UInt8) (h : preX [92] l = true) : strW out l = (match escJ (l.drop 1) with
    | none => none
    | some (v, r2) => strW (out ++ encL v) r2) := by
  have e := pre_one h
  generalize l.drop 1 = r at e ⊢
  subst e
  rw [strW_cons, if_neg (by decide), if_pos rfl]
  rfl
theorem pre_no92 {l : List UInt8} (h : preX [92] l = true) : preX [34] l = false := by
  rw [pre_one h]
  rfl
theorem enc_le (v : Nat) : (encL v).length ≤ 4 := by
  have := (encL_len v).2
  omega
set_option maxHeartbeats 4000000 in
set_option maxRecDepth 100000 in
theorem text_j (l : List UInt8) (n d R : Nat) (hl : l.length ≤ 100000) (hR : 7 < R) (w : World) (hT : TabE w) (h : Rj w R l n d) : Calls Tryz.prog 90 #[.pointer (some ⟨R, 0, none⟩)] w fun e w' => (∀ s r, textJ l = some (s, r) → e = .returned (.string (asS s)) ∧ Rj w' R r n d) ∧ (textJ l = none → e = dieJ 5) ∧ w.grownBy w' (some R) := by
  have HND : Hid (Calls Tryz.prog 107 #[.pointer (some ⟨R, 0, none⟩), .string ⟨#[34]⟩] w fun e w' => Rj w' R (passJ [34] l) n d ∧ Only R w w' ∧ e = (if preX [34] l then .returned (.tuple #[]) else dieJ 5)) := need_any l [34] n d R w h
  have hRw := h.lt
  clear h
  cases hp : preX [34] l with
  | false =>
    have ht : textJ l = none := by unfold textJ; rw [hp]; rfl
    rw [ht]
    rw [hp] at HND
    clear hT ht hp
    go_enter Tryz.func90, Tryz.ntmps90
    go_wp2_with fail
    refine HND.out.mono ?_
    rintro e W ⟨hr, ho, rfl⟩
    exact ⟨rfl, (fun s r h => by cases h), (fun _ => rfl), to_only ho⟩
  | true =>
    have ht : textJ l = strW [] (l.drop 1) := by unfold textJ; rw [hp]; rfl
    rw [ht]
    rw [hp, passJ_yes hp] at HND
    have hl1 : (l.drop 1).length ≤ 100000 := by rw [List.length_drop]; omega
    have hpl : ([34] : List UInt8).length = 1 := rfl
    rw [hpl] at HND
    clear ht hp hpl hl
    generalize l.drop 1 = l1 at HND hl1 ⊢
    generalize hRES : strW [] l1 = RES
    have HRES := hid hRES
    clear hRES
    have HT := hid (fun (W : World) (hg : w.grownBy W (some R)) => hT.to hg hR)
    clear hT
    go_enter Tryz.func90, Tryz.ntmps90
    go_wp2_with fail
    refine HND.out.mono ?_
    rintro e W1 ⟨hr, ho, rfl⟩
    have HR1 := hid hr
    have HO1 := hid ho
    have HBN := hid (Bj.new W1)
    have hRW1 : R < W1.heap.size := hr.lt
    obtain ⟨W2, hW2⟩ : ∃ W2, W1.alloc (.cells #[.pointer none, .slice none 0 0] 49) = W2 := ⟨_, rfl⟩
    have HR2 : Hid (Rj W2 R l1 n d) := by rw [← hW2]; exact HR1.out.below ((Below.refl _ _).alloc (Nat.le_refl _) _)
    have HG2 : Hid (w.grownBy W2 (some R)) := by rw [← hW2]; exact (to_only HO1.out).trans (to_below ((Below.refl _ _).alloc (Nat.le_refl _) _))
    have hz2 : W1.heap.size + 1 = W2.heap.size := by rw [← hW2]; exact (Array.size_push _).symm
    have HZ2 := hid hz2
    rw [hW2] at HBN
    have HGB : Hid (∀ W W', w.grownBy W (some R) → Below W1.heap.size W W' → w.grownBy W' (some R)) := fun W W' hg hb => ⟨hb.os.trans hg.os, hb.tape.trans hg.tape, hb.output.trans hg.output, Nat.le_trans hg.size hb.size, fun k hk hne => (hb.block k (by have := ho.size; omega)).trans (hg.block k hk hne)⟩
    clear hr ho HND HR1 HO1 hz2
    go_wp2_with fail
    clear hW2
    go_loopw [] (fun wr => ∃ (out rest : List UInt8), rest.length ≤ l1.length ∧ out.length + 4 * rest.length ≤ 4 * l1.length ∧ Hid (strW out rest = RES) ∧ Hid (Rj wr R rest n d) ∧ Hid (Bj W1.heap.size W1.heap.size out wr) ∧ Hid (w.grownBy wr (some R)) ∧ W1.heap.size < wr.heap.size) (fun wr => restJ R wr)
    case atStart => exact ⟨[], l1, Nat.le_refl _, by simp, HRES, HR2, HBN, HG2, by have := HZ2.out; omega⟩
    case round =>
      obtain ⟨out, rest, hr1, hr2, HS, HR, HB, HG, hz⟩ := hrel
      have HME := hid (restJ_eq HR.out)
      have HPS : Hid (Calls Tryz.prog 88 #[.pointer (some ⟨R, 0, none⟩), .string ⟨#[34]⟩] wr fun e w' => e = .returned (.bool (preX [34] rest)) ∧ Rj w' R (passJ [34] rest) n d ∧ Only R wr w') := passJ_any rest [34] n d R wr HR.out
      cases hq : preX [34] rest with
      | true =>
        rw [hq, passJ_yes hq] at HPS
        have hE := HS.out.symm.trans (strW_end out rest hq)
        have HE := hid hE
        have hpl : ([34] : List UInt8).length = 1 := rfl
        rw [hpl] at HPS
        clear hq HS hE hpl HR
        generalize rest.drop 1 = r1 at HPS HE
        go_wp2_with fail
        refine HPS.out.mono ?_
        rintro e W3 ⟨rfl, hr, ho⟩
        have HR3 := hid hr
        have HG3 := hid (HG.out.trans (to_only ho))
        have HB3 := hid (HB.out.to (to_only ho) hRW1)
        have hz3 : W1.heap.size ≤ W3.heap.size := by have := ho.size; omega
        have HBS := hid (bstr_j _ _ out W3 HB3.out hz3)
        clear hr ho HPS HB HG HB3
        go_wp2_with fail
        refine HBS.out.mono ?_
        rintro e W4 ⟨rfl, hb⟩
        have HR4 : Hid (Rj W4 R r1 n d) := (hb.block R hRW1).trans HR3.out
        have HG4 := hid (HGB.out W3 W4 HG3.out hb)
        clear hb
        go_wp2_with fail
        go_ret
        have hE := HE.out
        refine ⟨(fun s r h => ?_), (fun h => by rw [hE] at h; cases h), HG4.out⟩
        rw [hE] at h
        injection h with h
        injection h with h1 h2
        subst h1 h2
        exact ⟨rfl, HR4.out⟩
      | false =>
        rw [hq, passJ_no hq] at HPS
        have HP2 : Hid (∀ W, Rj W R rest n d → Calls Tryz.prog 88 #[.pointer (some ⟨R, 0, none⟩), .string ⟨#[92]⟩] W fun e w' => e = .returned (.bool (preX [92] rest)) ∧ Rj w' R (passJ [92] rest) n d ∧ Only R W w') := fun W h => passJ_any rest [92] n d R W h
        cases hq2 : preX [92] rest with
        | true =>
          have hpl : ([92] : List UInt8).length = 1 := rfl
          rw [hq2, passJ_yes hq2, hpl] at HP2
          have hE := HS.out.symm.trans (strW_esc out rest hq2)
          have hdl : (rest.drop 1).length + 1 = rest.length := by
            have := pre_one hq2
            have h2 := congrArg List.length this
            rw [List.length_cons] at h2
            exact h2.symm
          have HX := hid (fun W (hg : w.grownBy W (some R)) h => escaped_j (rest.drop 1) n d R (by omega) hR W (HT.out W hg) h)
          generalize rest.drop 1 = r1 at HP2 hE hdl HX
          clear hq hq2 HS hpl HR
          cases he : escJ r1 with
          | none =>
            rw [he] at hE
            have HE : Hid (RES = none) := hE
            have HXn := hid (fun W hg h => pick_none (HX.out W hg h) he)
            clear HX hE he HME
            go_wp2_with fail
            refine HPS.out.mono ?_
            rintro e W3 ⟨rfl, hr, ho⟩
            have HG3 := hid (HG.out.trans (to_only ho))
            have HP3 := hid (HP2.out W3 hr)
            clear hr ho HPS HG HB HP2
            go_wp2_with fail
            refine HP3.out.mono ?_
            rintro e W4 ⟨rfl, hr, ho⟩
            have HG4 := hid (HG3.out.trans (to_only ho))
            have HX4 := hid (HXn.out W4 HG4.out hr)
            clear hr ho HP3 HXn HG3
            go_wp2_with fail
            refine HX4.out.mono ?_
            rintro e W5 ⟨rfl, hg⟩
            have hE := HE.out
            exact ⟨rfl, (fun s r h => by rw [hE] at h; cases h), (fun _ => rfl), HG4.out.trans hg⟩
          | some q =>
            obtain ⟨v, r2⟩ := q
            have hvr := esc_valid he
            have hel := esc_len he
            rw [he] at hE
            have HE : Hid (strW (out ++ encL v) r2 = RES) := hE.symm
            have HXn := hid (fun W hg h => pick_some (HX.out W hg h) he)
            have HVR := hid hvr
            clear HX hE he hvr
            go_wp2_with fail
            refine HPS.out.mono ?_
            rintro e W3 ⟨rfl, hr, ho⟩
            have HG3 := hid (HG.out.trans (to_only ho))
            have HB3 := hid (HB.out.to (to_only ho) hRW1)
            have HP3 := hid (HP2.out W3 hr)
            have hz3 : W1.heap.size < W3.heap.size := by have := ho.size; omega
            clear hr ho HPS HG HB HP2
            go_wp2_with fail
            refine HP3.out.mono ?_
            rintro e W4 ⟨rfl, hr, ho⟩
            have HG4 := hid (HG3.out.trans (to_only ho))
            have HB4 := hid (HB3.out.to (to_only ho) hRW1)
            have hz4 : W1.heap.size < W4.heap.size := by have := ho.size; omega
            have HX4 := hid (HXn.out W4 HG4.out hr)
            clear hr ho HP3 HXn HG3 HB3
            go_wp2_with fail
            refine HX4.out.mono ?_
            rintro e W5 ⟨⟨rfl, hr⟩, hg⟩
            have HR5 := hid hr
            have HG5 := hid (HG4.out.trans hg)
            have HB5 := hid (HB4.out.to hg hRW1)
            have hz5 : W1.heap.size < W5.heap.size := Nat.lt_of_lt_of_le hz4 hg.size
            have HWR := hid (writeRune_j _ _ out v HVR.out W5 HB5.out (by omega) (by omega))
            clear hr hg HX4 HG4 HB4 HB5
            go_wp2_with fail
            refine HWR.out.mono ?_
            rintro e W6 ⟨⟨v9, rfl⟩, hb, hbl⟩
            have HB6 := hid hb
            have hbs : W5.heap.size ≤ W6.heap.size := hbl.size
            have HBL := hid hbl
            clear hb hbl HWR
            have HR6 : Hid (Rj W6 R r2 n d) := (HBL.out.block R hRW1).trans HR5.out
            have HG6 : Hid (w.grownBy W6 (some R)) := HGB.out W5 W6 HG5.out HBL.out
            clear HBL
            go_wp2_with fail
            go_roundw
            case rel => exact ⟨out ++ encL v, r2, by omega, by rw [List.length_append]; have := enc_le v; omega, HE, HR6, HB6, HG6, by omega⟩
            case measure => rw [restJ_eq HR6.out, HME.out]; omega
        | false =>
          rw [hq2, passJ_no hq2] at HP2
          have HPZ := hid (fun W => plain_j rest (by omega) W)
          have HCH := hid (HS.out.symm.trans (strW_chunk out rest))
          have htl := tw_le plnJ rest
          have hdt : (rest.takeWhile plnJ).length + (rest.dropWhile plnJ).length = rest.length := by rw [← List.length_append, List.takeWhile_append_dropWhile]
          obtain ⟨L, hL⟩ : ∃ L, asS rest = L := ⟨_, rfl⟩
          rw [hL] at HPZ
          have HC0 : Hid (∀ W, Rj W R rest n d → W.cell? ⟨R, 0, none⟩ = some (.string L)) := fun W h => by rw [← hL]; exact h.cells.1
          by_cases hk : (rest.takeWhile plnJ).length = 0
          · have HE : Hid (RES = none) := HS.out.symm.trans (strW_stuck out rest hq hq2 hk)
            rw [hk] at HPZ
            have HTK : Hid (∀ W, Rj W R rest n d → Calls Tryz.prog 110 #[.pointer (some ⟨R, 0, none⟩), .int .i64 0] W fun e w' => e = dieJ 5 ∧ w' = W) := fun W h => take_none rest n d R W h
            clear hq hq2 HS HR HME hL htl hdt hk HCH
            go_wp2_with fail
            refine HPS.out.mono ?_
            rintro e W3 ⟨rfl, hr, ho⟩
            have HG3 := hid (HG.out.trans (to_only ho))
            have HP3 := hid (HP2.out W3 hr)
            clear hr ho HPS HG HB HP2
            go_wp2_with fail
            refine HP3.out.mono ?_
            rintro e W4 ⟨rfl, hr, ho⟩
            have HG4 := hid (HG3.out.trans (to_only ho))
            have c0 := HC0.out W4 hr
            have HT4 := hid (HTK.out W4 hr)
            clear hr ho HP3 HG3 HTK HC0
            go_wp2_with fail
            refine (HPZ.out W4).mono ?_
            rintro e W5 ⟨rfl, rfl⟩
            go_wp2_with fail
            refine HT4.out.mono ?_
            rintro e W6 ⟨rfl, rfl⟩
            have hE := HE.out
            exact ⟨rfl, (fun s r h => by rw [hE] at h; cases h), (fun _ => rfl), HG4.out⟩
          · have HTK : Hid (∀ W, Rj W R rest n d → Calls Tryz.prog 110 #[.pointer (some ⟨R, 0, none⟩), .int .i64 ((rest.takeWhile plnJ).length : Nat)] W fun e w' => e = .returned (.string (asS (rest.takeWhile plnJ))) ∧ Rj w' R (rest.dropWhile plnJ) n d ∧ Only R W w') := fun W h => by
              have := take_ok rest n d R (rest.takeWhile plnJ).length (by omega) htl (by omega) W h
              rw [take_tw, drop_tw] at this
              exact this
            clear hq hq2 HS HR hL
            generalize hpe : rest.takeWhile plnJ = pe at HTK HCH HPZ hk htl hdt
            generalize rest.dropWhile plnJ = r2 at HTK HCH hdt
            clear hpe
            go_wp2_with fail
            refine HPS.out.mono ?_
            rintro e W3 ⟨rfl, hr, ho⟩
            have HG3 := hid (HG.out.trans (to_only ho))
            have HB3 := hid (HB.out.to (to_only ho) hRW1)
            have HP3 := hid (HP2.out W3 hr)
            have hz3 : W1.heap.size < W3.heap.size := by have := ho.size; omega
            clear hr ho HPS HG HB HP2
            go_wp2_with fail
            refine HP3.out.mono ?_
            rintro e W4 ⟨rfl, hr, ho⟩
            have HG4 := hid (HG3.out.trans (to_only ho))
            have HB4 := hid (HB3.out.to (to_only ho) hRW1)
            have hz4 : W1.heap.size < W4.heap.size := by have := ho.size; omega
            have c0 := HC0.out W4 hr
            have HT4 := hid (HTK.out W4 hr)
            clear hr ho HP3 HG3 HB3 HTK HC0
            go_wp2_with fail
            refine (HPZ.out W4).mono ?_
            rintro e W4' ⟨rfl, rfl⟩
            go_wp2_with fail
            refine HT4.out.mono ?_
            rintro e W5 ⟨rfl, hr, ho⟩
            have HR5 := hid hr
            have HG5 := hid (HG4.out.trans (to_only ho))
            have HB5 := hid (HB4.out.to (to_only ho) hRW1)
            have hz5 : W1.heap.size < W5.heap.size := by have := ho.size; omega
            have HWR := hid (writeStr_j _ _ out pe W5 HB5.out (by omega) (by omega))
            clear hr ho HT4 HG4 HB4 HB5 c0
            go_wp2_with fail
            refine HWR.out.mono ?_
            rintro e W6 ⟨⟨v9, rfl⟩, hb, hbl, hbs⟩
            have HB6 := hid hb
            have HE : Hid (strW (out ++ pe) r2 = RES) := HCH.out.symm
            have HBL := hid hbl
            clear hb hbl HWR HCH
            have HR6 : Hid (Rj W6 R r2 n d) := (HBL.out.block R hRW1).trans HR5.out
            have HG6 : Hid (w.grownBy W6 (some R)) := HGB.out W5 W6 HG5.out HBL.out
            clear HBL
            go_wp2_with fail
            go_roundw
            case rel => exact ⟨out ++ pe, r2, by omega, by rw [List.length_append]; omega, HE, HR6, HB6, HG6, by omega⟩
            case measure => rw [restJ_eq HR6.out, HME.out]; omega
end Go.Proofs.YtlgkbdebpnbndaaGreatDoor
