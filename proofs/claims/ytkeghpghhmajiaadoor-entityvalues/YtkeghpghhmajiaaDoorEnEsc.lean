
/- strings.Builder beside a text that is gone through, and what Escape of package entity does. -/
import Derived.Test.YtkeghpghhmajiaaDoorEnRef
import Derived.Shelf.Strings.BuilderK
import Derived.Shelf.Strings.BuilderRune
namespace Go.Proofs.YtkeghpghhmajiaaDoor
set_option linter.unusedVariables false
set_option linter.unusedSimpArgs false
open Go.RowKit Go.BigFrame

theorem row_keepX {w w' : World} {g : Nat} {o : Obj} (hb : Below w.heap.size w w') (h : w.heap[g]? = some o) : w'.heap[g]? = some o := (hb.block g (Array.getElem?_eq_some_iff.1 h).1).trans h
theorem ownX_keep {B : Nat} {e : TypeId} {v : Value} {n : Nat} {xs : List Value} {w w' : World} (h : w.ownsRowF B e 1 v n xs) (hb : Below w.heap.size w w') : w'.ownsRowF B e 1 v n xs := by
  obtain ⟨hl, ho⟩ := h
  refine ⟨hl, ?_⟩
  rcases ho with ho | ⟨g, c, cur, fz, h1, h2, h3, h4⟩
  · exact .inl ho
  · exact .inr ⟨g, c, cur, fz, h1, h2, row_keepX hb h3, h4⟩
/-- A builder that holds these bytes. -/
def Bx (B b : Nat) (o : List UInt8) (w : World) : Prop := Lib.IsBuilderF 37 5 B b (Lib.byteCells o) w
theorem Bx.below {B b : Nat} {o : List UInt8} {w w' : World} (h : Bx B b o w) (hb : Below w.heap.size w w') : Bx B b o w' := by
  rcases h with ⟨h1, v, h2, h3, h4⟩ | ⟨h1, v, h2, h3, h4⟩
  · exact .inl ⟨h1, v, row_keepX hb h2, ownX_keep h3 hb, h4⟩
  · exact .inr ⟨h1, v, row_keepX hb h2, ownX_keep h3 hb, h4⟩
theorem Bx.new (w : World) : Bx w.heap.size w.heap.size [] (w.alloc (.cells #[.pointer none, .slice none 0 0] 37)) := Lib.IsBuilderF.of (Lib.fresh_isBuilder 37 5 w)
theorem Bx.alloc {B b : Nat} {o : List UInt8} {w : World} (h : Bx B b o w) (x : Obj) : Bx B b o (w.alloc x) := Lib.IsBuilderF.alloc h x
theorem Bx.iterAt {B b : Nat} {o : List UInt8} {w : World} (h : Bx B b o w) {k : Nat} {s : ByteArray} {pos : Nat} (hk : w.heap[k]? = some (.stringIter s pos)) (pos' : Nat) : Bx B b o (w.iterAt k s pos') := Lib.IsBuilderF.iterAt h hk pos'
theorem cellsX_app (o p : List UInt8) : Lib.byteCells (o ++ p) = Lib.byteCells o ++ Lib.byteCells p := by simp [Lib.byteCells]
theorem writeStr_x (B b : Nat) (o : List UInt8) (x : List UInt8) (w : World) (h : Bx B b o w) (hl : o.length + x.length ≤ 1000000) (hB : B ≤ w.heap.size) : Calls Tryd.prog 20 #[.pointer (some ⟨b, 0, none⟩), .string (asS x)] w fun e w' => (∃ v, e = .returned v) ∧ Bx B b (o ++ x) w' ∧ Below B w w' ∧ Lib.OthersKept 5 (some b) w w' := by
  have h2 : Lib.IsBuilderF (Tryd.lays154_ren.t 72) (Tryd.lays154_ren.t 5) B b (Lib.byteCells o) w := h
  refine (Any.Builder_WriteString_k (P := Tryd.prog) (ρ := Tryd.lays154_ren) { Tryd.lays154 with } Tryd.Builder_Extra_154 B b (Lib.byteCells o) (asS x) w h2 (by rw [Lib.byteCells_length, asS_size]; omega) hB).mono ?_
  rintro e w' ⟨rfl, hb, hbel, hk⟩
  refine ⟨⟨_, rfl⟩, .inr ?_, hbel, hk⟩
  rw [cellsX_app]
  exact hb
theorem writeRune_x (B b : Nat) (o : List UInt8) (v : Nat) (hv : validR v = true) (w : World) (h : Bx B b o w) (hl : o.length ≤ 1000000) (hB : B ≤ w.heap.size) : Calls Tryd.prog 21 #[.pointer (some ⟨b, 0, none⟩), .int .i32 (v : Int)] w fun e w' => (∃ v, e = .returned v) ∧ Bx B b (o ++ encL v) w' ∧ Below B w w' ∧ Lib.OthersKept 5 (some b) w w' := by
  have hv' := validR_iff.1 hv
  have h2 : Lib.IsBuilderF (Tryd.lays168_ren.t 72) (Tryd.lays168_ren.t 5) B b (Lib.byteCells o) w := h
  refine (Any.Builder_WriteRune_k (P := Tryd.prog) (ρ := Tryd.lays168_ren) Tryd.lays168 Tryd.Builder_Extra_168 B b (Lib.byteCells o) (v : Int) (by omega) (by omega) w h2 (by rw [Lib.byteCells_length]; omega) hB).mono ?_
  rintro e w' ⟨rfl, hb, hbel, hk⟩
  refine ⟨⟨_, rfl⟩, .inr ?_, hbel, hk⟩
  rw [cellsX_app, show Lib.byteCells (encL v) = Lib.runeCells (v : Int) from Lib.byteCells_encodeRune (v : Int)]
  exact hb
theorem bstr_x (B b : Nat) (o : List UInt8) (w : World) (h : Bx B b o w) (hB : B ≤ w.heap.size) : Calls Tryd.prog 22 #[.pointer (some ⟨b, 0, none⟩)] w fun e w' => e = .returned (.string (asS o)) ∧ Below B w w' := by
  have h2 : Lib.IsBuilderF (Tryd.lays154_ren.t 72) (Tryd.lays154_ren.t 5) B b (Lib.byteCells o) w := h
  refine (Any.Builder_String_any_k (P := Tryd.prog) (ρ := Tryd.lays154_ren) { Tryd.lays154 with } Tryd.Builder_Extra_154 B b o w h2 hB).mono ?_
  rintro e w' ⟨rfl, _, hb, _⟩
  exact ⟨rfl, hb⟩
theorem iterPos_of {w : World} {k p : Nat} {s : ByteArray} (h : w.heap[k]? = some (.stringIter s p)) : w.iterPos k = p := by
  simp [World.iterPos, h]
/-- What is decoded at a place of a text that may be. -/
theorem dec_at {l : List UInt8} {pos v : Nat} {t : List UInt8} (hv : validR v = true) (h : l.drop pos = encL v ++ t) : Utf8.decode (asS l) pos = (v, (encL v).length) := by
  rw [decL_at, asS_data, h, encL_dec v hv]
theorem drop_enc {l : List UInt8} {pos v : Nat} {t : List UInt8} (h : l.drop pos = encL v ++ t) : l.drop (pos + (encL v).length) = t ∧ pos + (encL v).length + t.length = l.length := by
  have h1 := (encL_len v).1
  refine ⟨by rw [← List.drop_drop, h]; simp, ?_⟩
  have := congrArg List.length h
  rw [List.length_drop, List.length_append] at this
  omega
theorem signV_ne {v : Nat} : (asS (signV v)).toList.isEmpty = decide (signV v = []) := emp8 _
theorem signV_len (v : Nat) : (signV v).length ≤ 6 := by
  unfold signV
  repeat' split
  all_goals simp
/-- Why a text may not stand in XML. -/
def errX (l : List UInt8) : Int := if V l then (if xmlB (asS l) then 0 else 1) else 5
theorem errX_no {l : List UInt8} (h : V l = false) : errX l = 5 := by unfold errX; rw [h]; rfl
theorem xml_any (l : List UInt8) (w : World) : Calls Tryd.prog 18 #[.string (asS l)] w fun e w' => e = .returned (.int .i64 (errX l)) ∧ Below w.heap.size w w' := by
  have hV : vld (asS l) = V l := by rw [vld_V, asS_data]
  cases h : V l with
  | true =>
    have c := xml_ok (asS l) w (by show _ = _; rw [hV]; exact h)
    rw [show errX l = xmlE (xmlB (asS l)) from by unfold errX; rw [h]; rfl]
    exact c
  | false =>
    rw [errX_no h]
    exact xml_no (asS l) w (by show _ = _; rw [hV]; exact h)
set_option maxRecDepth 100000 in
theorem escape_no (l : List UInt8) (E : Int) (hE : errX l = E) (h0 : (E == 0) = false) (w : World) : Calls Tryd.prog 8 #[.string (asS l)] w fun e w' => e = .returned (.tuple #[.string ⟨#[]⟩, .int .i64 E]) ∧ Below w.heap.size w w' := by
  have HX := hid (fun W => xml_any l W)
  rw [hE] at HX
  clear hE
  generalize asS l = S at HX ⊢
  go_enter Tryd.func8, Tryd.ntmps8
  go_wp2_with (first | (go_at_call 18; refine (HX.out _).mono ?_; rintro e W1 ⟨rfl, hb⟩; have HB := hid hb; clear hb) | fail)
  go_ret2
  exact ⟨rfl, HB.out⟩
set_option maxHeartbeats 4000000 in
set_option maxRecDepth 100000 in
theorem escape_ok (l : List UInt8) (hl : l.length ≤ 10000) (hE : errX l = 0) (w : World) : Calls Tryd.prog 8 #[.string (asS l)] w fun e w' => e = .returned (.tuple #[.string (asS (escL l)), .int .i64 0]) ∧ Below w.heap.size w w' := by
  have HV : Hid (V l = true) := by
    show _ = _
    cases h : V l with
    | true => rfl
    | false => rw [errX_no h] at hE; cases hE
  have HX := hid (fun W => xml_any l W)
  rw [hE] at HX
  have HSZ : Hid ((asS l).size = l.length) := asS_size l
  have HDA : Hid (∀ pos v t, validR v = true → l.drop pos = encL v ++ t → Utf8.decode (asS l) pos = (v, (encL v).length)) := fun pos v t hv h => dec_at hv h
  have HES : Hid (escL l = [] ++ escL (l.drop 0)) := by show _ = _; simp
  generalize escL l = R at HES ⊢
  generalize asS l = S at HX HSZ HDA ⊢
  clear hE
  go_enter Tryd.func8, Tryd.ntmps8
  go_wp2_with fail
  refine (HX.out _).mono ?_
  rintro e W1 ⟨rfl, hb⟩
  have HB := hid hb
  clear hb
  have HNB := hid (Bx.new W1)
  have HB0 := hid (alloc_below (Below.refl W1.heap.size W1) (Nat.le_refl _) (.cells #[.pointer none, .slice none 0 0] 37))
  go_wp2_with fail
  go_loopw [] (fun wr => ∃ (pos : Nat) (o : List UInt8), pos ≤ l.length ∧ o.length ≤ 6 * pos ∧ Hid (wr.heap[W1.heap.size + 1]? = some (.stringIter S pos)) ∧ Hid (Bx W1.heap.size W1.heap.size o wr) ∧ Hid (Below W1.heap.size W1 wr) ∧ Hid (V (l.drop pos) = true) ∧ Hid (R = o ++ escL (l.drop pos))) (fun wr => S.size - wr.iterPos (W1.heap.size + 1))
  case atStart =>
    refine ⟨0, [], Nat.zero_le _, Nat.le_refl _, ?_, ?_, ?_, ?_, HES⟩
    · have := heap_alloc_new (W1.alloc (.cells #[.pointer none, .slice none 0 0] 37)) (.stringIter S 0)
      rwa [show (W1.alloc (.cells #[.pointer none, .slice none 0 0] 37)).heap.size = W1.heap.size + 1 from by simp] at this
    · exact HNB.out.alloc _
    · exact HB0.out.alloc (by simp) _
    · exact HV
  case round =>
    obtain ⟨pos, o, hp, ho, HI, HD, HBW, HVP, HR⟩ := hrel
    have hszW := HBW.out.size
    by_cases hlt : pos < l.length
    · have hpS : pos < S.size := by rw [HSZ.out]; exact hlt
      obtain ⟨v, t, hv, hdr, hVt⟩ := V_open HVP.out (fun h => by have := congrArg List.length h; rw [List.length_drop] at this; simp at this; omega)
      have hdec := HDA.out pos v t hv hdr
      obtain ⟨hd1, hd2⟩ := drop_enc hdr
      have hnx : ∀ ty, (Instr.next (.pointer (some ⟨W1.heap.size + 1, 0, none⟩)) true ty).run Tryd.prog wr = _ := fun ty => Lib.run_next_any_at wr (W1.heap.size + 1) S pos ty HI.out hpS
      rw [hdec] at hnx
      simp only at hnx
      have h4 := encL_len v
      have HI2 := hid (Lib.iterAt_heap wr (W1.heap.size + 1) S pos (pos + (encL v).length) HI.out)
      have HD2 := hid (HD.out.iterAt HI.out (pos + (encL v).length))
      have HB2 := hid (Lib.below_iterAt HBW.out (k := W1.heap.size + 1) (by omega) S (pos + (encL v).length))
      have hv' := validR_iff.1 hv
      have HSG := hid (fun W => signOf_any v (by omega) W)
      have hemp := signV_ne (v := v)
      have HEN := hid (esc_enc v hv)
      have hsl := signV_len v
      have HP : Hid (∀ x, escL (encL v) = x → R = (o ++ x) ++ escL (l.drop (pos + (encL v).length))) := fun x hx => by rw [HR.out, hdr, escL_app, hx, hd1, List.append_assoc]
      have HVN : Hid (V (l.drop (pos + (encL v).length)) = true) := by show _ = _; rw [hd1]; exact hVt
      have hsz2 : W1.heap.size ≤ (wr.iterAt (W1.heap.size + 1) S (pos + (encL v).length)).heap.size := by rw [Lib.iterAt_size]; exact hszW
      have hne : W1.heap.size + 1 ≠ W1.heap.size := by omega
      have HWR := hid (fun W h1 h2 h3 => writeRune_x W1.heap.size W1.heap.size o v hv W h1 h2 h3)
      have HWS := hid (fun W h1 h2 h3 => writeStr_x W1.heap.size W1.heap.size o (signV v) W h1 h2 h3)
      have hk4 : pos + (encL v).length ≤ l.length := by omega
      obtain ⟨k, hkk⟩ : ∃ k, (encL v).length = k := ⟨_, rfl⟩
      rw [hkk] at hnx h4 HI2 HD2 HB2 HP HVN hsz2 hk4
      have HK := hid hkk
      clear hkk
      have HHS := hid hsz2
      clear hsz2 hdec hdr hd1 hd2 hVt hv' hv
      by_cases hsg : signV v = []
      · rw [decide_eq_true hsg] at hemp
        rw [if_pos hsg] at HEN
        have HP2 := hid (HP.out _ HEN.out)
        clear hsg HP HEN HWS hsl
        generalize asS (signV v) = G at HSG hemp
        go_wp2_with (first
          | (go_at_call 19; refine (HSG.out _).mono ?_; rintro e W2 ⟨rfl, rfl⟩)
          | (go_at_call 21; refine (HWR.out _ HD2.out (by omega) HHS.out).mono ?_; rintro e W3 ⟨⟨ve, rfl⟩, hd3, hb3, hk3⟩; have HD3 := hid hd3; have HB3 := hid (HB2.out.trans hb3); have HI3 := hid (hk3.iter HI2.out hne); clear hd3 hb3 hk3)
          | fail)
        go_roundw
        case rel => exact ⟨pos + k, o ++ encL v, hk4, by rw [List.length_append, HK.out]; omega, HI3, HD3, HB3, HVN, HP2⟩
        case measure => rw [iterPos_of HI3.out, iterPos_of HI.out]; omega
      · rw [decide_eq_false hsg] at hemp
        rw [if_neg hsg] at HEN
        have HP2 := hid (HP.out _ HEN.out)
        clear hsg HP HEN HWR
        generalize signV v = sg at HSG hemp hsl HWS HP2
        generalize asS sg = G at HSG hemp HWS
        go_wp2_with (first
          | (go_at_call 19; refine (HSG.out _).mono ?_; rintro e W2 ⟨rfl, rfl⟩)
          | (go_at_call 20; refine (HWS.out _ HD2.out (by omega) HHS.out).mono ?_; rintro e W3 ⟨⟨ve, rfl⟩, hd3, hb3, hk3⟩; have HD3 := hid hd3; have HB3 := hid (HB2.out.trans hb3); have HI3 := hid (hk3.iter HI2.out hne); clear hd3 hb3 hk3)
          | fail)
        go_roundw
        case rel => exact ⟨pos + k, o ++ sg, hk4, by rw [List.length_append]; omega, HI3, HD3, HB3, HVN, HP2⟩
        case measure => rw [iterPos_of HI3.out, iterPos_of HI.out]; omega
    · have hpS : ¬ pos < S.size := by rw [HSZ.out]; exact hlt
      have HQ : Hid (R = o) := by show _ = _; rw [HR.out, List.drop_of_length_le (by omega), escL_nil, List.append_nil]
      have hnx : ∀ ty, (Instr.next (.pointer (some ⟨W1.heap.size + 1, 0, none⟩)) true ty).run Tryd.prog wr = _ := fun ty => Lib.run_next_end_at wr (W1.heap.size + 1) S pos ty HI.out hpS
      have HST := hid (bstr_x W1.heap.size W1.heap.size o wr HD.out hszW)
      go_wp2_with (first
        | (go_at_call 22; refine HST.out.mono ?_; rintro e W3 ⟨rfl, hb3⟩; have HB3 := hid (HB.out.trans ((HBW.out.trans hb3).mono HB.out.size)); clear hb3)
        | fail)
      go_ret2
      exact ⟨by rw [HQ.out]; rfl, HB3.out⟩
end Go.Proofs.YtkeghpghhmajiaaDoor
