import Derived.Test.YtgoiafndapemjaaGreatDoorQ13
import Derived.Shelf.Strings.BuilderK
import Derived.Shelf.Strings.BuilderRune
set_option linter.unusedVariables false
set_option linter.unusedSimpArgs false
set_option maxHeartbeats 1000000
namespace Go.Proofs.YtgoiafndapemjaaGreatDoor
open Go.RowKit Go.BigFrame
theorem index_cutE : ∀ l : List UInt8, Lib.index l [59] = match cutE l with
  | none => -1
  | some p => (p.1.length : Int)
 | [] => rfl
 | c :: r => by
  have ih := index_cutE r
  unfold Lib.index
  simp only [cutE]
  by_cases hc : c = 59
  ·subst hc
   rw [if_pos (by simp [List.isPrefixOf]), if_pos rfl]; rfl
  ·rw [if_neg (by simp [List.isPrefixOf]; exact fun e => hc e.symm), if_neg hc]
   cases hr : cutE r with
   | none => rw [hr] at ih; rw [ih]; rfl
   | some p =>
    rw [hr] at ih
    simp only at ih
    rw [ih, if_neg (by rw [beq_iff_eq]; omega)]
    simp
theorem cut_none59 {l : List UInt8} (h : cutE l = none) : Lib.cut l [59] = (l, [], false) := by
 have hi := index_cutE l
 rw [h] at hi
 unfold Lib.cut
 rw [if_neg (by rw [hi]; decide)]
theorem cut_some59 {l b t : List UInt8} (h : cutE l = some (b, t)) : Lib.cut l [59] = (b, t, true) := by
 have hi := index_cutE l
 have hl := (cutE_some l b t h).1
 rw [h] at hi
 simp only at hi
 unfold Lib.cut
 rw [if_pos (by rw [hi]; omega), hi, Int.toNat_natCast, hl, List.take_left', List.drop_append]
 ·simp
 ·rfl
theorem cut59_any (l : List UInt8) (hl : l.length ≤ 1000000) (w : World) (hT : TabE w) : Calls Tryz.prog 193 #[.string (asS l), .string ⟨#[59]⟩] w fun e w' => e = .returned (.tuple #[.string (asS (Lib.cut l [59]).1), .string (asS (Lib.cut l [59]).2.1), .bool (Lib.cut l [59]).2.2]) ∧ Below w.heap.size w w' := by
 obtain ⟨m, hm⟩ := hT.max
 refine (Tryz.strings_Cut (asS l) ⟨#[59]⟩ m w (by rw [asS_size]; omega) hm).mono ?_
 rintro e w' ⟨rfl, n, rfl⟩
 exact ⟨rfl, (Below.refl _ _).trans ⟨rfl, rfl, rfl, Nat.le_refl _, fun _ _ => rfl⟩⟩
theorem kind_of (l : List UInt8) : (∃ d, l = 35 :: 120 :: d ∧ runeR l = numR 16 6 d) ∨ (∃ d, l = 35 :: d ∧ Lib.hasPrefix l [35, 120] = false ∧ runeR l = numR 10 7 d) ∨ (Lib.hasPrefix l [35, 120] = false ∧ Lib.hasPrefix l [35] = false ∧ runeR l = nameR l) := by
 unfold runeR Lib.hasPrefix
 split
 ·exact .inl ⟨_, rfl, rfl⟩
 ·rename_i d h
  refine .inr (.inl ⟨_, rfl, ?_, rfl⟩)
  cases d with
  | nil => rfl
  | cons x t =>
   have hx : x ≠ 120 := fun e => h t (by rw [e])
   simp [List.isPrefixOf]; exact fun e => hx e.symm
 ·rename_i h1 h2
  refine .inr (.inr ⟨?_, ?_, rfl⟩)
  ·match l, h1, h2 with
   | [], _, _ => rfl
   | [c], _, h2 => simp [List.isPrefixOf]
   | c :: x :: t, h1, _ =>
    simp only [List.isPrefixOf, Bool.and_true, Bool.and_eq_false_iff, beq_eq_false_iff_ne]
    by_cases hc : c = 35
    ·right; exact fun e => h1 t (by rw [hc, ← e])
    ·left; exact fun e => hc e.symm
  ·match l, h2 with
   | [], _ => rfl
   | c :: t, h2 =>
    simp only [List.isPrefixOf, Bool.and_true, beq_eq_false_iff_ne]
    exact fun e => h2 t (by rw [← e])
theorem cutPre_any (l p : List UInt8) (w : World) : Calls Tryz.prog 162 #[.string (asS l), .string (asS p)] w fun e w' => e = .returned (.tuple #[.string (asS (Lib.trimPrefix l p)), .bool (Lib.hasPrefix l p)]) ∧ w' = w := Tryz.strings_CutPrefix (asS l) (asS p) w
set_option maxRecDepth 100000 in
theorem runeOf_any (l : List UInt8) (hl : l.length ≤ 100000) (w : World) (hT : TabE w) : Calls Tryz.prog 229 #[.string (asS l)] w fun e w' => e = .returned (runeV (runeR l)) ∧ Below w.heap.size w w' := by
 have HP1 : Hid (∀ W, Calls Tryz.prog 162 #[.string (asS l), .string ⟨#[35, 120]⟩] W fun e w' => e = .returned (.tuple #[.string (asS (Lib.trimPrefix l [35, 120])), .bool (Lib.hasPrefix l [35, 120])]) ∧ w' = W) := fun W => cutPre_any l [35, 120] W
 have HP2 : Hid (∀ W, Calls Tryz.prog 162 #[.string (asS l), .string ⟨#[35]⟩] W fun e w' => e = .returned (.tuple #[.string (asS (Lib.trimPrefix l [35])), .bool (Lib.hasPrefix l [35])]) ∧ w' = W) := fun W => cutPre_any l [35] W
 rcases kind_of l with ⟨d, rfl, hr⟩ | ⟨d, rfl, hp, hr⟩ | ⟨hp, hq, hr⟩
 ·have e1 : Lib.hasPrefix (35 :: 120 :: d) [35, 120] = true := by simp [Lib.hasPrefix, List.isPrefixOf]
  have e2 : Lib.trimPrefix (35 :: 120 :: d) [35, 120] = d := by unfold Lib.trimPrefix; rw [e1]; rfl
  have HN := hid (fun W hW => numbered16_any d (by simp at hl; omega) W hW)
  have HT := hid hT
  rw [e1, e2] at HP1
  rw [hr]
  clear hr e1 e2 hl hT HP2
  generalize asS (35 :: 120 :: d) = S at HP1 ⊢
  unfold runeV at HN ⊢
  generalize asS d = D at HP1 HN
  generalize (numR 16 6 d).isSome = B at HN ⊢
  generalize ((numR 16 6 d).getD 0) = N at HN ⊢
  go_enter Tryz.func229, Tryz.ntmps229
  go_wp2_with (first | (go_at_call 162; refine (HP1.out _).mono ?_; rintro e W ⟨rfl, rfl⟩) | (go_at_call 231; refine (HN.out _ HT.out).mono ?_; rintro e W2 ⟨rfl, hb⟩; have HB := hid hb; clear hb) | fail)
  go_ret2
  exact ⟨rfl, HB.out⟩
 ·have e1 : Lib.hasPrefix (35 :: d) [35] = true := by simp [Lib.hasPrefix, List.isPrefixOf]
  have e2 : Lib.trimPrefix (35 :: d) [35] = d := by unfold Lib.trimPrefix; rw [e1]; rfl
  have e3 : Lib.trimPrefix (35 :: d) [35, 120] = 35 :: d := by unfold Lib.trimPrefix; rw [hp]; rfl
  have HN := hid (fun W hW => numbered10_any d (by simp at hl; omega) W hW)
  have HT := hid hT
  rw [hp, e3] at HP1
  rw [e1, e2] at HP2
  rw [hr]
  clear hr hp e1 e2 e3 hl hT
  generalize asS (35 :: d) = S at HP1 HP2 ⊢
  unfold runeV at HN ⊢
  generalize asS d = D at HP2 HN
  generalize (numR 10 7 d).isSome = B at HN ⊢
  generalize ((numR 10 7 d).getD 0) = N at HN ⊢
  go_enter Tryz.func229, Tryz.ntmps229
  go_wp2_with fail
  refine (HP1.out _).mono ?_
  rintro e W ⟨rfl, rfl⟩
  go_wp2_with fail
  refine (HP2.out _).mono ?_
  rintro e W ⟨rfl, rfl⟩
  go_wp2_with (first | (go_at_call 231; refine (HN.out _ HT.out).mono ?_; rintro e W2 ⟨rfl, hb⟩; have HB := hid hb; clear hb) | fail)
  go_ret2
  exact ⟨rfl, HB.out⟩
 ·have e3 : Lib.trimPrefix l [35, 120] = l := by unfold Lib.trimPrefix; rw [hp]; rfl
  have e4 : Lib.trimPrefix l [35] = l := by unfold Lib.trimPrefix; rw [hq]; rfl
  have HN := hid (fun W => named_any l W)
  rw [hp, e3] at HP1
  rw [hq, e4] at HP2
  rw [hr]
  clear hr hp hq e3 e4 hl hT
  generalize asS l = S at HP1 HP2 HN ⊢
  unfold runeV at HN ⊢
  generalize (nameR l).isSome = B at HN ⊢
  generalize ((nameR l).getD 0) = N at HN ⊢
  go_enter Tryz.func229, Tryz.ntmps229
  go_wp2_with fail
  refine (HP1.out _).mono ?_
  rintro e W ⟨rfl, rfl⟩
  go_wp2_with fail
  refine (HP2.out _).mono ?_
  rintro e W ⟨rfl, rfl⟩
  go_wp2_with (first | (go_at_call 232; refine (HN.out _).mono ?_; rintro e W2 ⟨rfl, rfl⟩) | fail)
  go_ret2
  exact ⟨rfl, Below.refl _ _⟩
def refP (t : List UInt8) : Nat × Nat := match cutE t with
 | none => (0, 0)
 | some (b, _) => match runeR b with
  | none => (0, 0)
  | some n => (n, b.length + 2)
set_option maxRecDepth 100000 in
theorem reference_any (t : List UInt8) (hl : t.length ≤ 100000) (w : World) (hT : TabE w) : Calls Tryz.prog 223 #[.string (asS (38 :: t))] w fun e w' => e = .returned (.tuple #[.int .i32 ((refP t).1 : Nat), .int .i64 ((refP t).2 : Nat)]) ∧ Below w.heap.size w w' := by
 have hE1 : (asS (38 :: t)).extract 1 (asS (38 :: t)).size = asS t := ext8_from (38 :: t) 1
 have hs1 : (1 : Int) ≤ ((asS (38 :: t)).size : Int) := by rw [asS_size]; simp; omega
 have HC := hid (fun W hW => cut59_any t (by omega) W hW)
 have HT := hid hT
 clear hT
 generalize asS (38 :: t) = S at hE1 hs1 ⊢
 cases hc : cutE t with
 | none =>
  have HR : Hid (refP t = (0, 0)) := by show _ = _; unfold refP; rw [hc]
  rw [cut_none59 hc] at HC
  simp only at HC
  rw [HR.out]
  clear hc
  generalize asS t = S1 at hE1 HC
  go_enter Tryz.func223, Tryz.ntmps223
  go_wp2_with (first | (go_at_call 193; refine (HC.out _ HT.out).mono ?_; rintro e W1 ⟨rfl, hb⟩; have HB := hid hb; clear hb) | fail)
  go_ret2
  exact ⟨rfl, HB.out⟩
 | some p =>
  obtain ⟨b, r⟩ := p
  have hlen := congrArg List.length (cutE_some t b r hc).1
  simp only [List.length_append, List.length_cons] at hlen
  rw [cut_some59 hc] at HC
  simp only at HC
  have HN := hid (fun W hW => runeOf_any b (by omega) W hW)
  have hbs : ((asS b).size : Int) ≤ 100000 := by rw [asS_size]; omega
  have HBS : Hid (((asS b).size : Int) = (b.length : Int)) := by show _ = _; rw [asS_size]
  cases hr : runeR b with
  | none =>
   have HR : Hid (refP t = (0, 0)) := by show _ = _; unfold refP; rw [hc]; simp only [hr]
   rw [hr] at HN
   have hrv : runeV none = .tuple #[.int .i32 0, .bool false] := rfl
   rw [hrv] at HN
   rw [HR.out]
   clear hc hr hrv hlen HBS
   generalize asS t = S1 at hE1 HC
   generalize asS b = S2 at HC HN hbs
   go_enter Tryz.func223, Tryz.ntmps223
   go_wp2_with (first | (go_at_call 193; refine (HC.out _ HT.out).mono ?_; rintro e W1 ⟨rfl, hb⟩; have HB := hid hb; clear hb) | (go_at_call 229; refine (HN.out _ (HT.out.below HB.out)).mono ?_; rintro e W2 ⟨rfl, hb2⟩; have HB2 := hid (HB.out.trans (hb2.mono HB.out.size)); clear hb2) | fail)
   go_ret2
   exact ⟨rfl, HB2.out⟩
  | some n =>
   have HR : Hid (refP t = (n, b.length + 2)) := by show _ = _; unfold refP; rw [hc]; simp only [hr]
   rw [hr] at HN
   have hrv : runeV (some n) = .tuple #[.int .i32 (n : Nat), .bool true] := rfl
   rw [hrv] at HN
   rw [HR.out]
   clear hc hr hrv hlen
   generalize asS t = S1 at hE1 HC
   generalize asS b = S2 at HC HN hbs HBS
   go_enter Tryz.func223, Tryz.ntmps223
   go_wp2_with (first | (go_at_call 193; refine (HC.out _ HT.out).mono ?_; rintro e W1 ⟨rfl, hb⟩; have HB := hid hb; clear hb) | (go_at_call 229; refine (HN.out _ (HT.out.below HB.out)).mono ?_; rintro e W2 ⟨rfl, hb2⟩; have HB2 := hid (HB.out.trans (hb2.mono HB.out.size)); clear hb2) | fail)
   go_ret2
   refine ⟨?_, HB2.out⟩
   have e0 : (1 : Int) + (S2.size : Int) + 1 = ((b.length + 2 : Nat) : Int) := by have := HBS.out; omega
   rw [← e0]
   rfl
end Go.Proofs.YtgoiafndapemjaaGreatDoor
namespace Go.Proofs.YtgoiafndapemjaaGreatDoor
open Go.RowKit Go.BigFrame
theorem row_keepX {w w' : World} {g : Nat} {o : Obj} (hb : Below w.heap.size w w') (h : w.heap[g]? = some o) : w'.heap[g]? = some o := (hb.block g (Array.getElem?_eq_some_iff.1 h).1).trans h
theorem ownX_keep {B : Nat} {e : TypeId} {v : Value} {n : Nat} {xs : List Value} {w w' : World} (h : w.ownsRowF B e 1 v n xs) (hb : Below w.heap.size w w') : w'.ownsRowF B e 1 v n xs := by
 obtain ⟨hl, ho⟩ := h
 refine ⟨hl, ?_⟩
 rcases ho with ho | ⟨g, c, cur, fz, h1, h2, h3, h4⟩
 ·exact .inl ho
 ·exact .inr ⟨g, c, cur, fz, h1, h2, row_keepX hb h3, h4⟩
def Bx (B b : Nat) (o : List UInt8) (w : World) : Prop := Lib.IsBuilderF 130 5 B b (Lib.byteCells o) w
theorem Bx.below {B b : Nat} {o : List UInt8} {w w' : World} (h : Bx B b o w) (hb : Below w.heap.size w w') : Bx B b o w' := by
 rcases h with ⟨h1, v, h2, h3, h4⟩ | ⟨h1, v, h2, h3, h4⟩
 ·exact .inl ⟨h1, v, row_keepX hb h2, ownX_keep h3 hb, h4⟩
 ·exact .inr ⟨h1, v, row_keepX hb h2, ownX_keep h3 hb, h4⟩
theorem Bx.new (w : World) : Bx w.heap.size w.heap.size [] (w.alloc (.cells #[.pointer none, .slice none 0 0] 130)) := Lib.IsBuilderF.of (Lib.fresh_isBuilder 130 5 w)
theorem Bx.alloc {B b : Nat} {o : List UInt8} {w : World} (h : Bx B b o w) (x : Obj) : Bx B b o (w.alloc x) := Lib.IsBuilderF.alloc h x
theorem Bx.iterAt {B b : Nat} {o : List UInt8} {w : World} (h : Bx B b o w) {k : Nat} {s : ByteArray} {pos : Nat} (hk : w.heap[k]? = some (.stringIter s pos)) (pos' : Nat) : Bx B b o (w.iterAt k s pos') := Lib.IsBuilderF.iterAt h hk pos'
theorem cellsX_app (o p : List UInt8) : Lib.byteCells (o ++ p) = Lib.byteCells o ++ Lib.byteCells p := by simp [Lib.byteCells]
theorem writeStr_x (B b : Nat) (o : List UInt8) (x : List UInt8) (w : World) (h : Bx B b o w) (hl : o.length + x.length ≤ 1000000) (hB : B ≤ w.heap.size) : Calls Tryz.prog 112 #[.pointer (some ⟨b, 0, none⟩), .string (asS x)] w fun e w' => (∃ v, e = .returned v) ∧ Bx B b (o ++ x) w' ∧ Below B w w' ∧ Lib.OthersKept 5 (some b) w w' := by
 have h2 : Lib.IsBuilderF (Tryz.lays154_ren.t 72) (Tryz.lays154_ren.t 5) B b (Lib.byteCells o) w := h
 refine (Any.Builder_WriteString_k (P := Tryz.prog) (ρ := Tryz.lays154_ren) { Tryz.lays154 with } Tryz.Builder_Extra_154 B b (Lib.byteCells o) (asS x) w h2 (by rw [Lib.byteCells_length, asS_size]; omega) hB).mono ?_
 rintro e w' ⟨rfl, hb, hbel, hk⟩
 refine ⟨⟨_, rfl⟩, .inr ?_, hbel, hk⟩
 rw [cellsX_app]
 exact hb
theorem writeRune_x (B b : Nat) (o : List UInt8) (v : Nat) (hv : validR v = true) (w : World) (h : Bx B b o w) (hl : o.length ≤ 1000000) (hB : B ≤ w.heap.size) : Calls Tryz.prog 224 #[.pointer (some ⟨b, 0, none⟩), .int .i32 (v : Int)] w fun e w' => (∃ v, e = .returned v) ∧ Bx B b (o ++ encL v) w' ∧ Below B w w' ∧ Lib.OthersKept 5 (some b) w w' := by
 have hv' := validR_iff.1 hv
 have h2 : Lib.IsBuilderF (Tryz.lays168_ren.t 72) (Tryz.lays168_ren.t 5) B b (Lib.byteCells o) w := h
 refine (Any.Builder_WriteRune_k (P := Tryz.prog) (ρ := Tryz.lays168_ren) Tryz.lays168 Tryz.Builder_Extra_168 B b (Lib.byteCells o) (v : Int) (by omega) (by omega) w h2 (by rw [Lib.byteCells_length]; omega) hB).mono ?_
 rintro e w' ⟨rfl, hb, hbel, hk⟩
 refine ⟨⟨_, rfl⟩, .inr ?_, hbel, hk⟩
 rw [cellsX_app, show Lib.byteCells (encL v) = Lib.runeCells (v : Int) from Lib.byteCells_encodeRune (v : Int)]
 exact hb
theorem bstr_x (B b : Nat) (o : List UInt8) (w : World) (h : Bx B b o w) (hB : B ≤ w.heap.size) : Calls Tryz.prog 113 #[.pointer (some ⟨b, 0, none⟩)] w fun e w' => e = .returned (.string (asS o)) ∧ Below B w w' := by
 have h2 : Lib.IsBuilderF (Tryz.lays154_ren.t 72) (Tryz.lays154_ren.t 5) B b (Lib.byteCells o) w := h
 refine (Any.Builder_String_any_k (P := Tryz.prog) (ρ := Tryz.lays154_ren) { Tryz.lays154 with } Tryz.Builder_Extra_154 B b o w h2 hB).mono ?_
 rintro e w' ⟨rfl, _, hb, _⟩
 exact ⟨rfl, hb⟩
theorem iterPos_of {w : World} {k p : Nat} {s : ByteArray} (h : w.heap[k]? = some (.stringIter s p)) : w.iterPos k = p := by
 simp [World.iterPos, h]
theorem dec_at {l : List UInt8} {pos v : Nat} {t : List UInt8} (hv : validR v = true) (h : l.drop pos = encL v ++ t) : Utf8.decode (asS l) pos = (v, (encL v).length) := by
 rw [decL_at, asS_data, h, encL_dec v hv]
theorem drop_enc {l : List UInt8} {pos v : Nat} {t : List UInt8} (h : l.drop pos = encL v ++ t) : l.drop (pos + (encL v).length) = t ∧ pos + (encL v).length + t.length = l.length := by
 have h1 := (encL_len v).1
 refine ⟨by rw [← List.drop_drop, h]; simp, ?_⟩
 have := congrArg List.length h
 rw [List.length_drop, List.length_append] at this
 omega
def errX (l : List UInt8) : Int := if V l then (if xmlB (asS l) then 0 else 1) else 5
theorem errX_no {l : List UInt8} (h : V l = false) : errX l = 5 := by unfold errX; rw [h]; rfl
theorem xml_any (l : List UInt8) (w : World) : Calls Tryz.prog 65 #[.string (asS l)] w fun e w' => e = .returned (.int .i64 (errX l)) ∧ Below w.heap.size w w' := by
 have hV : vld (asS l) = V l := by rw [vld_V, asS_data]
 cases h : V l with
 | true =>
  have c := xml_ok (asS l) w (by show _ = _; rw [hV]; exact h)
  rw [show errX l = xmlE (xmlB (asS l)) from by unfold errX; rw [h]; rfl]
  exact c
 | false =>
  rw [errX_no h]
  exact xml_no (asS l) w (by show _ = _; rw [hV]; exact h)
end Go.Proofs.YtgoiafndapemjaaGreatDoor
namespace Go.Proofs.YtgoiafndapemjaaGreatDoor
open Go.RowKit Go.BigFrame
def unE (o : Option (List UInt8)) : Int := if o.isSome then 0 else 5
theorem check_V (l : List UInt8) (w : World) : Calls Tryz.prog 77 #[.string (asS l)] w fun e w' => e = .returned (.int .i64 (if V l then 0 else 5)) ∧ Below w.heap.size w w' := by
 have c := check1_any (asS l) w
 unfold chk at c
 rw [vld_V, asS_data] at c
 exact c
theorem ref_cases (t : List UInt8) : (refP t = (0, 0) ∧ unL (38 :: t) = none) ∨ ∃ n b r, refP t = (n, b.length + 2) ∧ t = b ++ 59 :: r ∧ validR n = true ∧ (∀ c ∈ b, c.toNat < 128) ∧ unL (38 :: t) = (unL r).map (encL n ++ ·) := by
 cases hc : cutE t with
 | none => exact .inl ⟨by unfold refP; rw [hc], unL_no t hc⟩
 | some p =>
  obtain ⟨b, r⟩ := p
  cases hr : runeR b with
  | none => exact .inl ⟨by unfold refP; rw [hc]; simp only [hr], unL_bad t b r hc hr⟩
  | some n => exact .inr ⟨n, b, r, by unfold refP; rw [hc]; simp only [hr], (cutE_some t b r hc).1, runeR_valid hr, runeR_ascii hr, unL_ok t b r n hc hr⟩
theorem map_app (x : Option (List UInt8)) (o a : List UInt8) : (x.map (a ++ ·)).map (o ++ ·) = x.map ((o ++ a) ++ ·) := by
 cases x with
 | none => rfl
 | some y => simp
theorem drop_cons_getD {l : List UInt8} {pos : Nat} {c : UInt8} {t : List UInt8} (h : l.drop pos = c :: t) : l.getD pos 0 = c := by
 have := congrArg (fun x => x.getD 0 0) h
 simpa [List.getD_eq_getElem?_getD, List.getElem?_drop] using this
theorem ascii_rune {l : List UInt8} {pos v : Nat} {t : List UInt8} (hv : validR v = true) (h : l.drop pos = encL v ++ t) (ha : (l.getD pos 0).toNat < 128) : (encL v).length = 1 := by
 by_cases h1 : v < 128
 ·rw [enc1 h1]; rfl
 ·have hh := encL_high v hv (by omega)
  cases he : encL v with
  | nil => exact absurd he (enc_ne v)
  | cons c r =>
   rw [he] at h hh
   rw [drop_cons_getD h] at ha
   have := hh c (by simp)
   omega
theorem enc38 (v : Nat) (h : v = 38) : encL v = [38] := by subst h; decide
theorem getD_mem {l : List UInt8} {j : Nat} (h : j < l.length) : l.getD j 0 ∈ l := by
 rw [List.getD_eq_getElem?_getD, List.getElem?_eq_getElem h]; exact List.getElem_mem h
set_option maxRecDepth 100000 in
theorem unescape_no (l : List UInt8) (hV : V l = false) (w : World) : Calls Tryz.prog 214 #[.string (asS l)] w fun e w' => e = .returned (.tuple #[.string ⟨#[]⟩, .int .i64 5]) ∧ Below w.heap.size w w' := by
 have HX := hid (fun W => check_V l W)
 rw [hV] at HX
 simp only [Bool.false_eq_true, if_false] at HX
 clear hV
 generalize asS l = S at HX ⊢
 go_enter Tryz.func214, Tryz.ntmps214
 go_wp2_with (first | (go_at_call 77; refine (HX.out _).mono ?_; rintro e W1 ⟨rfl, hb⟩; have HB := hid hb; clear hb) | fail)
 go_ret2
 exact ⟨rfl, HB.out⟩
set_option maxHeartbeats 4000000 in
set_option maxRecDepth 100000 in
theorem unescape_V (l : List UInt8) (hl : l.length ≤ 100000) (hV : V l = true) (w : World) (hT : TabE w) : Calls Tryz.prog 214 #[.string (asS l)] w fun e w' => e = .returned (.tuple #[.string (asS ((unL l).getD [])), .int .i64 (unE (unL l))]) ∧ Below w.heap.size w w' := by
 have HV := hid hV
 have HX := hid (fun W => check_V l W)
 rw [hV] at HX
 simp only [if_true] at HX
 have HSZ : Hid ((asS l).size = l.length) := asS_size l
 have HDA : Hid (∀ pos v t, validR v = true → l.drop pos = encL v ++ t → Utf8.decode (asS l) pos = (v, (encL v).length)) := fun pos v t hv h => dec_at hv h
 have HEX : Hid (∀ pos, (asS l).extract pos (asS l).size = asS (l.drop pos)) := fun pos => ext8_from l pos
 have HRF := hid (fun t ht W hW => reference_any t ht W hW)
 have HES : Hid (unL l = (unL (l.drop (max 0 0))).map ([] ++ ·)) := by show _ = _; simp
 generalize unL l = R at HES ⊢
 generalize asS l = S at HX HSZ HDA HEX ⊢
 have HT := hid hT
 clear hV hT
 go_enter Tryz.func214, Tryz.ntmps214
 go_wp2_with fail
 refine (HX.out _).mono ?_
 rintro e W1 ⟨rfl, hb⟩
 have HB := hid hb
 have HT1 := hid (HT.out.below hb)
 clear hb
 have HNB := hid (Bx.new W1)
 have HB0 := hid (alloc_below (Below.refl W1.heap.size W1) (Nat.le_refl _) (.cells #[.pointer none, .slice none 0 0] 130))
 go_wp2_with fail
 go_loopw [6] (fun tb wr => ∃ (pos bh : Nat) (o : List UInt8), tb = .int .i64 (bh : Int) ∧ pos ≤ l.length ∧ bh ≤ l.length ∧ o.length ≤ 4 * pos ∧ Hid (wr.heap[W1.heap.size + 1]? = some (.stringIter S pos)) ∧ Hid (Bx W1.heap.size W1.heap.size o wr) ∧ Hid (Below W1.heap.size W1 wr) ∧ Hid (V (l.drop pos) = true) ∧ Hid (∀ j, pos ≤ j → j < bh → (l.getD j 0).toNat < 128) ∧ Hid (R = (unL (l.drop (max pos bh))).map (o ++ ·))) (fun _ wr => S.size - wr.iterPos (W1.heap.size + 1))
 case atStart =>
  refine ⟨0, 0, [], rfl, Nat.zero_le _, Nat.zero_le _, Nat.le_refl _, ?_, ?_, ?_, ?_, ?_, HES⟩
  ·have := heap_alloc_new (W1.alloc (.cells #[.pointer none, .slice none 0 0] 130)) (.stringIter S 0)
   rwa [show (W1.alloc (.cells #[.pointer none, .slice none 0 0] 130)).heap.size = W1.heap.size + 1 from by simp] at this
  ·exact HNB.out.alloc _
  ·exact HB0.out.alloc (by simp) _
  ·exact HV
  ·exact fun j h1 h2 => by omega
 case round =>
  obtain ⟨pos, bh, o, rfl, hp, hbh, ho, HI, HD, HBW, HVP, HAS, HR⟩ := hrel
  have hszW := HBW.out.size
  by_cases hlt : pos < l.length
  ·have hpS : pos < S.size := by rw [HSZ.out]; exact hlt
   obtain ⟨v, t, hv, hdr, hVt⟩ := V_open HVP.out (fun h => by have := congrArg List.length h; rw [List.length_drop] at this; simp at this; omega)
   have hdec := HDA.out pos v t hv hdr
   obtain ⟨hd1, hd2⟩ := drop_enc hdr
   have hnx : ∀ ty, (Instr.next (.pointer (some ⟨W1.heap.size + 1, 0, none⟩)) true ty).run Tryz.prog wr = _ := fun ty => Lib.run_next_any_at wr (W1.heap.size + 1) S pos ty HI.out hpS
   rw [hdec] at hnx
   simp only at hnx
   have h4 := encL_len v
   have HI2 := hid (Lib.iterAt_heap wr (W1.heap.size + 1) S pos (pos + (encL v).length) HI.out)
   have HD2 := hid (HD.out.iterAt HI.out (pos + (encL v).length))
   have HB2 := hid (Lib.below_iterAt HBW.out (k := W1.heap.size + 1) (by omega) S (pos + (encL v).length))
   have hv' := validR_iff.1 hv
   have HVN : Hid (V (l.drop (pos + (encL v).length)) = true) := by show _ = _; rw [hd1]; exact hVt
   have hsz2 : W1.heap.size ≤ (wr.iterAt (W1.heap.size + 1) S (pos + (encL v).length)).heap.size := by rw [Lib.iterAt_size]; exact hszW
   have HHS := hid hsz2
   have hne : W1.heap.size + 1 ≠ W1.heap.size := by omega
   have hk4 : pos + (encL v).length ≤ l.length := by omega
   clear hsz2 hdec hVt
   by_cases hskip : pos < bh
   ·have hi : (pos : Int) < (bh : Int) := by omega
    have hk1 := ascii_rune hv hdr (HAS.out pos (Nat.le_refl _) hskip)
    rw [hk1] at hnx HI2 HD2 HB2 HVN hk4
    have HAS2 : Hid (∀ j, pos + 1 ≤ j → j < bh → (l.getD j 0).toNat < 128) := fun j h1 h2 => HAS.out j (by omega) h2
    have HR2 : Hid (R = (unL (l.drop (max (pos + 1) bh))).map (o ++ ·)) := by show _ = _; rw [HR.out, show max (pos + 1) bh = max pos bh from by omega]
    clear hdr hd1 hd2 hv hv' hk1 h4 hskip HR HAS HHS HD HVP
    go_wp2_with fail
    go_roundw
    case rel => exact ⟨pos + 1, bh, o, rfl, hk4, hbh, by omega, HI2, HD2, HB2, HVN, HAS2, HR2⟩
    case measure => rw [iterPos_of HI2.out, iterPos_of HI.out]; omega
   ·have hi : ¬ (pos : Int) < (bh : Int) := by omega
    have hmx : max pos bh = pos := by omega
    rw [hmx, hdr] at HR
    by_cases h38 : v = 38
    ·have he := enc38 v h38
     have heq : ((v : Int) == 38) = true := by rw [beq_iff_eq]; omega
     rw [he] at hdr hnx HI2 HD2 HB2 HVN hk4 HR hd2 HHS
     simp only [List.length_cons, List.length_nil, Nat.zero_add, List.cons_append, List.nil_append] at hdr hnx HI2 HD2 HB2 HVN hk4 HR hd2 HHS
     have hex := HEX.out pos
     rw [hdr] at hex
     have hsp : (pos : Int) ≤ (S.size : Int) := by omega
     have HRF2 := hid (HRF.out t (by omega))
     rcases ref_cases t with ⟨hrp, hun⟩ | ⟨n, b, r, hrp, htb, hvn, hba, hun⟩
     ·have HQ : Hid (R = none) := by show _ = _; rw [HR.out, hun]; rfl
      rw [hrp] at HRF2
      simp only [Int.natCast_zero] at HRF2
      clear hdr hd1 hd2 hv hv' h4 hskip HR HAS HVP hun hrp h38 he hmx HRF HEX
      generalize asS (38 :: t) = T1 at hex HRF2
      go_wp2_with (first
       | (go_at_call 223; refine (HRF2.out _ (HT1.out.below (HB2.out.mono (Nat.le_refl _)))).mono ?_; rintro e W3 ⟨rfl, hb3⟩; have HB3 := hid (HB.out.trans ((HB2.out.trans (hb3.mono (by have := HHS.out; omega))).mono HB.out.size)); clear hb3)
       | fail)
      go_ret2
      exact ⟨by rw [HQ.out]; rfl, HB3.out⟩
     ·rw [hrp] at HRF2
      simp only at HRF2
      have hbl : t.length = b.length + 1 + r.length := by rw [htb]; simp; omega
      have hz0 : (((b.length + 2 : Nat) : Int) == 0) = false := by rw [beq_eq_false_iff_ne]; omega
      have HDR : Hid (l.drop (pos + (b.length + 2)) = r) := by
       show _ = _
       rw [← List.drop_drop, hdr, htb]
       simp
      have HAS2 : Hid (∀ j, pos + 1 ≤ j → j < pos + (b.length + 2) → (l.getD j 0).toNat < 128) := fun j h1 h2 => by
       have e : l.getD j 0 = (b ++ [59]).getD (j - pos - 1) 0 := by
        have h5 : l.getD j 0 = (l.drop pos).getD (j - pos) 0 := by
         rw [List.getD_eq_getElem?_getD, List.getD_eq_getElem?_getD, List.getElem?_drop, show pos + (j - pos) = j from by omega]
        rw [h5, hdr, htb, show j - pos = (j - pos - 1) + 1 from by omega, List.getD_cons_succ, show b ++ 59 :: r = (b ++ [59]) ++ r from by simp, List.getD_eq_getElem?_getD, List.getD_eq_getElem?_getD, List.getElem?_append_left (by simp; omega)]
        simp
       rw [e]
       have hm : (b ++ [59]).getD (j - pos - 1) 0 ∈ b ++ [59] := getD_mem (by simp; omega)
       rcases List.mem_append.1 hm with h6 | h6
       ·exact hba _ h6
       ·rw [List.mem_singleton.1 h6]; decide
      have HR2 : Hid (R = (unL (l.drop (max (pos + 1) (pos + (b.length + 2))))).map ((o ++ encL n) ++ ·)) := by
       show _ = _
       rw [show max (pos + 1) (pos + (b.length + 2)) = pos + (b.length + 2) from by omega, HDR.out, HR.out, hun, map_app]
      have hn4 := encL_len n
      have HWR := hid (fun W h1 h2 h3 => writeRune_x W1.heap.size W1.heap.size o n hvn W h1 h2 h3)
      have hbb : pos + (b.length + 2) ≤ l.length := by omega
      have hw9 : (pos : Int) + ((b.length + 2 : Nat) : Int) ≤ 100000 := by omega
      clear hdr hd1 hd2 hv hv' h4 hskip HR HAS HVP hun hrp h38 he hmx HRF HEX htb hba hbl HDR
      generalize b.length + 2 = q at HRF2 hz0 HAS2 HR2 hbb hw9
      obtain ⟨en, hen⟩ : ∃ en, encL n = en := ⟨_, rfl⟩
      rw [hen] at HR2 hn4 HWR
      clear hen
      generalize asS (38 :: t) = T1 at hex HRF2
      go_wp2_with (first
       | (go_at_call 223; refine (HRF2.out _ (HT1.out.below (HB2.out.mono (Nat.le_refl _)))).mono ?_; rintro e W3 ⟨rfl, hb3⟩; have HD3 := hid (HD2.out.below hb3); have HI3 := hid (row_keepX hb3 HI2.out); have HB3 := hid (HB2.out.trans (hb3.mono HHS.out)); have HS3 := hid (Nat.le_trans HHS.out hb3.size); clear hb3)
       | (go_at_call 224; refine (HWR.out _ HD3.out (by omega) HS3.out).mono ?_; rintro e W4 ⟨⟨ve, rfl⟩, hd4, hb4, hk5⟩; have HD4 := hid hd4; have HB4 := hid (HB3.out.trans hb4); have HI4 := hid (hk5.iter HI3.out hne); clear hd4 hb4 hk5)
       | fail)
      go_roundw
      case rel => exact ⟨pos + 1, pos + q, o ++ en, by go_num, hk4, hbb, by rw [List.length_append]; omega, HI4, HD4, HB4, HVN, HAS2, HR2⟩
      case measure => rw [iterPos_of HI4.out, iterPos_of HI.out]; omega
    ·have heq : ((v : Int) == 38) = false := by rw [beq_eq_false_iff_ne]; omega
     have HR2 : Hid (R = (unL (l.drop (max (pos + (encL v).length) bh))).map ((o ++ encL v) ++ ·)) := by
      show _ = _
      rw [show max (pos + (encL v).length) bh = pos + (encL v).length from by omega, hd1, HR.out, unL_enc v hv h38, map_app]
     have HAS2 : Hid (∀ j, pos + (encL v).length ≤ j → j < bh → (l.getD j 0).toNat < 128) := fun j h1 h2 => by omega
     have HWR := hid (fun W h1 h2 h3 => writeRune_x W1.heap.size W1.heap.size o v hv W h1 h2 h3)
     obtain ⟨k, hkk⟩ : ∃ k, (encL v).length = k := ⟨_, rfl⟩
     rw [hkk] at hnx h4 HI2 HD2 HB2 HVN hk4 HR2 HAS2 HHS
     have HK := hid hkk
     clear hkk hdr hd1 hd2 hv hv' hskip HR HAS HVP h38 hmx HRF HEX
     go_wp2_with (first
      | (go_at_call 224; refine (HWR.out _ HD2.out (by omega) HHS.out).mono ?_; rintro e W4 ⟨⟨ve, rfl⟩, hd4, hb4, hk5⟩; have HD4 := hid hd4; have HB4 := hid (HB2.out.trans hb4); have HI4 := hid (hk5.iter HI2.out hne); clear hd4 hb4 hk5)
      | fail)
     go_roundw
     case rel => exact ⟨pos + k, bh, o ++ encL v, rfl, hk4, hbh, by rw [List.length_append, HK.out]; omega, HI4, HD4, HB4, HVN, HAS2, HR2⟩
     case measure => rw [iterPos_of HI4.out, iterPos_of HI.out]; omega
  ·have hpS : ¬ pos < S.size := by rw [HSZ.out]; exact hlt
   have HQ : Hid (R = some o) := by show _ = _; rw [HR.out, List.drop_of_length_le (by omega), unL_nil]; simp
   have hnx : ∀ ty, (Instr.next (.pointer (some ⟨W1.heap.size + 1, 0, none⟩)) true ty).run Tryz.prog wr = _ := fun ty => Lib.run_next_end_at wr (W1.heap.size + 1) S pos ty HI.out hpS
   have HST := hid (bstr_x W1.heap.size W1.heap.size o wr HD.out hszW)
   go_wp2_with (first
    | (go_at_call 113; refine HST.out.mono ?_; rintro e W3 ⟨rfl, hb3⟩; have HB3 := hid (HB.out.trans ((HBW.out.trans hb3).mono HB.out.size)); clear hb3)
    | fail)
   go_ret2
   exact ⟨by rw [HQ.out]; rfl, HB3.out⟩
theorem unescape_any (l : List UInt8) (hl : l.length ≤ 100000) (w : World) (hT : TabE w) : Calls Tryz.prog 214 #[.string (asS l)] w fun e w' => e = .returned (.tuple #[.string (asS ((unA l).getD [])), .int .i64 (unE (unA l))]) ∧ Below w.heap.size w w' := by
 unfold unA
 cases h : V l with
 | true => exact unescape_V l hl h w hT
 | false => exact unescape_no l h w
end Go.Proofs.YtgoiafndapemjaaGreatDoor
namespace Go.Proofs.YtgoiafndapemjaaGreatDoor
open Go.RowKit Go.BigFrame
theorem replace_any (l old new : List UInt8) (hl : l.length ≤ 100000) (h1 : 1 ≤ old.length) (hn : new.length ≤ 1) (hne : old ≠ new) (w : World) (hT : TabE w) : Calls Tryz.prog 103 #[.string (asS l), .string (asS old), .string (asS new)] w fun e w' => e = .returned (.string (asS (repF old new l.length l))) ∧ Below w.heap.size w w' := by
 obtain ⟨m, hm⟩ := hT.max
 have hc := Lib.count_le l old
 have hb : Lib.countB (asS l) (asS old) = Lib.count l old := rfl
 have hmul : Lib.count l old * (asS new).size ≤ Lib.count l old * 1 := Nat.mul_le_mul_left _ (by rw [asS_size]; exact hn)
 refine (Tryz.strings_ReplaceAll (asS l) (asS old) (asS new) m w (by rw [asS_size]; omega) hm (by rw [asS_size]; exact h1) (by rw [hb, asS_size l]; omega)).mono ?_
 rintro e w' ⟨rfl, hb⟩
 rw [asS_data, asS_data, asS_data, replaceAll_rep old new l h1 hne]
 exact ⟨rfl, hb⟩
theorem rep_len1 (x y : UInt8) (l : List UInt8) : repF [x] [y] l.length l = l.map fun c => if c = x then y else c := rep_one x y l.length l (Nat.le_refl _)
theorem repF_len2 : ∀ (f : Nat) (l : List UInt8), (repF [13, 10] [10] f l).length ≤ l.length
 | 0, l => Nat.le_refl _
 | f + 1, [] => Nat.le_refl _
 | f + 1, c :: r => by
  simp only [repF]
  split
  ·rename_i h
   have := repF_len2 f ((c :: r).drop [13, 10].length)
   rw [List.length_append]
   simp only [List.length_drop, List.length_cons, List.length_nil] at this ⊢
   have hr : 1 ≤ r.length := by
    cases r with
    | nil => simp [List.isPrefixOf] at h
    | cons d t => simp
   omega
  ·have := repF_len2 f r
   simp only [List.length_cons]; omega
set_option maxRecDepth 100000 in
theorem lines_any (l : List UInt8) (hl : l.length ≤ 100000) (w : World) (hT : TabE w) : Calls Tryz.prog 66 #[.string (asS l)] w fun e w' => e = .returned (.string (asS (linE l))) ∧ Below w.heap.size w w' := by
 have h2 := repF_len2 l.length l
 have HA : Hid (∀ W, TabE W → Calls Tryz.prog 103 #[.string (asS l), .string ⟨#[13, 10]⟩, .string ⟨#[10]⟩] W fun e w' => e = .returned (.string (asS (repF [13, 10] [10] l.length l))) ∧ Below W.heap.size W w') := fun W hW => replace_any l [13, 10] [10] hl (by decide) (by decide) (by decide) W hW
 have hrl := rep_lines l.length l.length l (Nat.le_refl _) (Nat.le_refl _)
 generalize repF [13, 10] [10] l.length l = m at HA h2 hrl
 have HC : Hid (∀ W, TabE W → Calls Tryz.prog 103 #[.string (asS m), .string ⟨#[13]⟩, .string ⟨#[10]⟩] W fun e w' => e = .returned (.string (asS (linE l))) ∧ Below W.heap.size W w') := fun W hW => by
  have c := replace_any m [13] [10] (by omega) (by decide) (by decide) (by decide) W hW
  rw [rep_len1, hrl] at c
  exact c
 have hll := linE_len l
 have HCL := hid (fun W => clone8 (asS (linE l)) (by rw [asS_size]; omega) W)
 have HT := hid hT
 clear hrl h2 hll hl hT
 generalize asS (linE l) = R at HC HCL ⊢
 generalize asS m = M at HA HC
 generalize asS l = S at HA ⊢
 go_enter Tryz.func66, Tryz.ntmps66
 go_wp2_with fail
 refine (HA.out _ HT.out).mono ?_
 rintro e W1 ⟨rfl, hb1⟩
 have HB1 := hid hb1
 clear hb1
 go_wp2_with fail
 refine (HC.out _ (HT.out.below HB1.out)).mono ?_
 rintro e W2 ⟨rfl, hb2⟩
 have HB2 := hid (HB1.out.trans (hb2.mono HB1.out.size))
 clear hb2
 go_wp2_with fail
 refine (HCL.out _).mono ?_
 rintro e W3 ⟨rfl, hb3⟩
 have HB3 := hid (HB2.out.trans (hb3.mono HB2.out.size))
 clear hb3
 go_wp2_with fail
 go_ret
 exact ⟨rfl, HB3.out⟩
theorem blank_len (l : List UInt8) : (blankE l).length = l.length := by simp [blankE]
set_option maxRecDepth 100000 in
theorem value_any (l : List UInt8) (hl : l.length ≤ 100000) (w : World) (hT : TabE w) : Calls Tryz.prog 196 #[.string (asS l)] w fun e w' => e = .returned (.tuple #[.string (asS ((unA (blankE (linE l))).getD [])), .int .i64 (unE (unA (blankE (linE l))))]) ∧ Below w.heap.size w w' := by
 have hll := linE_len l
 have HL := hid (fun W hW => lines_any l hl W hW)
 have HU := hid (fun W hW => unescape_any (blankE (linE l)) (by rw [blank_len]; omega) W hW)
 have HA : Hid (∀ W, TabE W → Calls Tryz.prog 103 #[.string (asS (linE l)), .string ⟨#[10]⟩, .string ⟨#[32]⟩] W fun e w' => e = .returned (.string (asS ((linE l).map fun c => if c = 10 then 32 else c))) ∧ Below W.heap.size W w') := fun W hW => by
  have c := replace_any (linE l) [10] [32] (by omega) (by decide) (by decide) (by decide) W hW
  rw [rep_len1] at c
  exact c
 have hml : ((linE l).map fun c => if c = 10 then (32 : UInt8) else c).length = (linE l).length := by simp
 have HC : Hid (∀ W, TabE W → Calls Tryz.prog 103 #[.string (asS ((linE l).map fun c => if c = 10 then 32 else c)), .string ⟨#[9]⟩, .string ⟨#[32]⟩] W fun e w' => e = .returned (.string (asS (blankE (linE l)))) ∧ Below W.heap.size W w') := fun W hW => by
  have c := replace_any ((linE l).map fun c => if c = 10 then 32 else c) [9] [32] (by rw [hml]; omega) (by decide) (by decide) (by decide) W hW
  rw [rep_len1, blank_two] at c
  exact c
 have HT := hid hT
 clear hml hll hl hT
 generalize unE (unA (blankE (linE l))) = E at HU ⊢
 generalize asS ((unA (blankE (linE l))).getD []) = R at HU ⊢
 generalize asS (blankE (linE l)) = N at HU HC
 generalize asS ((linE l).map fun c => if c = 10 then (32 : UInt8) else c) = M at HA HC
 generalize asS (linE l) = K at HL HA
 generalize asS l = S at HL ⊢
 go_enter Tryz.func196, Tryz.ntmps196
 go_wp2_with fail
 refine (HL.out _ HT.out).mono ?_
 rintro e W1 ⟨rfl, hb1⟩
 have HB1 := hid hb1
 clear hb1
 go_wp2_with fail
 refine (HA.out _ (HT.out.below HB1.out)).mono ?_
 rintro e W2 ⟨rfl, hb2⟩
 have HB2 := hid (HB1.out.trans (hb2.mono HB1.out.size))
 clear hb2
 go_wp2_with fail
 refine (HC.out _ (HT.out.below HB2.out)).mono ?_
 rintro e W3 ⟨rfl, hb3⟩
 have HB3 := hid (HB2.out.trans (hb3.mono HB2.out.size))
 clear hb3
 go_wp2_with fail
 refine (HU.out _ (HT.out.below HB3.out)).mono ?_
 rintro e W4 ⟨rfl, hb4⟩
 have HB4 := hid (HB3.out.trans (hb4.mono HB3.out.size))
 clear hb4
 go_wp2_with fail
 go_ret2
 exact ⟨rfl, HB4.out⟩
end Go.Proofs.YtgoiafndapemjaaGreatDoor
