
/- References: what signOf, runeOf and reference of package entity do. -/
import Derived.Test.YtkeghpghhmajiaaDoorEnNum
namespace Go.Proofs.YtkeghpghhmajiaaDoor
set_option linter.unusedVariables false
set_option linter.unusedSimpArgs false
open Go.RowKit Go.BigFrame

theorem index_cutE : ∀ l : List UInt8, Lib.index l [59] = match cutE l with
    | none => -1
    | some p => (p.1.length : Int)
  | [] => rfl
  | c :: r => by
    have ih := index_cutE r
    unfold Lib.index
    simp only [cutE]
    by_cases hc : c = 59
    · subst hc
      rw [if_pos (by simp [List.isPrefixOf]), if_pos rfl]; rfl
    · rw [if_neg (by simp [List.isPrefixOf]; exact fun e => hc e.symm), if_neg hc]
      cases hr : cutE r with
      | none => rw [hr] at ih; rw [ih]; rfl
      | some p =>
        rw [hr] at ih
        simp only at ih
        rw [ih, if_neg (by rw [beq_iff_eq]; omega)]
        simp
theorem cut_none59 {l : List UInt8} (h : cutE l = none) : Lib.cut l [59] = (l, [], false) := by
  have hi := index_cutE l
  rw [h] at hi
  unfold Lib.cut
  rw [if_neg (by rw [hi]; decide)]
theorem cut_some59 {l b t : List UInt8} (h : cutE l = some (b, t)) : Lib.cut l [59] = (b, t, true) := by
  have hi := index_cutE l
  have hl := (cutE_some l b t h).1
  rw [h] at hi
  simp only at hi
  unfold Lib.cut
  rw [if_pos (by rw [hi]; omega), hi, Int.toNat_natCast, hl, List.take_left', List.drop_append]
  · simp
  · rfl
theorem cut59_any (l : List UInt8) (hl : l.length ≤ 1000000) (w : World) (hT : TabE w) : Calls Tryd.prog 36 #[.string (asS l), .string ⟨#[59]⟩] w fun e w' => e = .returned (.tuple #[.string (asS (Lib.cut l [59]).1), .string (asS (Lib.cut l [59]).2.1), .bool (Lib.cut l [59]).2.2]) ∧ Below w.heap.size w w' := by
  obtain ⟨m, hm⟩ := hT.max
  refine (Tryd.strings_Cut (asS l) ⟨#[59]⟩ m w (by rw [asS_size]; omega) hm).mono ?_
  rintro e w' ⟨rfl, n, rfl⟩
  exact ⟨rfl, (Below.refl _ _).trans ⟨rfl, rfl, rfl, Nat.le_refl _, fun _ _ => rfl⟩⟩
set_option maxRecDepth 100000 in
theorem signOf_any (v : Nat) (hv : (v : Int) ≤ 1114111) (w : World) : Calls Tryd.prog 19 #[.int .i32 (v : Int)] w fun e w' => e = .returned (.string (asS (signV v))) ∧ w' = w := by
  have HN : Hid (signV v = if v = 38 then [38, 97, 109, 112, 59] else if v = 60 then [38, 108, 116, 59] else if v = 62 then [38, 103, 116, 59] else if v = 34 then [38, 113, 117, 111, 116, 59] else if v = 39 then [38, 97, 112, 111, 115, 59] else if v = 13 then [38, 35, 49, 51, 59] else []) := rfl
  have hz : ∀ k : Nat, ((v : Int) == (k : Int)) = decide (v = k) := fun k => by
    by_cases h : v = k
    · rw [decide_eq_true h, h]; simp
    · rw [decide_eq_false h, beq_eq_false_iff_ne]; omega
  have h1 := hz 38
  have h2 := hz 60
  have h3 := hz 62
  have h4 := hz 34
  have h5 := hz 39
  have h6 := hz 13
  clear hz
  by_cases c1 : v = 38
  · rw [if_pos c1] at HN
    rw [decide_eq_true c1] at h1
    clear c1
    go_enter Tryd.func19, Tryd.ntmps19
    go_wp2_with fail
    go_ret
    exact ⟨by rw [HN.out]; rfl, rfl⟩
  rw [if_neg c1] at HN
  rw [decide_eq_false c1] at h1
  clear c1
  by_cases c2 : v = 60
  · rw [if_pos c2] at HN
    rw [decide_eq_true c2] at h2
    clear c2
    go_enter Tryd.func19, Tryd.ntmps19
    go_wp2_with fail
    go_ret
    exact ⟨by rw [HN.out]; rfl, rfl⟩
  rw [if_neg c2] at HN
  rw [decide_eq_false c2] at h2
  clear c2
  by_cases c3 : v = 62
  · rw [if_pos c3] at HN
    rw [decide_eq_true c3] at h3
    clear c3
    go_enter Tryd.func19, Tryd.ntmps19
    go_wp2_with fail
    go_ret
    exact ⟨by rw [HN.out]; rfl, rfl⟩
  rw [if_neg c3] at HN
  rw [decide_eq_false c3] at h3
  clear c3
  by_cases c4 : v = 34
  · rw [if_pos c4] at HN
    rw [decide_eq_true c4] at h4
    clear c4
    go_enter Tryd.func19, Tryd.ntmps19
    go_wp2_with fail
    go_ret
    exact ⟨by rw [HN.out]; rfl, rfl⟩
  rw [if_neg c4] at HN
  rw [decide_eq_false c4] at h4
  clear c4
  by_cases c5 : v = 39
  · rw [if_pos c5] at HN
    rw [decide_eq_true c5] at h5
    clear c5
    go_enter Tryd.func19, Tryd.ntmps19
    go_wp2_with fail
    go_ret
    exact ⟨by rw [HN.out]; rfl, rfl⟩
  rw [if_neg c5] at HN
  rw [decide_eq_false c5] at h5
  clear c5
  by_cases c6 : v = 13
  · rw [if_pos c6] at HN
    rw [decide_eq_true c6] at h6
    clear c6
    go_enter Tryd.func19, Tryd.ntmps19
    go_wp2_with fail
    go_ret
    exact ⟨by rw [HN.out]; rfl, rfl⟩
  rw [if_neg c6] at HN
  rw [decide_eq_false c6] at h6
  clear c6
  go_enter Tryd.func19, Tryd.ntmps19
  go_wp2_with fail
  go_ret
  exact ⟨by rw [HN.out]; rfl, rfl⟩
/-- How what stands between & and ; begins. -/
theorem kind_of (l : List UInt8) : (∃ d, l = 35 :: 120 :: d ∧ runeR l = numR 16 6 d) ∨ (∃ d, l = 35 :: d ∧ Lib.hasPrefix l [35, 120] = false ∧ runeR l = numR 10 7 d) ∨ (Lib.hasPrefix l [35, 120] = false ∧ Lib.hasPrefix l [35] = false ∧ runeR l = nameR l) := by
  unfold runeR Lib.hasPrefix
  split
  · exact .inl ⟨_, rfl, rfl⟩
  · rename_i d h
    refine .inr (.inl ⟨_, rfl, ?_, rfl⟩)
    cases d with
    | nil => rfl
    | cons x t =>
      have hx : x ≠ 120 := fun e => h t (by rw [e])
      simp [List.isPrefixOf]; exact fun e => hx e.symm
  · rename_i h1 h2
    refine .inr (.inr ⟨?_, ?_, rfl⟩)
    · match l, h1, h2 with
      | [], _, _ => rfl
      | [c], _, h2 => simp [List.isPrefixOf]
      | c :: x :: t, h1, _ =>
        simp only [List.isPrefixOf, Bool.and_true, Bool.and_eq_false_iff, beq_eq_false_iff_ne]
        by_cases hc : c = 35
        · right; exact fun e => h1 t (by rw [hc, ← e])
        · left; exact fun e => hc e.symm
    · match l, h2 with
      | [], _ => rfl
      | c :: t, h2 =>
        simp only [List.isPrefixOf, Bool.and_true, beq_eq_false_iff_ne]
        exact fun e => h2 t (by rw [← e])
theorem cutPre_any (l p : List UInt8) (w : World) : Calls Tryd.prog 45 #[.string (asS l), .string (asS p)] w fun e w' => e = .returned (.tuple #[.string (asS (Lib.trimPrefix l p)), .bool (Lib.hasPrefix l p)]) ∧ w' = w := Tryd.strings_CutPrefix (asS l) (asS p) w
set_option maxRecDepth 100000 in
theorem runeOf_any (l : List UInt8) (hl : l.length ≤ 100000) (w : World) (hT : TabE w) : Calls Tryd.prog 37 #[.string (asS l)] w fun e w' => e = .returned (runeV (runeR l)) ∧ Below w.heap.size w w' := by
  have HP1 : Hid (∀ W, Calls Tryd.prog 45 #[.string (asS l), .string ⟨#[35, 120]⟩] W fun e w' => e = .returned (.tuple #[.string (asS (Lib.trimPrefix l [35, 120])), .bool (Lib.hasPrefix l [35, 120])]) ∧ w' = W) := fun W => cutPre_any l [35, 120] W
  have HP2 : Hid (∀ W, Calls Tryd.prog 45 #[.string (asS l), .string ⟨#[35]⟩] W fun e w' => e = .returned (.tuple #[.string (asS (Lib.trimPrefix l [35])), .bool (Lib.hasPrefix l [35])]) ∧ w' = W) := fun W => cutPre_any l [35] W
  rcases kind_of l with ⟨d, rfl, hr⟩ | ⟨d, rfl, hp, hr⟩ | ⟨hp, hq, hr⟩
  · have e1 : Lib.hasPrefix (35 :: 120 :: d) [35, 120] = true := by simp [Lib.hasPrefix, List.isPrefixOf]
    have e2 : Lib.trimPrefix (35 :: 120 :: d) [35, 120] = d := by unfold Lib.trimPrefix; rw [e1]; rfl
    have HN := hid (fun W hW => numbered16_any d (by simp at hl; omega) W hW)
    have HT := hid hT
    rw [e1, e2] at HP1
    rw [hr]
    clear hr e1 e2 hl hT HP2
    generalize asS (35 :: 120 :: d) = S at HP1 ⊢
    unfold runeV at HN ⊢
    generalize asS d = D at HP1 HN
    generalize (numR 16 6 d).isSome = B at HN ⊢
    generalize ((numR 16 6 d).getD 0) = N at HN ⊢
    go_enter Tryd.func37, Tryd.ntmps37
    go_wp2_with (first | (go_at_call 45; refine (HP1.out _).mono ?_; rintro e W ⟨rfl, rfl⟩) | (go_at_call 46; refine (HN.out _ HT.out).mono ?_; rintro e W2 ⟨rfl, hb⟩; have HB := hid hb; clear hb) | fail)
    go_ret2
    exact ⟨rfl, HB.out⟩
  · have e1 : Lib.hasPrefix (35 :: d) [35] = true := by simp [Lib.hasPrefix, List.isPrefixOf]
    have e2 : Lib.trimPrefix (35 :: d) [35] = d := by unfold Lib.trimPrefix; rw [e1]; rfl
    have e3 : Lib.trimPrefix (35 :: d) [35, 120] = 35 :: d := by unfold Lib.trimPrefix; rw [hp]; rfl
    have HN := hid (fun W hW => numbered10_any d (by simp at hl; omega) W hW)
    have HT := hid hT
    rw [hp, e3] at HP1
    rw [e1, e2] at HP2
    rw [hr]
    clear hr hp e1 e2 e3 hl hT
    generalize asS (35 :: d) = S at HP1 HP2 ⊢
    unfold runeV at HN ⊢
    generalize asS d = D at HP2 HN
    generalize (numR 10 7 d).isSome = B at HN ⊢
    generalize ((numR 10 7 d).getD 0) = N at HN ⊢
    go_enter Tryd.func37, Tryd.ntmps37
    go_wp2_with fail
    refine (HP1.out _).mono ?_
    rintro e W ⟨rfl, rfl⟩
    go_wp2_with fail
    refine (HP2.out _).mono ?_
    rintro e W ⟨rfl, rfl⟩
    go_wp2_with (first | (go_at_call 46; refine (HN.out _ HT.out).mono ?_; rintro e W2 ⟨rfl, hb⟩; have HB := hid hb; clear hb) | fail)
    go_ret2
    exact ⟨rfl, HB.out⟩
  · have e3 : Lib.trimPrefix l [35, 120] = l := by unfold Lib.trimPrefix; rw [hp]; rfl
    have e4 : Lib.trimPrefix l [35] = l := by unfold Lib.trimPrefix; rw [hq]; rfl
    have HN := hid (fun W => named_any l W)
    rw [hp, e3] at HP1
    rw [hq, e4] at HP2
    rw [hr]
    clear hr hp hq e3 e4 hl hT
    generalize asS l = S at HP1 HP2 HN ⊢
    unfold runeV at HN ⊢
    generalize (nameR l).isSome = B at HN ⊢
    generalize ((nameR l).getD 0) = N at HN ⊢
    go_enter Tryd.func37, Tryd.ntmps37
    go_wp2_with fail
    refine (HP1.out _).mono ?_
    rintro e W ⟨rfl, rfl⟩
    go_wp2_with fail
    refine (HP2.out _).mono ?_
    rintro e W ⟨rfl, rfl⟩
    go_wp2_with (first | (go_at_call 47; refine (HN.out _).mono ?_; rintro e W2 ⟨rfl, rfl⟩) | fail)
    go_ret2
    exact ⟨rfl, Below.refl _ _⟩
/-- What reference answers of what stands behind &. -/
def refP (t : List UInt8) : Nat × Nat := match cutE t with
  | none => (0, 0)
  | some (b, _) => match runeR b with
    | none => (0, 0)
    | some n => (n, b.length + 2)
set_option maxRecDepth 100000 in
theorem reference_any (t : List UInt8) (hl : t.length ≤ 100000) (w : World) (hT : TabE w) : Calls Tryd.prog 26 #[.string (asS (38 :: t))] w fun e w' => e = .returned (.tuple #[.int .i32 ((refP t).1 : Nat), .int .i64 ((refP t).2 : Nat)]) ∧ Below w.heap.size w w' := by
  have hE1 : (asS (38 :: t)).extract 1 (asS (38 :: t)).size = asS t := ext8_from (38 :: t) 1
  have hs1 : (1 : Int) ≤ ((asS (38 :: t)).size : Int) := by rw [asS_size]; simp; omega
  have HC := hid (fun W hW => cut59_any t (by omega) W hW)
  have HT := hid hT
  clear hT
  generalize asS (38 :: t) = S at hE1 hs1 ⊢
  cases hc : cutE t with
  | none =>
    have HR : Hid (refP t = (0, 0)) := by show _ = _; unfold refP; rw [hc]
    rw [cut_none59 hc] at HC
    simp only at HC
    rw [HR.out]
    clear hc
    generalize asS t = S1 at hE1 HC
    go_enter Tryd.func26, Tryd.ntmps26
    go_wp2_with (first | (go_at_call 36; refine (HC.out _ HT.out).mono ?_; rintro e W1 ⟨rfl, hb⟩; have HB := hid hb; clear hb) | fail)
    go_ret2
    exact ⟨rfl, HB.out⟩
  | some p =>
    obtain ⟨b, r⟩ := p
    have hlen := congrArg List.length (cutE_some t b r hc).1
    simp only [List.length_append, List.length_cons] at hlen
    rw [cut_some59 hc] at HC
    simp only at HC
    have HN := hid (fun W hW => runeOf_any b (by omega) W hW)
    have hbs : ((asS b).size : Int) ≤ 100000 := by rw [asS_size]; omega
    have HBS : Hid (((asS b).size : Int) = (b.length : Int)) := by show _ = _; rw [asS_size]
    cases hr : runeR b with
    | none =>
      have HR : Hid (refP t = (0, 0)) := by show _ = _; unfold refP; rw [hc]; simp only [hr]
      rw [hr] at HN
      have hrv : runeV none = .tuple #[.int .i32 0, .bool false] := rfl
      rw [hrv] at HN
      rw [HR.out]
      clear hc hr hrv hlen HBS
      generalize asS t = S1 at hE1 HC
      generalize asS b = S2 at HC HN hbs
      go_enter Tryd.func26, Tryd.ntmps26
      go_wp2_with (first | (go_at_call 36; refine (HC.out _ HT.out).mono ?_; rintro e W1 ⟨rfl, hb⟩; have HB := hid hb; clear hb) | (go_at_call 37; refine (HN.out _ (HT.out.below HB.out)).mono ?_; rintro e W2 ⟨rfl, hb2⟩; have HB2 := hid (HB.out.trans (hb2.mono HB.out.size)); clear hb2) | fail)
      go_ret2
      exact ⟨rfl, HB2.out⟩
    | some n =>
      have HR : Hid (refP t = (n, b.length + 2)) := by show _ = _; unfold refP; rw [hc]; simp only [hr]
      rw [hr] at HN
      have hrv : runeV (some n) = .tuple #[.int .i32 (n : Nat), .bool true] := rfl
      rw [hrv] at HN
      rw [HR.out]
      clear hc hr hrv hlen
      generalize asS t = S1 at hE1 HC
      generalize asS b = S2 at HC HN hbs HBS
      go_enter Tryd.func26, Tryd.ntmps26
      go_wp2_with (first | (go_at_call 36; refine (HC.out _ HT.out).mono ?_; rintro e W1 ⟨rfl, hb⟩; have HB := hid hb; clear hb) | (go_at_call 37; refine (HN.out _ (HT.out.below HB.out)).mono ?_; rintro e W2 ⟨rfl, hb2⟩; have HB2 := hid (HB.out.trans (hb2.mono HB.out.size)); clear hb2) | fail)
      go_ret2
      refine ⟨?_, HB2.out⟩
      have e0 : (1 : Int) + (S2.size : Int) + 1 = ((b.length + 2 : Nat) : Int) := by have := HBS.out; omega
      rw [← e0]
      rfl
end Go.Proofs.YtkeghpghhmajiaaDoor
