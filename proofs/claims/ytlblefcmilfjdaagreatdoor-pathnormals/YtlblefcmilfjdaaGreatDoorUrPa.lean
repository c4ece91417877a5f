
/- What url's isScheme, hasBracket, isHost and readAuthority do. -/
import Derived.Test.YtlblefcmilfjdaaGreatDoorUrAm
import Derived.Test.YtlblefcmilfjdaaGreatDoorIpPar
namespace Go.Proofs.YtlblefcmilfjdaaGreatDoor
set_option linter.unusedVariables false
open Go.RowKit Go.BigFrame
attribute [local go_sem ↓] loadA_eq

def LET : List UInt8 := [65, 66, 67, 68, 69, 70, 71, 72, 73, 74, 75, 76, 77, 78, 79, 80, 81, 82, 83, 84, 85, 86, 87, 88, 89, 90, 97, 98, 99, 100, 101, 102, 103, 104, 105, 106, 107, 108, 109, 110, 111, 112, 113, 114, 115, 116, 117, 118, 119, 120, 121, 122]
def DGT : List UInt8 := [48, 49, 50, 51, 52, 53, 54, 55, 56, 57]
def SCH : List UInt8 := LET ++ DGT ++ [43, 45, 46]
theorem let_fin : ∀ n : Fin 256, LET.contains (UInt8.ofNat n.val) = letterU (UInt8.ofNat n.val) := by decide +kernel
theorem dgt_fin : ∀ n : Fin 256, DGT.contains (UInt8.ofNat n.val) = digitU (UInt8.ofNat n.val) := by decide +kernel
theorem sch_fin : ∀ n : Fin 256, SCH.contains (UInt8.ofNat n.val) = schB (UInt8.ofNat n.val) := by decide +kernel
theorem let_eq (c : UInt8) : LET.contains c = letterU c := by
  have := let_fin ⟨c.toNat, c.toNat_lt⟩
  simpa only [UInt8.ofNat_toNat] using this
theorem dgt_eq (c : UInt8) : DGT.contains c = digitU c := by
  have := dgt_fin ⟨c.toNat, c.toNat_lt⟩
  simpa only [UInt8.ofNat_toNat] using this
theorem sch_eq (c : UInt8) : SCH.contains c = schB c := by
  have := sch_fin ⟨c.toNat, c.toNat_lt⟩
  simpa only [UInt8.ofNat_toNat] using this
/-- digits: allAmong. -/
theorem digits_any (t : ByteArray) (ht : t.size ≤ 1000000) (w : World) : Calls Tryz.prog 94 #[.string ⟨#[48, 49, 50, 51, 52, 53, 54, 55, 56, 57]⟩, .string t] w fun e w' => e = .returned (.bool (t.data.toList.all digitU)) ∧ w' = w := by
  have := allAmong_any ⟨#[48, 49, 50, 51, 52, 53, 54, 55, 56, 57]⟩ t ht w
  rw [show (fun c => (⟨#[48, 49, 50, 51, 52, 53, 54, 55, 56, 57]⟩ : ByteArray).data.toList.contains c) = digitU from funext dgt_eq] at this
  exact this
theorem letters_any (c : UInt8) (w : World) : Calls Tryz.prog 76 #[.string ⟨LET.toArray⟩, .int .u8 c.toNat] w fun e w' => e = .returned (.bool (letterU c)) ∧ w' = w := by
  have := among_any ⟨LET.toArray⟩ c w
  rw [show (⟨LET.toArray⟩ : ByteArray).data.toList.contains c = letterU c from let_eq c] at this
  exact this
theorem sch_any (t : ByteArray) (ht : t.size ≤ 1000000) (w : World) : Calls Tryz.prog 94 #[.string ⟨SCH.toArray⟩, .string t] w fun e w' => e = .returned (.bool (t.data.toList.all schB)) ∧ w' = w := by
  have := allAmong_any ⟨SCH.toArray⟩ t ht w
  rw [show (fun c => (⟨SCH.toArray⟩ : ByteArray).data.toList.contains c) = schB from funext sch_eq] at this
  exact this
set_option maxHeartbeats 1000000 in
theorem isScheme_any (a : List UInt8) (ha : a.length ≤ 1000000) (w : World) : Calls Tryz.prog 88 #[.string (asS a)] w fun e w' => e = .returned (.bool (isSchB a)) ∧ w' = w := by
  have HA : Hid (∀ W, Calls Tryz.prog 94 #[.string ⟨SCH.toArray⟩, .string (asS a)] W fun e w' => e = .returned (.bool (a.all schB)) ∧ w' = W) := fun W => sch_any (asS a) (by rw [asS_size]; exact ha) W
  have HS : Hid (isSchB a = (decide (a ≠ []) && letterU (a.getD 0 0) && a.all schB)) := rfl
  have heq : (asS a).toList.isEmpty = decide (a = []) := by
    rw [show (asS a).toList = a from by rw [ByteArray.toList_eq]; rfl]
    cases a <;> rfl
  have hix0 := fun (h : 0 < (asS a).size) W => str_ix (asS a) 0 h W
  by_cases h0 : a = []
  · rw [decide_eq_true h0] at heq
    rw [decide_eq_false (fun hn => hn h0)] at HS
    generalize isSchB a = R at HS ⊢
    generalize asS a = S at HA heq ⊢
    clear h0 hix0
    go_enter Tryz.func88, Tryz.ntmps88
    go_wp2_with fail
    go_ret
    exact ⟨by rw [HS.out]; rfl, rfl⟩
  · rw [decide_eq_false h0] at heq
    rw [decide_eq_true h0] at HS
    have hix := hix0 (by rw [asS_size]; exact List.length_pos_iff.2 h0)
    rw [asS_data] at hix
    have HL := hid (fun W => letters_any (a.getD 0 0) W)
    generalize isSchB a = R at HS ⊢
    generalize a.getD 0 0 = c at hix HL HS
    generalize asS a = S at HA heq hix ⊢
    generalize letterU c = lc at HL HS
    generalize a.all schB = al at HA HS
    clear h0 hix0
    have hcz : ((0 : Nat) : Int) = 0 := rfl
    rw [hcz] at hix
    go_enter Tryz.func88, Tryz.ntmps88
    go_wp2_with fail
    refine (HL.out _).mono ?_
    rintro e W ⟨rfl, rfl⟩
    cases lc with
    | false =>
      go_wp2_with fail
      go_ret
      exact ⟨by rw [HS.out]; rfl, rfl⟩
    | true =>
      go_wp2_with fail
      refine (HA.out _).mono ?_
      rintro e W ⟨rfl, rfl⟩
      go_wp2_with fail
      go_ret
      exact ⟨by rw [HS.out]; rfl, rfl⟩
/-- Bytes of ASCII alone. -/
def Asc (l : List UInt8) : Prop := ∀ c ∈ l, c.toNat < 128
theorem Asc.at {l : List UInt8} (h : Asc l) : ∀ (j : Nat) b, (asS l).data.toList[j]? = some b → b.toNat < 128 := fun j b hb => h b (List.mem_of_getElem? hb)
theorem any_any (l : List UInt8) (hl : l.length ≤ 1000000) (ha : Asc l) (cs : List UInt8) (hc : Asc cs) (hcl : cs.length ≤ 100) (w : World) : Calls Tryz.prog 118 #[.string (asS l), .string (asS cs)] w fun e w' => e = .returned (.bool (Lib.containsAny l cs)) ∧ Below w.heap.size w w' :=
  Tryz.strings_ContainsAny_laid (asS l) (asS cs) w (by rw [asS_size]; omega) (by rw [asS_size]; omega) ha.at hc.at
theorem asc_br : Asc [91, 93] := by intro c hc; simp at hc; rcases hc with rfl | rfl <;> decide
theorem asc_at : Asc [64, 58] := by intro c hc; simp at hc; rcases hc with rfl | rfl <;> decide
theorem hasBracket_any (l : List UInt8) (hl : l.length ≤ 1000000) (ha : Asc l) (w : World) : Calls Tryz.prog 91 #[.string (asS l)] w fun e w' => e = .returned (.bool (Lib.containsAny l [91, 93])) ∧ Below w.heap.size w w' := by
  have HA : Hid (∀ W, Calls Tryz.prog 118 #[.string (asS l), .string ⟨#[91, 93]⟩] W fun e w' => e = .returned (.bool (Lib.containsAny l [91, 93])) ∧ Below W.heap.size W w') := fun W => any_any l hl ha [91, 93] asc_br (by simp) W
  generalize Lib.containsAny l [91, 93] = b at HA ⊢
  generalize asS l = S at HA ⊢
  go_enter Tryz.func91, Tryz.ntmps91
  go_wp2_with fail
  refine (HA.out _).mono ?_
  rintro e W ⟨rfl, hb⟩
  go_wp2_with fail
  go_ret
  exact ⟨rfl, hb⟩

theorem pre_one (l : List UInt8) : Lib.hasPrefix l [91] = false ∨ ∃ r, l = 91 :: r := by
  match l with
  | [] => exact .inl rfl
  | c :: r =>
    by_cases h : c = 91
    · exact .inr ⟨r, by rw [h]⟩
    · left
      show ((91 == c) && true) = false
      rw [Bool.and_true, beq_eq_false_iff_ne]
      exact fun e => h e.symm
theorem any_split (l : List UInt8) : (l.any fun c => ([58, 91, 93, 64] : List UInt8).contains c) = ((l.any fun c => ([64, 58] : List UInt8).contains c) || (l.any fun c => ([91, 93] : List UInt8).contains c)) := by
  induction l with
  | nil => rfl
  | cons c r ih =>
    rw [List.any_cons, List.any_cons, List.any_cons, ih]
    have : ([58, 91, 93, 64] : List UInt8).contains c = (([64, 58] : List UInt8).contains c || ([91, 93] : List UInt8).contains c) := by
      simp only [List.contains_cons, List.contains_nil, Bool.or_false]
      cases (c == 58) <;> cases (c == 91) <;> cases (c == 93) <;> cases (c == 64) <;> rfl
    rw [this]
    cases ([64, 58] : List UInt8).contains c <;> cases ([91, 93] : List UInt8).contains c <;> simp
theorem host_plain (l : List UInt8) (h : Lib.hasPrefix l [91] = false) : hostU l = (!(Lib.containsAny l [64, 58]) && !(Lib.containsAny l [91, 93])) := by
  unfold hostU
  rw [if_neg, find_any, any_split, anyC_eq, anyC_eq]
  · rw [Bool.not_or]
  · rintro ⟨_, h2, _⟩
    match l, h, h2 with
    | c :: r, h, h2 =>
      have : c = 91 := h2
      subst this
      cases h
theorem host_six (r : List UInt8) : hostU (91 :: r) = (Lib.hasSuffix r [93] && (match parseA (Lib.trimSuffix r [93]) with
    | some (v, _) => v
    | none => false)) := by
  have hfind : decide (findU [58, 91, 93, 64] (91 :: r) = (91 :: r).length) = false := by
    rw [find_here _ _ _ rfl]
    exact decide_eq_false (by simp)
  rcases List.eq_nil_or_concat r with rfl | ⟨t, x, rfl⟩
  · unfold hostU
    rw [if_neg (by simp), hfind]
    rfl
  · have e1 : Lib.hasSuffix (t ++ [x]) [93] = (93 == x) := by
      unfold Lib.hasSuffix List.isSuffixOf
      rw [List.reverse_append]
      show ((93 == x) && true) = _
      rw [Bool.and_true]
    have e0 : t.concat x = t ++ [x] := by simp
    unfold hostU
    by_cases hx : x = 93
    · subst hx
      rw [if_pos]
      · unfold Lib.trimSuffix
        rw [e0, e1]
        have e3 : ((91 :: (t ++ [(93 : UInt8)])).drop 1).take ((91 :: (t ++ [(93 : UInt8)])).length - 2) = t := by simp
        have e4 : (t ++ [(93 : UInt8)]).take ((t ++ [(93 : UInt8)]).length - ([93] : List UInt8).length) = t := by simp
        rw [e3, show ((93 : UInt8) == 93) = true from rfl, if_pos rfl, e4, Bool.true_and]
        cases parseA t with
        | none => rfl
        | some p => rfl
      · rw [e0]
        refine ⟨by simp, rfl, ?_⟩
        simp [List.getD_eq_getElem?_getD]
    · have hx2 : ((93 : UInt8) == x) = false := by rw [beq_eq_false_iff_ne]; exact fun e => hx e.symm
      rw [e0, e1, hx2, Bool.false_and, if_neg]
      · rw [← e0]; exact hfind
      · rintro ⟨_, _, h3⟩
        apply hx
        simpa [List.getD_eq_getElem?_getD] using h3
theorem Asc.cons {c : UInt8} {l : List UInt8} (h : Asc (c :: l)) : Asc l := fun d hd => h d (List.mem_cons_of_mem _ hd)
theorem suf_len (r : List UInt8) : (Lib.trimSuffix r [93]).length ≤ r.length := by
  unfold Lib.trimSuffix
  split
  · rw [List.length_take]; omega
  · exact Nat.le_refl _
theorem pa_match (o : Option (Bool × List UInt8)) : (match o with
    | some (v, _) => v
    | none => false) = (decide (paE o = 0) && paV o) := by
  cases o with
  | none => rfl
  | some p => rfl
theorem paE_two (o : Option (Bool × List UInt8)) : paE o = 0 ∨ paE o = 5 := by
  cases o with
  | none => exact .inr rfl
  | some p => exact .inl rfl
set_option maxHeartbeats 2000000 in
set_option maxRecDepth 100000 in
theorem isHost_any (l : List UInt8) (hl : l.length ≤ 100000) (ha : Asc l) (w : World) (hT : TabS w) : Calls Tryz.prog 93 #[.string (asS l)] w fun e w' => e = .returned (.bool (hostU l)) ∧ Below w.heap.size w w' := by
  have HC : Hid (∀ W, Calls Tryz.prog 89 #[.string (asS l), .string ⟨#[91]⟩] W fun e w' => e = .returned (.tuple #[.string (asS (Lib.trimPrefix l [91])), .bool (Lib.hasPrefix l [91])]) ∧ w' = W) := fun W => Tryz.strings_CutPrefix (asS l) ⟨#[91]⟩ W
  rcases pre_one l with h1 | ⟨r, rfl⟩
  · have HH := hid (host_plain l h1)
    rw [h1] at HC
    have HA : Hid (∀ W, Calls Tryz.prog 118 #[.string (asS l), .string ⟨#[64, 58]⟩] W fun e w' => e = .returned (.bool (Lib.containsAny l [64, 58])) ∧ Below W.heap.size W w') := fun W => any_any l (by omega) ha [64, 58] asc_at (by simp) W
    have HK := hid (fun W => hasBracket_any l (by omega) ha W)
    generalize hostU l = R at HH ⊢
    generalize Lib.containsAny l [64, 58] = b1 at HA HH
    generalize Lib.containsAny l [91, 93] = b2 at HK HH
    generalize asS (Lib.trimPrefix l [91]) = T at HC
    generalize asS l = S at HC HA HK ⊢
    clear h1
    go_enter Tryz.func93, Tryz.ntmps93
    go_wp2_with fail
    refine (HC.out _).mono ?_
    rintro e W ⟨rfl, rfl⟩
    go_wp2_with fail
    refine (HA.out _).mono ?_
    rintro e W1 ⟨rfl, hb1⟩
    have HB1 := hid hb1
    clear hb1
    cases b1 with
    | true =>
      go_wp2_with fail
      go_ret
      exact ⟨by rw [HH.out]; rfl, HB1.out⟩
    | false =>
      go_wp2_with fail
      refine (HK.out _).mono ?_
      rintro e W2 ⟨rfl, hb2⟩
      have HB2 := hid (HB1.out.trans (hb2.mono HB1.out.size))
      clear hb2
      go_wp2_with fail
      go_ret
      exact ⟨by rw [HH.out]; rfl, HB2.out⟩
  · have HH := hid (host_six r)
    rw [show Lib.hasPrefix (91 :: r) [91] = true from by simp [Lib.hasPrefix, List.isPrefixOf], show Lib.trimPrefix (91 :: r) [91] = r from by simp [Lib.trimPrefix, Lib.hasPrefix, List.isPrefixOf]] at HC
    have hr : r.length ≤ 100000 := by simp at hl; omega
    have HS : Hid (∀ W, Calls Tryz.prog 119 #[.string (asS r), .string ⟨#[93]⟩] W fun e w' => e = .returned (.tuple #[.string (asS (Lib.trimSuffix r [93])), .bool (Lib.hasSuffix r [93])]) ∧ w' = W) := fun W => Tryz.strings_CutSuffix (asS r) ⟨#[93]⟩ W (by rw [asS_size]; omega)
    have HP : Hid (∀ W, TabS W → Calls Tryz.prog 120 #[.string (asS (Lib.trimSuffix r [93]))] W fun e w' => e = .returned (.tuple #[.agg (acs (paV (parseA (Lib.trimSuffix r [93]))) (paB (parseA (Lib.trimSuffix r [93])))), .int .i64 (paE (parseA (Lib.trimSuffix r [93])))]) ∧ Below W.heap.size W w') := fun W h => parse_any (asS (Lib.trimSuffix r [93])) (by rw [asS_size]; have := suf_len r; omega) W h
    have HBL := hid (paB_len (Lib.trimSuffix r [93]))
    rw [pa_match] at HH
    have HE2 := paE_two (parseA (Lib.trimSuffix r [93]))
    generalize hostU (91 :: r) = R at HH ⊢
    generalize Lib.hasSuffix r [93] = b1 at HS HH
    generalize paV (parseA (Lib.trimSuffix r [93])) = V at HP HH
    generalize paB (parseA (Lib.trimSuffix r [93])) = B at HP HBL
    generalize paE (parseA (Lib.trimSuffix r [93])) = E at HP HH HE2
    generalize asS (Lib.trimSuffix r [93]) = T at HS HP
    generalize asS r = S1 at HC HS
    generalize asS (91 :: r) = S at HC ⊢
    have HT := hid hT
    clear hT hl ha hr
    go_enter Tryz.func93, Tryz.ntmps93
    go_wp2_with fail
    refine (HC.out _).mono ?_
    rintro e W ⟨rfl, rfl⟩
    go_wp2_with fail
    refine (HS.out _).mono ?_
    rintro e W ⟨rfl, rfl⟩
    go_wp2_with fail
    refine (HP.out _ HT.out).mono ?_
    rintro e W1 ⟨rfl, hb1⟩
    have HB1 := hid hb1
    clear hb1
    go_wp2_with (first
      | (refine store_addr rfl _ _ rfl W1.heap.size V B HBL.out rfl rfl _ (heap_alloc_new W1 _) rfl ?_)
      | fail)
    intro W2 hO2 hW2
    have HB2 := hid ((alloc_below HB1.out HB1.out.size _).trans (hO2.below HB1.out.size))
    have hc : W2.cell? ⟨W1.heap.size, 0, none⟩ = some (.bool V) := by rw [cell_of_row _ _ _ _ _ _ hW2]; exact acs_zero V B
    clear hO2 hW2
    cases b1 with
    | false =>
      clear hc
      go_wp2_with fail
      go_ret
      exact ⟨by rw [HH.out]; rfl, HB2.out⟩
    | true =>
      rcases HE2 with rfl | rfl
      · go_wp2_with fail
        go_ret
        exact ⟨by rw [HH.out]; rfl, HB2.out⟩
      · clear hc
        go_wp2_with fail
        go_ret
        exact ⟨by rw [HH.out]; rfl, HB2.out⟩
end Go.Proofs.YtlblefcmilfjdaaGreatDoor
