
/- What Escape, Lines and Value of the document's answer for layer 12 do. -/
import Derived.Test.YtkeghpghhmajiaaDoorEnRU
import Derived.Test.YtkeghpghhmajiaaDoorEnLin
namespace Go.Proofs.YtkeghpghhmajiaaDoor
set_option linter.unusedVariables false
set_option linter.unusedSimpArgs false
open Go.RowKit Go.BigFrame

theorem oneE_eq (c d : UInt8) : ((asS [c]).toList == [d]) = decide (c = d) := by
  rw [tl_eq]
  by_cases h : c = d
  · rw [decide_eq_true h, h, decide_eq_true rfl]
  · rw [decide_eq_false h, decide_eq_false (by simpa using h)]
set_option maxHeartbeats 4000000 in
set_option maxRecDepth 100000 in
theorem refEsc_any (l : List UInt8) (hl : l.length ≤ 10000) (w : World) : Calls Tryd.prog 12 #[.string (asS l)] w fun e w' => e = .returned (.string (asS (escL l))) ∧ w' = w := by
  have HE0 : Hid (escL l = [] ++ escL (l.drop 0)) := by show _ = _; simp
  generalize escL l = R at HE0 ⊢
  have HSZ := hid (asS_size l)
  have HX1 : Hid (∀ k, k < l.length → (asS l).extract k (k + 1) = asS [l.getD k 0]) := fun k hk => by
    rw [ext_asS, asS_data, dropE_at l k hk, show k + 1 - k = 1 from by omega]; rfl
  generalize asS l = S at HSZ HX1 ⊢
  have hS : S.size ≤ 10000 := by rw [HSZ.out]; exact hl
  go_enter Tryd.func12, Tryd.ntmps12
  go_wp2_with fail
  go_loop [3, 4] (fun v i => ∃ (k : Nat) (o : List UInt8), i = .int .i64 (k : Int) ∧ v = .string (asS o) ∧ k ≤ S.size ∧ o.length ≤ 6 * k ∧ Hid (R = o ++ escL (l.drop k))) (fun _ i => S.size - (intOf i).toNat)
  case atStart => exact ⟨0, [], rfl, rfl, by omega, by simp, HE0⟩
  case round =>
    obtain ⟨k, o, rfl, rfl, hk, ho, HR⟩ := hrel
    by_cases hlt : k < S.size
    · have hi : (k : Int) < (S.size : Int) := by omega
      have hkl : k < l.length := by have := HSZ.out; omega
      have hdr := dropE_at l k hkl
      have hx1 := HX1.out k hkl
      generalize l.getD k 0 = c at hdr hx1
      have hle : (k : Int) + 1 ≤ (S.size : Int) := by omega
      have hsl := sliceE_run S k (k + 1) (k : Int) ((k : Int) + 1) rfl (by omega) (by omega) (by omega) _ hx1
      have HP : Hid (∀ x, escE c = x → R = (o ++ x) ++ escL (l.drop (k + 1))) := fun x hx => by rw [HR.out, hdr, escL_cons, hx, List.append_assoc]
      have HEB : Hid (escE c = if c = 38 then [38, 97, 109, 112, 59] else if c = 60 then [38, 108, 116, 59] else if c = 62 then [38, 103, 116, 59] else if c = 34 then [38, 113, 117, 111, 116, 59] else if c = 39 then [38, 97, 112, 111, 115, 59] else if c = 13 then [38, 35, 49, 51, 59] else [c]) := rfl
      have h1 := oneE_eq c 38
      have h2 := oneE_eq c 60
      have h3 := oneE_eq c 62
      have h4 := oneE_eq c 34
      have h5 := oneE_eq c 39
      have h6 := oneE_eq c 13
      have e9 := asS_app o [c]
      have e8 := catE_size o [c] (by simp; omega)
      generalize asS [c] = SC at hx1 hsl e9 e8 h1 h2 h3 h4 h5 h6
      clear hdr hx1 HR
      by_cases c1 : c = 38
      · rw [decide_eq_true c1] at h1
        rw [if_pos c1] at HEB
        have HP2 := hid (HP.out _ HEB.out)
        have e1 : asS o ++ ⟨#[38, 97, 109, 112, 59]⟩ = asS (o ++ [38, 97, 109, 112, 59]) := asS_app o [38, 97, 109, 112, 59]
        have e2 : ¬ (9223372036854775807 < (asS o).size + (⟨#[38, 97, 109, 112, 59]⟩ : ByteArray).size) := catE_size o [38, 97, 109, 112, 59] (by simp; omega)
        clear c1 HP HEB e8 e9
        go_wp2_with fail
        go_round
        case rel => exact ⟨k + 1, o ++ [38, 97, 109, 112, 59], by go_num, by first | rfl | rw [e1], by omega, by simp; omega, HP2⟩
        case measure => simp [intOf]; omega
      rw [decide_eq_false c1] at h1
      rw [if_neg c1] at HEB
      clear c1
      by_cases c2 : c = 60
      · rw [decide_eq_true c2] at h2
        rw [if_pos c2] at HEB
        have HP2 := hid (HP.out _ HEB.out)
        have e1 : asS o ++ ⟨#[38, 108, 116, 59]⟩ = asS (o ++ [38, 108, 116, 59]) := asS_app o [38, 108, 116, 59]
        have e2 : ¬ (9223372036854775807 < (asS o).size + (⟨#[38, 108, 116, 59]⟩ : ByteArray).size) := catE_size o [38, 108, 116, 59] (by simp; omega)
        clear c2 HP HEB e8 e9
        go_wp2_with fail
        go_round
        case rel => exact ⟨k + 1, o ++ [38, 108, 116, 59], by go_num, by first | rfl | rw [e1], by omega, by simp; omega, HP2⟩
        case measure => simp [intOf]; omega
      rw [decide_eq_false c2] at h2
      rw [if_neg c2] at HEB
      clear c2
      by_cases c3 : c = 62
      · rw [decide_eq_true c3] at h3
        rw [if_pos c3] at HEB
        have HP2 := hid (HP.out _ HEB.out)
        have e1 : asS o ++ ⟨#[38, 103, 116, 59]⟩ = asS (o ++ [38, 103, 116, 59]) := asS_app o [38, 103, 116, 59]
        have e2 : ¬ (9223372036854775807 < (asS o).size + (⟨#[38, 103, 116, 59]⟩ : ByteArray).size) := catE_size o [38, 103, 116, 59] (by simp; omega)
        clear c3 HP HEB e8 e9
        go_wp2_with fail
        go_round
        case rel => exact ⟨k + 1, o ++ [38, 103, 116, 59], by go_num, by first | rfl | rw [e1], by omega, by simp; omega, HP2⟩
        case measure => simp [intOf]; omega
      rw [decide_eq_false c3] at h3
      rw [if_neg c3] at HEB
      clear c3
      by_cases c4 : c = 34
      · rw [decide_eq_true c4] at h4
        rw [if_pos c4] at HEB
        have HP2 := hid (HP.out _ HEB.out)
        have e1 : asS o ++ ⟨#[38, 113, 117, 111, 116, 59]⟩ = asS (o ++ [38, 113, 117, 111, 116, 59]) := asS_app o [38, 113, 117, 111, 116, 59]
        have e2 : ¬ (9223372036854775807 < (asS o).size + (⟨#[38, 113, 117, 111, 116, 59]⟩ : ByteArray).size) := catE_size o [38, 113, 117, 111, 116, 59] (by simp; omega)
        clear c4 HP HEB e8 e9
        go_wp2_with fail
        go_round
        case rel => exact ⟨k + 1, o ++ [38, 113, 117, 111, 116, 59], by go_num, by first | rfl | rw [e1], by omega, by simp; omega, HP2⟩
        case measure => simp [intOf]; omega
      rw [decide_eq_false c4] at h4
      rw [if_neg c4] at HEB
      clear c4
      by_cases c5 : c = 39
      · rw [decide_eq_true c5] at h5
        rw [if_pos c5] at HEB
        have HP2 := hid (HP.out _ HEB.out)
        have e1 : asS o ++ ⟨#[38, 97, 112, 111, 115, 59]⟩ = asS (o ++ [38, 97, 112, 111, 115, 59]) := asS_app o [38, 97, 112, 111, 115, 59]
        have e2 : ¬ (9223372036854775807 < (asS o).size + (⟨#[38, 97, 112, 111, 115, 59]⟩ : ByteArray).size) := catE_size o [38, 97, 112, 111, 115, 59] (by simp; omega)
        clear c5 HP HEB e8 e9
        go_wp2_with fail
        go_round
        case rel => exact ⟨k + 1, o ++ [38, 97, 112, 111, 115, 59], by go_num, by first | rfl | rw [e1], by omega, by simp; omega, HP2⟩
        case measure => simp [intOf]; omega
      rw [decide_eq_false c5] at h5
      rw [if_neg c5] at HEB
      clear c5
      by_cases c6 : c = 13
      · rw [decide_eq_true c6] at h6
        rw [if_pos c6] at HEB
        have HP2 := hid (HP.out _ HEB.out)
        have e1 : asS o ++ ⟨#[38, 35, 49, 51, 59]⟩ = asS (o ++ [38, 35, 49, 51, 59]) := asS_app o [38, 35, 49, 51, 59]
        have e2 : ¬ (9223372036854775807 < (asS o).size + (⟨#[38, 35, 49, 51, 59]⟩ : ByteArray).size) := catE_size o [38, 35, 49, 51, 59] (by simp; omega)
        clear c6 HP HEB e8 e9
        go_wp2_with fail
        go_round
        case rel => exact ⟨k + 1, o ++ [38, 35, 49, 51, 59], by go_num, by first | rfl | rw [e1], by omega, by simp; omega, HP2⟩
        case measure => simp [intOf]; omega
      rw [decide_eq_false c6] at h6
      rw [if_neg c6] at HEB
      clear c6
      have HP2 := hid (HP.out _ HEB.out)
      clear HP HEB
      go_wp2_with fail
      go_round
      case rel => exact ⟨k + 1, o ++ [c], by go_num, rfl, by omega, by simp; omega, HP2⟩
      case measure => simp [intOf]; omega
    · have hi : ¬ (k : Int) < (S.size : Int) := by omega
      have HQ : Hid (R = o) := by
        show _ = _
        rw [HR.out, List.drop_of_length_le (by have := HSZ.out; omega), escL_nil, List.append_nil]
      go_wp2_with fail
      go_ret
      exact ⟨by rw [HQ.out]; rfl, rfl⟩
theorem src_one (w : World) (a : UInt8) (x : Int) (hx : x = (a.toNat : Int)) : Src Tryd.prog 1 35 (.slice (some ⟨w.heap.size, 0, none⟩) 1 1) 1 (bvs [a]) (w.alloc (.cells #[.int .u8 x] 5)) := by
  subst hx
  exact src_bytes (l := [a]) (BytesAt.of_row (heap_alloc_new w (.cells (bcs [a]) 5))) 1 (fun _ => .inr ⟨_, rfl⟩)
theorem linE_cons (c : UInt8) (r : List UInt8) : linE (c :: r) = if c ≠ 13 then c :: linE r else if r.head? = some 10 then linE r else 10 :: linE r := rfl
theorem head_at (l : List UInt8) (k : Nat) (h : k < l.length) : (l.drop k).head? = some (l.getD k 0) := by rw [dropE_at l k h]; rfl
set_option maxHeartbeats 4000000 in
set_option maxRecDepth 100000 in
theorem refLines_any (l : List UInt8) (hl : l.length ≤ 10000) (w : World) : Calls Tryd.prog 16 #[.string (asS l)] w fun e w' => e = .returned (.string (asS (linE l))) ∧ Below w.heap.size w w' := by
  have HE0 : Hid (linE l = [] ++ linE (l.drop 0)) := by show _ = _; simp
  generalize linE l = R at HE0 ⊢
  have HSZ := hid (asS_size l)
  have HIX : Hid (∀ k, k < l.length → ∀ W, (Instr.index 9 (.string (asS l)) (.int .i64 (k : Int))).run Tryd.prog W = .ok (.int .u8 (l.getD k 0).toNat) W) := fun k hk W => str_ix (asS l) k (by rw [asS_size]; exact hk) W
  generalize asS l = S at HSZ HIX ⊢
  have hS : S.size ≤ 10000 := by rw [HSZ.out]; exact hl
  go_enter Tryd.func16, Tryd.ntmps16
  go_wp2_with fail
  go_loopw [3, 4] (fun v i wr => ∃ (k g n cap : Nat) (o : List UInt8), i = .int .i64 (k : Int) ∧ v = .slice (some ⟨g, 0, none⟩) n cap ∧ k ≤ S.size ∧ n ≤ k ∧ Hid (Own wr w.heap.size g n cap o) ∧ Hid (R = o ++ linE (l.drop k)) ∧ Hid (Below w.heap.size w wr)) (fun _ i _ => S.size - (intOf i).toNat)
  case atStart => exact ⟨0, w.heap.size, 0, 0, [], rfl, rfl, by omega, by omega, Own.zero w _ (Nat.le_refl _), HE0, alloc_below (Below.refl _ w) (Nat.le_refl _) _⟩
  case round =>
    obtain ⟨k, g, n, cap, o, rfl, rfl, hk, hn, HO, HR, HB⟩ := hrel
    by_cases hlt : k < S.size
    · have hi : (k : Int) < (S.size : Int) := by omega
      have hkl : k < l.length := by have := HSZ.out; omega
      have hix := HIX.out k hkl
      have hdr := dropE_at l k hkl
      generalize l.getD k 0 = c at hix hdr
      by_cases hc : c = 13
      · have hc' : (c.toNat : Int) = 13 := by rw [hc]; rfl
        by_cases h2 : k + 1 < S.size
        · have hj : ¬ (S.size : Int) ≤ (k : Int) + 1 := by omega
          have hkl2 : k + 1 < l.length := by have := HSZ.out; omega
          have hix2 : ∀ W, (Instr.index 9 (.string S) (.int .i64 ((k : Int) + 1))).run Tryd.prog W = _ := HIX.out (k + 1) hkl2
          have hhd := head_at l (k + 1) hkl2
          generalize l.getD (k + 1) 0 = d at hix2 hhd
          by_cases hd : d = 10
          · have hd' : (d.toNat : Int) = 10 := by rw [hd]; rfl
            have HQ : Hid (R = o ++ linE (l.drop (k + 1))) := by show _ = _; rw [HR.out, hdr, linE_cons, if_neg (by simp [hc]), if_pos (by rw [hhd, hd])]
            clear hdr hc hd hhd HR
            go_wp2_with fail
            go_roundw
            case rel => exact ⟨k + 1, g, n, cap, o, by go_num, rfl, by omega, by omega, HO, HQ, HB⟩
            case measure => simp [intOf]; omega
          · have hd' : ¬ (d.toNat : Int) = 10 := fun e => hd (UInt8.toNat_inj.1 (by show d.toNat = 10; omega))
            have HQ : Hid (R = (o ++ [10]) ++ linE (l.drop (k + 1))) := by show _ = _; rw [HR.out, hdr, linE_cons, if_neg (by simp [hc]), if_neg (by rw [hhd]; simpa using hd)]; simp
            have HOA := hid (HO.out.alloc (.cells #[.int .u8 10] 5))
            have HBA := hid (alloc_below HB.out HB.out.size (.cells #[.int .u8 10] 5))
            have HS := hid (src_one wr 10 10 rfl)
            clear hdr hc hd hhd HR
            go_wp2_with (first
              | (refine wpList_own rfl _ _ 35 rfl w.heap.size g n cap 1 o [10] _ rfl rfl HOA.out HS.out (by omega) HBA.out.size ?_)
              | fail)
            intro g1 cap1 W1 hown1 hg1 hor1
            have HB1 := hid (HOA.out.grown HBA.out HBA.out.size hg1)
            have HO1 := hid hown1
            clear hown1 hg1 hor1
            go_wp2_with fail
            go_roundw
            case rel => exact ⟨k + 1, g1, n + 1, cap1, o ++ [10], by go_num, rfl, by omega, by omega, HO1, HQ, HB1⟩
            case measure => simp [intOf]; omega
        · have hj : (S.size : Int) ≤ (k : Int) + 1 := by omega
          have hhd : (l.drop (k + 1)).head? ≠ some 10 := by rw [List.drop_of_length_le (by have := HSZ.out; omega)]; simp
          have HQ : Hid (R = (o ++ [10]) ++ linE (l.drop (k + 1))) := by show _ = _; rw [HR.out, hdr, linE_cons, if_neg (by simp [hc]), if_neg hhd]; simp
          have HOA := hid (HO.out.alloc (.cells #[.int .u8 10] 5))
          have HBA := hid (alloc_below HB.out HB.out.size (.cells #[.int .u8 10] 5))
          have HS := hid (src_one wr 10 10 rfl)
          clear hdr hc hhd HR
          go_wp2_with (first
            | (refine wpList_own rfl _ _ 35 rfl w.heap.size g n cap 1 o [10] _ rfl rfl HOA.out HS.out (by omega) HBA.out.size ?_)
            | fail)
          intro g1 cap1 W1 hown1 hg1 hor1
          have HB1 := hid (HOA.out.grown HBA.out HBA.out.size hg1)
          have HO1 := hid hown1
          clear hown1 hg1 hor1
          go_wp2_with fail
          go_roundw
          case rel => exact ⟨k + 1, g1, n + 1, cap1, o ++ [10], by go_num, rfl, by omega, by omega, HO1, HQ, HB1⟩
          case measure => simp [intOf]; omega
      · have hc' : ¬ (c.toNat : Int) = 13 := fun e => hc (UInt8.toNat_inj.1 (by show c.toNat = 13; omega))
        have HQ : Hid (R = (o ++ [c]) ++ linE (l.drop (k + 1))) := by show _ = _; rw [HR.out, hdr, linE_cons, if_pos hc]; simp
        have HOA := hid (HO.out.alloc (.cells #[.int .u8 (c.toNat : Int)] 5))
        have HBA := hid (alloc_below HB.out HB.out.size (.cells #[.int .u8 (c.toNat : Int)] 5))
        have HS := hid (src_one wr c (c.toNat : Int) rfl)
        clear hdr hc HR
        go_wp2_with (first
          | (refine wpList_own rfl _ _ 35 rfl w.heap.size g n cap 1 o [c] _ rfl rfl HOA.out HS.out (by omega) HBA.out.size ?_)
          | fail)
        intro g1 cap1 W1 hown1 hg1 hor1
        have HB1 := hid (HOA.out.grown HBA.out HBA.out.size hg1)
        have HO1 := hid hown1
        clear hown1 hg1 hor1
        go_wp2_with fail
        go_roundw
        case rel => exact ⟨k + 1, g1, n + 1, cap1, o ++ [c], by go_num, rfl, by omega, by omega, HO1, HQ, HB1⟩
        case measure => simp [intOf]; omega
    · have hi : ¬ (k : Int) < (S.size : Int) := by omega
      have HQ : Hid (R = o) := by
        show _ = _
        rw [HR.out, List.drop_of_length_le (by have := HSZ.out; omega)]
        simp [linE]
      have hcv : (convert 35 9 (.slice (some ⟨g, 0, none⟩) n cap)).run Tryd.prog wr = .ok (.string (asS o)) wr := str_row HO.out.bytes HO.out.len
      go_wp2_with fail
      go_ret
      exact ⟨by rw [HQ.out]; rfl, HB.out⟩
/-- The first k bytes with blanks. -/
def blTo (m : List UInt8) (k : Nat) : List UInt8 := blankE (m.take k) ++ m.drop k
theorem blTo_len (m : List UInt8) (k : Nat) : (blTo m k).length = m.length := by
  unfold blTo
  rw [List.length_append, blank_len, List.length_take, List.length_drop]; omega
theorem blTo_zero (m : List UInt8) : blTo m 0 = m := by simp [blTo, blankE]
theorem blTo_all (m : List UInt8) (k : Nat) (h : m.length ≤ k) : blTo m k = blankE m := by
  unfold blTo
  rw [List.take_of_length_le h, List.drop_of_length_le h, List.append_nil]
theorem blTo_at (m : List UInt8) (k : Nat) (h : k < m.length) : (blTo m k).getD k 0 = m.getD k 0 := by
  have hl : (blankE (m.take k)).length = k := by rw [blank_len, List.length_take]; omega
  unfold blTo
  rw [List.getD_eq_getElem?_getD, List.getElem?_append_right (by omega), hl, Nat.sub_self, ← List.getD_eq_getElem?_getD, dropE_at m k h]
  rfl
theorem blTo_step (m : List UInt8) (k : Nat) (h : k < m.length) (x : UInt8) (hx : (if m.getD k 0 = 9 ∨ m.getD k 0 = 10 then 32 else m.getD k 0) = x) : blTo m (k + 1) = (blTo m k).set k x := by
  have hl : (blankE (m.take k)).length = k := by rw [blank_len, List.length_take]; omega
  unfold blTo
  rw [take_snoc m k h, show blankE (m.take k ++ [m.getD k 0]) = blankE (m.take k) ++ [x] from by unfold blankE; rw [List.map_append]; simp only [List.map_cons, List.map_nil]; rw [hx], dropE_at m k h, List.set_append_right _ _ (by omega), hl, Nat.sub_self]
  simp
theorem blTo_skip (m : List UInt8) (k : Nat) (h : k < m.length) (hx : ¬ (m.getD k 0 = 9 ∨ m.getD k 0 = 10)) : blTo m (k + 1) = blTo m k := by
  have hl : (blankE (m.take k)).length = k := by rw [blank_len, List.length_take]; omega
  unfold blTo
  rw [take_snoc m k h, show blankE (m.take k ++ [m.getD k 0]) = blankE (m.take k) ++ [m.getD k 0] from by unfold blankE; rw [List.map_append]; simp only [List.map_cons, List.map_nil]; rw [if_neg hx], dropE_at m k h]
  simp
set_option maxHeartbeats 4000000 in
set_option maxRecDepth 100000 in
theorem refValue_any (l : List UInt8) (hl : l.length ≤ 10000) (w : World) : Calls Tryd.prog 15 #[.string (asS l)] w fun e w' => e = .returned (.tuple #[.string (asS ((unA (blankE (linE l))).getD [])), .bool (unA (blankE (linE l))).isSome]) ∧ Below w.heap.size w w' := by
  have HL := hid (fun W => refLines_any l hl W)
  have hll := linE_len l
  generalize linE l = m at HL hll ⊢
  have HU := hid (fun W => refUn_any (blankE m) (by rw [blank_len]; omega) W)
  generalize (unA (blankE m)).isSome = E at HU ⊢
  generalize asS ((unA (blankE m)).getD []) = R at HU ⊢
  have HN := hid (fun W => rowB_new W (asS m))
  rw [asS_data] at HN
  have HSZ : Hid ((asS m).size = m.length) := asS_size m
  generalize asS l = S at HL ⊢
  generalize asS m = M at HL HN HSZ
  have hM : M.size ≤ 10000 := by rw [HSZ.out]; omega
  clear hll
  go_enter Tryd.func15, Tryd.ntmps15
  go_wp2_with fail
  refine (HL.out _).mono ?_
  rintro e W1 ⟨rfl, hb1⟩
  obtain ⟨cap, W2, hconv, hrow, hb2⟩ := HN.out W1
  have HB := hid hb1
  have HB1 := hid (hb1.trans (hb2.mono hb1.size))
  have HR0 : Hid (RowB W1.heap.size (blTo m 0) W2) := by rw [blTo_zero]; exact hrow
  have hB : w.heap.size ≤ W1.heap.size := hb1.size
  clear hb1 hb2 hrow
  go_wp2_with fail
  go_loopw [5] (fun i wr => ∃ k : Nat, k ≤ M.size ∧ i = .int .i64 (k : Int) ∧ Hid (RowB W1.heap.size (blTo m k) wr) ∧ Hid (Below w.heap.size w wr)) (fun i _ => M.size - (intOf i).toNat)
  case atStart => exact ⟨0, Nat.zero_le _, rfl, HR0, HB1⟩
  case round =>
    obtain ⟨k, hk, rfl, HR2, HB2⟩ := hrel
    by_cases hlt : k < M.size
    · have hkl : Hid (k < m.length) := by show _ < _; have := HSZ.out; omega
      have hi : (k : Int) < (M.size : Int) := by omega
      obtain ⟨c, hc⟩ : ∃ c : UInt8, Hid (c = m.getD k 0) := ⟨_, rfl⟩
      have hcell : wr.cell? ⟨W1.heap.size, k, none⟩ = some (.int .u8 c.toNat) := by
        rw [HR2.out.1 k (by rw [blTo_len]; exact hkl.out), blTo_at _ _ hkl.out, hc.out]
      have hfz : wr.frozen? ⟨W1.heap.size, k, none⟩ = false := HR2.out.2 k (by rw [blTo_len]; exact hkl.out)
      by_cases h9 : c = 9
      · have h9' : (c.toNat : Int) = 9 := by rw [h9]; rfl
        have HS := hid (blTo_step m k hkl.out 32 (by rw [← hc.out, if_pos (.inl h9)]))
        clear h9
        go_wp2_with fail
        go_roundw
        case rel =>
          refine ⟨k + 1, by omega, by go_num, ?_, HB2.out.setCell hB _⟩
          show RowB _ _ _
          rw [HS.out]
          exact rowB_set HR2.out k (by rw [blTo_len]; exact hkl.out) 32
        case measure => simp [intOf]; omega
      · have h9' : ¬ (c.toNat : Int) = 9 := fun e => h9 (UInt8.toNat_inj.1 (by show c.toNat = 9; omega))
        by_cases h10 : c = 10
        · have h10' : (c.toNat : Int) = 10 := by rw [h10]; rfl
          have HS := hid (blTo_step m k hkl.out 32 (by rw [← hc.out, if_pos (.inr h10)]))
          clear h9 h10
          go_wp2_with fail
          go_roundw
          case rel =>
            refine ⟨k + 1, by omega, by go_num, ?_, HB2.out.setCell hB _⟩
            show RowB _ _ _
            rw [HS.out]
            exact rowB_set HR2.out k (by rw [blTo_len]; exact hkl.out) 32
          case measure => simp [intOf]; omega
        · have h10' : ((c.toNat : Int) == 10) = false := by rw [beq_eq_false_iff_ne]; exact fun e => h10 (UInt8.toNat_inj.1 (by show c.toNat = 10; omega))
          have HS := hid (blTo_skip m k hkl.out (by rw [← hc.out]; exact fun h => h.elim h9 h10))
          clear h9 h10
          go_wp2_with fail
          go_roundw
          case rel => exact ⟨k + 1, by omega, by go_num, by rw [HS.out]; exact HR2, HB2⟩
          case measure => simp [intOf]; omega
    · have hi : ¬ (k : Int) < (M.size : Int) := by omega
      have hback : (convert 35 9 (.slice (some ⟨W1.heap.size, 0, none⟩) M.size cap)).run Tryd.prog wr = .ok (.string (asS (blankE m))) wr := by
        have h2 := HR2.out
        rw [blTo_all m k (by have := HSZ.out; omega)] at h2
        exact str_row (fun h0 => ⟨W1.heap.size, 0, rfl, block_lt_of_cell (h2.1 0 h0), fun j hj => by rw [Nat.zero_add]; exact h2.1 j hj⟩) (by rw [blank_len]; exact HSZ.out.symm)
      go_wp2_with (first | (go_at_call 13; refine (HU.out _).mono ?_; rintro e W3 ⟨rfl, hb3⟩; have HB3 := hid (HB2.out.trans (hb3.mono HB2.out.size)); clear hb3) | fail)
      go_ret2
      exact ⟨rfl, HB3.out⟩
end Go.Proofs.YtkeghpghhmajiaaDoor
