
/- What the reference's Runes, Xml and Check do at every text that is not too long. -/
import Derived.Test.YthjibliaofmlhaaGreatDoorTxRune
namespace Go.Proofs.YthjibliaofmlhaaGreatDoor
set_option linter.unusedVariables false
set_option linter.unusedSimpArgs false
open Go.RowKit

theorem below_of_grown {w0 w w' : World} {B base : Nat} {e : TypeId} {k n : Nat} {v : Value} {xs : List Value} (hb : Below B w0 w) (hown : w.ownsRow base e k v n xs) (hB : B ≤ base) (hs : B ≤ w.heap.size) (hg : w.grownBy w' v.ownBlock) : Below B w0 w' := by
  refine hb.grown hg hs fun j hj => ?_
  rcases hown.2 with ⟨rfl, _⟩ | ⟨g, cap, cur, rfl, hg', _⟩
  · simp [Value.ownBlock] at hj
  · simp [Value.ownBlock] at hj; omega
theorem rune_no (s : ByteArray) (p : Nat) (w : World) (hp : p < s.size) (hs : s.size ≤ 1000000) (h : badAt s p = true) :
    Calls Tryz.prog 90 #[.string s, .int .i64 p] w fun e w' => e = .returned (.tuple #[.int .i64 0, .int .i64 0]) ∧ w' = w := by
  have := rune_any s p w hp hs
  rw [refR_of_bad h] at this; exact this
theorem rune_ok (s : ByteArray) (p : Nat) (w : World) (hp : p < s.size) (hs : s.size ≤ 1000000) (h : badAt s p = false) :
    Calls Tryz.prog 90 #[.string s, .int .i64 p] w fun e w' => e = .returned (.tuple #[.int .i64 ((Utf8.decode s p).1 : Nat), .int .i64 ((Utf8.decode s p).2 : Nat)]) ∧ w' = w := by
  have := rune_any s p w hp hs
  rw [refR_of_ok h] at this; exact this

theorem info3 : (Tryz.prog.info? 3).map (fun i => (i.zero, i.size, i.bytes)) = some (some (.int .i64 0), 1, 8) := by kernel_rfl
def nums (l : List Nat) : List Value := l.map fun r => .int .i64 (r : Nat)

set_option maxHeartbeats 2000000 in
set_option maxRecDepth 1000000 in
theorem runes_any (s : ByteArray) (w : World) (hs : s.size ≤ 1000000) :
    Calls Tryz.prog 61 #[.string s] w fun e w' => (vld s = false ∧ e = .returned (.tuple #[.slice none 0 0, .bool false]) ∧ Below w.heap.size w w') ∨ (vld s = true ∧ ∃ v, e = .returned (.tuple #[v, .bool true]) ∧ w'.ownsRow w.heap.size 3 1 v (runesOf s).length (nums (runesOf s)) ∧ Below w.heap.size w w') := by
  obtain ⟨i0, hi, hz0, hz1, hz2⟩ := info_parts info3
  go_enter Tryz.func61, Tryz.ntmps61
  go_wp2
  go_loopw [4, 5] (fun v i wr => ∃ (pos b : Nat) (acc : List Nat), i = .int .i64 pos ∧ wr.ownsRow w.heap.size 3 1 v acc.length (nums acc) ∧ Below w.heap.size w wr ∧ Hid (vldFrom s b pos = vld s) ∧ Hid (acc ++ runesFrom s b pos = runesOf s) ∧ s.size ≤ pos + b ∧ acc.length ≤ pos ∧ pos ≤ s.size) (fun _ i _ => s.size - (intOf i).toNat)
  case atStart => exact ⟨0, s.size, [], rfl, ⟨rfl, Or.inr ⟨w.heap.size, 0, #[], rfl, Nat.le_refl _, heap_alloc_new w _, Nat.le_refl _, Nat.zero_le _, rfl, rfl⟩⟩, (Below.refl _ _).alloc (Nat.le_refl _) _, rfl, rfl, by omega, Nat.le_refl _, Nat.zero_le _⟩
  case round =>
    obtain ⟨pos, b, acc, rfl, hown, hbl, hv, hr, hb, ha, hps⟩ := hrel
    by_cases hp : pos < s.size
    · obtain ⟨b, rfl⟩ : ∃ b', b = b' + 1 := ⟨b - 1, by omega⟩
      have hwd := Lib.decode_width_pos s pos hp
      have hft := decode_fits s pos hp
      have hle := decode_le s pos
      have hsz := hbl.size
      have HO := Lib.hid hown; have HB := Lib.hid hbl
      clear hown hbl
      cases hbd : badAt s pos with
      | true =>
        have HV : Hid (vld s = false) := by show _ = _; rw [← hv.out, vldFrom_bad s b pos hp hbd]
        have HD := Lib.hid hbd
        clear hbd
        go_wp2_with (go_at_call 90; refine (rune_no s pos _ hp hs HD.out).mono ?_; rintro e w' ⟨rfl, rfl⟩)
        go_ret2
        exact Or.inl ⟨HV.out, rfl, HB.out⟩
      | false =>
        have HV : Hid (vldFrom s b (pos + (Utf8.decode s pos).2) = vld s) := by show _ = _; rw [← hv.out, vldFrom_step s b pos hp hbd]
        have HR : Hid ((acc ++ [(Utf8.decode s pos).1]) ++ runesFrom s b (pos + (Utf8.decode s pos).2) = runesOf s) := by
          show _ = _; rw [← hr.out, runesFrom_step s b pos hp, List.append_assoc]; rfl
        have HD := Lib.hid hbd
        have hne : (((Utf8.decode s pos).2 : Int) == 0) = false := by rw [beq_eq_false_iff_ne]; omega
        clear hbd hv hr
        go_wp2_with (first
          | (go_at_call 90; refine (rune_ok s pos _ hp hs HD.out).mono ?_; rintro e wr ⟨rfl, rfl⟩)
          | (at_builtin; refine wpList_append_own _ rfl _ _ 89 rfl w.heap.size 3 i0 (.int .i64 0) 1 8 Tryz.underlying89 hi hz0 hz1 hz2 rfl (by decide) _ _ _ rfl (HO.out.alloc _) ⟨wr.heap.size, 0, none⟩ 1 1 [.int .i64 ((Utf8.decode s pos).1 : Nat)] rfl rfl (cell_one_new _ _ _) ?c2 ?c3 ?c4 ?c5 ?_))
        case c2 => intro u hu; simp at hu; subst hu; rfl
        case c3 => unfold maxLen; omega
        case c4 => omega
        case c5 => simp; omega
        intro v' w3 hown' hgrow _
        have hb3 : Hid (Below w.heap.size w w3) := below_of_grown (HB.out.alloc (by omega) _) (HO.out.alloc _) (Nat.le_refl _) (by simp; omega) hgrow
        have ho3 : Hid (w3.ownsRow w.heap.size 3 1 v' (acc ++ [(Utf8.decode s pos).1]).length (nums (acc ++ [(Utf8.decode s pos).1]))) := by
          show World.ownsRow _ _ _ _ _ _ _
          simpa [nums] using hown'
        clear hown' hgrow HO HB
        go_wp2
        go_roundw
        case rel =>
          refine ⟨pos + (Utf8.decode s pos).2, b, acc ++ [(Utf8.decode s pos).1], by go_num, ho3.out, hb3.out, HV, HR, by omega, ?_, by omega⟩
          rw [List.length_append]; simp; omega
        case measure => simp [intOf]; omega
    · have HO := Lib.hid hown; have HB := Lib.hid hbl
      clear hown hbl
      go_wp2
      go_ret2
      have hv2 := hv.out
      rw [vldFrom_end s b pos hp] at hv2
      have hr2 := hr.out
      rw [runesFrom_end s b pos hp, List.append_nil] at hr2
      refine Or.inr ⟨hv2.symm, _, rfl, ?_, HB.out⟩
      rw [← hr2]; exact HO.out
theorem drop_all (l : List Nat) (k : Nat) (h : k < l.length) : (l.drop k).all xmlN = (xmlN l[k] && (l.drop (k + 1)).all xmlN) := by
  rw [List.drop_eq_getElem_cons h, List.all_cons]

set_option maxHeartbeats 1000000 in
set_option maxRecDepth 1000000 in
theorem refXml_some (g cap : Nat) (l : List Nat) (w : World) (hn : l.length ≤ 1000000) (hc : ∀ (j : Nat) (hj : j < l.length), w.cell? ⟨g, j, none⟩ = some (.int .i64 (l[j] : Nat))) :
    Calls Tryz.prog 62 #[.slice (some ⟨g, 0, none⟩) l.length cap] w fun e w' => e = .returned (.bool (l.all xmlN)) ∧ w' = w := by
  have HC := Lib.hid hc
  clear hc
  go_enter Tryz.func62, Tryz.ntmps62
  go_wp2
  go_loop [3] (fun i => ∃ k : Nat, k ≤ l.length ∧ i = .int .i64 k ∧ Hid ((l.drop k).all xmlN = l.all xmlN)) (fun i => l.length - (intOf i).toNat)
  case atStart => exact ⟨0, Nat.zero_le _, rfl, rfl⟩
  case round =>
    obtain ⟨k, hk, rfl, ha⟩ := hrel
    by_cases hlt : k < l.length
    · have hcell := HC.out k hlt
      have HS := Lib.hid (drop_all l k hlt)
      generalize l[k] = c at hcell HS
      have hsplit : (c = 9) ∨ (c = 10) ∨ (c = 13) ∨ (32 ≤ c ∧ c ≤ 55295) ∨ (57344 ≤ c ∧ c ≤ 65533) ∨ (65536 ≤ c) ∨ (c < 32 ∧ c ≠ 9 ∧ c ≠ 10 ∧ c ≠ 13) ∨ (55295 < c ∧ c < 57344) ∨ (65533 < c ∧ c < 65536) := by omega
      rcases hsplit with hq | hq | hq | hq | hq | hq | hq | hq | hq
      · have HX := Lib.hid (xmlN_yes (r := c) (by omega))
        have e9 : ((c : Int) == 9) = true := by rw [beq_iff_eq]; omega
        clear hq
        go_wp2
        go_round
        case rel => exact ⟨k + 1, by omega, by go_num, by show _ = _; rw [← ha.out, HS.out, HX.out, Bool.true_and]⟩
        case measure => simp [intOf]; omega
      · have HX := Lib.hid (xmlN_yes (r := c) (by omega))
        have e9 : ((c : Int) == 9) = false := by rw [beq_eq_false_iff_ne]; omega
        have e10 : ((c : Int) == 10) = true := by rw [beq_iff_eq]; omega
        clear hq
        go_wp2
        go_round
        case rel => exact ⟨k + 1, by omega, by go_num, by show _ = _; rw [← ha.out, HS.out, HX.out, Bool.true_and]⟩
        case measure => simp [intOf]; omega
      · have HX := Lib.hid (xmlN_yes (r := c) (by omega))
        have e9 : ((c : Int) == 9) = false := by rw [beq_eq_false_iff_ne]; omega
        have e10 : ((c : Int) == 10) = false := by rw [beq_eq_false_iff_ne]; omega
        have e13 : ((c : Int) == 13) = true := by rw [beq_iff_eq]; omega
        clear hq
        go_wp2
        go_round
        case rel => exact ⟨k + 1, by omega, by go_num, by show _ = _; rw [← ha.out, HS.out, HX.out, Bool.true_and]⟩
        case measure => simp [intOf]; omega
      · have HX := Lib.hid (xmlN_yes (r := c) (by omega))
        have e9 : ((c : Int) == 9) = false := by rw [beq_eq_false_iff_ne]; omega
        have e10 : ((c : Int) == 10) = false := by rw [beq_eq_false_iff_ne]; omega
        have e13 : ((c : Int) == 13) = false := by rw [beq_eq_false_iff_ne]; omega
        have q1 : (32 ≤ (c : Int)) := by omega
        have q2 : ((c : Int) ≤ 55295) := by omega
        clear hq
        go_wp2
        go_round
        case rel => exact ⟨k + 1, by omega, by go_num, by show _ = _; rw [← ha.out, HS.out, HX.out, Bool.true_and]⟩
        case measure => simp [intOf]; omega
      · have HX := Lib.hid (xmlN_yes (r := c) (by omega))
        have e9 : ((c : Int) == 9) = false := by rw [beq_eq_false_iff_ne]; omega
        have e10 : ((c : Int) == 10) = false := by rw [beq_eq_false_iff_ne]; omega
        have e13 : ((c : Int) == 13) = false := by rw [beq_eq_false_iff_ne]; omega
        have q1 : (32 ≤ (c : Int)) := by omega
        have q2 : ¬ ((c : Int) ≤ 55295) := by omega
        have q3 : (57344 ≤ (c : Int)) := by omega
        have q4 : ((c : Int) ≤ 65533) := by omega
        clear hq
        go_wp2
        go_round
        case rel => exact ⟨k + 1, by omega, by go_num, by show _ = _; rw [← ha.out, HS.out, HX.out, Bool.true_and]⟩
        case measure => simp [intOf]; omega
      · have HX := Lib.hid (xmlN_yes (r := c) (by omega))
        have e9 : ((c : Int) == 9) = false := by rw [beq_eq_false_iff_ne]; omega
        have e10 : ((c : Int) == 10) = false := by rw [beq_eq_false_iff_ne]; omega
        have e13 : ((c : Int) == 13) = false := by rw [beq_eq_false_iff_ne]; omega
        have q1 : (32 ≤ (c : Int)) := by omega
        have q2 : ¬ ((c : Int) ≤ 55295) := by omega
        have q3 : (57344 ≤ (c : Int)) := by omega
        have q4 : ¬ ((c : Int) ≤ 65533) := by omega
        have q5 : (65536 ≤ (c : Int)) := by omega
        clear hq
        go_wp2
        go_round
        case rel => exact ⟨k + 1, by omega, by go_num, by show _ = _; rw [← ha.out, HS.out, HX.out, Bool.true_and]⟩
        case measure => simp [intOf]; omega
      · have HX := Lib.hid (xmlN_no (r := c) (by omega))
        have e9 : ((c : Int) == 9) = false := by rw [beq_eq_false_iff_ne]; omega
        have e10 : ((c : Int) == 10) = false := by rw [beq_eq_false_iff_ne]; omega
        have e13 : ((c : Int) == 13) = false := by rw [beq_eq_false_iff_ne]; omega
        have q1 : ¬ (32 ≤ (c : Int)) := by omega
        have q3 : ¬ (57344 ≤ (c : Int)) := by omega
        have q5 : ¬ (65536 ≤ (c : Int)) := by omega
        clear hq
        go_wp2
        go_ret
        refine ⟨ret_bool (a := false) ?_, rfl⟩
        rw [← ha.out, HS.out, HX.out, Bool.false_and]
      · have HX := Lib.hid (xmlN_no (r := c) (by omega))
        have e9 : ((c : Int) == 9) = false := by rw [beq_eq_false_iff_ne]; omega
        have e10 : ((c : Int) == 10) = false := by rw [beq_eq_false_iff_ne]; omega
        have e13 : ((c : Int) == 13) = false := by rw [beq_eq_false_iff_ne]; omega
        have q1 : (32 ≤ (c : Int)) := by omega
        have q2 : ¬ ((c : Int) ≤ 55295) := by omega
        have q3 : ¬ (57344 ≤ (c : Int)) := by omega
        have q5 : ¬ (65536 ≤ (c : Int)) := by omega
        clear hq
        go_wp2
        go_ret
        refine ⟨ret_bool (a := false) ?_, rfl⟩
        rw [← ha.out, HS.out, HX.out, Bool.false_and]
      · have HX := Lib.hid (xmlN_no (r := c) (by omega))
        have e9 : ((c : Int) == 9) = false := by rw [beq_eq_false_iff_ne]; omega
        have e10 : ((c : Int) == 10) = false := by rw [beq_eq_false_iff_ne]; omega
        have e13 : ((c : Int) == 13) = false := by rw [beq_eq_false_iff_ne]; omega
        have q1 : (32 ≤ (c : Int)) := by omega
        have q2 : ¬ ((c : Int) ≤ 55295) := by omega
        have q3 : (57344 ≤ (c : Int)) := by omega
        have q4 : ¬ ((c : Int) ≤ 65533) := by omega
        have q5 : ¬ (65536 ≤ (c : Int)) := by omega
        clear hq
        go_wp2
        go_ret
        refine ⟨ret_bool (a := false) ?_, rfl⟩
        rw [← ha.out, HS.out, HX.out, Bool.false_and]
    · go_wp2
      go_ret
      refine ⟨ret_bool (a := true) ?_, rfl⟩
      rw [← ha.out, List.drop_of_length_le (by omega)]; rfl
set_option maxHeartbeats 1000000 in
set_option maxRecDepth 1000000 in
theorem refXml_nil (w : World) : Calls Tryz.prog 62 #[.slice none 0 0] w fun e w' => e = .returned (.bool true) ∧ w' = w := by
  go_enter Tryz.func62, Tryz.ntmps62
  go_wp2
  refine wp_loop_rounds 1 ?_
  rw [rounds_succ]
  go_wp2
  go_ret
  exact ⟨rfl, rfl⟩

theorem refXml_any (base : Nat) (v : Value) (l : List Nat) (w : World) (hn : l.length ≤ 1000000) (hown : w.ownsRow base 3 1 v l.length (nums l)) :
    Calls Tryz.prog 62 #[v] w fun e w' => e = .returned (.bool (l.all xmlN)) ∧ w' = w := by
  rcases hown.2 with ⟨rfl, h0⟩ | ⟨g, cap, cur, rfl, _⟩
  · rw [List.length_eq_zero_iff.1 h0]
    exact refXml_nil w
  · refine refXml_some g cap l w hn fun j hj => ?_
    rw [hown.cellAt j (by omega)]
    unfold nums
    rw [List.getElem?_map, List.getElem?_eq_getElem hj]; rfl

theorem runesOf_le (s : ByteArray) (hs : s.size ≤ 1000000) : (runesOf s).length ≤ 1000000 := by
  rw [runesOf_length]; have := Lib.runeCount_le s; omega

theorem runes_no (s : ByteArray) (w : World) (hs : s.size ≤ 1000000) (h : vld s = false) :
    Calls Tryz.prog 61 #[.string s] w fun e w' => e = .returned (.tuple #[.slice none 0 0, .bool false]) ∧ Below w.heap.size w w' := by
  refine (runes_any s w hs).mono ?_
  rintro e w' (⟨_, he, hb⟩ | ⟨hv, _⟩)
  · exact ⟨he, hb⟩
  · rw [h] at hv; simp at hv
theorem runes_ok (s : ByteArray) (w : World) (hs : s.size ≤ 1000000) (h : vld s = true) :
    Calls Tryz.prog 61 #[.string s] w fun e w' => ∃ v, e = .returned (.tuple #[v, .bool true]) ∧ w'.ownsRow w.heap.size 3 1 v (runesOf s).length (nums (runesOf s)) ∧ Below w.heap.size w w' := by
  refine (runes_any s w hs).mono ?_
  rintro e w' (⟨hv, _⟩ | ⟨_, hx⟩)
  · rw [h] at hv; simp at hv
  · exact hx

set_option maxHeartbeats 1000000 in
set_option maxRecDepth 1000000 in
theorem refCheck_ok (s : ByteArray) (w : World) (hs : s.size ≤ 1000000) (h : Hid (vld s = true)) :
    Calls Tryz.prog 37 #[.string s] w fun e w' => e = .returned (.int .i64 (xmlE (xmlB s))) ∧ Below w.heap.size w w' := by
  have hle := runesOf_le s hs
  have HX := fun (v : Value) (W : World) => refXml_any w.heap.size v (runesOf s) W hle
  have HE : Hid (xmlB s = (runesOf s).all xmlN) := rfl
  have HX2 := Lib.hid HX
  have HR := Lib.hid (fun W => runes_ok s W hs h.out)
  clear HX hle
  generalize (runesOf s).all xmlN = b at HX2 HE
  cases b with
  | true =>
    go_enter Tryz.func37, Tryz.ntmps37
    go_wp2_with (first
      | (go_at_call 61; refine (HR.out _).mono ?_; rintro e w1 ⟨v, rfl, ho, hb1⟩)
      | (go_at_call 62; refine (HX2.out _ _ ho).mono ?_; rintro e w2 ⟨rfl, rfl⟩))
    go_ret
    exact ⟨by rw [HE.out]; rfl, hb1⟩
  | false =>
    go_enter Tryz.func37, Tryz.ntmps37
    go_wp2_with (first
      | (go_at_call 61; refine (HR.out _).mono ?_; rintro e w1 ⟨v, rfl, ho, hb1⟩)
      | (go_at_call 62; refine (HX2.out _ _ ho).mono ?_; rintro e w2 ⟨rfl, rfl⟩))
    go_ret
    exact ⟨by rw [HE.out]; rfl, hb1⟩
set_option maxHeartbeats 1000000 in
set_option maxRecDepth 1000000 in
theorem refCheck_no (s : ByteArray) (w : World) (hs : s.size ≤ 1000000) (h : Hid (vld s = false)) :
    Calls Tryz.prog 37 #[.string s] w fun e w' => e = .returned (.int .i64 5) ∧ Below w.heap.size w w' := by
  have HR := Lib.hid (fun W => runes_no s W hs h.out)
  go_enter Tryz.func37, Tryz.ntmps37
  go_wp2_with (go_at_call 61; refine (HR.out _).mono ?_; rintro e w1 ⟨rfl, hb1⟩)
  go_ret
  exact ⟨rfl, hb1⟩
end Go.Proofs.YthjibliaofmlhaaGreatDoor
