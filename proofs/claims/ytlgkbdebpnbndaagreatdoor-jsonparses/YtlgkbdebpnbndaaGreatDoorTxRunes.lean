
/- What the reference's Runes, Xml and Check do at every text that is not too long. -/
import Derived.Test.YtlgkbdebpnbndaaGreatDoorTxRune
namespace Go.Proofs.YtlgkbdebpnbndaaGreatDoor
set_option linter.unusedVariables false
set_option linter.unusedSimpArgs false
open Go.RowKit

theorem below_of_grown {w0 w w' : World} {B base : Nat} {e : TypeId} {k n : Nat} {v : Value} {xs : List Value} (hb : Below B w0 w) (hown : w.ownsRow base e k v n xs) (hB : B ≤ base) (hs : B ≤ w.heap.size) (hg : w.grownBy w' v.ownBlock) : Below B w0 w' := by
  refine hb.grown hg hs fun j hj => ?_
  rcases hown.2 with ⟨rfl, _⟩ | ⟨g, cap, cur, rfl, hg', _⟩
  · simp [Value.ownBlock] at hj
  · simp [Value.ownBlock] at hj; omega
theorem rune_no (s : ByteArray) (p : Nat) (w : World) (hp : p < s.size) (hs : s.size ≤ 1000000) (h : badAt s p = true) :
    Calls Tryz.prog 95 #[.string s, .int .i64 p] w fun e w' => e = .returned (.tuple #[.int .i64 0, .int .i64 0]) ∧ w' = w := by
  have := rune_any s p w hp hs
  rw [refR_of_bad h] at this; exact this
theorem rune_ok (s : ByteArray) (p : Nat) (w : World) (hp : p < s.size) (hs : s.size ≤ 1000000) (h : badAt s p = false) :
    Calls Tryz.prog 95 #[.string s, .int .i64 p] w fun e w' => e = .returned (.tuple #[.int .i64 ((Utf8.decode s p).1 : Nat), .int .i64 ((Utf8.decode s p).2 : Nat)]) ∧ w' = w := by
  have := rune_any s p w hp hs
  rw [refR_of_ok h] at this; exact this

theorem info3 : (Tryz.prog.info? 3).map (fun i => (i.zero, i.size, i.bytes)) = some (some (.int .i64 0), 1, 8) := by kernel_rfl
def nums (l : List Nat) : List Value := l.map fun r => .int .i64 (r : Nat)

set_option maxHeartbeats 2000000 in
set_option maxRecDepth 1000000 in
theorem runes_any (s : ByteArray) (w : World) (hs : s.size ≤ 1000000) :
    Calls Tryz.prog 67 #[.string s] w fun e w' => (vld s = false ∧ e = .returned (.tuple #[.slice none 0 0, .bool false]) ∧ Below w.heap.size w w') ∨ (vld s = true ∧ ∃ v, e = .returned (.tuple #[v, .bool true]) ∧ w'.ownsRow w.heap.size 3 1 v (runesOf s).length (nums (runesOf s)) ∧ Below w.heap.size w w') := by
  obtain ⟨i0, hi, hz0, hz1, hz2⟩ := info_parts info3
  go_enter Tryz.func67, Tryz.ntmps67
  go_wp2
  go_loopw [4, 5] (fun v i wr => ∃ (pos b : Nat) (acc : List Nat), i = .int .i64 pos ∧ wr.ownsRow w.heap.size 3 1 v acc.length (nums acc) ∧ Below w.heap.size w wr ∧ Hid (vldFrom s b pos = vld s) ∧ Hid (acc ++ runesFrom s b pos = runesOf s) ∧ s.size ≤ pos + b ∧ acc.length ≤ pos ∧ pos ≤ s.size) (fun _ i _ => s.size - (intOf i).toNat)
  case atStart => exact ⟨0, s.size, [], rfl, ⟨rfl, Or.inr ⟨w.heap.size, 0, #[], rfl, Nat.le_refl _, heap_alloc_new w _, Nat.le_refl _, Nat.zero_le _, rfl, rfl⟩⟩, (Below.refl _ _).alloc (Nat.le_refl _) _, rfl, rfl, by omega, Nat.le_refl _, Nat.zero_le _⟩
  case round =>
    obtain ⟨pos, b, acc, rfl, hown, hbl, hv, hr, hb, ha, hps⟩ := hrel
    by_cases hp : pos < s.size
    · obtain ⟨b, rfl⟩ : ∃ b', b = b' + 1 := ⟨b - 1, by omega⟩
      have hwd := Lib.decode_width_pos s pos hp
      have hft := decode_fits s pos hp
      have hle := decode_le s pos
      have hsz := hbl.size
      have HO := Lib.hid hown; have HB := Lib.hid hbl
      clear hown hbl
      cases hbd : badAt s pos with
      | true =>
        have HV : Hid (vld s = false) := by show _ = _; rw [← hv.out, vldFrom_bad s b pos hp hbd]
        have HD := Lib.hid hbd
        clear hbd
        go_wp2_with (go_at_call 95; refine (rune_no s pos _ hp hs HD.out).mono ?_; rintro e w' ⟨rfl, rfl⟩)
        go_ret2
        exact Or.inl ⟨HV.out, rfl, HB.out⟩
      | false =>
        have HV : Hid (vldFrom s b (pos + (Utf8.decode s pos).2) = vld s) := by show _ = _; rw [← hv.out, vldFrom_step s b pos hp hbd]
        have HR : Hid ((acc ++ [(Utf8.decode s pos).1]) ++ runesFrom s b (pos + (Utf8.decode s pos).2) = runesOf s) := by
          show _ = _; rw [← hr.out, runesFrom_step s b pos hp, List.append_assoc]; rfl
        have HD := Lib.hid hbd
        have hne : (((Utf8.decode s pos).2 : Int) == 0) = false := by rw [beq_eq_false_iff_ne]; omega
        clear hbd hv hr
        go_wp2_with (first
          | (go_at_call 95; refine (rune_ok s pos _ hp hs HD.out).mono ?_; rintro e wr ⟨rfl, rfl⟩)
          | (at_builtin; refine wpList_append_own _ rfl _ _ 93 rfl w.heap.size 3 i0 (.int .i64 0) 1 8 Tryz.underlying93 hi hz0 hz1 hz2 rfl (by decide) _ _ _ rfl (HO.out.alloc _) ⟨wr.heap.size, 0, none⟩ 1 1 [.int .i64 ((Utf8.decode s pos).1 : Nat)] rfl rfl (cell_one_new _ _ _) ?c2 ?c3 ?c4 ?c5 ?_))
        case c2 => intro u hu; simp at hu; subst hu; rfl
        case c3 => unfold maxLen; omega
        case c4 => omega
        case c5 => simp; omega
        intro v' w3 hown' hgrow _
        have hb3 : Hid (Below w.heap.size w w3) := below_of_grown (HB.out.alloc (by omega) _) (HO.out.alloc _) (Nat.le_refl _) (by simp; omega) hgrow
        have ho3 : Hid (w3.ownsRow w.heap.size 3 1 v' (acc ++ [(Utf8.decode s pos).1]).length (nums (acc ++ [(Utf8.decode s pos).1]))) := by
          show World.ownsRow _ _ _ _ _ _ _
          simpa [nums] using hown'
        clear hown' hgrow HO HB
        go_wp2
        go_roundw
        case rel =>
          refine ⟨pos + (Utf8.decode s pos).2, b, acc ++ [(Utf8.decode s pos).1], by go_num, ho3.out, hb3.out, HV, HR, by omega, ?_, by omega⟩
          rw [List.length_append]; simp; omega
        case measure => simp [intOf]; omega
    · have HO := Lib.hid hown; have HB := Lib.hid hbl
      clear hown hbl
      go_wp2
      go_ret2
      have hv2 := hv.out
      rw [vldFrom_end s b pos hp] at hv2
      have hr2 := hr.out
      rw [runesFrom_end s b pos hp, List.append_nil] at hr2
      refine Or.inr ⟨hv2.symm, _, rfl, ?_, HB.out⟩
      rw [← hr2]; exact HO.out
theorem drop_all (l : List Nat) (k : Nat) (h : k < l.length) : (l.drop k).all xmlN = (xmlN l[k] && (l.drop (k + 1)).all xmlN) := by
  rw [List.drop_eq_getElem_cons h, List.all_cons]

theorem runesOf_le (s : ByteArray) (hs : s.size ≤ 1000000) : (runesOf s).length ≤ 1000000 := by
  rw [runesOf_length]; have := Lib.runeCount_le s; omega

theorem runes_no (s : ByteArray) (w : World) (hs : s.size ≤ 1000000) (h : vld s = false) :
    Calls Tryz.prog 67 #[.string s] w fun e w' => e = .returned (.tuple #[.slice none 0 0, .bool false]) ∧ Below w.heap.size w w' := by
  refine (runes_any s w hs).mono ?_
  rintro e w' (⟨_, he, hb⟩ | ⟨hv, _⟩)
  · exact ⟨he, hb⟩
  · rw [h] at hv; simp at hv
theorem runes_ok (s : ByteArray) (w : World) (hs : s.size ≤ 1000000) (h : vld s = true) :
    Calls Tryz.prog 67 #[.string s] w fun e w' => ∃ v, e = .returned (.tuple #[v, .bool true]) ∧ w'.ownsRow w.heap.size 3 1 v (runesOf s).length (nums (runesOf s)) ∧ Below w.heap.size w w' := by
  refine (runes_any s w hs).mono ?_
  rintro e w' (⟨hv, _⟩ | ⟨_, hx⟩)
  · rw [h] at hv; simp at hv
  · exact hx

end Go.Proofs.YtlgkbdebpnbndaaGreatDoor
