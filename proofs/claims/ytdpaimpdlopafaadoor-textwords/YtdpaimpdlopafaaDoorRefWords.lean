/- What the reference's Words, Squeeze and Texts do, call by call, at every text that is not too long. -/
import Derived.Test.YtdpaimpdlopafaaDoorTrim
import Derived.Test.YtdpaimpdlopafaaDoorSplit
namespace Go.Proofs.YtdpaimpdlopafaaDoor
open Go.RowKit

def strs (l : List (List UInt8)) : List Value := l.map fun x => .string (asS x)
theorem asS_data (x : ByteArray) : asS x.data.toList = x := by simp [asS]
theorem strs_snoc (l : List (List UInt8)) (x : ByteArray) (cur : List UInt8) (h : x.data.toList = cur) : strs (l ++ [cur]) = strs l ++ [.string x] := by
  rw [← h]; simp [strs, asS_data]
theorem split_white (l cur : List UInt8) (k : Nat) (h : k < l.length) (hw : whB (l.getD k 0) = true) : splitW (l.drop k) cur = addL cur ++ splitW (l.drop (k + 1)) [] := by
  have e : l.getD k 0 = l[k] := by rw [List.getD_eq_getElem?_getD, List.getElem?_eq_getElem h]; rfl
  rw [e] at hw
  rw [List.drop_eq_getElem_cons h, splitW, if_pos hw]
theorem split_plain (l cur : List UInt8) (k : Nat) (h : k < l.length) (hw : whB (l.getD k 0) = false) : splitW (l.drop k) cur = splitW (l.drop (k + 1)) (cur ++ [l.getD k 0]) := by
  have e : l.getD k 0 = l[k] := by rw [List.getD_eq_getElem?_getD, List.getElem?_eq_getElem h]; rfl
  rw [e] at hw ⊢
  rw [List.drop_eq_getElem_cons h, splitW, if_neg (by rw [hw]; simp)]
theorem split_end (l cur : List UInt8) (k : Nat) (h : ¬ k < l.length) : splitW (l.drop k) cur = addL cur := by
  rw [List.drop_eq_nil_of_le (by omega), splitW]

theorem white8_is (c : UInt8) (b : Bool) (w : World) (h : whB c = b) : Calls Tryd.prog 19 #[.int .u8 c.toNat] w fun e w' => e = .returned (.bool b) ∧ w' = w := by
  have := white8 c w
  rw [h] at this; exact this
theorem word_more (wv s : ByteArray) (k : Nat) (h : k < s.size) : (wv ++ s.extract k (k + 1)).data.toList = wv.data.toList ++ [s.data.toList.getD k 0] := by
  have hl : k < s.data.toList.length := by rw [← Lib.size_eq]; exact h
  rw [ByteArray.data_append, Array.toList_append, cut_list, show k + 1 - k = 1 by omega, List.drop_eq_getElem_cons hl, List.getD_eq_getElem?_getD, List.getElem?_eq_getElem hl]
  rfl
theorem word_size (wv s : ByteArray) (k : Nat) (h : k < s.size) : (wv ++ s.extract k (k + 1)).size = wv.size + 1 := by
  rw [Lib.size_eq, word_more wv s k h, Lib.size_eq wv]; simp

set_option maxHeartbeats 2000000 in
set_option maxRecDepth 1000000 in
theorem refWords_any (s : ByteArray) (w : World) (hs : s.size ≤ 1000000) :
    Calls Tryd.prog 9 #[.string s] w fun e w' => ∃ v, e = .returned v ∧ w'.ownsRow w.heap.size 9 1 v (wds s).length (strs (wds s)) ∧ Below w.heap.size w w' := by
  obtain ⟨i0, hi, hz0, hz1, hz2⟩ := info_parts info9
  go_enter Tryd.func9, Tryd.ntmps9
  go_wp2
  go_loopw [3, 4, 5] (fun v t i wr => ∃ (k : Nat) (wv : ByteArray) (acc : List (List UInt8)), k ≤ s.size ∧ i = .int .i64 k ∧ t = .string wv ∧ wr.ownsRow w.heap.size 9 1 v acc.length (strs acc) ∧ Below w.heap.size w wr ∧ Hid (acc ++ splitW (s.data.toList.drop k) wv.data.toList = wds s) ∧ acc.length ≤ k ∧ wv.size ≤ k) (fun _ _ i _ => s.size - (intOf i).toNat)
  case atStart => exact ⟨0, ⟨#[]⟩, [], Nat.zero_le _, rfl, rfl, ⟨rfl, Or.inr ⟨w.heap.size, 0, #[], rfl, Nat.le_refl _, heap_alloc_new w _, Nat.le_refl _, Nat.zero_le _, rfl, rfl⟩⟩, (Below.refl _ _).alloc (Nat.le_refl _) _, rfl, Nat.le_refl _, Nat.le_refl _⟩
  case round =>
    obtain ⟨k, wv, acc, hk, rfl, rfl, hown, hbl, hc, ha, hwv⟩ := hrel
    have hsz := hbl.size
    have HO := Lib.hid hown; have HB := Lib.hid hbl
    clear hown hbl
    by_cases hp : k < s.size
    · have HG := Lib.hid (byte_at s k hp)
      have hpl : Hid (k < s.data.toList.length) := by show _ < _; rw [← Lib.size_eq]; exact hp
      cases hq : whB s[k] with
      | false =>
        have HW : Hid (acc ++ splitW (s.data.toList.drop (k + 1)) (wv.data.toList ++ [s.data.toList.getD k 0]) = wds s) := by
          show _ = _
          rw [← hc.out, split_plain _ _ k hpl.out (by rw [HG.out]; exact hq)]
        have HM := Lib.hid (word_more wv s k hp)
        have HZ := Lib.hid (word_size wv s k hp)
        have HQ := Lib.hid hq
        clear hq
        go_wp2_with (go_at_call 19; refine (white8_is _ false _ HQ.out).mono ?_; rintro e wr ⟨rfl, rfl⟩)
        go_roundw
        case rel =>
          refine ⟨k + 1, wv ++ s.extract k (k + 1), acc, by omega, by go_num, rfl, HO.out, HB.out, ?_, by omega, by rw [HZ.out]; omega⟩
          show _ = _
          rw [HM.out]; exact HW.out
        case measure => simp [intOf]; omega
      | true =>
        have HW : Hid (acc ++ addL wv.data.toList ++ splitW (s.data.toList.drop (k + 1)) [] = wds s) := by
          show _ = _
          rw [← hc.out, split_white _ _ k hpl.out (by rw [HG.out]; exact hq), List.append_assoc]
        have HQ := Lib.hid hq
        clear hq
        cases he : wv.toList.isEmpty with
        | true =>
          have HE : Hid (wv.data.toList = []) := by show _ = _; rw [← Lib.toList_data]; exact List.isEmpty_iff.1 he
          go_wp2_with (go_at_call 19; refine (white8_is _ true _ HQ.out).mono ?_; rintro e wr ⟨rfl, rfl⟩)
          go_roundw
          case rel =>
            refine ⟨k + 1, ⟨#[]⟩, acc, by omega, by go_num, rfl, HO.out, HB.out, ?_, by omega, Nat.zero_le _⟩
            show _ = _
            have h := HW.out
            rw [HE.out, addL, if_pos rfl, List.append_nil] at h
            exact h
          case measure => simp [intOf]; omega
        | false =>
          have HE : Hid (wv.data.toList ≠ []) := by
            show _ ≠ _
            intro h0
            rw [Lib.toList_data, h0] at he
            simp at he
          go_wp2_with (first
            | (go_at_call 19; refine (white8_is _ true _ HQ.out).mono ?_; rintro e wr ⟨rfl, rfl⟩)
            | (at_builtin; refine wpList_append_own _ rfl _ _ 25 rfl w.heap.size 9 i0 (.string ByteArray.empty) 1 16 Tryd.underlying25 hi hz0 hz1 hz2 rfl (by decide) _ _ _ rfl (HO.out.alloc _) ⟨wr.heap.size, 0, none⟩ 1 1 [.string wv] rfl rfl (cell_one_new _ _ _) ?c2 ?c3 ?c4 ?c5 ?_))
          case c2 => intro u hu; simp at hu; subst hu; rfl
          case c3 => unfold maxLen; omega
          case c4 => omega
          case c5 => simp; omega
          intro v' w3 hown' hgrow _
          have hb3 : Hid (Below w.heap.size w w3) := below_of_grown (HB.out.alloc (by omega) _) (HO.out.alloc _) (Nat.le_refl _) (by simp; omega) hgrow
          have ho3 : Hid (w3.ownsRow w.heap.size 9 1 v' (acc ++ [wv.data.toList]).length (strs (acc ++ [wv.data.toList]))) := by
            show World.ownsRow _ _ _ _ _ _ _
            rw [strs_snoc acc wv _ rfl, List.length_append]; exact hown'
          clear hown' hgrow HO HB
          go_wp2
          go_roundw
          case rel =>
            refine ⟨k + 1, ⟨#[]⟩, acc ++ [wv.data.toList], by omega, by go_num, rfl, ho3.out, hb3.out, ?_, ?_, Nat.zero_le _⟩
            · show _ = _
              have h := HW.out
              rw [addL, if_neg HE.out] at h
              exact h
            · rw [List.length_append]; simp; omega
          case measure => simp [intOf]; omega
    · have HW : Hid (acc ++ addL wv.data.toList = wds s) := by
        show _ = _
        rw [← hc.out, split_end _ _ k (by rw [← Lib.size_eq]; exact hp)]
      cases he : wv.toList.isEmpty with
      | true =>
        have HE : Hid (wv.data.toList = []) := by show _ = _; rw [← Lib.toList_data]; exact List.isEmpty_iff.1 he
        go_wp2
        go_ret
        refine ⟨_, rfl, ?_, HB.out⟩
        have h := HW.out
        rw [HE.out, addL, if_pos rfl, List.append_nil] at h
        rw [← h]; exact HO.out
      | false =>
        have HE : Hid (wv.data.toList ≠ []) := by
          show _ ≠ _
          intro h0
          rw [Lib.toList_data, h0] at he
          simp at he
        go_wp2_with (at_builtin; refine wpList_append_own _ rfl _ _ 25 rfl w.heap.size 9 i0 (.string ByteArray.empty) 1 16 Tryd.underlying25 hi hz0 hz1 hz2 rfl (by decide) _ _ _ rfl (HO.out.alloc _) ⟨wr.heap.size, 0, none⟩ 1 1 [.string wv] rfl rfl (cell_one_new _ _ _) ?c2 ?c3 ?c4 ?c5 ?_)
        case c2 => intro u hu; simp at hu; subst hu; rfl
        case c3 => unfold maxLen; omega
        case c4 => omega
        case c5 => simp; omega
        intro v' w3 hown' hgrow _
        have hb3 : Hid (Below w.heap.size w w3) := below_of_grown (HB.out.alloc (by omega) _) (HO.out.alloc _) (Nat.le_refl _) (by simp; omega) hgrow
        have ho3 : Hid (w3.ownsRow w.heap.size 9 1 v' (acc ++ [wv.data.toList]).length (strs (acc ++ [wv.data.toList]))) := by
          show World.ownsRow _ _ _ _ _ _ _
          rw [strs_snoc acc wv _ rfl, List.length_append]; exact hown'
        clear hown' hgrow HO HB
        go_wp2
        go_ret
        refine ⟨_, rfl, ?_, hb3.out⟩
        have h := HW.out
        rw [addL, if_neg HE.out] at h
        rw [← h]; exact ho3.out

end Go.Proofs.YtdpaimpdlopafaaDoor
