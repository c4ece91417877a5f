
/- What the reference's cut does. -/
import Derived.Test.YtlblefcmilfjdaaGreatDoorIpAwake
namespace Go.Proofs.YtlblefcmilfjdaaGreatDoor
open Go.RowKit

theorem ext_asS (s : ByteArray) (a b : Nat) : s.extract a b = asS ((s.data.toList.drop a).take (b - a)) := by
  apply ByteArray.ext
  apply Array.ext'
  rw [cut_list]
  rfl
theorem cutTo_sep (b : UInt8) (l : List UInt8) (f k : Nat) (hf : f ≤ k) (hk : k < l.length) (h : b ∉ (l.drop f).take (k - f)) (hb : l.getD k 0 = b) : cutL b (l.drop f) = (l.drop f).take (k - f) :: cutL b (l.drop (k + 1)) := by
  have e : l.drop f = (l.drop f).take (k - f) ++ b :: l.drop (k + 1) := by
    conv => lhs; rw [← List.take_append_drop (k - f) (l.drop f)]
    rw [List.drop_drop, show f + (k - f) = k from by omega, List.drop_eq_getElem_cons hk]
    rw [List.getD_eq_getElem?_getD, List.getElem?_eq_getElem hk] at hb
    rw [show l[k] = b from hb]
  rw [e, cut_app b _ _ h, ← e]
theorem cutTo_end (b : UInt8) (l : List UInt8) (f : Nat) (h : b ∉ (l.drop f).take (l.length - f)) : cutL b (l.drop f) = [(l.drop f).take (l.length - f)] := by
  have e : (l.drop f).take (l.length - f) = l.drop f := List.take_of_length_le (by simp)
  rw [e] at h ⊢
  exact cut_none b _ h
theorem cutTo_more (b : UInt8) (l : List UInt8) (f k : Nat) (hf : f ≤ k) (hk : k < l.length) (h : b ∉ (l.drop f).take (k - f)) (hb : l.getD k 0 ≠ b) : b ∉ (l.drop f).take (k + 1 - f) := by
  rw [show k + 1 - f = (k - f) + 1 from by omega, List.take_add_one, List.getElem?_drop, show f + (k - f) = k from by omega, List.getElem?_eq_getElem hk]
  rw [List.getD_eq_getElem?_getD, List.getElem?_eq_getElem hk] at hb
  simp only [Option.toList_some, List.mem_append, List.mem_singleton, not_or]
  exact ⟨h, fun e => hb e.symm⟩

set_option maxHeartbeats 2000000 in
theorem refCut_any (s : ByteArray) (b : UInt8) (hs : s.size ≤ 1000000) (w : World) : Calls Tryz.prog 113 #[.string s, .int .u8 b.toNat] w fun e w' => ∃ g c, e = .returned (.slice (some ⟨g, 0, none⟩) (cutL b s.data.toList).length c) ∧ OwnV w' 9 w.heap.size g (cutL b s.data.toList).length c (strs (cutL b s.data.toList)) ∧ Below w.heap.size w w' := by
  have HZ : Hid (s.data.toList.length = s.size) := (Lib.size_eq s).symm
  obtain ⟨l, hl⟩ : ∃ l, l = s.data.toList := ⟨_, rfl⟩
  have HL := hid hl
  rw [← hl] at HZ ⊢
  clear hl
  go_enter Tryz.func113, Tryz.ntmps113
  go_wp2_with fail
  go_loopw [5, 6, 7] (fun ov fv iv wx => ∃ (k f g c : Nat) (D : List (List UInt8)), k ≤ s.size + 1 ∧ f ≤ k ∧ iv = .int .i64 (k : Int) ∧ fv = .int .i64 (f : Int) ∧ ov = .slice (some ⟨g, 0, none⟩) D.length c ∧ D.length ≤ k ∧ Hid (OwnV wx 9 w.heap.size g D.length c (strs D)) ∧ Hid (Below w.heap.size w wx) ∧ Hid (k ≤ s.size → D ++ cutL b (l.drop f) = cutL b l ∧ b ∉ (l.drop f).take (k - f)) ∧ Hid (k = s.size + 1 → D = cutL b l)) (fun _ _ i _ => s.size + 1 - (intOf i).toNat)
  case atStart => exact ⟨0, 0, w.heap.size, 0, [], by omega, by omega, rfl, rfl, rfl, by simp, OwnV.zero w 9 _ (Nat.le_refl _), alloc_below (Below.refl _ w) (Nat.le_refl _) _, fun _ => ⟨rfl, by simp⟩, fun h => by omega⟩
  case round =>
    obtain ⟨k, f, g, c, D, hk, hf, rfl, rfl, rfl, hDk, HO, HB, H1, H2⟩ := hrel
    have hsz := HB.out.size
    by_cases hp : (k : Int) ≤ (s.size : Int)
    · obtain ⟨q1, q2⟩ := H1.out (by omega)
      have Q1 := hid q1; have Q2 := hid q2
      clear q1 q2
      by_cases he : (k : Int) = (s.size : Int)
      · have HC : Hid (cutL b l = D ++ [(l.drop f).take (k - f)]) := by
          show _ = _
          rw [← Q1.out]
          have hkl : k = l.length := by rw [HZ.out]; omega
          have h2 := Q2.out
          rw [hkl] at h2 ⊢
          rw [cutTo_end b l f h2]
        have HX := hid (ext_asS s f k)
        rw [← HL.out] at HX
        generalize (l.drop f).take (k - f) = x at HC HX
        have hE : s.extract f k = asS x := HX.out
        have heb : ((k : Int) == (s.size : Int)) = true := by rw [beq_iff_eq]; exact he
        have HEQ : Hid (k = s.size) := by show _ = _; omega
        clear he
        go_wp2_with (first
          | (refine wpList_ownV cellS rfl _ _ rfl w.heap.size g D.length c 1 (strs D) (strs [x]) _ rfl rfl (HO.out.alloc _) (src_new wr x _) (by omega) ?h3 ?_)
          | fail)
        case h3 => simp; omega
        intro g' c' W2 hown hgr hg'
        have HO2 : Hid (OwnV W2 9 w.heap.size g' (D ++ [x]).length c' (strs (D ++ [x]))) := by
          rw [strs_app, List.length_append]; exact hown
        have HB2 : Hid (Below w.heap.size w W2) := (HO.out.alloc _).grown (alloc_below HB.out hsz _) (by simp; omega) hgr
        clear hown hgr hg'
        go_wp2_with fail
        go_roundw
        case rel => exact ⟨k + 1, k + 1, g', c', D ++ [x], by omega, by omega, by go_num, by go_num, by simp, by simp; omega, HO2, HB2, fun h => by have := HEQ.out; omega, fun _ => HC.out.symm⟩
        case measure => simp [intOf]; omega
      · have hks : k < s.size := by omega
        have HY := hid (byte_at s k hks)
        rw [← HL.out] at HY
        have heb : ((k : Int) == (s.size : Int)) = false := by rw [beq_eq_false_iff_ne]; exact he
        by_cases hb : ((s[k].toNat : Nat) : Int) = (b.toNat : Int)
        · have hbe : l.getD k 0 = b := by rw [HY.out]; exact UInt8.toNat_inj.1 (by omega)
          have HS := hid (cutTo_sep b l f k hf (by rw [HZ.out]; exact hks) Q2.out hbe)
          have HX := hid (ext_asS s f k)
          rw [← HL.out] at HX
          generalize (l.drop f).take (k - f) = x at HS HX
          have hE : s.extract f k = asS x := HX.out
          have hbb : ((s[k].toNat : Int) == (b.toNat : Int)) = true := by rw [beq_iff_eq]; exact hb
          clear he hbe hb
          go_wp2_with (first
            | (refine wpList_ownV cellS rfl _ _ rfl w.heap.size g D.length c 1 (strs D) (strs [x]) _ rfl rfl (HO.out.alloc _) (src_new wr x _) (by omega) ?h3 ?_)
            | fail)
          case h3 => simp; omega
          intro g' c' W2 hown hgr hg'
          have HO2 : Hid (OwnV W2 9 w.heap.size g' (D ++ [x]).length c' (strs (D ++ [x]))) := by
            rw [strs_app, List.length_append]; exact hown
          have HB2 : Hid (Below w.heap.size w W2) := (HO.out.alloc _).grown (alloc_below HB.out hsz _) (by simp; omega) hgr
          clear hown hgr hg'
          go_wp2_with fail
          go_roundw
          case rel =>
            refine ⟨k + 1, k + 1, g', c', D ++ [x], by omega, by omega, by go_num, by go_num, by simp, by simp; omega, HO2, HB2, fun h => ⟨?_, by simp⟩, fun h => by omega⟩
            rw [← Q1.out, HS.out, List.append_assoc]; rfl
          case measure => simp [intOf]; omega
        · have hbe : l.getD k 0 ≠ b := by rw [HY.out]; intro e; exact hb (by rw [e])
          have HS := hid (cutTo_more b l f k hf (by rw [HZ.out]; exact hks) Q2.out hbe)
          have hbb : ((s[k].toNat : Int) == (b.toNat : Int)) = false := by rw [beq_eq_false_iff_ne]; exact hb
          clear he hbe hb
          go_wp2_with fail
          go_roundw
          case rel => exact ⟨k + 1, f, g, c, D, by omega, by omega, by go_num, rfl, rfl, by omega, HO, HB, fun h => ⟨Q1.out, HS.out⟩, fun h => by omega⟩
          case measure => simp [intOf]; omega
    · have HD : Hid (D = cutL b l) := H2.out (by omega)
      go_wp2_with fail
      go_ret
      exact ⟨g, c, by rw [← HD.out]; rfl, by rw [← HD.out]; exact HO.out, HB.out⟩
end Go.Proofs.YtlblefcmilfjdaaGreatDoor
