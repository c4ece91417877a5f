
/- A text's parts between blanks: what cut of the reference does. -/
import Derived.Test.YtclonnpglikddaaGreatDoorHtBook
import Derived.Test.YtclonnpglikddaaGreatDoorHdAll
import Derived.Test.YtclonnpglikddaaGreatDoorHdOne
namespace Go.Proofs.YtclonnpglikddaaGreatDoor
set_option linter.unusedVariables false
set_option linter.unusedSimpArgs false
open Go.RowKit Go.BigFrame

structure CutI (l : List UInt8) (m f k : Nat) (O : List (List UInt8)) : Prop where
  fk : f ≤ k
  kn : k ≤ l.length
  om : O.length ≤ m
  free : (32 : UInt8) ∉ (l.drop f).take (k - f)
  all : cutM m l = O ++ cutM (m - O.length) (l.drop f)
theorem CutI.zero (l : List UInt8) (m : Nat) : CutI l m 0 0 [] := ⟨Nat.le_refl _, Nat.zero_le _, Nat.zero_le _, by simp, by simp⟩
theorem seg_split (l : List UInt8) (f k : Nat) (hf : f ≤ k) (hk : k < l.length) : l.drop f = (l.drop f).take (k - f) ++ l.getD k 0 :: l.drop (k + 1) := by
  conv => lhs; rw [← List.take_append_drop (k - f) (l.drop f)]
  rw [List.drop_drop, show f + (k - f) = k from by omega, drop8 l k hk]
theorem CutI.hit {l : List UInt8} {m f k : Nat} {O : List (List UInt8)} (h : CutI l m f k O) (hk : k < l.length) (ho : O.length < m) (h32 : l.getD k 0 = 32) : CutI l m (k + 1) (k + 1) (O ++ [(l.drop f).take (k - f)]) := by
  refine ⟨Nat.le_refl _, hk, by rw [List.length_append, List.length_singleton]; omega, by simp, ?_⟩
  have e := seg_split l f k h.fk hk
  rw [h32] at e
  have e2 : m - O.length = (m - (O.length + 1)) + 1 := by omega
  rw [h.all, List.length_append, List.length_singleton, List.append_assoc, e2]
  congr 1
  conv => lhs; rw [e]
  rw [cut_step _ _ _ h.free]
  rfl
theorem CutI.miss {l : List UInt8} {m f k : Nat} {O : List (List UInt8)} (h : CutI l m f k O) (hk : k < l.length) (h32 : l.getD k 0 ≠ 32) : CutI l m f (k + 1) O := by
  refine ⟨Nat.le_succ_of_le h.fk, hk, h.om, ?_, h.all⟩
  have hf := h.fk
  have e : (l.drop f).take (k + 1 - f) = (l.drop f).take (k - f) ++ [l.getD k 0] := by
    rw [show k + 1 - f = (k - f) + 1 from by omega, List.take_add_one, List.getElem?_drop, show f + (k - f) = k from by omega]
    rw [List.getElem?_eq_getElem hk, List.getD_eq_getElem?_getD, List.getElem?_eq_getElem hk]
    rfl
  rw [e, List.mem_append, List.mem_singleton]
  rintro (h1 | h1)
  · exact h.free h1
  · exact h32 h1.symm
theorem CutI.end {l : List UInt8} {m f k : Nat} {O : List (List UInt8)} (h : CutI l m f k O) (he : k = l.length ∨ O.length = m) : cutM m l = O ++ [l.drop f] := by
  rw [h.all]
  congr 1
  rcases he with rfl | he
  · refine cut_end _ _ ?_
    have := h.free
    rwa [List.take_of_length_le (by rw [List.length_drop]; exact Nat.le_refl _)] at this
  · rw [show m - O.length = 0 from by omega]
    rfl
set_option maxHeartbeats 2000000 in
set_option maxRecDepth 100000 in
theorem refCut_any (l : List UInt8) (m : Nat) (M : Int) (hM : M = (m : Int) + 1) (hm : m ≤ 100) (hl : l.length ≤ 1000000) (w : World) : Calls Tryz.prog 49 #[.string (asS l), .int .i64 M] w fun e w' => ∃ v, e = .returned v ∧ OwnS w' w.heap.size v (cutM m l) ∧ Below w.heap.size w w' := by
  have HIX := hid (fun k h W => str_ix (asS l) k h W)
  have HZ0 := hid (CutI.zero l m)
  have HL : Hid ((asS l).size = l.length) := asS_size l
  have HEX : Hid (∀ f k, (asS l).extract f k = asS ((l.drop f).take (k - f))) := fun f k => by rw [ext_asS, asS_data]
  have HEF : Hid (∀ f, (asS l).extract f (asS l).size = asS (l.drop f)) := fun f => ext8_from l f
  rw [asS_data] at HIX
  have hz : (asS l).size ≤ 1000000 := by rw [asS_size]; exact hl
  generalize asS l = S at HIX HL HEX HEF hz ⊢
  have hm1 : M - 1 = (m : Int) := by omega
  have hm2 : M ≤ 101 := by omega
  have hm3 : 1 ≤ M := by omega
  clear hM hl
  go_enter Tryz.func49, Tryz.ntmps49
  go_wp2_with fail
  have HB0 := hid (alloc_below (Below.refl w.heap.size w) (Nat.le_refl _) (.cells #[] 9))
  have HO0 : Hid (OwnS (w.alloc (.cells #[] 9)) w.heap.size (.slice (some ⟨w.heap.size, 0, none⟩) 0 0) []) := .inr ⟨_, 0, rfl, OwnK.zero w 1 9 w.heap.size (Nat.le_refl _)⟩
  go_loopw [5, 6, 7] (fun v fv i wr => ∃ f k : Nat, fv = .int .i64 (f : Int) ∧ i = .int .i64 (k : Int) ∧ ∃ O, Hid (CutI l m f k O) ∧ Hid (OwnS wr w.heap.size v O) ∧ Hid (Below w.heap.size w wr)) (fun v fv i wr => S.size - (intOf i).toNat)
  case atStart => exact ⟨0, 0, rfl, rfl, [], HZ0, HO0, HB0⟩
  case round =>
    obtain ⟨f, k, rfl, rfl, O, HI, HO, HB⟩ := hrel
    have hfk := HI.out.fk
    have hkn := HI.out.kn
    have hom := HI.out.om
    rw [← HL.out] at hkn
    have HEND : Hid (k = S.size ∨ O.length = m → cutM m l = O ++ [l.drop f]) := fun h => HI.out.end (by rw [← HL.out]; exact h)
    obtain ⟨AV, cv, hv⟩ := HO.out.shape
    subst hv
    have hf63 : (f : Int) ≤ (S.size : Int) := by omega
    have hf0 : (0 : Int) ≤ (f : Int) := by omega
    generalize hLL : O.length = L at hom HO HEND ⊢
    have HLL := hid hLL
    clear hLL
    by_cases hlt : k < S.size
    · have hi : (k : Int) < (S.size : Int) := by omega
      by_cases hL : L < m
      · have hi2 : (L : Int) < (m : Int) := by omega
        have hix := HIX.out k hlt
        by_cases h32 : l.getD k 0 = 32
        · have HN := hid (HI.out.hit (by rw [← HL.out]; exact hlt) (by rw [HLL.out]; exact hL) h32)
          rw [h32] at hix
          have hex := HEX.out f k
          generalize hseg : (l.drop f).take (k - f) = seg at hex HN
          have hfk2 : (f : Int) ≤ (k : Int) := by omega
          have hk2 : (k : Int) ≤ (S.size : Int) := by omega
          generalize hV : S.extract f k = V at hex
          have HV := hid hex
          have HVE := hid hV
          clear h32 HI HEND hseg
          have hV2 : S.extract f k = V := HVE.out
          have HO3 := hid (HO.out.below (alloc_below (Below.refl _ wr) (Nat.le_refl _) (.cells #[.string V] 9)))
          have HB4 := hid (alloc_below HB.out HB.out.size (.cells #[.string V] 9))
          have HSR := hid (src_st wr seg V HV.out 1)
          have HLE : Hid (O.length + [seg].length ≤ 1000000) := by show _ ≤ _; rw [HLL.out]; simp; omega
          clear hV hex
          go_wp2_with (first
            | (refine wpList_st rfl _ _ rfl w.heap.size _ _ O [seg] rfl rfl HO3.out HSR.out (by simp) HLE.out HB4.out.size ?_)
            | fail)
          intro v5 W5 hown5 hb5
          have HB5 := hid (HB4.out.trans hb5)
          have HO5 := hid hown5
          clear hown5 hb5
          go_wp2_with fail
          go_roundw
          case rel => exact ⟨k + 1, k + 1, by go_num, by go_num, O ++ [seg], HN, HO5, HB5⟩
          case measure => simp [intOf]; omega
        · have HN := hid (HI.out.miss (by rw [← HL.out]; exact hlt) h32)
          have hne : (((l.getD k 0).toNat : Int) == 32) = false := by
            show (((l.getD k 0).toNat : Int) == ((32 : Nat) : Int)) = false
            rw [u8_beq _ 32 (by decide)]; exact beq_eq_false_iff_ne.2 h32
          generalize ((l.getD k 0).toNat : Int) = y at hix hne
          clear h32 HI HEND
          go_wp2_with fail
          go_roundw
          case rel => exact ⟨f, k + 1, rfl, by go_num, O, HN, by rw [HLL.out] at *; exact HO, HB⟩
          case measure => simp [intOf]; omega
      · have hi2 : ¬ (L : Int) < (m : Int) := by omega
        have HQ := hid (HEND.out (.inr (by omega)))
        have hex := HEF.out f
        generalize hseg : l.drop f = seg at hex HQ
        generalize hV : S.extract f S.size = V at hex
        have HV := hid hex
        have hV2 : S.extract f S.size = V := hV
        have HO3 := hid (HO.out.below (alloc_below (Below.refl _ wr) (Nat.le_refl _) (.cells #[.string V] 9)))
        have HB4 := hid (alloc_below HB.out HB.out.size (.cells #[.string V] 9))
        have HSR := hid (src_st wr seg V HV.out 1)
        have HLE : Hid (O.length + [seg].length ≤ 1000000) := by show _ ≤ _; rw [HLL.out]; simp; omega
        clear hV hex hseg HI HEND
        go_wp2_with (first
          | (refine wpList_st rfl _ _ rfl w.heap.size _ _ O [seg] rfl rfl HO3.out HSR.out (by simp) HLE.out HB4.out.size ?_)
          | fail)
        intro v5 W5 hown5 hb5
        have HB5 := hid (HB4.out.trans hb5)
        have HO5 := hid hown5
        clear hown5 hb5
        go_wp2_with fail
        go_ret
        exact ⟨_, rfl, by rw [HQ.out]; exact HO5.out, HB5.out⟩
    · have hi : ¬ (k : Int) < (S.size : Int) := by omega
      have HQ := hid (HEND.out (.inl (by omega)))
      have hex := HEF.out f
      generalize hseg : l.drop f = seg at hex HQ
      generalize hV : S.extract f S.size = V at hex
      have HV := hid hex
      have hV2 : S.extract f S.size = V := hV
      have HO3 := hid (HO.out.below (alloc_below (Below.refl _ wr) (Nat.le_refl _) (.cells #[.string V] 9)))
      have HB4 := hid (alloc_below HB.out HB.out.size (.cells #[.string V] 9))
      have HSR := hid (src_st wr seg V HV.out 1)
      have HLE : Hid (O.length + [seg].length ≤ 1000000) := by show _ ≤ _; rw [HLL.out]; simp; omega
      clear hV hex hseg HI HEND
      go_wp2_with (first
        | (refine wpList_st rfl _ _ rfl w.heap.size _ _ O [seg] rfl rfl HO3.out HSR.out (by simp) HLE.out HB4.out.size ?_)
        | fail)
      intro v5 W5 hown5 hb5
      have HB5 := hid (HB4.out.trans hb5)
      have HO5 := hid hown5
      clear hown5 hb5
      go_wp2_with fail
      go_ret
      exact ⟨_, rfl, by rw [HQ.out]; exact HO5.out, HB5.out⟩
end Go.Proofs.YtclonnpglikddaaGreatDoor
