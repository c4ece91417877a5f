
/- Rows of headers: how they lie, how long they are put together; what the reference's Size does. -/
import Derived.Test.YtclonnpglikddaaGreatDoorHdSmall
namespace Go.Proofs.YtclonnpglikddaaGreatDoor
set_option linter.unusedVariables false
set_option linter.unusedSimpArgs false
open Go.RowKit Go.BigFrame

/-- The headers l lie behind A. -/
def HdsAt (w : World) (A : Option Addr) (l : List HdV) : Prop :=
  0 < l.length → ∃ q o, A = some ⟨q, o, none⟩ ∧ q < w.heap.size ∧ ∀ j, j < l.length → w.cell? ⟨q, o + j * 2, none⟩ = some (.string (asS (l.getD j zeroH).name)) ∧ w.cell? ⟨q, o + j * 2 + 1, none⟩ = some (.string (asS (l.getD j zeroH).value))
theorem HdsAt.below {w w' : World} {A : Option Addr} {l : List HdV} (h : HdsAt w A l) {B : Nat} (hb : Below B w w') (hB : w.heap.size ≤ B) : HdsAt w' A l := fun h0 => by
  obtain ⟨q, o, h1, h2, h3⟩ := h h0
  exact ⟨q, o, h1, Nat.lt_of_lt_of_le h2 hb.size, fun j hj => ⟨(hb.cell (p := ⟨q, o + j * 2, none⟩) (Nat.lt_of_lt_of_le h2 hB)).trans (h3 j hj).1, (hb.cell (p := ⟨q, o + j * 2 + 1, none⟩) (Nat.lt_of_lt_of_le h2 hB)).trans (h3 j hj).2⟩⟩
def hdl (h : HdV) : Nat := h.name.length + 2 + h.value.length + 2
theorem size_app : ∀ (a b : List HdV), sizeH (a ++ b) + 2 = sizeH a + sizeH b
  | [], b => by simp [sizeH]; omega
  | h :: r, b => by
    have := size_app r b
    simp only [List.cons_append, sizeH]
    omega
theorem size_snoc (a : List HdV) (h : HdV) : sizeH (a ++ [h]) = sizeH a + hdl h := by
  have := size_app a [h]
  simp only [sizeH, hdl] at this ⊢
  omega
theorem take_hd (l : List HdV) (k : Nat) (h : k < l.length) : l.take (k + 1) = l.take k ++ [l.getD k zeroH] := by
  rw [List.take_succ_eq_append_getElem h, List.getD_eq_getElem?_getD, List.getElem?_eq_getElem h]; rfl
theorem size_take (l : List HdV) (k : Nat) (h : k < l.length) : sizeH (l.take (k + 1)) = sizeH (l.take k) + hdl (l.getD k zeroH) := by
  rw [take_hd l k h, size_snoc]
theorem size_part (l : List HdV) (k : Nat) : sizeH (l.take k) ≤ sizeH l := by
  have := size_app (l.take k) (l.drop k)
  rw [List.take_append_drop] at this
  have h2 : 2 ≤ sizeH (l.drop k) := by rw [← print_size]; cases l.drop k <;> simp [printH]; omega
  omega
/-- What is asked of headers that came in: none is too long for the machine. -/
def FitH (l : List HdV) : Prop := ∀ k, k < l.length → (l.getD k zeroH).name.length ≤ 140737488355328 ∧ (l.getD k zeroH).value.length ≤ 140737488355328
theorem fit_size (l : List HdV) (h : FitH l) : ∀ k, k ≤ l.length → sizeH (l.take k) ≤ 2 + k * 281474976710660
  | 0, _ => by simp [sizeH]
  | k + 1, hk => by
    have ih := fit_size l h k (by omega)
    have := h k (by omega)
    rw [size_take l k (by omega)]
    unfold hdl
    omega
set_option maxHeartbeats 1000000 in
set_option maxRecDepth 100000 in
theorem refSize_any (l : List HdV) (A : Option Addr) (c : Nat) (hl : l.length ≤ 1000) (hf : FitH l) (w : World) (hA : HdsAt w A l) : Calls Tryz.prog 25 #[.slice A l.length c] w fun e w' => e = .returned (.int .i64 (sizeH l)) ∧ Below w.heap.size w w' := by
  have HA := hid hA
  have HST := hid (size_take l)
  have HFS := hid (fit_size l hf)
  have HF := hid hf
  have HALL : Hid (l.take l.length = l) := List.take_length
  clear hA hf
  generalize hn : l.length = n at hl HA HST HFS HF HALL ⊢
  have HN := hid hn
  clear hn
  go_enter Tryz.func25, Tryz.ntmps25
  go_wp2_with fail
  go_loopw [3, 4] (fun s i wr => ∃ k : Nat, k ≤ n ∧ i = .int .i64 (k : Int) ∧ s = .int .i64 (sizeH (l.take k) : Nat) ∧ Hid (Below w.heap.size w wr)) (fun s i wr => n - (intOf i).toNat)
  case atStart => exact ⟨0, Nat.zero_le _, rfl, rfl, Below.refl _ _⟩
  case round =>
    obtain ⟨k, hk, rfl, rfl, HB⟩ := hrel
    by_cases hlt : k < n
    · have hi : (k : Int) < (n : Int) := by omega
      obtain ⟨q, o, hq, hqs, hcs⟩ := HA.out (by have := HN.out; omega)
      subst hq
      have hc := hcs k (by have := HN.out; omega)
      have k1 := (HB.out.cell (p := ⟨q, o + k * 2, none⟩) hqs).trans hc.1
      have k2 := (HB.out.cell (p := ⟨q, o + k * 2 + 1, none⟩) hqs).trans hc.2
      clear hcs hc
      have hst := HST.out k (by have := HN.out; omega)
      have hfk := HF.out k (by have := HN.out; omega)
      have hfs := HFS.out k (by omega)
      unfold hdl at hst
      have e1 := asS_size (l.getD k zeroH).name
      have e2 := asS_size (l.getD k zeroH).value
      generalize asS (l.getD k zeroH).name = N at k1 e1
      generalize asS (l.getD k zeroH).value = V at k2 e2
      rw [← e1, ← e2] at hst
      rw [← e1, ← e2] at hfk
      clear e1 e2
      have HST2 := hid hst
      clear hst
      generalize sizeH (l.take k) = z at hfs HST2
      have b1 : N.size ≤ 140737488355328 := hfk.1
      have b2 : V.size ≤ 140737488355328 := hfk.2
      have b3 : z ≤ 281474976710660002 := by omega
      clear hfk hfs hqs
      go_wp2_with fail
      go_region
      all_goals go_wp2_with fail
      all_goals go_roundw
      case rel =>
        refine ⟨k + 1, by omega, by go_num, ?_, HB.out.drew⟩
        rw [HST2.out]
        exact congrArg (Value.int IntKind.i64) (by omega)
      case measure => simp [intOf]; omega
    · have hi : ¬ (k : Int) < (n : Int) := by omega
      have HK : Hid (sizeH (l.take k) = sizeH l) := by
        show _ = _
        rw [show k = n from by omega, HALL.out]
      rw [HK.out]
      go_wp2_with fail
      go_ret
      exact ⟨rfl, HB.out⟩
end Go.Proofs.YtclonnpglikddaaGreatDoor
