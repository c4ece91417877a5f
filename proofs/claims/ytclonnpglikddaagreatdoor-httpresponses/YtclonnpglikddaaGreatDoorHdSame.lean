
/- Whether headers are alike, and light: what the reference's Same and the statements' light do. -/
import Derived.Test.YtclonnpglikddaaGreatDoorHdChk
namespace Go.Proofs.YtclonnpglikddaaGreatDoor
set_option linter.unusedVariables false
set_option linter.unusedSimpArgs false
open Go.RowKit Go.BigFrame

theorem asS_inj (x y : List UInt8) : asS x = asS y ↔ x = y := by
  constructor
  · intro h
    have := congrArg (fun s => s.data.toList) h
    exact this
  · rintro rfl; rfl
def eqH (a b : HdV) : Bool := decide (a.name = b.name) && decide (a.value = b.value)
theorem eqH_iff (a b : HdV) : eqH a b = true ↔ a = b := by
  unfold eqH
  rw [Bool.and_eq_true, decide_eq_true_iff, decide_eq_true_iff]
  constructor
  · rintro ⟨h1, h2⟩
    cases a; cases b
    simp only at h1 h2
    rw [h1, h2]
  · rintro rfl; exact ⟨rfl, rfl⟩
def fldH (n : String) (o bo : Nat) : Field := { name := n, type := 9, offset := o, embedded := false, tag := "", pkgPath := "", byteOffset := bo }
theorem fieldsH : (Tryz.prog.fieldsOf 69).toList = [fldH "Name" 0 0, fldH "Value" 1 16] := by kernel_rfl
theorem eqF9 (d : Nat) (cs ds : Array Value) (f : Field) (rest : List Field) (hf : f.name ≠ "_") (ht : f.type = 9) (x y : List UInt8) (hx : cs[f.offset]? = some (.string (asS x))) (hy : ds[f.offset]? = some (.string (asS y))) (w : World) (r : Bool)
    (hr : (Op.eqFields (d + 1) cs ds rest).run Tryz.prog w = .ok r w) : (Op.eqFields (d + 1) cs ds (f :: rest)).run Tryz.prog w = .ok (decide (x = y) && r) w := by
  have h1 : (part 9 cs f.offset).run Tryz.prog w = .ok (.string (asS x)) w := by simp [part, Tryz.isAgg9, hx]
  have h2 : (part 9 ds f.offset).run Tryz.prog w = .ok (.string (asS y)) w := by simp [part, Tryz.isAgg9, hy]
  have h3 := run_equalIn_string (P := Tryz.prog) w d 9 (asS x) (asS y) Tryz.underlying9
  rw [tl_two] at h3
  simp only [Op.eqFields, Sem.run_bind, Sem.run_ite, if_pos hf, ht, h1, h2, h3, Result.andThen_ok, Sem.run_pure]
  cases decide (x = y) with
  | true => simp [hr]
  | false => simp
theorem eqFn9 (d : Nat) (cs ds : Array Value) (w : World) : (Op.eqFields (d + 1) cs ds []).run Tryz.prog w = .ok true w := by simp [Op.eqFields]
theorem eqHd (a b : HdV) (w : World) : (Op.equalIn 10000 69 (.agg (hcs a)) (.agg (hcs b))).run Tryz.prog w = .ok (eqH a b) w := by
  have hs : Tryz.prog.underlying 69 = some (.struct (Tryz.prog.fieldsOf 69)) := by kernel_rfl
  rw [show (10000 : Nat) = 9998 + 1 + 1 from rfl, run_equalIn_struct w (9998 + 1) 69 _ _ hs (by kernel_rfl), fieldsH]
  unfold eqH
  refine eqF9 9998 _ _ _ _ (by decide) rfl a.name b.name rfl rfl w _ ?_
  have := eqF9 9998 (hcs a) (hcs b) (fldH "Value" 1 16) [] (by decide) rfl a.value b.value rfl rfl w true (eqFn9 9998 _ _ w)
  rw [Bool.and_true] at this
  exact this
theorem guardH : Tryz.prog.eqGuardType Tryz.prog.depth 69 = false := by kernel_rfl
def sameH : List HdV → List HdV → Bool
  | [], [] => true
  | a :: r, b :: s => eqH a b && sameH r s
  | _, _ => false
theorem same_refl : ∀ l : List HdV, sameH l l = true
  | [] => rfl
  | a :: r => by rw [sameH, same_refl r, (eqH_iff a a).2 rfl]; rfl
theorem same_len : ∀ (a b : List HdV), a.length ≠ b.length → sameH a b = false
  | [], [], h => absurd rfl h
  | [], _ :: _, _ => rfl
  | _ :: _, [], _ => rfl
  | x :: r, y :: s, h => by rw [sameH, same_len r s (by simpa using h), Bool.and_false]
theorem same_at : ∀ (a b : List HdV), a.length = b.length → (∀ k, k < a.length → eqH (a.getD k zeroH) (b.getD k zeroH) = true) → sameH a b = true
  | [], [], _, _ => rfl
  | [], _ :: _, h, _ => by simp at h
  | _ :: _, [], h, _ => by simp at h
  | x :: r, y :: s, h, he => by
    have h0 : eqH x y = true := he 0 (by simp)
    rw [sameH, h0, same_at r s (by simpa using h) (fun k hk => he (k + 1) (by simpa using hk))]
    rfl
theorem same_not : ∀ (a b : List HdV) (k : Nat), k < a.length → k < b.length → eqH (a.getD k zeroH) (b.getD k zeroH) = false → sameH a b = false
  | [], _, k, h, _, _ => by simp at h
  | _ :: _, [], k, _, h, _ => by simp at h
  | x :: r, y :: s, 0, _, _, he => by
    have h0 : eqH x y = false := he
    rw [sameH, h0]; rfl
  | x :: r, y :: s, k + 1, h1, h2, he => by
    rw [sameH, same_not r s k (by simpa using h1) (by simpa using h2) he, Bool.and_false]
theorem step_eqs (a b : List HdV) (k : Nat) (h : ∀ j, j < k → eqH (a.getD j zeroH) (b.getD j zeroH) = true) (hk : eqH (a.getD k zeroH) (b.getD k zeroH) = true) : ∀ j, j < k + 1 → eqH (a.getD j zeroH) (b.getD j zeroH) = true := fun j hj => by
  rcases Nat.lt_succ_iff_lt_or_eq.1 hj with h1 | rfl
  · exact h j h1
  · exact hk
set_option maxHeartbeats 1000000 in
set_option maxRecDepth 100000 in
theorem same_any (a b : List HdV) (A B : Option Addr) (c d : Nat) (hl : a.length ≤ 1000000) (w : World) (hA : HdsAt w A a) (hB : HdsAt w B b) : Calls Tryz.prog 41 #[.slice A a.length c, .slice B b.length d] w fun e w' => e = .returned (.bool (sameH a b)) ∧ Below w.heap.size w w' := by
  have HA := hid hA
  have HB := hid hB
  have HLEN := hid (same_len a b)
  have HAT := hid (same_at a b)
  have HNOT := hid (same_not a b)
  clear hA hB
  generalize hR : sameH a b = R at HLEN HAT HNOT ⊢
  clear hR
  generalize hn : a.length = n at hl HLEN HAT HNOT ⊢
  generalize hm : b.length = m at HLEN HAT HNOT ⊢
  have HN := hid hn
  have HM := hid hm
  clear hn hm
  by_cases hnm : n = m
  · subst hnm
    go_enter Tryz.func41, Tryz.ntmps41
    go_wp2_with fail
    go_loopw [5] (fun i wr => ∃ k : Nat, k ≤ n ∧ i = .int .i64 (k : Int) ∧ Hid (∀ j, j < k → eqH (a.getD j zeroH) (b.getD j zeroH) = true) ∧ Hid (Below w.heap.size w wr)) (fun i wr => n - (intOf i).toNat)
    case atStart => exact ⟨0, Nat.zero_le _, rfl, fun j hj => by omega, Below.refl _ _⟩
    case round =>
      obtain ⟨k, hk, rfl, HP, HW⟩ := hrel
      by_cases hlt : k < n
      · have hi : (k : Int) < (n : Int) := by omega
        obtain ⟨q, o, hq, hqs, hcs⟩ := HA.out (by have := HN.out; omega)
        obtain ⟨q', o', hq', hqs', hcs'⟩ := HB.out (by have := HM.out; omega)
        have hc := hcs k (by have := HN.out; omega)
        have hc' := hcs' k (by have := HM.out; omega)
        have k1 := (HW.out.cell (p := ⟨q, o + k * 2, none⟩) hqs).trans hc.1
        have k2 := (HW.out.cell (p := ⟨q, o + k * 2 + 1, none⟩) hqs).trans hc.2
        have k3 := (HW.out.cell (p := ⟨q', o' + k * 2, none⟩) hqs').trans hc'.1
        have k4 := (HW.out.cell (p := ⟨q', o' + k * 2 + 1, none⟩) hqs').trans hc'.2
        clear hcs hc hqs hcs' hc' hqs'
        subst hq hq'
        have heq := eqHd (a.getD k zeroH) (b.getD k zeroH)
        have HNOT2 := hid (HNOT.out k hlt hlt)
        have HP2 := hid (step_eqs a b k HP.out)
        have hgd := guardH
        unfold hcs at heq
        generalize asS (a.getD k zeroH).name = N at k1 heq
        generalize asS (a.getD k zeroH).value = V at k2 heq
        generalize asS (b.getD k zeroH).name = N' at k3 heq
        generalize asS (b.getD k zeroH).value = V' at k4 heq
        generalize eqH (a.getD k zeroH) (b.getD k zeroH) = z at heq HNOT2 HP2
        cases z
        · go_wp2_with fail
          go_region
          all_goals go_wp2_with fail
          go_ret
          exact ⟨by rw [HNOT2.out (by trivial)]; rfl, HW.out.drew⟩
        · go_wp2_with fail
          go_region
          all_goals go_wp2_with fail
          go_roundw
          case rel => exact ⟨k + 1, by omega, by go_num, HP2.out (by trivial), HW.out.drew⟩
          case measure => simp [intOf]; omega
      · have hi : ¬ (k : Int) < (n : Int) := by omega
        have HR := hid (HAT.out (by trivial) (fun j hj => HP.out j (by omega)))
        go_wp2_with fail
        go_ret
        exact ⟨by rw [HR.out]; rfl, HW.out⟩
  · have HR := hid (HLEN.out hnm)
    have h1 : ((n : Int) == (m : Int)) = false := by rw [beq_eq_false_iff_ne]; omega
    have h2 : ((n : Int) != (m : Int)) = true := by rw [bne, h1]; rfl
    clear hnm
    go_enter Tryz.func41, Tryz.ntmps41
    go_wp2_with fail
    go_ret
    exact ⟨by rw [HR.out]; rfl, Below.refl _ _⟩
end Go.Proofs.YtclonnpglikddaaGreatDoor
