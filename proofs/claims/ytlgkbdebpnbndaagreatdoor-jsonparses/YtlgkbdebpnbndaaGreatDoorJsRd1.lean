
/- The reference's reader, its small steps: what wrong, now, past, white, digits and word do. -/
import Derived.Test.YtlgkbdebpnbndaaGreatDoorJsMath
import Derived.Test.YtlgkbdebpnbndaaGreatDoorTxBase
import Derived.Test.YtlgkbdebpnbndaaGreatDoorXmMem
import Derived.Test.YtlgkbdebpnbndaaGreatDoorJsRnB
import Derived.BigQuiet
import Derived.Lib.QuietBelow
namespace Go.Proofs.YtlgkbdebpnbndaaGreatDoor
set_option linter.unusedVariables false
set_option linter.unusedSimpArgs false
open Go.RowKit Go.BigFrame

/-- The reference's reader: the text, where one is, how many values there were, and what was wrong. -/
def Rq (w : World) (R : Nat) (s : List UInt8) (p m e : Nat) : Prop := w.heap[R]? = some (.cells #[.string (asS s), .int .i64 p, .int .i64 m, .int .i64 e] 68 (0, 0))
theorem Rq.cells {w : World} {R : Nat} {s : List UInt8} {p m e : Nat} (h : Rq w R s p m e) : w.cell? ⟨R, 0, none⟩ = some (.string (asS s)) ∧ w.cell? ⟨R, 1, none⟩ = some (.int .i64 p) ∧ w.cell? ⟨R, 2, none⟩ = some (.int .i64 m) ∧ w.cell? ⟨R, 3, none⟩ = some (.int .i64 e) := ⟨cell_of_row _ _ _ _ _ _ h, cell_of_row _ _ _ _ _ _ h, cell_of_row _ _ _ _ _ _ h, cell_of_row _ _ _ _ _ _ h⟩
theorem Rq.below {w w' : World} {R : Nat} {s : List UInt8} {p m e : Nat} (h : Rq w R s p m e) (hb : Below w.heap.size w w') : Rq w' R s p m e := row_keep hb h
theorem Rq.lt {w : World} {R : Nat} {s : List UInt8} {p m e : Nat} (h : Rq w R s p m e) : R < w.heap.size := (Array.getElem?_eq_some_iff.1 h).1
def rqAt (R : Nat) (w : World) : Nat := match w.cell? ⟨R, 1, none⟩ with
  | some (.int _ v) => v.toNat
  | _ => 0
theorem rqAt_eq {w : World} {R : Nat} {s : List UInt8} {p m e : Nat} (h : Rq w R s p m e) : rqAt R w = p := by
  unfold rqAt
  rw [h.cells.2.1]
  simp
theorem infoE28q : (Tryz.prog.info? 28).map (·.size) = some 1 := by kernel_rfl
theorem info3q : (Tryz.prog.info? 3).map (·.size) = some 1 := by kernel_rfl
theorem below_drewQ (w : World) : Below w.heap.size w w.drew := (Below.refl _ _).drew
theorem below_undrewQ {w W : World} (h : Below w.drew.heap.size w.drew W) : Below w.heap.size w W := ⟨h.os, h.tape, h.output, h.size, h.block⟩
theorem only_undrewQ {R : Nat} {w W : World} (h : Only R w.drew W) : Only R w W := by cases h; constructor <;> assumption
theorem wrongQ (s : List UInt8) (p m e e1 R : Nat) (w : World) (h : Rq w R s p m e) : Calls Tryz.prog 42 #[.pointer (some ⟨R, 0, none⟩), .int .i64 (e1 : Int)] w fun x w' => x = .returned (.tuple #[]) ∧ Rq w' R s p m (if e = 0 then e1 else e) ∧ Only R w w' := by
  have HR := hid h
  obtain ⟨_, _, _, c3⟩ := h.cells
  clear h
  unfold Rq at HR ⊢
  generalize asS s = S at HR ⊢
  by_cases he : e = 0
  · subst he
    rw [if_pos rfl]
    go_enter Tryz.func42, Tryz.ntmps42
    go_wp2_with (first
      | (refine store_part rfl 28 _ _ rfl R 3 (.int .i64 (e1 : Int)) _ _ #[.string S, .int .i64 p, .int .i64 m, .int .i64 (e1 : Int)] rfl rfl infoE28q (by simp) rfl rfl HR.out rfl ?_)
      | fail)
    intro W1 ho hr
    have HO := hid ho
    have HR1 := hid hr
    clear ho hr
    go_wp2_with fail
    exact ⟨by simp, _, results_none rfl _ _ _, rfl, HR1.out, HO.out⟩
  · rw [if_neg he]
    have he' : ((e : Int) == 0) = false := by rw [beq_eq_false_iff_ne]; omega
    clear he
    go_enter Tryz.func42, Tryz.ntmps42
    go_wp2_with fail
    exact ⟨by simp, _, results_none rfl _ _ _, rfl, HR.out, ⟨rfl, rfl, rfl, rfl, fun _ _ => rfl⟩⟩
theorem nowQ (s : List UInt8) (p m e R : Nat) (w : World) (h : Rq w R s p m e) : Calls Tryz.prog 68 #[.pointer (some ⟨R, 0, none⟩)] w fun x w' => x = .returned (.int .u8 ((s.getD p 0).toNat : Int)) ∧ Below w.heap.size w w' := by
  obtain ⟨c0, c1, _, _⟩ := h.cells
  have z1 := asS_size s
  clear h
  by_cases hlt : p < s.length
  · have hge : ¬ (s.length : Int) ≤ (p : Int) := by omega
    have hix := str_ix (asS s) p (by rw [z1]; exact hlt)
    rw [asS_data] at hix
    generalize s.getD p 0 = c at hix ⊢
    generalize asS s = S at c0 hix z1
    go_enter Tryz.func68, Tryz.ntmps68
    go_wp2_with fail
    go_region
    all_goals go_wp2_with fail
    go_region
    all_goals go_wp2_with fail
    go_ret
    exact ⟨rfl, (below_drewQ w).trans (show Below w.heap.size w.drew w.drew.drew from below_drewQ w.drew)⟩
  · have hge : (s.length : Int) ≤ (p : Int) := by omega
    have e0 : s.getD p 0 = 0 := by rw [List.getD_eq_getElem?_getD, List.getElem?_eq_none (by omega)]; rfl
    rw [e0]
    generalize asS s = S at c0 z1
    go_enter Tryz.func68, Tryz.ntmps68
    go_wp2_with fail
    go_region
    all_goals go_wp2_with fail
    go_ret
    exact ⟨rfl, below_drewQ _⟩
theorem nowD (s : List UInt8) (p m e R : Nat) (w : World) (h : Rq w R s p m e) : Calls Tryz.prog 68 #[.pointer (some ⟨R, 0, none⟩)] w fun x w' => x = .returned (.int .u8 ((s.getD p 0).toNat : Int)) ∧ ∃ n, w' = w.drewN n := by
  obtain ⟨c0, c1, _, _⟩ := h.cells
  have z1 := asS_size s
  clear h
  by_cases hlt : p < s.length
  · have hge : ¬ (s.length : Int) ≤ (p : Int) := by omega
    have hix := str_ix (asS s) p (by rw [z1]; exact hlt)
    rw [asS_data] at hix
    generalize s.getD p 0 = c at hix ⊢
    generalize asS s = S at c0 hix z1
    go_enter Tryz.func68, Tryz.ntmps68
    go_wp2_with fail
    go_region
    all_goals go_wp2_with fail
    go_region
    all_goals go_wp2_with fail
    go_ret
    exact ⟨rfl, 2, rfl⟩
  · have hge : (s.length : Int) ≤ (p : Int) := by omega
    have e0 : s.getD p 0 = 0 := by rw [List.getD_eq_getElem?_getD, List.getElem?_eq_none (by omega)]; rfl
    rw [e0]
    generalize asS s = S at c0 z1
    go_enter Tryz.func68, Tryz.ntmps68
    go_wp2_with fail
    go_region
    all_goals go_wp2_with fail
    go_ret
    exact ⟨rfl, 1, rfl⟩
theorem pre_atQ (s : List UInt8) (p : Nat) (c : UInt8) : preX [c] (s.drop p) = (decide (p < s.length) && decide (s.getD p 0 = c)) := by
  by_cases h : p < s.length
  · rw [List.drop_eq_getElem_cons h, decide_eq_true h, Bool.true_and]
    have : s.getD p 0 = s[p] := by rw [List.getD_eq_getElem?_getD, List.getElem?_eq_getElem h]; rfl
    rw [this]
    show ((c == s[p]) && true) = _
    rw [Bool.and_true, Bool.eq_iff_iff, beq_iff_eq, decide_eq_true_eq]
    exact ⟨fun h => h.symm, fun h => h.symm⟩
  · rw [List.drop_of_length_le (by omega), decide_eq_false h]
    rfl
set_option maxRecDepth 100000 in
theorem pastQ (s : List UInt8) (p m e R : Nat) (c : UInt8) (hs : s.length ≤ 1000000) (w : World) (h : Rq w R s p m e) : Calls Tryz.prog 96 #[.pointer (some ⟨R, 0, none⟩), .int .u8 (c.toNat : Int)] w fun x w' => x = .returned (.bool (preX [c] (s.drop p))) ∧ Rq w' R s (if preX [c] (s.drop p) then p + 1 else p) m e ∧ w.grownBy w' (some R) := by
  rw [pre_atQ]
  obtain ⟨c0, c1, _, _⟩ := h.cells
  have z1 := asS_size s
  have HR := hid h
  clear h
  unfold Rq at HR ⊢
  by_cases hlt : p < s.length
  · have hge : ¬ (s.length : Int) ≤ (p : Int) := by omega
    have hix := str_ix (asS s) p (by rw [z1]; exact hlt)
    rw [asS_data] at hix
    rw [decide_eq_true hlt, Bool.true_and]
    have hpl : p ≤ 1000000 := by omega
    by_cases hc : s.getD p 0 = c
    · rw [decide_eq_true hc, if_pos rfl]
      rw [hc] at hix
      clear hc
      generalize asS s = S at c0 hix z1 HR ⊢
      generalize c.toNat = cn at hix ⊢
      have hne : ((cn : Int) != (cn : Int)) = false := by simp
      have e2 : ((p + 1 : Nat) : Int) = (p : Int) + 1 := by omega
      rw [e2]
      go_enter Tryz.func96, Tryz.ntmps96
      go_wp2_with fail
      go_quiet (fail)
      go_wp2_with (first
        | (refine store_part rfl 3 _ _ rfl R 1 (.int .i64 ((p : Int) + 1)) _ _ #[.string S, .int .i64 ((p : Int) + 1), .int .i64 m, .int .i64 e] rfl rfl info3q (by simp) rfl rfl HR.out rfl ?_)
        | fail)
      intro W2 ho hr
      have HO := hid ho
      have HR2 := hid hr
      clear ho hr
      go_wp2_with fail
      go_ret
      exact ⟨rfl, HR2.out, (to_below (below_drewN _ _ _)).trans (to_only HO.out)⟩
    · rw [decide_eq_false hc, if_neg (by simp)]
      have hne : (((s.getD p 0).toNat : Int) != (c.toNat : Int)) = true := by
        rw [bne_iff_ne]
        intro h
        exact hc (UInt8.toNat_inj.1 (by omega))
      generalize s.getD p 0 = d at hix hne
      generalize d.toNat = dn at hix hne
      generalize c.toNat = cn at hne ⊢
      generalize asS s = S at c0 hix z1 HR ⊢
      clear hc
      go_enter Tryz.func96, Tryz.ntmps96
      go_wp2_with fail
      go_quiet (fail)
      go_wp2_with fail
      go_ret
      exact ⟨rfl, HR.out, to_below (below_drewN _ _ _)⟩
  · have hge : (s.length : Int) ≤ (p : Int) := by omega
    rw [decide_eq_false hlt, Bool.false_and, if_neg (by simp)]
    have hd : decide ((s.length : Int) ≤ (p : Int)) = true := decide_eq_true hge
    generalize asS s = S at c0 z1 HR ⊢
    go_enter Tryz.func96, Tryz.ntmps96
    go_wp2_with fail
    go_quiet (fail)
    go_wp2_with fail
    go_ret
    exact ⟨rfl, HR.out, to_below (below_drewN _ _ _)⟩
end Go.Proofs.YtlgkbdebpnbndaaGreatDoor
