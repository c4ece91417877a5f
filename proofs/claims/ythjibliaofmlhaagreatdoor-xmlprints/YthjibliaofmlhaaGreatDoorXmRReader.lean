
/- The reference's reader. -/
import Derived.Test.YthjibliaofmlhaaGreatDoorXmMem
import Derived.Test.YthjibliaofmlhaaGreatDoorXmBook
import Derived.Test.YthjibliaofmlhaaGreatDoorEnRSigns
import Derived.BigQuiet
import Derived.Lib.QuietBelow
import Derived.Test.YthjibliaofmlhaaGreatDoorXmReader
import Derived.Test.YthjibliaofmlhaaGreatDoorXmStep
namespace Go.Proofs.YthjibliaofmlhaaGreatDoor
set_option linter.unusedVariables false
set_option linter.unusedSimpArgs false
open Go.RowKit Go.BigFrame

/-- The reference's reader: the file, where one is, how many nodes there were, and what was wrong. -/
def Rr (w : World) (R : Nat) (s : List UInt8) (p m e : Nat) : Prop := w.heap[R]? = some (.cells #[.string (asS s), .int .i64 p, .int .i64 m, .int .i64 e] 67 (0, 0))
theorem Rr.cells {w : World} {R : Nat} {s : List UInt8} {p m e : Nat} (h : Rr w R s p m e) : w.cell? ⟨R, 0, none⟩ = some (.string (asS s)) ∧ w.cell? ⟨R, 1, none⟩ = some (.int .i64 p) ∧ w.cell? ⟨R, 2, none⟩ = some (.int .i64 m) ∧ w.cell? ⟨R, 3, none⟩ = some (.int .i64 e) := ⟨cell_of_row _ _ _ _ _ _ h, cell_of_row _ _ _ _ _ _ h, cell_of_row _ _ _ _ _ _ h, cell_of_row _ _ _ _ _ _ h⟩
theorem Rr.below {w w' : World} {R : Nat} {s : List UInt8} {p m e : Nat} (h : Rr w R s p m e) (hb : Below w.heap.size w w') : Rr w' R s p m e := row_keep hb h
theorem Rr.lt {w : World} {R : Nat} {s : List UInt8} {p m e : Nat} (h : Rr w R s p m e) : R < w.heap.size := (Array.getElem?_eq_some_iff.1 h).1
theorem infoE28 : (Tryz.prog.info? 28).map (·.size) = some 1 := by kernel_rfl
theorem info3r : (Tryz.prog.info? 3).map (·.size) = some 1 := by kernel_rfl
theorem wrong_any (s : List UInt8) (p m e e1 R : Nat) (w : World) (h : Rr w R s p m e) : Calls Tryz.prog 42 #[.pointer (some ⟨R, 0, none⟩), .int .i64 (e1 : Int)] w fun x w' => x = .returned (.bool false) ∧ Rr w' R s p m (if e = 0 then e1 else e) ∧ Only R w w' := by
  have HR := hid h
  obtain ⟨_, _, _, c3⟩ := h.cells
  clear h
  unfold Rr at HR ⊢
  generalize asS s = S at HR ⊢
  by_cases he : e = 0
  · subst he
    rw [if_pos rfl]
    go_enter Tryz.func42, Tryz.ntmps42
    go_wp2_with (first
      | (refine store_part rfl 28 _ _ rfl R 3 (.int .i64 (e1 : Int)) _ _ #[.string S, .int .i64 p, .int .i64 m, .int .i64 (e1 : Int)] rfl rfl infoE28 (by simp) rfl rfl HR.out rfl ?_)
      | fail)
    intro W1 ho hr
    have HO := hid ho
    have HR1 := hid hr
    clear ho hr
    go_wp2_with fail
    go_ret
    exact ⟨rfl, HR1.out, HO.out⟩
  · rw [if_neg he]
    have he' : ((e : Int) == 0) = false := by rw [beq_eq_false_iff_ne]; omega
    clear he
    go_enter Tryz.func42, Tryz.ntmps42
    go_wp2_with fail
    go_ret
    exact ⟨rfl, HR.out, ⟨rfl, rfl, rfl, rfl, fun _ _ => rfl⟩⟩
theorem pre_take (t l : List UInt8) : preX t l = (decide (t.length ≤ l.length) && decide (l.take t.length = t)) := by
  unfold preX
  cases h : t.isPrefixOf l with
  | true =>
    have h1 := List.isPrefixOf_iff_prefix.1 h
    rw [decide_eq_true h1.length_le, decide_eq_true (List.prefix_iff_eq_take.1 h1).symm]
    rfl
  | false =>
    symm
    rw [Bool.and_eq_false_iff]
    by_cases hl : t.length ≤ l.length
    · refine .inr (decide_eq_false fun e => ?_)
      have : t <+: l := by rw [← e]; exact List.take_prefix _ _
      rw [List.isPrefixOf_iff_prefix.2 this] at h
      cases h
    · exact .inl (decide_eq_false hl)
set_option maxHeartbeats 1000000 in
theorem here_any (s t : List UInt8) (p m e R : Nat) (hs : s.length ≤ 1000000) (ht : t.length ≤ 1000) (hp : p ≤ s.length) (w : World) (h : Rr w R s p m e) : Calls Tryz.prog 40 #[.pointer (some ⟨R, 0, none⟩), .string (asS t)] w fun x w' => x = .returned (.bool (preX t (s.drop p))) ∧ Below w.heap.size w w' := by
  have HV : Hid (preX t (s.drop p) = (decide (p + t.length ≤ s.length) && decide ((s.drop p).take t.length = t))) := by
    show _ = _
    rw [pre_take, List.length_drop]
    congr 1
    by_cases h : p + t.length ≤ s.length
    · rw [decide_eq_true h, decide_eq_true (by omega)]
    · rw [decide_eq_false h, decide_eq_false (by omega)]
  obtain ⟨c0, c1, _, _⟩ := h.cells
  have hx : (asS s).extract p (p + t.length) = asS ((s.drop p).take t.length) := by rw [ext_asS, asS_data]; congr 2; omega
  have hq : ((asS ((s.drop p).take t.length)).toList == (asS t).toList) = decide ((s.drop p).take t.length = t) := tl_two _ _
  have z1 := asS_size s
  have z2 := asS_size t
  clear h
  generalize preX t (s.drop p) = V at HV ⊢
  generalize decide ((s.drop p).take t.length = t) = dq at hq HV
  generalize asS ((s.drop p).take t.length) = X at hx hq
  rw [← z1] at hs hp HV
  rw [← z2] at ht hx HV
  generalize asS s = S at c0 hx hs hp HV
  generalize asS t = T at hx hq ht HV ⊢
  clear z1 z2
  by_cases hl : p + T.size ≤ S.size
  · have hl' : (p : Int) + (T.size : Int) ≤ (S.size : Int) := by omega
    rw [decide_eq_true hl, Bool.true_and] at HV
    have w1 : IntKind.i64.wrap ((p : Int) + (T.size : Int)) = (p : Int) + (T.size : Int) := by rw [IntKind.wrap_i64]; omega
    go_enter Tryz.func40, Tryz.ntmps40
    go_wp2_with fail
    go_region
    all_goals go_wp2_with fail
    go_ret
    exact ⟨by rw [HV.out]; rfl, (Below.refl _ _).drew⟩
  · have hl' : ¬ (p : Int) + (T.size : Int) ≤ (S.size : Int) := by omega
    rw [decide_eq_false hl, Bool.false_and] at HV
    have w1 : IntKind.i64.wrap ((p : Int) + (T.size : Int)) = (p : Int) + (T.size : Int) := by rw [IntKind.wrap_i64]; omega
    have hl2 : decide ((p : Int) + (T.size : Int) ≤ (S.size : Int)) = false := decide_eq_false hl'
    go_enter Tryz.func40, Tryz.ntmps40
    go_wp2_with fail
    go_region
    all_goals go_wp2_with fail
    go_ret
    exact ⟨by rw [HV.out]; rfl, (Below.refl _ _).drew⟩
end Go.Proofs.YthjibliaofmlhaaGreatDoor
namespace Go.Proofs.YthjibliaofmlhaaGreatDoor
set_option linter.unusedVariables false
set_option linter.unusedSimpArgs false
open Go.RowKit Go.BigFrame

theorem refLetter_any (c : UInt8) (w : World) : Calls Tryz.prog 76 #[.int .u8 c.toNat] w fun e w' => e = .returned (.bool (letX c)) ∧ w' = w := by
  have HV : Hid (letX c = ((decide (97 ≤ c.toNat) && decide (c.toNat ≤ 122)) || (decide (65 ≤ c.toNat) && decide (c.toNat ≤ 90)) || c.toNat == 95)) := rfl
  have hlt := c.toNat_lt
  generalize letX c = V at HV ⊢
  generalize c.toNat = n at HV hlt ⊢
  by_cases k0 : 97 ≤ n ∧ n ≤ 122
  · have HR : Hid (V = true) := by
      show _ = _
      rw [HV.out]
      simp only [Bool.or_eq_true, Bool.and_eq_true, decide_eq_true_eq, Bool.or_eq_false_iff, Bool.and_eq_false_iff, decide_eq_false_iff_not, beq_iff_eq, beq_eq_false_iff_ne]
      omega
    have f0 : (97 : Int) ≤ (n : Int) := by omega
    have f1 : (n : Int) ≤ (122 : Int) := by omega
    clear k0 hlt HV
    go_enter Tryz.func76, Tryz.ntmps76
    go_wp2_with fail
    go_ret
    exact ⟨by rw [HR.out]; rfl, rfl⟩
  by_cases k1 : 122 < n
  · have HR : Hid (V = false) := by
      show _ = _
      rw [HV.out]
      simp only [Bool.or_eq_true, Bool.and_eq_true, decide_eq_true_eq, Bool.or_eq_false_iff, Bool.and_eq_false_iff, decide_eq_false_iff_not, beq_iff_eq, beq_eq_false_iff_ne]
      omega
    have f0 : (97 : Int) ≤ (n : Int) := by omega
    have f1 : ¬ (n : Int) ≤ (122 : Int) := by omega
    have f2 : (65 : Int) ≤ (n : Int) := by omega
    have f3 : ¬ (n : Int) ≤ (90 : Int) := by omega
    have f4 : ((n : Int) == 95) = false := by rw [beq_eq_false_iff_ne]; omega
    clear k0 k1 hlt HV
    go_enter Tryz.func76, Tryz.ntmps76
    go_wp2_with fail
    go_ret
    exact ⟨by rw [HR.out]; rfl, rfl⟩
  by_cases k2 : 65 ≤ n ∧ n ≤ 90
  · have HR : Hid (V = true) := by
      show _ = _
      rw [HV.out]
      simp only [Bool.or_eq_true, Bool.and_eq_true, decide_eq_true_eq, Bool.or_eq_false_iff, Bool.and_eq_false_iff, decide_eq_false_iff_not, beq_iff_eq, beq_eq_false_iff_ne]
      omega
    have f0 : ¬ (97 : Int) ≤ (n : Int) := by omega
    have f1 : (65 : Int) ≤ (n : Int) := by omega
    have f2 : (n : Int) ≤ (90 : Int) := by omega
    clear k0 k1 k2 hlt HV
    go_enter Tryz.func76, Tryz.ntmps76
    go_wp2_with fail
    go_ret
    exact ⟨by rw [HR.out]; rfl, rfl⟩
  by_cases k3 : n < 65
  · have HR : Hid (V = false) := by
      show _ = _
      rw [HV.out]
      simp only [Bool.or_eq_true, Bool.and_eq_true, decide_eq_true_eq, Bool.or_eq_false_iff, Bool.and_eq_false_iff, decide_eq_false_iff_not, beq_iff_eq, beq_eq_false_iff_ne]
      omega
    have f0 : ¬ (97 : Int) ≤ (n : Int) := by omega
    have f1 : ¬ (65 : Int) ≤ (n : Int) := by omega
    have f2 : ((n : Int) == 95) = false := by rw [beq_eq_false_iff_ne]; omega
    clear k0 k1 k2 k3 hlt HV
    go_enter Tryz.func76, Tryz.ntmps76
    go_wp2_with fail
    go_ret
    exact ⟨by rw [HR.out]; rfl, rfl⟩
  by_cases k4 : n = 95
  · have HR : Hid (V = true) := by
      show _ = _
      rw [HV.out]
      simp only [Bool.or_eq_true, Bool.and_eq_true, decide_eq_true_eq, Bool.or_eq_false_iff, Bool.and_eq_false_iff, decide_eq_false_iff_not, beq_iff_eq, beq_eq_false_iff_ne]
      omega
    have f0 : ¬ (97 : Int) ≤ (n : Int) := by omega
    have f1 : (65 : Int) ≤ (n : Int) := by omega
    have f2 : ¬ (n : Int) ≤ (90 : Int) := by omega
    have f3 : ((n : Int) == 95) = true := by rw [beq_iff_eq]; omega
    clear k0 k1 k2 k3 k4 hlt HV
    go_enter Tryz.func76, Tryz.ntmps76
    go_wp2_with fail
    go_ret
    exact ⟨by rw [HR.out]; rfl, rfl⟩
  have HR : Hid (V = false) := by
    show _ = _
    rw [HV.out]
    simp only [Bool.or_eq_true, Bool.and_eq_true, decide_eq_true_eq, Bool.or_eq_false_iff, Bool.and_eq_false_iff, decide_eq_false_iff_not, beq_iff_eq, beq_eq_false_iff_ne]
    omega
  have f0 : ¬ (97 : Int) ≤ (n : Int) := by omega
  have f1 : (65 : Int) ≤ (n : Int) := by omega
  have f2 : ¬ (n : Int) ≤ (90 : Int) := by omega
  have f3 : ((n : Int) == 95) = false := by rw [beq_eq_false_iff_ne]; omega
  clear k0 k1 k2 k3 k4 hlt HV
  go_enter Tryz.func76, Tryz.ntmps76
  go_wp2_with fail
  go_ret
  exact ⟨by rw [HR.out]; rfl, rfl⟩
theorem refWhite_any (c : UInt8) (w : World) : Calls Tryz.prog 91 #[.int .u8 c.toNat] w fun e w' => e = .returned (.bool (whX c)) ∧ w' = w := by
  have HV : Hid (whX c = (c.toNat == 32 || c.toNat == 9 || c.toNat == 10 || c.toNat == 13)) := rfl
  have hlt := c.toNat_lt
  generalize whX c = V at HV ⊢
  generalize c.toNat = n at HV hlt ⊢
  by_cases k0 : n = 32
  · have HR : Hid (V = true) := by
      show _ = _
      rw [HV.out]
      simp only [Bool.or_eq_true, Bool.and_eq_true, decide_eq_true_eq, Bool.or_eq_false_iff, Bool.and_eq_false_iff, decide_eq_false_iff_not, beq_iff_eq, beq_eq_false_iff_ne]
      omega
    have f0 : ((n : Int) == 32) = true := by rw [beq_iff_eq]; omega
    clear k0 hlt HV
    go_enter Tryz.func91, Tryz.ntmps91
    go_wp2_with fail
    go_ret
    exact ⟨by rw [HR.out]; rfl, rfl⟩
  by_cases k1 : n = 9
  · have HR : Hid (V = true) := by
      show _ = _
      rw [HV.out]
      simp only [Bool.or_eq_true, Bool.and_eq_true, decide_eq_true_eq, Bool.or_eq_false_iff, Bool.and_eq_false_iff, decide_eq_false_iff_not, beq_iff_eq, beq_eq_false_iff_ne]
      omega
    have f0 : ((n : Int) == 32) = false := by rw [beq_eq_false_iff_ne]; omega
    have f1 : ((n : Int) == 9) = true := by rw [beq_iff_eq]; omega
    clear k0 k1 hlt HV
    go_enter Tryz.func91, Tryz.ntmps91
    go_wp2_with fail
    go_ret
    exact ⟨by rw [HR.out]; rfl, rfl⟩
  by_cases k2 : n = 10
  · have HR : Hid (V = true) := by
      show _ = _
      rw [HV.out]
      simp only [Bool.or_eq_true, Bool.and_eq_true, decide_eq_true_eq, Bool.or_eq_false_iff, Bool.and_eq_false_iff, decide_eq_false_iff_not, beq_iff_eq, beq_eq_false_iff_ne]
      omega
    have f0 : ((n : Int) == 32) = false := by rw [beq_eq_false_iff_ne]; omega
    have f1 : ((n : Int) == 9) = false := by rw [beq_eq_false_iff_ne]; omega
    have f2 : ((n : Int) == 10) = true := by rw [beq_iff_eq]; omega
    clear k0 k1 k2 hlt HV
    go_enter Tryz.func91, Tryz.ntmps91
    go_wp2_with fail
    go_ret
    exact ⟨by rw [HR.out]; rfl, rfl⟩
  by_cases k3 : n = 13
  · have HR : Hid (V = true) := by
      show _ = _
      rw [HV.out]
      simp only [Bool.or_eq_true, Bool.and_eq_true, decide_eq_true_eq, Bool.or_eq_false_iff, Bool.and_eq_false_iff, decide_eq_false_iff_not, beq_iff_eq, beq_eq_false_iff_ne]
      omega
    have f0 : ((n : Int) == 32) = false := by rw [beq_eq_false_iff_ne]; omega
    have f1 : ((n : Int) == 9) = false := by rw [beq_eq_false_iff_ne]; omega
    have f2 : ((n : Int) == 10) = false := by rw [beq_eq_false_iff_ne]; omega
    have f3 : ((n : Int) == 13) = true := by rw [beq_iff_eq]; omega
    clear k0 k1 k2 k3 hlt HV
    go_enter Tryz.func91, Tryz.ntmps91
    go_wp2_with fail
    go_ret
    exact ⟨by rw [HR.out]; rfl, rfl⟩
  have HR : Hid (V = false) := by
    show _ = _
    rw [HV.out]
    simp only [Bool.or_eq_true, Bool.and_eq_true, decide_eq_true_eq, Bool.or_eq_false_iff, Bool.and_eq_false_iff, decide_eq_false_iff_not, beq_iff_eq, beq_eq_false_iff_ne]
    omega
  have f0 : ((n : Int) == 32) = false := by rw [beq_eq_false_iff_ne]; omega
  have f1 : ((n : Int) == 9) = false := by rw [beq_eq_false_iff_ne]; omega
  have f2 : ((n : Int) == 10) = false := by rw [beq_eq_false_iff_ne]; omega
  have f3 : ((n : Int) == 13) = false := by rw [beq_eq_false_iff_ne]; omega
  clear k0 k1 k2 k3 hlt HV
  go_enter Tryz.func91, Tryz.ntmps91
  go_wp2_with fail
  go_ret
  exact ⟨by rw [HR.out]; rfl, rfl⟩
theorem refLater_no (c : UInt8) (hl : letX c = false) (w : World) : Calls Tryz.prog 77 #[.int .u8 c.toNat] w fun e w' => e = .returned (.bool (latX c)) ∧ w' = w := by
  have HL := hid (refLetter_any c w)
  rw [hl] at HL
  have HV : Hid (latX c = ((decide (48 ≤ c.toNat) && decide (c.toNat ≤ 57)) || c.toNat == 46 || c.toNat == 45 || c.toNat == 58)) := by
    show _ = _
    rw [lat_or, hl, Bool.false_or]
    rfl
  clear hl
  have hlt := c.toNat_lt
  generalize latX c = V at HV ⊢
  generalize c.toNat = n at HV hlt HL ⊢
  by_cases k0 : 48 ≤ n ∧ n ≤ 57
  · have HR : Hid (V = true) := by
      show _ = _
      rw [HV.out]
      simp only [Bool.or_eq_true, Bool.and_eq_true, decide_eq_true_eq, Bool.or_eq_false_iff, Bool.and_eq_false_iff, decide_eq_false_iff_not, beq_iff_eq, beq_eq_false_iff_ne]
      omega
    have f0 : (48 : Int) ≤ (n : Int) := by omega
    have f1 : (n : Int) ≤ (57 : Int) := by omega
    clear k0 hlt HV
    go_enter Tryz.func77, Tryz.ntmps77
    go_wp2_with fail
    refine HL.out.mono ?_
    rintro e W ⟨rfl, rfl⟩
    go_wp2_with fail
    go_ret
    exact ⟨by rw [HR.out]; rfl, rfl⟩
  by_cases k1 : n = 46
  · have HR : Hid (V = true) := by
      show _ = _
      rw [HV.out]
      simp only [Bool.or_eq_true, Bool.and_eq_true, decide_eq_true_eq, Bool.or_eq_false_iff, Bool.and_eq_false_iff, decide_eq_false_iff_not, beq_iff_eq, beq_eq_false_iff_ne]
      omega
    have f0 : ¬ (48 : Int) ≤ (n : Int) := by omega
    have f1 : ((n : Int) == 46) = true := by rw [beq_iff_eq]; omega
    clear k0 k1 hlt HV
    go_enter Tryz.func77, Tryz.ntmps77
    go_wp2_with fail
    refine HL.out.mono ?_
    rintro e W ⟨rfl, rfl⟩
    go_wp2_with fail
    go_ret
    exact ⟨by rw [HR.out]; rfl, rfl⟩
  by_cases k2 : n = 45
  · have HR : Hid (V = true) := by
      show _ = _
      rw [HV.out]
      simp only [Bool.or_eq_true, Bool.and_eq_true, decide_eq_true_eq, Bool.or_eq_false_iff, Bool.and_eq_false_iff, decide_eq_false_iff_not, beq_iff_eq, beq_eq_false_iff_ne]
      omega
    have f0 : ¬ (48 : Int) ≤ (n : Int) := by omega
    have f1 : ((n : Int) == 46) = false := by rw [beq_eq_false_iff_ne]; omega
    have f2 : ((n : Int) == 45) = true := by rw [beq_iff_eq]; omega
    clear k0 k1 k2 hlt HV
    go_enter Tryz.func77, Tryz.ntmps77
    go_wp2_with fail
    refine HL.out.mono ?_
    rintro e W ⟨rfl, rfl⟩
    go_wp2_with fail
    go_ret
    exact ⟨by rw [HR.out]; rfl, rfl⟩
  by_cases k3 : n = 58
  · have HR : Hid (V = true) := by
      show _ = _
      rw [HV.out]
      simp only [Bool.or_eq_true, Bool.and_eq_true, decide_eq_true_eq, Bool.or_eq_false_iff, Bool.and_eq_false_iff, decide_eq_false_iff_not, beq_iff_eq, beq_eq_false_iff_ne]
      omega
    have f0 : (48 : Int) ≤ (n : Int) := by omega
    have f1 : ¬ (n : Int) ≤ (57 : Int) := by omega
    have f2 : ((n : Int) == 46) = false := by rw [beq_eq_false_iff_ne]; omega
    have f3 : ((n : Int) == 45) = false := by rw [beq_eq_false_iff_ne]; omega
    have f4 : ((n : Int) == 58) = true := by rw [beq_iff_eq]; omega
    have f5 : decide ((n : Int) ≤ 57) = false := decide_eq_false (by omega)
    clear k0 k1 k2 k3 hlt HV
    go_enter Tryz.func77, Tryz.ntmps77
    go_wp2_with fail
    refine HL.out.mono ?_
    rintro e W ⟨rfl, rfl⟩
    go_wp2_with fail
    go_ret
    exact ⟨by rw [HR.out]; rfl, rfl⟩
  by_cases k4 : n < 48
  · have HR : Hid (V = false) := by
      show _ = _
      rw [HV.out]
      simp only [Bool.or_eq_true, Bool.and_eq_true, decide_eq_true_eq, Bool.or_eq_false_iff, Bool.and_eq_false_iff, decide_eq_false_iff_not, beq_iff_eq, beq_eq_false_iff_ne]
      omega
    have f0 : ¬ (48 : Int) ≤ (n : Int) := by omega
    have f1 : ((n : Int) == 46) = false := by rw [beq_eq_false_iff_ne]; omega
    have f2 : ((n : Int) == 45) = false := by rw [beq_eq_false_iff_ne]; omega
    have f3 : ((n : Int) == 58) = false := by rw [beq_eq_false_iff_ne]; omega
    clear k0 k1 k2 k3 k4 hlt HV
    go_enter Tryz.func77, Tryz.ntmps77
    go_wp2_with fail
    refine HL.out.mono ?_
    rintro e W ⟨rfl, rfl⟩
    go_wp2_with fail
    go_ret
    exact ⟨by rw [HR.out]; rfl, rfl⟩
  have HR : Hid (V = false) := by
    show _ = _
    rw [HV.out]
    simp only [Bool.or_eq_true, Bool.and_eq_true, decide_eq_true_eq, Bool.or_eq_false_iff, Bool.and_eq_false_iff, decide_eq_false_iff_not, beq_iff_eq, beq_eq_false_iff_ne]
    omega
  have f0 : (48 : Int) ≤ (n : Int) := by omega
  have f1 : ¬ (n : Int) ≤ (57 : Int) := by omega
  have f2 : ((n : Int) == 46) = false := by rw [beq_eq_false_iff_ne]; omega
  have f3 : ((n : Int) == 45) = false := by rw [beq_eq_false_iff_ne]; omega
  have f4 : ((n : Int) == 58) = false := by rw [beq_eq_false_iff_ne]; omega
  have f5 : decide ((n : Int) ≤ 57) = false := decide_eq_false (by omega)
  clear k0 k1 k2 k3 k4 hlt HV
  go_enter Tryz.func77, Tryz.ntmps77
  go_wp2_with fail
  refine HL.out.mono ?_
  rintro e W ⟨rfl, rfl⟩
  go_wp2_with fail
  go_ret
  exact ⟨by rw [HR.out]; rfl, rfl⟩
theorem refLater_any (c : UInt8) (w : World) : Calls Tryz.prog 77 #[.int .u8 c.toNat] w fun e w' => e = .returned (.bool (latX c)) ∧ w' = w := by
  cases hl : letX c with
  | false => exact refLater_no c hl w
  | true =>
    have HL := hid (refLetter_any c w)
    rw [hl] at HL
    have HV : Hid (latX c = true) := by show _ = _; rw [lat_or, hl]; rfl
    generalize latX c = V at HV ⊢
    clear hl
    generalize c.toNat = n at HL ⊢
    go_enter Tryz.func77, Tryz.ntmps77
    go_wp2_with fail
    refine HL.out.mono ?_
    rintro e W ⟨rfl, rfl⟩
    go_wp2_with fail
    go_ret
    exact ⟨by rw [HV.out]; rfl, rfl⟩
theorem all_stepR (p : UInt8 → Bool) (l : List UInt8) (k : Nat) (h : k < l.length) : (l.take (k + 1)).all p = ((l.take k).all p && p (l.getD k 0)) := by
  rw [take_snoc l k h, List.all_append]
  simp
set_option maxHeartbeats 1000000 in
theorem refName_any (l : List UInt8) (hl : l.length ≤ 1000000) (w : World) : Calls Tryz.prog 50 #[.string (asS l)] w fun e w' => e = .returned (.bool (nameX l)) ∧ w' = w := by
  have HV : Hid (nameX l = (decide (1 ≤ l.length) && decide (l.length ≤ 64) && letX (l.getD 0 0) && l.all latX)) := rfl
  have HIX := hid (fun k h W => str_ix (asS l) k h W)
  rw [asS_data] at HIX
  have HL := hid refLetter_any
  have HT := hid refLater_any
  have HST := hid (all_stepR latX l)
  have HAL : Hid (l.take l.length = l) := List.take_length
  have hsz := asS_size l
  have HBAD : Hid (∀ k, k < l.length → latX (l.getD k 0) = false → l.all latX = false) := fun k hk h => by
    rw [List.all_eq_false]
    refine ⟨l.getD k 0, ?_, by rw [h]; simp⟩
    rw [List.getD_eq_getElem?_getD, List.getElem?_eq_getElem hk]
    exact List.getElem_mem _
  generalize nameX l = V at HV ⊢
  rw [← hsz] at hl HV HST HAL HBAD
  generalize asS l = L at hl HV HIX HST HAL HBAD hsz ⊢
  clear hsz
  by_cases h1 : L.size < 1
  · have h1' : (L.size : Int) < 1 := by omega
    have HR : Hid (V = false) := by show _ = _; rw [HV.out, decide_eq_false (by omega)]; simp
    go_enter Tryz.func50, Tryz.ntmps50
    go_wp2_with fail
    go_ret
    exact ⟨by rw [HR.out]; rfl, rfl⟩
  · have h1' : ¬ (L.size : Int) < 1 := by omega
    by_cases h2 : 64 < L.size
    · have h2' : (64 : Int) < (L.size : Int) := by omega
      have HR : Hid (V = false) := by show _ = _; rw [HV.out, decide_eq_false (by omega : ¬ L.size ≤ 64)]; simp
      go_enter Tryz.func50, Tryz.ntmps50
      go_wp2_with fail
      go_ret
      exact ⟨by rw [HR.out]; rfl, rfl⟩
    · have h2' : ¬ (64 : Int) < (L.size : Int) := by omega
      have hix0 : ∀ W, (Instr.index 9 (.string L) (.int .i64 0)).run Tryz.prog W = .ok (.int .u8 (l.getD 0 0).toNat) W := HIX.out 0 (by omega)
      have HL0 := hid (HL.out (l.getD 0 0))
      cases hlt : letX (l.getD 0 0) with
      | false =>
        have HR : Hid (V = false) := by show _ = _; rw [HV.out, hlt]; simp
        rw [hlt] at HL0
        clear hlt
        generalize l.getD 0 0 = x at hix0 HL0
        go_enter Tryz.func50, Tryz.ntmps50
        go_wp2_with fail
        refine (HL0.out _).mono ?_
        rintro e W ⟨rfl, rfl⟩
        go_wp2_with fail
        go_ret
        exact ⟨by rw [HR.out]; rfl, rfl⟩
      | true =>
        have HR : Hid (V = l.all latX) := by show _ = _; rw [HV.out, hlt, decide_eq_true (by omega : 1 ≤ L.size), decide_eq_true (by omega : L.size ≤ 64)]; simp
        rw [hlt] at HL0
        clear hlt HV
        generalize l.getD 0 0 = x at hix0 HL0
        go_enter Tryz.func50, Tryz.ntmps50
        go_wp2_with fail
        refine (HL0.out _).mono ?_
        rintro e W ⟨rfl, rfl⟩
        go_wp2_with fail
        clear hix0 h1' h2'
        go_loop [3] (fun i => ∃ k : Nat, k ≤ L.size ∧ i = .int .i64 (k : Int) ∧ Hid ((l.take k).all latX = true)) (fun i => L.size - (intOf i).toNat)
        case atStart => exact ⟨0, Nat.zero_le _, rfl, by show _ = _; simp⟩
        case round =>
          obtain ⟨k, hk, rfl, HP⟩ := hrel
          by_cases hlt : k < L.size
          · have hi : (k : Int) < (L.size : Int) := by omega
            have hix := HIX.out k hlt
            have HST2 := hid (HST.out k hlt)
            have HB2 := hid (HBAD.out k hlt)
            generalize l.getD k 0 = y at hix HST2 HB2
            cases hb : latX y with
            | true =>
              have HTY := hid (HT.out y)
              rw [hb] at HTY HST2
              clear hb
              go_wp2_with fail
              refine (HTY.out _).mono ?_
              rintro e W ⟨rfl, rfl⟩
              go_wp2_with fail
              go_round
              case rel =>
                refine ⟨k + 1, by omega, by go_num, ?_⟩
                show _ = _
                rw [HST2.out, HP.out]; rfl
              case measure => simp [intOf]; omega
            | false =>
              have HTY := hid (HT.out y)
              have HF := hid (HB2.out hb)
              rw [hb] at HTY
              clear hb
              go_wp2_with fail
              refine (HTY.out _).mono ?_
              rintro e W ⟨rfl, rfl⟩
              go_wp2_with fail
              go_ret
              exact ⟨by rw [HR.out, HF.out]; rfl, rfl⟩
          · have hi : ¬ (k : Int) < (L.size : Int) := by omega
            have HF : Hid (l.all latX = true) := by
              have h1 := HP.out
              rw [show k = L.size from by omega, HAL.out] at h1
              exact h1
            go_wp2_with fail
            go_ret
            exact ⟨by rw [HR.out, HF.out]; rfl, rfl⟩
end Go.Proofs.YthjibliaofmlhaaGreatDoor
namespace Go.Proofs.YthjibliaofmlhaaGreatDoor
set_option linter.unusedVariables false
set_option linter.unusedSimpArgs false
open Go.RowKit Go.BigFrame

theorem past_any (s t : List UInt8) (p m e R : Nat) (hs : s.length ≤ 1000000) (ht : t.length ≤ 1000) (hp : p ≤ s.length) (w : World) (h : Rr w R s p m e) : Calls Tryz.prog 63 #[.pointer (some ⟨R, 0, none⟩), .string (asS t)] w fun x w' => x = .returned (.bool (preX t (s.drop p))) ∧ Rr w' R s (if preX t (s.drop p) then p + t.length else p) m e ∧ w.grownBy w' (some R) := by
  have HC := hid (here_any s t p m e R hs ht hp w h)
  have HR := hid h
  have z2 := asS_size t
  clear h
  cases hb : preX t (s.drop p) with
  | false =>
    rw [hb] at HC
    simp only [Bool.false_eq_true, if_false]
    clear hb hp
    go_enter Tryz.func63, Tryz.ntmps63
    go_wp2_with fail
    refine HC.out.mono ?_
    rintro x W ⟨rfl, hb⟩
    go_wp2_with fail
    go_ret
    exact ⟨rfl, HR.out.below hb, to_below hb⟩
  | true =>
    rw [hb] at HC
    simp only [if_true]
    have hle : p + t.length ≤ s.length := by
      have h1 := List.isPrefixOf_iff_prefix.1 hb
      have h2 := h1.length_le
      rw [List.length_drop] at h2
      omega
    clear hb
    unfold Rr at HR ⊢
    generalize asS s = S at HR ⊢
    rw [← z2] at ht hle ⊢
    generalize asS t = T at HC ht hle ⊢
    clear z2
    have hle2 : p ≤ 1000000 := by omega
    have w1 : IntKind.i64.wrap ((p : Int) + (T.size : Int)) = ((p + T.size : Nat) : Int) := by rw [IntKind.wrap_i64]; omega
    go_enter Tryz.func63, Tryz.ntmps63
    go_wp2_with fail
    refine HC.out.mono ?_
    rintro x W ⟨rfl, hb⟩
    have hr1 := row_keep hb HR.out
    have c1 : W.cell? ⟨R, 1, none⟩ = some (.int .i64 p) := cell_of_row _ _ _ _ _ _ hr1
    have HR1 := hid hr1
    have HB := hid hb
    clear hb hr1
    go_wp2_with (first
      | (refine store_part rfl 3 _ _ rfl R 1 (.int .i64 ((p : Int) + (T.size : Int))) _ _ #[.string S, .int .i64 ((p : Int) + (T.size : Int)), .int .i64 m, .int .i64 e] rfl rfl info3r (by simp) rfl rfl HR1.out rfl ?_)
      | fail)
    intro W1 ho hr
    have HO := hid ho
    have HR2 := hid hr
    clear ho hr
    go_wp2_with fail
    go_ret
    refine ⟨rfl, ?_, (to_below HB.out).trans (to_only HO.out)⟩
    rw [show ((p + T.size : Nat) : Int) = (p : Int) + (T.size : Int) from by omega]
    exact HR2.out
set_option maxRecDepth 100000 in
theorem more_any (s : List UInt8) (p m e R : Nat) (hm : m ≤ 1000000) (w : World) (h : Rr w R s p m e) : Calls Tryz.prog 67 #[.pointer (some ⟨R, 0, none⟩)] w fun x w' => x = .returned (.bool (decide (m + 1 ≤ 4096))) ∧ Rr w' R s p (m + 1) (if m + 1 ≤ 4096 then e else if e = 0 then 3 else e) ∧ w.grownBy w' (some R) := by
  have HWR : Hid (∀ W, Rr W R s p (m + 1) e → Calls Tryz.prog 42 #[.pointer (some ⟨R, 0, none⟩), .int .i64 3] W fun x w' => x = .returned (.bool false) ∧ Rr w' R s p (m + 1) (if e = 0 then 3 else e) ∧ Only R W w') := fun W hW => wrong_any s p (m + 1) e 3 R W hW
  have HR := hid h
  obtain ⟨_, _, c2, _⟩ := h.cells
  clear h
  have e1 : ((m + 1 : Nat) : Int) = (m : Int) + 1 := by omega
  by_cases hk : m + 1 ≤ 4096
  · have hk' : (m : Int) + 1 ≤ 4096 := by omega
    rw [if_pos hk, decide_eq_true hk]
    clear hk HWR
    unfold Rr at HR ⊢
    rw [e1]
    generalize asS s = S at HR ⊢
    go_enter Tryz.func67, Tryz.ntmps67
    go_wp2_with (first
      | (refine store_part rfl 3 _ _ rfl R 2 (.int .i64 ((m : Int) + 1)) _ _ #[.string S, .int .i64 p, .int .i64 ((m : Int) + 1), .int .i64 e] rfl rfl info3r (by simp) rfl rfl HR.out rfl ?_)
      | fail)
    intro W1 ho hr
    have c3 : W1.cell? ⟨R, 2, none⟩ = some (.int .i64 ((m : Int) + 1)) := cell_of_row _ _ _ _ _ _ hr
    have HO := hid ho
    have HR1 := hid hr
    clear ho hr
    go_wp2_with fail
    go_ret
    exact ⟨rfl, HR1.out, to_only HO.out⟩
  · have hk' : ¬ (m : Int) + 1 ≤ 4096 := by omega
    have hk2 : decide ((m : Int) + 1 ≤ 4096) = false := decide_eq_false hk'
    rw [if_neg hk, decide_eq_false hk]
    clear hk
    generalize (if e = 0 then 3 else e) = E2 at HWR ⊢
    have HRU := hid HR.out
    unfold Rr at HRU
    go_enter Tryz.func67, Tryz.ntmps67
    go_wp2_with (first
      | (refine store_part rfl 3 _ _ rfl R 2 (.int .i64 ((m : Int) + 1)) _ _ #[.string (asS s), .int .i64 p, .int .i64 ((m : Int) + 1), .int .i64 e] rfl rfl info3r (by simp) rfl rfl HRU.out rfl ?_)
      | fail)
    intro W1 ho hr
    have c3 : W1.cell? ⟨R, 2, none⟩ = some (.int .i64 ((m : Int) + 1)) := cell_of_row _ _ _ _ _ _ hr
    have HO := hid ho
    have HR1 : Hid (Rr W1 R s p (m + 1) e) := by show Rr _ _ _ _ _ _; unfold Rr; rw [e1]; exact hr
    clear ho hr
    go_wp2_with fail
    refine (HWR.out _ HR1.out).mono ?_
    rintro x W2 ⟨rfl, hr, ho⟩
    have HO2 := hid ho
    have HR2 := hid hr
    clear ho hr
    go_wp2_with fail
    go_ret
    exact ⟨rfl, HR2.out, (to_only HO.out).trans (to_only HO2.out)⟩
theorem unt_step (t s : List UInt8) (p : Nat) (h : p < s.length) (hn : preX t (s.drop p) = false) : untX t (s.drop p) = (untX t (s.drop (p + 1))).map fun q => (s.getD p 0 :: q.1, q.2) := by
  have e : s.drop p = s.getD p 0 :: s.drop (p + 1) := by
    rw [List.drop_eq_getElem_cons h, List.getD_eq_getElem?_getD, List.getElem?_eq_getElem h]; rfl
  rw [e] at hn ⊢
  rw [untX, if_neg (by rw [hn]; simp)]
/-- How far it is to a text. -/
def untN (t l : List UInt8) : Nat := match untX t l with
  | some q => q.1.length
  | none => l.length
theorem unt_at (t s : List UInt8) (ht : t ≠ []) (p : Nat) (a b : List UInt8) (h : untX t (s.drop p) = some (a, b)) : (s.drop p).take a.length = a ∧ b = s.drop (p + a.length + t.length) ∧ preX t (s.drop (p + a.length)) = true ∧ p + a.length + t.length ≤ s.length := by
  have e := unt_some t ht _ _ _ h
  have hl := congrArg List.length e
  rw [List.length_drop, List.length_append, List.length_append] at hl
  have hp : p ≤ s.length := by
    by_cases hp : p ≤ s.length
    · exact hp
    · have : 0 < t.length := List.length_pos_iff.2 ht
      omega
  have e2 : s.drop (p + a.length) = t ++ b := by rw [← List.drop_drop, e]; simp
  refine ⟨by rw [e]; simp, by rw [← List.drop_drop, e2]; simp, ?_, by omega⟩
  rw [e2]
  unfold preX
  exact List.isPrefixOf_iff_prefix.2 ⟨b, rfl⟩
end Go.Proofs.YthjibliaofmlhaaGreatDoor
namespace Go.Proofs.YthjibliaofmlhaaGreatDoor
set_option linter.unusedVariables false
set_option linter.unusedSimpArgs false
open Go.RowKit Go.BigFrame

/-- Where one is, read off the world. -/
def rrAt (R : Nat) (w : World) : Nat := match w.cell? ⟨R, 1, none⟩ with
  | some (.int _ v) => v.toNat
  | _ => 0
theorem rrAt_eq {w : World} {R : Nat} {s : List UInt8} {p m e : Nat} (h : Rr w R s p m e) : rrAt R w = p := by
  unfold rrAt
  rw [h.cells.2.1]
  simp
theorem unt_first (t s : List UInt8) : ∀ (k p : Nat), (∀ j, j < k → preX t (s.drop (p + j)) = false) → p + k < s.length → preX t (s.drop (p + k)) = true → untX t (s.drop p) = some ((s.drop p).take k, s.drop (p + k + t.length))
  | 0, p, _, hl, h => by
    have e : s.drop p = s.getD p 0 :: s.drop (p + 1) := by
      rw [List.drop_eq_getElem_cons (by omega), List.getD_eq_getElem?_getD, List.getElem?_eq_getElem (by omega)]; rfl
    rw [Nat.add_zero] at h
    rw [e] at h ⊢
    rw [untX, if_pos h, ← e, List.drop_drop]
    rfl
  | k + 1, p, hj, hl, h => by
    have h0 := hj 0 (by omega)
    rw [Nat.add_zero] at h0
    rw [unt_step t s p (by omega) h0, unt_first t s k (p + 1) (fun j hj' => by have := hj (j + 1) (by omega); rwa [show p + 1 + j = p + (j + 1) from by omega]) (by omega) (by rwa [show p + 1 + k = p + (k + 1) from by omega])]
    have e : s.drop p = s.getD p 0 :: s.drop (p + 1) := by
      rw [List.drop_eq_getElem_cons (by omega), List.getD_eq_getElem?_getD, List.getElem?_eq_getElem (by omega)]; rfl
    simp only [Option.map_some]
    rw [e, List.take_succ_cons, show p + 1 + k + t.length = p + (k + 1) + t.length from by omega]
theorem unt_never (t s : List UInt8) : ∀ (n p : Nat), s.length - p ≤ n → (∀ j, p + j < s.length → preX t (s.drop (p + j)) = false) → untX t (s.drop p) = none
  | 0, p, hn, _ => by
    have : s.drop p = [] := List.drop_of_length_le (by omega)
    rw [this]
    rfl
  | n + 1, p, hn, h => by
    by_cases hp : p < s.length
    · have h0 := h 0 (by omega)
      rw [Nat.add_zero] at h0
      rw [unt_step t s p hp h0, unt_never t s n (p + 1) (by omega) (fun j hj => by have := h (j + 1) (by omega); rwa [show p + 1 + j = p + (j + 1) from by omega])]
      rfl
    · have : s.drop p = [] := List.drop_of_length_le (by omega)
      rw [this]
      rfl
theorem below_undrew {w W : World} (h : Below w.drew.heap.size w.drew W) : Below w.heap.size w W := ⟨h.os, h.tape, h.output, h.size, h.block⟩
theorem only_undrew {R : Nat} {w W : World} (h : Only R w.drew W) : Only R w W := by cases h; constructor <;> assumption
set_option maxHeartbeats 2000000 in
set_option maxRecDepth 100000 in
theorem until_any (s t : List UInt8) (p m e R : Nat) (hs : s.length ≤ 1000000) (ht : t.length ≤ 1000) (h0 : t ≠ []) (hp : p ≤ s.length) (w : World) (h : Rr w R s p m e) : Calls Tryz.prog 64 #[.pointer (some ⟨R, 0, none⟩), .string (asS t)] w fun x w' => w.grownBy w' (some R) ∧
    ((∃ a b, untX t (s.drop p) = some (a, b) ∧ x = .returned (.tuple #[.string (asS a), .bool true]) ∧ Rr w' R s (p + a.length + t.length) m e ∧ b = s.drop (p + a.length + t.length) ∧ p + a.length + t.length ≤ s.length) ∨ (untX t (s.drop p) = none ∧ x = .returned (.tuple #[.string ⟨#[]⟩, .bool false]) ∧ Rr w' R s s.length m (if e = 0 then 5 else e))) := by
  have HH := hid (fun q (hq : q ≤ s.length) W hW => here_any s t q m e R hs ht hq W hW)
  have HWR : Hid (∀ W, Rr W R s s.length m e → Calls Tryz.prog 42 #[.pointer (some ⟨R, 0, none⟩), .int .i64 5] W fun x w' => x = .returned (.bool false) ∧ Rr w' R s s.length m (if e = 0 then 5 else e) ∧ Only R W w') := fun W hW => wrong_any s s.length m e 5 R W hW
  have HUF := hid (unt_first t s)
  have HUN := hid (unt_never t s s.length p)
  have HUA := hid (unt_at t s h0 p)
  have HEX : Hid (∀ k, (asS s).extract p (p + k) = asS ((s.drop p).take k)) := fun k => by show _ = _; rw [ext_asS, asS_data]; congr 2; omega
  have HR := hid h
  obtain ⟨_, c1, _, _⟩ := h.cells
  have HS := hid hs
  have HP := hid hp
  have HTL := hid ht
  have z1 := asS_size s
  have z2 := asS_size t
  clear h h0
  generalize (if e = 0 then 5 else e) = E2 at HWR ⊢
  generalize hU : untX t (s.drop p) = U at HUN HUA ⊢
  have HU := hid hU
  clear hU
  have hpl : p ≤ 1000000 := by omega
  have htl : t.length ≤ 1000 := ht
  have hsl : s.length ≤ 1000000 := hs
  have HZ1 := hid z1
  have HZ2 := hid z2
  go_enter Tryz.func64, Tryz.ntmps64
  go_wp2_with fail
  clear c1 z1 z2 hs ht hp
  go_loopw [] (fun wr => ∃ k, Hid (p + k ≤ s.length) ∧ Hid (∀ j, j < k → preX t (s.drop (p + j)) = false) ∧ Hid (Rr wr R s (p + k) m e) ∧ Hid (w.grownBy wr (some R))) (fun wr => s.length - rrAt R wr)
  case atStart => exact ⟨0, HP.out, (fun j hj => by omega), HR.out, to_refl R w⟩
  case round =>
    obtain ⟨k, HK, HN, HRK, HG⟩ := hrel
    obtain ⟨q, hq⟩ : ∃ q, p + k = q := ⟨_, rfl⟩
    have HQ := hid hq
    rw [hq] at HK HRK
    have hqs : q ≤ s.length := HK.out
    have hpq : p ≤ q := by omega
    obtain ⟨d0, d1, _, _⟩ := HRK.out.cells
    have hxx : (asS s).extract p q = asS ((s.drop p).take k) := by rw [← hq]; exact HEX.out k
    have HHK := hid (HH.out q hqs)
    have HUK : Hid (q < s.length → preX t (s.drop q) = true → U = some ((s.drop p).take k, s.drop (q + t.length))) := fun h1 hb => by
      rw [← hq] at h1 hb ⊢
      exact HU.out.symm.trans (HUF.out k p HN.out h1 hb)
    have HNX : Hid (preX t (s.drop q) = false → ∀ j, j < k + 1 → preX t (s.drop (p + j)) = false) := fun hb j hj => by
      rcases Nat.lt_succ_iff_lt_or_eq.1 hj with h1 | rfl
      · exact HN.out j h1
      · rw [hq]; exact hb
    have HTK : Hid (((s.drop p).take k).length = k) := by show _ = _; rw [List.length_take, List.length_drop]; omega
    clear hq
    obtain ⟨S, hS⟩ : ∃ S, asS s = S := ⟨_, rfl⟩
    have hsz : S.size = s.length := by rw [← hS]; exact HZ1.out
    have htz := HZ2.out
    have HRK2 := hid HRK.out
    unfold Rr at HRK2
    rw [hS] at d0 hxx HRK2
    have HSS := hid hS
    clear hS
    generalize hT : asS t = T at htz HHK ⊢
    clear hT
    generalize hsn : s.length = sn at *
    generalize htn : t.length = tn at *
    by_cases hlt : q < sn
    · have hlt' : (q : Int) < (S.size : Int) := by rw [hsz]; omega
      cases hb : preX t (s.drop q) with
      | true =>
        have HUV := hid (HUK.out hlt hb)
        have HLE : Hid (q + tn ≤ sn) := by
          have h1 := List.isPrefixOf_iff_prefix.1 hb
          have h2 := h1.length_le
          rw [List.length_drop] at h2
          show _ ≤ _
          omega
        have hle3 := HLE.out
        rw [hb] at HHK
        clear hb HUK HNX
        obtain ⟨AA, hAA⟩ : ∃ AA, asS ((s.drop p).take k) = AA := ⟨_, rfl⟩
        have HAA := hid hAA
        rw [hAA] at hxx
        clear hAA
        have HC1 := hid (HHK.out wr.drew HRK.out)
        go_wp2_with fail
        go_region
        all_goals go_wp2_with fail
        refine HC1.out.mono ?_
        rintro x W1 ⟨rfl, hb1⟩
        have hr1 := row_keep hb1 HRK2.out
        have f0 : W1.cell? ⟨R, 0, none⟩ = some (.string S) := cell_of_row _ _ _ _ _ _ hr1
        have f1 : W1.cell? ⟨R, 1, none⟩ = some (.int .i64 q) := cell_of_row _ _ _ _ _ _ hr1
        have HR1 := hid hr1
        have HB1 := hid hb1
        clear hb1 hr1
        go_wp2_with fail
        go_region
        go_wp2_with (first
          | (refine store_part rfl 3 _ _ rfl R 1 (.int .i64 ((q : Int) + (tn : Int))) _ _ #[.string S, .int .i64 ((q : Int) + (tn : Int)), .int .i64 m, .int .i64 e] rfl rfl info3r (by simp) rfl rfl HR1.out rfl ?_)
          | fail)
        intro W2 ho hr
        have HO := hid ho
        have HR2 := hid hr
        clear ho hr
        go_wp2_with fail
        go_ret2
        have g1 : Below wr.heap.size wr W1 := below_undrew HB1.out
        have g2 : Only R W1 W2 := only_undrew HO.out
        refine ⟨HG.out.trans ((to_below g1).trans (to_only g2)), .inl ⟨_, _, HUV.out, by rw [HAA.out]; rfl, ?_, ?_, ?_⟩⟩
        · rw [HTK.out, HQ.out, htn]
          show Rr _ _ _ _ _ _
          unfold Rr
          rw [HSS.out, show ((q + tn : Nat) : Int) = (q : Int) + (tn : Int) from by omega]
          exact HR2.out
        · rw [HTK.out, HQ.out, htn]
        · rw [HTK.out, HQ.out, htn, hsn]
          exact HLE.out
      | false =>
        rw [hb] at HHK
        have HN2 := hid (HNX.out hb)
        clear hb HUK HNX
        have HC1 := hid (HHK.out wr.drew HRK.out)
        go_wp2_with fail
        go_region
        all_goals go_wp2_with fail
        refine HC1.out.mono ?_
        rintro x W1 ⟨rfl, hb1⟩
        have hr1 := row_keep hb1 HRK2.out
        have f1 : W1.cell? ⟨R, 1, none⟩ = some (.int .i64 q) := cell_of_row _ _ _ _ _ _ hr1
        have HR1 := hid hr1
        have HB1 := hid hb1
        clear hb1 hr1
        go_wp2_with (first
          | (refine store_part rfl 3 _ _ rfl R 1 (.int .i64 ((q : Int) + 1)) _ _ #[.string S, .int .i64 ((q : Int) + 1), .int .i64 m, .int .i64 e] rfl rfl info3r (by simp) rfl rfl HR1.out rfl ?_)
          | fail)
        intro W2 ho hr
        have HO := hid ho
        have HR2 : Hid (Rr W2 R s (q + 1) m e) := by
          show Rr _ _ _ _ _ _
          unfold Rr
          rw [HSS.out, show ((q + 1 : Nat) : Int) = (q : Int) + 1 from by omega]
          exact hr
        clear ho hr
        go_wp2_with fail
        have g1 : Below wr.heap.size wr W1 := below_undrew HB1.out
        have g2 : Only R W1 W2 := HO.out
        go_round
        case rel =>
          refine ⟨k + 1, ?_, HN2.out, ?_, HG.out.trans ((to_below g1).trans (to_only g2))⟩
          · show p + (k + 1) ≤ _
            have := HQ.out
            omega
          · have e2 : p + (k + 1) = q + 1 := by have := HQ.out; omega
            show Rr _ _ _ _ _ _
            rw [e2]
            exact HR2.out
        case measure =>
          have e1 : rrAt R W2 = q + 1 := rrAt_eq HR2.out
          have e2 : rrAt R wr = q := rrAt_eq HRK.out
          show sn - rrAt R W2 < sn - rrAt R wr
          rw [e1, e2]
          omega
    · have hlt' : ¬ (q : Int) < (S.size : Int) := by rw [hsz]; omega
      obtain rfl : q = sn := by omega
      have HU0 : Hid (U = none) := HUN.out (by omega) fun j hj => HN.out j (by have := HQ.out; omega)
      have HWQ := hid (fun W => HWR.out W)
      clear HWR HUK HNX
      go_wp2_with fail
      go_region
      all_goals go_wp2_with fail
      refine (HWQ.out wr.drew HRK.out).mono ?_
      rintro x W1 ⟨rfl, hr, ho⟩
      have HR1 := hid hr
      have HO := hid ho
      clear hr ho
      go_wp2_with fail
      go_ret2
      have g2 : Only R wr W1 := only_undrew HO.out
      exact ⟨HG.out.trans (to_only g2), .inr ⟨HU0.out, rfl, by rw [hsn]; exact HR1.out⟩⟩
end Go.Proofs.YthjibliaofmlhaaGreatDoor
namespace Go.Proofs.YthjibliaofmlhaaGreatDoor
set_option linter.unusedVariables false
set_option linter.unusedSimpArgs false
open Go.RowKit Go.BigFrame

theorem tw_at (P : UInt8 → Bool) (s : List UInt8) (p k : Nat) (hk : k ≤ ((s.drop p).takeWhile P).length) : k < ((s.drop p).takeWhile P).length ↔ p + k < s.length ∧ P (s.getD (p + k) 0) = true := by
  rw [tw_step P (s.drop p) k hk, List.length_drop]
  have e : (s.drop p).getD k 0 = s.getD (p + k) 0 := by
    rw [List.getD_eq_getElem?_getD, List.getD_eq_getElem?_getD, List.getElem?_drop]
  rw [e]
  constructor
  · rintro ⟨h1, h2⟩
    exact ⟨by omega, h2⟩
  · rintro ⟨h1, h2⟩
    exact ⟨by omega, h2⟩
theorem tw_in (P : UInt8 → Bool) (s : List UInt8) (p : Nat) (hp : p ≤ s.length) : p + ((s.drop p).takeWhile P).length ≤ s.length := by
  have := tw_le P (s.drop p)
  rw [List.length_drop] at this
  omega
set_option maxHeartbeats 2000000 in
set_option maxRecDepth 100000 in
theorem whiteR_any (s : List UInt8) (p m e R : Nat) (hs : s.length ≤ 1000000) (hp : p ≤ s.length) (w : World) (h : Rr w R s p m e) : Calls Tryz.prog 65 #[.pointer (some ⟨R, 0, none⟩)] w fun x w' => w.grownBy w' (some R) ∧ x = .returned (.bool (decide (0 < ((s.drop p).takeWhile whX).length))) ∧ Rr w' R s (p + ((s.drop p).takeWhile whX).length) m e := by
  have HIX := hid (fun k h W => str_ix (asS s) k h W)
  rw [asS_data] at HIX
  have HT := hid refWhite_any
  have HTW := hid (tw_at whX s p)
  have HIN := hid (tw_in whX s p hp)
  have HR := hid h
  obtain ⟨_, c1, _, _⟩ := h.cells
  have z1 := asS_size s
  have hsl : s.length ≤ 1000000 := hs
  have hpl : p ≤ 1000000 := by omega
  have HZ1 := hid z1
  have HP := hid hp
  clear h hs hp z1
  obtain ⟨n, hn⟩ : ∃ n, ((s.drop p).takeWhile whX).length = n := ⟨_, rfl⟩
  rw [hn] at HTW HIN ⊢
  have hnl : p + n ≤ s.length := HIN.out
  have HNN := hid hn
  clear hn
  go_enter Tryz.func65, Tryz.ntmps65
  go_wp2_with fail
  clear c1
  go_loopw [] (fun wr => ∃ k, Hid (k ≤ n) ∧ Hid (Rr wr R s (p + k) m e) ∧ Hid (w.grownBy wr (some R))) (fun wr => s.length - rrAt R wr)
  case atStart => exact ⟨0, Nat.zero_le _, HR.out, to_refl R w⟩
  case round =>
    obtain ⟨k, HK, HRK, HG⟩ := hrel
    obtain ⟨q, hq⟩ : ∃ q, p + k = q := ⟨_, rfl⟩
    have HQ := hid hq
    have HTK := hid (HTW.out k HK.out)
    rw [hq] at HRK HTK
    clear hq
    have hqs : q ≤ s.length := by have := HQ.out; have := HK.out; omega
    have hpq : p ≤ q := by have := HQ.out; omega
    obtain ⟨d0, d1, _, _⟩ := HRK.out.cells
    obtain ⟨S, hS⟩ : ∃ S, asS s = S := ⟨_, rfl⟩
    have hsz : S.size = s.length := by rw [← hS]; exact HZ1.out
    have HRK2 := hid HRK.out
    unfold Rr at HRK2
    have HIX2 := hid (fun h W => HIX.out q h W)
    rw [hS] at d0 HRK2 HIX2
    have HSS := hid hS
    clear hS
    generalize hsn : s.length = sn at *
    by_cases hlt : q < sn
    · have hlt' : (q : Int) < (S.size : Int) := by rw [hsz]; omega
      have hix := HIX2.out (by rw [hsz]; exact hlt)
      generalize s.getD q 0 = y at hix HTK
      cases hb : whX y with
      | true =>
        have HK2 : Hid (k + 1 ≤ n) := HTK.out.2 ⟨hlt, hb⟩
        have HTY := hid (HT.out y)
        rw [hb] at HTY
        clear hb
        go_wp2_with fail
        go_quiet ((go_at_call 91; exact Calls.quiet_of_same (HTY.out _)))
        go_wp2_with (first
          | (refine store_part rfl 3 _ _ rfl R 1 (.int .i64 ((q : Int) + 1)) _ _ #[.string S, .int .i64 ((q : Int) + 1), .int .i64 m, .int .i64 e] rfl rfl info3r (by simp) rfl rfl HRK2.out rfl ?_)
          | fail)
        intro W2 ho hr
        have HO := hid ho
        have HR2 : Hid (Rr W2 R s (q + 1) m e) := by
          show Rr _ _ _ _ _ _
          unfold Rr
          rw [HSS.out, show ((q + 1 : Nat) : Int) = (q : Int) + 1 from by omega]
          exact hr
        clear ho hr
        go_wp2_with fail
        have g2 : wr.grownBy W2 (some R) := (to_below (below_drewN _ _ _)).trans (to_only HO.out)
        go_round
        case rel =>
          refine ⟨k + 1, HK2.out, ?_, HG.out.trans g2⟩
          have e2 : p + (k + 1) = q + 1 := by have := HQ.out; omega
          show Rr _ _ _ _ _ _
          rw [e2]
          exact HR2.out
        case measure =>
          have e1 : rrAt R W2 = q + 1 := rrAt_eq HR2.out
          have e2 : rrAt R wr = q := rrAt_eq HRK.out
          show sn - rrAt R W2 < sn - rrAt R wr
          rw [e1, e2]
          omega
      | false =>
        have HKN : Hid (k = n) := by
          show _ = _
          have h1 := HK.out
          have h2 : ¬ k < n := fun h => by rw [(HTK.out.1 h).2] at hb; cases hb
          omega
        have HTY := hid (HT.out y)
        rw [hb] at HTY
        clear hb
        go_wp2_with fail
        go_quiet ((go_at_call 91; exact Calls.quiet_of_same (HTY.out _)))
        go_wp2_with fail
        go_ret
        exact ⟨HG.out.trans (to_below (below_drewN _ _ _)), by rw [← HKN.out]; exact congrArg (fun b => Ending.returned (.bool b)) (decide_eq_decide.2 (by have := HQ.out; omega)), by rw [← HKN.out, HQ.out]; exact HRK.out⟩
    · have hlt' : decide ((q : Int) < (S.size : Int)) = false := by rw [hsz]; exact decide_eq_false (by omega)
      have hlt2 : decide ((q : Int) < (sn : Int)) = false := decide_eq_false (by omega)
      have HKN : Hid (k = n) := by
        show _ = _
        have h1 := HK.out
        have h2 : ¬ k < n := fun h => hlt (HTK.out.1 h).1
        omega
      go_wp2_with fail
      go_quiet (fail)
      go_wp2_with fail
      go_ret
      exact ⟨HG.out.trans (to_below (below_drewN _ _ _)), by rw [← HKN.out]; exact congrArg (fun b => Ending.returned (.bool b)) (decide_eq_decide.2 (by have := HQ.out; omega)), by rw [← HKN.out, HQ.out]; exact HRK.out⟩
set_option maxHeartbeats 2000000 in
set_option maxRecDepth 100000 in
theorem nameR_any (s : List UInt8) (p m e R : Nat) (hs : s.length ≤ 1000000) (hp : p ≤ s.length) (w : World) (h : Rr w R s p m e) : Calls Tryz.prog 66 #[.pointer (some ⟨R, 0, none⟩)] w fun x w' => w.grownBy w' (some R) ∧ x = .returned (.string (asS ((s.drop p).takeWhile latX))) ∧ Rr w' R s (p + ((s.drop p).takeWhile latX).length) m (if nameX ((s.drop p).takeWhile latX) then e else if e = 0 then 5 else e) := by
  have HIX := hid (fun k h W => str_ix (asS s) k h W)
  rw [asS_data] at HIX
  have HT := hid refLater_any
  have HTW := hid (tw_at latX s p)
  have HIN := hid (tw_in latX s p hp)
  have HR := hid h
  have HEX : Hid ((asS s).extract p (p + ((s.drop p).takeWhile latX).length) = asS ((s.drop p).takeWhile latX)) := by
    show _ = _
    rw [ext_asS, asS_data, show p + ((s.drop p).takeWhile latX).length - p = ((s.drop p).takeWhile latX).length from by omega, (tw_take latX (s.drop p)).1]
  have HNM := hid (refName_any ((s.drop p).takeWhile latX) (by have := tw_le latX (s.drop p); rw [List.length_drop] at this; omega))
  have HWR : Hid (∀ q W, Rr W R s q m e → Calls Tryz.prog 42 #[.pointer (some ⟨R, 0, none⟩), .int .i64 5] W fun x w' => x = .returned (.bool false) ∧ Rr w' R s q m (if e = 0 then 5 else e) ∧ Only R W w') := fun q W hW => wrong_any s q m e 5 R W hW
  obtain ⟨_, c1, _, _⟩ := h.cells
  have z1 := asS_size s
  have hsl : s.length ≤ 1000000 := hs
  have hpl : p ≤ 1000000 := by omega
  have HZ1 := hid z1
  have HP := hid hp
  clear h hs hp z1
  obtain ⟨n, hn⟩ : ∃ n, ((s.drop p).takeWhile latX).length = n := ⟨_, rfl⟩
  rw [hn] at HTW HIN HEX ⊢
  have hnl : p + n ≤ s.length := HIN.out
  have HNN := hid hn
  clear hn
  obtain ⟨TW, hTW⟩ : ∃ t, (s.drop p).takeWhile latX = t := ⟨_, rfl⟩
  rw [hTW] at HEX HNM HNN ⊢
  clear hTW
  obtain ⟨E3, hE3⟩ : ∃ E3, (if nameX TW then e else if e = 0 then 5 else e) = E3 := ⟨_, rfl⟩
  have HEY : Hid (nameX TW = true → E3 = e) := fun h => by rw [← hE3, h, if_pos rfl]
  have HEN : Hid (nameX TW = false → E3 = if e = 0 then 5 else e) := fun h => by rw [← hE3, h]; simp
  rw [hE3]
  clear hE3
  generalize (if e = 0 then 5 else e) = E5 at HEN HWR
  generalize asS TW = NM at HEX HNM ⊢
  go_enter Tryz.func66, Tryz.ntmps66
  go_wp2_with fail
  clear c1
  go_loopw [] (fun wr => ∃ k, Hid (k ≤ n) ∧ Hid (Rr wr R s (p + k) m e) ∧ Hid (w.grownBy wr (some R))) (fun wr => s.length - rrAt R wr)
  case atStart => exact ⟨0, Nat.zero_le _, HR.out, to_refl R w⟩
  case round =>
    obtain ⟨k, HK, HRK, HG⟩ := hrel
    obtain ⟨q, hq⟩ : ∃ q, p + k = q := ⟨_, rfl⟩
    have HQ := hid hq
    have HTK := hid (HTW.out k HK.out)
    rw [hq] at HRK HTK
    clear hq
    have hqs : q ≤ s.length := by have := HQ.out; have := HK.out; omega
    have hpq : p ≤ q := by have := HQ.out; omega
    obtain ⟨d0, d1, _, _⟩ := HRK.out.cells
    obtain ⟨S, hS⟩ : ∃ S, asS s = S := ⟨_, rfl⟩
    have hsz : S.size = s.length := by rw [← hS]; exact HZ1.out
    have HRK2 := hid HRK.out
    unfold Rr at HRK2
    have HIX2 := hid (fun h W => HIX.out q h W)
    rw [hS] at d0 HRK2 HIX2
    have HSS := hid hS
    clear hS
    generalize hsn : s.length = sn at *
    by_cases hlt : q < sn
    · have hlt' : (q : Int) < (S.size : Int) := by rw [hsz]; omega
      have hix := HIX2.out (by rw [hsz]; exact hlt)
      generalize s.getD q 0 = y at hix HTK
      cases hb : latX y with
      | true =>
        have HK2 : Hid (k + 1 ≤ n) := HTK.out.2 ⟨hlt, hb⟩
        have HTY := hid (HT.out y)
        rw [hb] at HTY
        clear hb
        go_wp2_with fail
        go_quiet ((go_at_call 77; exact Calls.quiet_of_same (HTY.out _)))
        go_wp2_with (first
          | (refine store_part rfl 3 _ _ rfl R 1 (.int .i64 ((q : Int) + 1)) _ _ #[.string S, .int .i64 ((q : Int) + 1), .int .i64 m, .int .i64 e] rfl rfl info3r (by simp) rfl rfl HRK2.out rfl ?_)
          | fail)
        intro W2 ho hr
        have HO := hid ho
        have HR2 : Hid (Rr W2 R s (q + 1) m e) := by
          show Rr _ _ _ _ _ _
          unfold Rr
          rw [HSS.out, show ((q + 1 : Nat) : Int) = (q : Int) + 1 from by omega]
          exact hr
        clear ho hr
        go_wp2_with fail
        have g2 : wr.grownBy W2 (some R) := (to_below (below_drewN _ _ _)).trans (to_only HO.out)
        go_round
        case rel =>
          refine ⟨k + 1, HK2.out, ?_, HG.out.trans g2⟩
          have e2 : p + (k + 1) = q + 1 := by have := HQ.out; omega
          show Rr _ _ _ _ _ _
          rw [e2]
          exact HR2.out
        case measure =>
          have e1 : rrAt R W2 = q + 1 := rrAt_eq HR2.out
          have e2 : rrAt R wr = q := rrAt_eq HRK.out
          show sn - rrAt R W2 < sn - rrAt R wr
          rw [e1, e2]
          omega
      | false =>
        have HKN : Hid (k = n) := by
          show _ = _
          have h1 := HK.out
          have h2 : ¬ k < n := fun h => by rw [(HTK.out.1 h).2] at hb; cases hb
          omega
        have HTY := hid (HT.out y)
        rw [hb] at HTY
        clear hb
        go_wp2_with fail
        go_quiet ((go_at_call 77; exact Calls.quiet_of_same (HTY.out _)))
        have hqn : p + n = q := by have h1 := HQ.out; have h2 := HKN.out; omega
        have hex : S.extract p q = NM := by have h1 := HEX.out; rw [hqn, HSS.out] at h1; exact h1
        have HWQ := hid (HWR.out q)
        have f0 : (wr.drewN nq).cell? ⟨R, 0, none⟩ = some (.string S) := d0
        have f1 : (wr.drewN nq).cell? ⟨R, 1, none⟩ = some (.int .i64 q) := d1
        clear HEX HWR HKN HTK HTW HT HIX HIX2
        cases hnm : nameX TW with
        | true =>
          rw [hnm] at HNM
          have HE := hid (HEY.out hnm)
          clear hnm
          go_wp2_with fail
          go_region
          all_goals go_wp2_with fail
          refine (HNM.out _).mono ?_
          rintro x W1 ⟨rfl, rfl⟩
          go_wp2_with fail
          go_ret
          exact ⟨HG.out.trans (to_below (below_drewN _ _ _)), rfl, by rw [hqn, HE.out]; exact HRK.out⟩
        | false =>
          rw [hnm] at HNM
          have HE := hid (HEN.out hnm)
          clear hnm
          go_wp2_with fail
          go_region
          all_goals go_wp2_with fail
          refine (HNM.out _).mono ?_
          rintro x W1 ⟨rfl, rfl⟩
          go_wp2_with fail
          refine (HWQ.out (wr.drewN (nq + 1)) HRK.out).mono ?_
          rintro x W1 ⟨rfl, hr, ho⟩
          have HR1 := hid hr
          have HO := hid ho
          clear hr ho
          go_wp2_with fail
          go_ret
          exact ⟨HG.out.trans ((to_below (below_drewN _ _ _)).trans (to_only HO.out)), rfl, by rw [hqn, HE.out]; exact HR1.out⟩
    · have hlt' : decide ((q : Int) < (S.size : Int)) = false := by rw [hsz]; exact decide_eq_false (by omega)
      have hlt2 : decide ((q : Int) < (sn : Int)) = false := decide_eq_false (by omega)
      have HKN : Hid (k = n) := by
        show _ = _
        have h1 := HK.out
        have h2 : ¬ k < n := fun h => hlt (HTK.out.1 h).1
        omega
      go_wp2_with fail
      go_quiet (fail)
      have hqn : p + n = q := by have h1 := HQ.out; have h2 := HKN.out; omega
      have hex : S.extract p q = NM := by have h1 := HEX.out; rw [hqn, HSS.out] at h1; exact h1
      have HWQ := hid (HWR.out q)
      have f0 : (wr.drewN nq).cell? ⟨R, 0, none⟩ = some (.string S) := d0
      have f1 : (wr.drewN nq).cell? ⟨R, 1, none⟩ = some (.int .i64 q) := d1
      clear HEX HWR HKN HTK HTW HT HIX HIX2
      cases hnm : nameX TW with
      | true =>
        rw [hnm] at HNM
        have HE := hid (HEY.out hnm)
        clear hnm
        go_wp2_with fail
        go_region
        all_goals go_wp2_with fail
        refine (HNM.out _).mono ?_
        rintro x W1 ⟨rfl, rfl⟩
        go_wp2_with fail
        go_ret
        exact ⟨HG.out.trans (to_below (below_drewN _ _ _)), rfl, by rw [hqn, HE.out]; exact HRK.out⟩
      | false =>
        rw [hnm] at HNM
        have HE := hid (HEN.out hnm)
        clear hnm
        go_wp2_with fail
        go_region
        all_goals go_wp2_with fail
        refine (HNM.out _).mono ?_
        rintro x W1 ⟨rfl, rfl⟩
        go_wp2_with fail
        refine (HWQ.out (wr.drewN (nq + 1)) HRK.out).mono ?_
        rintro x W1 ⟨rfl, hr, ho⟩
        have HR1 := hid hr
        have HO := hid ho
        clear hr ho
        go_wp2_with fail
        go_ret
        exact ⟨HG.out.trans ((to_below (below_drewN _ _ _)).trans (to_only HO.out)), rfl, by rw [hqn, HE.out]; exact HR1.out⟩
end Go.Proofs.YthjibliaofmlhaaGreatDoor
namespace Go.Proofs.YthjibliaofmlhaaGreatDoor
set_option linter.unusedVariables false
set_option linter.unusedSimpArgs false
open Go.RowKit Go.BigFrame

theorem hd_tw (l : List UInt8) : hdW l = decide (0 < (l.takeWhile whX).length) := by
  cases l with
  | nil => rfl
  | cons c r =>
    show whX c = _
    rw [List.takeWhile_cons]
    cases hc : whX c <;> simp
theorem dw_at (P : UInt8 → Bool) (s : List UInt8) (p : Nat) : (s.drop p).dropWhile P = s.drop (p + ((s.drop p).takeWhile P).length) := by
  rw [← List.drop_drop, (tw_take P (s.drop p)).2]
/-- How it stands among white, comments and notes. -/
def AsR (all : Bool) (s : List UInt8) (p m R : Nat) (V : Except Nat (List UInt8)) (w : World) : Prop :=
  (∃ q, p ≤ q ∧ q ≤ s.length ∧ asW all (s.drop q) = V ∧ Rr w R s q m 0) ∨ (V = .error 5 ∧ Rr w R s s.length m 5)
theorem Rr.e {w : World} {R : Nat} {s : List UInt8} {p m e : Nat} (h : Rr w R s p m e) : w.cell? ⟨R, 3, none⟩ = some (.int .i64 e) := h.cells.2.2.2
theorem asideR_no (all : Bool) (s : List UInt8) (p m e R : Nat) (he : e ≠ 0) (w : World) (h : Rr w R s p m e) : Calls Tryz.prog 39 #[.pointer (some ⟨R, 0, none⟩), .bool all] w fun x w' => (∃ v, x = .returned v) ∧ w' = w := by
  have c3 := h.e
  have he' : ((e : Int) == 0) = false := by rw [beq_eq_false_iff_ne]; omega
  clear h he
  go_enter Tryz.func39, Tryz.ntmps39
  go_wp2_with fail
  go_loopw [] (fun wr => wr = w) (fun _ => 0)
  case atStart => rfl
  case round =>
    subst hrel
    go_wp2_with fail
    exact ⟨by simp, _, results_none rfl _ _ _, ⟨_, rfl⟩, rfl⟩
set_option maxHeartbeats 2000000 in
theorem asideR_any (all : Bool) (s : List UInt8) (p m R : Nat) (hs : s.length ≤ 1000000) (hp : p ≤ s.length) (w : World) (h : Rr w R s p m 0) : Calls Tryz.prog 39 #[.pointer (some ⟨R, 0, none⟩), .bool all] w fun x w' => w.grownBy w' (some R) ∧ (∃ v, x = .returned v) ∧
    ((∃ q, p ≤ q ∧ q ≤ s.length ∧ asW all (s.drop p) = .ok (s.drop q) ∧ Rr w' R s q m 0) ∨ (asW all (s.drop p) = .error 5 ∧ Rr w' R s s.length m 5)) := by
  have HPC : Hid (∀ q, q ≤ s.length → ∀ W, Rr W R s q m 0 → Calls Tryz.prog 63 #[.pointer (some ⟨R, 0, none⟩), .string ⟨#[60, 33, 45, 45]⟩] W fun x w' => x = .returned (.bool (preX [60, 33, 45, 45] (s.drop q))) ∧ Rr w' R s (if preX [60, 33, 45, 45] (s.drop q) then q + 4 else q) m 0 ∧ W.grownBy w' (some R)) := fun q hq W hW => past_any s [60, 33, 45, 45] q m 0 R hs (by simp) hq W hW
  have HPN : Hid (∀ q, q ≤ s.length → ∀ W, Rr W R s q m 0 → Calls Tryz.prog 63 #[.pointer (some ⟨R, 0, none⟩), .string ⟨#[60, 63]⟩] W fun x w' => x = .returned (.bool (preX [60, 63] (s.drop q))) ∧ Rr w' R s (if preX [60, 63] (s.drop q) then q + 2 else q) m 0 ∧ W.grownBy w' (some R)) := fun q hq W hW => past_any s [60, 63] q m 0 R hs (by simp) hq W hW
  have HUC := hid (fun q (hq : q ≤ s.length) W hW => until_any s [45, 45, 62] q m 0 R hs (by simp) (by simp) hq W hW)
  have HUN := hid (fun q (hq : q ≤ s.length) W hW => until_any s [63, 62] q m 0 R hs (by simp) (by simp) hq W hW)
  have HWH := hid (fun q (hq : q ≤ s.length) W hW => whiteR_any s q m 0 R hs hq W hW)
  have HR := hid h
  have HP := hid hp
  clear h hp hs
  generalize hV : asW all (s.drop p) = V
  have HV := hid hV
  clear hV
  go_enter Tryz.func39, Tryz.ntmps39
  go_wp2_with fail
  go_loopw [] (fun wr => Hid (AsR all s p m R V wr) ∧ Hid (w.grownBy wr (some R))) (fun wr => s.length - rrAt R wr)
  case atStart => exact ⟨.inl ⟨p, Nat.le_refl _, HP.out, HV.out, HR.out⟩, to_refl R w⟩
  case round =>
    obtain ⟨HAS, HG⟩ := hrel
    rcases HAS.out with ⟨q, hpq, hqs, hv, hr⟩ | ⟨hv, hr⟩
    · have c3 := hr.e
      have HRQ := hid hr
      have HVQ := hid hv
      have HQS := hid hqs
      have HPQ := hid hpq
      clear HAS hr hv hpq hqs
      cases hc : preX [60, 33, 45, 45] (s.drop q) with
      | true =>
        have HLE : Hid (q + 4 ≤ s.length) := by
          have h1 := List.isPrefixOf_iff_prefix.1 hc
          have h2 := h1.length_le
          rw [List.length_drop] at h2
          show _ ≤ _
          simp at h2
          omega
        have HST := hid (asW_c all hc)
        have HC := hid (HPC.out q HQS.out wr HRQ.out)
        have HU := hid (HUC.out (q + 4) HLE.out)
        rw [hc, if_pos rfl] at HC
        rw [List.drop_drop] at HST
        clear hc
        go_wp2_with fail
        refine HC.out.mono ?_
        rintro x W1 ⟨rfl, hr, hg⟩
        have HR1 := hid hr
        have HG1 := hid (HG.out.trans hg)
        clear hr hg
        go_wp2_with fail
        refine (HU.out W1 HR1.out).mono ?_
        rintro x W2 ⟨hg, hx⟩
        have HG2 := hid (HG1.out.trans hg)
        clear hg
        rcases hx with ⟨a, b, hu, rfl, hr, hb, hl⟩ | ⟨hu, rfl, hr⟩
        · have HN : Hid (AsR all s p m R V W2) := .inl ⟨_, by have := HPQ.out; omega, hl, by rw [← HVQ.out, HST.out, hu, hb], hr⟩
          have HA2 : Hid (rrAt R W2 = q + 4 + a.length + [45, 45, 62].length) := rrAt_eq hr
          clear hu hr hb hl
          go_wp2_with fail
          go_roundw
          case rel => exact ⟨HN, HG2⟩
          case measure =>
            rw [HA2.out, rrAt_eq HRQ.out]
            have := HLE.out
            omega
        · have HN : Hid (AsR all s p m R V W2) := .inr ⟨by rw [← HVQ.out, HST.out, hu], hr⟩
          have HA2 : Hid (rrAt R W2 = s.length) := rrAt_eq hr
          clear hu hr
          go_wp2_with fail
          go_roundw
          case rel => exact ⟨HN, HG2⟩
          case measure =>
            rw [HA2.out, rrAt_eq HRQ.out]
            have := HLE.out
            omega
      | false =>
        have HC := hid (HPC.out q HQS.out wr HRQ.out)
        rw [hc, if_neg (by simp)] at HC
        have HCF := hid hc
        clear hc
        go_wp2_with fail
        refine HC.out.mono ?_
        rintro x W1 ⟨rfl, hr, hg⟩
        have HR1 := hid hr
        have HG1 := hid (HG.out.trans hg)
        clear hr hg
        cases hn : preX [60, 63] (s.drop q) with
        | true =>
          have HLE : Hid (q + 2 ≤ s.length) := by
            have h1 := List.isPrefixOf_iff_prefix.1 hn
            have h2 := h1.length_le
            rw [List.length_drop] at h2
            show _ ≤ _
            simp at h2
            omega
          have HST := hid (asW_n all HCF.out hn)
          have HC2 := hid (HPN.out q HQS.out W1 HR1.out)
          have HU := hid (HUN.out (q + 2) HLE.out)
          rw [hn, if_pos rfl] at HC2
          rw [List.drop_drop] at HST
          clear hn
          go_wp2_with fail
          refine HC2.out.mono ?_
          rintro x W2 ⟨rfl, hr, hg⟩
          have HR2 := hid hr
          have HG2 := hid (HG1.out.trans hg)
          clear hr hg
          go_wp2_with fail
          refine (HU.out W2 HR2.out).mono ?_
          rintro x W3 ⟨hg, hx⟩
          have HG3 := hid (HG2.out.trans hg)
          clear hg
          rcases hx with ⟨a, b, hu, rfl, hr, hb, hl⟩ | ⟨hu, rfl, hr⟩
          · have HN : Hid (AsR all s p m R V W3) := .inl ⟨_, by have := HPQ.out; omega, hl, by rw [← HVQ.out, HST.out, hu, hb], hr⟩
            have HA2 : Hid (rrAt R W3 = q + 2 + a.length + [63, 62].length) := rrAt_eq hr
            clear hu hr hb hl
            go_wp2_with fail
            go_roundw
            case rel => exact ⟨HN, HG3⟩
            case measure =>
              rw [HA2.out, rrAt_eq HRQ.out]
              have := HLE.out
              omega
          · have HN : Hid (AsR all s p m R V W3) := .inr ⟨by rw [← HVQ.out, HST.out, hu], hr⟩
            have HA2 : Hid (rrAt R W3 = s.length) := rrAt_eq hr
            clear hu hr
            go_wp2_with fail
            go_roundw
            case rel => exact ⟨HN, HG3⟩
            case measure =>
              rw [HA2.out, rrAt_eq HRQ.out]
              have := HLE.out
              omega
        | false =>
          have HC2 := hid (HPN.out q HQS.out W1 HR1.out)
          rw [hn, if_neg (by simp)] at HC2
          have HNF := hid hn
          clear hn
          have HOK := hid (asW_ok all HCF.out HNF.out)
          go_wp2_with fail
          refine HC2.out.mono ?_
          rintro x W2 ⟨rfl, hr, hg⟩
          have HR2 := hid hr
          have HG2 := hid (HG1.out.trans hg)
          clear hr hg
          cases all with
          | false =>
            go_wp2_with fail
            refine ⟨by simp, ⟨_, results_none rfl _ _ _, HG2.out, ⟨_, rfl⟩, .inl ⟨q, HPQ.out, HQS.out, by rw [← HVQ.out, HOK.out rfl], HR2.out⟩⟩⟩
          | true =>
            have HWC := hid (HWH.out q HQS.out W2 HR2.out)
            cases hh : hdW (s.drop q) with
            | false =>
              have hz : decide (0 < ((s.drop q).takeWhile whX).length) = false := by rw [← hd_tw]; exact hh
              have hz2 : ((s.drop q).takeWhile whX).length = 0 := by have := of_decide_eq_false hz; omega
              rw [hz, hz2] at HWC
              have HOK2 := hid (HOK.out (by rw [hh]; rfl))
              clear hh hz hz2
              go_wp2_with fail
              refine HWC.out.mono ?_
              rintro x W3 ⟨hg, rfl, hr⟩
              have HR3 := hid hr
              have HG3 := hid (HG2.out.trans hg)
              clear hr hg
              go_wp2_with fail
              refine ⟨by simp, ⟨_, results_none rfl _ _ _, HG3.out, ⟨_, rfl⟩, .inl ⟨q, HPQ.out, HQS.out, by rw [← HVQ.out, HOK2.out], HR3.out⟩⟩⟩
            | true =>
              have hz : decide (0 < ((s.drop q).takeWhile whX).length) = true := by rw [← hd_tw]; exact hh
              have HPOS : Hid (0 < ((s.drop q).takeWhile whX).length) := by show 0 < _; exact of_decide_eq_true hz
              rw [hz] at HWC
              have HST := hid (asW_w HCF.out HNF.out hh)
              rw [dw_at] at HST
              have HIN := hid (tw_in whX s q HQS.out)
              generalize ((s.drop q).takeWhile whX).length = n at HPOS HWC HST HIN
              clear hh hz
              go_wp2_with fail
              refine HWC.out.mono ?_
              rintro x W3 ⟨hg, rfl, hr⟩
              have HN : Hid (AsR true s p m R V W3) := .inl ⟨q + n, by have := HPQ.out; omega, HIN.out, by rw [← HVQ.out, HST.out], hr⟩
              have HA2 : Hid (rrAt R W3 = q + n) := rrAt_eq hr
              have HG3 := hid (HG2.out.trans hg)
              clear hr hg
              go_wp2_with fail
              go_roundw
              case rel => exact ⟨HN, HG3⟩
              case measure =>
                rw [HA2.out, rrAt_eq HRQ.out]
                have := HIN.out
                have := HPOS.out
                omega
    · have c3 := hr.e
      have HRQ := hid hr
      have HVQ := hid hv
      clear HAS hr hv
      go_wp2_with fail
      refine ⟨by simp, ⟨_, results_none rfl _ _ _, HG.out, ⟨_, rfl⟩, .inr ⟨HVQ.out, HRQ.out⟩⟩⟩
end Go.Proofs.YthjibliaofmlhaaGreatDoor
namespace Go.Proofs.YthjibliaofmlhaaGreatDoor
set_option linter.unusedVariables false
set_option linter.unusedSimpArgs false
open Go.RowKit Go.BigFrame

/-- Did the end of a section stand among the first k? -/
def badR (s : List UInt8) (p : Nat) : Nat → Bool
  | 0 => false
  | k + 1 => badR s p k || preX [93, 93, 62] (s.drop (p + k))
/-- What is wrong then. -/
def fiveR (b : Bool) : Nat := if b then 5 else 0
def ltB (c : UInt8) : Bool := c != 60
theorem pre_lt {l : List UInt8} (h : preX [93, 93, 62] l = true) : preX [93, 93, 62] (l.takeWhile ltB) = true := by
  unfold preX at h ⊢
  obtain ⟨r, rfl⟩ := List.isPrefixOf_iff_prefix.1 h
  exact List.isPrefixOf_iff_prefix.2 ⟨r.takeWhile ltB, rfl⟩
theorem pre_tw {l : List UInt8} (h : preX [93, 93, 62] (l.takeWhile ltB) = true) : preX [93, 93, 62] l = true := by
  unfold preX at h ⊢
  have h1 := List.isPrefixOf_iff_prefix.1 h
  exact List.isPrefixOf_iff_prefix.2 (h1.trans ⟨_, List.takeWhile_append_dropWhile⟩)
theorem tw_drop (P : UInt8 → Bool) : ∀ (l : List UInt8) (k : Nat), k ≤ (l.takeWhile P).length → (l.takeWhile P).drop k = (l.drop k).takeWhile P
  | _, 0, _ => rfl
  | [], k + 1, h => by simp at h
  | c :: r, k + 1, h => by
    rw [List.takeWhile_cons] at h ⊢
    cases hc : P c with
    | true =>
      rw [hc] at h
      simp only [if_true, List.length_cons] at h
      simp only [if_true, List.drop_succ_cons]
      exact tw_drop P r k (by omega)
    | false => rw [hc] at h; simp at h
theorem unt_bad (s : List UInt8) (p : Nat) : ∀ k, k ≤ ((s.drop p).takeWhile ltB).length → badR s p k = false → ∀ j, j < k → preX [93, 93, 62] (((s.drop p).takeWhile ltB).drop j) = false
  | 0, _, _, j, hj => by omega
  | k + 1, hk, hb, j, hj => by
    rw [badR, Bool.or_eq_false_iff] at hb
    by_cases hjk : j < k
    · exact unt_bad s p k (by omega) hb.1 j hjk
    · obtain rfl : j = k := by omega
      cases hp : preX [93, 93, 62] (((s.drop p).takeWhile ltB).drop j) with
      | false => rfl
      | true =>
        rw [tw_drop ltB _ _ (by omega), List.drop_drop] at hp
        rw [pre_tw hp] at hb
        cases hb.2
theorem bad_unt (s : List UInt8) (p : Nat) : ∀ k, k ≤ ((s.drop p).takeWhile ltB).length → badR s p k = true → (untX [93, 93, 62] ((s.drop p).takeWhile ltB)).isSome = true
  | 0, _, h => by cases h
  | k + 1, hk, h => by
    rw [badR, Bool.or_eq_true] at h
    rcases h with h | h
    · exact bad_unt s p k (by omega) h
    · have h2 := pre_lt h
      rw [← List.drop_drop, ← tw_drop ltB _ _ (by omega)] at h2
      generalize (s.drop p).takeWhile ltB = l at h2 hk
      cases hu : untX [93, 93, 62] l with
      | some q => rfl
      | none =>
        exfalso
        have : ∀ (l : List UInt8) (k : Nat), k < l.length → preX [93, 93, 62] (l.drop k) = true → untX [93, 93, 62] l ≠ none := by
          intro l
          induction l with
          | nil => intro k hk; simp at hk
          | cons c r ih =>
            intro k hk hp hn
            rw [untX] at hn
            split at hn
            · cases hn
            · rename_i hne
              cases k with
              | zero => exact hne hp
              | succ k =>
                rw [Option.map_eq_none_iff] at hn
                exact ih k (by simp at hk; omega) hp hn
        exact this l k (by omega) h2 hu
theorem bad_is (s : List UInt8) (p : Nat) : badR s p ((s.drop p).takeWhile ltB).length = (untX [93, 93, 62] ((s.drop p).takeWhile ltB)).isSome := by
  cases hb : badR s p ((s.drop p).takeWhile ltB).length with
  | true => exact (bad_unt s p _ (Nat.le_refl _) hb).symm
  | false =>
    have h := unt_bad s p _ (Nat.le_refl _) hb
    generalize (s.drop p).takeWhile ltB = l at h
    have := unt_never [93, 93, 62] l l.length 0 (by omega) (fun j hj => by rw [Nat.zero_add]; exact h j (by omega))
    rw [List.drop_zero] at this
    rw [this]
    rfl
/-- What run finds wrong. -/
def runBad (s : List UInt8) (p : Nat) : Bool := (untX [93, 93, 62] ((s.drop p).takeWhile ltB)).isSome || !(unA ((s.drop p).takeWhile ltB)).isSome || ((s.drop p).dropWhile ltB).isEmpty
theorem runBad_eq (s : List UInt8) (p : Nat) (hp : p ≤ s.length) : runBad s p = (badR s p ((s.drop p).takeWhile ltB).length || (!(unA ((s.drop p).takeWhile ltB)).isSome || decide (p + ((s.drop p).takeWhile ltB).length = s.length))) := by
  unfold runBad
  rw [bad_is, Bool.or_assoc, dw_at]
  congr 2
  have h := tw_in ltB s p hp
  rw [Bool.eq_iff_iff, List.isEmpty_iff_length_eq_zero, List.length_drop, decide_eq_true_iff]
  omega
theorem step_call1 {ops : Array Oper} {o : Oper} {a : Act} {w : World} {K : Act → World → Prop} {Q : Exit → Act → World → Prop} {E : Prop} (hgd : o.guard = none) (f : FuncId) (x : Operand) (ts : Array TypeId)
    (ho : o.op = .call { callee := .value (.func f), args := #[x], argTypes := ts }) (eg : ∀ args w, (callFunc f args).run Tryz.prog w = .ok (.enter f args) w) (xv : Value) (hx : a.eval x = xv)
    {R : Value → World → Prop} (hc : Calls Tryz.prog f #[xv] w fun e w' => ∃ v, e = .returned v ∧ R v w') (h : ∀ v w', R v w' → K (a.put o.dst v) w') :
    if Region.wanted o (yielded ops a.tmps) = true then Oper.wp Tryz.prog o a w K Q else E :=
  step_call hgd f #[x] ts ho eg #[xv] (by simp [hx]) hc h
theorem five_or (b : Bool) : (if fiveR b = 0 then 5 else fiveR b) = 5 ∧ fiveR (b || true) = 5 ∧ fiveR (b || false) = fiveR b := by cases b <;> exact ⟨rfl, rfl, rfl⟩
set_option maxHeartbeats 2000000 in
set_option maxRecDepth 100000 in
theorem runR_any (s : List UInt8) (p m R : Nat) (hs : s.length ≤ 100000) (hp : p ≤ s.length) (w : World) (h : Rr w R s p m 0) : Calls Tryz.prog 70 #[.pointer (some ⟨R, 0, none⟩)] w fun x w' => w.grownBy w' (some R) ∧ x = .returned (.string (asS ((unA ((s.drop p).takeWhile ltB)).getD []))) ∧ Rr w' R s (p + ((s.drop p).takeWhile ltB).length) m (fiveR (runBad s p)) := by
  rw [runBad_eq s p hp]
  have HIX := hid (fun k h W => str_ix (asS s) k h W)
  rw [asS_data] at HIX
  have HTW := hid (tw_at ltB s p)
  have HIN := hid (tw_in ltB s p hp)
  have HH : Hid (∀ q, q ≤ s.length → ∀ e W, Rr W R s q m e → Calls Tryz.prog 40 #[.pointer (some ⟨R, 0, none⟩), .string ⟨#[93, 93, 62]⟩] W fun x w' => x = .returned (.bool (preX [93, 93, 62] (s.drop q))) ∧ Below W.heap.size W w') := fun q hq e W hW => here_any s [93, 93, 62] q m e R (by omega) (by simp) hq W hW
  have HEX : Hid ((asS s).extract p (p + ((s.drop p).takeWhile ltB).length) = asS ((s.drop p).takeWhile ltB)) := by
    show _ = _
    rw [ext_asS, asS_data, show p + ((s.drop p).takeWhile ltB).length - p = ((s.drop p).takeWhile ltB).length from by omega, (tw_take ltB (s.drop p)).1]
  have HUN := hid (fun W => refUn_any ((s.drop p).takeWhile ltB) (by have := tw_le ltB (s.drop p); rw [List.length_drop] at this; omega) W)
  have HWR : Hid (∀ q e W, Rr W R s q m e → Calls Tryz.prog 42 #[.pointer (some ⟨R, 0, none⟩), .int .i64 5] W fun x w' => x = .returned (.bool false) ∧ Rr w' R s q m (if e = 0 then 5 else e) ∧ Only R W w') := fun q e W hW => wrong_any s q m e 5 R W hW
  have HR := hid h
  obtain ⟨_, c1, _, _⟩ := h.cells
  have z1 := asS_size s
  have hsl : s.length ≤ 100000 := hs
  have hpl : p ≤ 100000 := by omega
  have HZ1 := hid z1
  have HP := hid hp
  have HB0 : Hid (badR s p 0 = false) := rfl
  have HBS : Hid (∀ k, badR s p (k + 1) = (badR s p k || preX [93, 93, 62] (s.drop (p + k)))) := fun k => rfl
  clear h hs hp z1
  obtain ⟨TW, hTW⟩ : ∃ t, (s.drop p).takeWhile ltB = t := ⟨_, rfl⟩
  rw [hTW] at HTW HIN HEX HUN ⊢
  clear hTW
  obtain ⟨n, hn⟩ : ∃ n, TW.length = n := ⟨_, rfl⟩
  rw [hn] at HTW HIN HEX ⊢
  have hnl : p + n ≤ s.length := HIN.out
  clear hn
  obtain ⟨EV, hEV⟩ : ∃ EV, fiveR (badR s p n || (!(unA TW).isSome || decide (p + n = s.length))) = EV := ⟨_, rfl⟩
  have HEV := hid hEV
  rw [hEV]
  clear hEV
  generalize asS TW = NM at HEX HUN
  generalize asS ((unA TW).getD []) = OUT at HUN ⊢
  go_enter Tryz.func70, Tryz.ntmps70
  go_wp2_with fail
  clear c1
  go_loopw [] (fun wr => ∃ k, Hid (k ≤ n) ∧ Hid (Rr wr R s (p + k) m (fiveR (badR s p k))) ∧ Hid (w.grownBy wr (some R))) (fun wr => s.length - rrAt R wr)
  case atStart => exact ⟨0, Nat.zero_le _, HR.out, to_refl R w⟩
  case round =>
    obtain ⟨k, HK, HRK, HG⟩ := hrel
    obtain ⟨q, hq⟩ : ∃ q, p + k = q := ⟨_, rfl⟩
    have HQ := hid hq
    have HTK := hid (HTW.out k HK.out)
    have HBK := hid (HBS.out k)
    rw [hq] at HRK HTK HBK
    clear hq
    have hqs : q ≤ s.length := by have := HQ.out; have := HK.out; omega
    have hpq : p ≤ q := by have := HQ.out; omega
    obtain ⟨d0, d1, _, _⟩ := HRK.out.cells
    obtain ⟨S, hS⟩ : ∃ S, asS s = S := ⟨_, rfl⟩
    have hsz : S.size = s.length := by rw [← hS]; exact HZ1.out
    have HIX2 := hid (fun h W => HIX.out q h W)
    rw [hS] at d0 HIX2
    have HSS := hid hS
    clear hS
    generalize hsn : s.length = sn at *
    by_cases hlt : q < sn
    · have hlt' : (q : Int) < (S.size : Int) := by rw [hsz]; omega
      have hix := HIX2.out (by rw [hsz]; exact hlt)
      generalize s.getD q 0 = y at hix HTK
      by_cases hb : y = 60
      · subst hb
        have HKN : Hid (k = n) := by
          show _ = _
          have h1 := HK.out
          have h2 : ¬ k < n := fun h => by have := (HTK.out.1 h).2; cases this
          omega
        go_wp2_with fail
        go_quiet (fail)
        have hqn : p + n = q := by have h1 := HQ.out; have h2 := HKN.out; omega
        have hex : S.extract p q = NM := by have h1 := HEX.out; rw [hqn, HSS.out] at h1; exact h1
        have f0 : (wr.drewN nq).cell? ⟨R, 0, none⟩ = some (.string S) := d0
        have f1 : (wr.drewN nq).cell? ⟨R, 1, none⟩ = some (.int .i64 q) := d1
        have HEN := hid (enters_of Tryz.func93 (by kernel_rfl) rfl)
        have HEV2 := hid HEV.out
        rw [hqn, ← HKN.out] at HEV2
        have HRN : Hid (∀ W, Below wr.heap.size wr W → W.heap[R]? = some (.cells #[.string S, .int .i64 q, .int .i64 m, .int .i64 (fiveR (badR s p k))] 67 (0, 0))) := fun W hW => by have h1 := row_keep hW HRK.out; rw [HSS.out] at h1; exact h1
        have HRM : Hid (∀ W, Below wr.heap.size wr W → Rr W R s q m (fiveR (badR s p k))) := fun W hW => HRK.out.below hW
        have HWQ := hid (HWR.out q (fiveR (badR s p k)))
        obtain ⟨h51, h52, h53⟩ := five_or (badR s p k)
        rw [h51] at HWQ
        clear HEX HWR HTK HTW HIX HIX2 HH HBK HBS HB0 HEV
        generalize fiveR (badR s p k) = E0 at *
        cases hu : (unA TW).isSome with
        | false =>
          rw [hu] at HUN HEV2
          have HE : Hid (EV = 5) := HEV2.out.symm.trans (by simpa using h52)
          clear hu HEV2 h51 h52 h53
          have HUC : Hid (∀ W, Below wr.heap.size wr W → Calls Tryz.prog 93 #[.string NM] W fun x w' => ∃ v, x = .returned v ∧ (v = .tuple #[.string OUT, .bool false] ∧ Below wr.heap.size wr w')) := fun W hW => (HUN.out W).mono fun x w' hh => ⟨_, hh.1, rfl, hW.trans (hh.2.mono hW.size)⟩
          go_wp2_with fail
          go_region_law ((first
            | (refine step_call1 (by rfl) 93 _ _ (by rfl) HEN.out (.string NM) (by rfl) (HUC.out _ (by first | exact below_drewN _ _ _ | exact (below_drewN _ _ _).drew)) ?_; intro v1 w1 ha; have hv1 := ha.1; subst hv1; have HB1 := hid ha.2; clear ha)
            | fail))
          all_goals
            have e0 : w1.cell? ⟨R, 0, none⟩ = some (.string S) := cell_of_row _ _ _ _ _ _ (HRN.out w1 HB1.out)
            have e1 : w1.cell? ⟨R, 1, none⟩ = some (.int .i64 q) := cell_of_row _ _ _ _ _ _ (HRN.out w1 HB1.out)
            go_simp
            go_wp2_with fail
            go_quiet (fail)
            go_wp2_with fail
            refine Calls.mono (HWQ.out _ ?_) ?_
            · exact HRM.out w1 HB1.out
            rintro x W2 ⟨rfl, hr2, ho2⟩
            have HO2 := hid ho2
            have HR2 := hid hr2
            clear hr2 ho2
            go_wp2_with fail
            go_ret
            exact ⟨HG.out.trans ((to_below HB1.out).trans ((to_below (below_drewN _ _ _)).trans (to_only HO2.out))), rfl, by rw [hqn, HE.out]; exact HR2.out⟩
        | true =>
          rw [hu] at HUN HEV2
          clear hu
          have HUC : Hid (∀ W, Below wr.heap.size wr W → Calls Tryz.prog 93 #[.string NM] W fun x w' => ∃ v, x = .returned v ∧ (v = .tuple #[.string OUT, .bool true] ∧ Below wr.heap.size wr w')) := fun W hW => (HUN.out W).mono fun x w' hh => ⟨_, hh.1, rfl, hW.trans (hh.2.mono hW.size)⟩
          by_cases hqe : q = sn
          · exfalso; omega
          · have HE : Hid (EV = E0) := HEV2.out.symm.trans (by rw [decide_eq_false hqe]; simpa using h53)
            have hqe1 : ((q : Int) == (sn : Int)) = false := by rw [beq_eq_false_iff_ne]; omega
            have hqe2 : ((q : Int) == (S.size : Int)) = false := by rw [beq_eq_false_iff_ne, hsz]; omega
            clear HEV2 h51 h52 h53
            go_wp2_with fail
            go_region_law ((first
              | (refine step_call1 (by rfl) 93 _ _ (by rfl) HEN.out (.string NM) (by rfl) (HUC.out _ (by first | exact below_drewN _ _ _ | exact (below_drewN _ _ _).drew)) ?_; intro v1 w1 ha; have hv1 := ha.1; subst hv1; have HB1 := hid ha.2; clear ha)
              | fail))
            all_goals
              have e0 : w1.cell? ⟨R, 0, none⟩ = some (.string S) := cell_of_row _ _ _ _ _ _ (HRN.out w1 HB1.out)
              have e1 : w1.cell? ⟨R, 1, none⟩ = some (.int .i64 q) := cell_of_row _ _ _ _ _ _ (HRN.out w1 HB1.out)
              go_simp
              go_wp2_with fail
              go_quiet (fail)
              go_wp2_with fail
              go_ret
              exact ⟨HG.out.trans ((to_below HB1.out).trans (to_below (below_drewN _ _ _))), rfl, by rw [hqn, HE.out]; exact HRM.out w1 HB1.out⟩
      · have hb' : (((y.toNat : Nat) : Int) != 60) = true := by rw [bne_iff_ne]; intro h; exact hb (UInt8.toNat_inj.1 (by show y.toNat = 60; omega))
        have HK2 : Hid (k + 1 ≤ n) := HTK.out.2 ⟨hlt, by unfold ltB; rw [bne_iff_ne]; exact hb⟩
        have HC := hid (HH.out q hqs (fiveR (badR s p k)))
        have HWQ := hid (HWR.out q (fiveR (badR s p k)))
        obtain ⟨h51, h52, h53⟩ := five_or (badR s p k)
        rw [h51] at HWQ
        have HRM : Hid (∀ W, Below wr.heap.size wr W → Rr W R s q m (fiveR (badR s p k))) := fun W hW => HRK.out.below hW
        have HRU : Hid (∀ W e, Rr W R s q m e → W.heap[R]? = some (.cells #[.string S, .int .i64 q, .int .i64 m, .int .i64 e] 67 (0, 0))) := fun W e hW => by rw [← HSS.out]; exact hW
        have HRV : Hid (∀ (W : World) (e : Nat), W.heap[R]? = some (.cells #[.string S, .int .i64 ((q : Int) + 1), .int .i64 m, .int .i64 e] 67 (0, 0)) → Rr W R s (q + 1) m e) := fun W e hW => by rw [← HSS.out] at hW; exact hW
        have HQA : Hid (rrAt R wr = q) := rrAt_eq HRK.out
        have HE1 : Hid (fiveR (badR s p (k + 1)) = fiveR (badR s p k || preX [93, 93, 62] (s.drop q))) := by show _ = _; rw [HBK.out]
        have HRL := hid (fun W (hW : Rr W R s (q + 1) m (fiveR (badR s p (k + 1)))) => (by rw [show p + (k + 1) = q + 1 from by have := HQ.out; omega]; exact hW : Rr W R s (p + (k + 1)) m (fiveR (badR s p (k + 1)))))
        cases hp : preX [93, 93, 62] (s.drop q) with
        | true =>
          rw [hp] at HC HE1
          rw [h52] at HE1
          clear hp h51 h52 h53
          generalize fiveR (badR s p k) = E0 at *
          go_wp2_with fail
          go_quiet (fail)
          go_wp2_with fail
          refine Calls.mono (HC.out _ ?_) ?_
          · exact HRM.out _ (below_drewN _ _ _)
          rintro x W1 ⟨rfl, hb1⟩
          have hb2 : Below wr.heap.size wr W1 := (below_drewN _ _ _).trans hb1
          have HB2 := hid hb2
          clear hb1 hb2
          go_wp2_with fail
          refine Calls.mono (HWQ.out _ ?_) ?_
          · exact HRM.out _ HB2.out
          rintro x W2 ⟨rfl, hr2, ho2⟩
          have HO2 := hid ho2
          have HR2 := hid (HRU.out W2 _ hr2)
          have g1 : W2.cell? ⟨R, 1, none⟩ = some (.int .i64 q) := cell_of_row _ _ _ _ _ _ HR2.out
          clear hr2 ho2
          go_wp2_with (first
            | (refine store_part rfl 3 _ _ rfl R 1 (.int .i64 ((q : Int) + 1)) _ _ #[.string S, .int .i64 ((q : Int) + 1), .int .i64 m, .int .i64 5] rfl rfl info3r (by simp) rfl rfl HR2.out rfl ?_)
            | fail)
          intro W3 ho hr
          have HO := hid ho
          have HR3 : Hid (Rr W3 R s (q + 1) m (fiveR (badR s p (k + 1)))) := by show Rr _ _ _ _ _ _; rw [HE1.out]; exact HRV.out W3 5 hr
          clear ho hr
          go_wp2_with fail
          go_round
          case rel => exact ⟨k + 1, HK2.out, HRL.out _ HR3.out, HG.out.trans ((to_below HB2.out).trans ((to_only HO2.out).trans (to_only HO.out)))⟩
          case measure =>
            have e1 : rrAt R W3 = q + 1 := rrAt_eq HR3.out
            show sn - rrAt R W3 < sn - rrAt R wr
            rw [e1, HQA.out]
            omega
        | false =>
          rw [hp] at HC HE1
          rw [h53] at HE1
          clear hp h51 h52 h53
          generalize fiveR (badR s p k) = E0 at *
          go_wp2_with fail
          go_quiet (fail)
          go_wp2_with fail
          refine Calls.mono (HC.out _ ?_) ?_
          · exact HRM.out _ (below_drewN _ _ _)
          rintro x W1 ⟨rfl, hb1⟩
          have hb2 : Below wr.heap.size wr W1 := (below_drewN _ _ _).trans hb1
          have HB2 := hid hb2
          have HR2 := hid (HRU.out W1 _ (HRM.out _ hb2))
          have g1 : W1.cell? ⟨R, 1, none⟩ = some (.int .i64 q) := cell_of_row _ _ _ _ _ _ HR2.out
          clear hb1 hb2
          go_wp2_with (first
            | (refine store_part rfl 3 _ _ rfl R 1 (.int .i64 ((q : Int) + 1)) _ _ #[.string S, .int .i64 ((q : Int) + 1), .int .i64 m, .int .i64 E0] rfl rfl info3r (by simp) rfl rfl HR2.out rfl ?_)
            | fail)
          intro W3 ho hr
          have HO := hid ho
          have HR3 : Hid (Rr W3 R s (q + 1) m (fiveR (badR s p (k + 1)))) := by show Rr _ _ _ _ _ _; rw [HE1.out]; exact HRV.out W3 E0 hr
          clear ho hr
          go_wp2_with fail
          go_round
          case rel => exact ⟨k + 1, HK2.out, HRL.out _ HR3.out, HG.out.trans ((to_below HB2.out).trans (to_only HO.out))⟩
          case measure =>
            have e1 : rrAt R W3 = q + 1 := rrAt_eq HR3.out
            show sn - rrAt R W3 < sn - rrAt R wr
            rw [e1, HQA.out]
            omega
    · have hlt' : decide ((q : Int) < (S.size : Int)) = false := by rw [hsz]; exact decide_eq_false (by omega)
      have hlt2 : decide ((q : Int) < (sn : Int)) = false := decide_eq_false (by omega)
      have HKN : Hid (k = n) := by
        show _ = _
        have h1 := HK.out
        have h2 : ¬ k < n := fun h => hlt (HTK.out.1 h).1
        omega
      go_wp2_with fail
      go_quiet (fail)
      have hqn : p + n = q := by have h1 := HQ.out; have h2 := HKN.out; omega
      have hex : S.extract p q = NM := by have h1 := HEX.out; rw [hqn, HSS.out] at h1; exact h1
      have f0 : (wr.drewN nq).cell? ⟨R, 0, none⟩ = some (.string S) := d0
      have f1 : (wr.drewN nq).cell? ⟨R, 1, none⟩ = some (.int .i64 q) := d1
      have HEN := hid (enters_of Tryz.func93 (by kernel_rfl) rfl)
      have HEV2 := hid HEV.out
      rw [hqn, ← HKN.out] at HEV2
      have HRN : Hid (∀ W, Below wr.heap.size wr W → W.heap[R]? = some (.cells #[.string S, .int .i64 q, .int .i64 m, .int .i64 (fiveR (badR s p k))] 67 (0, 0))) := fun W hW => by have h1 := row_keep hW HRK.out; rw [HSS.out] at h1; exact h1
      have HRM : Hid (∀ W, Below wr.heap.size wr W → Rr W R s q m (fiveR (badR s p k))) := fun W hW => HRK.out.below hW
      have HWQ := hid (HWR.out q (fiveR (badR s p k)))
      obtain ⟨h51, h52, h53⟩ := five_or (badR s p k)
      rw [h51] at HWQ
      clear HEX HWR HTK HTW HIX HIX2 HH HBK HBS HB0 HEV
      generalize fiveR (badR s p k) = E0 at *
      cases hu : (unA TW).isSome with
      | false =>
        rw [hu] at HUN HEV2
        have HE : Hid (EV = 5) := HEV2.out.symm.trans (by simpa using h52)
        clear hu HEV2 h51 h52 h53
        have HUC : Hid (∀ W, Below wr.heap.size wr W → Calls Tryz.prog 93 #[.string NM] W fun x w' => ∃ v, x = .returned v ∧ (v = .tuple #[.string OUT, .bool false] ∧ Below wr.heap.size wr w')) := fun W hW => (HUN.out W).mono fun x w' hh => ⟨_, hh.1, rfl, hW.trans (hh.2.mono hW.size)⟩
        go_wp2_with fail
        go_region_law ((first
          | (refine step_call1 (by rfl) 93 _ _ (by rfl) HEN.out (.string NM) (by rfl) (HUC.out _ (by first | exact below_drewN _ _ _ | exact (below_drewN _ _ _).drew)) ?_; intro v1 w1 ha; have hv1 := ha.1; subst hv1; have HB1 := hid ha.2; clear ha)
          | fail))
        all_goals
          have e0 : w1.cell? ⟨R, 0, none⟩ = some (.string S) := cell_of_row _ _ _ _ _ _ (HRN.out w1 HB1.out)
          have e1 : w1.cell? ⟨R, 1, none⟩ = some (.int .i64 q) := cell_of_row _ _ _ _ _ _ (HRN.out w1 HB1.out)
          go_simp
          go_wp2_with fail
          go_quiet (fail)
          go_wp2_with fail
          refine Calls.mono (HWQ.out _ ?_) ?_
          · exact HRM.out w1 HB1.out
          rintro x W2 ⟨rfl, hr2, ho2⟩
          have HO2 := hid ho2
          have HR2 := hid hr2
          clear hr2 ho2
          go_wp2_with fail
          go_ret
          exact ⟨HG.out.trans ((to_below HB1.out).trans ((to_below (below_drewN _ _ _)).trans (to_only HO2.out))), rfl, by rw [hqn, HE.out]; exact HR2.out⟩
      | true =>
        rw [hu] at HUN HEV2
        clear hu
        have HUC : Hid (∀ W, Below wr.heap.size wr W → Calls Tryz.prog 93 #[.string NM] W fun x w' => ∃ v, x = .returned v ∧ (v = .tuple #[.string OUT, .bool true] ∧ Below wr.heap.size wr w')) := fun W hW => (HUN.out W).mono fun x w' hh => ⟨_, hh.1, rfl, hW.trans (hh.2.mono hW.size)⟩
        by_cases hqe : q = sn
        · have HE : Hid (EV = 5) := HEV2.out.symm.trans (by rw [decide_eq_true hqe]; simpa using h52)
          have hqe1 : ((q : Int) == (sn : Int)) = true := by rw [beq_iff_eq]; omega
          have hqe2 : ((q : Int) == (S.size : Int)) = true := by rw [beq_iff_eq, hsz]; omega
          have hqS : q ≤ S.size := by rw [hsz]; exact hqs
          clear HEV2 h51 h52 h53 hqe
          go_wp2_with fail
          go_region_law ((first
            | (refine step_call1 (by rfl) 93 _ _ (by rfl) HEN.out (.string NM) (by rfl) (HUC.out _ (by first | exact below_drewN _ _ _ | exact (below_drewN _ _ _).drew)) ?_; intro v1 w1 ha; have hv1 := ha.1; subst hv1; have HB1 := hid ha.2; clear ha)
            | fail))
          all_goals
            have e0 : w1.cell? ⟨R, 0, none⟩ = some (.string S) := cell_of_row _ _ _ _ _ _ (HRN.out w1 HB1.out)
            have e1 : w1.cell? ⟨R, 1, none⟩ = some (.int .i64 q) := cell_of_row _ _ _ _ _ _ (HRN.out w1 HB1.out)
            go_simp
            go_wp2_with fail
            go_quiet (fail)
            go_wp2_with fail
            refine Calls.mono (HWQ.out _ ?_) ?_
            · exact HRM.out w1 HB1.out
            rintro x W2 ⟨rfl, hr2, ho2⟩
            have HO2 := hid ho2
            have HR2 := hid hr2
            clear hr2 ho2
            go_wp2_with fail
            go_ret
            exact ⟨HG.out.trans ((to_below HB1.out).trans ((to_below (below_drewN _ _ _)).trans (to_only HO2.out))), rfl, by rw [hqn, HE.out]; exact HR2.out⟩
        · have HE : Hid (EV = E0) := HEV2.out.symm.trans (by rw [decide_eq_false hqe]; simpa using h53)
          have hqe1 : ((q : Int) == (sn : Int)) = false := by rw [beq_eq_false_iff_ne]; omega
          have hqe2 : ((q : Int) == (S.size : Int)) = false := by rw [beq_eq_false_iff_ne, hsz]; omega
          clear HEV2 h51 h52 h53
          go_wp2_with fail
          go_region_law ((first
            | (refine step_call1 (by rfl) 93 _ _ (by rfl) HEN.out (.string NM) (by rfl) (HUC.out _ (by first | exact below_drewN _ _ _ | exact (below_drewN _ _ _).drew)) ?_; intro v1 w1 ha; have hv1 := ha.1; subst hv1; have HB1 := hid ha.2; clear ha)
            | fail))
          all_goals
            have e0 : w1.cell? ⟨R, 0, none⟩ = some (.string S) := cell_of_row _ _ _ _ _ _ (HRN.out w1 HB1.out)
            have e1 : w1.cell? ⟨R, 1, none⟩ = some (.int .i64 q) := cell_of_row _ _ _ _ _ _ (HRN.out w1 HB1.out)
            go_simp
            go_wp2_with fail
            go_quiet (fail)
            go_wp2_with fail
            go_ret
            exact ⟨HG.out.trans ((to_below HB1.out).trans (to_below (below_drewN _ _ _))), rfl, by rw [hqn, HE.out]; exact HRM.out w1 HB1.out⟩
end Go.Proofs.YthjibliaofmlhaaGreatDoor
namespace Go.Proofs.YthjibliaofmlhaaGreatDoor
set_option linter.unusedVariables false
set_option linter.unusedSimpArgs false
open Go.RowKit Go.BigFrame

theorem set_mid4 (A rest : List Value) (a b c e v : Value) : (A ++ [a, b, c, e] ++ rest).set (A.length + 2) v = A ++ [a, b, v, e] ++ rest := by
  rw [List.append_assoc, List.append_assoc, List.set_append_right _ _ (by omega), show A.length + 2 - A.length = 2 from by omega]
  rfl
theorem leaf_parts (d : Nat) (l : Lab) : lab d (leaf d l) = l ∧ kidsT d (leaf d l) = [] := by cases d <;> exact ⟨rfl, rfl⟩
theorem OwnN.last {P : Nat → Prop} {w : World} {d : Nat} {v : Value} {ks : List (Tr d)} {x : List UInt8} (h : OwnN P w d v (ks ++ [leaf d ([], [], x)])) :
    ∃ g cap cs, v = .slice (some ⟨g, 0, none⟩) (ks.length + 1) cap ∧ w.heap[g]? = some (.cells cs 25 (0, 0)) ∧ P g ∧ ks.length * 4 + 2 < cs.size ∧
      w.cell? ⟨g, ks.length * 4, none⟩ = some (.string (asS [])) ∧ w.cell? ⟨g, ks.length * 4 + 2, none⟩ = some (.string (asS x)) ∧
      ∀ W y, Only g w W → W.heap[g]? = some (.cells (cs.setIfInBounds (ks.length * 4 + 2) (.string (asS y))) 25 (0, 0)) → OwnN P W d v (ks ++ [leaf d ([], [], y)]) := by
  rcases h with ⟨_, h⟩ | ⟨g, cap, css, rfl, h2, h3, h4, h5, h6⟩
  · simp at h
  · have hl : (ks ++ [leaf d ([], [], x)]).length = ks.length + 1 := by simp
    rw [hl] at h3 h4 h6 ⊢
    obtain ⟨css0, c, rfl⟩ : ∃ css0 c, css = css0 ++ [c] := by
      have hne : css ≠ [] := fun e => by rw [e] at h3; simp at h3
      exact ⟨css.dropLast, css.getLast hne, (List.dropLast_concat_getLast hne).symm⟩
    have hl0 : css0.length = ks.length := by simp at h3; exact h3
    have hn := h6 ks.length (by omega)
    have e1 : (css0 ++ [c]).getD ks.length #[] = c := by rw [List.getD_eq_getElem?_getD, ← hl0]; simp
    have e2 : (ks ++ [leaf d ([], [], x)]).getD ks.length (zeroT d) = leaf d ([], [], x) := by rw [List.getD_eq_getElem?_getD]; simp
    rw [e1, e2] at hn
    obtain ⟨aA, ac, kA, kc, hc, hh, _, _⟩ := hn.parts
    rw [(leaf_parts d _).1] at hc hh
    rw [(leaf_parts d _).2] at hc
    have hv0 := ndvs_len css0 (fun q hq => h5 q (List.mem_append_left _ hq))
    rw [hl0] at hv0
    have hx : ndvs (css0 ++ [c]) = ndvs css0 ++ [.string (asS []), .slice aA 0 ac, .string (asS x), .slice kA 0 kc] := by
      rw [hc]; simp [ndvs, ndcs]
    obtain ⟨rest, r1, r2, r3⟩ := h4.row
    rw [hx] at r1
    refine ⟨g, cap, _, rfl, r1, h2, ?_, ?_, ?_, ?_⟩
    · simp; omega
    · exact h4.at _ _ (by rw [hx, List.getElem?_append_right (by omega), hv0]; simp)
    · exact h4.at _ _ (by rw [hx, List.getElem?_append_right (by omega), hv0, show ks.length * 4 + 2 - ks.length * 4 = 2 from by omega]; rfl)
    · intro W y ho hr
      have hrow : W.heap[g]? = some (.cells (ndvs (css0 ++ [ndcs ([], [], y) aA ac kA 0 kc]) ++ rest).toArray 25 (0, 0)) := by
        rw [hr]
        congr 2
        rw [List.setIfInBounds_toArray, ← hv0, set_mid4]
        simp [ndvs, ndcs]
      have hoth : ∀ q, q ≠ g → W.heap[q]? = w.heap[q]? := fun q hq => ho.block q hq
      have hsz : w.heap.size ≤ W.heap.size := Nat.le_of_eq ho.size.symm
      have hl2 : (ks ++ [leaf d ([], [], y)]).length = ks.length + 1 := by simp
      refine .inr ⟨g, cap, css0 ++ [ndcs ([], [], y) aA ac kA 0 kc], by rw [hl2], h2, by rw [hl2]; simp [hl0], ?_, ?_, ?_⟩
      · rw [hl2]
        refine ⟨h4.ge, ?_, rest, hrow, r2, r3⟩
        have := ndvs_len (css0 ++ [ndcs ([], [], y) aA ac kA 0 kc]) (fun q hq => by
          rcases List.mem_append.1 hq with h | h
          · exact h5 q (List.mem_append_left _ h)
          · rw [List.mem_singleton] at h; rw [h]; rfl)
        rw [this]
        simp [hl0]
      · intro q hq
        rcases List.mem_append.1 hq with h | h
        · exact h5 q (List.mem_append_left _ h)
        · rw [List.mem_singleton] at h; rw [h]; rfl
      · intro j hj
        rw [hl2] at hj
        by_cases hjk : j < ks.length
        · have := h6 j (by omega)
          have f1 : (css0 ++ [c]).getD j #[] = css0.getD j #[] := by rw [List.getD_eq_getElem?_getD, List.getD_eq_getElem?_getD, List.getElem?_append_left (by omega)]
          have f2 : (css0 ++ [ndcs ([], [], y) aA ac kA 0 kc]).getD j #[] = css0.getD j #[] := by rw [List.getD_eq_getElem?_getD, List.getD_eq_getElem?_getD, List.getElem?_append_left (by omega)]
          have f3 : (ks ++ [leaf d ([], [], x)]).getD j (zeroT d) = ks.getD j (zeroT d) := by rw [List.getD_eq_getElem?_getD, List.getD_eq_getElem?_getD, List.getElem?_append_left (by omega)]
          have f4 : (ks ++ [leaf d ([], [], y)]).getD j (zeroT d) = ks.getD j (zeroT d) := by rw [List.getD_eq_getElem?_getD, List.getD_eq_getElem?_getD, List.getElem?_append_left (by omega)]
          rw [f1, f3] at this
          rw [f2, f4]
          exact this.frame hsz fun q hq hl => ⟨hoth q hq.2, hq⟩
        · obtain rfl : j = ks.length := by omega
          have f2 : (css0 ++ [ndcs ([], [], y) aA ac kA 0 kc]).getD ks.length #[] = ndcs ([], [], y) aA ac kA 0 kc := by rw [List.getD_eq_getElem?_getD, ← hl0]; simp
          have f4 : (ks ++ [leaf d ([], [], y)]).getD ks.length (zeroT d) = leaf d ([], [], y) := by rw [List.getD_eq_getElem?_getD]; simp
          rw [f2, f4]
          exact NdAt.mk0 (hh.frame hsz fun q hq hl => ⟨hoth q hq.2, hq⟩)
theorem sayR_nil (v : Value) (R : Nat) (w : World) : Calls Tryz.prog 69 #[.pointer (some ⟨R, 0, none⟩), v, .string (asS [])] w fun x w' => x = .returned v ∧ w' = w := by
  have e3 : (asS []).toList.isEmpty = true := by rw [emp8]; rfl
  generalize asS [] = S at *
  go_enter Tryz.func69, Tryz.ntmps69
  go_wp2_with fail
  go_ret
  exact ⟨rfl, rfl⟩
theorem sayR_add (d : Nat) (ks : List (Tr d)) (x s : List UInt8) (hs : s ≠ []) (hk : ks.length ≤ 100000) (hx : x.length + s.length ≤ 1000000) (P : Nat → Prop) (v : Value) (R : Nat) (w : World) (h : OwnN P w d v (ks ++ [leaf d ([], [], x)])) : Calls Tryz.prog 69 #[.pointer (some ⟨R, 0, none⟩), v, .string (asS s)] w fun e w' => e = .returned v ∧ OwnN P w' d v (ks ++ [leaf d ([], [], x ++ s)]) ∧ ∃ g, P g ∧ Only g w w' := by
  obtain ⟨g, cap, cs, rfl, h1, h2, h3, h4, h5, h6⟩ := h.last
  have hcap : ks.length + 1 ≤ cap := by have := h.cap; simpa using this
  have HR := hid h1
  have HP := hid h2
  have HL := hid h3
  have HW := hid (fun W => h6 W (x ++ s))
  have e1 := asS_app x s
  have e2 := catE_size x s (by omega)
  have e3 : (asS s).toList.isEmpty = false := by rw [emp8]; exact decide_eq_false hs
  have e4 : (asS []).toList.isEmpty = true := by rw [emp8]; rfl
  clear h h1 h2 h3 h6
  generalize ks.length = n at *
  generalize asS (x ++ s) = Z at *
  generalize asS x = X at *
  generalize asS s = S at *
  generalize asS [] = E at *
  clear hs hx
  go_enter Tryz.func69, Tryz.ntmps69
  go_wp2_with (first
    | (refine store_part rfl 9 _ _ rfl g (n * 4 + 2) (.string Z) _ _ _ rfl rfl info9 HL.out rfl rfl HR.out rfl ?_)
    | fail)
  intro W ho hr
  have HO := hid ho
  have HW2 := hid (HW.out W ho hr)
  clear ho hr
  go_wp2_with fail
  go_ret
  exact ⟨rfl, HW2.out, g, HP.out, HO.out⟩
theorem OwnN.lastName {P : Nat → Prop} {w : World} {d : Nat} {v : Value} {ks : List (Tr d)} {k : Tr d} (h : OwnN P w d v (ks ++ [k])) : ∃ g o cap, v = .slice (some ⟨g, o, none⟩) (ks.length + 1) cap ∧ w.cell? ⟨g, o + ks.length * 4, none⟩ = some (.string (asS (nmT d k))) := by
  obtain ⟨A, c, rfl, _, hn⟩ := h.shape
  have hl : (ks ++ [k]).length = ks.length + 1 := by simp
  obtain ⟨q, o, rfl, _, _, hc⟩ := hn (by rw [hl]; omega)
  obtain ⟨a, b, c2, e, k1, _, _, _, hnd⟩ := hc ks.length (by rw [hl]; omega)
  have e2 : (ks ++ [k]).getD ks.length (zeroT d) = k := by rw [List.getD_eq_getElem?_getD]; simp
  rw [e2] at hnd
  obtain ⟨aA, ac, kA, kc, hcs, _⟩ := hnd.parts
  have ha : a = .string (asS (lab d k).1) := by
    have := congrArg (fun x : Array Value => x.getD 0 undef) hcs
    simpa [ndcs] using this
  exact ⟨q, o, c, by rw [hl], by rw [k1, ha]; rfl⟩
/-- A text that is a kid of its own. -/
theorem sayR_new (d : Nat) (ks : List (Tr d)) (src s : List UInt8) (p m e : Nat) (hs : s ≠ []) (hk : ks.length ≤ 100000) (hm : m ≤ 1000000) (hl : ∀ k, ks.getLast? = some k → nmT d k ≠ []) (v : Value) (R B : Nat) (w : World) (hRB : R < B) (hB : B ≤ w.heap.size) (hr : Rr w R src p m e) (h : OwnN (fun q => B ≤ q) w d v ks) : Calls Tryz.prog 69 #[.pointer (some ⟨R, 0, none⟩), v, .string (asS s)] w fun x w' => ∃ v', x = .returned v' ∧ OwnN (fun q => B ≤ q) w' d v' (ks ++ [leaf d ([], [], s)]) ∧ Rr w' R src p (m + 1) (if m + 1 ≤ 4096 then e else if e = 0 then 3 else e) ∧ ∀ w0 : World, w0.heap.size = B → w0.grownBy w (some R) → w0.grownBy w' (some R) := by
  have HC := hid (more_any src p m e R hm w hr)
  have HTO : Hid (∀ W, w.grownBy W (some R) → OwnN (fun q => B ≤ q) W d v ks) := fun W hW => h.to hW (fun q hq => by have : B ≤ q := hq; omega)
  have HB := hid hB
  have HKL : Hid (ks.length ≤ 1000000) := by show _ ≤ _; omega
  have HBL : Hid (∀ q, blk v = some q → B ≤ q) := fun q hq => (h.blk_P q hq).1
  have HND : Hid (∀ W, NdAt (fun q => B ≤ q ∧ blk v ≠ some q) d W #[.string ⟨#[]⟩, .slice none 0 0, .string (asS s), .slice none 0 0] (leaf d ([], [], s))) := fun W => NdAt.mk0 (l := ([], [], s)) ⟨fun h => absurd h (by simp), fun h => absurd h (by simp)⟩
  have HFR : Hid (∀ W1 W2 : World, Rr W1 R src p (m + 1) (if m + 1 ≤ 4096 then e else if e = 0 then 3 else e) → W1.grownBy W2 (blk v) → Rr W2 R src p (m + 1) (if m + 1 ≤ 4096 then e else if e = 0 then 3 else e)) := fun W1 W2 h1 h2 => (h2.block R h1.lt (fun e => by have := (h.blk_P R e.symm).1; have h3 : B ≤ R := this; omega)).trans h1
  have e3 : (asS s).toList.isEmpty = false := by rw [emp8]; exact decide_eq_false hs
  generalize (if m + 1 ≤ 4096 then e else if e = 0 then 3 else e) = E at HC HFR ⊢
  generalize decide (m + 1 ≤ 4096) = mb at HC
  generalize asS s = S at e3 HND ⊢
  rcases List.eq_nil_or_concat ks with rfl | ⟨k0, k, rfl⟩
  · obtain ⟨A, c, hv, _, _⟩ := h.shape
    clear h hr hB hRB hm hs hl hk
    simp only [List.length_nil] at hv
    subst hv
    go_enter Tryz.func69, Tryz.ntmps69
    go_wp2_with fail
    refine HC.out.mono ?_
    rintro x W1 ⟨rfl, hr1, hg1⟩
    have HR1 := hid hr1
    have HG1 := hid hg1
    have HO1 := hid (HTO.out W1 hg1)
    have HP1 := hid (Nat.le_trans HB.out hg1.size)
    clear hr1 hg1
    go_wp2_with (first
      | (refine wpList_nd rfl _ _ rfl (fun q => B ≤ q) d _ _ [] _ (leaf d ([], [], s)) rfl rfl (HO1.out.below ((Below.refl _ _).alloc (Nat.le_refl _) _)) (src_nd (HND.out _) W1.heap.size 1 (heap_alloc_new W1 _)) rfl (HND.out _) HKL.out (by have := HP1.out; simp; omega) ?_)
      | fail)
    intro v' w' k1 k2 k3
    have K1 := hid k1
    have K2 := hid k2
    clear k1 k2 k3
    obtain ⟨vA, vc, hv', _, _⟩ := K1.out.shape
    subst hv'
    go_wp2_with fail
    go_ret
    exact ⟨_, rfl, K1.out, HFR.out W1 w' HR1.out ((World.grownBy_alloc W1 _ _).trans K2.out), fun w0 hw0 hg0 => grown_own (hg0.trans HG1.out) ((World.grownBy_alloc W1 _ _).trans K2.out) (fun q hq => by rw [hw0]; exact HBL.out q hq)⟩
  · have hnm := hl k (by simp)
    have hk2 : k0.length + 1 ≤ 100000 := by simpa using hk
    rw [List.concat_eq_append] at *
    obtain ⟨g, o, cap, hv, hc⟩ := h.lastName
    have hcap : k0.length + 1 ≤ cap := by have h9 := h; rw [hv] at h9; exact h9.cap
    have e4 : (asS (nmT d k)).toList.isEmpty = false := by rw [emp8]; exact decide_eq_false hnm
    clear h hr hB hRB hm hs hl hk hnm
    subst hv
    generalize asS (nmT d k) = N at e4 hc
    generalize k0.length = n at hk2 hcap hc HTO HBL HND HFR ⊢
    generalize k0 ++ [k] = KL at *
    go_enter Tryz.func69, Tryz.ntmps69
    go_wp2_with fail
    refine HC.out.mono ?_
    rintro x W1 ⟨rfl, hr1, hg1⟩
    have HR1 := hid hr1
    have HG1 := hid hg1
    have HO1 := hid (HTO.out W1 hg1)
    have HP1 := hid (Nat.le_trans HB.out hg1.size)
    clear hr1 hg1
    go_wp2_with (first
      | (refine wpList_nd rfl _ _ rfl (fun q => B ≤ q) d _ _ KL _ (leaf d ([], [], s)) rfl rfl (HO1.out.below ((Below.refl _ _).alloc (Nat.le_refl _) _)) (src_nd (HND.out _) W1.heap.size 1 (heap_alloc_new W1 _)) rfl (HND.out _) HKL.out (by have := HP1.out; simp; omega) ?_)
      | fail)
    intro v' w' k1 k2 k3
    have K1 := hid k1
    have K2 := hid k2
    clear k1 k2 k3
    obtain ⟨vA, vc, hv', _, _⟩ := K1.out.shape
    subst hv'
    go_wp2_with fail
    go_ret
    exact ⟨_, rfl, K1.out, HFR.out W1 w' HR1.out ((World.grownBy_alloc W1 _ _).trans K2.out), fun w0 hw0 hg0 => grown_own (hg0.trans HG1.out) ((World.grownBy_alloc W1 _ _).trans K2.out) (fun q hq => by rw [hw0]; exact HBL.out q hq)⟩
end Go.Proofs.YthjibliaofmlhaaGreatDoor
