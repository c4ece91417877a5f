import Derived.Test.YtgoiafndapemjaaGreatDoorQ26
set_option linter.unusedVariables false
set_option linter.unusedSimpArgs false
set_option maxHeartbeats 1000000
namespace Go.Proofs.YtgoiafndapemjaaGreatDoor
open Go.RowKit Go.BigFrame
theorem b_two {w w1 w2 : World} (h1 : Below w.heap.size w w1) (h2 : Below w1.heap.size w1 w2) : Below w.heap.size w w2 := h1.trans (h2.mono h1.size)
theorem b_alloc {w w1 w2 : World} {o : Obj} (h1 : Below w.heap.size w w1) (h2 : Below (w1.alloc o).heap.size (w1.alloc o) w2) : Below w.heap.size w w2 := b_two h1 (((Below.refl _ _).alloc (Nat.le_refl _) _).trans (h2.mono (by simp)))
theorem off_bound {fs : List (List UInt8)} {z : List UInt8} {a : Int} (h : offL fs z = some a) : -90000 ≤ a ∧ a ≤ 90000 := by
 unfold offL at h
 split at h
 ·unfold offV at h
  split at h
  ·simp at h
  ·next hc =>
   replace h := Option.some.inj h
   split at h <;> omega
 ·simp at h
theorem z3339_bound {z : List UInt8} {a : Int} (h : z3339 z = some a) : -90000 ≤ a ∧ a ≤ 90000 := by
 unfold z3339 at h
 split at h
 ·replace h := Option.some.inj h; omega
 ·exact off_bound h
theorem z822_bound {z : List UInt8} {a : Int} (h : z822 z = some a) : -90000 ≤ a ∧ a ≤ 90000 := by
 unfold z822 at h
 cases hz : zName z with
 | some n =>
  rw [hz] at h
  replace h := Option.some.inj h
  subst h
  have hm := zName_some hz
  simp only [zTab, List.mem_cons, List.not_mem_nil, or_false, Prod.mk.injEq] at hm
  omega
 | none => rw [hz] at h; exact off_bound h
def form19 : List UInt8 := [48, 48, 48, 48, 45, 48, 48, 45, 48, 48, 116, 48, 48, 58, 48, 48, 58, 48, 48]
def p3339 (l : List UInt8) : Option Int :=
 if 19 ≤ (l.map lowB).length ∧ isOfL ((l.map lowB).take 19) form19 = true then
  (match z3339 (woF ((l.map lowB).drop 19)) with
  | none => none
  | some a => timeV (numD ((l.map lowB).take 4)) (numD (((l.map lowB).drop 5).take 2)) (numD (((l.map lowB).drop 8).take 2)) (((l.map lowB).drop 11).take 8) a)
 else none
theorem one_cells (w : World) (a : List UInt8) (t : TypeId) : ∀ j, j < ([a] : List (List UInt8)).length → (w.alloc (Obj.cells #[.string (asS a)] t)).cell? ⟨w.heap.size, j, none⟩ = some (.string (asS (([a] : List (List UInt8)).getD j []))) := by
 intro j hj
 have hr := heap_alloc_new w (Obj.cells #[.string (asS a)] t)
 rw [cell_of_row _ _ _ _ _ _ hr]
 have : j = 0 := by simp at hj; omega
 subst this; rfl
theorem isOf_take {s f : List UInt8} (h : isOfL s f = true) (k : Nat) : isOfL (s.take k) (f.take k) = true := by
 induction s generalizing f k with
 | nil => cases f with
  | nil => simpa using h
  | cons x f => simp [isOfL] at h
 | cons c s ih => cases f with
  | nil => simp [isOfL] at h
  | cons x f =>
   cases k with
   | zero => rfl
   | succ k =>
    rw [isOfL, Bool.and_eq_true] at h
    rw [List.take_succ_cons, List.take_succ_cons, isOfL, Bool.and_eq_true]
    exact ⟨h.1, ih h.2 k⟩
theorem isOf_drop {s f : List UInt8} (h : isOfL s f = true) (k : Nat) : isOfL (s.drop k) (f.drop k) = true := by
 induction s generalizing f k with
 | nil => cases f with
  | nil => simpa using h
  | cons x f => simp [isOfL] at h
 | cons c s ih => cases f with
  | nil => simp [isOfL] at h
  | cons x f =>
   cases k with
   | zero => exact h
   | succ k =>
    rw [isOfL, Bool.and_eq_true] at h
    exact ih h.2 k
set_option maxHeartbeats 2000000 in
set_option maxRecDepth 1000000 in
theorem p3339_any (l : List UInt8) (hl : l.length ≤ 100000) (w : World) : Calls Tryz.prog 152 #[.string (asS l)] w fun e w' => e = .returned (optT (p3339 l)) ∧ Below w.heap.size w w' := by
 have HLO := hid (fun W => lower_any l W (by omega))
 unfold p3339
 have hls : (l.map lowB).length ≤ 100000 := by rw [List.length_map]; exact hl
 generalize l.map lowB = s at *
 generalize asS l = s0 at *
 have HSZ : Hid ((asS s).size = s.length) := asS_size s
 by_cases h19 : 19 ≤ s.length
 ·have HF := hid (fun g cap W hc => fits_any (s.take 19) [form19] g cap (by rw [List.length_take]; omega) (by decide) (by decide) W hc)
  rw [show ([form19] : List (List UInt8)).any (isOfL (s.take 19)) = isOfL (s.take 19) form19 from by simp] at HF
  have HX1 : Hid ((asS s).extract 0 19 = asS (s.take 19)) := ext8_to s 19
  have HC := hid (fun W t => one_cells W form19 t)
  have g19 : ¬ ((asS s).size : Int) < 19 := by rw [HSZ.out]; omega
  have hsl1 : ∀ W : World, (Instr.slice 9 (.string (asS s)) none (some (.int .i64 19)) none).run Tryz.prog W = .ok (.string (asS (s.take 19))) W := fun W => by
   rw [← HX1.out]; exact sliceT_run (asS s) 19 (by rw [HSZ.out]; omega) W
  clear HX1
  cases hof : isOfL (s.take 19) form19 with
  | false =>
   rw [if_neg (fun h => by simp at h)]
   rw [hof] at HF
   clear hof
   generalize asS (s.take 19) = s1 at *
   generalize asS s = sS at *
   go_enter Tryz.func152, Tryz.ntmps152
   go_wp2_with (first
    | (go_at_call 172; refine (HLO.out _).mono ?_; rintro e w1 ⟨rfl, hb1⟩)
    | (go_at_call 173; refine (HF.out _ _ _ (HC.out _ _)).mono ?_; rintro e w2 ⟨rfl, hb2⟩)
    | fail)
   go_ret2
   exact ⟨rfl, hb1.trans (((Below.refl _ _).alloc (Nat.le_refl _) _).trans (hb2.mono (by simp)) |>.mono hb1.size)⟩
  | true =>
   rw [if_pos ⟨h19, rfl⟩]
   rw [hof] at HF
   have HT19 : Hid (isOfL (s.take 19) form19 = true) := hof
   have tk : ∀ a n, a + n ≤ 19 → ((s.take 19).drop a).take n = (s.drop a).take n := fun a n h => by
    rw [List.drop_take, List.take_take, Nat.min_eq_left (by omega)]
   have d1 : ∀ c ∈ s.take 4, digB c = true := by
    have := isOf_digs hof 0 4 (by decide) (by decide); rw [tk 0 4 (by omega), List.drop_zero] at this; exact this
   have d2 : ∀ c ∈ (s.drop 5).take 2, digB c = true := by
    have := isOf_digs hof 5 2 (by decide) (by decide); rw [tk 5 2 (by omega)] at this; exact this
   have d3 : ∀ c ∈ (s.drop 8).take 2, digB c = true := by
    have := isOf_digs hof 8 2 (by decide) (by decide); rw [tk 8 2 (by omega)] at this; exact this
   have d4 : isOfL ((s.drop 11).take 8) clkF = true := by
    have := isOf_take (isOf_drop hof 11) 8; rw [tk 11 8 (by omega)] at this; exact this
   clear tk hof
   have HN1 := hid (fun W => number_any (s.take 4) (by rw [List.length_take]; omega) d1 W)
   have HN2 := hid (fun W => number_any ((s.drop 5).take 2) (by rw [List.length_take]; omega) d2 W)
   have HN3 := hid (fun W => number_any ((s.drop 8).take 2) (by rw [List.length_take]; omega) d3 W)
   have HTI := hid (fun y m d a (ha : -90000 ≤ a ∧ a ≤ 90000) W => timeOf_any y m d ((s.drop 11).take 8) a ha d4 W)
   have HWO := hid (fun W => woF_any (s.drop 19) (by rw [List.length_drop]; omega) W)
   have HZO := hid (fun W => z3339_any (woF (s.drop 19)) (Nat.le_trans (woF_len _) (by rw [List.length_drop]; omega)) W)
   have HZB : Hid (∀ a, z3339 (woF (s.drop 19)) = some a → -90000 ≤ a ∧ a ≤ 90000) := fun a h => z3339_bound h
   have hsl2 : ∀ W : World, (Instr.slice 9 (.string (asS s)) (some (.int .i64 19)) none none).run Tryz.prog W = .ok (.string (asS (s.drop 19))) W := fun W => by
    rw [← ext8_from]; exact sliceF_run (asS s) 19 (by rw [HSZ.out]; omega) W
   have hs1 : ∀ W : World, (Instr.slice 9 (.string (asS s)) none (some (.int .i64 4)) none).run Tryz.prog W = .ok (.string (asS (s.take 4))) W := fun W => by
    rw [← ext8_to]; exact sliceT_run (asS s) 4 (by rw [HSZ.out]; omega) W
   have cut : ∀ a b, (asS s).extract a b = asS ((s.drop a).take (b - a)) := fun a b => by rw [ext_asS, asS_data]
   have hs2 : ∀ W : World, (Instr.slice 9 (.string (asS s)) (some (.int .i64 5)) (some (.int .i64 7)) none).run Tryz.prog W = .ok (.string (asS ((s.drop 5).take 2))) W := fun W => sliceD_run (asS s) 5 7 5 7 rfl rfl (by omega) (by rw [HSZ.out]; omega) _ (cut 5 7) W
   have hs3 : ∀ W : World, (Instr.slice 9 (.string (asS s)) (some (.int .i64 8)) (some (.int .i64 10)) none).run Tryz.prog W = .ok (.string (asS ((s.drop 8).take 2))) W := fun W => sliceD_run (asS s) 8 10 8 10 rfl rfl (by omega) (by rw [HSZ.out]; omega) _ (cut 8 10) W
   have hs4 : ∀ W : World, (Instr.slice 9 (.string (asS s)) (some (.int .i64 11)) (some (.int .i64 19)) none).run Tryz.prog W = .ok (.string (asS ((s.drop 11).take 8))) W := fun W => sliceD_run (asS s) 11 19 11 19 rfl rfl (by omega) (by rw [HSZ.out]; omega) _ (cut 11 19) W
   clear cut d1 d2 d3 d4
   generalize z3339 (woF (s.drop 19)) = Z at *
   generalize asS (woF (s.drop 19)) = zs at *
   generalize asS (s.drop 19) = rs at *
   generalize numD (s.take 4) = A at *
   generalize numD ((s.drop 5).take 2) = B at *
   generalize numD ((s.drop 8).take 2) = C at *
   cases Z with
   | none =>
    generalize asS (s.take 19) = s1 at *
    generalize asS s = sS at *
    go_enter Tryz.func152, Tryz.ntmps152
    go_wp2_with (first
     | (go_at_call 172; refine (HLO.out _).mono ?_; rintro e w1 ⟨rfl, hb1⟩)
     | (go_at_call 173; refine (HF.out _ _ _ (HC.out _ _)).mono ?_; rintro e w2 ⟨rfl, hb2⟩)
     | (go_at_call 175; refine (HWO.out _).mono ?_; rintro e w3 ⟨rfl, rfl⟩)
     | (go_at_call 174; refine (HZO.out _).mono ?_; rintro e w4 ⟨rfl, hb4⟩; unfold optV)
     | fail)
    go_ret2
    exact ⟨rfl, b_two (b_alloc hb1 hb2) hb4⟩
   | some a =>
    show Calls Tryz.prog 152 #[.string s0] w fun e w' => e = .returned (optT (timeV A B C ((s.drop 11).take 8) a)) ∧ Below w.heap.size w w'
    have HTA := hid (HTI.out A B C a (HZB.out a rfl))
    generalize timeV A B C ((s.drop 11).take 8) a = R at *
    generalize asS ((s.drop 11).take 8) = t4 at *
    generalize asS ((s.drop 8).take 2) = t3 at *
    generalize asS ((s.drop 5).take 2) = t2 at *
    generalize asS (s.take 4) = t1 at *
    generalize asS (s.take 19) = s1 at *
    generalize asS s = sS at *
    clear HTI HZB
    cases R
    all_goals go_enter Tryz.func152, Tryz.ntmps152
    all_goals go_wp2_with (first
     | (go_at_call 172; refine (HLO.out _).mono ?_; rintro e w1 ⟨rfl, hb1⟩)
     | (go_at_call 173; refine (HF.out _ _ _ (HC.out _ _)).mono ?_; rintro e w2 ⟨rfl, hb2⟩)
     | (go_at_call 175; refine (HWO.out _).mono ?_; rintro e w3 ⟨rfl, rfl⟩)
     | (go_at_call 174; refine (HZO.out _).mono ?_; rintro e w4 ⟨rfl, hb4⟩; unfold optV)
     | fail)
    all_goals have c1 : REG 177 #[.string t1] w4 (.int .i64 A) := fun d os => Calls.regrown_of (HN1.out _)
    all_goals have c2 : REG 177 #[.string t2] w4 (.int .i64 B) := fun d os => Calls.regrown_of (HN2.out _)
    all_goals have c3 : REG 177 #[.string t3] w4 (.int .i64 C) := fun d os => Calls.regrown_of (HN3.out _)
    ·have c4 : REG 176 #[.int .i64 A, .int .i64 B, .int .i64 C, .string t4, .int .i64 a] w4 (optT none) := fun d os => Calls.regrown_of (HTA.out _)
     unfold optT at c4
     refine wp_region_quiet_below (by kernel_rfl) (by kernel_rfl) ?_
     repeat (go_big_quiet_step (first | (go_at_call_of 177 (Value.string t1); exact c1 _ _) | (go_at_call_of 177 (Value.string t2); exact c2 _ _) | (go_at_call_of 177 (Value.string t3); exact c3 _ _) | (go_at_call 176; exact c4 _ _)))
     refine wpQuiet_nil ?_
     rintro W9 ⟨⟨dq, osq⟩, hw9⟩
     have HB9 : Hid (Below w4.heap.size w4 W9) := by rw [hw9]; exact below_regrown w4 dq osq
     clear hw9 c1 c2 c3 c4 hs1 hs2 hs3 hs4
     go_wp2_with fail
     go_ret2
     exact ⟨rfl, b_two (b_two (b_alloc hb1 hb2) hb4) HB9.out⟩
    ·have c4 : REG 176 #[.int .i64 A, .int .i64 B, .int .i64 C, .string t4, .int .i64 a] w4 (optT (some _)) := fun d os => Calls.regrown_of (HTA.out _)
     unfold optT at c4
     refine wp_region_quiet_below (by kernel_rfl) (by kernel_rfl) ?_
     repeat (go_big_quiet_step (first | (go_at_call_of 177 (Value.string t1); exact c1 _ _) | (go_at_call_of 177 (Value.string t2); exact c2 _ _) | (go_at_call_of 177 (Value.string t3); exact c3 _ _) | (go_at_call 176; exact c4 _ _)))
     refine wpQuiet_nil ?_
     rintro W9 ⟨⟨dq, osq⟩, hw9⟩
     have HB9 : Hid (Below w4.heap.size w4 W9) := by rw [hw9]; exact below_regrown w4 dq osq
     clear hw9 c1 c2 c3 c4 hs1 hs2 hs3 hs4
     go_wp2_with fail
     go_ret2
     exact ⟨rfl, b_two (b_two (b_alloc hb1 hb2) hb4) HB9.out⟩
 ·rw [if_neg (fun h => h19 h.1)]
  have g19 : ((asS s).size : Int) < 19 := by rw [HSZ.out]; omega
  generalize asS s = s1 at *
  go_enter Tryz.func152, Tryz.ntmps152
  go_wp2_with (go_at_call 172; refine (HLO.out _).mono ?_; rintro e w1 ⟨rfl, hb1⟩)
  go_ret2
  exact ⟨rfl, hb1⟩
end Go.Proofs.YtgoiafndapemjaaGreatDoor
