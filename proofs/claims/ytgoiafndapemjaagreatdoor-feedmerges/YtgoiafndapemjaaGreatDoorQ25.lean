import Derived.Test.YtgoiafndapemjaaGreatDoorQ24
import Derived.Lib.QuietBelow
set_option linter.unusedVariables false
set_option linter.unusedSimpArgs false
set_option maxHeartbeats 1000000
namespace Go.Proofs.YtgoiafndapemjaaGreatDoor
open Go.RowKit Go.BigFrame
abbrev REG (f : Nat) (args : Array Value) (V : World) (x : Value) : Prop := ∀ d os, Calls Tryz.prog f args (Sort.grow (redrawn V d) os) fun e w'' => e = .returned x ∧ ∃ p : Regrown, w'' = Sort.grow (redrawn V p.d) p.os
theorem sliceD_run (S : ByteArray) (a b : Nat) (i j : Int) (hi : i = (a : Int)) (hj : j = (b : Int)) (h1 : a ≤ b) (h2 : b ≤ S.size) (x : ByteArray) (hx : S.extract a b = x) (W : World) : (Instr.slice 9 (.string S) (some (.int .i64 i)) (some (.int .i64 j)) none).run Tryz.prog W = .ok (.string x) W := by
 subst hi; subst hj; subst hx
 rw [run_slice_string W 9 S .i64 .i64 a b Tryz.underlying9 (by omega) (by omega) (by omega)]
 simp
theorem sliceF_run (S : ByteArray) (a : Nat) (h : a ≤ S.size) (W : World) : (Instr.slice 9 (.string S) (some (.int .i64 (a : Int))) none none).run Tryz.prog W = .ok (.string (S.extract a S.size)) W := by
 have h2 := run_slice_string_l (P := Tryz.prog) (w := W) (t := 9) (s := S) Tryz.underlying9 .i64 (a : Int) (by omega) (by omega)
 rw [Int.toNat_natCast] at h2
 exact h2
theorem isOf_at : ∀ (s f : List UInt8), isOfL s f = true → ∀ i, i < f.length → (f.getD i 0 = 48 → digB (s.getD i 0) = true) ∧ (f.getD i 0 ≠ 48 → s.getD i 0 = f.getD i 0)
 | [], [], _, i, hi => by simp at hi
 | c :: s, x :: f, h, i, hi => by
  rw [isOfL, Bool.and_eq_true, Bool.or_eq_true, Bool.and_eq_true, decide_eq_true_eq, decide_eq_true_eq] at h
  cases i with
  | zero =>
   show (x = 48 → digB c = true) ∧ (x ≠ 48 → c = x)
   refine ⟨fun e => ?_, fun e => ?_⟩
   ·rcases h.1 with h1 | h1
    ·rw [h1, e]; decide
    ·exact h1.2
   ·rcases h.1 with h1 | h1
    ·exact h1
    ·exact absurd h1.1 e
  | succ i => exact isOf_at s f h.2 i (by simpa using hi)
 | [], x :: f, h, i, hi => by simp [isOfL] at h
 | c :: s, [], h, i, hi => by simp [isOfL] at h
theorem isOf_digs {s f : List UInt8} (h : isOfL s f = true) (a n : Nat) (hf : ∀ j, j < n → f.getD (a + j) 0 = 48) (hn : a + n ≤ f.length) : ∀ c ∈ (s.drop a).take n, digB c = true := by
 intro c hc
 obtain ⟨j, hj, _, rfl⟩ := mem_take_getD _ _ _ _ hc
 exact (isOf_at s f h (a + j) (by omega)).1 (hf j hj)
theorem cell_below {w w' : World} {g j : Nat} {v : Value} (hb : Below w.heap.size w w') (h : w.cell? ⟨g, j, none⟩ = some v) : w'.cell? ⟨g, j, none⟩ = some v := by
 rw [hb.cell (p := ⟨g, j, none⟩) (block_lt_of_cell h)]; exact h
theorem any_drop (p : List UInt8 → Bool) (fs : List (List UInt8)) (k : Nat) (h : k < fs.length) : (fs.drop k).any p = (p (fs.getD k []) || (fs.drop (k + 1)).any p) := by
 rw [List.drop_eq_getElem_cons h, List.any_cons, List.getD_eq_getElem?_getD, List.getElem?_eq_getElem h]; rfl
set_option maxRecDepth 1000000 in
theorem fits_any (l : List UInt8) (fs : List (List UInt8)) (g cap : Nat) (hl : l.length ≤ 1000000) (hn : fs.length ≤ 100) (hf : ∀ j, j < fs.length → (fs.getD j []).length ≤ 100) (w : World)
  (hc : ∀ j, j < fs.length → w.cell? ⟨g, j, none⟩ = some (.string (asS (fs.getD j [])))) :
  Calls Tryz.prog 173 #[.string (asS l), .slice (some ⟨g, 0, none⟩) fs.length cap] w fun e w' => e = .returned (.bool (fs.any (isOfL l))) ∧ Below w.heap.size w w' := by
 have HI := hid (fun j (h : j < fs.length) W => isOf_any l (fs.getD j []) hl (hf j h) W)
 have HC := hid hc
 have HS := hid (fun k (h : k < fs.length) => any_drop (isOfL l) fs k h)
 have HZ : Hid (∀ k, fs.length ≤ k → (fs.drop k).any (isOfL l) = false) := fun k hk => by rw [List.drop_eq_nil_of_le hk]; rfl
 obtain ⟨R, HRR⟩ : ∃ R, Hid ((fs.drop 0).any (isOfL l) = R) := ⟨_, rfl⟩
 rw [show fs.any (isOfL l) = R from by rw [← HRR.out]; rfl]
 clear hc hf
 generalize asS l = s at *
 generalize hN : fs.length = N at *
 clear hN
 go_enter Tryz.func173, Tryz.ntmps173
 go_wp2_with fail
 go_loopw [9] (fun i wr => ∃ (k : Nat), k ≤ N ∧ i = .int .i64 k ∧ Hid (Below w.heap.size w wr) ∧ Hid ((fs.drop k).any (isOfL l) = R)) (fun i _ => N - (intOf i).toNat)
 case atStart => exact ⟨0, Nat.zero_le _, rfl, Below.refl _ _, HRR⟩
 case round =>
  obtain ⟨k, hk, rfl, HB, HK⟩ := hrel
  by_cases hlt : k < N
  ·have hi : (k : Int) < (N : Int) := by omega
   have hcell := cell_below HB.out (HC.out k hlt)
   have HIK := hid (HI.out k hlt)
   have HSK := hid (HS.out k hlt)
   generalize fs.getD k [] = f at hcell HIK HSK
   generalize asS f = t at hcell HIK
   have HT : Hid ((isOfL l f || (fs.drop (k + 1)).any (isOfL l)) = R) := by show _ = _; rw [← HSK.out]; exact HK.out
   clear HSK HK
   generalize isOfL l f = b at HIK HT
   cases b
   ·go_wp2_with (go_at_call 201; refine (HIK.out _).mono ?_; rintro e w2 ⟨rfl, hb2⟩)
    go_roundw
    case rel => exact ⟨k + 1, by omega, by go_num, HB.out.trans (hb2.mono HB.out.size), by have := HT.out; rw [Bool.false_or] at this; exact this⟩
    case measure => simp [intOf]; omega
   ·have HRT : Hid (R = true) := by show _ = _; rw [← HT.out]; rfl
    go_wp2_with (go_at_call 201; refine (HIK.out _).mono ?_; rintro e w2 ⟨rfl, hb2⟩)
    go_ret
    exact ⟨by rw [HRT.out]; rfl, HB.out.trans (hb2.mono HB.out.size)⟩
  ·have hi : ¬ (k : Int) < (N : Int) := by omega
   have HRF : Hid (R = false) := by show _ = _; rw [← HK.out]; exact HZ.out k (by omega)
   go_wp2_with fail
   go_ret
   exact ⟨by rw [HRF.out]; rfl, HB.out⟩
def offV (z : List UInt8) : Option Int :=
 if 23 < numD ((z.drop 1).take 2) ∨ 59 < numD (z.drop (z.length - 2)) then none
 else some (if z.getD 0 0 = 45 then -((numD ((z.drop 1).take 2) : Int) * 3600 + (numD (z.drop (z.length - 2)) : Int) * 60) else (numD ((z.drop 1).take 2) : Int) * 3600 + (numD (z.drop (z.length - 2)) : Int) * 60)
def offL (fs : List (List UInt8)) (z : List UInt8) : Option Int := if fs.any (isOfL z) then offV z else none
def optV (o : Option Int) : Value := match o with
 | some n => .tuple #[.int .i64 n, .bool true]
 | none => .tuple #[.int .i64 0, .bool false]
set_option maxRecDepth 1000000 in
theorem offset_no (l : List UInt8) (fs : List (List UInt8)) (g cap : Nat) (hl : l.length ≤ 1000000) (hn : fs.length ≤ 100) (hf : ∀ j, j < fs.length → (fs.getD j []).length ≤ 100) (w : World)
  (hc : ∀ j, j < fs.length → w.cell? ⟨g, j, none⟩ = some (.string (asS (fs.getD j [])))) (h : fs.any (isOfL l) = false) :
  Calls Tryz.prog 202 #[.string (asS l), .slice (some ⟨g, 0, none⟩) fs.length cap] w fun e w' => e = .returned (optV (offL fs l)) ∧ Below w.heap.size w w' := by
 have HF := hid (fits_any l fs g cap hl hn hf w hc)
 rw [h] at HF
 unfold offL
 rw [h]
 clear h hc hf
 generalize asS l = s at *
 generalize fs.length = N at *
 go_enter Tryz.func202, Tryz.ntmps202
 go_wp2_with (go_at_call 173; refine (HF.out).mono ?_; rintro e w2 ⟨rfl, hb2⟩)
 go_ret2
 exact ⟨rfl, hb2⟩
set_option maxHeartbeats 2000000 in
set_option maxRecDepth 1000000 in
theorem offset_yes (l : List UInt8) (fs : List (List UInt8)) (g cap : Nat) (hl : l.length ≤ 100) (hn : fs.length ≤ 100) (hf : ∀ j, j < fs.length → (fs.getD j []).length ≤ 100) (w : World)
  (hc : ∀ j, j < fs.length → w.cell? ⟨g, j, none⟩ = some (.string (asS (fs.getD j [])))) (h : fs.any (isOfL l) = true) (h5 : 5 ≤ l.length) (hd1 : ∀ c ∈ (l.drop 1).take 2, digB c = true) (hd2 : ∀ c ∈ l.drop (l.length - 2), digB c = true) :
  Calls Tryz.prog 202 #[.string (asS l), .slice (some ⟨g, 0, none⟩) fs.length cap] w fun e w' => e = .returned (optV (offL fs l)) ∧ Below w.heap.size w w' := by
 have HF := hid (fits_any l fs g cap (by omega) hn hf w hc)
 rw [h] at HF
 have HV : Hid (offL fs l = offV l) := by show _ = _; unfold offL; rw [if_pos h]
 rw [HV.out]
 unfold offV
 clear HV h hc hf
 obtain ⟨n, hnl⟩ : ∃ n, l.length = n + 2 := ⟨l.length - 2, by omega⟩
 have HSZ : Hid ((asS l).size = n + 2) := by show _ = _; rw [asS_size, hnl]
 rw [show l.length - 2 = n by omega] at hd2 ⊢
 have HN1 := hid (fun W => number_any ((l.drop 1).take 2) (by rw [List.length_take]; omega) hd1 W)
 have HN2 := hid (fun W => number_any (l.drop n) (by rw [List.length_drop]; omega) hd2 W)
 have hb1 : numD ((l.drop 1).take 2) < 100 := num_lt 2 _ (by rw [List.length_take, List.length_drop]; omega) hd1
 have hb2 : numD (l.drop n) < 100 := num_lt 2 _ (by rw [List.length_drop]; omega) hd2
 have HX1 : Hid ((asS l).extract 1 3 = asS ((l.drop 1).take 2)) := by show _ = _; rw [ext_asS, asS_data]
 have HX2 : Hid ((asS l).extract n (asS l).size = asS (l.drop n)) := ext8_from l n
 have HIX : Hid (∀ W : World, (Instr.index 9 (.string (asS l)) (.int .i64 0)).run Tryz.prog W = .ok (.int .u8 (l.getD 0 0).toNat) W) := fun W => str_ix (asS l) 0 (by have := HSZ.out; omega) W
 generalize numD ((l.drop 1).take 2) = A at *
 generalize numD (l.drop n) = B at *
 generalize (l.drop 1).take 2 = l1 at *
 generalize l.drop n = l2 at *
 generalize l.getD 0 0 = c at *
 have hn3 : 3 ≤ n := by omega
 have hn4 : n ≤ 98 := by omega
 clear hd1 hd2 hnl
 generalize asS l1 = s1 at *
 generalize asS l2 = s2 at *
 generalize asS l = s at *
 generalize fs.length = N at *
 have hs1 : ∀ W : World, (Instr.slice 9 (.string s) (some (.int .i64 1)) (some (.int .i64 3)) none).run Tryz.prog W = .ok (.string s1) W := fun W => by
  rw [← HX1.out]; exact sliceD_run s 1 3 1 3 rfl rfl (by omega) (by have := HSZ.out; omega) _ rfl W
 have hs2 : ∀ W : World, (Instr.slice 9 (.string s) (some (.int .i64 (n : Int))) none none).run Tryz.prog W = .ok (.string s2) W := fun W => by
  rw [← HX2.out]; exact sliceF_run s n (by have := HSZ.out; omega) W
 have hix := HIX.out
 have hw : IntKind.i64.wrap ((s.size : Int) - 2) = (n : Int) := by rw [HSZ.out, IntKind.wrap_i64]; omega
 go_enter Tryz.func202, Tryz.ntmps202
 go_wp2_with (go_at_call 173; refine (HF.out).mono ?_; rintro e w2 ⟨rfl, hb2⟩)
 have c1 : REG 177 #[.string s1] w2 (.int .i64 A) := fun d os => Calls.regrown_of (HN1.out _)
 have c2 : REG 177 #[.string s2] w2 (.int .i64 B) := fun d os => Calls.regrown_of (HN2.out _)
 refine wp_region_quiet_below (by kernel_rfl) (by kernel_rfl) ?_
 repeat (go_big_quiet_step (first | (go_at_call_of 177 (Value.string s1); exact c1 _ _) | (go_at_call_of 177 (Value.string s2); exact c2 _ _)))
 refine wpQuiet_nil ?_
 rintro W9 ⟨⟨dq, osq⟩, hw9⟩
 have HB9 : Hid (Below w.heap.size w W9) := by rw [hw9]; exact hb2.trans ((below_regrown w2 dq osq).mono hb2.size)
 clear hw9 c1 c2 hs1 hs2 hw HN1 HN2
 by_cases g1 : 23 < (A : Int)
 ·go_wp2_with fail
  go_ret2
  exact ⟨by first | rfl | (rw [if_pos (.inl (by omega))]; rfl), HB9.out⟩
 ·by_cases g2 : 59 < (B : Int)
  ·go_wp2_with fail
   go_ret2
   exact ⟨by first | rfl | (rw [if_pos (.inr (by omega))]; rfl), HB9.out⟩
  ·by_cases g3 : c = 45
   ·have b3 : ((c.toNat : Int) == 45) = true := by rw [g3]; rfl
    have HG := hid g3
    clear g3
    go_wp2_with fail
    go_ret2
    exact ⟨by first | rfl | (rw [if_pos HG.out]; rfl) | (rw [if_neg (by omega), if_pos HG.out]; rfl), HB9.out⟩
   ·have b3 : ((c.toNat : Int) == 45) = false := by rw [beq_eq_false_iff_ne]; exact fun h => g3 ((u8_eq_iff c 45).1 h)
    have HG := hid g3
    clear g3
    go_wp2_with fail
    go_ret2
    exact ⟨by first | rfl | (rw [if_neg HG.out]; rfl) | (rw [if_neg (by omega), if_neg HG.out]; rfl), HB9.out⟩
def zF6 : List (List UInt8) := [[43, 48, 48, 58, 48, 48], [45, 48, 48, 58, 48, 48]]
def zF5 : List (List UInt8) := [[43, 48, 48, 48, 48], [45, 48, 48, 48, 48]]
theorem zF6_two (z : List UInt8) (h : zF6.any (isOfL z) = true) : z.length = 6 ∧ (∀ c ∈ (z.drop 1).take 2, digB c = true) ∧ (∀ c ∈ z.drop (z.length - 2), digB c = true) := by
 have key : ∀ f, isOfL z f = true → f.length = 6 → (∀ j, j < 2 → f.getD (1 + j) 0 = 48) → (∀ j, j < 2 → f.getD (4 + j) 0 = 48) → z.length = 6 ∧ (∀ c ∈ (z.drop 1).take 2, digB c = true) ∧ (∀ c ∈ z.drop (z.length - 2), digB c = true) := by
  intro f hf h6 h1 h2
  have hl := isOf_len _ _ hf
  refine ⟨by omega, isOf_digs hf 1 2 h1 (by omega), ?_⟩
  intro c hc
  refine isOf_digs hf 4 2 h2 (by omega) c ?_
  rw [List.take_of_length_le (by rw [List.length_drop]; omega)]
  rw [show z.length - 2 = 4 by omega] at hc
  exact hc
 simp only [zF6, List.any_cons, List.any_nil, Bool.or_false, Bool.or_eq_true] at h
 rcases h with h | h
 ·exact key _ h rfl (by decide) (by decide)
 ·exact key _ h rfl (by decide) (by decide)
theorem zF5_two (z : List UInt8) (h : zF5.any (isOfL z) = true) : z.length = 5 ∧ (∀ c ∈ (z.drop 1).take 2, digB c = true) ∧ (∀ c ∈ z.drop (z.length - 2), digB c = true) := by
 have key : ∀ f, isOfL z f = true → f.length = 5 → (∀ j, j < 2 → f.getD (1 + j) 0 = 48) → (∀ j, j < 2 → f.getD (3 + j) 0 = 48) → z.length = 5 ∧ (∀ c ∈ (z.drop 1).take 2, digB c = true) ∧ (∀ c ∈ z.drop (z.length - 2), digB c = true) := by
  intro f hf h6 h1 h2
  have hl := isOf_len _ _ hf
  refine ⟨by omega, isOf_digs hf 1 2 h1 (by omega), ?_⟩
  intro c hc
  refine isOf_digs hf 3 2 h2 (by omega) c ?_
  rw [List.take_of_length_le (by rw [List.length_drop]; omega)]
  rw [show z.length - 2 = 3 by omega] at hc
  exact hc
 simp only [zF5, List.any_cons, List.any_nil, Bool.or_false, Bool.or_eq_true] at h
 rcases h with h | h
 ·exact key _ h rfl (by decide) (by decide)
 ·exact key _ h rfl (by decide) (by decide)
theorem offset6 (l : List UInt8) (hl : l.length ≤ 1000000) (g cap : Nat) (w : World) (hc : ∀ j, j < zF6.length → w.cell? ⟨g, j, none⟩ = some (.string (asS (zF6.getD j [])))) :
  Calls Tryz.prog 202 #[.string (asS l), .slice (some ⟨g, 0, none⟩) 2 cap] w fun e w' => e = .returned (optV (offL zF6 l)) ∧ Below w.heap.size w w' := by
 cases h : zF6.any (isOfL l) with
 | false => exact offset_no l zF6 g cap hl (by decide) (by decide) w hc h
 | true =>
  obtain ⟨h1, h2, h3⟩ := zF6_two l h
  exact offset_yes l zF6 g cap (by omega) (by decide) (by decide) w hc h (by omega) h2 h3
theorem offset5 (l : List UInt8) (hl : l.length ≤ 1000000) (g cap : Nat) (w : World) (hc : ∀ j, j < zF5.length → w.cell? ⟨g, j, none⟩ = some (.string (asS (zF5.getD j [])))) :
  Calls Tryz.prog 202 #[.string (asS l), .slice (some ⟨g, 0, none⟩) 2 cap] w fun e w' => e = .returned (optV (offL zF5 l)) ∧ Below w.heap.size w w' := by
 cases h : zF5.any (isOfL l) with
 | false => exact offset_no l zF5 g cap hl (by decide) (by decide) w hc h
 | true =>
  obtain ⟨h1, h2, h3⟩ := zF5_two l h
  exact offset_yes l zF5 g cap (by omega) (by decide) (by decide) w hc h (by omega) h2 h3
def z3339 (z : List UInt8) : Option Int := if z = [122] then some 0 else offL zF6 z
theorem two_cells (w : World) (a b : List UInt8) (t : TypeId) (x : Nat) (hx : x = w.heap.size) (fs : List (List UInt8)) (hf : fs = [a, b]) : ∀ j, j < fs.length → (w.alloc (Obj.cells #[.string (asS a), .string (asS b)] t)).cell? ⟨x, j, none⟩ = some (.string (asS (fs.getD j []))) := by
 subst hx; subst hf
 intro j hj
 have hr := heap_alloc_new w (Obj.cells #[.string (asS a), .string (asS b)] t)
 rw [cell_of_row _ _ _ _ _ _ hr]
 have : j = 0 ∨ j = 1 := by simp at hj; omega
 rcases this with rfl | rfl <;> rfl
set_option maxRecDepth 1000000 in
theorem z3339_any (l : List UInt8) (hl : l.length ≤ 1000000) (w : World) : Calls Tryz.prog 174 #[.string (asS l)] w fun e w' => e = .returned (optV (z3339 l)) ∧ Below w.heap.size w w' := by
 unfold z3339
 by_cases h : l = [122]
 ·subst h
  rw [if_pos rfl]
  show Calls Tryz.prog 174 #[.string ⟨#[122]⟩] w _
  go_enter Tryz.func174, Tryz.ntmps174
  go_wp2_with fail
  go_ret2
  exact ⟨rfl, Below.refl _ _⟩
 ·rw [if_neg h]
  have b : ((asS l).toList == [122]) = false := by rw [tl_eq]; exact decide_eq_false h
  clear h
  have HO := hid (fun g cap W hc => offset6 l hl g cap W hc)
  generalize asS l = s at *
  generalize offL zF6 l = R at *
  have HC := hid (fun t => two_cells w [43, 48, 48, 58, 48, 48] [45, 48, 48, 58, 48, 48] t w.heap.size rfl zF6 rfl)
  cases R
  all_goals go_enter Tryz.func174, Tryz.ntmps174
  all_goals go_wp2_with (go_at_call 202; refine (HO.out _ _ _ (HC.out _)).mono ?_; rintro e w2 ⟨rfl, hb2⟩; unfold optV)
  all_goals go_ret2
  all_goals exact ⟨rfl, ((Below.refl _ _).alloc (Nat.le_refl _) _).trans (hb2.mono (by simp))⟩
def zTab : List (List UInt8 × Int) := [([117, 116], 0), ([117, 116, 99], 0), ([103, 109, 116], 0), ([122], 0), ([101, 100, 116], -14400), ([101, 115, 116], -18000), ([99, 100, 116], -18000), ([99, 115, 116], -21600), ([109, 100, 116], -21600), ([109, 115, 116], -25200), ([112, 100, 116], -25200), ([112, 115, 116], -28800)]
def zName (z : List UInt8) : Option Int := (zTab.find? fun p => decide (p.1 = z)).map (·.2)
def z822 (z : List UInt8) : Option Int := match zName z with
 | some n => some n
 | none => offL zF5 z
theorem zName_none {z : List UInt8} (h : zName z = none) : ∀ p ∈ zTab, z ≠ p.1 := by
 unfold zName at h
 rw [Option.map_eq_none_iff, List.find?_eq_none] at h
 intro p hp e
 have := h p hp
 simp [e] at this
theorem zName_some {z : List UInt8} {n : Int} (h : zName z = some n) : (z, n) ∈ zTab := by
 unfold zName at h
 rw [Option.map_eq_some_iff] at h
 obtain ⟨p, hp, rfl⟩ := h
 have h1 := List.find?_some hp
 have h2 := List.mem_of_find?_eq_some hp
 rw [decide_eq_true_eq] at h1
 rw [← h1]; exact h2
set_option maxHeartbeats 4000000 in
set_option maxRecDepth 1000000 in
theorem z822_any (l : List UInt8) (hl : l.length ≤ 1000000) (w : World) : Calls Tryz.prog 179 #[.string (asS l)] w fun e w' => e = .returned (optV (z822 l)) ∧ Below w.heap.size w w' := by
 unfold z822
 cases hz : zName l with
 | some n =>
  have hm := zName_some hz
  clear hz hl
  simp only [zTab, List.mem_cons, List.not_mem_nil, or_false, Prod.mk.injEq] at hm
  rcases hm with ⟨rfl, rfl⟩ | ⟨rfl, rfl⟩ | ⟨rfl, rfl⟩ | ⟨rfl, rfl⟩ | ⟨rfl, rfl⟩ | ⟨rfl, rfl⟩ | ⟨rfl, rfl⟩ | ⟨rfl, rfl⟩ | ⟨rfl, rfl⟩ | ⟨rfl, rfl⟩ | ⟨rfl, rfl⟩ | ⟨rfl, rfl⟩
  ·show Calls Tryz.prog 179 #[.string ⟨#[117, 116]⟩] w _
   go_enter Tryz.func179, Tryz.ntmps179
   go_wp2_with fail
   go_ret2
   exact ⟨rfl, Below.refl _ _⟩
  ·show Calls Tryz.prog 179 #[.string ⟨#[117, 116, 99]⟩] w _
   go_enter Tryz.func179, Tryz.ntmps179
   go_wp2_with fail
   go_ret2
   exact ⟨rfl, Below.refl _ _⟩
  ·show Calls Tryz.prog 179 #[.string ⟨#[103, 109, 116]⟩] w _
   go_enter Tryz.func179, Tryz.ntmps179
   go_wp2_with fail
   go_ret2
   exact ⟨rfl, Below.refl _ _⟩
  ·show Calls Tryz.prog 179 #[.string ⟨#[122]⟩] w _
   go_enter Tryz.func179, Tryz.ntmps179
   go_wp2_with fail
   go_ret2
   exact ⟨rfl, Below.refl _ _⟩
  ·show Calls Tryz.prog 179 #[.string ⟨#[101, 100, 116]⟩] w _
   go_enter Tryz.func179, Tryz.ntmps179
   go_wp2_with fail
   go_ret2
   exact ⟨rfl, Below.refl _ _⟩
  ·show Calls Tryz.prog 179 #[.string ⟨#[101, 115, 116]⟩] w _
   go_enter Tryz.func179, Tryz.ntmps179
   go_wp2_with fail
   go_ret2
   exact ⟨rfl, Below.refl _ _⟩
  ·show Calls Tryz.prog 179 #[.string ⟨#[99, 100, 116]⟩] w _
   go_enter Tryz.func179, Tryz.ntmps179
   go_wp2_with fail
   go_ret2
   exact ⟨rfl, Below.refl _ _⟩
  ·show Calls Tryz.prog 179 #[.string ⟨#[99, 115, 116]⟩] w _
   go_enter Tryz.func179, Tryz.ntmps179
   go_wp2_with fail
   go_ret2
   exact ⟨rfl, Below.refl _ _⟩
  ·show Calls Tryz.prog 179 #[.string ⟨#[109, 100, 116]⟩] w _
   go_enter Tryz.func179, Tryz.ntmps179
   go_wp2_with fail
   go_ret2
   exact ⟨rfl, Below.refl _ _⟩
  ·show Calls Tryz.prog 179 #[.string ⟨#[109, 115, 116]⟩] w _
   go_enter Tryz.func179, Tryz.ntmps179
   go_wp2_with fail
   go_ret2
   exact ⟨rfl, Below.refl _ _⟩
  ·show Calls Tryz.prog 179 #[.string ⟨#[112, 100, 116]⟩] w _
   go_enter Tryz.func179, Tryz.ntmps179
   go_wp2_with fail
   go_ret2
   exact ⟨rfl, Below.refl _ _⟩
  ·show Calls Tryz.prog 179 #[.string ⟨#[112, 115, 116]⟩] w _
   go_enter Tryz.func179, Tryz.ntmps179
   go_wp2_with fail
   go_ret2
   exact ⟨rfl, Below.refl _ _⟩
 | none =>
  have hn := zName_none hz
  have key : ∀ c n, (c, n) ∈ zTab → ((asS l).toList == c) = false := fun c n h => by rw [tl_eq]; exact decide_eq_false (hn _ h)
  have b0 := key [117, 116] (0) (by decide)
  have b1 := key [117, 116, 99] (0) (by decide)
  have b2 := key [103, 109, 116] (0) (by decide)
  have b3 := key [122] (0) (by decide)
  have b4 := key [101, 100, 116] (-14400) (by decide)
  have b5 := key [101, 115, 116] (-18000) (by decide)
  have b6 := key [99, 100, 116] (-18000) (by decide)
  have b7 := key [99, 115, 116] (-21600) (by decide)
  have b8 := key [109, 100, 116] (-21600) (by decide)
  have b9 := key [109, 115, 116] (-25200) (by decide)
  have b10 := key [112, 100, 116] (-25200) (by decide)
  have b11 := key [112, 115, 116] (-28800) (by decide)
  clear hz hn key
  show Calls Tryz.prog 179 #[.string (asS l)] w fun e w' => e = .returned (optV (offL zF5 l)) ∧ Below w.heap.size w w'
  have HO := hid (fun g cap W hc => offset5 l hl g cap W hc)
  generalize asS l = s at *
  generalize offL zF5 l = R at *
  have HC := hid (fun t => two_cells w [43, 48, 48, 48, 48] [45, 48, 48, 48, 48] t w.heap.size rfl zF5 rfl)
  cases R
  all_goals go_enter Tryz.func179, Tryz.ntmps179
  all_goals go_wp2_with (go_at_call 202; refine (HO.out _ _ _ (HC.out _)).mono ?_; rintro e w2 ⟨rfl, hb2⟩; unfold optV)
  all_goals go_ret2
  all_goals exact ⟨rfl, ((Below.refl _ _).alloc (Nat.le_refl _) _).trans (hb2.mono (by simp))⟩
def optT (o : Option Int) : Value := match o with
 | some n => .tuple #[.int .i64 n, .int .i64 0]
 | none => .tuple #[.int .i64 0, .int .i64 5]
def clkH (l : List UInt8) : Nat := numD (l.take 2)
def clkM (l : List UInt8) : Nat := numD ((l.drop 3).take 2)
def clkS (l : List UInt8) : Nat := numD (l.drop 6)
def timeV (y m d : Nat) (l : List UInt8) (a : Int) : Option Int :=
 if isDay y m d = true ∧ clkH l ≤ 23 ∧ clkM l ≤ 59 ∧ clkS l ≤ 59 then some (((dayD y m d : Int) - 719162) * 86400 + ((clkH l : Int) * 3600 + (clkM l : Int) * 60 + (clkS l : Int) - a)) else none
def clkF : List UInt8 := [48, 48, 58, 48, 48, 58, 48, 48]
theorem sliceT_run (S : ByteArray) (a : Nat) (h : a ≤ S.size) (W : World) : (Instr.slice 9 (.string S) none (some (.int .i64 (a : Int))) none).run Tryz.prog W = .ok (.string (S.extract 0 a)) W := by
 have h2 := run_slice_string_h (P := Tryz.prog) (w := W) (t := 9) (s := S) Tryz.underlying9 .i64 (a : Int) (by omega) (by omega)
 rw [Int.toNat_natCast] at h2
 exact h2
set_option maxHeartbeats 2000000 in
set_option maxRecDepth 1000000 in
theorem timeOf_any (y m d : Nat) (l : List UInt8) (a : Int) (ha : -90000 ≤ a ∧ a ≤ 90000) (hl : isOfL l clkF = true) (w : World) :
  Calls Tryz.prog 176 #[.int .i64 (y : Int), .int .i64 (m : Int), .int .i64 (d : Int), .string (asS l), .int .i64 a] w fun e w' => e = .returned (optT (timeV y m d l a)) ∧ Below w.heap.size w w' := by
 have h8 : l.length = 8 := isOf_len _ _ hl
 have d1 : ∀ c ∈ l.take 2, digB c = true := by have := isOf_digs hl 0 2 (by decide) (by decide); rwa [List.drop_zero] at this
 have d2 : ∀ c ∈ (l.drop 3).take 2, digB c = true := isOf_digs hl 3 2 (by decide) (by decide)
 have d3 : ∀ c ∈ l.drop 6, digB c = true := by
  have := isOf_digs hl 6 2 (by decide) (by decide)
  rwa [List.take_of_length_le (by rw [List.length_drop]; omega)] at this
 have HN1 := hid (fun W => number_any (l.take 2) (by rw [List.length_take]; omega) d1 W)
 have HN2 := hid (fun W => number_any ((l.drop 3).take 2) (by rw [List.length_take]; omega) d2 W)
 have HN3 := hid (fun W => number_any (l.drop 6) (by rw [List.length_drop]; omega) d3 W)
 have b1 : clkH l < 100 := num_lt 2 _ (by rw [List.length_take]; omega) d1
 have b2 : clkM l < 100 := num_lt 2 _ (by rw [List.length_take, List.length_drop]; omega) d2
 have b3 : clkS l < 100 := num_lt 2 _ (by rw [List.length_drop]; omega) d3
 have HX1 : Hid ((asS l).extract 0 2 = asS (l.take 2)) := ext8_to l 2
 have HX2 : Hid ((asS l).extract 3 5 = asS ((l.drop 3).take 2)) := by show _ = _; rw [ext_asS, asS_data]
 have HX3 : Hid ((asS l).extract 6 (asS l).size = asS (l.drop 6)) := ext8_from l 6
 have HSZ : Hid ((asS l).size = 8) := by show _ = _; rw [asS_size, h8]
 have HDN : Hid (isDay y m d = false → ∀ W : World, Calls Tryz.prog 204 #[.int .i64 (y : Int), .int .i64 (m : Int), .int .i64 (d : Int)] W fun e w' => e = .returned (.tuple #[.int .i64 0, .int .i64 1]) ∧ w' = W) := fun h W => days_no y m d h W
 have HDY : Hid (isDay y m d = true → dayD y m d < 3652059 ∧ ∀ W : World, Calls Tryz.prog 204 #[.int .i64 (y : Int), .int .i64 (m : Int), .int .i64 (d : Int)] W fun e w' => e = .returned (.tuple #[.int .i64 ((dayD y m d : Int) - 719162), .int .i64 0]) ∧ w' = W) := fun h => by
  obtain ⟨a, b, c, e1, e2, e3, h⟩ := isDay_nat h
  have q1 : y = a := by omega
  have q2 : m = b := by omega
  have q3 : d = c := by omega
  subst q1; subst q2; subst q3
  exact ⟨day_lt h, fun W => days_yes y m d h W⟩
 unfold timeV
 change Hid (∀ W : World, Calls Tryz.prog 177 #[.string (asS (l.take 2))] W fun e w' => e = .returned (.int .i64 (clkH l : Int)) ∧ Below W.heap.size W w') at HN1
 change Hid (∀ W : World, Calls Tryz.prog 177 #[.string (asS ((l.drop 3).take 2))] W fun e w' => e = .returned (.int .i64 (clkM l : Int)) ∧ Below W.heap.size W w') at HN2
 change Hid (∀ W : World, Calls Tryz.prog 177 #[.string (asS (l.drop 6))] W fun e w' => e = .returned (.int .i64 (clkS l : Int)) ∧ Below W.heap.size W w') at HN3
 clear d1 d2 d3 hl h8
 generalize clkH l = A at *
 generalize clkM l = B at *
 generalize clkS l = C at *
 generalize asS (l.take 2) = s1 at *
 generalize asS ((l.drop 3).take 2) = s2 at *
 generalize asS (l.drop 6) = s3 at *
 generalize asS l = s at *
 generalize isDay y m d = D at *
 generalize dayD y m d = N at *
 have hs1 : ∀ W : World, (Instr.slice 9 (.string s) none (some (.int .i64 2)) none).run Tryz.prog W = .ok (.string s1) W := fun W => by
  rw [← HX1.out]; exact sliceT_run s 2 (by have := HSZ.out; omega) W
 have hs2 : ∀ W : World, (Instr.slice 9 (.string s) (some (.int .i64 3)) (some (.int .i64 5)) none).run Tryz.prog W = .ok (.string s2) W := fun W => by
  rw [← HX2.out]; exact sliceD_run s 3 5 3 5 rfl rfl (by omega) (by have := HSZ.out; omega) _ rfl W
 have hs3 : ∀ W : World, (Instr.slice 9 (.string s) (some (.int .i64 6)) none none).run Tryz.prog W = .ok (.string s3) W := fun W => by
  rw [← HX3.out]; exact sliceF_run s 6 (by have := HSZ.out; omega) W
 have c1 : ∀ w2, REG 177 #[.string s1] w2 (.int .i64 A) := fun w2 d os => Calls.regrown_of (HN1.out _)
 have c2 : ∀ w2, REG 177 #[.string s2] w2 (.int .i64 B) := fun w2 d os => Calls.regrown_of (HN2.out _)
 have c3 : ∀ w2, REG 177 #[.string s3] w2 (.int .i64 C) := fun w2 d os => Calls.regrown_of (HN3.out _)
 clear HN1 HN2 HN3
 obtain ⟨ha1, ha2⟩ := ha
 cases D
 ·have HD := hid (HDN.out rfl)
  rw [if_neg (fun h => by simp at h)]
  clear HDN HDY
  go_enter Tryz.func176, Tryz.ntmps176
  go_wp2_with (go_at_call 204; refine (HD.out _).mono ?_; rintro e w2 ⟨rfl, rfl⟩)
  refine wp_region_quiet_below (by kernel_rfl) (by kernel_rfl) ?_
  repeat (go_big_quiet_step (first | (go_at_call_of 177 (Value.string s1); exact c1 _ _ _) | (go_at_call_of 177 (Value.string s2); exact c2 _ _ _) | (go_at_call_of 177 (Value.string s3); exact c3 _ _ _)))
  refine wpQuiet_nil ?_
  rintro W9 ⟨⟨dq, osq⟩, hw9⟩
  have HB9 : Hid (Below w2.heap.size w2 W9) := by rw [hw9]; exact below_regrown w2 dq osq
  clear hw9 c1 c2 c3 hs1 hs2 hs3
  go_wp2_with fail
  go_ret2
  exact ⟨rfl, HB9.out⟩
 ·obtain ⟨hN, hd⟩ := HDY.out rfl
  have HD := hid hd
  clear HDN HDY hd
  by_cases g1 : A ≤ 23
  ·by_cases g2 : B ≤ 59
   ·by_cases g3 : C ≤ 59
    ·rw [if_pos ⟨rfl, g1, g2, g3⟩]
     have f1 : decide (23 < (A : Int)) = false := decide_eq_false (by omega)
     have f2 : decide (59 < (B : Int)) = false := decide_eq_false (by omega)
     have f3 : decide (59 < (C : Int)) = false := decide_eq_false (by omega)
     go_enter Tryz.func176, Tryz.ntmps176
     go_wp2_with (go_at_call 204; refine (HD.out _).mono ?_; rintro e w2 ⟨rfl, rfl⟩)
     refine wp_region_quiet_below (by kernel_rfl) (by kernel_rfl) ?_
     repeat (go_big_quiet_step (first | (go_at_call_of 177 (Value.string s1); exact c1 _ _ _) | (go_at_call_of 177 (Value.string s2); exact c2 _ _ _) | (go_at_call_of 177 (Value.string s3); exact c3 _ _ _)))
     refine wpQuiet_nil ?_
     rintro W9 ⟨⟨dq, osq⟩, hw9⟩
     have HB9 : Hid (Below w2.heap.size w2 W9) := by rw [hw9]; exact below_regrown w2 dq osq
     clear hw9 c1 c2 c3 hs1 hs2 hs3
     go_wp2_with fail
     go_ret2
     exact ⟨rfl, HB9.out⟩
    ·rw [if_neg (fun h => g3 h.2.2.2)]
     have f1 : decide (23 < (A : Int)) = false := decide_eq_false (by omega)
     have f2 : decide (59 < (B : Int)) = false := decide_eq_false (by omega)
     have f3 : decide (59 < (C : Int)) = true := decide_eq_true (by omega)
     clear g1 g2 g3
     go_enter Tryz.func176, Tryz.ntmps176
     go_wp2_with (go_at_call 204; refine (HD.out _).mono ?_; rintro e w2 ⟨rfl, rfl⟩)
     refine wp_region_quiet_below (by kernel_rfl) (by kernel_rfl) ?_
     repeat (go_big_quiet_step (first | (go_at_call_of 177 (Value.string s1); exact c1 _ _ _) | (go_at_call_of 177 (Value.string s2); exact c2 _ _ _) | (go_at_call_of 177 (Value.string s3); exact c3 _ _ _)))
     refine wpQuiet_nil ?_
     rintro W9 ⟨⟨dq, osq⟩, hw9⟩
     have HB9 : Hid (Below w2.heap.size w2 W9) := by rw [hw9]; exact below_regrown w2 dq osq
     clear hw9 c1 c2 c3 hs1 hs2 hs3
     go_wp2_with fail
     go_ret2
     exact ⟨rfl, HB9.out⟩
   ·rw [if_neg (fun h => g2 h.2.2.1)]
    have f1 : decide (23 < (A : Int)) = false := decide_eq_false (by omega)
    have f2 : decide (59 < (B : Int)) = true := decide_eq_true (by omega)
    clear g1 g2
    go_enter Tryz.func176, Tryz.ntmps176
    go_wp2_with (go_at_call 204; refine (HD.out _).mono ?_; rintro e w2 ⟨rfl, rfl⟩)
    refine wp_region_quiet_below (by kernel_rfl) (by kernel_rfl) ?_
    repeat (go_big_quiet_step (first | (go_at_call_of 177 (Value.string s1); exact c1 _ _ _) | (go_at_call_of 177 (Value.string s2); exact c2 _ _ _) | (go_at_call_of 177 (Value.string s3); exact c3 _ _ _)))
    refine wpQuiet_nil ?_
    rintro W9 ⟨⟨dq, osq⟩, hw9⟩
    have HB9 : Hid (Below w2.heap.size w2 W9) := by rw [hw9]; exact below_regrown w2 dq osq
    clear hw9 c1 c2 c3 hs1 hs2 hs3
    go_wp2_with fail
    go_ret2
    exact ⟨rfl, HB9.out⟩
  ·rw [if_neg (fun h => g1 h.2.1)]
   have f1 : decide (23 < (A : Int)) = true := decide_eq_true (by omega)
   clear g1
   go_enter Tryz.func176, Tryz.ntmps176
   go_wp2_with (go_at_call 204; refine (HD.out _).mono ?_; rintro e w2 ⟨rfl, rfl⟩)
   refine wp_region_quiet_below (by kernel_rfl) (by kernel_rfl) ?_
   repeat (go_big_quiet_step (first | (go_at_call_of 177 (Value.string s1); exact c1 _ _ _) | (go_at_call_of 177 (Value.string s2); exact c2 _ _ _) | (go_at_call_of 177 (Value.string s3); exact c3 _ _ _)))
   refine wpQuiet_nil ?_
   rintro W9 ⟨⟨dq, osq⟩, hw9⟩
   have HB9 : Hid (Below w2.heap.size w2 W9) := by rw [hw9]; exact below_regrown w2 dq osq
   clear hw9 c1 c2 c3 hs1 hs2 hs3
   go_wp2_with fail
   go_ret2
   exact ⟨rfl, HB9.out⟩
end Go.Proofs.YtgoiafndapemjaaGreatDoor
