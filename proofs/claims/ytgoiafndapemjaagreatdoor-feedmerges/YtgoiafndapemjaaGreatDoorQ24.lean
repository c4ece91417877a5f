import Derived.Test.YtgoiafndapemjaaGreatDoorQ23
import Derived.Test.YtgoiafndapemjaaGreatDoorRows
import Derived.BigQuiet
set_option linter.unusedVariables false
set_option linter.unusedSimpArgs false
set_option maxHeartbeats 1000000
namespace Go.Proofs.YtgoiafndapemjaaGreatDoor
open Go.RowKit
theorem ret_boolW {a b : Bool} (h : a = b) : Ending.returned (.bool a) = .returned (.bool b) := by rw [h]
theorem ret_tup2 {k l : IntKind} {a b c d : Int} (h : a = b) (h2 : c = d) : Ending.returned (.tuple #[.int k a, .int l c]) = .returned (.tuple #[.int k b, .int l d]) := by rw [h, h2]
theorem leap_any (y : Nat) (hy : y ≤ 100000) (w : World) : Calls Tryz.prog 225 #[.int .i64 (y : Int)] w fun e w' => e = .returned (.bool (leapD y)) ∧ w' = w := by
 go_enter Tryz.func225, Tryz.ntmps225
 go_wp2
 all_goals (go_ret; refine ⟨?_, rfl⟩)
 all_goals (refine ret_boolW ?_; rw [Bool.eq_iff_iff, leap_iff]; (try simp only [Bool.or_eq_true, Bool.and_eq_true, beq_iff_eq, bne_iff_ne, ne_eq]); (first | omega | (simp; omega)))
theorem long_cases (y m : Nat) : (m = 2 ∧ ((leapD y = true ∧ longD y m = 29) ∨ (leapD y = false ∧ longD y m = 28))) ∨ ((m = 4 ∨ m = 6 ∨ m = 9 ∨ m = 11) ∧ longD y m = 30) ∨ (¬ m = 2 ∧ ¬ m = 4 ∧ ¬ m = 6 ∧ ¬ m = 9 ∧ ¬ m = 11 ∧ longD y m = 31) := by
 by_cases h2 : m = 2
 ·subst h2
  cases h : leapD y <;> simp [longD, h]
 ·by_cases h4 : m = 4 ∨ m = 6 ∨ m = 9 ∨ m = 11
  ·exact .inr (.inl ⟨h4, by simp [longD, h4]⟩)
  ·exact .inr (.inr ⟨h2, by omega, by omega, by omega, by omega, by simp [longD, h2, h4]⟩)
theorem long_any (y m : Nat) (hy : y ≤ 100000) (hm : m ≤ 100000) (w : World) : Calls Tryz.prog 218 #[.int .i64 (y : Int), .int .i64 (m : Int)] w fun e w' => e = .returned (.int .i64 (longD y m : Int)) ∧ w' = w := by
 have HC := hid (long_cases y m)
 have HL := hid (fun W => leap_any y hy W)
 generalize longD y m = R at HC ⊢
 generalize leapD y = b at HC HL
 rcases HC.out with ⟨rfl, ⟨rfl, rfl⟩ | ⟨rfl, rfl⟩⟩ | ⟨rfl | rfl | rfl | rfl, rfl⟩ | ⟨h2, h4, h6, h9, h11, rfl⟩
 rotate_right
 ·have g2 : ¬ (m : Int) = 2 := by omega
  have g4 : ¬ (m : Int) = 4 := by omega
  have g6 : ¬ (m : Int) = 6 := by omega
  have g9 : ¬ (m : Int) = 9 := by omega
  have g11 : ¬ (m : Int) = 11 := by omega
  clear h2 h4 h6 h9 h11
  go_enter Tryz.func218, Tryz.ntmps218
  go_wp2_with fail
  go_ret
  exact ⟨rfl, rfl⟩
 all_goals go_enter Tryz.func218, Tryz.ntmps218
 all_goals go_wp2_with (go_at_call 225; refine (HL.out _).mono ?_; rintro e w' ⟨rfl, rfl⟩)
 all_goals (go_ret; exact ⟨rfl, rfl⟩)
theorem ahead_any (y : Nat) (h1 : 1 ≤ y) (hy : y ≤ 100000) (w : World) : Calls Tryz.prog 217 #[.int .i64 (y : Int)] w fun e w' => e = .returned (.int .i64 (aheadD y : Int)) ∧ w' = w := by
 go_enter Tryz.func217, Tryz.ntmps217
 go_wp2
 go_ret
 refine ⟨ret_intW ?_, rfl⟩
 obtain ⟨x, rfl⟩ : ∃ x, y = x + 1 := ⟨y - 1, by omega⟩
 unfold aheadD
 have b3 : x / 100 ≤ x / 4 := Nat.div_le_div_left (by omega) (by omega)
 rw [Nat.add_sub_cancel]
 have e0 : ((x + 1 : Nat) : Int) - 1 = (x : Int) := by omega
 rw [e0]
 omega
theorem isDate_yes (y m : Nat) (d : Int) (h1 : 1 ≤ y) (h2 : y ≤ 9999) (h3 : 1 ≤ m) (h4 : m ≤ 12) (w : World) : Calls Tryz.prog 216 #[.int .i64 (y : Int), .int .i64 (m : Int), .int .i64 d] w fun e w' => e = .returned (.bool (decide (1 ≤ d ∧ d ≤ (longD y m : Int)))) ∧ w' = w := by
 have HL := hid (fun W => long_any y m (by omega) (by omega) W)
 have hb := long_ge y m
 generalize longD y m = L at HL hb ⊢
 by_cases hd : 1 ≤ d
 ·by_cases hd2 : d ≤ (L : Int)
  all_goals go_enter Tryz.func216, Tryz.ntmps216
  all_goals go_wp2_with (go_at_call 218; refine (HL.out _).mono ?_; rintro e w' ⟨rfl, rfl⟩)
  all_goals (go_ret; refine ⟨ret_boolW ?_, rfl⟩; simp [hd, hd2])
 ·go_enter Tryz.func216, Tryz.ntmps216
  go_wp2_with fail
  go_ret
  refine ⟨ret_boolW ?_, rfl⟩
  simp; omega
theorem isDate_no (y m d : Int) (h : ¬ (1 ≤ y ∧ y ≤ 9999 ∧ 1 ≤ m ∧ m ≤ 12)) (w : World) : Calls Tryz.prog 216 #[.int .i64 y, .int .i64 m, .int .i64 d] w fun e w' => e = .returned (.bool false) ∧ w' = w := by
 by_cases h1 : 1 ≤ y
 ·by_cases h2 : y ≤ 9999
  ·by_cases h3 : 1 ≤ m
   ·have h4 : ¬ m ≤ 12 := fun h4 => h ⟨h1, h2, h3, h4⟩
    clear h
    go_enter Tryz.func216, Tryz.ntmps216
    go_wp2_with fail
    go_ret
    exact ⟨rfl, rfl⟩
   ·clear h
    go_enter Tryz.func216, Tryz.ntmps216
    go_wp2_with fail
    go_ret
    exact ⟨rfl, rfl⟩
  ·clear h
   go_enter Tryz.func216, Tryz.ntmps216
   go_wp2_with fail
   go_ret
   exact ⟨rfl, rfl⟩
 ·clear h
  go_enter Tryz.func216, Tryz.ntmps216
  go_wp2_with fail
  go_ret
  exact ⟨rfl, rfl⟩
def isDay (y m d : Int) : Bool := decide (1 ≤ y ∧ y ≤ 9999 ∧ 1 ≤ m ∧ m ≤ 12 ∧ 1 ≤ d ∧ d ≤ (longD y.toNat m.toNat : Int))
theorem isDay_nat {y m d : Int} (h : isDay y m d = true) : ∃ a b c : Nat, y = a ∧ m = b ∧ d = c ∧ DateD a b c := by
 unfold isDay at h
 rw [decide_eq_true_eq] at h
 refine ⟨y.toNat, m.toNat, d.toNat, by omega, by omega, by omega, ?_⟩
 exact ⟨by omega, by omega, by omega, by omega, by omega, by omega⟩
theorem isDay_of {a b c : Nat} (h : DateD a b c) : isDay a b c = true := by
 obtain ⟨h1, h2, h3, h4, h5, h6⟩ := h
 unfold isDay
 rw [decide_eq_true_eq, Int.toNat_natCast, Int.toNat_natCast]
 omega
theorem isDay_any (y m d : Int) (w : World) : Calls Tryz.prog 216 #[.int .i64 y, .int .i64 m, .int .i64 d] w fun e w' => e = .returned (.bool (isDay y m d)) ∧ w' = w := by
 by_cases h : 1 ≤ y ∧ y ≤ 9999 ∧ 1 ≤ m ∧ m ≤ 12
 ·obtain ⟨h1, h2, h3, h4⟩ := h
  obtain ⟨a, rfl⟩ : ∃ a : Nat, y = a := ⟨y.toNat, by omega⟩
  obtain ⟨b, rfl⟩ : ∃ a : Nat, m = a := ⟨m.toNat, by omega⟩
  have := isDate_yes a b d (by omega) (by omega) (by omega) (by omega) w
  have e : isDay a b d = decide (1 ≤ d ∧ d ≤ (longD a b : Int)) := by
   unfold isDay
   rw [Int.toNat_natCast, Int.toNat_natCast]
   exact decide_eq_decide.2 ⟨fun x => ⟨x.2.2.2.2.1, x.2.2.2.2.2⟩, fun x => ⟨h1, h2, h3, h4, x.1, x.2⟩⟩
  rw [e]; exact this
 ·have e : isDay y m d = false := by
   unfold isDay
   rw [decide_eq_false_iff_not]
   exact fun x => h ⟨x.1, x.2.1, x.2.2.1, x.2.2.2.1⟩
  rw [e]; exact isDate_no y m d h w
theorem days_no (y m d : Int) (h : isDay y m d = false) (w : World) : Calls Tryz.prog 204 #[.int .i64 y, .int .i64 m, .int .i64 d] w fun e w' => e = .returned (.tuple #[.int .i64 0, .int .i64 1]) ∧ w' = w := by
 have HD := hid (fun W => isDay_any y m d W)
 rw [h] at HD
 clear h
 go_enter Tryz.func204, Tryz.ntmps204
 go_wp2_with (go_at_call 216; refine (HD.out _).mono ?_; rintro e w' ⟨rfl, rfl⟩)
 go_ret2
 exact ⟨rfl, rfl⟩
theorem days_yes (y m d : Nat) (h : DateD y m d) (w : World) : Calls Tryz.prog 204 #[.int .i64 (y : Int), .int .i64 (m : Int), .int .i64 (d : Int)] w fun e w' => e = .returned (.tuple #[.int .i64 ((dayD y m d : Int) - 719162), .int .i64 0]) ∧ w' = w := by
 have HD := hid (fun W => isDay_any y m d W)
 rw [isDay_of h] at HD
 have HQ : Hid (((dayD y m d : Nat) : Int) = (aheadD y : Int) + cumD y m + d - 1) := by
  show _ = _
  unfold dayD; have := h.2.2.2.2.1; omega
 obtain ⟨h1, h2, h3, h4, h5, h6⟩ := h
 have hl := long_ge y m
 have hd : d ≤ 31 := by omega
 clear h6 hl
 have HH := hid (fun W => ahead_any y h1 (by omega) W)
 have hb := ahead_le h1 h2
 have HL := hid (fun k (hk : k ≤ 12) W => long_any y k (by omega) (by omega) W)
 have HC := hid (fun k (hk : 1 ≤ k) => cum_succ y k hk)
 have HB : Hid (∀ k, 1 ≤ k → k ≤ 12 → cumD y k ≤ 366) := fun k a b => cum_le y k a b
 have HG := hid (fun k => long_ge y k)
 generalize dayD y m d = N at HQ ⊢
 generalize aheadD y = A at HQ HH hb
 go_enter Tryz.func204, Tryz.ntmps204
 go_wp2_with (first
  | (go_at_call 216; refine (HD.out _).mono ?_; rintro e w' ⟨rfl, rfl⟩)
  | (go_at_call 217; refine (HH.out _).mono ?_; rintro e w' ⟨rfl, rfl⟩))
 go_loop [8, 9] (fun n i => ∃ k : Nat, 1 ≤ k ∧ k ≤ m ∧ i = .int .i64 (k : Int) ∧ n = .int .i64 (-719162 + (A : Int) + (d : Int) - 1 + (cumD y k : Int))) (fun _ i => m - (intOf i).toNat)
 case atStart => exact ⟨1, Nat.le_refl _, h3, rfl, by rw [cum_one]; go_num⟩
 case round =>
  obtain ⟨k, hk1, hk2, rfl, rfl⟩ := hrel
  have hb2 := HB.out k hk1 (by omega)
  by_cases hlt : k < m
  ·have hi : (k : Int) < (m : Int) := by omega
   have HS := hid (HC.out k hk1)
   have HLK := hid (HL.out k (by omega))
   have hg := HG.out k
   generalize longD y k = L at HS HLK hg
   generalize cumD y k = C at hb2 HS ⊢
   go_wp2_with (go_at_call 218; refine (HLK.out _).mono ?_; rintro e w' ⟨rfl, rfl⟩)
   go_round
   case rel => exact ⟨k + 1, by omega, by omega, by go_num, by rw [HS.out]; go_num⟩
   case measure => simp [intOf]; omega
  ·have hi : ¬ (k : Int) < (m : Int) := by omega
   have HK : Hid (k = m) := by show _ = _; omega
   go_wp2_with fail
   go_ret2
   refine ⟨ret_tup2 ?_ rfl, rfl⟩
   rw [HK.out, HQ.out]; omega
end Go.Proofs.YtgoiafndapemjaaGreatDoor
namespace Go.Proofs.YtgoiafndapemjaaGreatDoor
open Go.RowKit Go.BigFrame
def digB (c : UInt8) : Bool := decide (48 ≤ c.toNat ∧ c.toNat ≤ 57)
def numD (l : List UInt8) : Nat := l.foldl (fun n c => n * 10 + (c.toNat - 48)) 0
def isOfL : List UInt8 → List UInt8 → Bool
 | [], [] => true
 | c :: s, x :: f => (decide (c = x) || (decide (x = 48) && digB c)) && isOfL s f
 | _, _ => false
theorem isOf_len : ∀ (s f : List UInt8), isOfL s f = true → s.length = f.length
 | [], [], _ => rfl
 | c :: s, x :: f, h => by
  rw [isOfL, Bool.and_eq_true] at h
  rw [List.length_cons, List.length_cons, isOf_len s f h.2]
 | [], x :: f, h => by simp [isOfL] at h
 | c :: s, [], h => by simp [isOfL] at h
theorem drop_at (l : List UInt8) (k : Nat) (h : k < l.length) : l.drop k = l.getD k 0 :: l.drop (k + 1) := by
 rw [List.drop_eq_getElem_cons h, List.getD_eq_getElem?_getD, List.getElem?_eq_getElem h]; rfl
theorem num_snoc (l : List UInt8) (c : UInt8) : numD (l ++ [c]) = numD l * 10 + (c.toNat - 48) := by simp [numD]
theorem num_take (l : List UInt8) (k : Nat) (h : k < l.length) : numD (l.take (k + 1)) = numD (l.take k) * 10 + ((l.getD k 0).toNat - 48) := by
 rw [take_snoc l k h, num_snoc]
theorem num_lt : ∀ (n : Nat) (l : List UInt8), l.length = n → (∀ c ∈ l, digB c = true) → numD l < 10 ^ n
 | 0, l, h, _ => by rw [List.length_eq_zero_iff.1 h]; decide
 | n + 1, l, h, hd => by
  have e : l = l.take n ++ [l.getD n 0] := by
   have := take_snoc l n (by omega)
   rw [List.take_of_length_le (by omega)] at this
   exact this
  rw [e, num_snoc]
  have h1 := num_lt n (l.take n) (by rw [List.length_take]; omega) (fun c hc => hd c (List.mem_of_mem_take hc))
  have h2 : digB (l.getD n 0) = true := hd _ (by rw [List.getD_eq_getElem?_getD, List.getElem?_eq_getElem (by omega)]; exact List.getElem_mem _)
  unfold digB at h2
  rw [decide_eq_true_eq] at h2
  rw [Nat.pow_succ]
  omega
theorem isDigit_any (c : UInt8) (w : World) : Calls Tryz.prog 203 #[.int .u8 c.toNat] w fun e w' => e = .returned (.bool (digB c)) ∧ w' = w := by
 unfold digB
 by_cases h1 : 48 ≤ (c.toNat : Int)
 ·by_cases h2 : (c.toNat : Int) ≤ 57
  all_goals go_enter Tryz.func203, Tryz.ntmps203
  all_goals go_wp2_with fail
  all_goals (go_ret; refine ⟨ret_boolW ?_, rfl⟩; simp; omega)
 ·go_enter Tryz.func203, Tryz.ntmps203
  go_wp2_with fail
  go_ret
  refine ⟨ret_boolW ?_, rfl⟩; simp; omega
set_option maxRecDepth 1000000 in
theorem number_any (l : List UInt8) (hl : l.length ≤ 4) (hd : ∀ c ∈ l, digB c = true) (w : World) : Calls Tryz.prog 177 #[.string (asS l)] w fun e w' => e = .returned (.int .i64 (numD l : Int)) ∧ Below w.heap.size w w' := by
 obtain ⟨cap, W1, hconv, hrow, hb1⟩ := rowB_new w (asS l)
 rw [asS_data] at hrow
 have HL : Hid ((asS l).size = l.length) := asS_size l
 have hs : (asS l).size ≤ 4 := by have := HL.out; omega
 have HD : Hid (∀ k, k < l.length → digB (l.getD k 0) = true) := fun k hk => hd _ (by rw [List.getD_eq_getElem?_getD, List.getElem?_eq_getElem hk]; exact List.getElem_mem hk)
 have HT : Hid (∀ k, k ≤ l.length → numD (l.take k) < 10000) := fun k hk => by
  have h1 := num_lt k (l.take k) (by rw [List.length_take]; omega) (fun c hc => hd c (List.mem_of_mem_take hc))
  have h2 : 10 ^ k ≤ 10 ^ 4 := Nat.pow_le_pow_right (by omega) (by omega)
  omega
 clear hd
 generalize asS l = s at hconv HL hs ⊢
 have HR := hid hrow; have HB := hid hb1
 clear hrow hb1
 go_enter Tryz.func177, Tryz.ntmps177
 go_wp2
 go_loop [3, 9] (fun n i => ∃ k : Nat, k ≤ s.size ∧ i = .int .i64 k ∧ n = .int .i64 (numD (l.take k) : Int)) (fun _ i => s.size - (intOf i).toNat)
 case atStart => exact ⟨0, Nat.zero_le _, rfl, rfl⟩
 case round =>
  obtain ⟨k, hk, rfl, rfl⟩ := hrel
  by_cases hlt : k < s.size
  ·have hkl : Hid (k < l.length) := by show _ < _; have := HL.out; omega
   have HS := hid (num_take l k hkl.out)
   have hN := HT.out k (Nat.le_of_lt hkl.out)
   have HDK := hid (HD.out k hkl.out)
   have hcell : W1.cell? ⟨w.heap.size, k, none⟩ = some (.int .u8 (l.getD k 0).toNat) := HR.out.1 k hkl.out
   have HM : Hid (numD (l.take (k + 1)) = numD (l.take k) * 10 + ((l.getD k 0).toNat - 48) ∧ 48 ≤ (l.getD k 0).toNat ∧ (l.getD k 0).toNat ≤ 57) := ⟨HS.out, by have := HDK.out; unfold digB at this; rw [decide_eq_true_eq] at this; exact this⟩
   clear HS HDK
   generalize l.getD k 0 = c at hcell HM
   have hc0 : 48 ≤ (c.toNat : Int) := by have := HM.out; omega
   have hc1 : (c.toNat : Int) ≤ 57 := by have := HM.out; omega
   generalize numD (l.take k) = N at HM hN ⊢
   go_wp2
   go_round
   case rel =>
    refine ⟨k + 1, by omega, by go_num, ?_⟩
    have h := HM.out
    rw [h.1, show ((N * 10 + (c.toNat - 48) : Nat) : Int) = (N : Int) * 10 + ((c.toNat : Int) - 48) by omega]
   case measure => simp [intOf]; omega
  ·have HA : Hid (l.take k = l) := List.take_of_length_le (by have := HL.out; omega)
   go_wp2
   go_ret
   exact ⟨by rw [HA.out]; rfl, HB.out⟩
set_option maxRecDepth 1000000 in
theorem isOf_any (l f : List UInt8) (hl : l.length ≤ 1000000) (hf : f.length ≤ 100) (w : World) : Calls Tryz.prog 201 #[.string (asS l), .string (asS f)] w fun e w' => e = .returned (.bool (isOfL l f)) ∧ Below w.heap.size w w' := by
 have HL : Hid ((asS l).size = l.length) := asS_size l
 have HF : Hid ((asS f).size = f.length) := asS_size f
 have hs1 : (asS l).size ≤ 1000000 := by have := HL.out; omega
 have hs2 : (asS f).size ≤ 100 := by have := HF.out; omega
 have HIX : Hid (∀ k (h : k < (asS l).size) (W : World), (Instr.index 9 (.string (asS l)) (.int .i64 (k : Int))).run Tryz.prog W = .ok (.int .u8 (l.getD k 0).toNat) W) := fun k h W => str_ix (asS l) k h W
 have HIF : Hid (∀ k (h : k < (asS f).size) (W : World), (Instr.index 9 (.string (asS f)) (.int .i64 (k : Int))).run Tryz.prog W = .ok (.int .u8 (f.getD k 0).toNat) W) := fun k h W => str_ix (asS f) k h W
 obtain ⟨R, HRR⟩ : ∃ R, Hid (R = isOfL l f) := ⟨_, rfl⟩
 rw [← HRR.out]
 by_cases hlen : l.length = f.length
 ·have HE : Hid ((asS l).size = (asS f).size) := by show _ = _; rw [HL.out, HF.out]; exact hlen
  have HS : Hid (∀ k, k < (asS f).size → isOfL (l.drop k) (f.drop k) = ((decide (l.getD k 0 = f.getD k 0) || (decide (f.getD k 0 = 48) && digB (l.getD k 0))) && isOfL (l.drop (k + 1)) (f.drop (k + 1)))) := fun k hk => by
   rw [drop_at l k (by have := HL.out; have := HE.out; omega), drop_at f k (by have := HF.out; omega), isOfL]
  have HZ : Hid (∀ k, (asS f).size ≤ k → isOfL (l.drop k) (f.drop k) = true) := fun k hk => by
   rw [List.drop_eq_nil_of_le (by have := HL.out; have := HE.out; omega), List.drop_eq_nil_of_le (by have := HF.out; omega)]; rfl
  have HQ : Hid (isOfL (l.drop 0) (f.drop 0) = R) := by show _ = _; rw [HRR.out]; rfl
  have hcmp : ((((asS l).size : Nat) : Int) != ((asS f).size : Int)) = false := by rw [HE.out]; simp
  have hcmp2 : ((((asS l).size : Nat) : Int) == ((asS f).size : Int)) = true := by rw [HE.out]; simp
  clear hlen
  generalize asS l = s at *
  generalize asS f = g at *
  go_enter Tryz.func201, Tryz.ntmps201
  go_wp2_with fail
  go_loopw [13] (fun i wr => ∃ (k : Nat), k ≤ g.size ∧ i = .int .i64 k ∧ Hid (Below w.heap.size w wr) ∧ Hid (isOfL (l.drop k) (f.drop k) = R)) (fun i _ => g.size - (intOf i).toNat)
  case atStart => exact ⟨0, Nat.zero_le _, rfl, Below.refl _ _, HQ⟩
  case round =>
   obtain ⟨k, hk, rfl, HB, HK⟩ := hrel
   by_cases hlt : k < g.size
   ·have hi : (k : Int) < (g.size : Int) := by omega
    have e1 := HIX.out k (by have := HE.out; omega)
    have e2 := HIF.out k hlt
    have HSK := hid (HS.out k hlt)
    have HD := hid (fun W => isDigit_any (l.getD k 0) W)
    generalize l.getD k 0 = c at e1 HSK HD
    generalize f.getD k 0 = x at e2 HSK
    by_cases hcx : c = x
    ·have b1 : ((c.toNat : Int) != (x.toNat : Int)) = false := by rw [hcx]; simp
     have HN : Hid (isOfL (l.drop (k + 1)) (f.drop (k + 1)) = R) := by
      show _ = _
      have := HSK.out
      rw [decide_eq_true hcx, Bool.true_or, Bool.true_and, HK.out] at this
      exact this.symm
     clear hcx
     go_wp2_with fail
     go_quiet (fail)
     go_wp2_with fail
     go_roundw
     case rel => exact ⟨k + 1, by omega, by go_num, HB.out.trans (below_drewN w.heap.size wr nq), HN⟩
     case measure => simp [intOf]; omega
    ·have b1 : ((c.toNat : Int) != (x.toNat : Int)) = true := by rw [bne_iff_ne]; exact fun h => hcx ((u8_eq_iff c x).1 h)
     by_cases hx : x = 48
     ·have b2 : ((x.toNat : Int) != 48) = false := by rw [hx]; rfl
      have HN : Hid ((digB c && isOfL (l.drop (k + 1)) (f.drop (k + 1))) = R) := by
       show _ = _
       have := HSK.out
       rw [decide_eq_false hcx, decide_eq_true hx, Bool.false_or, Bool.true_and, HK.out] at this
       exact this.symm
      clear hcx hx
      generalize digB c = b at HD HN
      cases b
      ·have HRF : Hid (R = false) := by show _ = _; rw [← HN.out]; rfl
       go_wp2_with fail
       go_quiet ((go_at_call 203; exact Calls.quiet_of_same (HD.out _)))
       go_wp2_with fail
       go_ret
       exact ⟨by rw [HRF.out]; rfl, HB.out.trans (below_drewN w.heap.size wr nq)⟩
      ·go_wp2_with fail
       go_quiet ((go_at_call 203; exact Calls.quiet_of_same (HD.out _)))
       go_wp2_with fail
       go_roundw
       case rel => exact ⟨k + 1, by omega, by go_num, HB.out.trans (below_drewN w.heap.size wr nq), HN⟩
       case measure => simp [intOf]; omega
     ·have b2 : ((x.toNat : Int) != 48) = true := by rw [bne_iff_ne]; exact fun h => hx ((u8_eq_iff x 48).1 h)
      have HRF : Hid (R = false) := by
       show _ = _
       have := HSK.out
       rw [decide_eq_false hcx, decide_eq_false hx, HK.out] at this
       exact this
      clear hcx hx
      go_wp2_with fail
      go_quiet (fail)
      go_wp2_with fail
      go_ret
      exact ⟨by rw [HRF.out]; rfl, HB.out.trans (below_drewN w.heap.size wr nq)⟩
   ·have hi : ¬ (k : Int) < (g.size : Int) := by omega
    have HRT : Hid (R = true) := by show _ = _; rw [← HK.out]; exact HZ.out k (by omega)
    go_wp2_with fail
    go_ret
    exact ⟨by rw [HRT.out]; rfl, HB.out⟩
 ·have hcmp : (((asS l).size : Int) != ((asS f).size : Int)) = true := by rw [bne_iff_ne, HL.out, HF.out]; omega
  have HRF : Hid (R = false) := by
   show _ = _
   rw [HRR.out]
   cases h : isOfL l f with
   | false => rfl
   | true => exact absurd (isOf_len l f h) hlen
  clear hlen
  generalize asS l = s at *
  generalize asS f = g at *
  go_enter Tryz.func201, Tryz.ntmps201
  go_wp2_with fail
  go_ret
  exact ⟨by rw [HRF.out]; rfl, Below.refl _ _⟩
end Go.Proofs.YtgoiafndapemjaaGreatDoor
