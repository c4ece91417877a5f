
/- Times as they are written, digit by digit, and read back; what the reference reads is what the program reads. No program in it. -/
import Derived.Test.YthpplcadpngdiaaDoorDtR8
namespace Go.Proofs.YthpplcadpngdiaaDoor
set_option linter.unusedVariables false
set_option linter.unusedSimpArgs false

/-- A number in so many digits. -/
def dig : Nat → Nat → List UInt8
  | 0, _ => []
  | k + 1, n => dig k (n / 10) ++ [UInt8.ofNat (48 + n % 10)]
theorem dig_len : ∀ k n, (dig k n).length = k
  | 0, _ => rfl
  | k + 1, n => by rw [dig, List.length_append, dig_len]; rfl
theorem digB_of (r : Nat) (h : r < 10) : digB (UInt8.ofNat (48 + r)) = true ∧ (UInt8.ofNat (48 + r)).toNat = 48 + r := by
  rcases (show r = 0 ∨ r = 1 ∨ r = 2 ∨ r = 3 ∨ r = 4 ∨ r = 5 ∨ r = 6 ∨ r = 7 ∨ r = 8 ∨ r = 9 by omega) with rfl | rfl | rfl | rfl | rfl | rfl | rfl | rfl | rfl | rfl <;> decide
theorem dig_digs : ∀ k n c, c ∈ dig k n → digB c = true
  | 0, _, c, h => by simp [dig] at h
  | k + 1, n, c, h => by
    rw [dig, List.mem_append] at h
    rcases h with h | h
    · exact dig_digs k _ c h
    · rw [List.mem_singleton] at h
      rw [h]; exact (digB_of _ (Nat.mod_lt _ (by omega))).1
theorem dig_num : ∀ k n, n < 10 ^ k → numD (dig k n) = n
  | 0, n, h => by simp at h; subst h; rfl
  | k + 1, n, h => by
    have h2 : n / 10 < 10 ^ k := by rw [Nat.pow_succ] at h; omega
    rw [dig, num_snoc, dig_num k _ h2, (digB_of (n % 10) (Nat.mod_lt _ (by omega))).2]
    omega
theorem dig_zero : ∀ k, dig k 0 = List.replicate k 48
  | 0 => rfl
  | k + 1 => by
    rw [dig, Nat.zero_div, dig_zero k, show k + 1 = k + 1 from rfl, List.replicate_succ']
    rfl
theorem low_dig {c : UInt8} (h : digB c = true) : lowB c = c := by
  unfold digB at h
  rw [decide_eq_true_eq] at h
  unfold lowB
  rw [if_neg (by omega)]
theorem two_of (n : Nat) (h : n < 100) : ∃ a b, dig 2 n = [a, b] ∧ digB a = true ∧ digB b = true ∧ numD [a, b] = n := by
  have e := dig_num 2 n (by simpa using h)
  have hd := dig_digs 2 n
  have hl := dig_len 2 n
  match hx : dig 2 n, hl with
  | [a, b], _ => exact ⟨a, b, rfl, hd a (by rw [hx]; simp), hd b (by rw [hx]; simp), by rw [← hx]; exact e⟩
theorem four_of (n : Nat) (h : n < 10000) : ∃ a b c d, dig 4 n = [a, b, c, d] ∧ digB a = true ∧ digB b = true ∧ digB c = true ∧ digB d = true ∧ numD [a, b, c, d] = n := by
  have e := dig_num 4 n (by simpa using h)
  have hd := dig_digs 4 n
  have hl := dig_len 4 n
  match hx : dig 4 n, hl with
  | [a, b, c, d], _ => exact ⟨a, b, c, d, rfl, hd a (by rw [hx]; simp), hd b (by rw [hx]; simp), hd c (by rw [hx]; simp), hd d (by rw [hx]; simp), by rw [← hx]; exact e⟩
theorem isOf_d (c : UInt8) (s f : List UInt8) : isOfL (c :: s) (48 :: f) = (digB c && isOfL s f) := by
  rw [isOfL]
  by_cases h : c = 48
  · subst h; rfl
  · rw [decide_eq_false h]; simp
theorem isOf_x (c x : UInt8) (s f : List UInt8) (h : x ≠ 48) : isOfL (c :: s) (x :: f) = (decide (c = x) && isOfL s f) := by
  rw [isOfL, decide_eq_false h]; simp
/-- A clock. -/
def clkL (h mi s : Nat) : List UInt8 := dig 2 h ++ 58 :: (dig 2 mi ++ 58 :: dig 2 s)
/-- A date and a clock, and what is behind them. -/
def dayL (y m d h mi s : Nat) (t : List UInt8) : List UInt8 := dig 4 y ++ 45 :: (dig 2 m ++ 45 :: (dig 2 d ++ 84 :: (dig 2 h ++ 58 :: (dig 2 mi ++ 58 :: (dig 2 s ++ t)))))
theorem p3339_day (y m d h mi s : Nat) (t : List UInt8) (hy : y < 10000) (hm : m < 100) (hd : d < 100) (hh : h < 100) (hmi : mi < 100) (hs : s < 100) :
    p3339 (dayL y m d h mi s t) = (match z3339 (woF (t.map lowB)) with | none => none | some a => timeV y m d (clkL h mi s) a) := by
  obtain ⟨a1, a2, a3, a4, e1, b1, b2, b3, b4, n1⟩ := four_of y hy
  obtain ⟨a5, a6, e2, b5, b6, n2⟩ := two_of m hm
  obtain ⟨a7, a8, e3, b7, b8, n3⟩ := two_of d hd
  obtain ⟨a9, a10, e4, b9, b10, n4⟩ := two_of h hh
  obtain ⟨a11, a12, e5, b11, b12, n5⟩ := two_of mi hmi
  obtain ⟨a13, a14, e6, b13, b14, n6⟩ := two_of s hs
  have hl : (dayL y m d h mi s t).map lowB = a1 :: a2 :: a3 :: a4 :: 45 :: a5 :: a6 :: 45 :: a7 :: a8 :: 116 :: a9 :: a10 :: 58 :: a11 :: a12 :: 58 :: a13 :: a14 :: t.map lowB := by
    unfold dayL
    rw [e1, e2, e3, e4, e5, e6]
    simp only [List.cons_append, List.nil_append, List.map_cons, low_dig b1, low_dig b2, low_dig b3, low_dig b4, low_dig b5, low_dig b6, low_dig b7, low_dig b8, low_dig b9, low_dig b10, low_dig b11, low_dig b12, low_dig b13, low_dig b14]
    rfl
  have hc : clkL h mi s = [a9, a10, 58, a11, a12, 58, a13, a14] := by
    unfold clkL; rw [e4, e5, e6]; rfl
  unfold p3339
  rw [hl, hc]
  have hf : isOfL ((a1 :: a2 :: a3 :: a4 :: 45 :: a5 :: a6 :: 45 :: a7 :: a8 :: 116 :: a9 :: a10 :: 58 :: a11 :: a12 :: 58 :: a13 :: a14 :: t.map lowB).take 19) form19 = true := by
    show isOfL [a1, a2, a3, a4, 45, a5, a6, 45, a7, a8, 116, a9, a10, 58, a11, a12, 58, a13, a14] [48, 48, 48, 48, 45, 48, 48, 45, 48, 48, 116, 48, 48, 58, 48, 48, 58, 48, 48] = true
    simp only [isOf_d, b1, b2, b3, b4, b5, b6, b7, b8, b9, b10, b11, b12, b13, b14, Bool.true_and]
    rw [isOf_x _ _ _ _ (by decide)]
    simp only [isOf_d, b1, b2, b3, b4, b5, b6, b7, b8, b9, b10, b11, b12, b13, b14, Bool.true_and, decide_true]
    rw [isOf_x _ _ _ _ (by decide)]
    simp only [isOf_d, b1, b2, b3, b4, b5, b6, b7, b8, b9, b10, b11, b12, b13, b14, Bool.true_and, decide_true]
    rw [isOf_x _ _ _ _ (by decide)]
    simp only [isOf_d, b1, b2, b3, b4, b5, b6, b7, b8, b9, b10, b11, b12, b13, b14, Bool.true_and, decide_true]
    rw [isOf_x _ _ _ _ (by decide)]
    simp only [isOf_d, b1, b2, b3, b4, b5, b6, b7, b8, b9, b10, b11, b12, b13, b14, Bool.true_and, decide_true]
    rw [isOf_x _ _ _ _ (by decide)]
    simp only [isOf_d, b1, b2, b3, b4, b5, b6, b7, b8, b9, b10, b11, b12, b13, b14, Bool.true_and, decide_true]
    rfl
  rw [if_pos ⟨by simp, hf⟩]
  show (match z3339 (woF (t.map lowB)) with | none => none | some a => timeV (numD [a1, a2, a3, a4]) (numD [a5, a6]) (numD [a7, a8]) [a9, a10, 58, a11, a12, 58, a13, a14] a) = _
  rw [n1, n2, n3]
theorem clk_of (h mi s : Nat) (hh : h < 100) (hmi : mi < 100) (hs : s < 100) : clkH (clkL h mi s) = h ∧ clkM (clkL h mi s) = mi ∧ clkS (clkL h mi s) = s := by
  obtain ⟨a9, a10, e4, b9, b10, n4⟩ := two_of h hh
  obtain ⟨a11, a12, e5, b11, b12, n5⟩ := two_of mi hmi
  obtain ⟨a13, a14, e6, b13, b14, n6⟩ := two_of s hs
  have hc : clkL h mi s = [a9, a10, 58, a11, a12, 58, a13, a14] := by
    unfold clkL; rw [e4, e5, e6]; rfl
  rw [hc]
  exact ⟨n4, n5, n6⟩
theorem time_of {y m d h mi s : Nat} {a : Int} (hd : DateD y m d) (hh : h < 24) (hmi : mi < 60) (hs : s < 60) : timeV y m d (clkL h mi s) a = some (((dayD y m d : Int) - 719162) * 86400 + ((h : Int) * 3600 + (mi : Int) * 60 + (s : Int) - a)) := by
  obtain ⟨e1, e2, e3⟩ := clk_of h mi s (by omega) (by omega) (by omega)
  unfold timeV
  rw [e1, e2, e3, if_pos ⟨isDay_of hd, by omega, by omega, by omega⟩]
theorem long_31 (y m : Nat) : longD y m ≤ 31 := by
  unfold longD
  split
  · omega
  · split
    · split <;> omega
    · omega
/-- A time as it is written is read back. -/
theorem p3339_print {y m d h mi s : Nat} (hd : DateD y m d) (hh : h < 24) (hmi : mi < 60) (hs : s < 60) : p3339 (dayL y m d h mi s [90]) = some (((dayD y m d : Int) - 719162) * 86400 + ((h : Int) * 3600 + (mi : Int) * 60 + (s : Int))) := by
  have := long_31 y m
  have hd' := hd
  unfold DateD at hd'
  rw [p3339_day _ _ _ _ _ _ _ (by omega) (by omega) (by omega) (by omega) (by omega) (by omega)]
  show timeV y m d (clkL h mi s) 0 = _
  rw [time_of hd hh hmi hs, Int.sub_zero]
/-- A zone behind it: a sign, hours and minutes. -/
theorem off6 (sg : UInt8) (hs : sg = 43 ∨ sg = 45) (zh zm : Nat) (h1 : zh < 24) (h2 : zm < 60) : z3339 (woF ((sg :: (dig 2 zh ++ 58 :: dig 2 zm)).map lowB)) = some (if sg = 45 then -((zh : Int) * 3600 + (zm : Int) * 60) else (zh : Int) * 3600 + (zm : Int) * 60) := by
  obtain ⟨a1, a2, e1, b1, b2, n1⟩ := two_of zh (by omega)
  obtain ⟨a3, a4, e2, b3, b4, n2⟩ := two_of zm (by omega)
  have hl : (sg :: (dig 2 zh ++ 58 :: dig 2 zm)).map lowB = [sg, a1, a2, 58, a3, a4] := by
    rw [e1, e2]
    simp only [List.cons_append, List.nil_append, List.map_cons, low_dig b1, low_dig b2, low_dig b3, low_dig b4]
    rcases hs with rfl | rfl <;> rfl
  rw [hl]
  have hw : woF [sg, a1, a2, 58, a3, a4] = [sg, a1, a2, 58, a3, a4] := by
    show (if sg = 46 ∧ _ then _ else _) = _
    rw [if_neg (by rintro ⟨h, _⟩; rw [h] at hs; revert hs; decide)]
  rw [hw]
  have ha : zF6.any (isOfL [sg, a1, a2, 58, a3, a4]) = true := by
    unfold zF6
    simp only [List.any_cons, List.any_nil, Bool.or_false]
    rw [isOf_x sg 43 _ _ (by decide), isOf_x sg 45 _ _ (by decide)]
    simp only [isOf_d, b1, b2, b3, b4, Bool.true_and]
    rw [isOf_x 58 58 _ _ (by decide)]
    simp only [isOf_d, b1, b2, b3, b4, Bool.true_and]
    rcases hs with rfl | rfl <;> rfl
  unfold z3339
  rw [if_neg (by simp), offL, if_pos ha]
  unfold offV
  show (if 23 < numD [a1, a2] ∨ 59 < numD [a3, a4] then none else some (if sg = 45 then -((numD [a1, a2] : Int) * 3600 + (numD [a3, a4] : Int) * 60) else (numD [a1, a2] : Int) * 3600 + (numD [a3, a4] : Int) * 60)) = _
  rw [n1, n2, if_neg (by omega)]
theorem zName_five {z : List UInt8} (h : z.length = 5) : zName z = none := by
  cases hz : zName z with
  | none => rfl
  | some n =>
    have hm := zName_some hz
    simp only [zTab, List.mem_cons, List.not_mem_nil, or_false, Prod.mk.injEq] at hm
    rcases hm with h' | h' | h' | h' | h' | h' | h' | h' | h' | h' | h' | h' <;> (rw [h'.1] at h; simp at h)
theorem off5 (sg : UInt8) (hs : sg = 43 ∨ sg = 45) (zh zm : Nat) (h1 : zh < 24) (h2 : zm < 60) : z822 (sg :: (dig 2 zh ++ dig 2 zm)) = some (if sg = 45 then -((zh : Int) * 3600 + (zm : Int) * 60) else (zh : Int) * 3600 + (zm : Int) * 60) := by
  obtain ⟨a1, a2, e1, b1, b2, n1⟩ := two_of zh (by omega)
  obtain ⟨a3, a4, e2, b3, b4, n2⟩ := two_of zm (by omega)
  have hl : sg :: (dig 2 zh ++ dig 2 zm) = [sg, a1, a2, a3, a4] := by rw [e1, e2]; rfl
  rw [hl]
  have ha : zF5.any (isOfL [sg, a1, a2, a3, a4]) = true := by
    unfold zF5
    simp only [List.any_cons, List.any_nil, Bool.or_false]
    rw [isOf_x sg 43 _ _ (by decide), isOf_x sg 45 _ _ (by decide)]
    simp only [isOf_d, b1, b2, b3, b4, Bool.true_and]
    rcases hs with rfl | rfl <;> rfl
  unfold z822
  rw [zName_five rfl]
  show offL zF5 [sg, a1, a2, a3, a4] = _
  rw [offL, if_pos ha]
  unfold offV
  show (if 23 < numD [a1, a2] ∨ 59 < numD [a3, a4] then none else some (if sg = 45 then -((numD [a1, a2] : Int) * 3600 + (numD [a3, a4] : Int) * 60) else (numD [a1, a2] : Int) * 3600 + (numD [a3, a4] : Int) * 60)) = _
  rw [n1, n2, if_neg (by omega)]
def monUp : List UInt8 := [74, 97, 110, 70, 101, 98, 77, 97, 114, 65, 112, 114, 77, 97, 121, 74, 117, 110, 74, 117, 108, 65, 117, 103, 83, 101, 112, 79, 99, 116, 78, 111, 118, 68, 101, 99]
def monL (m : Nat) : List UInt8 := (monUp.drop (3 * m - 3)).take 3
theorem mon_of (m : Nat) (h1 : 1 ≤ m) (h2 : m ≤ 12) : monOf ((monL m).map lowB) = m ∧ (monL m).map lowB ≠ [] ∧ ∀ c ∈ (monL m).map lowB, whB c = false := by
  rcases (show m = 1 ∨ m = 2 ∨ m = 3 ∨ m = 4 ∨ m = 5 ∨ m = 6 ∨ m = 7 ∨ m = 8 ∨ m = 9 ∨ m = 10 ∨ m = 11 ∨ m = 12 by omega) with rfl | rfl | rfl | rfl | rfl | rfl | rfl | rfl | rfl | rfl | rfl | rfl <;> decide
/-- The same as mail writes it: words. -/
def mailL (y m d h mi s : Nat) (t : List UInt8) : List UInt8 := dig 2 d ++ 32 :: (monL m ++ 32 :: (dig 4 y ++ 32 :: (clkL h mi s ++ 32 :: t)))
theorem dig_white {c : UInt8} (h : digB c = true) : whB c = false := by
  unfold digB at h
  rw [decide_eq_true_eq] at h
  cases hw : whB c with
  | false => rfl
  | true =>
    unfold whB at hw
    simp only [Bool.or_eq_true, beq_iff_eq] at hw
    rcases hw with ((rfl | rfl) | rfl) | rfl <;> (revert h; decide)
theorem map_dig (k n : Nat) : (dig k n).map lowB = dig k n := by
  have : ∀ l : List UInt8, (∀ c ∈ l, digB c = true) → l.map lowB = l := by
    intro l hl
    induction l with
    | nil => rfl
    | cons c r ih => rw [List.map_cons, low_dig (hl c (by simp)), ih (fun x hx => hl x (by simp [hx]))]
  exact this _ (dig_digs k n)
theorem split_word (a t : List UInt8) (h : ∀ c ∈ a, whB c = false) (h0 : a ≠ []) : splitW (a ++ 32 :: t) [] = a :: splitW t [] := by
  rw [splitW_skip a _ _ h, List.nil_append, splitW, if_pos (by decide), addL, if_neg h0]
  rfl
theorem split_last (a : List UInt8) (h : ∀ c ∈ a, whB c = false) (h0 : a ≠ []) : splitW a [] = [a] := by
  have := splitW_skip a [] [] h
  rw [List.append_nil, List.nil_append] at this
  rw [this, splitW, addL, if_neg h0]
theorem clk_white (h mi s : Nat) : ∀ c ∈ clkL h mi s, whB c = false := by
  intro c hc
  unfold clkL at hc
  simp only [List.mem_append, List.mem_cons] at hc
  rcases hc with hc | rfl | hc | rfl | hc
  · exact dig_white (dig_digs _ _ _ hc)
  · decide
  · exact dig_white (dig_digs _ _ _ hc)
  · decide
  · exact dig_white (dig_digs _ _ _ hc)
theorem clk_low (h mi s : Nat) : (clkL h mi s).map lowB = clkL h mi s := by
  unfold clkL
  rw [List.map_append, List.map_cons, List.map_append, List.map_cons, map_dig, map_dig, map_dig]
  rfl
theorem clk_len (h mi s : Nat) : (clkL h mi s).length = 8 := by
  unfold clkL
  simp [dig_len]
theorem dig_ne (k n : Nat) : dig (k + 1) n ≠ [] := fun h => by
  have := dig_len (k + 1) n
  rw [h] at this; simp at this
theorem mail_words (y m d h mi s : Nat) (t : List UInt8) (h1 : 1 ≤ m) (h2 : m ≤ 12) (ht : ∀ c ∈ t.map lowB, whB c = false) (h0 : t ≠ []) :
    lowW (mailL y m d h mi s t) = [dig 2 d, (monL m).map lowB, dig 4 y, clkL h mi s, t.map lowB] := by
  obtain ⟨_, m0, mw⟩ := mon_of m h1 h2
  unfold lowW mailL
  rw [List.map_append, List.map_cons, List.map_append, List.map_cons, List.map_append, List.map_cons, List.map_append, List.map_cons, map_dig, map_dig, clk_low, show lowB 32 = 32 from by decide]
  rw [split_word _ _ (fun c hc => dig_white (dig_digs _ _ _ hc)) (dig_ne _ _), split_word _ _ mw m0, split_word _ _ (fun c hc => dig_white (dig_digs _ _ _ hc)) (dig_ne _ _), split_word _ _ (clk_white h mi s) (fun e => by have := clk_len h mi s; rw [e] at this; simp at this), split_last _ ht (by simpa using h0)]
theorem not_day (n : Nat) : isDayN (dig 2 n) = false := by
  unfold isDayN
  rw [List.any_eq_false]
  intro x hx
  rw [decide_eq_true_eq]
  intro h
  have hl := dig_len 2 n
  rw [h, List.length_append] at hl
  have : ∀ x ∈ dayNs, x.length = 3 := by decide
  rw [this x hx] at hl
  simp at hl
theorem isOf_digs2 (k n : Nat) : isOfL (dig k n) (List.replicate k 48) = true := by
  have : ∀ l : List UInt8, (∀ c ∈ l, digB c = true) → isOfL l (List.replicate l.length 48) = true := by
    intro l hl
    induction l with
    | nil => rfl
    | cons c r ih =>
      rw [List.length_cons, List.replicate_succ, isOf_d, hl c (by simp), ih (fun x hx => hl x (by simp [hx]))]; rfl
  have := this _ (dig_digs k n)
  rwa [dig_len] at this
theorem isOf_clk (h mi s : Nat) (hh : h < 100) (hmi : mi < 100) (hs : s < 100) : isOfL (clkL h mi s) clkF = true := by
  obtain ⟨a9, a10, e4, b9, b10, n4⟩ := two_of h hh
  obtain ⟨a11, a12, e5, b11, b12, n5⟩ := two_of mi hmi
  obtain ⟨a13, a14, e6, b13, b14, n6⟩ := two_of s hs
  have hc : clkL h mi s = [a9, a10, 58, a11, a12, 58, a13, a14] := by
    unfold clkL; rw [e4, e5, e6]; rfl
  rw [hc]
  unfold clkF
  rw [isOf_d, isOf_d, isOf_x _ _ _ _ (by decide), isOf_d, isOf_d, isOf_x _ _ _ _ (by decide), isOf_d, isOf_d, b9, b10, b11, b12, b13, b14]
  decide
theorem p822_mail {y m d h mi s : Nat} {t : List UInt8} {a : Int} (hd : DateD y m d) (hh : h < 24) (hmi : mi < 60) (hs : s < 60) (ht : ∀ c ∈ t.map lowB, whB c = false) (h0 : t ≠ []) (hz : z822 (t.map lowB) = some a) :
    p822 (mailL y m d h mi s t) = some (((dayD y m d : Int) - 719162) * 86400 + ((h : Int) * 3600 + (mi : Int) * 60 + (s : Int) - a)) := by
  have hl := long_31 y m
  have hd' := hd
  unfold DateD at hd'
  unfold p822
  rw [mail_words _ _ _ _ _ _ _ (by omega) (by omega) ht h0]
  show p822W (if isDayN (dig 2 d) then _ else _) = _
  rw [not_day, if_neg (by simp)]
  show timeW (dig 2 d) ((monL m).map lowB) (dig 4 y) (clkL h mi s) (t.map lowB) = _
  unfold timeW
  have f1 : fD.any (isOfL (dig 2 d)) = true := by
    unfold fD
    rw [List.any_cons, List.any_cons, show ([48, 48] : List UInt8) = List.replicate 2 48 from rfl, isOf_digs2]
    simp
  have f2 : fY.any (isOfL (dig 4 y)) = true := by
    unfold fY
    rw [List.any_cons, List.any_cons, show ([48, 48, 48, 48] : List UInt8) = List.replicate 4 48 from rfl, isOf_digs2]
    simp
  have f3 : fC.any (isOfL (clkL h mi s)) = true := by
    unfold fC
    rw [List.any_cons, List.any_cons, show ([48, 48, 58, 48, 48, 58, 48, 48] : List UInt8) = clkF from rfl, isOf_clk _ _ _ (by omega) (by omega) (by omega)]
    simp
  rw [if_pos ⟨f1, f2, f3⟩, hz]
  show timeV (fullY (dig 4 y)) (monOf ((monL m).map lowB)) (numD (dig 2 d)) (clk8 (clkL h mi s)) a = _
  rw [(mon_of m (by omega) (by omega)).1, dig_num 2 d (by omega), fullY, if_pos (by rw [dig_len]; omega), dig_num 4 y (by omega), clk8, if_neg (by rw [clk_len]; omega)]
  exact time_of hd hh hmi hs
end Go.Proofs.YthpplcadpngdiaaDoor
