
/- What the reference's Rfc3339 does. -/
import Derived.Test.YthpplcadpngdiaaDoorDtRMon
namespace Go.Proofs.YthpplcadpngdiaaDoor
set_option linter.unusedVariables false
set_option linter.unusedSimpArgs false
open Go.RowKit Go.BigFrame

/-- What is told of a time that was read, or of none. -/
def Told (o : Option Int) (e : Ending) : Prop := ∃ n : Int, e = .returned (.tuple #[.int .i64 n, .bool o.isSome]) ∧ ∀ v, o = some v → n = v
theorem told_none {o : Option Int} {e : Ending} {n : Int} (h : o = none) (he : e = .returned (.tuple #[.int .i64 n, .bool false])) : Told o e := ⟨n, by rw [he, h]; rfl, fun v hv => by rw [h] at hv; cases hv⟩
theorem told_some {o : Option Int} {e : Ending} {n v : Int} (h : o = some v) (he : e = .returned (.tuple #[.int .i64 n, .bool true])) (hv : n = v) : Told o e := ⟨n, by rw [he, h]; rfl, fun x hx => by rw [h] at hx; rw [hv]; exact Option.some.inj hx⟩
theorem numT_drop (s : List UInt8) (k a b : Nat) (hk : k ≤ s.length) : numT (s.drop k) a b = numT s (k + a) (k + b) := by
  unfold numT
  rw [List.drop_drop, show k + b - (k + a) = b - a by omega]
  by_cases h : s.length < k + b
  · rw [if_pos h, if_pos (by rw [List.length_drop]; omega)]
  · rw [if_neg h, if_neg (by rw [List.length_drop]; omega)]
theorem twoR_drop (s : List UInt8) (k a lim : Nat) (hk : k ≤ s.length) : twoR (s.drop k) a lim = twoR s (k + a) lim := by
  unfold twoR
  rw [numT_drop s k a (a + 2) hk, show k + (a + 2) = k + a + 2 by omega]
theorem getD_drop8 (s : List UInt8) (k a : Nat) : (s.drop k).getD a 0 = s.getD (k + a) 0 := by
  rw [List.getD_eq_getElem?_getD, List.getD_eq_getElem?_getD, List.getElem?_drop]
/-- A zone, of letters. -/
def zoneF (iz : Bool) (L at' : Nat) (a b : Int) (c3 c0 : UInt8) : Option Int :=
  if iz = true then (if L = at' + 1 then some 0 else none)
  else if L = at' + 6 ∧ 0 ≤ a ∧ 0 ≤ b ∧ c3 = 58 ∧ (c0 = 43 ∨ c0 = 45) then some (if c0 = 43 then a * 3600 + b * 60 else -(a * 3600 + b * 60)) else none
theorem zoneT_at (s : List UInt8) (k : Nat) (hk : k ≤ s.length) : zoneT (s.drop k) = zoneF (isR s k 122) s.length k (twoR s (k + 1) 24) (twoR s (k + 4) 60) (s.getD (k + 3) 0) (s.getD k 0) := by
  have hi : ((s.drop k).head? = some 122) ↔ isR s k 122 = true := by
    unfold isR
    rw [decide_eq_true_eq]
    by_cases h : k < s.length
    · rw [List.head?_drop, List.getElem?_eq_getElem h, List.getD_eq_getElem?_getD, List.getElem?_eq_getElem h]
      constructor
      · intro e; exact ⟨h, Option.some.inj e⟩
      · intro e; exact congrArg some e.2
    · rw [List.drop_eq_nil_of_le (by omega)]
      simp
      intro h2; omega
  unfold zoneT zoneF
  rw [twoR_drop s k 1 24 hk, twoR_drop s k 4 60 hk, getD_drop8, getD_drop8, Nat.add_zero, List.length_drop]
  by_cases h : isR s k 122 = true
  · rw [if_pos (hi.2 h), if_pos h]
    by_cases h1 : s.length = k + 1
    · rw [if_pos h1, if_pos (by omega)]
    · rw [if_neg h1, if_neg (by omega)]
  · rw [if_neg (fun q => h (hi.1 q)), if_neg h]
    by_cases h6 : s.length = k + 6
    · have h6' : s.length - k = 6 := by omega
      simp only [h6, h6', true_and, Nat.add_zero, Nat.add_sub_cancel_left]
    · rw [if_neg (fun q => h6 (by have := q.1; omega)), if_neg (fun q => h6 q.1)]
theorem numT_one (s : List UInt8) (a : Nat) : numT s a (a + 1) = if a < s.length ∧ digB (s.getD a 0) = true then (((s.getD a 0).toNat - 48 : Nat) : Int) else -1 := by
  unfold numT
  by_cases h : a < s.length
  · have e : (s.drop a).take (a + 1 - a) = [s.getD a 0] := by
      have := take_more s a a (Nat.le_refl _) h
      rw [Nat.sub_self] at this
      exact this
    rw [if_neg (show ¬ s.length < a + 1 by omega), e]
    by_cases hd : digB (s.getD a 0) = true
    · rw [if_pos (show a < s.length ∧ digB (s.getD a 0) = true from ⟨h, hd⟩), if_pos (show [s.getD a 0].all digB = true by rw [List.all_cons, hd]; rfl)]
      show ((0 * 10 + ((s.getD a 0).toNat - 48) : Nat) : Int) = _
      rw [Nat.zero_mul, Nat.zero_add]
    · rw [if_neg (show ¬ (a < s.length ∧ digB (s.getD a 0) = true) from fun q => hd q.2), if_neg (show ¬ [s.getD a 0].all digB = true by rw [List.all_cons]; intro q; exact hd (Bool.and_eq_true_iff.1 q).1)]
  · rw [if_pos (by omega), if_neg (fun q => h q.1)]
theorem runT_step (s : List UInt8) (a : Nat) (h : a < s.length) (hd : digB (s.getD a 0) = true) : runT (s.drop a) = runT (s.drop (a + 1)) + 1 := by
  rw [drop_at s a h, runT, if_pos hd]
theorem runT_stop (s : List UInt8) (a : Nat) (h : ¬ (a < s.length ∧ digB (s.getD a 0) = true)) : runT (s.drop a) = 0 := by
  by_cases hl : a < s.length
  · rw [drop_at s a hl, runT, if_neg (fun q => h ⟨hl, q⟩)]
  · rw [List.drop_eq_nil_of_le (by omega), runT]
theorem runT_le : ∀ l : List UInt8, runT l ≤ l.length
  | [] => Nat.le_refl _
  | c :: r => by
    have := runT_le r
    rw [runT]
    split
    · simp; omega
    · simp
theorem refDaysI (y m d : Int) (h : isDay y m d = true) (W : World) : Calls Tryd.prog 12 #[.int .i64 y, .int .i64 m, .int .i64 d] W fun e w' => e = .returned (.int .i64 ((dayD y.toNat m.toNat d.toNat : Int) - 719162)) ∧ w' = W := by
  obtain ⟨a, b, c, rfl, rfl, rfl, hd⟩ := isDay_nat h
  exact refDays_any a b c hd W
theorem dayI_lt (y m d : Int) (h : isDay y m d = true) : dayD y.toNat m.toNat d.toNat < 3652059 := by
  obtain ⟨a, b, c, rfl, rfl, rfl, hd⟩ := isDay_nat h
  exact day_lt hd
theorem twoR_bd (s : List UInt8) (a lim : Nat) : -1 ≤ twoR s a lim ∧ (twoR s a lim < lim ∨ twoR s a lim = -1) := by
  have := numT_ge s a (a + 2)
  unfold twoR
  split <;> omega
/-- The head of a time, of letters. -/
def headF (dy : Bool) (H MI S : Int) (i4 i7 i10 i13 i16 : Bool) : Bool := dy && decide (0 ≤ H) && decide (0 ≤ MI) && decide (0 ≤ S) && i4 && i7 && i10 && i13 && i16
theorem headR_F (s : List UInt8) (hl : 20 ≤ s.length) : headR s = headF (isDay (numT s 0 4) (numT s 5 7) (numT s 8 10)) (twoR s 11 24) (twoR s 14 60) (twoR s 17 60) (isR s 4 45) (isR s 7 45) (isR s 10 116) (isR s 13 58) (isR s 16 58) := by
  unfold headR headF isR
  rw [Bool.eq_iff_iff]
  simp only [Bool.and_eq_true, decide_eq_true_eq]
  constructor
  · rintro ⟨h1, h2, h3, h4, h5, h6, h7, h8, h9⟩
    exact ⟨⟨⟨⟨⟨⟨⟨⟨h1, h2⟩, h3⟩, h4⟩, by omega, h5⟩, by omega, h6⟩, by omega, h7⟩, by omega, h8⟩, by omega, h9⟩
  · rintro ⟨⟨⟨⟨⟨⟨⟨⟨h1, h2⟩, h3⟩, h4⟩, h5⟩, h6⟩, h7⟩, h8⟩, h9⟩
    exact ⟨h1, h2, h3, h4, h5.2, h6.2, h7.2, h8.2, h9.2⟩
theorem r3339_F (s : List UInt8) (hl : 20 ≤ s.length) : r3339 s = if headR s = true then (if isR s 19 46 = true then (if runT (s.drop 20) < 1 ∨ 9 < runT (s.drop 20) then none else (zoneT (s.drop (20 + runT (s.drop 20)))).map (fun a => secR s - a)) else (zoneT (s.drop 19)).map (fun a => secR s - a)) else none := by
  unfold r3339
  by_cases hh : headR s = true
  · rw [if_pos ⟨hl, hh⟩, if_pos hh, drop_at s 19 (by omega)]
    show (if s.getD 19 0 = 46 then _ else _ : Option Int).map _ = _
    unfold isR
    by_cases hd : s.getD 19 0 = 46
    · rw [if_pos hd, decide_eq_true (show 19 < s.length ∧ s.getD 19 0 = 46 from ⟨by omega, hd⟩), if_pos rfl]
      by_cases hr : runT (s.drop 20) < 1 ∨ 9 < runT (s.drop 20)
      · rw [if_pos hr, if_pos hr]; rfl
      · rw [if_neg hr, if_neg hr, List.drop_drop]
    · rw [if_neg hd, decide_eq_false (fun q => hd q.2), if_neg (by simp)]
  · rw [if_neg (fun q => hh q.2), if_neg hh]

set_option maxHeartbeats 8000000 in
set_option maxRecDepth 1000000 in
theorem refR3339_any (l : List UInt8) (hl : l.length ≤ 90000) (w : World) : Calls Tryd.prog 15 #[.string (asS l)] w fun e w' => Told (p3339 l) e ∧ Below w.heap.size w w' := by
  rw [← r3339_eq]
  have HLO := hid (fun W => refLower_any l W (by omega))
  have hls : (l.map lowB).length ≤ 90000 := by rw [List.length_map]; exact hl
  generalize l.map lowB = s at *
  generalize asS l = s0 at *
  have HSZ : Hid ((asS s).size = s.length) := asS_size s
  have HN1 := hid (fun W => refNumber_any s 0 4 (by omega) (by omega) (by omega) (by omega) W)
  have HN2 := hid (fun W => refNumber_any s 5 7 (by omega) (by omega) (by omega) (by omega) W)
  have HN3 := hid (fun W => refNumber_any s 8 10 (by omega) (by omega) (by omega) (by omega) W)
  have HT1 := hid (fun W => refTwo_any s 11 24 (by omega) (by omega) (by omega) W)
  have HT2 := hid (fun W => refTwo_any s 14 60 (by omega) (by omega) (by omega) W)
  have HT3 := hid (fun W => refTwo_any s 17 60 (by omega) (by omega) (by omega) W)
  have HDT := hid (fun W => refIsDay_any (numT s 0 4) (numT s 5 7) (numT s 8 10) W)
  have HI4 := hid (fun W => refIs_any s 4 45 (by omega) (by omega) W)
  have HI7 := hid (fun W => refIs_any s 7 45 (by omega) (by omega) W)
  have HI10 := hid (fun W => refIs_any s 10 116 (by omega) (by omega) W)
  have HI13 := hid (fun W => refIs_any s 13 58 (by omega) (by omega) W)
  have HI16 := hid (fun W => refIs_any s 16 58 (by omega) (by omega) W)
  have HI19 := hid (fun W => refIs_any s 19 46 (by omega) (by omega) W)
  change Hid (∀ W : World, Calls Tryd.prog 40 #[.string (asS s), .int .i64 0, .int .i64 4] W fun e w' => e = .returned (.int .i64 (numT s 0 4)) ∧ w' = W) at HN1
  change Hid (∀ W : World, Calls Tryd.prog 40 #[.string (asS s), .int .i64 5, .int .i64 7] W fun e w' => e = .returned (.int .i64 (numT s 5 7)) ∧ w' = W) at HN2
  change Hid (∀ W : World, Calls Tryd.prog 40 #[.string (asS s), .int .i64 8, .int .i64 10] W fun e w' => e = .returned (.int .i64 (numT s 8 10)) ∧ w' = W) at HN3
  change Hid (∀ W : World, Calls Tryd.prog 41 #[.string (asS s), .int .i64 11, .int .i64 24] W fun e w' => e = .returned (.int .i64 (twoR s 11 24)) ∧ w' = W) at HT1
  change Hid (∀ W : World, Calls Tryd.prog 41 #[.string (asS s), .int .i64 14, .int .i64 60] W fun e w' => e = .returned (.int .i64 (twoR s 14 60)) ∧ w' = W) at HT2
  change Hid (∀ W : World, Calls Tryd.prog 41 #[.string (asS s), .int .i64 17, .int .i64 60] W fun e w' => e = .returned (.int .i64 (twoR s 17 60)) ∧ w' = W) at HT3
  change Hid (∀ W : World, Calls Tryd.prog 42 #[.string (asS s), .int .i64 4, .int .u8 45] W fun e w' => e = .returned (.bool (isR s 4 45)) ∧ w' = W) at HI4
  change Hid (∀ W : World, Calls Tryd.prog 42 #[.string (asS s), .int .i64 7, .int .u8 45] W fun e w' => e = .returned (.bool (isR s 7 45)) ∧ w' = W) at HI7
  change Hid (∀ W : World, Calls Tryd.prog 42 #[.string (asS s), .int .i64 10, .int .u8 116] W fun e w' => e = .returned (.bool (isR s 10 116)) ∧ w' = W) at HI10
  change Hid (∀ W : World, Calls Tryd.prog 42 #[.string (asS s), .int .i64 13, .int .u8 58] W fun e w' => e = .returned (.bool (isR s 13 58)) ∧ w' = W) at HI13
  change Hid (∀ W : World, Calls Tryd.prog 42 #[.string (asS s), .int .i64 16, .int .u8 58] W fun e w' => e = .returned (.bool (isR s 16 58)) ∧ w' = W) at HI16
  change Hid (∀ W : World, Calls Tryd.prog 42 #[.string (asS s), .int .i64 19, .int .u8 46] W fun e w' => e = .returned (.bool (isR s 19 46)) ∧ w' = W) at HI19
  have HDA := hid (fun h W => refDaysI (numT s 0 4) (numT s 5 7) (numT s 8 10) h W)
  have HDL := hid (dayI_lt (numT s 0 4) (numT s 5 7) (numT s 8 10))
  have bH := twoR_bd s 11 24
  have bM := twoR_bd s 14 60
  have bS := twoR_bd s 17 60
  by_cases h20 : s.length < 20
  · have HR0 : Hid (r3339 s = none) := by
      show _ = _
      unfold r3339; rw [if_neg (by omega)]
    generalize r3339 s = R at *
    have g20 : ((asS s).size : Int) < 20 := by rw [HSZ.out]; omega
    clear h20 bH bM bS HDL HDA
    generalize twoR s 11 24 = H at *
    generalize twoR s 14 60 = MI at *
    generalize twoR s 17 60 = S at *
    generalize numT s 0 4 = Y at *
    generalize numT s 5 7 = M at *
    generalize numT s 8 10 = DD at *
    generalize asS s = sS at *
    go_enter Tryd.func15, Tryd.ntmps15
    go_wp2_with (first
      | (go_at_call 39; refine (HLO.out _).mono ?_; rintro e w1 ⟨rfl, hb1⟩)
      | (go_at_call_of 40 (Value.int .i64 4); refine (HN1.out _).mono ?_; rintro e w2 ⟨rfl, rfl⟩)
      | (go_at_call_of 40 (Value.int .i64 7); refine (HN2.out _).mono ?_; rintro e w2 ⟨rfl, rfl⟩)
      | (go_at_call_of 40 (Value.int .i64 10); refine (HN3.out _).mono ?_; rintro e w2 ⟨rfl, rfl⟩)
      | (go_at_call_of 41 (Value.int .i64 11); refine (HT1.out _).mono ?_; rintro e w2 ⟨rfl, rfl⟩)
      | (go_at_call_of 41 (Value.int .i64 14); refine (HT2.out _).mono ?_; rintro e w2 ⟨rfl, rfl⟩)
      | (go_at_call_of 41 (Value.int .i64 17); refine (HT3.out _).mono ?_; rintro e w2 ⟨rfl, rfl⟩)
      | (go_at_call 9; refine (HDT.out _).mono ?_; rintro e w2 ⟨rfl, rfl⟩)
      | (go_at_call_of 42 (Value.int .i64 4); refine (HI4.out _).mono ?_; rintro e w2 ⟨rfl, rfl⟩)
      | (go_at_call_of 42 (Value.int .i64 7); refine (HI7.out _).mono ?_; rintro e w2 ⟨rfl, rfl⟩)
      | (go_at_call_of 42 (Value.int .i64 10); refine (HI10.out _).mono ?_; rintro e w2 ⟨rfl, rfl⟩)
      | (go_at_call_of 42 (Value.int .i64 13); refine (HI13.out _).mono ?_; rintro e w2 ⟨rfl, rfl⟩)
      | (go_at_call_of 42 (Value.int .i64 16); refine (HI16.out _).mono ?_; rintro e w2 ⟨rfl, rfl⟩)
      | (go_at_call 12; refine (HDB.out _).mono ?_; rintro e w2 ⟨rfl, rfl⟩)
      | (go_at_call_of 42 (Value.int .u8 46); refine (HI19.out _).mono ?_; rintro e w2 ⟨rfl, rfl⟩)
      | fail)
    go_ret2
    exact ⟨told_none HR0.out rfl, hb1⟩
  · have HRF := hid (r3339_F s (by omega))
    rw [headR_F s (by omega), zoneT_at s 19 (by omega)] at HRF
    have HZK : Hid (∀ k, 20 + k ≤ s.length → zoneT (s.drop (20 + k)) = zoneF (isR s (20 + k) 122) s.length (20 + k) (twoR s (20 + k + 1) 24) (twoR s (20 + k + 4) 60) (s.getD (20 + k + 3) 0) (s.getD (20 + k) 0)) := fun k h => zoneT_at s (20 + k) h
    have HIS := hid (fun k (c : UInt8) (h : k ≤ 100000) W => refIs_any s k c (by omega) h W)
    have HTW := hid (fun k lim (h : k ≤ 100000) (h2 : lim ≤ 100) W => refTwo_any s k lim (by omega) h h2 W)
    have HTB := hid (fun k lim => twoR_bd s k lim)
    have HNO := hid (fun k (h : k ≤ 100000) W => refNumber_any s k (k + 1) (by omega) (by omega) (by omega) (by omega) W)
    have HN1' := hid (fun k => numT_one s k)
    have HRS := hid (fun k h1 h2 => runT_step s k h1 h2)
    have HRT := hid (fun k h => runT_stop s k h)
    have HIX : Hid (∀ k (h : k < (asS s).size) (W : World), (Instr.index 9 (.string (asS s)) (.int .i64 (k : Int))).run Tryd.prog W = .ok (.int .u8 (s.getD k 0).toNat) W) := fun k h W => str_ix (asS s) k h W
    have g20 : ¬ ((asS s).size : Int) < 20 := by rw [HSZ.out]; omega
    unfold secR at HRF
    generalize r3339 s = R at *
    obtain ⟨dy, hdy⟩ : ∃ dy, isDay (numT s 0 4) (numT s 5 7) (numT s 8 10) = dy := ⟨_, rfl⟩
    rw [hdy] at HRF HDT HDA HDL
    clear hdy
    generalize dayD (numT s 0 4).toNat (numT s 5 7).toNat (numT s 8 10).toNat = DAY at *
    generalize twoR s 11 24 = H at *
    generalize twoR s 14 60 = MI at *
    generalize twoR s 17 60 = S at *
    generalize numT s 0 4 = Y at *
    generalize numT s 5 7 = M at *
    generalize numT s 8 10 = DD at *
    generalize isR s 4 45 = i4 at *
    generalize isR s 7 45 = i7 at *
    generalize isR s 10 116 = i10 at *
    generalize isR s 13 58 = i13 at *
    generalize isR s 16 58 = i16 at *
    cases dy with
    | false =>
      have HR0 : Hid (R = none) := by
        have q := HRF.out
        rw [if_neg (by unfold headF; simp)] at q
        exact q
      clear HRF HZK HIS HTW HTB HNO HN1' HRS HRT HIX HDL
      generalize asS s = sS at *
      go_enter Tryd.func15, Tryd.ntmps15
      go_wp2_with (first
        | (go_at_call 39; refine (HLO.out _).mono ?_; rintro e w1 ⟨rfl, hb1⟩)
        | (go_at_call_of 40 (Value.int .i64 4); refine (HN1.out _).mono ?_; rintro e w2 ⟨rfl, rfl⟩)
        | (go_at_call_of 40 (Value.int .i64 7); refine (HN2.out _).mono ?_; rintro e w2 ⟨rfl, rfl⟩)
        | (go_at_call_of 40 (Value.int .i64 10); refine (HN3.out _).mono ?_; rintro e w2 ⟨rfl, rfl⟩)
        | (go_at_call_of 41 (Value.int .i64 11); refine (HT1.out _).mono ?_; rintro e w2 ⟨rfl, rfl⟩)
        | (go_at_call_of 41 (Value.int .i64 14); refine (HT2.out _).mono ?_; rintro e w2 ⟨rfl, rfl⟩)
        | (go_at_call_of 41 (Value.int .i64 17); refine (HT3.out _).mono ?_; rintro e w2 ⟨rfl, rfl⟩)
        | (go_at_call 9; refine (HDT.out _).mono ?_; rintro e w2 ⟨rfl, rfl⟩)
        | (go_at_call_of 42 (Value.int .i64 4); refine (HI4.out _).mono ?_; rintro e w2 ⟨rfl, rfl⟩)
        | (go_at_call_of 42 (Value.int .i64 7); refine (HI7.out _).mono ?_; rintro e w2 ⟨rfl, rfl⟩)
        | (go_at_call_of 42 (Value.int .i64 10); refine (HI10.out _).mono ?_; rintro e w2 ⟨rfl, rfl⟩)
        | (go_at_call_of 42 (Value.int .i64 13); refine (HI13.out _).mono ?_; rintro e w2 ⟨rfl, rfl⟩)
        | (go_at_call_of 42 (Value.int .i64 16); refine (HI16.out _).mono ?_; rintro e w2 ⟨rfl, rfl⟩)
        | (go_at_call 12; refine (HDB.out _).mono ?_; rintro e w2 ⟨rfl, rfl⟩)
        | (go_at_call_of 42 (Value.int .u8 46); refine (HI19.out _).mono ?_; rintro e w2 ⟨rfl, rfl⟩)
        | fail)
      go_ret2
      exact ⟨told_none HR0.out rfl, hb1⟩
    | true =>
      by_cases nH : H < 0
      · have HR0 : Hid (R = none) := by
          have q := HRF.out
          rw [if_neg (by unfold headF; simp [show ¬ (0 : Int) ≤ H by omega])] at q
          exact q
        clear HRF HZK HIS HTW HTB HNO HN1' HRS HRT HIX HDL
        generalize asS s = sS at *
        go_enter Tryd.func15, Tryd.ntmps15
        go_wp2_with (first
          | (go_at_call 39; refine (HLO.out _).mono ?_; rintro e w1 ⟨rfl, hb1⟩)
          | (go_at_call_of 40 (Value.int .i64 4); refine (HN1.out _).mono ?_; rintro e w2 ⟨rfl, rfl⟩)
          | (go_at_call_of 40 (Value.int .i64 7); refine (HN2.out _).mono ?_; rintro e w2 ⟨rfl, rfl⟩)
          | (go_at_call_of 40 (Value.int .i64 10); refine (HN3.out _).mono ?_; rintro e w2 ⟨rfl, rfl⟩)
          | (go_at_call_of 41 (Value.int .i64 11); refine (HT1.out _).mono ?_; rintro e w2 ⟨rfl, rfl⟩)
          | (go_at_call_of 41 (Value.int .i64 14); refine (HT2.out _).mono ?_; rintro e w2 ⟨rfl, rfl⟩)
          | (go_at_call_of 41 (Value.int .i64 17); refine (HT3.out _).mono ?_; rintro e w2 ⟨rfl, rfl⟩)
          | (go_at_call 9; refine (HDT.out _).mono ?_; rintro e w2 ⟨rfl, rfl⟩)
          | (go_at_call_of 42 (Value.int .i64 4); refine (HI4.out _).mono ?_; rintro e w2 ⟨rfl, rfl⟩)
          | (go_at_call_of 42 (Value.int .i64 7); refine (HI7.out _).mono ?_; rintro e w2 ⟨rfl, rfl⟩)
          | (go_at_call_of 42 (Value.int .i64 10); refine (HI10.out _).mono ?_; rintro e w2 ⟨rfl, rfl⟩)
          | (go_at_call_of 42 (Value.int .i64 13); refine (HI13.out _).mono ?_; rintro e w2 ⟨rfl, rfl⟩)
          | (go_at_call_of 42 (Value.int .i64 16); refine (HI16.out _).mono ?_; rintro e w2 ⟨rfl, rfl⟩)
          | (go_at_call 12; refine (HDB.out _).mono ?_; rintro e w2 ⟨rfl, rfl⟩)
          | (go_at_call_of 42 (Value.int .u8 46); refine (HI19.out _).mono ?_; rintro e w2 ⟨rfl, rfl⟩)
          | fail)
        go_ret2
        exact ⟨told_none HR0.out rfl, hb1⟩
      · have kH : 0 ≤ H := by omega
        by_cases nMI : MI < 0
        · have HR0 : Hid (R = none) := by
            have q := HRF.out
            rw [if_neg (by unfold headF; simp [show ¬ (0 : Int) ≤ MI by omega])] at q
            exact q
          clear HRF HZK HIS HTW HTB HNO HN1' HRS HRT HIX HDL
          generalize asS s = sS at *
          go_enter Tryd.func15, Tryd.ntmps15
          go_wp2_with (first
            | (go_at_call 39; refine (HLO.out _).mono ?_; rintro e w1 ⟨rfl, hb1⟩)
            | (go_at_call_of 40 (Value.int .i64 4); refine (HN1.out _).mono ?_; rintro e w2 ⟨rfl, rfl⟩)
            | (go_at_call_of 40 (Value.int .i64 7); refine (HN2.out _).mono ?_; rintro e w2 ⟨rfl, rfl⟩)
            | (go_at_call_of 40 (Value.int .i64 10); refine (HN3.out _).mono ?_; rintro e w2 ⟨rfl, rfl⟩)
            | (go_at_call_of 41 (Value.int .i64 11); refine (HT1.out _).mono ?_; rintro e w2 ⟨rfl, rfl⟩)
            | (go_at_call_of 41 (Value.int .i64 14); refine (HT2.out _).mono ?_; rintro e w2 ⟨rfl, rfl⟩)
            | (go_at_call_of 41 (Value.int .i64 17); refine (HT3.out _).mono ?_; rintro e w2 ⟨rfl, rfl⟩)
            | (go_at_call 9; refine (HDT.out _).mono ?_; rintro e w2 ⟨rfl, rfl⟩)
            | (go_at_call_of 42 (Value.int .i64 4); refine (HI4.out _).mono ?_; rintro e w2 ⟨rfl, rfl⟩)
            | (go_at_call_of 42 (Value.int .i64 7); refine (HI7.out _).mono ?_; rintro e w2 ⟨rfl, rfl⟩)
            | (go_at_call_of 42 (Value.int .i64 10); refine (HI10.out _).mono ?_; rintro e w2 ⟨rfl, rfl⟩)
            | (go_at_call_of 42 (Value.int .i64 13); refine (HI13.out _).mono ?_; rintro e w2 ⟨rfl, rfl⟩)
            | (go_at_call_of 42 (Value.int .i64 16); refine (HI16.out _).mono ?_; rintro e w2 ⟨rfl, rfl⟩)
            | (go_at_call 12; refine (HDB.out _).mono ?_; rintro e w2 ⟨rfl, rfl⟩)
            | (go_at_call_of 42 (Value.int .u8 46); refine (HI19.out _).mono ?_; rintro e w2 ⟨rfl, rfl⟩)
            | fail)
          go_ret2
          exact ⟨told_none HR0.out rfl, hb1⟩
        · have kMI : 0 ≤ MI := by omega
          by_cases nS : S < 0
          · have HR0 : Hid (R = none) := by
              have q := HRF.out
              rw [if_neg (by unfold headF; simp [show ¬ (0 : Int) ≤ S by omega])] at q
              exact q
            clear HRF HZK HIS HTW HTB HNO HN1' HRS HRT HIX HDL
            generalize asS s = sS at *
            go_enter Tryd.func15, Tryd.ntmps15
            go_wp2_with (first
              | (go_at_call 39; refine (HLO.out _).mono ?_; rintro e w1 ⟨rfl, hb1⟩)
              | (go_at_call_of 40 (Value.int .i64 4); refine (HN1.out _).mono ?_; rintro e w2 ⟨rfl, rfl⟩)
              | (go_at_call_of 40 (Value.int .i64 7); refine (HN2.out _).mono ?_; rintro e w2 ⟨rfl, rfl⟩)
              | (go_at_call_of 40 (Value.int .i64 10); refine (HN3.out _).mono ?_; rintro e w2 ⟨rfl, rfl⟩)
              | (go_at_call_of 41 (Value.int .i64 11); refine (HT1.out _).mono ?_; rintro e w2 ⟨rfl, rfl⟩)
              | (go_at_call_of 41 (Value.int .i64 14); refine (HT2.out _).mono ?_; rintro e w2 ⟨rfl, rfl⟩)
              | (go_at_call_of 41 (Value.int .i64 17); refine (HT3.out _).mono ?_; rintro e w2 ⟨rfl, rfl⟩)
              | (go_at_call 9; refine (HDT.out _).mono ?_; rintro e w2 ⟨rfl, rfl⟩)
              | (go_at_call_of 42 (Value.int .i64 4); refine (HI4.out _).mono ?_; rintro e w2 ⟨rfl, rfl⟩)
              | (go_at_call_of 42 (Value.int .i64 7); refine (HI7.out _).mono ?_; rintro e w2 ⟨rfl, rfl⟩)
              | (go_at_call_of 42 (Value.int .i64 10); refine (HI10.out _).mono ?_; rintro e w2 ⟨rfl, rfl⟩)
              | (go_at_call_of 42 (Value.int .i64 13); refine (HI13.out _).mono ?_; rintro e w2 ⟨rfl, rfl⟩)
              | (go_at_call_of 42 (Value.int .i64 16); refine (HI16.out _).mono ?_; rintro e w2 ⟨rfl, rfl⟩)
              | (go_at_call 12; refine (HDB.out _).mono ?_; rintro e w2 ⟨rfl, rfl⟩)
              | (go_at_call_of 42 (Value.int .u8 46); refine (HI19.out _).mono ?_; rintro e w2 ⟨rfl, rfl⟩)
              | fail)
            go_ret2
            exact ⟨told_none HR0.out rfl, hb1⟩
          · have kS : 0 ≤ S := by omega
            cases i4 with
            | false =>
              have HR0 : Hid (R = none) := by
                have q := HRF.out
                rw [if_neg (by unfold headF; simp)] at q
                exact q
              clear HRF HZK HIS HTW HTB HNO HN1' HRS HRT HIX HDL
              generalize asS s = sS at *
              go_enter Tryd.func15, Tryd.ntmps15
              go_wp2_with (first
                | (go_at_call 39; refine (HLO.out _).mono ?_; rintro e w1 ⟨rfl, hb1⟩)
                | (go_at_call_of 40 (Value.int .i64 4); refine (HN1.out _).mono ?_; rintro e w2 ⟨rfl, rfl⟩)
                | (go_at_call_of 40 (Value.int .i64 7); refine (HN2.out _).mono ?_; rintro e w2 ⟨rfl, rfl⟩)
                | (go_at_call_of 40 (Value.int .i64 10); refine (HN3.out _).mono ?_; rintro e w2 ⟨rfl, rfl⟩)
                | (go_at_call_of 41 (Value.int .i64 11); refine (HT1.out _).mono ?_; rintro e w2 ⟨rfl, rfl⟩)
                | (go_at_call_of 41 (Value.int .i64 14); refine (HT2.out _).mono ?_; rintro e w2 ⟨rfl, rfl⟩)
                | (go_at_call_of 41 (Value.int .i64 17); refine (HT3.out _).mono ?_; rintro e w2 ⟨rfl, rfl⟩)
                | (go_at_call 9; refine (HDT.out _).mono ?_; rintro e w2 ⟨rfl, rfl⟩)
                | (go_at_call_of 42 (Value.int .i64 4); refine (HI4.out _).mono ?_; rintro e w2 ⟨rfl, rfl⟩)
                | (go_at_call_of 42 (Value.int .i64 7); refine (HI7.out _).mono ?_; rintro e w2 ⟨rfl, rfl⟩)
                | (go_at_call_of 42 (Value.int .i64 10); refine (HI10.out _).mono ?_; rintro e w2 ⟨rfl, rfl⟩)
                | (go_at_call_of 42 (Value.int .i64 13); refine (HI13.out _).mono ?_; rintro e w2 ⟨rfl, rfl⟩)
                | (go_at_call_of 42 (Value.int .i64 16); refine (HI16.out _).mono ?_; rintro e w2 ⟨rfl, rfl⟩)
                | (go_at_call 12; refine (HDB.out _).mono ?_; rintro e w2 ⟨rfl, rfl⟩)
                | (go_at_call_of 42 (Value.int .u8 46); refine (HI19.out _).mono ?_; rintro e w2 ⟨rfl, rfl⟩)
                | fail)
              go_ret2
              exact ⟨told_none HR0.out rfl, hb1⟩
            | true =>
              cases i7 with
              | false =>
                have HR0 : Hid (R = none) := by
                  have q := HRF.out
                  rw [if_neg (by unfold headF; simp)] at q
                  exact q
                clear HRF HZK HIS HTW HTB HNO HN1' HRS HRT HIX HDL
                generalize asS s = sS at *
                go_enter Tryd.func15, Tryd.ntmps15
                go_wp2_with (first
                  | (go_at_call 39; refine (HLO.out _).mono ?_; rintro e w1 ⟨rfl, hb1⟩)
                  | (go_at_call_of 40 (Value.int .i64 4); refine (HN1.out _).mono ?_; rintro e w2 ⟨rfl, rfl⟩)
                  | (go_at_call_of 40 (Value.int .i64 7); refine (HN2.out _).mono ?_; rintro e w2 ⟨rfl, rfl⟩)
                  | (go_at_call_of 40 (Value.int .i64 10); refine (HN3.out _).mono ?_; rintro e w2 ⟨rfl, rfl⟩)
                  | (go_at_call_of 41 (Value.int .i64 11); refine (HT1.out _).mono ?_; rintro e w2 ⟨rfl, rfl⟩)
                  | (go_at_call_of 41 (Value.int .i64 14); refine (HT2.out _).mono ?_; rintro e w2 ⟨rfl, rfl⟩)
                  | (go_at_call_of 41 (Value.int .i64 17); refine (HT3.out _).mono ?_; rintro e w2 ⟨rfl, rfl⟩)
                  | (go_at_call 9; refine (HDT.out _).mono ?_; rintro e w2 ⟨rfl, rfl⟩)
                  | (go_at_call_of 42 (Value.int .i64 4); refine (HI4.out _).mono ?_; rintro e w2 ⟨rfl, rfl⟩)
                  | (go_at_call_of 42 (Value.int .i64 7); refine (HI7.out _).mono ?_; rintro e w2 ⟨rfl, rfl⟩)
                  | (go_at_call_of 42 (Value.int .i64 10); refine (HI10.out _).mono ?_; rintro e w2 ⟨rfl, rfl⟩)
                  | (go_at_call_of 42 (Value.int .i64 13); refine (HI13.out _).mono ?_; rintro e w2 ⟨rfl, rfl⟩)
                  | (go_at_call_of 42 (Value.int .i64 16); refine (HI16.out _).mono ?_; rintro e w2 ⟨rfl, rfl⟩)
                  | (go_at_call 12; refine (HDB.out _).mono ?_; rintro e w2 ⟨rfl, rfl⟩)
                  | (go_at_call_of 42 (Value.int .u8 46); refine (HI19.out _).mono ?_; rintro e w2 ⟨rfl, rfl⟩)
                  | fail)
                go_ret2
                exact ⟨told_none HR0.out rfl, hb1⟩
              | true =>
                cases i10 with
                | false =>
                  have HR0 : Hid (R = none) := by
                    have q := HRF.out
                    rw [if_neg (by unfold headF; simp)] at q
                    exact q
                  clear HRF HZK HIS HTW HTB HNO HN1' HRS HRT HIX HDL
                  generalize asS s = sS at *
                  go_enter Tryd.func15, Tryd.ntmps15
                  go_wp2_with (first
                    | (go_at_call 39; refine (HLO.out _).mono ?_; rintro e w1 ⟨rfl, hb1⟩)
                    | (go_at_call_of 40 (Value.int .i64 4); refine (HN1.out _).mono ?_; rintro e w2 ⟨rfl, rfl⟩)
                    | (go_at_call_of 40 (Value.int .i64 7); refine (HN2.out _).mono ?_; rintro e w2 ⟨rfl, rfl⟩)
                    | (go_at_call_of 40 (Value.int .i64 10); refine (HN3.out _).mono ?_; rintro e w2 ⟨rfl, rfl⟩)
                    | (go_at_call_of 41 (Value.int .i64 11); refine (HT1.out _).mono ?_; rintro e w2 ⟨rfl, rfl⟩)
                    | (go_at_call_of 41 (Value.int .i64 14); refine (HT2.out _).mono ?_; rintro e w2 ⟨rfl, rfl⟩)
                    | (go_at_call_of 41 (Value.int .i64 17); refine (HT3.out _).mono ?_; rintro e w2 ⟨rfl, rfl⟩)
                    | (go_at_call 9; refine (HDT.out _).mono ?_; rintro e w2 ⟨rfl, rfl⟩)
                    | (go_at_call_of 42 (Value.int .i64 4); refine (HI4.out _).mono ?_; rintro e w2 ⟨rfl, rfl⟩)
                    | (go_at_call_of 42 (Value.int .i64 7); refine (HI7.out _).mono ?_; rintro e w2 ⟨rfl, rfl⟩)
                    | (go_at_call_of 42 (Value.int .i64 10); refine (HI10.out _).mono ?_; rintro e w2 ⟨rfl, rfl⟩)
                    | (go_at_call_of 42 (Value.int .i64 13); refine (HI13.out _).mono ?_; rintro e w2 ⟨rfl, rfl⟩)
                    | (go_at_call_of 42 (Value.int .i64 16); refine (HI16.out _).mono ?_; rintro e w2 ⟨rfl, rfl⟩)
                    | (go_at_call 12; refine (HDB.out _).mono ?_; rintro e w2 ⟨rfl, rfl⟩)
                    | (go_at_call_of 42 (Value.int .u8 46); refine (HI19.out _).mono ?_; rintro e w2 ⟨rfl, rfl⟩)
                    | fail)
                  go_ret2
                  exact ⟨told_none HR0.out rfl, hb1⟩
                | true =>
                  cases i13 with
                  | false =>
                    have HR0 : Hid (R = none) := by
                      have q := HRF.out
                      rw [if_neg (by unfold headF; simp)] at q
                      exact q
                    clear HRF HZK HIS HTW HTB HNO HN1' HRS HRT HIX HDL
                    generalize asS s = sS at *
                    go_enter Tryd.func15, Tryd.ntmps15
                    go_wp2_with (first
                      | (go_at_call 39; refine (HLO.out _).mono ?_; rintro e w1 ⟨rfl, hb1⟩)
                      | (go_at_call_of 40 (Value.int .i64 4); refine (HN1.out _).mono ?_; rintro e w2 ⟨rfl, rfl⟩)
                      | (go_at_call_of 40 (Value.int .i64 7); refine (HN2.out _).mono ?_; rintro e w2 ⟨rfl, rfl⟩)
                      | (go_at_call_of 40 (Value.int .i64 10); refine (HN3.out _).mono ?_; rintro e w2 ⟨rfl, rfl⟩)
                      | (go_at_call_of 41 (Value.int .i64 11); refine (HT1.out _).mono ?_; rintro e w2 ⟨rfl, rfl⟩)
                      | (go_at_call_of 41 (Value.int .i64 14); refine (HT2.out _).mono ?_; rintro e w2 ⟨rfl, rfl⟩)
                      | (go_at_call_of 41 (Value.int .i64 17); refine (HT3.out _).mono ?_; rintro e w2 ⟨rfl, rfl⟩)
                      | (go_at_call 9; refine (HDT.out _).mono ?_; rintro e w2 ⟨rfl, rfl⟩)
                      | (go_at_call_of 42 (Value.int .i64 4); refine (HI4.out _).mono ?_; rintro e w2 ⟨rfl, rfl⟩)
                      | (go_at_call_of 42 (Value.int .i64 7); refine (HI7.out _).mono ?_; rintro e w2 ⟨rfl, rfl⟩)
                      | (go_at_call_of 42 (Value.int .i64 10); refine (HI10.out _).mono ?_; rintro e w2 ⟨rfl, rfl⟩)
                      | (go_at_call_of 42 (Value.int .i64 13); refine (HI13.out _).mono ?_; rintro e w2 ⟨rfl, rfl⟩)
                      | (go_at_call_of 42 (Value.int .i64 16); refine (HI16.out _).mono ?_; rintro e w2 ⟨rfl, rfl⟩)
                      | (go_at_call 12; refine (HDB.out _).mono ?_; rintro e w2 ⟨rfl, rfl⟩)
                      | (go_at_call_of 42 (Value.int .u8 46); refine (HI19.out _).mono ?_; rintro e w2 ⟨rfl, rfl⟩)
                      | fail)
                    go_ret2
                    exact ⟨told_none HR0.out rfl, hb1⟩
                  | true =>
                    cases i16 with
                    | false =>
                      have HR0 : Hid (R = none) := by
                        have q := HRF.out
                        rw [if_neg (by unfold headF; simp)] at q
                        exact q
                      clear HRF HZK HIS HTW HTB HNO HN1' HRS HRT HIX HDL
                      generalize asS s = sS at *
                      go_enter Tryd.func15, Tryd.ntmps15
                      go_wp2_with (first
                        | (go_at_call 39; refine (HLO.out _).mono ?_; rintro e w1 ⟨rfl, hb1⟩)
                        | (go_at_call_of 40 (Value.int .i64 4); refine (HN1.out _).mono ?_; rintro e w2 ⟨rfl, rfl⟩)
                        | (go_at_call_of 40 (Value.int .i64 7); refine (HN2.out _).mono ?_; rintro e w2 ⟨rfl, rfl⟩)
                        | (go_at_call_of 40 (Value.int .i64 10); refine (HN3.out _).mono ?_; rintro e w2 ⟨rfl, rfl⟩)
                        | (go_at_call_of 41 (Value.int .i64 11); refine (HT1.out _).mono ?_; rintro e w2 ⟨rfl, rfl⟩)
                        | (go_at_call_of 41 (Value.int .i64 14); refine (HT2.out _).mono ?_; rintro e w2 ⟨rfl, rfl⟩)
                        | (go_at_call_of 41 (Value.int .i64 17); refine (HT3.out _).mono ?_; rintro e w2 ⟨rfl, rfl⟩)
                        | (go_at_call 9; refine (HDT.out _).mono ?_; rintro e w2 ⟨rfl, rfl⟩)
                        | (go_at_call_of 42 (Value.int .i64 4); refine (HI4.out _).mono ?_; rintro e w2 ⟨rfl, rfl⟩)
                        | (go_at_call_of 42 (Value.int .i64 7); refine (HI7.out _).mono ?_; rintro e w2 ⟨rfl, rfl⟩)
                        | (go_at_call_of 42 (Value.int .i64 10); refine (HI10.out _).mono ?_; rintro e w2 ⟨rfl, rfl⟩)
                        | (go_at_call_of 42 (Value.int .i64 13); refine (HI13.out _).mono ?_; rintro e w2 ⟨rfl, rfl⟩)
                        | (go_at_call_of 42 (Value.int .i64 16); refine (HI16.out _).mono ?_; rintro e w2 ⟨rfl, rfl⟩)
                        | (go_at_call 12; refine (HDB.out _).mono ?_; rintro e w2 ⟨rfl, rfl⟩)
                        | (go_at_call_of 42 (Value.int .u8 46); refine (HI19.out _).mono ?_; rintro e w2 ⟨rfl, rfl⟩)
                        | fail)
                      go_ret2
                      exact ⟨told_none HR0.out rfl, hb1⟩
                    | true =>
                      have HRG : Hid (R = if isR s 19 46 = true then (if runT (s.drop 20) < 1 ∨ 9 < runT (s.drop 20) then none else (zoneT (s.drop (20 + runT (s.drop 20)))).map (fun a => ((DAY : Int) - 719162) * 86400 + H * 3600 + MI * 60 + S - a)) else (zoneF (isR s 19 122) s.length 19 (twoR s (19 + 1) 24) (twoR s (19 + 4) 60) (s.getD (19 + 3) 0) (s.getD 19 0)).map (fun a => ((DAY : Int) - 719162) * 86400 + H * 3600 + MI * 60 + S - a)) := by
                        have q := HRF.out
                        rw [if_pos (by unfold headF; simp [kH, kMI, kS])] at q
                        exact q
                      clear HRF
                      have hDL := HDL.out rfl
                      obtain ⟨N, hN⟩ : ∃ N : Int, (DAY : Int) - 719162 = N := ⟨_, rfl⟩
                      rw [hN] at HRG HDA
                      have HDB := hid (HDA.out (by trivial))
                      clear HDA
                      have hNb : -719162 ≤ N ∧ N < 2932897 := by omega
                      have hHb : H < 24 ∧ MI < 60 ∧ S < 60 := by omega
                      clear hN hDL HDL bH bM bS
                      obtain ⟨T, hT⟩ : ∃ T : Int, N * 86400 + H * 3600 + MI * 60 + S = T := ⟨_, rfl⟩
                      rw [hT] at HRG
                      have hTb : -62135600000 ≤ T ∧ T ≤ 253402400000 := by omega
                      obtain ⟨i19, h19⟩ : ∃ i19, isR s 19 46 = i19 := ⟨_, rfl⟩
                      rw [h19] at HRG HI19
                      clear h19
                      cases i19 with
                      | false =>
                        have HRH : Hid (R = (zoneF (isR s 19 122) s.length 19 (twoR s 20 24) (twoR s 23 60) (s.getD 22 0) (s.getD 19 0)).map (fun a => T - a)) := by show _ = _; have q := HRG.out; rw [if_neg (by simp)] at q; exact q
                        have HIZ := hid (HIS.out 19 122 (by omega))
                        have HA1 := hid (HTW.out 20 24 (by omega) (by omega))
                        have HA2 := hid (HTW.out 23 60 (by omega) (by omega))
                        change Hid (∀ W : World, Calls Tryd.prog 42 #[.string (asS s), .int .i64 19, .int .u8 122] W fun e w' => e = .returned (.bool (isR s 19 122)) ∧ w' = W) at HIZ
                        change Hid (∀ W : World, Calls Tryd.prog 41 #[.string (asS s), .int .i64 20, .int .i64 24] W fun e w' => e = .returned (.int .i64 (twoR s 20 24)) ∧ w' = W) at HA1
                        change Hid (∀ W : World, Calls Tryd.prog 41 #[.string (asS s), .int .i64 23, .int .i64 60] W fun e w' => e = .returned (.int .i64 (twoR s 23 60)) ∧ w' = W) at HA2
                        have bA := HTB.out 20 24
                        have bB := HTB.out 23 60
                        clear HRG HZK HIS HTW HTB HNO HN1' HRS HRT
                        generalize twoR s 20 24 = A at *
                        generalize twoR s 23 60 = B at *
                        generalize isR s 19 122 = iz at *
                        generalize asS s = sS at *
                        have bA1 : -1 ≤ A ∧ A < 24 := by omega
                        have bB1 : -1 ≤ B ∧ B < 60 := by omega
                        clear bA bB
                        go_enter Tryd.func15, Tryd.ntmps15
                        go_wp2_with (first
                          | (go_at_call 39; refine (HLO.out _).mono ?_; rintro e w1 ⟨rfl, hb1⟩)
                          | (go_at_call_of 40 (Value.int .i64 4); refine (HN1.out _).mono ?_; rintro e w2 ⟨rfl, rfl⟩)
                          | (go_at_call_of 40 (Value.int .i64 7); refine (HN2.out _).mono ?_; rintro e w2 ⟨rfl, rfl⟩)
                          | (go_at_call_of 40 (Value.int .i64 10); refine (HN3.out _).mono ?_; rintro e w2 ⟨rfl, rfl⟩)
                          | (go_at_call_of 41 (Value.int .i64 11); refine (HT1.out _).mono ?_; rintro e w2 ⟨rfl, rfl⟩)
                          | (go_at_call_of 41 (Value.int .i64 14); refine (HT2.out _).mono ?_; rintro e w2 ⟨rfl, rfl⟩)
                          | (go_at_call_of 41 (Value.int .i64 17); refine (HT3.out _).mono ?_; rintro e w2 ⟨rfl, rfl⟩)
                          | (go_at_call 9; refine (HDT.out _).mono ?_; rintro e w2 ⟨rfl, rfl⟩)
                          | (go_at_call_of 42 (Value.int .i64 4); refine (HI4.out _).mono ?_; rintro e w2 ⟨rfl, rfl⟩)
                          | (go_at_call_of 42 (Value.int .i64 7); refine (HI7.out _).mono ?_; rintro e w2 ⟨rfl, rfl⟩)
                          | (go_at_call_of 42 (Value.int .i64 10); refine (HI10.out _).mono ?_; rintro e w2 ⟨rfl, rfl⟩)
                          | (go_at_call_of 42 (Value.int .i64 13); refine (HI13.out _).mono ?_; rintro e w2 ⟨rfl, rfl⟩)
                          | (go_at_call_of 42 (Value.int .i64 16); refine (HI16.out _).mono ?_; rintro e w2 ⟨rfl, rfl⟩)
                          | (go_at_call 12; refine (HDB.out _).mono ?_; rintro e w2 ⟨rfl, rfl⟩)
                          | (go_at_call_of 42 (Value.int .u8 46); refine (HI19.out _).mono ?_; rintro e w2 ⟨rfl, rfl⟩)
                          | fail)
                        cases iz with
                        | true =>
                          by_cases hL : s.length = 19 + 1
                          · have HR0 : Hid (R = some (T - 0)) := by show _ = _; rw [HRH.out]; unfold zoneF; rw [if_pos rfl, if_pos hL]; rfl
                            have g1 : ((sS.size : Int) == 20) = true := by rw [HSZ.out]; simp; omega
                            clear hL
                            go_wp2_with (first
                              | (go_at_call_of 42 (Value.int .u8 122); refine (HIZ.out _).mono ?_; rintro e w2 ⟨rfl, rfl⟩)
                              | (go_at_call_of 41 (Value.int .i64 24); refine (HA1.out _).mono ?_; rintro e w2 ⟨rfl, rfl⟩)
                              | (go_at_call_of 41 (Value.int .i64 60); refine (HA2.out _).mono ?_; rintro e w2 ⟨rfl, rfl⟩)
                              | fail)
                            go_ret2
                            exact ⟨told_some HR0.out rfl (by omega), hb1⟩
                          · have HR0 : Hid (R = none) := by show _ = _; rw [HRH.out]; unfold zoneF; rw [if_pos rfl, if_neg hL]; rfl
                            have g1 : ((sS.size : Int) == 20) = false := by rw [HSZ.out]; simp; omega
                            clear hL
                            go_wp2_with (first
                              | (go_at_call_of 42 (Value.int .u8 122); refine (HIZ.out _).mono ?_; rintro e w2 ⟨rfl, rfl⟩)
                              | (go_at_call_of 41 (Value.int .i64 24); refine (HA1.out _).mono ?_; rintro e w2 ⟨rfl, rfl⟩)
                              | (go_at_call_of 41 (Value.int .i64 60); refine (HA2.out _).mono ?_; rintro e w2 ⟨rfl, rfl⟩)
                              | fail)
                            go_ret2
                            exact ⟨told_none HR0.out rfl, hb1⟩
                        | false =>
                          by_cases hL : s.length = 19 + 6
                          · have g6 : ((sS.size : Int) != 25) = false := by rw [HSZ.out]; simp; omega
                            have hx3 := HIX.out 22 (by rw [HSZ.out]; omega)
                            have hx0 := HIX.out 19 (by rw [HSZ.out]; omega)
                            change ∀ W : World, (Instr.index 9 (.string sS) (.int .i64 22)).run Tryd.prog W = .ok (.int .u8 (s.getD 22 0).toNat) W at hx3
                            change ∀ W : World, (Instr.index 9 (.string sS) (.int .i64 19)).run Tryd.prog W = .ok (.int .u8 (s.getD 19 0).toNat) W at hx0
                            obtain ⟨c3, hc3⟩ : ∃ c3, s.getD 22 0 = c3 := ⟨_, rfl⟩
                            obtain ⟨c0, hc0⟩ : ∃ c0, s.getD 19 0 = c0 := ⟨_, rfl⟩
                            have HRI : Hid (R = (zoneF false s.length 19 A B c3 c0).map (fun a => T - a)) := by show _ = _; rw [HRH.out, ← hc3, ← hc0]
                            rw [hc3] at hx3
                            rw [hc0] at hx0
                            clear hc3 hc0 HRH HIX
                            by_cases nA : A < 0
                            · have HR0 : Hid (R = none) := by show _ = _; rw [HRI.out]; unfold zoneF; rw [if_neg (by simp), if_neg (fun q => by have := q.2.1; omega)]; rfl
                              go_wp2_with (first
                                | (go_at_call_of 42 (Value.int .u8 122); refine (HIZ.out _).mono ?_; rintro e w2 ⟨rfl, rfl⟩)
                                | (go_at_call_of 41 (Value.int .i64 24); refine (HA1.out _).mono ?_; rintro e w2 ⟨rfl, rfl⟩)
                                | (go_at_call_of 41 (Value.int .i64 60); refine (HA2.out _).mono ?_; rintro e w2 ⟨rfl, rfl⟩)
                                | fail)
                              go_ret2
                              exact ⟨told_none HR0.out rfl, hb1⟩
                            · by_cases nB : B < 0
                              · have HR0 : Hid (R = none) := by show _ = _; rw [HRI.out]; unfold zoneF; rw [if_neg (by simp), if_neg (fun q => by have := q.2.2.1; omega)]; rfl
                                go_wp2_with (first
                                  | (go_at_call_of 42 (Value.int .u8 122); refine (HIZ.out _).mono ?_; rintro e w2 ⟨rfl, rfl⟩)
                                  | (go_at_call_of 41 (Value.int .i64 24); refine (HA1.out _).mono ?_; rintro e w2 ⟨rfl, rfl⟩)
                                  | (go_at_call_of 41 (Value.int .i64 60); refine (HA2.out _).mono ?_; rintro e w2 ⟨rfl, rfl⟩)
                                  | fail)
                                go_ret2
                                exact ⟨told_none HR0.out rfl, hb1⟩
                              · by_cases e3 : c3 = 58
                                · subst e3
                                  change ∀ W : World, (Instr.index 9 (.string sS) (.int .i64 22)).run Tryd.prog W = .ok (.int .u8 58) W at hx3
                                  by_cases e0 : c0 = 43
                                  · have HR0 : Hid (R = some (T - (A * 3600 + B * 60))) := by show _ = _; rw [HRI.out]; unfold zoneF; rw [if_neg (by simp), if_pos ⟨hL, by omega, by omega, rfl, .inl e0⟩, if_pos e0]; rfl
                                    subst e0
                                    change ∀ W : World, (Instr.index 9 (.string sS) (.int .i64 19)).run Tryd.prog W = .ok (.int .u8 43) W at hx0
                                    clear hL
                                    go_wp2_with (first
                                      | (go_at_call_of 42 (Value.int .u8 122); refine (HIZ.out _).mono ?_; rintro e w2 ⟨rfl, rfl⟩)
                                      | (go_at_call_of 41 (Value.int .i64 24); refine (HA1.out _).mono ?_; rintro e w2 ⟨rfl, rfl⟩)
                                      | (go_at_call_of 41 (Value.int .i64 60); refine (HA2.out _).mono ?_; rintro e w2 ⟨rfl, rfl⟩)
                                      | fail)
                                    go_ret2
                                    exact ⟨told_some HR0.out rfl (by omega), hb1⟩
                                  · by_cases e1 : c0 = 45
                                    · have HR0 : Hid (R = some (T - -(A * 3600 + B * 60))) := by show _ = _; rw [HRI.out]; unfold zoneF; rw [if_neg (by simp), if_pos ⟨hL, by omega, by omega, rfl, .inr e1⟩, if_neg e0]; rfl
                                      clear e0
                                      subst e1
                                      change ∀ W : World, (Instr.index 9 (.string sS) (.int .i64 19)).run Tryd.prog W = .ok (.int .u8 45) W at hx0
                                      clear hL
                                      go_wp2_with (first
                                        | (go_at_call_of 42 (Value.int .u8 122); refine (HIZ.out _).mono ?_; rintro e w2 ⟨rfl, rfl⟩)
                                        | (go_at_call_of 41 (Value.int .i64 24); refine (HA1.out _).mono ?_; rintro e w2 ⟨rfl, rfl⟩)
                                        | (go_at_call_of 41 (Value.int .i64 60); refine (HA2.out _).mono ?_; rintro e w2 ⟨rfl, rfl⟩)
                                        | fail)
                                      go_ret2
                                      exact ⟨told_some HR0.out rfl (by omega), hb1⟩
                                    · have HR0 : Hid (R = none) := by show _ = _; rw [HRI.out]; unfold zoneF; rw [if_neg (by simp), if_neg (fun q => by rcases q.2.2.2.2 with h | h; exact e0 h; exact e1 h)]; rfl
                                      have b1 : ((c0.toNat : Int) != 43) = true := by rw [bne_iff_ne]; exact fun h => e0 ((u8_eq_iff c0 43).1 h)
                                      have b2 : ((c0.toNat : Int) != 45) = true := by rw [bne_iff_ne]; exact fun h => e1 ((u8_eq_iff c0 45).1 h)
                                      clear hL e0 e1
                                      go_wp2_with (first
                                        | (go_at_call_of 42 (Value.int .u8 122); refine (HIZ.out _).mono ?_; rintro e w2 ⟨rfl, rfl⟩)
                                        | (go_at_call_of 41 (Value.int .i64 24); refine (HA1.out _).mono ?_; rintro e w2 ⟨rfl, rfl⟩)
                                        | (go_at_call_of 41 (Value.int .i64 60); refine (HA2.out _).mono ?_; rintro e w2 ⟨rfl, rfl⟩)
                                        | fail)
                                      go_ret2
                                      exact ⟨told_none HR0.out rfl, hb1⟩
                                · have HR0 : Hid (R = none) := by show _ = _; rw [HRI.out]; unfold zoneF; rw [if_neg (by simp), if_neg (fun q => e3 q.2.2.2.1)]; rfl
                                  have b1 : ((c3.toNat : Int) != 58) = true := by rw [bne_iff_ne]; exact fun h => e3 ((u8_eq_iff c3 58).1 h)
                                  clear hL e3
                                  go_wp2_with (first
                                    | (go_at_call_of 42 (Value.int .u8 122); refine (HIZ.out _).mono ?_; rintro e w2 ⟨rfl, rfl⟩)
                                    | (go_at_call_of 41 (Value.int .i64 24); refine (HA1.out _).mono ?_; rintro e w2 ⟨rfl, rfl⟩)
                                    | (go_at_call_of 41 (Value.int .i64 60); refine (HA2.out _).mono ?_; rintro e w2 ⟨rfl, rfl⟩)
                                    | fail)
                                  go_ret2
                                  exact ⟨told_none HR0.out rfl, hb1⟩
                          · have HR0 : Hid (R = none) := by show _ = _; rw [HRH.out]; unfold zoneF; rw [if_neg (by simp), if_neg (fun q => hL q.1)]; rfl
                            have g6 : ((sS.size : Int) != 25) = true := by rw [HSZ.out]; simp; omega
                            clear hL
                            go_wp2_with (first
                              | (go_at_call_of 42 (Value.int .u8 122); refine (HIZ.out _).mono ?_; rintro e w2 ⟨rfl, rfl⟩)
                              | (go_at_call_of 41 (Value.int .i64 24); refine (HA1.out _).mono ?_; rintro e w2 ⟨rfl, rfl⟩)
                              | (go_at_call_of 41 (Value.int .i64 60); refine (HA2.out _).mono ?_; rintro e w2 ⟨rfl, rfl⟩)
                              | fail)
                            go_ret2
                            exact ⟨told_none HR0.out rfl, hb1⟩
                      | true =>
                        have HRX : Hid (runT (s.drop 20) < 1 ∨ 9 < runT (s.drop 20) → R = none) := fun h => by have q := HRG.out; rw [if_pos rfl, if_pos h] at q; exact q
                        have HRY : Hid (¬ (runT (s.drop 20) < 1 ∨ 9 < runT (s.drop 20)) → R = (zoneF (isR s (20 + runT (s.drop 20)) 122) s.length (20 + runT (s.drop 20)) (twoR s (20 + runT (s.drop 20) + 1) 24) (twoR s (20 + runT (s.drop 20) + 4) 60) (s.getD (20 + runT (s.drop 20) + 3) 0) (s.getD (20 + runT (s.drop 20)) 0)).map (fun a => T - a)) := fun h => by
                          have q := HRG.out
                          have hle := runT_le (s.drop 20)
                          rw [List.length_drop] at hle
                          rw [if_pos rfl, if_neg h, HZK.out _ (by omega)] at q
                          exact q
                        have hL20 : 20 ≤ s.length := by omega
                        clear HRG HZK h20
                        generalize hRUN : runT (s.drop 20) = RUN at *
                        have HRUN := hid hRUN
                        clear hRUN
                        have hzs : (asS s).size ≤ 90000 := by rw [HSZ.out]; exact hls
                        generalize asS s = sS at *
                        go_enter Tryd.func15, Tryd.ntmps15
                        go_wp2_with (first
                          | (go_at_call 39; refine (HLO.out _).mono ?_; rintro e w1 ⟨rfl, hb1⟩)
                          | (go_at_call_of 40 (Value.int .i64 4); refine (HN1.out _).mono ?_; rintro e w2 ⟨rfl, rfl⟩)
                          | (go_at_call_of 40 (Value.int .i64 7); refine (HN2.out _).mono ?_; rintro e w2 ⟨rfl, rfl⟩)
                          | (go_at_call_of 40 (Value.int .i64 10); refine (HN3.out _).mono ?_; rintro e w2 ⟨rfl, rfl⟩)
                          | (go_at_call_of 41 (Value.int .i64 11); refine (HT1.out _).mono ?_; rintro e w2 ⟨rfl, rfl⟩)
                          | (go_at_call_of 41 (Value.int .i64 14); refine (HT2.out _).mono ?_; rintro e w2 ⟨rfl, rfl⟩)
                          | (go_at_call_of 41 (Value.int .i64 17); refine (HT3.out _).mono ?_; rintro e w2 ⟨rfl, rfl⟩)
                          | (go_at_call 9; refine (HDT.out _).mono ?_; rintro e w2 ⟨rfl, rfl⟩)
                          | (go_at_call_of 42 (Value.int .i64 4); refine (HI4.out _).mono ?_; rintro e w2 ⟨rfl, rfl⟩)
                          | (go_at_call_of 42 (Value.int .i64 7); refine (HI7.out _).mono ?_; rintro e w2 ⟨rfl, rfl⟩)
                          | (go_at_call_of 42 (Value.int .i64 10); refine (HI10.out _).mono ?_; rintro e w2 ⟨rfl, rfl⟩)
                          | (go_at_call_of 42 (Value.int .i64 13); refine (HI13.out _).mono ?_; rintro e w2 ⟨rfl, rfl⟩)
                          | (go_at_call_of 42 (Value.int .i64 16); refine (HI16.out _).mono ?_; rintro e w2 ⟨rfl, rfl⟩)
                          | (go_at_call 12; refine (HDB.out _).mono ?_; rintro e w2 ⟨rfl, rfl⟩)
                          | (go_at_call_of 42 (Value.int .u8 46); refine (HI19.out _).mono ?_; rintro e w2 ⟨rfl, rfl⟩)
                          | fail)
                        go_loop [12, 13] (fun a k => ∃ n : Nat, 20 + n ≤ s.length ∧ a = .int .i64 ((20 + n : Nat) : Int) ∧ k = .int .i64 (n : Int) ∧ Hid (n + runT (s.drop (20 + n)) = RUN)) (fun a _ => s.length - (intOf a).toNat)
                        case atStart => exact ⟨0, by omega, rfl, rfl, by show 0 + _ = _; rw [Nat.zero_add]; exact HRUN.out⟩
                        case round =>
                          obtain ⟨n, hn, rfl, rfl, HK⟩ := hrel
                          have HNU := hid (HNO.out (20 + n) (by omega))
                          have HNV := hid (HN1'.out (20 + n))
                          by_cases hdg : 20 + n < s.length ∧ digB (s.getD (20 + n) 0) = true
                          · have HV : Hid (0 ≤ numT s (20 + n) (20 + n + 1)) := by show _ ≤ _; rw [HNV.out, if_pos hdg]; omega
                            have HK2 : Hid (n + 1 + runT (s.drop (20 + n + 1)) = RUN) := by show _ = _; have q := HK.out; rw [HRS.out (20 + n) hdg.1 hdg.2] at q; omega
                            have hlt := hdg.1
                            clear hdg
                            have hV := HV.out
                            generalize numT s (20 + n) (20 + n + 1) = X at *
                            have e1 : ((20 + n : Nat) : Int) + 1 = ((20 + n + 1 : Nat) : Int) := by omega
                            generalize hK1 : 20 + n + 1 = K1 at *
                            generalize hKK : 20 + n = K at *
                            have HKK := hid hKK; have HK1 := hid hK1
                            have hKb : K ≤ 90000 ∧ K1 ≤ 90001 ∧ n ≤ 90000 := by omega
                            clear hKK hK1
                            go_wp2_with (go_at_call 40; refine (HNU.out _).mono ?_; rintro e w2 ⟨rfl, rfl⟩)
                            go_round
                            case rel => exact ⟨n + 1, by have := HKK.out; omega, by rw [show 20 + (n + 1) = K1 by have := HKK.out; have := HK1.out; omega], by go_num, by rw [show 20 + (n + 1) = K1 by have := HKK.out; have := HK1.out; omega]; exact HK2⟩
                            case measure => have := HKK.out; have := HK1.out; simp [intOf]; omega
                          · have HV : Hid (numT s (20 + n) (20 + n + 1) = -1) := by show _ = _; rw [HNV.out, if_neg hdg]
                            have HK2 : Hid (RUN = n) := by show _ = _; have q := HK.out; rw [HRT.out (20 + n) hdg] at q; omega
                            clear hdg
                            rw [HV.out] at HNU
                            rw [HK2.out] at HRX HRY
                            have e1 : ((20 + n : Nat) : Int) + 1 = ((20 + n + 1 : Nat) : Int) := by omega
                            by_cases hr : n < 1 ∨ 9 < n
                            · have HR0 := hid (HRX.out hr)
                              generalize 20 + n + 1 = K1 at *
                              generalize hKK : 20 + n = K at *
                              clear hKK
                              by_cases hr1 : n < 1
                              · have g1 : (n : Int) < 1 := by omega
                                clear hr hr1
                                go_wp2_with (go_at_call 40; refine (HNU.out _).mono ?_; rintro e w2 ⟨rfl, rfl⟩)
                                go_ret2
                                exact ⟨told_none HR0.out rfl, hb1⟩
                              · have g1 : ¬ (n : Int) < 1 := by omega
                                have g2 : 9 < (n : Int) := by omega
                                clear hr hr1
                                go_wp2_with (go_at_call 40; refine (HNU.out _).mono ?_; rintro e w2 ⟨rfl, rfl⟩)
                                go_ret2
                                exact ⟨told_none HR0.out rfl, hb1⟩
                            · have HRH := hid (HRY.out hr)
                              have g1 : ¬ (n : Int) < 1 := by omega
                              have g2 : ¬ 9 < (n : Int) := by omega
                              have HIZ := hid (HIS.out (20 + n) 122 (by omega))
                              have HA1 := hid (HTW.out (20 + n + 1) 24 (by omega) (by omega))
                              have HA2 := hid (HTW.out (20 + n + 4) 60 (by omega) (by omega))
                              change Hid (∀ W : World, Calls Tryd.prog 42 #[.string sS, .int .i64 ((20 + n : Nat) : Int), .int .u8 122] W fun e w' => e = .returned (.bool (isR s (20 + n) 122)) ∧ w' = W) at HIZ
                              change Hid (∀ W : World, Calls Tryd.prog 41 #[.string sS, .int .i64 ((20 + n + 1 : Nat) : Int), .int .i64 24] W fun e w' => e = .returned (.int .i64 (twoR s (20 + n + 1) 24)) ∧ w' = W) at HA1
                              change Hid (∀ W : World, Calls Tryd.prog 41 #[.string sS, .int .i64 ((20 + n + 4 : Nat) : Int), .int .i64 60] W fun e w' => e = .returned (.int .i64 (twoR s (20 + n + 4) 60)) ∧ w' = W) at HA2
                              have bA := HTB.out (20 + n + 1) 24
                              have bB := HTB.out (20 + n + 4) 60
                              generalize twoR s (20 + n + 1) 24 = A at *
                              generalize twoR s (20 + n + 4) 60 = B at *
                              generalize isR s (20 + n) 122 = iz at *
                              have bA1 : -1 ≤ A ∧ A < 24 := by omega
                              have bB1 : -1 ≤ B ∧ B < 60 := by omega
                              have e3 : ((20 + n : Nat) : Int) + 3 = ((20 + n + 3 : Nat) : Int) := by omega
                              have e4 : ((20 + n : Nat) : Int) + 4 = ((20 + n + 4 : Nat) : Int) := by omega
                              have e6 : ((20 + n : Nat) : Int) + 6 = ((20 + n + 6 : Nat) : Int) := by omega
                              have hb : 20 + n ≤ 90000 := by omega
                              clear bA bB HRX HRY HIS HTW HTB HNO HN1' HRS HRT hr HK HK2 HNV HV
                              generalize hK1 : 20 + n + 1 = K1 at *
                              generalize hK3 : 20 + n + 3 = K3 at *
                              generalize hK4 : 20 + n + 4 = K4 at *
                              generalize hK6 : 20 + n + 6 = K6 at *
                              generalize hKK : 20 + n = K at *
                              have HKK : Hid (K1 = K + 1 ∧ K3 = K + 3 ∧ K4 = K + 4 ∧ K6 = K + 6) := by show _ ∧ _; omega
                              have hKb : K1 ≤ 90010 ∧ K3 ≤ 90010 ∧ K4 ≤ 90010 ∧ K6 ≤ 90010 := by omega
                              clear hK1 hK3 hK4 hK6 hKK
                              go_wp2_with (go_at_call 40; refine (HNU.out _).mono ?_; rintro e w2 ⟨rfl, rfl⟩)
                              cases iz with
                              | true =>
                                by_cases hL : s.length = K + 1
                                · have HR0 : Hid (R = some (T - 0)) := by show _ = _; rw [HRH.out]; unfold zoneF; rw [if_pos rfl, if_pos hL]; rfl
                                  have g1 : ((sS.size : Int) == (K1 : Int)) = true := by rw [HSZ.out]; have := HKK.out; simp; omega
                                  clear hL
                                  go_wp2_with (first
                                    | (go_at_call_of 42 (Value.int .u8 122); refine (HIZ.out _).mono ?_; rintro e w2 ⟨rfl, rfl⟩)
                                    | (go_at_call_of 41 (Value.int .i64 24); refine (HA1.out _).mono ?_; rintro e w2 ⟨rfl, rfl⟩)
                                    | (go_at_call_of 41 (Value.int .i64 60); refine (HA2.out _).mono ?_; rintro e w2 ⟨rfl, rfl⟩)
                                    | fail)
                                  go_ret2
                                  exact ⟨told_some HR0.out rfl (by omega), hb1⟩
                                · have HR0 : Hid (R = none) := by show _ = _; rw [HRH.out]; unfold zoneF; rw [if_pos rfl, if_neg hL]; rfl
                                  have g1 : ((sS.size : Int) == (K1 : Int)) = false := by rw [HSZ.out]; have := HKK.out; simp; omega
                                  clear hL
                                  go_wp2_with (first
                                    | (go_at_call_of 42 (Value.int .u8 122); refine (HIZ.out _).mono ?_; rintro e w2 ⟨rfl, rfl⟩)
                                    | (go_at_call_of 41 (Value.int .i64 24); refine (HA1.out _).mono ?_; rintro e w2 ⟨rfl, rfl⟩)
                                    | (go_at_call_of 41 (Value.int .i64 60); refine (HA2.out _).mono ?_; rintro e w2 ⟨rfl, rfl⟩)
                                    | fail)
                                  go_ret2
                                  exact ⟨told_none HR0.out rfl, hb1⟩
                              | false =>
                                by_cases hL : s.length = K + 6
                                · have g6 : ((sS.size : Int) != (K6 : Int)) = false := by rw [HSZ.out]; have := HKK.out; simp; omega
                                  have hx3 := HIX.out K3 (by rw [HSZ.out]; have := HKK.out; omega)
                                  have hx0 := HIX.out K (by rw [HSZ.out]; have := HKK.out; omega)
                                  obtain ⟨c3, hc3⟩ : ∃ c3, s.getD K3 0 = c3 := ⟨_, rfl⟩
                                  obtain ⟨c0, hc0⟩ : ∃ c0, s.getD K 0 = c0 := ⟨_, rfl⟩
                                  have HRI : Hid (R = (zoneF false s.length K A B c3 c0).map (fun a => T - a)) := by show _ = _; rw [HRH.out, ← hc3, ← hc0]
                                  rw [hc3] at hx3
                                  rw [hc0] at hx0
                                  clear hc3 hc0 HRH HIX
                                  by_cases nA : A < 0
                                  · have HR0 : Hid (R = none) := by show _ = _; rw [HRI.out]; unfold zoneF; rw [if_neg (by simp), if_neg (fun q => by have := q.2.1; omega)]; rfl
                                    go_wp2_with (first
                                      | (go_at_call_of 42 (Value.int .u8 122); refine (HIZ.out _).mono ?_; rintro e w2 ⟨rfl, rfl⟩)
                                      | (go_at_call_of 41 (Value.int .i64 24); refine (HA1.out _).mono ?_; rintro e w2 ⟨rfl, rfl⟩)
                                      | (go_at_call_of 41 (Value.int .i64 60); refine (HA2.out _).mono ?_; rintro e w2 ⟨rfl, rfl⟩)
                                      | fail)
                                    go_ret2
                                    exact ⟨told_none HR0.out rfl, hb1⟩
                                  · by_cases nB : B < 0
                                    · have HR0 : Hid (R = none) := by show _ = _; rw [HRI.out]; unfold zoneF; rw [if_neg (by simp), if_neg (fun q => by have := q.2.2.1; omega)]; rfl
                                      go_wp2_with (first
                                        | (go_at_call_of 42 (Value.int .u8 122); refine (HIZ.out _).mono ?_; rintro e w2 ⟨rfl, rfl⟩)
                                        | (go_at_call_of 41 (Value.int .i64 24); refine (HA1.out _).mono ?_; rintro e w2 ⟨rfl, rfl⟩)
                                        | (go_at_call_of 41 (Value.int .i64 60); refine (HA2.out _).mono ?_; rintro e w2 ⟨rfl, rfl⟩)
                                        | fail)
                                      go_ret2
                                      exact ⟨told_none HR0.out rfl, hb1⟩
                                    · by_cases e3 : c3 = 58
                                      · subst e3
                                        change ∀ W : World, (Instr.index 9 (.string sS) (.int .i64 (K3 : Int))).run Tryd.prog W = .ok (.int .u8 58) W at hx3
                                        by_cases e0 : c0 = 43
                                        · have HR0 : Hid (R = some (T - (A * 3600 + B * 60))) := by show _ = _; rw [HRI.out]; unfold zoneF; rw [if_neg (by simp), if_pos ⟨hL, by omega, by omega, rfl, .inl e0⟩, if_pos e0]; rfl
                                          subst e0
                                          change ∀ W : World, (Instr.index 9 (.string sS) (.int .i64 (K : Int))).run Tryd.prog W = .ok (.int .u8 43) W at hx0
                                          clear hL
                                          go_wp2_with (first
                                            | (go_at_call_of 42 (Value.int .u8 122); refine (HIZ.out _).mono ?_; rintro e w2 ⟨rfl, rfl⟩)
                                            | (go_at_call_of 41 (Value.int .i64 24); refine (HA1.out _).mono ?_; rintro e w2 ⟨rfl, rfl⟩)
                                            | (go_at_call_of 41 (Value.int .i64 60); refine (HA2.out _).mono ?_; rintro e w2 ⟨rfl, rfl⟩)
                                            | fail)
                                          go_ret2
                                          exact ⟨told_some HR0.out rfl (by omega), hb1⟩
                                        · by_cases e1 : c0 = 45
                                          · have HR0 : Hid (R = some (T - -(A * 3600 + B * 60))) := by show _ = _; rw [HRI.out]; unfold zoneF; rw [if_neg (by simp), if_pos ⟨hL, by omega, by omega, rfl, .inr e1⟩, if_neg e0]; rfl
                                            clear e0
                                            subst e1
                                            change ∀ W : World, (Instr.index 9 (.string sS) (.int .i64 (K : Int))).run Tryd.prog W = .ok (.int .u8 45) W at hx0
                                            clear hL
                                            go_wp2_with (first
                                              | (go_at_call_of 42 (Value.int .u8 122); refine (HIZ.out _).mono ?_; rintro e w2 ⟨rfl, rfl⟩)
                                              | (go_at_call_of 41 (Value.int .i64 24); refine (HA1.out _).mono ?_; rintro e w2 ⟨rfl, rfl⟩)
                                              | (go_at_call_of 41 (Value.int .i64 60); refine (HA2.out _).mono ?_; rintro e w2 ⟨rfl, rfl⟩)
                                              | fail)
                                            go_ret2
                                            exact ⟨told_some HR0.out rfl (by omega), hb1⟩
                                          · have HR0 : Hid (R = none) := by show _ = _; rw [HRI.out]; unfold zoneF; rw [if_neg (by simp), if_neg (fun q => by rcases q.2.2.2.2 with h | h; exact e0 h; exact e1 h)]; rfl
                                            have b1 : ((c0.toNat : Int) != 43) = true := by rw [bne_iff_ne]; exact fun h => e0 ((u8_eq_iff c0 43).1 h)
                                            have b2 : ((c0.toNat : Int) != 45) = true := by rw [bne_iff_ne]; exact fun h => e1 ((u8_eq_iff c0 45).1 h)
                                            clear hL e0 e1
                                            go_wp2_with (first
                                              | (go_at_call_of 42 (Value.int .u8 122); refine (HIZ.out _).mono ?_; rintro e w2 ⟨rfl, rfl⟩)
                                              | (go_at_call_of 41 (Value.int .i64 24); refine (HA1.out _).mono ?_; rintro e w2 ⟨rfl, rfl⟩)
                                              | (go_at_call_of 41 (Value.int .i64 60); refine (HA2.out _).mono ?_; rintro e w2 ⟨rfl, rfl⟩)
                                              | fail)
                                            go_ret2
                                            exact ⟨told_none HR0.out rfl, hb1⟩
                                      · have HR0 : Hid (R = none) := by show _ = _; rw [HRI.out]; unfold zoneF; rw [if_neg (by simp), if_neg (fun q => e3 q.2.2.2.1)]; rfl
                                        have b1 : ((c3.toNat : Int) != 58) = true := by rw [bne_iff_ne]; exact fun h => e3 ((u8_eq_iff c3 58).1 h)
                                        clear hL e3
                                        go_wp2_with (first
                                          | (go_at_call_of 42 (Value.int .u8 122); refine (HIZ.out _).mono ?_; rintro e w2 ⟨rfl, rfl⟩)
                                          | (go_at_call_of 41 (Value.int .i64 24); refine (HA1.out _).mono ?_; rintro e w2 ⟨rfl, rfl⟩)
                                          | (go_at_call_of 41 (Value.int .i64 60); refine (HA2.out _).mono ?_; rintro e w2 ⟨rfl, rfl⟩)
                                          | fail)
                                        go_ret2
                                        exact ⟨told_none HR0.out rfl, hb1⟩
                                · have HR0 : Hid (R = none) := by show _ = _; rw [HRH.out]; unfold zoneF; rw [if_neg (by simp), if_neg (fun q => hL q.1)]; rfl
                                  have g6 : ((sS.size : Int) != (K6 : Int)) = true := by rw [HSZ.out]; have := HKK.out; simp; omega
                                  clear hL
                                  go_wp2_with (first
                                    | (go_at_call_of 42 (Value.int .u8 122); refine (HIZ.out _).mono ?_; rintro e w2 ⟨rfl, rfl⟩)
                                    | (go_at_call_of 41 (Value.int .i64 24); refine (HA1.out _).mono ?_; rintro e w2 ⟨rfl, rfl⟩)
                                    | (go_at_call_of 41 (Value.int .i64 60); refine (HA2.out _).mono ?_; rintro e w2 ⟨rfl, rfl⟩)
                                    | fail)
                                  go_ret2
                                  exact ⟨told_none HR0.out rfl, hb1⟩
end Go.Proofs.YthpplcadpngdiaaDoor
