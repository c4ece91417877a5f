import Derived.Test.YtgoiafndapemjaaGreatDoorQ25
import Derived.Lib.SmallJoins
import Derived.Shelf.Strconv.Itoa3
import Derived.Lib.ItoaNum
import Derived.Lib.AppendIntMem
set_option linter.unusedVariables false
set_option linter.unusedSimpArgs false
set_option maxHeartbeats 1000000
namespace Go.Proofs.YtgoiafndapemjaaGreatDoor
open Go.RowKit Go.BigFrame
def run9 : Nat → List UInt8 → Nat
 | n + 1, c :: r => if digB c then run9 n r + 1 else 0
 | _, _ => 0
def woF (l : List UInt8) : List UInt8 := match l with
 | c :: r => if c = 46 ∧ 0 < run9 9 r then r.drop (run9 9 r) else l
 | [] => []
theorem run9_at (n : Nat) (l : List UInt8) (k : Nat) (h : k < l.length) : run9 (n + 1) (l.drop k) = if digB (l.getD k 0) then run9 n (l.drop (k + 1)) + 1 else 0 := by
 rw [drop_at l k h, run9]
theorem pre_dot (l : List UInt8) : Lib.hasPrefix l [46] = (match l with | c :: _ => decide (c = 46) | [] => false) := by
 cases l with
 | nil => rfl
 | cons c r =>
  show ([46] : List UInt8).isPrefixOf (c :: r) = decide (c = 46)
  rw [List.isPrefixOf]
  by_cases h : c = 46
  ·subst h; rfl
  ·rw [decide_eq_false h, show ((46 : UInt8) == c) = false from beq_eq_false_iff_ne.2 (fun e => h e.symm)]; rfl
theorem woF_len (l : List UInt8) : (woF l).length ≤ l.length := by
 unfold woF
 split
 ·split
  ·rw [List.length_drop, List.length_cons]; omega
  ·exact Nat.le_refl _
 ·exact Nat.le_refl _
set_option maxRecDepth 1000000 in
theorem woF_any (l : List UInt8) (hl : l.length ≤ 1000000) (w : World) : Calls Tryz.prog 175 #[.string (asS l)] w fun e w' => e = .returned (.string (asS (woF l))) ∧ w' = w := by
 have HP := hid (fun W => Tryz.strings_CutPrefix (asS l) ⟨#[46]⟩ W)
 by_cases hd : ∃ r, l = 46 :: r
 ·obtain ⟨r, rfl⟩ := hd
  have e1 : Lib.hasPrefix (asS (46 :: r)).data.toList (⟨#[46]⟩ : ByteArray).data.toList = true := by rw [asS_data]; show Lib.hasPrefix (46 :: r) [46] = true; rw [pre_dot]; rfl
  have e2 : (⟨(Lib.trimPrefix (asS (46 :: r)).data.toList (⟨#[46]⟩ : ByteArray).data.toList).toArray⟩ : ByteArray) = asS r := by
   rw [asS_data]
   show asS (Lib.trimPrefix (46 :: r) [46]) = asS r
   unfold Lib.trimPrefix
   rw [pre_dot]
   rfl
  rw [e1, e2] at HP
  clear e1 e2
  have hz : (asS r).size ≤ 1000000 := by rw [asS_size]; simp at hl; omega
  have HL : Hid ((asS r).size = r.length) := asS_size r
  have HIX : Hid (∀ k (h : k < (asS r).size) (W : World), (Instr.index 9 (.string (asS r)) (.int .i64 (k : Int))).run Tryz.prog W = .ok (.int .u8 (r.getD k 0).toNat) W) := fun k h W => str_ix (asS r) k h W
  have HE := hid (fun k => ext8_from r k)
  have HW1 : Hid (run9 9 r = 0 → asS (woF (46 :: r)) = asS (46 :: r)) := fun h => by
   show asS (if (46 : UInt8) = 46 ∧ 0 < run9 9 r then r.drop (run9 9 r) else 46 :: r) = _
   rw [if_neg (fun x => by omega)]
  have HW2 : Hid (0 < run9 9 r → asS (woF (46 :: r)) = (asS r).extract (run9 9 r) (asS r).size) := fun h => by
   show asS (if (46 : UInt8) = 46 ∧ 0 < run9 9 r then r.drop (run9 9 r) else 46 :: r) = _
   rw [if_pos ⟨rfl, h⟩, ext8_from]
  have HR : Hid (∀ n k, k < (asS r).size → run9 (n + 1) (r.drop k) = if digB (r.getD k 0) then run9 n (r.drop (k + 1)) + 1 else 0) := fun n k h => run9_at n r k (by have := HL.out; omega)
  have HZ : Hid (∀ n k, (asS r).size ≤ k → run9 n (r.drop k) = 0) := fun n k h => by rw [List.drop_eq_nil_of_le (by have := HL.out; omega)]; cases n <;> rfl
  obtain ⟨M, HM⟩ : ∃ M, Hid (run9 9 (r.drop 0) = M) := ⟨_, rfl⟩
  have HM2 : run9 9 r = M := HM.out
  rw [HM2] at HW1 HW2
  clear HM2 HE
  generalize asS (woF (46 :: r)) = T at *
  generalize asS (46 :: r) = s0 at *
  generalize asS r = s at *
  go_enter Tryz.func175, Tryz.ntmps175
  go_wp2_with (go_at_call 162; refine (HP.out _).mono ?_; rintro e w2 ⟨rfl, rfl⟩)
  go_loop [5] (fun i => ∃ k : Nat, k ≤ 9 ∧ k ≤ s.size ∧ i = .int .i64 (k : Int) ∧ Hid (k + run9 (9 - k) (r.drop k) = M)) (fun i => 9 - (intOf i).toNat)
  case atStart => exact ⟨0, by omega, Nat.zero_le _, rfl, by show _ = _; rw [Nat.zero_add]; exact HM.out⟩
  case round =>
   obtain ⟨k, hk, hks, rfl, HK⟩ := hrel
   have done : Hid (k = M → (k = 0 ∧ T = s0) ∨ (0 < k ∧ T = s.extract k s.size)) := fun e => by
    rcases Nat.eq_zero_or_pos k with h | h
    ·exact .inl ⟨h, HW1.out (by omega)⟩
    ·exact .inr ⟨h, by rw [e]; exact HW2.out (by omega)⟩
   clear HW1 HW2
   by_cases h1 : k < s.size
   ·have hi1 : (k : Int) < (s.size : Int) := by omega
    by_cases h2 : k < 9
    ·have hi2 : (k : Int) < 9 := by omega
     have e1 := HIX.out k h1
     have HD := hid (fun W => isDigit_any (r.getD k 0) W)
     have HN : Hid (k + (if digB (r.getD k 0) then run9 (9 - (k + 1)) (r.drop (k + 1)) + 1 else 0) = M) := by
      show _ = _
      rw [← HR.out (9 - (k + 1)) k h1, show 9 - (k + 1) + 1 = 9 - k by omega]; exact HK.out
     generalize r.getD k 0 = c at e1 HD HN
     generalize digB c = b at HD HN
     cases b
     ·have HX := hid (done.out (by have := HN.out; rw [if_neg (by simp)] at this; omega))
      rcases HX.out with ⟨hk0, HT⟩ | ⟨hpos, HT⟩
      ·have hne : ((k : Int) == 0) = true := by rw [hk0]; rfl
       clear hk0 HX done
       go_wp2_with (go_at_call 203; refine (HD.out _).mono ?_; rintro e w2 ⟨rfl, rfl⟩)
       go_ret
       exact ⟨by first | rfl | (rw [HT]; rfl), rfl⟩
      ·have hne : ((k : Int) == 0) = false := beq_eq_false_iff_ne.2 (by omega)
       clear hpos HX done
       go_wp2_with (go_at_call 203; refine (HD.out _).mono ?_; rintro e w2 ⟨rfl, rfl⟩)
       go_ret
       exact ⟨by first | rfl | (rw [HT]; rfl), rfl⟩
     ·go_wp2_with (go_at_call 203; refine (HD.out _).mono ?_; rintro e w2 ⟨rfl, rfl⟩)
      go_round
      case rel => exact ⟨k + 1, by omega, by omega, by go_num, by show _ = _; have := HN.out; rw [if_pos trivial] at this; omega⟩
      case measure => simp [intOf]; omega
    ·have hi2 : ¬ (k : Int) < 9 := by omega
     have HX := hid (done.out (by have := HK.out; rw [show 9 - k = 0 by omega, show run9 0 (r.drop k) = 0 from by cases r.drop k <;> rfl] at this; omega))
     rcases HX.out with ⟨hk0, HT⟩ | ⟨hpos, HT⟩
     ·omega
     ·have hne : ((k : Int) == 0) = false := beq_eq_false_iff_ne.2 (by omega)
      clear hpos HX done h2
      go_wp2_with fail
      go_ret
      exact ⟨by first | rfl | (rw [HT]; rfl), rfl⟩
   ·have hi1 : ¬ (k : Int) < (s.size : Int) := by omega
    have HX := hid (done.out (by have := HK.out; rw [HZ.out _ k (by omega)] at this; omega))
    rcases HX.out with ⟨hk0, HT⟩ | ⟨hpos, HT⟩
    ·have hne : ((k : Int) == 0) = true := by rw [hk0]; rfl
     clear hk0 HX done
     go_wp2_with fail
     go_ret
     exact ⟨by first | rfl | (rw [HT]; rfl), rfl⟩
    ·have hne : ((k : Int) == 0) = false := beq_eq_false_iff_ne.2 (by omega)
     clear hpos HX done
     go_wp2_with fail
     go_ret
     exact ⟨by first | rfl | (rw [HT]; rfl), rfl⟩
 ·have e0 : woF l = l := by
   unfold woF
   split
   ·rw [if_neg]
    rintro ⟨rfl, _⟩
    exact hd ⟨_, rfl⟩
   ·rfl
  have e1 : Lib.hasPrefix (asS l).data.toList (⟨#[46]⟩ : ByteArray).data.toList = false := by
   rw [asS_data]
   show Lib.hasPrefix l [46] = false
   rw [pre_dot]
   split
   ·exact decide_eq_false (fun e => hd ⟨_, by rw [e]⟩)
   ·rfl
  rw [e0]
  rw [e1] at HP
  clear e0 e1 hd
  generalize (⟨(Lib.trimPrefix (asS l).data.toList (⟨#[46]⟩ : ByteArray).data.toList).toArray⟩ : ByteArray) = u at HP
  generalize asS l = s at *
  go_enter Tryz.func175, Tryz.ntmps175
  go_wp2_with (go_at_call 162; refine (HP.out _).mono ?_; rintro e w2 ⟨rfl, rfl⟩)
  go_ret
  exact ⟨rfl, rfl⟩
def fullY (l : List UInt8) : Nat := if 2 < l.length then numD l else if numD l < 50 then numD l + 2000 else numD l + 1900
set_option maxRecDepth 1000000 in
theorem fullY_any (l : List UInt8) (hl : l.length ≤ 4) (hd : ∀ c ∈ l, digB c = true) (w : World) : Calls Tryz.prog 180 #[.string (asS l)] w fun e w' => e = .returned (.int .i64 (fullY l : Int)) ∧ Below w.heap.size w w' := by
 have HN := hid (fun W => number_any l hl hd W)
 have hb : numD l < 10000 := by
  have h1 := num_lt l.length l rfl hd
  have h2 : 10 ^ l.length ≤ 10 ^ 4 := Nat.pow_le_pow_right (by omega) hl
  omega
 unfold fullY
 clear hd
 have HS : Hid ((asS l).size = l.length) := asS_size l
 by_cases h1 : 2 < l.length
 ·rw [if_pos h1]
  have g1 : 2 < ((asS l).size : Int) := by rw [HS.out]; omega
  generalize asS l = s at *
  generalize numD l = N at *
  go_enter Tryz.func180, Tryz.ntmps180
  go_wp2_with (go_at_call 177; refine (HN.out _).mono ?_; rintro e w2 ⟨rfl, hb2⟩)
  go_ret
  exact ⟨rfl, hb2⟩
 ·rw [if_neg h1]
  have g1 : ¬ 2 < ((asS l).size : Int) := by rw [HS.out]; omega
  generalize asS l = s at *
  generalize numD l = N at *
  by_cases h2 : N < 50
  ·rw [if_pos h2]
   have g2 : (N : Int) < 50 := by omega
   go_enter Tryz.func180, Tryz.ntmps180
   go_wp2_with (go_at_call 177; refine (HN.out _).mono ?_; rintro e w2 ⟨rfl, hb2⟩)
   go_ret
   exact ⟨rfl, hb2⟩
  ·rw [if_neg h2]
   have g2 : ¬ (N : Int) < 50 := by omega
   go_enter Tryz.func180, Tryz.ntmps180
   go_wp2_with (go_at_call 177; refine (HN.out _).mono ?_; rintro e w2 ⟨rfl, hb2⟩)
   go_ret
   exact ⟨rfl, hb2⟩
def dayNs : List (List UInt8) := [[109, 111, 110], [116, 117, 101], [119, 101, 100], [116, 104, 117], [102, 114, 105], [115, 97, 116], [115, 117, 110]]
def monNs : List (List UInt8) := [[106, 97, 110], [102, 101, 98], [109, 97, 114], [97, 112, 114], [109, 97, 121], [106, 117, 110], [106, 117, 108], [97, 117, 103], [115, 101, 112], [111, 99, 116], [110, 111, 118], [100, 101, 99]]
def strV (l : List (List UInt8)) : List Value := l.map fun x => .string (asS x)
def pow8 : String := (Rows.feedShortRow.laid.map (·.1)).getD 2 default
theorem pow8_at : Tryz.prog.globalNamed pow8 = some 9 := by kernel_rfl
structure TabD (w : World) : Prop where
 big : 11 < w.heap.size
 pow : Lib.TabIs Tryz.prog w pow8 .u64 Lib.pow10Tab
 day : w.rangeAt 3 0 (strV dayNs)
 mon : w.rangeAt 4 0 (strV monNs)
theorem range_below {w w' : World} {g : Nat} {cs : List Value} (h : w.rangeAt g 0 cs) (hb : Below w.heap.size w w') : w'.rangeAt g 0 cs := fun j v hj => cell_below hb (h j v hj)
theorem TabD.below {w w' : World} (h : TabD w) (hb : Below w.heap.size w w') : TabD w' :=
 ⟨by have := hb.size; have := h.big; omega, Joins.tab_stays pow8_at h.pow hb (by have := h.big; omega), range_below h.day hb, range_below h.mon hb⟩
def monFind : List (List UInt8) → Nat → List UInt8 → Nat
 | [], _, _ => 0
 | x :: r, i, l => if x = l then i + 1 else monFind r (i + 1) l
def monOf (l : List UInt8) : Nat := monFind monNs 0 l
theorem monFind_at (ns : List (List UInt8)) (k : Nat) (l : List UInt8) (h : k < ns.length) : monFind (ns.drop k) k l = if ns.getD k [] = l then k + 1 else monFind (ns.drop (k + 1)) (k + 1) l := by
 rw [List.drop_eq_getElem_cons h, monFind, List.getD_eq_getElem?_getD, List.getElem?_eq_getElem h]; rfl
def isDayN (l : List UInt8) : Bool := dayNs.any fun x => decide (l = x ++ [44])
theorem anyN_at (ns : List (List UInt8)) (k : Nat) (l : List UInt8) (h : k < ns.length) : (ns.drop k).any (fun x => decide (l = x ++ [44])) = (decide (l = ns.getD k [] ++ [44]) || (ns.drop (k + 1)).any fun x => decide (l = x ++ [44])) := by
 rw [List.drop_eq_getElem_cons h, List.any_cons, List.getD_eq_getElem?_getD, List.getElem?_eq_getElem h]; rfl
theorem mon_ix (k : Nat) (h : k < 12) (W : World) : (Instr.index 204 (.agg (strV monNs).toArray) (.int .i64 (k : Int))).run Tryz.prog W = .ok (.string (asS (monNs.getD k []))) W := by
 have e : k = 0 ∨ k = 1 ∨ k = 2 ∨ k = 3 ∨ k = 4 ∨ k = 5 ∨ k = 6 ∨ k = 7 ∨ k = 8 ∨ k = 9 ∨ k = 10 ∨ k = 11 := by omega
 rcases e with rfl | rfl | rfl | rfl | rfl | rfl | rfl | rfl | rfl | rfl | rfl | rfl
 ·show (Instr.index 204 (.agg (strV monNs).toArray) (.int .i64 0)).run Tryz.prog W = .ok (.string (asS (monNs.getD 0 []))) W
  kernel_rfl
 ·show (Instr.index 204 (.agg (strV monNs).toArray) (.int .i64 1)).run Tryz.prog W = .ok (.string (asS (monNs.getD 1 []))) W
  kernel_rfl
 ·show (Instr.index 204 (.agg (strV monNs).toArray) (.int .i64 2)).run Tryz.prog W = .ok (.string (asS (monNs.getD 2 []))) W
  kernel_rfl
 ·show (Instr.index 204 (.agg (strV monNs).toArray) (.int .i64 3)).run Tryz.prog W = .ok (.string (asS (monNs.getD 3 []))) W
  kernel_rfl
 ·show (Instr.index 204 (.agg (strV monNs).toArray) (.int .i64 4)).run Tryz.prog W = .ok (.string (asS (monNs.getD 4 []))) W
  kernel_rfl
 ·show (Instr.index 204 (.agg (strV monNs).toArray) (.int .i64 5)).run Tryz.prog W = .ok (.string (asS (monNs.getD 5 []))) W
  kernel_rfl
 ·show (Instr.index 204 (.agg (strV monNs).toArray) (.int .i64 6)).run Tryz.prog W = .ok (.string (asS (monNs.getD 6 []))) W
  kernel_rfl
 ·show (Instr.index 204 (.agg (strV monNs).toArray) (.int .i64 7)).run Tryz.prog W = .ok (.string (asS (monNs.getD 7 []))) W
  kernel_rfl
 ·show (Instr.index 204 (.agg (strV monNs).toArray) (.int .i64 8)).run Tryz.prog W = .ok (.string (asS (monNs.getD 8 []))) W
  kernel_rfl
 ·show (Instr.index 204 (.agg (strV monNs).toArray) (.int .i64 9)).run Tryz.prog W = .ok (.string (asS (monNs.getD 9 []))) W
  kernel_rfl
 ·show (Instr.index 204 (.agg (strV monNs).toArray) (.int .i64 10)).run Tryz.prog W = .ok (.string (asS (monNs.getD 10 []))) W
  kernel_rfl
 ·show (Instr.index 204 (.agg (strV monNs).toArray) (.int .i64 11)).run Tryz.prog W = .ok (.string (asS (monNs.getD 11 []))) W
  kernel_rfl
theorem day_ix (k : Nat) (h : k < 7) (W : World) : (Instr.index 203 (.agg (strV dayNs).toArray) (.int .i64 (k : Int))).run Tryz.prog W = .ok (.string (asS (dayNs.getD k []))) W := by
 have e : k = 0 ∨ k = 1 ∨ k = 2 ∨ k = 3 ∨ k = 4 ∨ k = 5 ∨ k = 6 := by omega
 rcases e with rfl | rfl | rfl | rfl | rfl | rfl | rfl
 ·show (Instr.index 203 (.agg (strV dayNs).toArray) (.int .i64 0)).run Tryz.prog W = .ok (.string (asS (dayNs.getD 0 []))) W
  kernel_rfl
 ·show (Instr.index 203 (.agg (strV dayNs).toArray) (.int .i64 1)).run Tryz.prog W = .ok (.string (asS (dayNs.getD 1 []))) W
  kernel_rfl
 ·show (Instr.index 203 (.agg (strV dayNs).toArray) (.int .i64 2)).run Tryz.prog W = .ok (.string (asS (dayNs.getD 2 []))) W
  kernel_rfl
 ·show (Instr.index 203 (.agg (strV dayNs).toArray) (.int .i64 3)).run Tryz.prog W = .ok (.string (asS (dayNs.getD 3 []))) W
  kernel_rfl
 ·show (Instr.index 203 (.agg (strV dayNs).toArray) (.int .i64 4)).run Tryz.prog W = .ok (.string (asS (dayNs.getD 4 []))) W
  kernel_rfl
 ·show (Instr.index 203 (.agg (strV dayNs).toArray) (.int .i64 5)).run Tryz.prog W = .ok (.string (asS (dayNs.getD 5 []))) W
  kernel_rfl
 ·show (Instr.index 203 (.agg (strV dayNs).toArray) (.int .i64 6)).run Tryz.prog W = .ok (.string (asS (dayNs.getD 6 []))) W
  kernel_rfl
set_option maxRecDepth 1000000 in
theorem monthOf_any (l : List UInt8) (w : World) (hT : TabD w) : Calls Tryz.prog 181 #[.string (asS l)] w fun e w' => e = .returned (.int .i64 (monOf l : Int)) ∧ w' = w := by
 have HIX := hid (fun k h W => mon_ix k h W)
 have HM := hid hT.mon
 obtain ⟨cs, HCS⟩ : ∃ cs, Hid (strV monNs = cs) := ⟨_, rfl⟩
 rw [HCS.out] at HIX HM
 have hlen : cs.length = 12 := by rw [← HCS.out]; rfl
 have HLEN := hid hlen
 clear hlen HCS hT
 have HA := hid (fun k (h : k < 12) => monFind_at monNs k l h)
 obtain ⟨M, HQ⟩ : ∃ M, Hid (monFind (monNs.drop 0) 0 l = M) := ⟨_, rfl⟩
 rw [show monOf l = M from HQ.out]
 have HZ : Hid (∀ k, 12 ≤ k → monFind (monNs.drop k) k l = 0) := fun k h => by rw [List.drop_eq_nil_of_le (by exact h)]; rfl
 have HEQ : Hid (∀ x : List UInt8, ((asS x).toList == (asS l).toList) = decide (x = l)) := fun x => by
  rw [show (asS l).toList = l from by rw [ByteArray.toList_eq]; rfl]; exact tl_eq x l
 generalize asS l = s at *
 go_enter Tryz.func181, Tryz.ntmps181
 go_wp2_with (refine wpList_load_mid rfl _ _ rfl 4 0 rfl cs _ HM.out Tryz.underlying204 rfl (by rw [HLEN.out]; kernel_rfl) ?_)
 generalize cs.toArray = A at *
 go_loop [6] (fun i => ∃ k : Nat, k ≤ 12 ∧ i = .int .i64 (k : Int) ∧ Hid (monFind (monNs.drop k) k l = M)) (fun i => 12 - (intOf i).toNat)
 case atStart => exact ⟨0, by omega, rfl, HQ⟩
 case round =>
  obtain ⟨k, hk, rfl, HK⟩ := hrel
  by_cases hlt : k < 12
  ·have hi : (k : Int) < 12 := by omega
   have hix := HIX.out k hlt
   have HAK := hid (HA.out k hlt)
   generalize monNs.getD k [] = x at hix HAK
   have hcmp := HEQ.out x
   generalize asS x = t at hix hcmp
   by_cases hx : x = l
   ·rw [decide_eq_true hx] at hcmp
    have HR : Hid (M = k + 1) := by show _ = _; rw [← HK.out, HAK.out, if_pos hx]
    clear hx
    go_wp2_with fail
    go_ret
    exact ⟨by rw [HR.out]; rfl, rfl⟩
   ·rw [decide_eq_false hx] at hcmp
    have HR : Hid (monFind (monNs.drop (k + 1)) (k + 1) l = M) := by show _ = _; rw [← HK.out, HAK.out, if_neg hx]
    clear hx
    go_wp2_with fail
    go_round
    case rel => exact ⟨k + 1, by omega, by go_num, HR⟩
    case measure => simp [intOf]; omega
  ·have hi : ¬ (k : Int) < 12 := by omega
   have HR : Hid (M = 0) := by show _ = _; rw [← HK.out]; exact HZ.out k (by omega)
   go_wp2_with fail
   go_ret
   exact ⟨by rw [HR.out]; rfl, rfl⟩
set_option maxRecDepth 1000000 in
theorem isDayN_any (l : List UInt8) (w : World) (hT : TabD w) : Calls Tryz.prog 178 #[.string (asS l)] w fun e w' => e = .returned (.bool (isDayN l)) ∧ w' = w := by
 have HIX := hid (fun k h W => day_ix k h W)
 have HM := hid hT.day
 obtain ⟨cs, HCS⟩ : ∃ cs, Hid (strV dayNs = cs) := ⟨_, rfl⟩
 rw [HCS.out] at HIX HM
 have hlen : cs.length = 7 := by rw [← HCS.out]; rfl
 have HLEN := hid hlen
 clear hlen HCS hT
 have HA := hid (fun k (h : k < 7) => anyN_at dayNs k l h)
 have HS : Hid (∀ k, k < 7 → (asS (dayNs.getD k [])).size ≤ 3) := fun k h => by
  have e : k = 0 ∨ k = 1 ∨ k = 2 ∨ k = 3 ∨ k = 4 ∨ k = 5 ∨ k = 6 := by omega
  rcases e with rfl | rfl | rfl | rfl | rfl | rfl | rfl <;> decide
 obtain ⟨M, HQ⟩ : ∃ M, Hid ((dayNs.drop 0).any (fun x => decide (l = x ++ [44])) = M) := ⟨(dayNs.drop 0).any (fun x => decide (l = x ++ [44])), hid rfl⟩
 rw [show isDayN l = M from HQ.out]
 have HZ : Hid (∀ k, 7 ≤ k → (dayNs.drop k).any (fun x => decide (l = x ++ [44])) = false) := fun k h => by rw [List.drop_eq_nil_of_le (by exact h)]; rfl
 have HEQ : Hid (∀ x : List UInt8, ((asS l).toList == (asS x ++ ⟨#[44]⟩).toList) = decide (l = x ++ [44])) := fun x => by
  rw [show (asS x ++ ⟨#[44]⟩ : ByteArray) = asS (x ++ [44]) from asS_app x [44], show (asS (x ++ [44])).toList = x ++ [44] from by rw [ByteArray.toList_eq]; rfl]; exact tl_eq l _
 generalize asS l = s at *
 go_enter Tryz.func178, Tryz.ntmps178
 go_wp2_with (refine wpList_load_mid rfl _ _ rfl 3 0 rfl cs _ HM.out Tryz.underlying203 rfl (by rw [HLEN.out]; kernel_rfl) ?_)
 generalize cs.toArray = A at *
 go_loop [6] (fun i => ∃ k : Nat, k ≤ 7 ∧ i = .int .i64 (k : Int) ∧ Hid ((dayNs.drop k).any (fun x => decide (l = x ++ [44])) = M)) (fun i => 7 - (intOf i).toNat)
 case atStart => exact ⟨0, by omega, rfl, HQ⟩
 case round =>
  obtain ⟨k, hk, rfl, HK⟩ := hrel
  by_cases hlt : k < 7
  ·have hi : (k : Int) < 7 := by omega
   have hix := HIX.out k hlt
   have HAK := hid (HA.out k hlt)
   have hz := HS.out k hlt
   generalize dayNs.getD k [] = x at hix HAK hz
   have hcmp := HEQ.out x
   generalize asS x = t at hix hcmp hz
   generalize decide (l = x ++ [44]) = b at hcmp HAK
   cases b
   ·have HR : Hid ((dayNs.drop (k + 1)).any (fun x => decide (l = x ++ [44])) = M) := by show _ = _; rw [← HK.out, HAK.out, Bool.false_or]
    go_wp2_with fail
    go_round
    case rel => exact ⟨k + 1, by omega, by go_num, HR⟩
    case measure => simp [intOf]; omega
   ·have HR : Hid (M = true) := by show _ = _; rw [← HK.out, HAK.out, Bool.true_or]
    go_wp2_with fail
    go_ret
    exact ⟨by rw [HR.out]; rfl, rfl⟩
  ·have hi : ¬ (k : Int) < 7 := by omega
   have HR : Hid (M = false) := by show _ = _; rw [← HK.out]; exact HZ.out k (by omega)
   go_wp2_with fail
   go_ret
   exact ⟨by rw [HR.out]; rfl, rfl⟩
end Go.Proofs.YtgoiafndapemjaaGreatDoor
