
/- What date's monthOf and isDayName do; what of the variables is read. -/
import Derived.Test.YthpplcadpngdiaaDoorDtName
import Derived.Lib.SmallJoins
import Derived.Shelf.Strconv.Itoa3
import Derived.Lib.ItoaNum
import Derived.Lib.AppendIntMem
namespace Go.Proofs.YthpplcadpngdiaaDoor
set_option linter.unusedVariables false
set_option linter.unusedSimpArgs false
open Go.RowKit Go.BigFrame

def dayNs : List (List UInt8) := [[109, 111, 110], [116, 117, 101], [119, 101, 100], [116, 104, 117], [102, 114, 105], [115, 97, 116], [115, 117, 110]]
def monNs : List (List UInt8) := [[106, 97, 110], [102, 101, 98], [109, 97, 114], [97, 112, 114], [109, 97, 121], [106, 117, 110], [106, 117, 108], [97, 117, 103], [115, 101, 112], [111, 99, 116], [110, 111, 118], [100, 101, 99]]
def strV (l : List (List UInt8)) : List Value := l.map fun x => .string (asS x)
/-- The name of the table of powers of ten. -/
def pow8 : String := (Rows.dateDaysRow.laid.map (·.1)).getD 2 default
theorem pow8_at : Tryd.prog.globalNamed pow8 = some 4 := by kernel_rfl
structure TabD (w : World) : Prop where
  big : 7 < w.heap.size
  pow : Lib.TabIs Tryd.prog w pow8 .u64 Lib.pow10Tab
  day : w.rangeAt 0 0 (strV dayNs)
  mon : w.rangeAt 1 0 (strV monNs)
theorem range_below {w w' : World} {g : Nat} {cs : List Value} (h : w.rangeAt g 0 cs) (hb : Below w.heap.size w w') : w'.rangeAt g 0 cs := fun j v hj => cell_below hb (h j v hj)
theorem TabD.below {w w' : World} (h : TabD w) (hb : Below w.heap.size w w') : TabD w' :=
  ⟨by have := hb.size; have := h.big; omega, Joins.tab_stays pow8_at h.pow hb (by have := h.big; omega), range_below h.day hb, range_below h.mon hb⟩
def monFind : List (List UInt8) → Nat → List UInt8 → Nat
  | [], _, _ => 0
  | x :: r, i, l => if x = l then i + 1 else monFind r (i + 1) l
def monOf (l : List UInt8) : Nat := monFind monNs 0 l
theorem monFind_at (ns : List (List UInt8)) (k : Nat) (l : List UInt8) (h : k < ns.length) : monFind (ns.drop k) k l = if ns.getD k [] = l then k + 1 else monFind (ns.drop (k + 1)) (k + 1) l := by
  rw [List.drop_eq_getElem_cons h, monFind, List.getD_eq_getElem?_getD, List.getElem?_eq_getElem h]; rfl
def isDayN (l : List UInt8) : Bool := dayNs.any fun x => decide (l = x ++ [44])
theorem anyN_at (ns : List (List UInt8)) (k : Nat) (l : List UInt8) (h : k < ns.length) : (ns.drop k).any (fun x => decide (l = x ++ [44])) = (decide (l = ns.getD k [] ++ [44]) || (ns.drop (k + 1)).any fun x => decide (l = x ++ [44])) := by
  rw [List.drop_eq_getElem_cons h, List.any_cons, List.getD_eq_getElem?_getD, List.getElem?_eq_getElem h]; rfl
theorem mon_ix (k : Nat) (h : k < 12) (W : World) : (Instr.index 71 (.agg (strV monNs).toArray) (.int .i64 (k : Int))).run Tryd.prog W = .ok (.string (asS (monNs.getD k []))) W := by
  have e : k = 0 ∨ k = 1 ∨ k = 2 ∨ k = 3 ∨ k = 4 ∨ k = 5 ∨ k = 6 ∨ k = 7 ∨ k = 8 ∨ k = 9 ∨ k = 10 ∨ k = 11 := by omega
  rcases e with rfl | rfl | rfl | rfl | rfl | rfl | rfl | rfl | rfl | rfl | rfl | rfl
  · show (Instr.index 71 (.agg (strV monNs).toArray) (.int .i64 0)).run Tryd.prog W = .ok (.string (asS (monNs.getD 0 []))) W
    kernel_rfl
  · show (Instr.index 71 (.agg (strV monNs).toArray) (.int .i64 1)).run Tryd.prog W = .ok (.string (asS (monNs.getD 1 []))) W
    kernel_rfl
  · show (Instr.index 71 (.agg (strV monNs).toArray) (.int .i64 2)).run Tryd.prog W = .ok (.string (asS (monNs.getD 2 []))) W
    kernel_rfl
  · show (Instr.index 71 (.agg (strV monNs).toArray) (.int .i64 3)).run Tryd.prog W = .ok (.string (asS (monNs.getD 3 []))) W
    kernel_rfl
  · show (Instr.index 71 (.agg (strV monNs).toArray) (.int .i64 4)).run Tryd.prog W = .ok (.string (asS (monNs.getD 4 []))) W
    kernel_rfl
  · show (Instr.index 71 (.agg (strV monNs).toArray) (.int .i64 5)).run Tryd.prog W = .ok (.string (asS (monNs.getD 5 []))) W
    kernel_rfl
  · show (Instr.index 71 (.agg (strV monNs).toArray) (.int .i64 6)).run Tryd.prog W = .ok (.string (asS (monNs.getD 6 []))) W
    kernel_rfl
  · show (Instr.index 71 (.agg (strV monNs).toArray) (.int .i64 7)).run Tryd.prog W = .ok (.string (asS (monNs.getD 7 []))) W
    kernel_rfl
  · show (Instr.index 71 (.agg (strV monNs).toArray) (.int .i64 8)).run Tryd.prog W = .ok (.string (asS (monNs.getD 8 []))) W
    kernel_rfl
  · show (Instr.index 71 (.agg (strV monNs).toArray) (.int .i64 9)).run Tryd.prog W = .ok (.string (asS (monNs.getD 9 []))) W
    kernel_rfl
  · show (Instr.index 71 (.agg (strV monNs).toArray) (.int .i64 10)).run Tryd.prog W = .ok (.string (asS (monNs.getD 10 []))) W
    kernel_rfl
  · show (Instr.index 71 (.agg (strV monNs).toArray) (.int .i64 11)).run Tryd.prog W = .ok (.string (asS (monNs.getD 11 []))) W
    kernel_rfl
theorem day_ix (k : Nat) (h : k < 7) (W : World) : (Instr.index 70 (.agg (strV dayNs).toArray) (.int .i64 (k : Int))).run Tryd.prog W = .ok (.string (asS (dayNs.getD k []))) W := by
  have e : k = 0 ∨ k = 1 ∨ k = 2 ∨ k = 3 ∨ k = 4 ∨ k = 5 ∨ k = 6 := by omega
  rcases e with rfl | rfl | rfl | rfl | rfl | rfl | rfl
  · show (Instr.index 70 (.agg (strV dayNs).toArray) (.int .i64 0)).run Tryd.prog W = .ok (.string (asS (dayNs.getD 0 []))) W
    kernel_rfl
  · show (Instr.index 70 (.agg (strV dayNs).toArray) (.int .i64 1)).run Tryd.prog W = .ok (.string (asS (dayNs.getD 1 []))) W
    kernel_rfl
  · show (Instr.index 70 (.agg (strV dayNs).toArray) (.int .i64 2)).run Tryd.prog W = .ok (.string (asS (dayNs.getD 2 []))) W
    kernel_rfl
  · show (Instr.index 70 (.agg (strV dayNs).toArray) (.int .i64 3)).run Tryd.prog W = .ok (.string (asS (dayNs.getD 3 []))) W
    kernel_rfl
  · show (Instr.index 70 (.agg (strV dayNs).toArray) (.int .i64 4)).run Tryd.prog W = .ok (.string (asS (dayNs.getD 4 []))) W
    kernel_rfl
  · show (Instr.index 70 (.agg (strV dayNs).toArray) (.int .i64 5)).run Tryd.prog W = .ok (.string (asS (dayNs.getD 5 []))) W
    kernel_rfl
  · show (Instr.index 70 (.agg (strV dayNs).toArray) (.int .i64 6)).run Tryd.prog W = .ok (.string (asS (dayNs.getD 6 []))) W
    kernel_rfl
set_option maxHeartbeats 1000000 in
set_option maxRecDepth 1000000 in
theorem monthOf_any (l : List UInt8) (w : World) (hT : TabD w) : Calls Tryd.prog 47 #[.string (asS l)] w fun e w' => e = .returned (.int .i64 (monOf l : Int)) ∧ w' = w := by
  have HIX := hid (fun k h W => mon_ix k h W)
  have HM := hid hT.mon
  obtain ⟨cs, HCS⟩ : ∃ cs, Hid (strV monNs = cs) := ⟨_, rfl⟩
  rw [HCS.out] at HIX HM
  have hlen : cs.length = 12 := by rw [← HCS.out]; rfl
  have HLEN := hid hlen
  clear hlen HCS hT
  have HA := hid (fun k (h : k < 12) => monFind_at monNs k l h)
  obtain ⟨M, HQ⟩ : ∃ M, Hid (monFind (monNs.drop 0) 0 l = M) := ⟨_, rfl⟩
  rw [show monOf l = M from HQ.out]
  have HZ : Hid (∀ k, 12 ≤ k → monFind (monNs.drop k) k l = 0) := fun k h => by rw [List.drop_eq_nil_of_le (by exact h)]; rfl
  have HEQ : Hid (∀ x : List UInt8, ((asS x).toList == (asS l).toList) = decide (x = l)) := fun x => by
    rw [show (asS l).toList = l from by rw [ByteArray.toList_eq]; rfl]; exact tl_eq x l
  generalize asS l = s at *
  go_enter Tryd.func47, Tryd.ntmps47
  go_wp2_with (refine wpList_load_mid rfl _ _ rfl 1 0 rfl cs _ HM.out Tryd.underlying71 rfl (by rw [HLEN.out]; kernel_rfl) ?_)
  generalize cs.toArray = A at *
  go_loop [6] (fun i => ∃ k : Nat, k ≤ 12 ∧ i = .int .i64 (k : Int) ∧ Hid (monFind (monNs.drop k) k l = M)) (fun i => 12 - (intOf i).toNat)
  case atStart => exact ⟨0, by omega, rfl, HQ⟩
  case round =>
    obtain ⟨k, hk, rfl, HK⟩ := hrel
    by_cases hlt : k < 12
    · have hi : (k : Int) < 12 := by omega
      have hix := HIX.out k hlt
      have HAK := hid (HA.out k hlt)
      generalize monNs.getD k [] = x at hix HAK
      have hcmp := HEQ.out x
      generalize asS x = t at hix hcmp
      by_cases hx : x = l
      · rw [decide_eq_true hx] at hcmp
        have HR : Hid (M = k + 1) := by show _ = _; rw [← HK.out, HAK.out, if_pos hx]
        clear hx
        go_wp2_with fail
        go_ret
        exact ⟨by rw [HR.out]; rfl, rfl⟩
      · rw [decide_eq_false hx] at hcmp
        have HR : Hid (monFind (monNs.drop (k + 1)) (k + 1) l = M) := by show _ = _; rw [← HK.out, HAK.out, if_neg hx]
        clear hx
        go_wp2_with fail
        go_round
        case rel => exact ⟨k + 1, by omega, by go_num, HR⟩
        case measure => simp [intOf]; omega
    · have hi : ¬ (k : Int) < 12 := by omega
      have HR : Hid (M = 0) := by show _ = _; rw [← HK.out]; exact HZ.out k (by omega)
      go_wp2_with fail
      go_ret
      exact ⟨by rw [HR.out]; rfl, rfl⟩
set_option maxHeartbeats 1000000 in
set_option maxRecDepth 1000000 in
theorem isDayN_any (l : List UInt8) (w : World) (hT : TabD w) : Calls Tryd.prog 44 #[.string (asS l)] w fun e w' => e = .returned (.bool (isDayN l)) ∧ w' = w := by
  have HIX := hid (fun k h W => day_ix k h W)
  have HM := hid hT.day
  obtain ⟨cs, HCS⟩ : ∃ cs, Hid (strV dayNs = cs) := ⟨_, rfl⟩
  rw [HCS.out] at HIX HM
  have hlen : cs.length = 7 := by rw [← HCS.out]; rfl
  have HLEN := hid hlen
  clear hlen HCS hT
  have HA := hid (fun k (h : k < 7) => anyN_at dayNs k l h)
  have HS : Hid (∀ k, k < 7 → (asS (dayNs.getD k [])).size ≤ 3) := fun k h => by
    have e : k = 0 ∨ k = 1 ∨ k = 2 ∨ k = 3 ∨ k = 4 ∨ k = 5 ∨ k = 6 := by omega
    rcases e with rfl | rfl | rfl | rfl | rfl | rfl | rfl <;> decide
  obtain ⟨M, HQ⟩ : ∃ M, Hid ((dayNs.drop 0).any (fun x => decide (l = x ++ [44])) = M) := ⟨(dayNs.drop 0).any (fun x => decide (l = x ++ [44])), hid rfl⟩
  rw [show isDayN l = M from HQ.out]
  have HZ : Hid (∀ k, 7 ≤ k → (dayNs.drop k).any (fun x => decide (l = x ++ [44])) = false) := fun k h => by rw [List.drop_eq_nil_of_le (by exact h)]; rfl
  have HEQ : Hid (∀ x : List UInt8, ((asS l).toList == (asS x ++ ⟨#[44]⟩).toList) = decide (l = x ++ [44])) := fun x => by
    rw [show (asS x ++ ⟨#[44]⟩ : ByteArray) = asS (x ++ [44]) from asS_app x [44], show (asS (x ++ [44])).toList = x ++ [44] from by rw [ByteArray.toList_eq]; rfl]; exact tl_eq l _
  generalize asS l = s at *
  go_enter Tryd.func44, Tryd.ntmps44
  go_wp2_with (refine wpList_load_mid rfl _ _ rfl 0 0 rfl cs _ HM.out Tryd.underlying70 rfl (by rw [HLEN.out]; kernel_rfl) ?_)
  generalize cs.toArray = A at *
  go_loop [6] (fun i => ∃ k : Nat, k ≤ 7 ∧ i = .int .i64 (k : Int) ∧ Hid ((dayNs.drop k).any (fun x => decide (l = x ++ [44])) = M)) (fun i => 7 - (intOf i).toNat)
  case atStart => exact ⟨0, by omega, rfl, HQ⟩
  case round =>
    obtain ⟨k, hk, rfl, HK⟩ := hrel
    by_cases hlt : k < 7
    · have hi : (k : Int) < 7 := by omega
      have hix := HIX.out k hlt
      have HAK := hid (HA.out k hlt)
      have hz := HS.out k hlt
      generalize dayNs.getD k [] = x at hix HAK hz
      have hcmp := HEQ.out x
      generalize asS x = t at hix hcmp hz
      generalize decide (l = x ++ [44]) = b at hcmp HAK
      cases b
      · have HR : Hid ((dayNs.drop (k + 1)).any (fun x => decide (l = x ++ [44])) = M) := by show _ = _; rw [← HK.out, HAK.out, Bool.false_or]
        go_wp2_with fail
        go_round
        case rel => exact ⟨k + 1, by omega, by go_num, HR⟩
        case measure => simp [intOf]; omega
      · have HR : Hid (M = true) := by show _ = _; rw [← HK.out, HAK.out, Bool.true_or]
        go_wp2_with fail
        go_ret
        exact ⟨by rw [HR.out]; rfl, rfl⟩
    · have hi : ¬ (k : Int) < 7 := by omega
      have HR : Hid (M = false) := by show _ = _; rw [← HK.out]; exact HZ.out k (by omega)
      go_wp2_with fail
      go_ret
      exact ⟨by rw [HR.out]; rfl, rfl⟩
end Go.Proofs.YthpplcadpngdiaaDoor
