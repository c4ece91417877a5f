
/- The reader: its small steps. -/
import Derived.Test.YtlgkbdebpnbndaaGreatDoorXmMem
import Derived.Test.YtlgkbdebpnbndaaGreatDoorXmShelf
import Derived.Test.YtlgkbdebpnbndaaGreatDoorJsMath
namespace Go.Proofs.YtlgkbdebpnbndaaGreatDoor
set_option linter.unusedVariables false
set_option linter.unusedSimpArgs false
open Go.RowKit Go.BigFrame

/-- A reader: what is left, how many values there were, how deep. -/
def Rj (w : World) (R : Nat) (l : List UInt8) (n d : Nat) : Prop := w.heap[R]? = some (.cells #[.string (asS l), .int .i64 n, .int .i64 d] 60 (0, 0))
theorem Rj.cells {w : World} {R : Nat} {l : List UInt8} {n d : Nat} (h : Rj w R l n d) : w.cell? ⟨R, 0, none⟩ = some (.string (asS l)) ∧ w.cell? ⟨R, 1, none⟩ = some (.int .i64 n) ∧ w.cell? ⟨R, 2, none⟩ = some (.int .i64 d) := ⟨cell_of_row _ _ _ _ _ _ h, cell_of_row _ _ _ _ _ _ h, cell_of_row _ _ _ _ _ _ h⟩
theorem Rj.below {w w' : World} {R : Nat} {l : List UInt8} {n d : Nat} (h : Rj w R l n d) (hb : Below w.heap.size w w') : Rj w' R l n d := row_keep hb h
theorem Rj.lt {w : World} {R : Nat} {l : List UInt8} {n d : Nat} (h : Rj w R l n d) : R < w.heap.size := (Array.getElem?_eq_some_iff.1 h).1
/-- It throws the error k. -/
def dieJ (k : Nat) : Ending := .panicked [{ v := .iface 28 (.int .i64 (k : Nat)), recovered := false }]
theorem mkErr (x : Value) (w : World) : (Instr.makeInterface 28 x).run Tryz.prog w = .ok (.iface 28 x) w := run_makeInterface w _ x (by kernel_rfl)
theorem info9j : (Tryz.prog.info? 9).map (·.size) = some 1 := by kernel_rfl
theorem info3j : (Tryz.prog.info? 3).map (·.size) = some 1 := by kernel_rfl
/-- What is left behind a mark. -/
def passJ (p l : List UInt8) : List UInt8 := if preX p l then l.drop p.length else l
theorem passJ_yes {p l : List UInt8} (h : preX p l = true) : passJ p l = l.drop p.length := if_pos h
theorem passJ_no {p l : List UInt8} (h : preX p l = false) : passJ p l = l := if_neg (by rw [h]; simp)
attribute [local go_sem ↓] mkErr
theorem preJ_any (l p : List UInt8) (w : World) : Calls Tryz.prog 62 #[.string (asS l), .string (asS p)] w fun e w' => e = .returned (.bool (preX p l)) ∧ w' = w := Tryz.strings_HasPrefix (asS l) (asS p) w
theorem cutJ_any (l p : List UInt8) (w : World) : Calls Tryz.prog 106 #[.string (asS l), .string (asS p)] w fun e w' => e = .returned (.tuple #[.string (asS (passJ p l)), .bool (preX p l)]) ∧ w' = w := Tryz.strings_CutPrefix (asS l) (asS p) w
theorem atJ_any (l p : List UInt8) (n d R : Nat) (w : World) (h : Rj w R l n d) : Calls Tryz.prog 89 #[.pointer (some ⟨R, 0, none⟩), .string (asS p)] w fun e w' => e = .returned (.bool (preX p l)) ∧ w' = w := by
  have HC := hid (preJ_any l p)
  obtain ⟨c0, _⟩ := h.cells
  clear h
  generalize asS l = L at HC c0
  generalize asS p = P at HC ⊢
  generalize preX p l = b at HC ⊢
  go_enter Tryz.func89, Tryz.ntmps89
  go_wp2_with fail
  refine (HC.out _).mono ?_
  rintro e W ⟨rfl, rfl⟩
  go_wp2_with fail
  go_ret
  exact ⟨rfl, rfl⟩
theorem passJ_any (l p : List UInt8) (n d R : Nat) (w : World) (h : Rj w R l n d) : Calls Tryz.prog 88 #[.pointer (some ⟨R, 0, none⟩), .string (asS p)] w fun e w' => e = .returned (.bool (preX p l)) ∧ Rj w' R (passJ p l) n d ∧ Only R w w' := by
  have HC := hid (cutJ_any l p)
  have HR := hid h
  obtain ⟨c0, _⟩ := h.cells
  clear h
  unfold Rj at HR ⊢
  generalize asS l = L at HC c0 HR
  generalize asS p = P at HC ⊢
  generalize preX p l = b at HC ⊢
  generalize asS (passJ p l) = L' at HC ⊢
  go_enter Tryz.func88, Tryz.ntmps88
  go_wp2_with fail
  refine (HC.out _).mono ?_
  rintro e W ⟨rfl, rfl⟩
  go_wp2_with (first
    | (refine store_part rfl 9 _ _ rfl R 0 (.string L') _ _ #[.string L', .int .i64 n, .int .i64 d] rfl rfl info9j (by simp) rfl rfl HR.out rfl ?_)
    | fail)
  intro W1 ho hr
  have HO := hid ho
  have HR1 := hid hr
  clear ho hr
  go_wp2_with fail
  go_ret
  exact ⟨rfl, HR1.out, HO.out⟩
theorem need_any (l p : List UInt8) (n d R : Nat) (w : World) (h : Rj w R l n d) : Calls Tryz.prog 107 #[.pointer (some ⟨R, 0, none⟩), .string (asS p)] w fun e w' => Rj w' R (passJ p l) n d ∧ Only R w w' ∧ e = (if preX p l then .returned (.tuple #[]) else dieJ 5) := by
  have HP := hid (passJ_any l p n d R w h)
  clear h
  generalize asS p = P at HP ⊢
  cases hb : preX p l with
  | true =>
    rw [hb] at HP
    go_enter Tryz.func107, Tryz.ntmps107
    go_wp2_with fail
    refine HP.out.mono ?_
    rintro e W ⟨rfl, hr, ho⟩
    go_wp2_with fail
    exact ⟨by simp, _, results_none rfl _ _ _, hr, ho, rfl⟩
  | false =>
    rw [hb] at HP
    go_enter Tryz.func107, Tryz.ntmps107
    go_wp2_with fail
    refine HP.out.mono ?_
    rintro e W ⟨rfl, hr, ho⟩
    go_wp2_with fail
    exact ⟨rfl, hr, ho, rfl⟩
theorem wh_trim4 : ∀ l : List UInt8, Lib.trimLeftS l [32, 9, 10, 13] = l.dropWhile whX
  | [] => rfl
  | c :: r => by
    have hw : ([32, 9, 10, 13] : List UInt8).contains c = whX c := by
      have k : ∀ x : UInt8, (c == x) = (c.toNat == x.toNat) := fun x => by
        rw [Bool.eq_iff_iff, beq_iff_eq, beq_iff_eq]
        exact ⟨fun h => by rw [h], fun h => by rw [← UInt8.ofNat_toNat (x := c), h, UInt8.ofNat_toNat]⟩
      simp only [List.contains_cons, List.contains_nil, Bool.or_false]
      rw [k 32, k 9, k 10, k 13]
      simp only [whX, Bool.or_assoc]
      rfl
    have ih := wh_trim4 r
    unfold Lib.trimLeftS at ih ⊢
    rw [List.dropWhile_cons, List.dropWhile_cons, hw, ih]
theorem trimJ_any (l : List UInt8) (w : World) : Calls Tryz.prog 94 #[.string (asS l), .string ⟨#[32, 9, 10, 13]⟩] w fun e w' => e = .returned (.string (asS (l.dropWhile whX))) ∧ Below w.heap.size w w' := by
  refine (Any.strings_TrimLeft_laid Tryz.lays161 (by kernel_rfl) (asS l) ⟨#[32, 9, 10, 13]⟩ w (by decide) (fun j b hb => ?_)).mono ?_
  · have : b ∈ ([32, 9, 10, 13] : List UInt8) := List.mem_of_getElem? hb
    simp at this
    rcases this with rfl | rfl | rfl | rfl <;> decide
  · rintro e w' ⟨rfl, hb⟩
    refine ⟨?_, hb⟩
    rw [← wh_trim4 l]
    rfl
theorem white_j (l : List UInt8) (n d R : Nat) (w : World) (h : Rj w R l n d) : Calls Tryz.prog 64 #[.pointer (some ⟨R, 0, none⟩)] w fun e w' => e = .returned (.tuple #[]) ∧ Rj w' R (l.dropWhile whX) n d ∧ w.grownBy w' (some R) := by
  have HC := hid (trimJ_any l w)
  have HR := hid h
  obtain ⟨c0, _⟩ := h.cells
  clear h
  unfold Rj at HR ⊢
  generalize asS l = L at HC c0 HR
  generalize asS (l.dropWhile whX) = B at HC ⊢
  go_enter Tryz.func64, Tryz.ntmps64
  go_wp2_with fail
  refine HC.out.mono ?_
  rintro e W ⟨rfl, hb⟩
  have HR2 := hid (row_keep hb HR.out)
  have HB := hid hb
  clear hb
  go_wp2_with (first
    | (refine store_part rfl 9 _ _ rfl R 0 (.string B) _ _ #[.string B, .int .i64 n, .int .i64 d] rfl rfl info9j (by simp) rfl rfl HR2.out rfl ?_; intro W1 ho hr; have HO := hid ho; have HR1 := hid hr; clear ho hr)
    | fail)
  exact ⟨by simp, _, results_none rfl _ _ _, rfl, HR1.out, (to_below HB.out).trans (to_only HO.out)⟩
set_option maxRecDepth 100000 in
theorem deeper_ok (l : List UInt8) (n d R : Nat) (hd : d + 1 ≤ 16) (w : World) (h : Rj w R l n d) : Calls Tryz.prog 112 #[.pointer (some ⟨R, 0, none⟩)] w fun e w' => e = .returned (.tuple #[]) ∧ Rj w' R l n (d + 1) ∧ Only R w w' := by
  have HR := hid h
  obtain ⟨_, _, c2⟩ := h.cells
  clear h
  unfold Rj at HR ⊢
  generalize asS l = L at HR ⊢
  have e1 : ((d + 1 : Nat) : Int) = (d : Int) + 1 := by omega
  rw [e1]
  have hk' : ¬ ((16 : Int) < (d : Int) + 1) := by omega
  clear e1
  go_enter Tryz.func112, Tryz.ntmps112
  go_wp2_with (first
    | (refine store_part rfl 3 _ _ rfl R 2 (.int .i64 ((d : Int) + 1)) _ _ #[.string L, .int .i64 n, .int .i64 ((d : Int) + 1)] rfl rfl info3j (by simp) rfl rfl HR.out rfl ?_; intro W1 ho hr; have c3 : W1.cell? ⟨R, 2, none⟩ = some (.int .i64 ((d : Int) + 1)) := cell_of_row _ _ _ _ _ _ hr; have HO := hid ho; have HR1 := hid hr; clear ho hr)
    | fail)
  exact ⟨by simp, _, results_none rfl _ _ _, rfl, HR1.out, HO.out⟩
set_option maxRecDepth 100000 in
theorem deeper_no (l : List UInt8) (n d R : Nat) (hd : 16 < d + 1) (hd2 : d ≤ 1000) (w : World) (h : Rj w R l n d) : Calls Tryz.prog 112 #[.pointer (some ⟨R, 0, none⟩)] w fun e w' => e = dieJ 9 ∧ Only R w w' := by
  have HR := hid h
  obtain ⟨_, _, c2⟩ := h.cells
  clear h
  unfold Rj at HR
  generalize asS l = L at HR
  have hk' : ((16 : Int) < (d : Int) + 1) := by omega
  go_enter Tryz.func112, Tryz.ntmps112
  go_wp2_with (first
    | (refine store_part rfl 3 _ _ rfl R 2 (.int .i64 ((d : Int) + 1)) _ _ #[.string L, .int .i64 n, .int .i64 ((d : Int) + 1)] rfl rfl info3j (by simp) rfl rfl HR.out rfl ?_; intro W1 ho hr; have c3 : W1.cell? ⟨R, 2, none⟩ = some (.int .i64 ((d : Int) + 1)) := cell_of_row _ _ _ _ _ _ hr; have HO := hid ho; have HR1 := hid hr; clear ho hr)
    | fail)
  exact ⟨rfl, rfl, HO.out⟩
theorem ends_j (l p : List UInt8) (n d R : Nat) (w : World) (h : Rj w R l n d) : Calls Tryz.prog 113 #[.pointer (some ⟨R, 0, none⟩), .string (asS p)] w fun e w' => e = .returned (.bool (preX p (l.dropWhile whX))) ∧ Rj w' R (passJ p (l.dropWhile whX)) n d ∧ w.grownBy w' (some R) := by
  have HW := hid (white_j l n d R w h)
  have HP := hid (fun W h => passJ_any (l.dropWhile whX) p n d R W h)
  clear h
  generalize l.dropWhile whX = l1 at HW HP ⊢
  generalize asS p = P at HP ⊢
  go_enter Tryz.func113, Tryz.ntmps113
  go_wp2_with fail
  refine HW.out.mono ?_
  rintro e W ⟨rfl, hr, hg⟩
  have HG := hid hg
  have HP2 := hid (HP.out W hr)
  clear hr hg HP
  go_wp2_with fail
  refine HP2.out.mono ?_
  rintro e W2 ⟨rfl, hr, ho⟩
  have HR := hid hr
  have HO := hid ho
  clear hr ho
  go_wp2_with fail
  go_ret
  exact ⟨rfl, HR.out, HG.out.trans (to_only HO.out)⟩
theorem goes_no (l p : List UInt8) (n d R : Nat) (w : World) (h : Rj w R l n d) (hp : preX p (l.dropWhile whX) = true) : Calls Tryz.prog 114 #[.pointer (some ⟨R, 0, none⟩), .string (asS p)] w fun e w' => e = .returned (.bool false) ∧ Rj w' R ((l.dropWhile whX).drop p.length) n d ∧ w.grownBy w' (some R) := by
  have HE := hid (ends_j l p n d R w h)
  rw [hp, passJ_yes hp] at HE
  clear h hp
  generalize (l.dropWhile whX).drop p.length = l1 at HE ⊢
  generalize asS p = P at HE ⊢
  go_enter Tryz.func114, Tryz.ntmps114
  go_wp2_with fail
  refine HE.out.mono ?_
  rintro e W ⟨rfl, hr, hg⟩
  have HR := hid hr
  have HG := hid hg
  clear hr hg
  go_wp2_with fail
  go_ret
  exact ⟨rfl, HR.out, HG.out⟩
theorem goes_on (l p : List UInt8) (n d R : Nat) (w : World) (h : Rj w R l n d) (hp : preX p (l.dropWhile whX) = false) : Calls Tryz.prog 114 #[.pointer (some ⟨R, 0, none⟩), .string (asS p)] w fun e w' => Rj w' R (passJ [44] (l.dropWhile whX)) n d ∧ w.grownBy w' (some R) ∧ e = (if preX [44] (l.dropWhile whX) then .returned (.bool true) else dieJ 5) := by
  have HE := hid (ends_j l p n d R w h)
  rw [hp, passJ_no hp] at HE
  have HN : Hid (∀ W, Rj W R (l.dropWhile whX) n d → Calls Tryz.prog 107 #[.pointer (some ⟨R, 0, none⟩), .string ⟨#[44]⟩] W fun e w' => Rj w' R (passJ [44] (l.dropWhile whX)) n d ∧ Only R W w' ∧ e = (if preX [44] (l.dropWhile whX) then .returned (.tuple #[]) else dieJ 5)) := fun W h => need_any (l.dropWhile whX) [44] n d R W h
  clear h hp
  generalize passJ [44] (l.dropWhile whX) = l2 at HN ⊢
  generalize l.dropWhile whX = l1 at HE HN ⊢
  generalize asS p = P at HE ⊢
  cases hb : preX [44] l1 with
  | true =>
    rw [hb] at HN
    go_enter Tryz.func114, Tryz.ntmps114
    go_wp2_with fail
    refine HE.out.mono ?_
    rintro e W ⟨rfl, hr, hg⟩
    have HG := hid hg
    have HN2 := hid (HN.out W hr)
    clear hr hg HN
    go_wp2_with fail
    refine HN2.out.mono ?_
    rintro e W2 ⟨hr, ho, rfl⟩
    have HR := hid hr
    have HO := hid ho
    clear hr ho
    go_wp2_with fail
    go_ret
    exact ⟨HR.out, HG.out.trans (to_only HO.out), rfl⟩
  | false =>
    rw [hb] at HN
    go_enter Tryz.func114, Tryz.ntmps114
    go_wp2_with fail
    refine HE.out.mono ?_
    rintro e W ⟨rfl, hr, hg⟩
    have HG := hid hg
    have HN2 := hid (HN.out W hr)
    clear hr hg HN
    go_wp2_with fail
    refine HN2.out.mono ?_
    rintro e W2 ⟨hr, ho, rfl⟩
    exact ⟨rfl, hr, HG.out.trans (to_only ho), rfl⟩
end Go.Proofs.YtlgkbdebpnbndaaGreatDoor
