import Derived.Test.YtgoiafndapemjaaGreatDoorQ11
import Derived.Test.YtgoiafndapemjaaGreatDoorQ14
import Derived.Test.YtgoiafndapemjaaGreatDoorXmShelf
import Derived.Test.YtgoiafndapemjaaGreatDoorQ03
set_option linter.unusedVariables false
set_option linter.unusedSimpArgs false
set_option maxHeartbeats 1000000
namespace Go.Proofs.YtgoiafndapemjaaGreatDoor
open Go.RowKit Go.BigFrame
def Rd (w : World) (R : Nat) (l : List UInt8) (m : Nat) : Prop := w.heap[R]? = some (.cells #[.string (asS l), .int .i64 m] 92 (0, 0))
theorem Rd.cells {w : World} {R : Nat} {l : List UInt8} {m : Nat} (h : Rd w R l m) : w.cell? ⟨R, 0, none⟩ = some (.string (asS l)) ∧ w.cell? ⟨R, 1, none⟩ = some (.int .i64 m) := ⟨cell_of_row _ _ _ _ _ _ h, cell_of_row _ _ _ _ _ _ h⟩
theorem Rd.below {w w' : World} {R : Nat} {l : List UInt8} {m : Nat} (h : Rd w R l m) (hb : Below w.heap.size w w') : Rd w' R l m := row_keep hb h
theorem Rd.lt {w : World} {R : Nat} {l : List UInt8} {m : Nat} (h : Rd w R l m) : R < w.heap.size := (Array.getElem?_eq_some_iff.1 h).1
theorem TabE.to {w w' : World} {R : Nat} (h : TabE w) (hg : w.grownBy w' (some R)) (hR : 7 < R) : TabE w' := by
 obtain ⟨m, hm⟩ := h.max
 obtain ⟨te, pe, hs⟩ := h.syn
 have l1 := block_lt_of_cell hm
 have l2 := block_lt_of_cell hs
 exact ⟨⟨m, by rw [hg.cell_far ⟨2, 0, none⟩ l1 (fun e => by injection e with e; simp at e; omega)]; exact hm⟩, ⟨te, pe, by rw [hg.cell_far ⟨7, 0, none⟩ l2 (fun e => by injection e with e; simp at e; omega)]; exact hs⟩⟩
theorem info9 : (Tryz.prog.info? 9).map (·.size) = some 1 := by kernel_rfl
theorem info3x : (Tryz.prog.info? 3).map (·.size) = some 1 := by kernel_rfl
theorem hasPre_any (l p : List UInt8) (w : World) : Calls Tryz.prog 109 #[.string (asS l), .string (asS p)] w fun e w' => e = .returned (.bool (preX p l)) ∧ w' = w := Tryz.strings_HasPrefix (asS l) (asS p) w
theorem cutPre13 (l p : List UInt8) (w : World) : Calls Tryz.prog 162 #[.string (asS l), .string (asS p)] w fun e w' => e = .returned (.tuple #[.string (asS (passX p l)), .bool (preX p l)]) ∧ w' = w := Tryz.strings_CutPrefix (asS l) (asS p) w
theorem at_any (l p : List UInt8) (m R : Nat) (w : World) (h : Rd w R l m) : Calls Tryz.prog 105 #[.pointer (some ⟨R, 0, none⟩), .string (asS p)] w fun e w' => e = .returned (.bool (preX p l)) ∧ w' = w := by
 have HC := hid (hasPre_any l p)
 obtain ⟨c0, _⟩ := h.cells
 clear h
 generalize asS l = L at HC c0
 generalize asS p = P at HC ⊢
 generalize preX p l = b at HC ⊢
 go_enter Tryz.func105, Tryz.ntmps105
 go_wp2_with fail
 refine (HC.out _).mono ?_
 rintro e W ⟨rfl, rfl⟩
 go_wp2_with fail
 go_ret
 exact ⟨rfl, rfl⟩
theorem pass_any (l p : List UInt8) (m R : Nat) (w : World) (h : Rd w R l m) : Calls Tryz.prog 137 #[.pointer (some ⟨R, 0, none⟩), .string (asS p)] w fun e w' => e = .returned (.bool (preX p l)) ∧ Rd w' R (passX p l) m ∧ Only R w w' := by
 have HC := hid (cutPre13 l p)
 have HR := hid h
 obtain ⟨c0, _⟩ := h.cells
 clear h
 unfold Rd at HR ⊢
 generalize asS l = L at HC c0 HR
 generalize asS p = P at HC ⊢
 generalize preX p l = b at HC ⊢
 generalize asS (passX p l) = L' at HC ⊢
 go_enter Tryz.func137, Tryz.ntmps137
 go_wp2_with fail
 refine (HC.out _).mono ?_
 rintro e W ⟨rfl, rfl⟩
 go_wp2_with (first
  | (refine store_part rfl 9 _ _ rfl R 0 (.string L') _ _ #[.string L', .int .i64 m] rfl rfl info9 (by simp) rfl rfl HR.out rfl ?_)
  | fail)
 intro W1 ho hr
 have HO := hid ho
 have HR1 := hid hr
 clear ho hr
 go_wp2_with fail
 go_ret
 exact ⟨rfl, HR1.out, HO.out⟩
set_option maxRecDepth 100000 in
theorem count_any (l : List UInt8) (m R : Nat) (hm : m ≤ 1000000) (w : World) (h : Rd w R l m) : Calls Tryz.prog 139 #[.pointer (some ⟨R, 0, none⟩)] w fun e w' => e = .returned (.int .i64 (if m + 1 ≤ 4096 then 0 else 3)) ∧ Rd w' R l (m + 1) ∧ Only R w w' := by
 have HR := hid h
 obtain ⟨_, c1⟩ := h.cells
 clear h
 unfold Rd at HR ⊢
 generalize asS l = L at HR ⊢
 have e1 : ((m + 1 : Nat) : Int) = (m : Int) + 1 := by omega
 rw [e1]
 by_cases hk : m + 1 ≤ 4096
 ·have hk' : ¬ ((4096 : Int) < (m : Int) + 1) := by omega
  rw [if_pos hk]
  clear hk e1
  go_enter Tryz.func139, Tryz.ntmps139
  go_wp2_with (first
   | (refine store_part rfl 3 _ _ rfl R 1 (.int .i64 ((m : Int) + 1)) _ _ #[.string L, .int .i64 ((m : Int) + 1)] rfl rfl info3x (by simp) rfl rfl HR.out rfl ?_)
   | fail)
  intro W1 ho hr
  have c2 : W1.cell? ⟨R, 1, none⟩ = some (.int .i64 ((m : Int) + 1)) := cell_of_row _ _ _ _ _ _ hr
  have HO := hid ho
  have HR1 := hid hr
  clear ho hr
  go_wp2_with fail
  go_ret
  exact ⟨rfl, HR1.out, HO.out⟩
 ·have hk' : ((4096 : Int) < (m : Int) + 1) := by omega
  rw [if_neg hk]
  clear hk e1
  go_enter Tryz.func139, Tryz.ntmps139
  go_wp2_with (first
   | (refine store_part rfl 3 _ _ rfl R 1 (.int .i64 ((m : Int) + 1)) _ _ #[.string L, .int .i64 ((m : Int) + 1)] rfl rfl info3x (by simp) rfl rfl HR.out rfl ?_)
   | fail)
  intro W1 ho hr
  have c2 : W1.cell? ⟨R, 1, none⟩ = some (.int .i64 ((m : Int) + 1)) := cell_of_row _ _ _ _ _ _ hr
  have HO := hid ho
  have HR1 := hid hr
  clear ho hr
  go_wp2_with fail
  go_ret
  exact ⟨rfl, HR1.out, HO.out⟩
theorem unt_index (p : List UInt8) (hp : p ≠ []) : ∀ l : List UInt8, untX p l = if 0 ≤ Lib.index l p then some (l.take (Lib.index l p).toNat, l.drop ((Lib.index l p).toNat + p.length)) else none
 | [] => by
  have : p.isEmpty = false := by cases p <;> simp_all
  simp [untX, Lib.index, this]
 | c :: r => by
  have ih := unt_index p hp r
  rw [untX, Lib.index]
  unfold preX
  by_cases h : p.isPrefixOf (c :: r) = true
  ·rw [if_pos h, if_pos h]
   simp
  ·rw [if_neg h, if_neg h, ih]
   by_cases h2 : Lib.index r p = -1
   ·rw [h2]
    simp
   ·have h3 : 0 ≤ Lib.index r p := by
     have := Lib.index_ge r p
     omega
    have h4 : (if (Lib.index r p == -1) = true then (-1 : Int) else Lib.index r p + 1) = Lib.index r p + 1 := if_neg (by simpa using h2)
    rw [h4, if_pos h3, if_pos (show 0 ≤ Lib.index r p + 1 from by omega)]
    obtain ⟨k, hk⟩ := Int.eq_ofNat_of_zero_le h3
    rw [hk]
    have e : ((k : Int) + 1).toNat = k + 1 := by omega
    rw [e]
    simp only [Option.map_some, Int.toNat_natCast, List.take_succ_cons]
    congr 2
    rw [show k + 1 + p.length = (k + p.length) + 1 from by omega, List.drop_succ_cons]
theorem cut_unt (p l : List UInt8) (hp : p ≠ []) : Lib.cut l p = (match untX p l with
  | some q => (q.1, q.2, true)
  | none => (l, [], false)) := by
 rw [unt_index p hp l]
 unfold Lib.cut
 split <;> rfl
theorem cut13_any (l p : List UInt8) (hl : l.length ≤ 1000000) (w : World) (hT : TabE w) : Calls Tryz.prog 193 #[.string (asS l), .string (asS p)] w fun e w' => e = .returned (.tuple #[.string (asS (Lib.cut l p).1), .string (asS (Lib.cut l p).2.1), .bool (Lib.cut l p).2.2]) ∧ Below w.heap.size w w' := by
 obtain ⟨m, hm⟩ := hT.max
 refine (Tryz.strings_Cut (asS l) (asS p) m w (by rw [asS_size]; omega) hm).mono ?_
 rintro e w' ⟨rfl, n, rfl⟩
 exact ⟨rfl, (Below.refl _ _).trans ⟨rfl, rfl, rfl, Nat.le_refl _, fun _ _ => rfl⟩⟩
theorem upTo_ok (l p a b : List UInt8) (m R : Nat) (hl : l.length ≤ 1000000) (hp : p ≠ []) (hu : untX p l = some (a, b)) (w : World) (hT : TabE w) (h : Rd w R l m) : Calls Tryz.prog 161 #[.pointer (some ⟨R, 0, none⟩), .string (asS p)] w fun e w' => e = .returned (.tuple #[.string (asS a), .int .i64 0]) ∧ Rd w' R b m ∧ w.grownBy w' (some R) := by
 have HC := hid (cut13_any l p hl w hT)
 rw [cut_unt p l hp, hu] at HC
 simp only at HC
 have HR := hid h
 obtain ⟨c0, _⟩ := h.cells
 clear h hu hp hl hT
 unfold Rd at HR ⊢
 generalize asS l = L at HC c0 HR
 generalize asS p = P at HC ⊢
 generalize asS a = A at HC ⊢
 generalize asS b = B at HC ⊢
 go_enter Tryz.func161, Tryz.ntmps161
 go_wp2_with fail
 refine HC.out.mono ?_
 rintro e W ⟨rfl, hb⟩
 have HR2 := hid (row_keep hb HR.out)
 have HB := hid hb
 clear hb
 go_wp2_with (first
  | (refine store_part rfl 9 _ _ rfl R 0 (.string B) _ _ #[.string B, .int .i64 m] rfl rfl info9 (by simp) rfl rfl HR2.out rfl ?_)
  | fail)
 intro W1 ho hr
 have HO := hid ho
 have HR1 := hid hr
 clear ho hr
 go_wp2_with fail
 go_ret2
 exact ⟨rfl, HR1.out, (to_below HB.out).trans (to_only HO.out)⟩
theorem upTo_no (l p : List UInt8) (m R : Nat) (hl : l.length ≤ 1000000) (hp : p ≠ []) (hu : untX p l = none) (w : World) (hT : TabE w) (h : Rd w R l m) : Calls Tryz.prog 161 #[.pointer (some ⟨R, 0, none⟩), .string (asS p)] w fun e w' => e = .returned (.tuple #[.string ⟨#[]⟩, .int .i64 5]) ∧ Rd w' R l m ∧ w.grownBy w' (some R) := by
 have HC := hid (cut13_any l p hl w hT)
 rw [cut_unt p l hp, hu] at HC
 simp only at HC
 have HR := hid h
 obtain ⟨c0, _⟩ := h.cells
 clear h hu hp hl hT
 unfold Rd at HR ⊢
 generalize asS l = L at HC c0 HR ⊢
 generalize asS p = P at HC ⊢
 generalize asS [] = B at HC
 go_enter Tryz.func161, Tryz.ntmps161
 go_wp2_with fail
 refine HC.out.mono ?_
 rintro e W ⟨rfl, hb⟩
 have HR2 := hid (row_keep hb HR.out)
 have HB := hid hb
 clear hb
 go_wp2_with fail
 go_ret2
 exact ⟨rfl, HR2.out, to_below HB.out⟩
theorem wh_trim : ∀ l : List UInt8, (13 : UInt8) ∉ l → Lib.trimLeftS l [32, 9, 10] = l.dropWhile whX
 | [], _ => rfl
 | c :: r, h => by
  have hc : c ≠ 13 := fun e => h (by rw [e]; exact List.mem_cons_self)
  have hr : (13 : UInt8) ∉ r := fun e => h (List.mem_cons_of_mem _ e)
  have hw : ([32, 9, 10] : List UInt8).contains c = whX c := by
   have hn : c.toNat ≠ 13 := fun e => hc (by rw [← UInt8.ofNat_toNat (x := c), e]; rfl)
   unfold whX
   have k : ∀ n : Nat, n < 256 → (c == UInt8.ofNat n) = (c.toNat == n) := fun n hn => by
    rw [Bool.eq_iff_iff, beq_iff_eq, beq_iff_eq]
    constructor
    ·rintro rfl; simp; omega
    ·intro e; rw [← e]; simp
   have k1 := k 32 (by decide)
   have k2 := k 9 (by decide)
   have k3 := k 10 (by decide)
   have k4 : (c.toNat == 13) = false := by rw [beq_eq_false_iff_ne]; exact hn
   rw [k4, ← k1, ← k2, ← k3]
   simp only [List.contains_cons, List.contains_nil, Bool.or_false, Bool.or_assoc]
   rfl
  have ih := wh_trim r hr
  unfold Lib.trimLeftS at ih ⊢
  rw [List.dropWhile_cons, List.dropWhile_cons, hw, ih]
theorem trimW_any (l : List UInt8) (h13 : (13 : UInt8) ∉ l) (w : World) : Calls Tryz.prog 160 #[.string (asS l), .string ⟨#[32, 9, 10]⟩] w fun e w' => e = .returned (.string (asS (l.dropWhile whX))) ∧ Below w.heap.size w w' := by
 refine (Any.strings_TrimLeft_laid Tryz.lays161 (by kernel_rfl) (asS l) ⟨#[32, 9, 10]⟩ w (by decide) (fun j b hb => ?_)).mono ?_
 ·have : b ∈ ([32, 9, 10] : List UInt8) := List.mem_of_getElem? hb
  simp at this
  rcases this with rfl | rfl | rfl <;> decide
 ·rintro e w' ⟨rfl, hb⟩
  refine ⟨?_, hb⟩
  rw [← wh_trim l h13]
  rfl
theorem white_b (l : List UInt8) (m R : Nat) (h13 : (13 : UInt8) ∉ l) (w : World) (h : Rd w R l m) : Calls Tryz.prog 134 #[.pointer (some ⟨R, 0, none⟩)] w fun e w' => e = .returned (.bool (decide ((l.dropWhile whX).length < l.length))) ∧ Rd w' R (l.dropWhile whX) m ∧ w.grownBy w' (some R) := by
 have HC := hid (trimW_any l h13 w)
 have HR := hid h
 obtain ⟨c0, _⟩ := h.cells
 have hz1 : (asS l).size = l.length := asS_size l
 have hz2 : (asS (l.dropWhile whX)).size = (l.dropWhile whX).length := asS_size _
 have hz3 : (l.dropWhile whX).length ≤ l.length := (List.dropWhile_suffix _).length_le
 clear h h13
 unfold Rd at HR ⊢
 generalize asS l = L at HC c0 HR hz1
 generalize asS (l.dropWhile whX) = B at HC hz2 ⊢
 generalize hn : l.length = n at hz1 hz3 ⊢
 generalize hk : (l.dropWhile whX).length = k at hz2 hz3 ⊢
 clear hn hk
 have e1 : decide ((k : Int) < (n : Int)) = decide (k < n) := by simp
 cases hd : decide (k < n) <;> rw [hd] at e1
 all_goals
  go_enter Tryz.func134, Tryz.ntmps134
  go_wp2_with fail
  refine HC.out.mono ?_
  rintro e W ⟨rfl, hb⟩
  have HR2 := hid (row_keep hb HR.out)
  have HB := hid hb
  clear hb
  go_wp2_with (first
   | (refine store_part rfl 9 _ _ rfl R 0 (.string B) _ _ #[.string B, .int .i64 m] rfl rfl info9 (by simp) rfl rfl HR2.out rfl ?_)
   | fail)
  intro W1 ho hr
  have c2 : W1.cell? ⟨R, 0, none⟩ = some (.string B) := cell_of_row _ _ _ _ _ _ hr
  have HO := hid ho
  have HR1 := hid hr
  clear ho hr
  go_wp2_with fail
  go_ret
  exact ⟨by simp_all, HR1.out, (to_below HB.out).trans (to_only HO.out)⟩
theorem white_any (l : List UInt8) (m R : Nat) (h13 : (13 : UInt8) ∉ l) (w : World) (h : Rd w R l m) : Calls Tryz.prog 134 #[.pointer (some ⟨R, 0, none⟩)] w fun e w' => (∃ v, e = .returned v) ∧ Rd w' R (l.dropWhile whX) m ∧ w.grownBy w' (some R) :=
 (white_b l m R h13 w h).mono fun e w' hp => ⟨⟨_, hp.1⟩, hp.2⟩
end Go.Proofs.YtgoiafndapemjaaGreatDoor
namespace Go.Proofs.YtgoiafndapemjaaGreatDoor
open Go.RowKit Go.BigFrame
def goX (c : UInt8) : Bool := (decide (48 ≤ c.toNat) && decide (c.toNat ≤ 57)) || c.toNat == 46 || c.toNat == 45 || c.toNat == 58
theorem lat_or (c : UInt8) : latX c = (letX c || goX c) := by
 unfold latX goX
 simp only [Bool.or_assoc]
theorem begins_any (c : UInt8) (w : World) : Calls Tryz.prog 150 #[.int .u8 c.toNat] w fun e w' => e = .returned (.bool (letX c)) ∧ w' = w := by
 have HV : Hid (letX c = ((decide (97 ≤ c.toNat) && decide (c.toNat ≤ 122)) || (decide (65 ≤ c.toNat) && decide (c.toNat ≤ 90)) || c.toNat == 95)) := rfl
 have hlt := c.toNat_lt
 generalize letX c = V at HV ⊢
 generalize c.toNat = n at HV hlt ⊢
 by_cases k0 : 97 ≤ n ∧ n ≤ 122
 ·have HR : Hid (V = true) := by
   show _ = _
   rw [HV.out]
   simp only [Bool.or_eq_true, Bool.and_eq_true, decide_eq_true_eq, Bool.or_eq_false_iff, Bool.and_eq_false_iff, decide_eq_false_iff_not, beq_iff_eq, beq_eq_false_iff_ne]
   omega
  have f0 : (97 : Int) ≤ (n : Int) := by omega
  have f1 : (n : Int) ≤ (122 : Int) := by omega
  clear k0 hlt HV
  go_enter Tryz.func150, Tryz.ntmps150
  go_wp2_with fail
  go_ret
  exact ⟨by rw [HR.out]; rfl, rfl⟩
 by_cases k1 : 122 < n
 ·have HR : Hid (V = false) := by
   show _ = _
   rw [HV.out]
   simp only [Bool.or_eq_true, Bool.and_eq_true, decide_eq_true_eq, Bool.or_eq_false_iff, Bool.and_eq_false_iff, decide_eq_false_iff_not, beq_iff_eq, beq_eq_false_iff_ne]
   omega
  have f0 : (97 : Int) ≤ (n : Int) := by omega
  have f1 : ¬ (n : Int) ≤ (122 : Int) := by omega
  have f2 : (65 : Int) ≤ (n : Int) := by omega
  have f3 : ¬ (n : Int) ≤ (90 : Int) := by omega
  have f4 : ((n : Int) == 95) = false := by rw [beq_eq_false_iff_ne]; omega
  clear k0 k1 hlt HV
  go_enter Tryz.func150, Tryz.ntmps150
  go_wp2_with fail
  go_ret
  exact ⟨by rw [HR.out]; rfl, rfl⟩
 by_cases k2 : 65 ≤ n ∧ n ≤ 90
 ·have HR : Hid (V = true) := by
   show _ = _
   rw [HV.out]
   simp only [Bool.or_eq_true, Bool.and_eq_true, decide_eq_true_eq, Bool.or_eq_false_iff, Bool.and_eq_false_iff, decide_eq_false_iff_not, beq_iff_eq, beq_eq_false_iff_ne]
   omega
  have f0 : ¬ (97 : Int) ≤ (n : Int) := by omega
  have f1 : (65 : Int) ≤ (n : Int) := by omega
  have f2 : (n : Int) ≤ (90 : Int) := by omega
  clear k0 k1 k2 hlt HV
  go_enter Tryz.func150, Tryz.ntmps150
  go_wp2_with fail
  go_ret
  exact ⟨by rw [HR.out]; rfl, rfl⟩
 by_cases k3 : n < 65
 ·have HR : Hid (V = false) := by
   show _ = _
   rw [HV.out]
   simp only [Bool.or_eq_true, Bool.and_eq_true, decide_eq_true_eq, Bool.or_eq_false_iff, Bool.and_eq_false_iff, decide_eq_false_iff_not, beq_iff_eq, beq_eq_false_iff_ne]
   omega
  have f0 : ¬ (97 : Int) ≤ (n : Int) := by omega
  have f1 : ¬ (65 : Int) ≤ (n : Int) := by omega
  have f2 : ((n : Int) == 95) = false := by rw [beq_eq_false_iff_ne]; omega
  clear k0 k1 k2 k3 hlt HV
  go_enter Tryz.func150, Tryz.ntmps150
  go_wp2_with fail
  go_ret
  exact ⟨by rw [HR.out]; rfl, rfl⟩
 by_cases k4 : n = 95
 ·have HR : Hid (V = true) := by
   show _ = _
   rw [HV.out]
   simp only [Bool.or_eq_true, Bool.and_eq_true, decide_eq_true_eq, Bool.or_eq_false_iff, Bool.and_eq_false_iff, decide_eq_false_iff_not, beq_iff_eq, beq_eq_false_iff_ne]
   omega
  have f0 : ¬ (97 : Int) ≤ (n : Int) := by omega
  have f1 : (65 : Int) ≤ (n : Int) := by omega
  have f2 : ¬ (n : Int) ≤ (90 : Int) := by omega
  have f3 : ((n : Int) == 95) = true := by rw [beq_iff_eq]; omega
  clear k0 k1 k2 k3 k4 hlt HV
  go_enter Tryz.func150, Tryz.ntmps150
  go_wp2_with fail
  go_ret
  exact ⟨by rw [HR.out]; rfl, rfl⟩
 have HR : Hid (V = false) := by
  show _ = _
  rw [HV.out]
  simp only [Bool.or_eq_true, Bool.and_eq_true, decide_eq_true_eq, Bool.or_eq_false_iff, Bool.and_eq_false_iff, decide_eq_false_iff_not, beq_iff_eq, beq_eq_false_iff_ne]
  omega
 have f0 : ¬ (97 : Int) ≤ (n : Int) := by omega
 have f1 : (65 : Int) ≤ (n : Int) := by omega
 have f2 : ¬ (n : Int) ≤ (90 : Int) := by omega
 have f3 : ((n : Int) == 95) = false := by rw [beq_eq_false_iff_ne]; omega
 clear k0 k1 k2 k3 k4 hlt HV
 go_enter Tryz.func150, Tryz.ntmps150
 go_wp2_with fail
 go_ret
 exact ⟨by rw [HR.out]; rfl, rfl⟩
theorem goesOn_any (c : UInt8) (w : World) : Calls Tryz.prog 151 #[.int .u8 c.toNat] w fun e w' => e = .returned (.bool (goX c)) ∧ w' = w := by
 have HV : Hid (goX c = ((decide (48 ≤ c.toNat) && decide (c.toNat ≤ 57)) || c.toNat == 46 || c.toNat == 45 || c.toNat == 58)) := rfl
 have hlt := c.toNat_lt
 generalize goX c = V at HV ⊢
 generalize c.toNat = n at HV hlt ⊢
 by_cases k0 : 48 ≤ n ∧ n ≤ 57
 ·have HR : Hid (V = true) := by
   show _ = _
   rw [HV.out]
   simp only [Bool.or_eq_true, Bool.and_eq_true, decide_eq_true_eq, Bool.or_eq_false_iff, Bool.and_eq_false_iff, decide_eq_false_iff_not, beq_iff_eq, beq_eq_false_iff_ne]
   omega
  have f0 : (48 : Int) ≤ (n : Int) := by omega
  have f1 : (n : Int) ≤ (57 : Int) := by omega
  clear k0 hlt HV
  go_enter Tryz.func151, Tryz.ntmps151
  go_wp2_with fail
  go_ret
  exact ⟨by rw [HR.out]; rfl, rfl⟩
 by_cases k1 : n = 46
 ·have HR : Hid (V = true) := by
   show _ = _
   rw [HV.out]
   simp only [Bool.or_eq_true, Bool.and_eq_true, decide_eq_true_eq, Bool.or_eq_false_iff, Bool.and_eq_false_iff, decide_eq_false_iff_not, beq_iff_eq, beq_eq_false_iff_ne]
   omega
  have f0 : ¬ (48 : Int) ≤ (n : Int) := by omega
  have f1 : ((n : Int) == 46) = true := by rw [beq_iff_eq]; omega
  clear k0 k1 hlt HV
  go_enter Tryz.func151, Tryz.ntmps151
  go_wp2_with fail
  go_ret
  exact ⟨by rw [HR.out]; rfl, rfl⟩
 by_cases k2 : n = 45
 ·have HR : Hid (V = true) := by
   show _ = _
   rw [HV.out]
   simp only [Bool.or_eq_true, Bool.and_eq_true, decide_eq_true_eq, Bool.or_eq_false_iff, Bool.and_eq_false_iff, decide_eq_false_iff_not, beq_iff_eq, beq_eq_false_iff_ne]
   omega
  have f0 : ¬ (48 : Int) ≤ (n : Int) := by omega
  have f1 : ((n : Int) == 46) = false := by rw [beq_eq_false_iff_ne]; omega
  have f2 : ((n : Int) == 45) = true := by rw [beq_iff_eq]; omega
  clear k0 k1 k2 hlt HV
  go_enter Tryz.func151, Tryz.ntmps151
  go_wp2_with fail
  go_ret
  exact ⟨by rw [HR.out]; rfl, rfl⟩
 by_cases k3 : n = 58
 ·have HR : Hid (V = true) := by
   show _ = _
   rw [HV.out]
   simp only [Bool.or_eq_true, Bool.and_eq_true, decide_eq_true_eq, Bool.or_eq_false_iff, Bool.and_eq_false_iff, decide_eq_false_iff_not, beq_iff_eq, beq_eq_false_iff_ne]
   omega
  have f0 : (48 : Int) ≤ (n : Int) := by omega
  have f1 : ¬ (n : Int) ≤ (57 : Int) := by omega
  have f2 : ((n : Int) == 46) = false := by rw [beq_eq_false_iff_ne]; omega
  have f3 : ((n : Int) == 45) = false := by rw [beq_eq_false_iff_ne]; omega
  have f4 : ((n : Int) == 58) = true := by rw [beq_iff_eq]; omega
  clear k0 k1 k2 k3 hlt HV
  go_enter Tryz.func151, Tryz.ntmps151
  go_wp2_with fail
  go_ret
  exact ⟨by rw [HR.out]; rfl, rfl⟩
 by_cases k4 : n < 48
 ·have HR : Hid (V = false) := by
   show _ = _
   rw [HV.out]
   simp only [Bool.or_eq_true, Bool.and_eq_true, decide_eq_true_eq, Bool.or_eq_false_iff, Bool.and_eq_false_iff, decide_eq_false_iff_not, beq_iff_eq, beq_eq_false_iff_ne]
   omega
  have f0 : ¬ (48 : Int) ≤ (n : Int) := by omega
  have f1 : ((n : Int) == 46) = false := by rw [beq_eq_false_iff_ne]; omega
  have f2 : ((n : Int) == 45) = false := by rw [beq_eq_false_iff_ne]; omega
  have f3 : ((n : Int) == 58) = false := by rw [beq_eq_false_iff_ne]; omega
  clear k0 k1 k2 k3 k4 hlt HV
  go_enter Tryz.func151, Tryz.ntmps151
  go_wp2_with fail
  go_ret
  exact ⟨by rw [HR.out]; rfl, rfl⟩
 have HR : Hid (V = false) := by
  show _ = _
  rw [HV.out]
  simp only [Bool.or_eq_true, Bool.and_eq_true, decide_eq_true_eq, Bool.or_eq_false_iff, Bool.and_eq_false_iff, decide_eq_false_iff_not, beq_iff_eq, beq_eq_false_iff_ne]
  omega
 have f0 : (48 : Int) ≤ (n : Int) := by omega
 have f1 : ¬ (n : Int) ≤ (57 : Int) := by omega
 have f2 : ((n : Int) == 46) = false := by rw [beq_eq_false_iff_ne]; omega
 have f3 : ((n : Int) == 45) = false := by rw [beq_eq_false_iff_ne]; omega
 have f4 : ((n : Int) == 58) = false := by rw [beq_eq_false_iff_ne]; omega
 clear k0 k1 k2 k3 k4 hlt HV
 go_enter Tryz.func151, Tryz.ntmps151
 go_wp2_with fail
 go_ret
 exact ⟨by rw [HR.out]; rfl, rfl⟩
theorem tw_step (p : UInt8 → Bool) : ∀ (l : List UInt8) (k : Nat), k ≤ (l.takeWhile p).length → (k < (l.takeWhile p).length ↔ k < l.length ∧ p (l.getD k 0) = true)
 | [], k, h => by simp at h; subst h; simp
 | c :: r, 0, _ => by
  by_cases hc : p c = true <;> simp [List.takeWhile, hc]
 | c :: r, k + 1, h => by
  by_cases hc : p c = true
  ·have e : (c :: r).takeWhile p = c :: r.takeWhile p := by simp [List.takeWhile, hc]
   rw [e] at h ⊢
   have := tw_step p r k (by simpa using h)
   simp only [List.length_cons, Nat.add_lt_add_iff_right, List.getD_cons_succ]
   exact this
  ·have e : (c :: r).takeWhile p = [] := by simp [List.takeWhile, hc]
   rw [e] at h
   simp at h
theorem tw_le (p : UInt8 → Bool) (l : List UInt8) : (l.takeWhile p).length ≤ l.length := by
 have := List.takeWhile_sublist (p := p) (l := l)
 exact this.length_le
theorem tw_take (p : UInt8 → Bool) (l : List UInt8) : l.take (l.takeWhile p).length = l.takeWhile p ∧ l.drop (l.takeWhile p).length = l.dropWhile p := by
 have e := List.takeWhile_append_dropWhile (p := p) (l := l)
 constructor
 ·conv => lhs; arg 2; rw [← e]
  exact List.take_left' rfl
 ·conv => lhs; arg 2; rw [← e]
  exact List.drop_left' rfl
def scanX (l : List UInt8) : Nat := if letX (l.getD 0 0) then (l.takeWhile latX).length else 0
def nszX (l : List UInt8) : Nat := if nameX (l.takeWhile latX) then (l.takeWhile latX).length else 0
theorem let_zero : letX 0 = false := by decide
theorem scan_step (l : List UInt8) (k : Nat) (h : k ≤ scanX l) : k < scanX l ↔ k < l.length ∧ (letX (l.getD k 0) = true ∨ (0 < k ∧ goX (l.getD k 0) = true)) := by
 unfold scanX at h ⊢
 cases hl : letX (l.getD 0 0) with
 | true =>
  rw [hl, if_pos rfl] at h
  rw [if_pos rfl, tw_step latX l k h, lat_or, Bool.or_eq_true]
  constructor
  ·rintro ⟨h1, h2⟩
   refine ⟨h1, ?_⟩
   rcases Nat.eq_zero_or_pos k with rfl | hk
   ·exact .inl hl
   ·rcases h2 with h2 | h2
    ·exact .inl h2
    ·exact .inr ⟨hk, h2⟩
  ·rintro ⟨h1, h2⟩
   refine ⟨h1, ?_⟩
   rcases h2 with h2 | ⟨_, h2⟩
   ·exact .inl h2
   ·exact .inr h2
 | false =>
  rw [hl, if_neg (by simp)] at h
  obtain rfl : k = 0 := by omega
  rw [if_neg (by simp), hl]
  simp
theorem scan_le (l : List UInt8) : scanX l ≤ l.length := by
 unfold scanX
 split
 ·exact tw_le _ _
 ·exact Nat.zero_le _
theorem tw_all (p : UInt8 → Bool) : ∀ l : List UInt8, (l.takeWhile p).all p = true
 | [] => rfl
 | c :: r => by
  by_cases hc : p c = true
  ·simp [List.takeWhile, hc, tw_all p r]
  ·simp [List.takeWhile, hc]
theorem tw_id (p : UInt8 → Bool) : ∀ l : List UInt8, l.all p = true → l.takeWhile p = l
 | [], _ => rfl
 | c :: r, h => by
  simp only [List.all_cons, Bool.and_eq_true] at h
  simp [List.takeWhile, h.1, tw_id p r (by simpa using h.2)]
theorem tw_head (l : List UInt8) (h : letX (l.getD 0 0) = true) : (l.takeWhile latX).getD 0 0 = l.getD 0 0 ∧ 1 ≤ (l.takeWhile latX).length := by
 cases l with
 | nil => simp [let_zero] at h
 | cons c r =>
  have hc : latX c = true := by rw [lat_or]; simp at h; simp [h]
  simp [List.takeWhile, hc]
theorem nsz_scan (l : List UInt8) : nszX l = if 64 < scanX l then 0 else scanX l := by
 unfold nszX scanX nameX
 rw [tw_all]
 cases hl : letX (l.getD 0 0) with
 | true =>
  obtain ⟨h1, h2⟩ := tw_head l hl
  rw [h1, hl, if_pos rfl]
  by_cases h : (l.takeWhile latX).length ≤ 64
  ·rw [if_pos (by simp [h2, h]), if_neg (by omega)]
  ·rw [if_neg (by simp [h]), if_pos (by omega)]
 | false =>
  have : ((decide (1 ≤ (l.takeWhile latX).length) && decide ((l.takeWhile latX).length ≤ 64)) && letX ((l.takeWhile latX).getD 0 0) && true) = false := by
   cases l with
   | nil => rfl
   | cons c r =>
    by_cases hc : latX c = true
    ·have e : ((c :: r).takeWhile latX).getD 0 0 = c := by simp [List.takeWhile, hc]
     rw [e, show letX c = false from hl]
     simp
    ·simp [List.takeWhile, hc]
  rw [this]
  simp
theorem nameSize_any (l : List UInt8) (hl : l.length ≤ 1000000) (w : World) : Calls Tryz.prog 120 #[.string (asS l)] w fun e w' => e = .returned (.int .i64 (nszX l)) ∧ w' = w := by
 have HST := hid (scan_step l)
 have HNS := hid (nsz_scan l)
 have HLE := hid (scan_le l)
 have HB := hid begins_any
 have HG := hid goesOn_any
 have hsz := asS_size l
 have HIX := hid (fun k h W => str_ix (asS l) k h W)
 rw [asS_data] at HIX
 generalize nszX l = Z at HNS ⊢
 generalize hN : l.length = N at hl HST HLE hsz
 generalize scanX l = S at HST HNS HLE
 generalize asS l = L at hsz HIX ⊢
 subst hsz
 clear hN
 go_enter Tryz.func120, Tryz.ntmps120
 go_wp2_with fail
 go_loop [3] (fun i => ∃ k : Nat, k ≤ S ∧ i = .int .i64 (k : Int)) (fun i => S - (intOf i).toNat)
 case atStart => exact ⟨0, Nat.zero_le _, rfl⟩
 case round =>
  obtain ⟨k, hk, rfl⟩ := hrel
  have HK := hid hk
  clear hk
  by_cases hlt : k < S
  ·obtain ⟨hn, hor⟩ := (HST.out k HK.out).1 hlt
   have HLT := hid hlt
   clear hlt
   have hi : (k : Int) < (L.size : Int) := by omega
   have hix := HIX.out k hn
   generalize hx : l.getD k 0 = x at hix hor
   clear hx
   cases hb : letX x with
   | true =>
    clear hor
    go_wp2_with fail
    refine (HB.out x _).mono ?_
    rintro e W ⟨rfl, rfl⟩
    rw [hb]
    clear hb
    go_wp2_with fail
    go_round
    case rel => exact ⟨k + 1, HLT.out, by go_num⟩
    case measure => have := HLT.out; simp [intOf]; omega
   | false =>
    rw [hb] at hor
    obtain ⟨h0, hg⟩ := hor.resolve_left (by simp)
    clear hor
    have h0' : (0 : Int) < (k : Int) := by omega
    go_wp2_with fail
    refine (HB.out x _).mono ?_
    rintro e W ⟨rfl, rfl⟩
    rw [hb]
    clear hb
    go_wp2_with fail
    refine (HG.out x _).mono ?_
    rintro e W ⟨rfl, rfl⟩
    rw [hg]
    clear hg
    go_wp2_with fail
    go_round
    case rel => exact ⟨k + 1, HLT.out, by go_num⟩
    case measure => have := HLT.out; simp [intOf]; omega
  ·have hno := fun hh => hlt ((HST.out k HK.out).2 hh)
   have HS : Hid (k = S) := by show _ = _; have := HK.out; omega
   have HZ : Hid (Z = if 64 < k then 0 else k) := by show _ = _; rw [HNS.out, HS.out]
   clear hlt
   by_cases hn : k < L.size
   ·have hi : (k : Int) < (L.size : Int) := by omega
    have hix := HIX.out k hn
    generalize hx : l.getD k 0 = x at hix hno
    clear hx
    have hb : letX x = false := by
     cases hb : letX x with
     | false => rfl
     | true => exact absurd ⟨hn, .inl hb⟩ hno
    by_cases h0 : 0 < k
    ·have hg : goX x = false := by
      cases hg : goX x with
      | false => rfl
      | true => exact absurd ⟨hn, .inr ⟨h0, hg⟩⟩ hno
     have h0' : (0 : Int) < (k : Int) := by omega
     clear hno
     by_cases h64 : 64 < k
     ·have h64' : (64 : Int) < (k : Int) := by omega
      rw [if_pos h64] at HZ
      go_wp2_with fail
      refine (HB.out x _).mono ?_
      rintro e W ⟨rfl, rfl⟩
      rw [hb]
      clear hb
      go_wp2_with fail
      refine (HG.out x _).mono ?_
      rintro e W ⟨rfl, rfl⟩
      rw [hg]
      clear hg
      go_wp2_with fail
      go_ret
      exact ⟨by rw [HZ.out]; rfl, rfl⟩
     ·have h64' : ¬ (64 : Int) < (k : Int) := by omega
      rw [if_neg h64] at HZ
      go_wp2_with fail
      refine (HB.out x _).mono ?_
      rintro e W ⟨rfl, rfl⟩
      rw [hb]
      clear hb
      go_wp2_with fail
      refine (HG.out x _).mono ?_
      rintro e W ⟨rfl, rfl⟩
      rw [hg]
      clear hg
      go_wp2_with fail
      go_ret
      exact ⟨by rw [HZ.out]; rfl, rfl⟩
    ·obtain rfl : k = 0 := by omega
     rw [if_neg (by omega)] at HZ
     clear hno h0 hi
     have hi : (0 : Int) < (L.size : Int) := by omega
     replace hix : ∀ W, (Instr.index 9 (.string L) (.int .i64 0)).run Tryz.prog W = .ok (.int .u8 x.toNat) W := hix
     go_wp2_with fail
     refine (HB.out x _).mono ?_
     rintro e W ⟨rfl, rfl⟩
     rw [hb]
     clear hb
     go_wp2_with fail
     go_ret
     exact ⟨by rw [HZ.out]; rfl, rfl⟩
   ·have hi : ¬ (k : Int) < (L.size : Int) := by omega
    clear hno
    by_cases h64 : 64 < k
    ·have h64' : (64 : Int) < (k : Int) := by omega
     rw [if_pos h64] at HZ
     go_wp2_with fail
     go_ret
     exact ⟨by rw [HZ.out]; rfl, rfl⟩
    ·have h64' : ¬ (64 : Int) < (k : Int) := by omega
     rw [if_neg h64] at HZ
     go_wp2_with fail
     go_ret
     exact ⟨by rw [HZ.out]; rfl, rfl⟩
theorem nsz_le (l : List UInt8) : nszX l ≤ l.length := by
 unfold nszX
 split
 ·exact tw_le _ _
 ·exact Nat.zero_le _
def nmX (l : List UInt8) : List UInt8 := l.take (nszX l)
def nrX (l : List UInt8) : List UInt8 := l.drop (nszX l)
theorem nm_eq (l : List UInt8) : nmX l = if nameX (l.takeWhile latX) then l.takeWhile latX else [] := by
 unfold nmX nszX
 split
 ·exact (tw_take latX l).1
 ·rfl
theorem nr_eq (l : List UInt8) : nrX l = if nameX (l.takeWhile latX) then l.dropWhile latX else l := by
 unfold nrX nszX
 split
 ·exact (tw_take latX l).2
 ·rfl
theorem str_ne (L : ByteArray) (h : L.size ≠ 0) : (L.toList == []) = false := by
 have := str_same L.data.toList []
 have e : (⟨L.data.toList.toArray⟩ : ByteArray) = L := rfl
 rw [e] at this
 have k : (⟨[].toArray⟩ : ByteArray).toList = [] := by simp
 rw [k] at this
 refine this.trans (decide_eq_false fun hn => h ?_)
 rw [← ba_len, hn]
 rfl
theorem isName_any (l : List UInt8) (hl : l.length ≤ 1000000) (w : World) : Calls Tryz.prog 88 #[.string (asS l)] w fun e w' => e = .returned (.bool (nameX l)) ∧ w' = w := by
 have HN := hid (nameSize_any l hl w)
 have hsz := asS_size l
 have HV : Hid (nameX l = (decide (1 ≤ l.length) && decide (nszX l = l.length))) := by
  show _ = _
  rw [nsz_scan]
  cases hx : nameX l with
  | true =>
   have h1 := name_all hx
   have e : l.takeWhile latX = l := tw_id latX l h1
   obtain ⟨c, r, rfl, hc⟩ := name_head hx
   have hs : scanX (c :: r) = (c :: r).length := by unfold scanX; rw [e]; exact if_pos hc
   have : (c :: r).length ≤ 64 := by
    unfold nameX at hx
    simp only [Bool.and_eq_true, decide_eq_true_eq] at hx
    exact hx.1.1.2
   rw [hs, if_neg (by omega)]
   simp
  | false =>
   symm
   rw [Bool.and_eq_false_iff]
   by_cases h1 : 1 ≤ l.length
   ·refine .inr (decide_eq_false fun he => ?_)
    split at he
    ·omega
    ·rename_i h64
     have hsl : scanX l = l.length := he
     unfold scanX at hsl h64
     split at hsl
     ·rename_i hlet
      rw [if_pos hlet] at h64
      have e : l.takeWhile latX = l := List.takeWhile_prefix (p := latX) |>.eq_of_length hsl
      rw [e] at h64
      have ha := tw_all latX l
      rw [e] at ha
      unfold nameX at hx
      rw [ha, hlet, decide_eq_true h1, decide_eq_true (by omega)] at hx
      simp at hx
     ·omega
   ·exact .inl (decide_eq_false h1)
 generalize nameX l = V at HV ⊢
 generalize nszX l = Z at HN HV
 rw [← hsz] at HV hl
 generalize asS l = L at HN HV hsz hl ⊢
 by_cases h0 : L.size = 0
 ·have HR : Hid (V = false) := by show _ = _; rw [HV.out, h0]; rfl
  have hL : L = ⟨#[]⟩ := by
   cases L with
   | mk d => congr 1; exact Array.eq_empty_of_size_eq_zero h0
  subst hL
  clear h0 hsz HV HN hl
  go_enter Tryz.func88, Tryz.ntmps88
  go_wp2_with fail
  go_ret
  exact ⟨by rw [HR.out]; rfl, rfl⟩
 ·have HR : Hid (V = decide ((Z : Int) = (L.size : Int))) := by
   show _ = _
   rw [HV.out, decide_eq_true (by omega), Bool.true_and]
   by_cases h : Z = L.size
   ·rw [decide_eq_true h, decide_eq_true (by omega)]
   ·rw [decide_eq_false h, decide_eq_false (by omega)]
  have hne := str_ne L h0
  clear h0 hsz HV
  go_enter Tryz.func88, Tryz.ntmps88
  go_wp2_with fail
  refine HN.out.mono ?_
  rintro e W ⟨rfl, rfl⟩
  go_wp2_with fail
  go_ret
  exact ⟨by rw [HR.out]; rfl, rfl⟩
set_option maxRecDepth 100000 in
theorem name_any (l : List UInt8) (m R : Nat) (hl : l.length ≤ 1000000) (w : World) (h : Rd w R l m) : Calls Tryz.prog 138 #[.pointer (some ⟨R, 0, none⟩)] w fun e w' => e = .returned (.string (asS (nmX l))) ∧ Rd w' R (nrX l) m ∧ w.grownBy w' (some R) := by
 have HN := hid (nameSize_any l hl)
 have HC := hid (fun W => clone8 (asS (nmX l)) (by rw [asS_size]; unfold nmX; rw [List.length_take]; omega) W)
 have hz := nsz_le l
 have hsz := asS_size l
 have HR := hid h
 obtain ⟨c0, _⟩ := h.cells
 clear h
 unfold Rd at HR ⊢
 have HS1 : Hid ((asS l).extract 0 (nszX l) = asS (nmX l)) := ext8_to l (nszX l)
 have HS2 : Hid ((asS l).extract (nszX l) (asS l).size = asS (nrX l)) := ext8_from l (nszX l)
 rw [← hsz] at hz hl
 generalize nszX l = Z at HN HS1 HS2 hz
 generalize asS l = L at HN c0 HR HS1 HS2 hz hsz hl
 generalize asS (nmX l) = A at HC HS1 ⊢
 generalize asS (nrX l) = B at HS2 ⊢
 clear hsz
 go_enter Tryz.func138, Tryz.ntmps138
 go_wp2_with fail
 refine (HN.out _).mono ?_
 rintro e W ⟨rfl, rfl⟩
 have hs1 := HS1.out
 have hs2 := HS2.out
 go_wp2_with fail
 refine (HC.out _).mono ?_
 rintro e W1 ⟨rfl, hb⟩
 have HR2 := hid (row_keep hb HR.out)
 have c2 : W1.cell? ⟨R, 0, none⟩ = some (.string L) := cell_of_row _ _ _ _ _ _ HR2.out
 have HB := hid hb
 clear hb
 go_wp2_with (first
  | (refine store_part rfl 9 _ _ rfl R 0 (.string B) _ _ #[.string B, .int .i64 m] rfl rfl info9 (by simp) rfl rfl HR2.out rfl ?_)
  | fail)
 intro W2 ho hr
 have HO := hid ho
 have HR1 := hid hr
 clear ho hr
 go_wp2_with fail
 go_ret
 exact ⟨rfl, HR1.out, (to_below HB.out).trans (to_only HO.out)⟩
end Go.Proofs.YtgoiafndapemjaaGreatDoor
namespace Go.Proofs.YtgoiafndapemjaaGreatDoor
open Go.RowKit Go.BigFrame
theorem atAside_any (l : List UInt8) (m R : Nat) (w : World) (h : Rd w R l m) : Calls Tryz.prog 135 #[.pointer (some ⟨R, 0, none⟩)] w fun e w' => e = .returned (.bool (atAs l)) ∧ w' = w := by
 have H1 : Hid (∀ W, Rd W R l m → Calls Tryz.prog 105 #[.pointer (some ⟨R, 0, none⟩), .string ⟨#[60, 33, 45, 45]⟩] W fun e w' => e = .returned (.bool (preX [60, 33, 45, 45] l)) ∧ w' = W) := fun W hW => at_any l [60, 33, 45, 45] m R W hW
 have H2 : Hid (∀ W, Rd W R l m → Calls Tryz.prog 105 #[.pointer (some ⟨R, 0, none⟩), .string ⟨#[60, 63]⟩] W fun e w' => e = .returned (.bool (preX [60, 63] l)) ∧ w' = W) := fun W hW => at_any l [60, 63] m R W hW
 have HR := hid h
 have HV : Hid (atAs l = (preX [60, 33, 45, 45] l || preX [60, 63] l)) := rfl
 clear h
 generalize atAs l = V at HV ⊢
 generalize preX [60, 33, 45, 45] l = b1 at H1 HV
 generalize preX [60, 63] l = b2 at H2 HV
 cases b1
 ·go_enter Tryz.func135, Tryz.ntmps135
  go_wp2_with fail
  refine (H1.out _ HR.out).mono ?_
  rintro e W ⟨rfl, rfl⟩
  go_wp2_with fail
  refine (H2.out _ HR.out).mono ?_
  rintro e W ⟨rfl, rfl⟩
  go_wp2_with fail
  go_ret
  exact ⟨by rw [HV.out]; simp, rfl⟩
 ·go_enter Tryz.func135, Tryz.ntmps135
  go_wp2_with fail
  refine (H1.out _ HR.out).mono ?_
  rintro e W ⟨rfl, rfl⟩
  go_wp2_with fail
  go_ret
  exact ⟨by rw [HV.out]; simp, rfl⟩
theorem aside_ok (l b : List UInt8) (m R : Nat) (hl : l.length ≤ 1000000) (hR : 7 < R) (ha : asideX l = some b) (w : World) (hT : TabE w) (h : Rd w R l m) : Calls Tryz.prog 136 #[.pointer (some ⟨R, 0, none⟩)] w fun e w' => e = .returned (.int .i64 0) ∧ Rd w' R b m ∧ w.grownBy w' (some R) := by
 have H1 : Hid (Calls Tryz.prog 137 #[.pointer (some ⟨R, 0, none⟩), .string ⟨#[60, 33, 45, 45]⟩] w fun e w' => e = .returned (.bool (preX [60, 33, 45, 45] l)) ∧ Rd w' R (passX [60, 33, 45, 45] l) m ∧ Only R w w') := pass_any l [60, 33, 45, 45] m R w h
 have H2 : Hid (∀ W, Rd W R l m → Calls Tryz.prog 137 #[.pointer (some ⟨R, 0, none⟩), .string ⟨#[60, 63]⟩] W fun e w' => e = .returned (.bool (preX [60, 63] l)) ∧ Rd w' R (passX [60, 63] l) m ∧ Only R W w') := fun W hW => pass_any l [60, 63] m R W hW
 have HT := hid hT
 have HTO : Hid (∀ W, w.grownBy W (some R) → TabE W) := fun W hW => hT.to hW hR
 clear h hT
 unfold asideX at ha
 cases hc : preX [60, 33, 45, 45] l with
 | true =>
  rw [hc, if_pos rfl] at ha
  rw [hc, pass_yes hc] at H1
  obtain ⟨⟨a, b'⟩, hu, hb⟩ := Option.map_eq_some_iff.1 ha
  subst hb
  have H3 : Hid (∀ W, TabE W → Rd W R (l.drop 4) m → Calls Tryz.prog 161 #[.pointer (some ⟨R, 0, none⟩), .string ⟨#[45, 45, 62]⟩] W fun e w' => e = .returned (.tuple #[.string (asS a), .int .i64 0]) ∧ Rd w' R b' m ∧ W.grownBy w' (some R)) := fun W h1 h2 => upTo_ok (l.drop 4) [45, 45, 62] a b' m R (by rw [List.length_drop]; omega) (by simp) hu W h1 h2
  clear ha hu hc H2 hR hl
  generalize asS a = A at H3
  go_enter Tryz.func136, Tryz.ntmps136
  go_wp2_with fail
  refine H1.out.mono ?_
  rintro e W ⟨rfl, hr, ho⟩
  have HR1 := hid hr
  have HO := hid ho
  clear hr ho
  go_wp2_with fail
  refine (H3.out _ (HTO.out _ (to_only HO.out)) HR1.out).mono ?_
  rintro e W1 ⟨rfl, hr, ho⟩
  have HR2 := hid hr
  have HO2 := hid ho
  clear hr ho
  go_wp2_with fail
  go_ret
  exact ⟨rfl, HR2.out, (to_only HO.out).trans HO2.out⟩
 | false =>
  rw [hc, if_neg (by simp)] at ha
  rw [hc, pass_no hc] at H1
  obtain ⟨⟨a, b'⟩, hu, hb⟩ := Option.map_eq_some_iff.1 ha
  subst hb
  have hll := (pass_suf [60, 63] l).length_le
  have H3 : Hid (∀ W, TabE W → Rd W R (passX [60, 63] l) m → Calls Tryz.prog 161 #[.pointer (some ⟨R, 0, none⟩), .string ⟨#[63, 62]⟩] W fun e w' => e = .returned (.tuple #[.string (asS a), .int .i64 0]) ∧ Rd w' R b' m ∧ W.grownBy w' (some R)) := fun W h1 h2 => upTo_ok (passX [60, 63] l) [63, 62] a b' m R (by omega) (by simp) hu W h1 h2
  clear ha hu hc hR hl hll
  generalize asS a = A at H3
  generalize passX [60, 63] l = l2 at H2 H3
  generalize preX [60, 63] l = b2 at H2
  go_enter Tryz.func136, Tryz.ntmps136
  go_wp2_with fail
  refine H1.out.mono ?_
  rintro e W ⟨rfl, hr, ho⟩
  have HR1 := hid hr
  have HO := hid (to_only ho)
  clear hr ho
  go_wp2_with fail
  refine (H2.out _ HR1.out).mono ?_
  rintro e W1 ⟨rfl, hr, ho⟩
  have HR2 := hid hr
  have HO2 := hid (HO.out.trans (to_only ho))
  clear hr ho
  go_wp2_with fail
  refine (H3.out _ (HTO.out _ HO2.out) HR2.out).mono ?_
  rintro e W2 ⟨rfl, hr, ho⟩
  have HR3 := hid hr
  have HO3 := hid ho
  clear hr ho
  go_wp2_with fail
  go_ret
  exact ⟨rfl, HR3.out, HO2.out.trans HO3.out⟩
theorem aside_no (l : List UInt8) (m R : Nat) (hl : l.length ≤ 1000000) (hR : 7 < R) (ha : asideX l = none) (w : World) (hT : TabE w) (h : Rd w R l m) : Calls Tryz.prog 136 #[.pointer (some ⟨R, 0, none⟩)] w fun e w' => e = .returned (.int .i64 5) ∧ w.grownBy w' (some R) := by
 have H1 : Hid (Calls Tryz.prog 137 #[.pointer (some ⟨R, 0, none⟩), .string ⟨#[60, 33, 45, 45]⟩] w fun e w' => e = .returned (.bool (preX [60, 33, 45, 45] l)) ∧ Rd w' R (passX [60, 33, 45, 45] l) m ∧ Only R w w') := pass_any l [60, 33, 45, 45] m R w h
 have H2 : Hid (∀ W, Rd W R l m → Calls Tryz.prog 137 #[.pointer (some ⟨R, 0, none⟩), .string ⟨#[60, 63]⟩] W fun e w' => e = .returned (.bool (preX [60, 63] l)) ∧ Rd w' R (passX [60, 63] l) m ∧ Only R W w') := fun W hW => pass_any l [60, 63] m R W hW
 have HTO : Hid (∀ W, w.grownBy W (some R) → TabE W) := fun W hW => hT.to hW hR
 clear h hT
 unfold asideX at ha
 cases hc : preX [60, 33, 45, 45] l with
 | true =>
  rw [hc, if_pos rfl, Option.map_eq_none_iff] at ha
  rw [hc, pass_yes hc] at H1
  have H3 : Hid (∀ W, TabE W → Rd W R (l.drop 4) m → Calls Tryz.prog 161 #[.pointer (some ⟨R, 0, none⟩), .string ⟨#[45, 45, 62]⟩] W fun e w' => e = .returned (.tuple #[.string ⟨#[]⟩, .int .i64 5]) ∧ Rd w' R (l.drop 4) m ∧ W.grownBy w' (some R)) := fun W h1 h2 => upTo_no (l.drop 4) [45, 45, 62] m R (by rw [List.length_drop]; omega) (by simp) ha W h1 h2
  clear ha hc H2 hR hl
  go_enter Tryz.func136, Tryz.ntmps136
  go_wp2_with fail
  refine H1.out.mono ?_
  rintro e W ⟨rfl, hr, ho⟩
  have HR1 := hid hr
  have HO := hid (to_only ho)
  clear hr ho
  go_wp2_with fail
  refine (H3.out _ (HTO.out _ HO.out) HR1.out).mono ?_
  rintro e W1 ⟨rfl, hr, ho⟩
  have HO2 := hid ho
  clear hr ho
  go_wp2_with fail
  go_ret
  exact ⟨rfl, HO.out.trans HO2.out⟩
 | false =>
  rw [hc, if_neg (by simp), Option.map_eq_none_iff] at ha
  rw [hc, pass_no hc] at H1
  have hll := (pass_suf [60, 63] l).length_le
  have H3 : Hid (∀ W, TabE W → Rd W R (passX [60, 63] l) m → Calls Tryz.prog 161 #[.pointer (some ⟨R, 0, none⟩), .string ⟨#[63, 62]⟩] W fun e w' => e = .returned (.tuple #[.string ⟨#[]⟩, .int .i64 5]) ∧ Rd w' R (passX [60, 63] l) m ∧ W.grownBy w' (some R)) := fun W h1 h2 => upTo_no (passX [60, 63] l) [63, 62] m R (by omega) (by simp) ha W h1 h2
  clear ha hc hR hl hll
  generalize passX [60, 63] l = l2 at H2 H3
  generalize preX [60, 63] l = b2 at H2
  go_enter Tryz.func136, Tryz.ntmps136
  go_wp2_with fail
  refine H1.out.mono ?_
  rintro e W ⟨rfl, hr, ho⟩
  have HR1 := hid hr
  have HO := hid (to_only ho)
  clear hr ho
  go_wp2_with fail
  refine (H2.out _ HR1.out).mono ?_
  rintro e W1 ⟨rfl, hr, ho⟩
  have HR2 := hid hr
  have HO2 := hid (HO.out.trans (to_only ho))
  clear hr ho
  go_wp2_with fail
  refine (H3.out _ (HTO.out _ HO2.out) HR2.out).mono ?_
  rintro e W2 ⟨rfl, hr, ho⟩
  have HO3 := hid ho
  clear hr ho
  go_wp2_with fail
  go_ret
  exact ⟨rfl, HO2.out.trans HO3.out⟩
def rdLen (R : Nat) (w : World) : Nat := match w.cell? ⟨R, 0, none⟩ with
 | some (.string s) => s.size
 | _ => 0
theorem rdLen_eq {w : World} {R : Nat} {l : List UInt8} {m : Nat} (h : Rd w R l m) : rdLen R w = l.length := by
 unfold rdLen
 rw [h.cells.1]
 exact asS_size l
theorem asides_any (l : List UInt8) (m R : Nat) (hl : l.length ≤ 1000000) (h13 : (13 : UInt8) ∉ l) (hR : 7 < R) (w : World) (hT : TabE w) (h : Rd w R l m) : Calls Tryz.prog 104 #[.pointer (some ⟨R, 0, none⟩)] w fun e w' => w.grownBy w' (some R) ∧ ((∃ l2, asW true l = .ok l2 ∧ e = .returned (.int .i64 0) ∧ Rd w' R l2 m) ∨ (asW true l = .error 5 ∧ e = .returned (.int .i64 5))) := by
 have H1 := hid (white_any l m R h13 w h)
 have HW := hid (fun (b : List UInt8) (h13 : (13 : UInt8) ∉ b) W hW => white_any b m R h13 W hW)
 have HA := hid (fun (b : List UInt8) W hW => atAside_any b m R W hW)
 have HOK := hid (fun (b c : List UInt8) (hb : b.length ≤ 1000000) (hc : asideX b = some c) W hT hW => aside_ok b c m R hb hR hc W hT hW)
 have HNO := hid (fun (b : List UInt8) (hb : b.length ≤ 1000000) (hc : asideX b = none) W hT hW => aside_no b m R hb hR hc W hT hW)
 have HTO : Hid (∀ W, w.grownBy W (some R) → TabE W) := fun W hW => hT.to hW hR
 have HL := hid hl
 have H13 := hid h13
 have HX := hid (asW_white l)
 clear h hT hl h13 hR
 generalize hV : asW true l = V at HX ⊢
 clear hV
 go_enter Tryz.func104, Tryz.ntmps104
 go_wp2_with fail
 refine H1.out.mono ?_
 rintro e W0 ⟨⟨v0, rfl⟩, hr, ho⟩
 have HR0 := hid hr
 have HO0 := hid ho
 clear hr ho
 go_wp2_with fail
 go_loopw [] (fun wr => ∃ b, Hid (b <:+ l) ∧ Hid (hdW b = false) ∧ Hid (asW true b = V) ∧ Hid (Rd wr R b m) ∧ Hid (w.grownBy wr (some R))) (fun wr => rdLen R wr)
 case atStart => exact ⟨l.dropWhile whX, dw_suf _ _, dw_hd l, HX.out, HR0.out, HO0.out⟩
 case round =>
  obtain ⟨b, HS, HH, HV, HRB, HOB⟩ := hrel
  go_wp2_with fail
  refine (HA.out b _ HRB.out).mono ?_
  rintro e W ⟨rfl, rfl⟩
  have hbl : b.length ≤ 1000000 := Nat.le_trans HS.out.length_le HL.out
  cases hat : atAs b with
  | false =>
   have HR : Hid (V = .ok b) := by
    show _ = _
    rw [← HV.out]
    obtain ⟨k0, k1⟩ := as_pre hat
    exact asW_ok true k0 k1 HH.out
   clear hat
   go_wp2_with fail
   go_ret
   exact ⟨HOB.out, .inl ⟨b, HR.out, rfl, HRB.out⟩⟩
  | true =>
   have hstep := asW_at true hat
   clear hat
   cases has : asideX b with
   | none =>
    rw [has] at hstep
    have HR : Hid (V = .error 5) := by show _ = _; rw [← HV.out, hstep]
    have HN := hid (HNO.out b hbl has _ (HTO.out _ HOB.out) HRB.out)
    clear has hstep hbl
    go_wp2_with fail
    refine HN.out.mono ?_
    rintro e W2 ⟨rfl, ho⟩
    have HO2 := hid ho
    clear ho
    go_wp2_with fail
    go_ret
    exact ⟨HOB.out.trans HO2.out, .inr ⟨HR.out, rfl⟩⟩
   | some c =>
    rw [has] at hstep
    have hsh := aside_sh has
    have HC := hid (HOK.out b c hbl has _ (HTO.out _ HOB.out) HRB.out)
    have H13c : (13 : UInt8) ∉ c := fun hm => H13.out ((hsh.1.trans HS.out).subset hm)
    have HWC := hid (HW.out c H13c)
    have HSTEP : Hid (asW true c = V) := by show _ = _; rw [← HV.out, hstep]
    have HSH := hid hsh
    clear has hstep hbl hsh H13c
    go_wp2_with fail
    refine HC.out.mono ?_
    rintro e W2 ⟨rfl, hr, ho⟩
    have HR2 := hid hr
    have HO2 := hid (HOB.out.trans ho)
    clear hr ho
    go_wp2_with fail
    refine (HWC.out _ HR2.out).mono ?_
    rintro e W3 ⟨⟨v3, rfl⟩, hr, ho⟩
    have HR3 := hid hr
    have HO3 := hid (HO2.out.trans ho)
    clear hr ho
    go_wp2_with fail
    go_roundw
    case rel => exact ⟨c.dropWhile whX, (dw_suf _ _).trans (HSH.out.1.trans HS.out), dw_hd c, (asW_white c).trans HSTEP.out, HR3.out, HO3.out⟩
    case measure =>
     rw [rdLen_eq HR3.out, rdLen_eq HRB.out]
     have := (dw_suf whX c).length_le
     have := HSH.out.2
     omega
def endX (n l : List UInt8) : Option (List UInt8) :=
 if preX [60, 47] l && decide (nmX (l.drop 2) = n) then (if preX [62] ((nrX (l.drop 2)).dropWhile whX) then some (((nrX (l.drop 2)).dropWhile whX).drop 1) else none) else none
theorem end_cl (n l : List UInt8) (hn : nameX n = true) (hp : preX [60, 47] l = true) : endX n l = clX n l := by
 unfold endX clX
 rw [hp, Bool.true_and]
 rw [nm_eq, nr_eq]
 cases hx : nameX ((l.drop 2).takeWhile latX) with
 | true =>
  rw [if_pos rfl, if_pos rfl]
  by_cases he : (l.drop 2).takeWhile latX = n
  ·rw [if_pos he, if_pos (by simpa using he)]
   cases hd : (((l.drop 2).dropWhile latX).dropWhile whX) with
   | nil => simp [preX]
   | cons c r =>
    by_cases hc : c = 62
    ·subst hc; simp [preX]
    ·have : preX [62] (c :: r) = false := by simp [preX, List.isPrefixOf, Ne.symm hc]
     rw [this, if_neg (by simp)]
     split
     ·rename_i e; injection e with e; exact absurd e hc
     ·rfl
  ·rw [if_neg he, if_neg (by simpa using he)]
 | false =>
  simp only [Bool.false_eq_true, if_false]
  have h1 : ¬ ((l.drop 2).takeWhile latX = n) := fun e => by rw [e, hn] at hx; cases hx
  have h2 : ¬ (([] : List UInt8) = n) := fun e => name_ne hn e.symm
  rw [if_neg h1, decide_eq_false h2, if_neg (by simp)]
theorem end_any (n l : List UInt8) (m R : Nat) (hl : l.length ≤ 1000000) (h13 : (13 : UInt8) ∉ l) (hp : preX [60, 47] l = true) (w : World) (h : Rd w R l m) : Calls Tryz.prog 142 #[.pointer (some ⟨R, 0, none⟩), .string (asS n)] w fun e w' => w.grownBy w' (some R) ∧ ((∃ r, endX n l = some r ∧ e = .returned (.int .i64 0) ∧ Rd w' R r m) ∨ (endX n l = none ∧ e = .returned (.int .i64 5))) := by
 have H1 : Hid (Calls Tryz.prog 137 #[.pointer (some ⟨R, 0, none⟩), .string ⟨#[60, 47]⟩] w fun e w' => e = .returned (.bool (preX [60, 47] l)) ∧ Rd w' R (passX [60, 47] l) m ∧ Only R w w') := pass_any l [60, 47] m R w h
 rw [hp, pass_yes hp] at H1
 have hsuf : l.drop 2 <:+ l := List.drop_suffix _ _
 have H2 : Hid (∀ W, Rd W R (l.drop 2) m → Calls Tryz.prog 138 #[.pointer (some ⟨R, 0, none⟩)] W fun e w' => e = .returned (.string (asS (nmX (l.drop 2)))) ∧ Rd w' R (nrX (l.drop 2)) m ∧ W.grownBy w' (some R)) := fun W hW => name_any (l.drop 2) m R (by rw [List.length_drop]; omega) W hW
 have hn13 : (13 : UInt8) ∉ nrX (l.drop 2) := fun hm => h13 (hsuf.subset ((List.drop_suffix _ _).subset hm))
 have H3 : Hid (∀ W, Rd W R (nrX (l.drop 2)) m → Calls Tryz.prog 134 #[.pointer (some ⟨R, 0, none⟩)] W fun e w' => (∃ v, e = .returned v) ∧ Rd w' R ((nrX (l.drop 2)).dropWhile whX) m ∧ W.grownBy w' (some R)) := fun W hW => white_any _ m R hn13 W hW
 have H4 : Hid (∀ W, Rd W R ((nrX (l.drop 2)).dropWhile whX) m → Calls Tryz.prog 137 #[.pointer (some ⟨R, 0, none⟩), .string ⟨#[62]⟩] W fun e w' => e = .returned (.bool (preX [62] ((nrX (l.drop 2)).dropWhile whX))) ∧ Rd w' R (passX [62] ((nrX (l.drop 2)).dropWhile whX)) m ∧ Only R W w') := fun W hW => pass_any _ [62] m R W hW
 have HE : Hid (endX n l = if decide (nmX (l.drop 2) = n) then (if preX [62] ((nrX (l.drop 2)).dropWhile whX) then some (((nrX (l.drop 2)).dropWhile whX).drop 1) else none) else none) := by
  show _ = _
  unfold endX
  rw [hp, Bool.true_and]
 have hq : ((asS (nmX (l.drop 2))).toList == (asS n).toList) = decide (nmX (l.drop 2) = n) := tl_two _ _
 clear h hl h13 hp hsuf hn13
 generalize endX n l = V at HE ⊢
 generalize hd : decide (nmX (l.drop 2) = n) = dq at hq HE
 clear hd
 generalize asS n = N at hq ⊢
 generalize asS (nmX (l.drop 2)) = NM at hq H2
 generalize nrX (l.drop 2) = l2 at H2 H3 H4 HE
 generalize l.drop 2 = l1 at H1 H2
 generalize l2.dropWhile whX = l3 at H3 H4 HE
 cases dq
 ·have hq' : (NM.toList != N.toList) = true := by rw [bne, hq]; rfl
  go_enter Tryz.func142, Tryz.ntmps142
  go_wp2_with fail
  refine H1.out.mono ?_
  rintro e W1 ⟨rfl, hr, ho⟩
  have HR1 := hid hr
  have HO1 := hid (to_only ho)
  clear hr ho
  go_wp2_with fail
  refine (H2.out _ HR1.out).mono ?_
  rintro e W2 ⟨rfl, hr, ho⟩
  have HO2 := hid (HO1.out.trans ho)
  clear hr ho
  go_wp2_with fail
  go_ret
  exact ⟨HO2.out, .inr ⟨by rw [HE.out]; rfl, rfl⟩⟩
 ·have hq' : (NM.toList != N.toList) = false := by rw [bne, hq]; rfl
  cases hb : preX [62] l3 with
  | true =>
   rw [hb, pass_yes hb] at H4
   rw [hb] at HE
   clear hb
   go_enter Tryz.func142, Tryz.ntmps142
   go_wp2_with fail
   refine H1.out.mono ?_
   rintro e W1 ⟨rfl, hr, ho⟩
   have HR1 := hid hr
   have HO1 := hid (to_only ho)
   clear hr ho
   go_wp2_with fail
   refine (H2.out _ HR1.out).mono ?_
   rintro e W2 ⟨rfl, hr, ho⟩
   have HR2 := hid hr
   have HO2 := hid (HO1.out.trans ho)
   clear hr ho
   go_wp2_with fail
   refine (H3.out _ HR2.out).mono ?_
   rintro e W3 ⟨⟨v3, rfl⟩, hr, ho⟩
   have HR3 := hid hr
   have HO3 := hid (HO2.out.trans ho)
   clear hr ho
   go_wp2_with fail
   refine (H4.out _ HR3.out).mono ?_
   rintro e W4 ⟨rfl, hr, ho⟩
   have HR4 := hid hr
   have HO4 := hid (HO3.out.trans (to_only ho))
   clear hr ho
   go_wp2_with fail
   go_ret
   exact ⟨HO4.out, .inl ⟨_, by rw [HE.out]; rfl, rfl, HR4.out⟩⟩
  | false =>
   rw [hb] at H4
   rw [hb] at HE
   clear hb
   go_enter Tryz.func142, Tryz.ntmps142
   go_wp2_with fail
   refine H1.out.mono ?_
   rintro e W1 ⟨rfl, hr, ho⟩
   have HR1 := hid hr
   have HO1 := hid (to_only ho)
   clear hr ho
   go_wp2_with fail
   refine (H2.out _ HR1.out).mono ?_
   rintro e W2 ⟨rfl, hr, ho⟩
   have HR2 := hid hr
   have HO2 := hid (HO1.out.trans ho)
   clear hr ho
   go_wp2_with fail
   refine (H3.out _ HR2.out).mono ?_
   rintro e W3 ⟨⟨v3, rfl⟩, hr, ho⟩
   have HR3 := hid hr
   have HO3 := hid (HO2.out.trans ho)
   clear hr ho
   go_wp2_with fail
   refine (H4.out _ HR3.out).mono ?_
   rintro e W4 ⟨rfl, hr, ho⟩
   have HO4 := hid (HO3.out.trans (to_only ho))
   clear hr ho
   go_wp2_with fail
   go_ret
   exact ⟨HO4.out, .inr ⟨by rw [HE.out]; rfl, rfl⟩⟩
end Go.Proofs.YtgoiafndapemjaaGreatDoor
namespace Go.Proofs.YtgoiafndapemjaaGreatDoor
open Go.RowKit Go.BigFrame
def vaX (l : List UInt8) : Option (List UInt8 × List UInt8) :=
 match l.dropWhile whX with
 | 61 :: r => (match r.dropWhile whX with
  | q :: r2 => if q = 34 ∨ q = 39 then (match untX [q] r2 with
   | none => none
   | some p => if p.1.contains 60 then none else (valX p.1).map fun v => (v, p.2)) else none
  | [] => none)
 | _ => none
theorem att_va (al : List HdV) (l : List UInt8) (m : Nat) : attX al l m = if !nameX (l.takeWhile latX) then .error 5 else (match vaX (l.dropWhile latX) with
  | none => .error 5
  | some (v, r) => if (al.map (·.name)).contains (l.takeWhile latX) then .error 5 else if m + 1 ≤ 4096 then .ok (⟨l.takeWhile latX, v⟩, r, m + 1) else .error 3) := by
 unfold attX vaX
 cases hn : nameX (l.takeWhile latX) with
 | false => rfl
 | true =>
  simp only [Bool.not_true, Bool.false_eq_true, if_false]
  cases h1 : (l.dropWhile latX).dropWhile whX with
  | nil => rfl
  | cons c r =>
   by_cases hc : c = 61
   ·subst hc
    simp only
    cases h2 : r.dropWhile whX with
    | nil => rfl
    | cons q r2 =>
     simp only
     by_cases hq : q = 34 ∨ q = 39
     ·rw [if_pos hq, if_pos hq]
      cases h3 : untX [q] r2 with
      | none => rfl
      | some p =>
       simp only
       cases h4 : p.1.contains 60 with
       | true => rfl
       | false =>
        simp only [Bool.false_eq_true, if_false]
        cases h5 : valX p.1 with
        | none => rfl
        | some v => rfl
     ·rw [if_neg hq, if_neg hq]
   ·split
    ·rename_i e; injection e with e; exact absurd e hc
    ·split
     ·rename_i e; split at e
      ·rename_i e2; injection e2 with e2; exact absurd e2 hc
      ·rfl
     ·rename_i e; split at e
      ·rename_i e2; injection e2 with e2; exact absurd e2 hc
      ·cases e
theorem has_byte (c : UInt8) : ∀ l : List UInt8, decide (0 ≤ Lib.indexByte l c) = l.contains c
 | [] => rfl
 | b :: l => by
  have ih := has_byte c l
  have hge := Lib.indexByte_ge l c
  rw [Lib.indexByte, List.contains_cons, Bool.beq_comm (a := c)]
  by_cases hb : (b == c) = true
  ·rw [if_pos hb, hb]; rfl
  ·rw [if_neg hb]
   simp only [Bool.not_eq_true] at hb
   rw [hb, Bool.false_or, ← ih]
   by_cases h2 : Lib.indexByte l c = -1
   ·rw [h2]; rfl
   ·rw [if_neg (by simpa using h2)]
    congr 1
    exact propext ⟨fun h => by omega, fun h => by omega⟩
theorem contains13 (l : List UInt8) (w : World) : Calls Tryz.prog 195 #[.string (asS l), .string ⟨#[60]⟩] w fun e w' => e = .returned (.bool (l.contains 60)) ∧ w' = w := by
 have := Tryz.strings_Contains_one (asS l) 60 w
 rw [asS_data, has_byte] at this
 exact this
theorem va_none {l : List UInt8} (h : preX [61] (l.dropWhile whX) = false) : vaX l = none := by
 unfold vaX
 split
 ·rename_i r e
  rw [e] at h
  simp [preX] at h
 ·rfl
theorem va_eq {l r : List UInt8} (h : l.dropWhile whX = 61 :: r) : vaX l = (match r.dropWhile whX with
  | q :: r2 => if q = 34 ∨ q = 39 then (match untX [q] r2 with
   | none => none
   | some p => if p.1.contains 60 then none else (valX p.1).map fun v => (v, p.2)) else none
  | [] => none) := by
 unfold vaX
 rw [h]
 rfl
theorem pre_one {c : UInt8} {l : List UInt8} (h : preX [c] l = true) : ∃ r, l = c :: r := by
 obtain ⟨r, e, _⟩ := pre_cons h
 exact ⟨r, e⟩
theorem not_pre {c : UInt8} {l : List UInt8} (h : preX [c] l = false) : ∀ r, l ≠ c :: r := fun r e => by rw [e] at h; simp [preX] at h
theorem value_a (l : List UInt8) (m R : Nat) (hl : l.length ≤ 100000) (h13 : (13 : UInt8) ∉ l) (hR : 7 < R) (ha : preX [61] (l.dropWhile whX) = false) (w : World) (hT : TabE w) (h : Rd w R l m) : Calls Tryz.prog 163 #[.pointer (some ⟨R, 0, none⟩)] w fun e w' => (∃ s, e = .returned (.tuple #[.string s, .int .i64 5])) ∧ w.grownBy w' (some R) := by
 have HTO : Hid (∀ W, w.grownBy W (some R) → TabE W) := fun W hW => hT.to hW hR
 have HR0 := hid h
 have HO0 := hid (to_refl R w)
 have H1 := hid (fun W hW => white_any l m R h13 W hW)
 have s1 : l.dropWhile whX <:+ l := dw_suf _ _
 have H2 : Hid (∀ W, Rd W R (l.dropWhile whX) m → Calls Tryz.prog 137 #[.pointer (some ⟨R, 0, none⟩), .string ⟨#[61]⟩] W fun e w' => e = .returned (.bool (preX [61] (l.dropWhile whX))) ∧ Rd w' R (passX [61] (l.dropWhile whX)) m ∧ Only R W w') := fun W hW => pass_any _ [61] m R W hW
 rw [ha] at H2
 clear hT h hl h13 hR s1 ha
 go_enter Tryz.func163, Tryz.ntmps163
 go_wp2_with fail
 refine (H1.out _ HR0.out).mono ?_
 rintro e W1 ⟨⟨v1, rfl⟩, hr, ho⟩
 have HR1 := hid hr
 have HO1 := hid (HO0.out.trans ho)
 clear hr ho
 go_wp2_with fail
 refine (H2.out _ HR1.out).mono ?_
 rintro e W2 ⟨rfl, hr, ho⟩
 have HR2 := hid hr
 have HO2 := hid (HO1.out.trans (to_only ho))
 clear hr ho
 go_wp2_with fail
 go_ret2
 exact ⟨⟨_, rfl⟩, HO2.out⟩
theorem value_b (l : List UInt8) (m R : Nat) (hl : l.length ≤ 100000) (h13 : (13 : UInt8) ∉ l) (hR : 7 < R) (r1 : List UInt8) (hr : l.dropWhile whX = 61 :: r1) (h34 : preX [34] (r1.dropWhile whX) = false) (h39 : preX [39] (r1.dropWhile whX) = false) (w : World) (hT : TabE w) (h : Rd w R l m) : Calls Tryz.prog 163 #[.pointer (some ⟨R, 0, none⟩)] w fun e w' => (∃ s, e = .returned (.tuple #[.string s, .int .i64 5])) ∧ w.grownBy w' (some R) := by
 have HTO : Hid (∀ W, w.grownBy W (some R) → TabE W) := fun W hW => hT.to hW hR
 have HR0 := hid h
 have HO0 := hid (to_refl R w)
 have H1 := hid (fun W hW => white_any l m R h13 W hW)
 have s1 : l.dropWhile whX <:+ l := dw_suf _ _
 have H2 : Hid (∀ W, Rd W R (l.dropWhile whX) m → Calls Tryz.prog 137 #[.pointer (some ⟨R, 0, none⟩), .string ⟨#[61]⟩] W fun e w' => e = .returned (.bool (preX [61] (l.dropWhile whX))) ∧ Rd w' R (passX [61] (l.dropWhile whX)) m ∧ Only R W w') := fun W hW => pass_any _ [61] m R W hW
 rw [hr] at H1 H2 s1
 have hp : preX [61] (61 :: r1) = true := by simp [preX]
 have hp2 : passX [61] (61 :: r1) = r1 := by rw [pass_yes hp]; rfl
 rw [hp, hp2] at H2
 have s2 : r1 <:+ l := (List.suffix_cons 61 r1).trans s1
 have H3 := hid (fun W hW => white_any r1 m R (fun hm => h13 (s2.subset hm)) W hW)
 have s3 : r1.dropWhile whX <:+ l := (dw_suf _ _).trans s2
 have H4 : Hid (∀ W, Rd W R (r1.dropWhile whX) m → Calls Tryz.prog 137 #[.pointer (some ⟨R, 0, none⟩), .string ⟨#[34]⟩] W fun e w' => e = .returned (.bool (preX [34] (r1.dropWhile whX))) ∧ Rd w' R (passX [34] (r1.dropWhile whX)) m ∧ Only R W w') := fun W hW => pass_any _ [34] m R W hW
 have H5 : Hid (∀ W, Rd W R (r1.dropWhile whX) m → Calls Tryz.prog 137 #[.pointer (some ⟨R, 0, none⟩), .string ⟨#[39]⟩] W fun e w' => e = .returned (.bool (preX [39] (r1.dropWhile whX))) ∧ Rd w' R (passX [39] (r1.dropWhile whX)) m ∧ Only R W w') := fun W hW => pass_any _ [39] m R W hW
 rw [h34, pass_no h34] at H4
 rw [h39, pass_no h39] at H5
 clear hT h hl h13 hR s1 s2 s3 hp hp2 hr h34 h39
 go_enter Tryz.func163, Tryz.ntmps163
 go_wp2_with fail
 refine (H1.out _ HR0.out).mono ?_
 rintro e W1 ⟨⟨v1, rfl⟩, hr, ho⟩
 have HR1 := hid hr
 have HO1 := hid (HO0.out.trans ho)
 clear hr ho
 go_wp2_with fail
 refine (H2.out _ HR1.out).mono ?_
 rintro e W2 ⟨rfl, hr, ho⟩
 have HR2 := hid hr
 have HO2 := hid (HO1.out.trans (to_only ho))
 clear hr ho
 go_wp2_with fail
 refine (H3.out _ HR2.out).mono ?_
 rintro e W3 ⟨⟨v3, rfl⟩, hr, ho⟩
 have HR3 := hid hr
 have HO3 := hid (HO2.out.trans ho)
 clear hr ho
 go_wp2_with fail
 refine (H4.out _ HR3.out).mono ?_
 rintro e W4 ⟨rfl, hr, ho⟩
 have HR4 := hid hr
 have HO4 := hid (HO3.out.trans (to_only ho))
 clear hr ho
 go_wp2_with fail
 refine (H5.out _ HR4.out).mono ?_
 rintro e W5 ⟨rfl, hr, ho⟩
 have HR5 := hid hr
 have HO5 := hid (HO4.out.trans (to_only ho))
 clear hr ho
 go_wp2_with fail
 go_ret2
 exact ⟨⟨_, rfl⟩, HO5.out⟩
theorem value_cd (l : List UInt8) (m R : Nat) (hl : l.length ≤ 100000) (h13 : (13 : UInt8) ∉ l) (hR : 7 < R) (r1 r2 : List UInt8) (hr : l.dropWhile whX = 61 :: r1) (hq : r1.dropWhile whX = 34 :: r2) (hu : untX [34] r2 = none) (w : World) (hT : TabE w) (h : Rd w R l m) : Calls Tryz.prog 163 #[.pointer (some ⟨R, 0, none⟩)] w fun e w' => (∃ s, e = .returned (.tuple #[.string s, .int .i64 5])) ∧ w.grownBy w' (some R) := by
 have HTO : Hid (∀ W, w.grownBy W (some R) → TabE W) := fun W hW => hT.to hW hR
 have HR0 := hid h
 have HO0 := hid (to_refl R w)
 have H1 := hid (fun W hW => white_any l m R h13 W hW)
 have s1 : l.dropWhile whX <:+ l := dw_suf _ _
 have H2 : Hid (∀ W, Rd W R (l.dropWhile whX) m → Calls Tryz.prog 137 #[.pointer (some ⟨R, 0, none⟩), .string ⟨#[61]⟩] W fun e w' => e = .returned (.bool (preX [61] (l.dropWhile whX))) ∧ Rd w' R (passX [61] (l.dropWhile whX)) m ∧ Only R W w') := fun W hW => pass_any _ [61] m R W hW
 rw [hr] at H1 H2 s1
 have hp : preX [61] (61 :: r1) = true := by simp [preX]
 have hp2 : passX [61] (61 :: r1) = r1 := by rw [pass_yes hp]; rfl
 rw [hp, hp2] at H2
 have s2 : r1 <:+ l := (List.suffix_cons 61 r1).trans s1
 have H3 := hid (fun W hW => white_any r1 m R (fun hm => h13 (s2.subset hm)) W hW)
 have s3 : r1.dropWhile whX <:+ l := (dw_suf _ _).trans s2
 have H4 : Hid (∀ W, Rd W R (r1.dropWhile whX) m → Calls Tryz.prog 137 #[.pointer (some ⟨R, 0, none⟩), .string ⟨#[34]⟩] W fun e w' => e = .returned (.bool (preX [34] (r1.dropWhile whX))) ∧ Rd w' R (passX [34] (r1.dropWhile whX)) m ∧ Only R W w') := fun W hW => pass_any _ [34] m R W hW
 have H5 : Hid (∀ W, Rd W R (r1.dropWhile whX) m → Calls Tryz.prog 137 #[.pointer (some ⟨R, 0, none⟩), .string ⟨#[39]⟩] W fun e w' => e = .returned (.bool (preX [39] (r1.dropWhile whX))) ∧ Rd w' R (passX [39] (r1.dropWhile whX)) m ∧ Only R W w') := fun W hW => pass_any _ [39] m R W hW
 have hpq : preX [34] (34 :: r2) = true := by simp [preX]
 have hpq2 : passX [34] (34 :: r2) = r2 := by rw [pass_yes hpq]; rfl
 have s4 : r2 <:+ l := (List.suffix_cons 34 r2).trans (by rw [← hq]; exact s3)
 have hl2 := s4.length_le
 rw [hq] at H3
 rw [hq, hpq, hpq2] at H4
 have H6 : Hid (∀ W, TabE W → Rd W R r2 m → Calls Tryz.prog 161 #[.pointer (some ⟨R, 0, none⟩), .string ⟨#[34]⟩] W fun e w' => e = .returned (.tuple #[.string ⟨#[]⟩, .int .i64 5]) ∧ Rd w' R r2 m ∧ W.grownBy w' (some R)) := fun W h1 h2 => upTo_no r2 [34] m R (by omega) (by simp) hu W h1 h2
 clear hT h hl h13 hR s1 s2 s3 s4 hp hp2 hr hpq hpq2 hq hl2 hu H5
 go_enter Tryz.func163, Tryz.ntmps163
 go_wp2_with fail
 refine (H1.out _ HR0.out).mono ?_
 rintro e W1 ⟨⟨v1, rfl⟩, hr, ho⟩
 have HR1 := hid hr
 have HO1 := hid (HO0.out.trans ho)
 clear hr ho
 go_wp2_with fail
 refine (H2.out _ HR1.out).mono ?_
 rintro e W2 ⟨rfl, hr, ho⟩
 have HR2 := hid hr
 have HO2 := hid (HO1.out.trans (to_only ho))
 clear hr ho
 go_wp2_with fail
 refine (H3.out _ HR2.out).mono ?_
 rintro e W3 ⟨⟨v3, rfl⟩, hr, ho⟩
 have HR3 := hid hr
 have HO3 := hid (HO2.out.trans ho)
 clear hr ho
 go_wp2_with fail
 refine (H4.out _ HR3.out).mono ?_
 rintro e W4 ⟨rfl, hr, ho⟩
 have HR4 := hid hr
 have HO4 := hid (HO3.out.trans (to_only ho))
 clear hr ho
 go_wp2_with fail
 refine (H6.out _ (HTO.out _ HO4.out) HR4.out).mono ?_
 rintro e W5 ⟨rfl, hr, ho⟩
 have HR5 := hid hr
 have HO5 := hid (HO4.out.trans ho)
 clear hr ho
 go_wp2_with fail
 go_ret2
 exact ⟨⟨_, rfl⟩, HO5.out⟩
theorem value_dd (l : List UInt8) (m R : Nat) (hl : l.length ≤ 100000) (h13 : (13 : UInt8) ∉ l) (hR : 7 < R) (r1 r2 : List UInt8) (hr : l.dropWhile whX = 61 :: r1) (hq : r1.dropWhile whX = 34 :: r2) (a r : List UInt8) (hu : untX [34] r2 = some (a, r)) (hc : a.contains 60 = true) (w : World) (hT : TabE w) (h : Rd w R l m) : Calls Tryz.prog 163 #[.pointer (some ⟨R, 0, none⟩)] w fun e w' => (∃ s, e = .returned (.tuple #[.string s, .int .i64 5])) ∧ w.grownBy w' (some R) := by
 have HTO : Hid (∀ W, w.grownBy W (some R) → TabE W) := fun W hW => hT.to hW hR
 have HR0 := hid h
 have HO0 := hid (to_refl R w)
 have H1 := hid (fun W hW => white_any l m R h13 W hW)
 have s1 : l.dropWhile whX <:+ l := dw_suf _ _
 have H2 : Hid (∀ W, Rd W R (l.dropWhile whX) m → Calls Tryz.prog 137 #[.pointer (some ⟨R, 0, none⟩), .string ⟨#[61]⟩] W fun e w' => e = .returned (.bool (preX [61] (l.dropWhile whX))) ∧ Rd w' R (passX [61] (l.dropWhile whX)) m ∧ Only R W w') := fun W hW => pass_any _ [61] m R W hW
 rw [hr] at H1 H2 s1
 have hp : preX [61] (61 :: r1) = true := by simp [preX]
 have hp2 : passX [61] (61 :: r1) = r1 := by rw [pass_yes hp]; rfl
 rw [hp, hp2] at H2
 have s2 : r1 <:+ l := (List.suffix_cons 61 r1).trans s1
 have H3 := hid (fun W hW => white_any r1 m R (fun hm => h13 (s2.subset hm)) W hW)
 have s3 : r1.dropWhile whX <:+ l := (dw_suf _ _).trans s2
 have H4 : Hid (∀ W, Rd W R (r1.dropWhile whX) m → Calls Tryz.prog 137 #[.pointer (some ⟨R, 0, none⟩), .string ⟨#[34]⟩] W fun e w' => e = .returned (.bool (preX [34] (r1.dropWhile whX))) ∧ Rd w' R (passX [34] (r1.dropWhile whX)) m ∧ Only R W w') := fun W hW => pass_any _ [34] m R W hW
 have H5 : Hid (∀ W, Rd W R (r1.dropWhile whX) m → Calls Tryz.prog 137 #[.pointer (some ⟨R, 0, none⟩), .string ⟨#[39]⟩] W fun e w' => e = .returned (.bool (preX [39] (r1.dropWhile whX))) ∧ Rd w' R (passX [39] (r1.dropWhile whX)) m ∧ Only R W w') := fun W hW => pass_any _ [39] m R W hW
 have hpq : preX [34] (34 :: r2) = true := by simp [preX]
 have hpq2 : passX [34] (34 :: r2) = r2 := by rw [pass_yes hpq]; rfl
 have s4 : r2 <:+ l := (List.suffix_cons 34 r2).trans (by rw [← hq]; exact s3)
 have hl2 := s4.length_le
 rw [hq] at H3
 rw [hq, hpq, hpq2] at H4
 have H6 : Hid (∀ W, TabE W → Rd W R r2 m → Calls Tryz.prog 161 #[.pointer (some ⟨R, 0, none⟩), .string ⟨#[34]⟩] W fun e w' => e = .returned (.tuple #[.string (asS a), .int .i64 0]) ∧ Rd w' R r m ∧ W.grownBy w' (some R)) := fun W h1 h2 => upTo_ok r2 [34] a r m R (by omega) (by simp) hu W h1 h2
 have H7 := hid (contains13 a)
 have hal : a.length ≤ 100000 := by
  have := unt_some [34] (by simp) r2 a r hu
  have e := congrArg List.length this
  simp at e
  omega
 rw [hc] at H7
 clear hT h hl h13 hR s1 s2 s3 s4 hp hp2 hr hpq hpq2 hq hl2 hu H5 hal hc
 go_enter Tryz.func163, Tryz.ntmps163
 go_wp2_with fail
 refine (H1.out _ HR0.out).mono ?_
 rintro e W1 ⟨⟨v1, rfl⟩, hr, ho⟩
 have HR1 := hid hr
 have HO1 := hid (HO0.out.trans ho)
 clear hr ho
 go_wp2_with fail
 refine (H2.out _ HR1.out).mono ?_
 rintro e W2 ⟨rfl, hr, ho⟩
 have HR2 := hid hr
 have HO2 := hid (HO1.out.trans (to_only ho))
 clear hr ho
 go_wp2_with fail
 refine (H3.out _ HR2.out).mono ?_
 rintro e W3 ⟨⟨v3, rfl⟩, hr, ho⟩
 have HR3 := hid hr
 have HO3 := hid (HO2.out.trans ho)
 clear hr ho
 go_wp2_with fail
 refine (H4.out _ HR3.out).mono ?_
 rintro e W4 ⟨rfl, hr, ho⟩
 have HR4 := hid hr
 have HO4 := hid (HO3.out.trans (to_only ho))
 clear hr ho
 go_wp2_with fail
 refine (H6.out _ (HTO.out _ HO4.out) HR4.out).mono ?_
 rintro e W5 ⟨rfl, hr, ho⟩
 have HR5 := hid hr
 have HO5 := hid (HO4.out.trans ho)
 clear hr ho
 go_wp2_with fail
 refine (H7.out _).mono ?_
 rintro e W ⟨rfl, rfl⟩
 go_wp2_with fail
 go_ret2
 exact ⟨⟨_, rfl⟩, HO5.out⟩
theorem value_ed (l : List UInt8) (m R : Nat) (hl : l.length ≤ 100000) (h13 : (13 : UInt8) ∉ l) (hR : 7 < R) (r1 r2 : List UInt8) (hr : l.dropWhile whX = 61 :: r1) (hq : r1.dropWhile whX = 34 :: r2) (a r : List UInt8) (hu : untX [34] r2 = some (a, r)) (hc : a.contains 60 = false) (hv : valX a = none) (w : World) (hT : TabE w) (h : Rd w R l m) : Calls Tryz.prog 163 #[.pointer (some ⟨R, 0, none⟩)] w fun e w' => (∃ s, e = .returned (.tuple #[.string s, .int .i64 5])) ∧ w.grownBy w' (some R) := by
 have HTO : Hid (∀ W, w.grownBy W (some R) → TabE W) := fun W hW => hT.to hW hR
 have HR0 := hid h
 have HO0 := hid (to_refl R w)
 have H1 := hid (fun W hW => white_any l m R h13 W hW)
 have s1 : l.dropWhile whX <:+ l := dw_suf _ _
 have H2 : Hid (∀ W, Rd W R (l.dropWhile whX) m → Calls Tryz.prog 137 #[.pointer (some ⟨R, 0, none⟩), .string ⟨#[61]⟩] W fun e w' => e = .returned (.bool (preX [61] (l.dropWhile whX))) ∧ Rd w' R (passX [61] (l.dropWhile whX)) m ∧ Only R W w') := fun W hW => pass_any _ [61] m R W hW
 rw [hr] at H1 H2 s1
 have hp : preX [61] (61 :: r1) = true := by simp [preX]
 have hp2 : passX [61] (61 :: r1) = r1 := by rw [pass_yes hp]; rfl
 rw [hp, hp2] at H2
 have s2 : r1 <:+ l := (List.suffix_cons 61 r1).trans s1
 have H3 := hid (fun W hW => white_any r1 m R (fun hm => h13 (s2.subset hm)) W hW)
 have s3 : r1.dropWhile whX <:+ l := (dw_suf _ _).trans s2
 have H4 : Hid (∀ W, Rd W R (r1.dropWhile whX) m → Calls Tryz.prog 137 #[.pointer (some ⟨R, 0, none⟩), .string ⟨#[34]⟩] W fun e w' => e = .returned (.bool (preX [34] (r1.dropWhile whX))) ∧ Rd w' R (passX [34] (r1.dropWhile whX)) m ∧ Only R W w') := fun W hW => pass_any _ [34] m R W hW
 have H5 : Hid (∀ W, Rd W R (r1.dropWhile whX) m → Calls Tryz.prog 137 #[.pointer (some ⟨R, 0, none⟩), .string ⟨#[39]⟩] W fun e w' => e = .returned (.bool (preX [39] (r1.dropWhile whX))) ∧ Rd w' R (passX [39] (r1.dropWhile whX)) m ∧ Only R W w') := fun W hW => pass_any _ [39] m R W hW
 have hpq : preX [34] (34 :: r2) = true := by simp [preX]
 have hpq2 : passX [34] (34 :: r2) = r2 := by rw [pass_yes hpq]; rfl
 have s4 : r2 <:+ l := (List.suffix_cons 34 r2).trans (by rw [← hq]; exact s3)
 have hl2 := s4.length_le
 rw [hq] at H3
 rw [hq, hpq, hpq2] at H4
 have H6 : Hid (∀ W, TabE W → Rd W R r2 m → Calls Tryz.prog 161 #[.pointer (some ⟨R, 0, none⟩), .string ⟨#[34]⟩] W fun e w' => e = .returned (.tuple #[.string (asS a), .int .i64 0]) ∧ Rd w' R r m ∧ W.grownBy w' (some R)) := fun W h1 h2 => upTo_ok r2 [34] a r m R (by omega) (by simp) hu W h1 h2
 have H7 := hid (contains13 a)
 have hal : a.length ≤ 100000 := by
  have := unt_some [34] (by simp) r2 a r hu
  have e := congrArg List.length this
  simp at e
  omega
 rw [hc] at H7
 have H8 := hid (fun W hW => value_any a hal W hW)
 unfold valX at hv
 rw [hv] at H8
 have hE : unE (none : Option (List UInt8)) = 5 := rfl
 rw [hE] at H8
 clear hT h hl h13 hR s1 s2 s3 s4 hp hp2 hr hpq hpq2 hq hl2 hu H5 hal hc hv hE
 generalize asS ((none : Option (List UInt8)).getD []) = X at H8
 generalize asS a = A at H6 H7 H8
 go_enter Tryz.func163, Tryz.ntmps163
 go_wp2_with fail
 refine (H1.out _ HR0.out).mono ?_
 rintro e W1 ⟨⟨v1, rfl⟩, hr, ho⟩
 have HR1 := hid hr
 have HO1 := hid (HO0.out.trans ho)
 clear hr ho
 go_wp2_with fail
 refine (H2.out _ HR1.out).mono ?_
 rintro e W2 ⟨rfl, hr, ho⟩
 have HR2 := hid hr
 have HO2 := hid (HO1.out.trans (to_only ho))
 clear hr ho
 go_wp2_with fail
 refine (H3.out _ HR2.out).mono ?_
 rintro e W3 ⟨⟨v3, rfl⟩, hr, ho⟩
 have HR3 := hid hr
 have HO3 := hid (HO2.out.trans ho)
 clear hr ho
 go_wp2_with fail
 refine (H4.out _ HR3.out).mono ?_
 rintro e W4 ⟨rfl, hr, ho⟩
 have HR4 := hid hr
 have HO4 := hid (HO3.out.trans (to_only ho))
 clear hr ho
 go_wp2_with fail
 refine (H6.out _ (HTO.out _ HO4.out) HR4.out).mono ?_
 rintro e W5 ⟨rfl, hr, ho⟩
 have HR5 := hid hr
 have HO5 := hid (HO4.out.trans ho)
 clear hr ho
 go_wp2_with fail
 refine (H7.out _).mono ?_
 rintro e W ⟨rfl, rfl⟩
 go_wp2_with fail
 refine (H8.out _ (HTO.out _ HO5.out)).mono ?_
 rintro e W6 ⟨rfl, hb⟩
 have HR6 := hid (HR5.out.below hb)
 have HO6 := hid (HO5.out.trans (to_below hb))
 clear hb
 go_wp2_with fail
 go_ret2
 exact ⟨⟨_, rfl⟩, HO6.out⟩
theorem value_fd (l : List UInt8) (m R : Nat) (hl : l.length ≤ 100000) (h13 : (13 : UInt8) ∉ l) (hR : 7 < R) (r1 r2 : List UInt8) (hr : l.dropWhile whX = 61 :: r1) (hq : r1.dropWhile whX = 34 :: r2) (a r : List UInt8) (hu : untX [34] r2 = some (a, r)) (v : List UInt8) (hc : a.contains 60 = false) (hv : valX a = some v) (w : World) (hT : TabE w) (h : Rd w R l m) : Calls Tryz.prog 163 #[.pointer (some ⟨R, 0, none⟩)] w fun e w' => e = .returned (.tuple #[.string (asS v), .int .i64 0]) ∧ Rd w' R r m ∧ w.grownBy w' (some R) := by
 have HTO : Hid (∀ W, w.grownBy W (some R) → TabE W) := fun W hW => hT.to hW hR
 have HR0 := hid h
 have HO0 := hid (to_refl R w)
 have H1 := hid (fun W hW => white_any l m R h13 W hW)
 have s1 : l.dropWhile whX <:+ l := dw_suf _ _
 have H2 : Hid (∀ W, Rd W R (l.dropWhile whX) m → Calls Tryz.prog 137 #[.pointer (some ⟨R, 0, none⟩), .string ⟨#[61]⟩] W fun e w' => e = .returned (.bool (preX [61] (l.dropWhile whX))) ∧ Rd w' R (passX [61] (l.dropWhile whX)) m ∧ Only R W w') := fun W hW => pass_any _ [61] m R W hW
 rw [hr] at H1 H2 s1
 have hp : preX [61] (61 :: r1) = true := by simp [preX]
 have hp2 : passX [61] (61 :: r1) = r1 := by rw [pass_yes hp]; rfl
 rw [hp, hp2] at H2
 have s2 : r1 <:+ l := (List.suffix_cons 61 r1).trans s1
 have H3 := hid (fun W hW => white_any r1 m R (fun hm => h13 (s2.subset hm)) W hW)
 have s3 : r1.dropWhile whX <:+ l := (dw_suf _ _).trans s2
 have H4 : Hid (∀ W, Rd W R (r1.dropWhile whX) m → Calls Tryz.prog 137 #[.pointer (some ⟨R, 0, none⟩), .string ⟨#[34]⟩] W fun e w' => e = .returned (.bool (preX [34] (r1.dropWhile whX))) ∧ Rd w' R (passX [34] (r1.dropWhile whX)) m ∧ Only R W w') := fun W hW => pass_any _ [34] m R W hW
 have H5 : Hid (∀ W, Rd W R (r1.dropWhile whX) m → Calls Tryz.prog 137 #[.pointer (some ⟨R, 0, none⟩), .string ⟨#[39]⟩] W fun e w' => e = .returned (.bool (preX [39] (r1.dropWhile whX))) ∧ Rd w' R (passX [39] (r1.dropWhile whX)) m ∧ Only R W w') := fun W hW => pass_any _ [39] m R W hW
 have hpq : preX [34] (34 :: r2) = true := by simp [preX]
 have hpq2 : passX [34] (34 :: r2) = r2 := by rw [pass_yes hpq]; rfl
 have s4 : r2 <:+ l := (List.suffix_cons 34 r2).trans (by rw [← hq]; exact s3)
 have hl2 := s4.length_le
 rw [hq] at H3
 rw [hq, hpq, hpq2] at H4
 have H6 : Hid (∀ W, TabE W → Rd W R r2 m → Calls Tryz.prog 161 #[.pointer (some ⟨R, 0, none⟩), .string ⟨#[34]⟩] W fun e w' => e = .returned (.tuple #[.string (asS a), .int .i64 0]) ∧ Rd w' R r m ∧ W.grownBy w' (some R)) := fun W h1 h2 => upTo_ok r2 [34] a r m R (by omega) (by simp) hu W h1 h2
 have H7 := hid (contains13 a)
 have hal : a.length ≤ 100000 := by
  have := unt_some [34] (by simp) r2 a r hu
  have e := congrArg List.length this
  simp at e
  omega
 rw [hc] at H7
 have H8 := hid (fun W hW => value_any a hal W hW)
 unfold valX at hv
 rw [hv] at H8
 have hE : unE (some v) = 0 := rfl
 have hG : (some v).getD [] = v := rfl
 rw [hE, hG] at H8
 clear hT h hl h13 hR s1 s2 s3 s4 hp hp2 hr hpq hpq2 hq hl2 hu H5 hal hc hv hE hG
 generalize asS v = X at H8 ⊢
 generalize asS a = A at H6 H7 H8
 go_enter Tryz.func163, Tryz.ntmps163
 go_wp2_with fail
 refine (H1.out _ HR0.out).mono ?_
 rintro e W1 ⟨⟨v1, rfl⟩, hr, ho⟩
 have HR1 := hid hr
 have HO1 := hid (HO0.out.trans ho)
 clear hr ho
 go_wp2_with fail
 refine (H2.out _ HR1.out).mono ?_
 rintro e W2 ⟨rfl, hr, ho⟩
 have HR2 := hid hr
 have HO2 := hid (HO1.out.trans (to_only ho))
 clear hr ho
 go_wp2_with fail
 refine (H3.out _ HR2.out).mono ?_
 rintro e W3 ⟨⟨v3, rfl⟩, hr, ho⟩
 have HR3 := hid hr
 have HO3 := hid (HO2.out.trans ho)
 clear hr ho
 go_wp2_with fail
 refine (H4.out _ HR3.out).mono ?_
 rintro e W4 ⟨rfl, hr, ho⟩
 have HR4 := hid hr
 have HO4 := hid (HO3.out.trans (to_only ho))
 clear hr ho
 go_wp2_with fail
 refine (H6.out _ (HTO.out _ HO4.out) HR4.out).mono ?_
 rintro e W5 ⟨rfl, hr, ho⟩
 have HR5 := hid hr
 have HO5 := hid (HO4.out.trans ho)
 clear hr ho
 go_wp2_with fail
 refine (H7.out _).mono ?_
 rintro e W ⟨rfl, rfl⟩
 go_wp2_with fail
 refine (H8.out _ (HTO.out _ HO5.out)).mono ?_
 rintro e W6 ⟨rfl, hb⟩
 have HR6 := hid (HR5.out.below hb)
 have HO6 := hid (HO5.out.trans (to_below hb))
 clear hb
 go_wp2_with fail
 go_ret2
 exact ⟨rfl, HR6.out, HO6.out⟩
theorem value_cs (l : List UInt8) (m R : Nat) (hl : l.length ≤ 100000) (h13 : (13 : UInt8) ∉ l) (hR : 7 < R) (r1 r2 : List UInt8) (hr : l.dropWhile whX = 61 :: r1) (hq : r1.dropWhile whX = 39 :: r2) (hu : untX [39] r2 = none) (w : World) (hT : TabE w) (h : Rd w R l m) : Calls Tryz.prog 163 #[.pointer (some ⟨R, 0, none⟩)] w fun e w' => (∃ s, e = .returned (.tuple #[.string s, .int .i64 5])) ∧ w.grownBy w' (some R) := by
 have HTO : Hid (∀ W, w.grownBy W (some R) → TabE W) := fun W hW => hT.to hW hR
 have HR0 := hid h
 have HO0 := hid (to_refl R w)
 have H1 := hid (fun W hW => white_any l m R h13 W hW)
 have s1 : l.dropWhile whX <:+ l := dw_suf _ _
 have H2 : Hid (∀ W, Rd W R (l.dropWhile whX) m → Calls Tryz.prog 137 #[.pointer (some ⟨R, 0, none⟩), .string ⟨#[61]⟩] W fun e w' => e = .returned (.bool (preX [61] (l.dropWhile whX))) ∧ Rd w' R (passX [61] (l.dropWhile whX)) m ∧ Only R W w') := fun W hW => pass_any _ [61] m R W hW
 rw [hr] at H1 H2 s1
 have hp : preX [61] (61 :: r1) = true := by simp [preX]
 have hp2 : passX [61] (61 :: r1) = r1 := by rw [pass_yes hp]; rfl
 rw [hp, hp2] at H2
 have s2 : r1 <:+ l := (List.suffix_cons 61 r1).trans s1
 have H3 := hid (fun W hW => white_any r1 m R (fun hm => h13 (s2.subset hm)) W hW)
 have s3 : r1.dropWhile whX <:+ l := (dw_suf _ _).trans s2
 have H4 : Hid (∀ W, Rd W R (r1.dropWhile whX) m → Calls Tryz.prog 137 #[.pointer (some ⟨R, 0, none⟩), .string ⟨#[34]⟩] W fun e w' => e = .returned (.bool (preX [34] (r1.dropWhile whX))) ∧ Rd w' R (passX [34] (r1.dropWhile whX)) m ∧ Only R W w') := fun W hW => pass_any _ [34] m R W hW
 have H5 : Hid (∀ W, Rd W R (r1.dropWhile whX) m → Calls Tryz.prog 137 #[.pointer (some ⟨R, 0, none⟩), .string ⟨#[39]⟩] W fun e w' => e = .returned (.bool (preX [39] (r1.dropWhile whX))) ∧ Rd w' R (passX [39] (r1.dropWhile whX)) m ∧ Only R W w') := fun W hW => pass_any _ [39] m R W hW
 have hpq : preX [39] (39 :: r2) = true := by simp [preX]
 have hpq2 : passX [39] (39 :: r2) = r2 := by rw [pass_yes hpq]; rfl
 have s4 : r2 <:+ l := (List.suffix_cons 39 r2).trans (by rw [← hq]; exact s3)
 have hl2 := s4.length_le
 have h34 : preX [34] (39 :: r2) = false := by simp [preX, List.isPrefixOf]
 rw [hq] at H3
 rw [hq, h34, pass_no h34] at H4
 rw [hq, hpq, hpq2] at H5
 have H6 : Hid (∀ W, TabE W → Rd W R r2 m → Calls Tryz.prog 161 #[.pointer (some ⟨R, 0, none⟩), .string ⟨#[39]⟩] W fun e w' => e = .returned (.tuple #[.string ⟨#[]⟩, .int .i64 5]) ∧ Rd w' R r2 m ∧ W.grownBy w' (some R)) := fun W h1 h2 => upTo_no r2 [39] m R (by omega) (by simp) hu W h1 h2
 clear hT h hl h13 hR s1 s2 s3 s4 hp hp2 hr hpq hpq2 hq hl2 hu h34
 go_enter Tryz.func163, Tryz.ntmps163
 go_wp2_with fail
 refine (H1.out _ HR0.out).mono ?_
 rintro e W1 ⟨⟨v1, rfl⟩, hr, ho⟩
 have HR1 := hid hr
 have HO1 := hid (HO0.out.trans ho)
 clear hr ho
 go_wp2_with fail
 refine (H2.out _ HR1.out).mono ?_
 rintro e W2 ⟨rfl, hr, ho⟩
 have HR2 := hid hr
 have HO2 := hid (HO1.out.trans (to_only ho))
 clear hr ho
 go_wp2_with fail
 refine (H3.out _ HR2.out).mono ?_
 rintro e W3 ⟨⟨v3, rfl⟩, hr, ho⟩
 have HR3 := hid hr
 have HO3 := hid (HO2.out.trans ho)
 clear hr ho
 go_wp2_with fail
 refine (H4.out _ HR3.out).mono ?_
 rintro e W4 ⟨rfl, hr, ho⟩
 have HR4 := hid hr
 have HO4 := hid (HO3.out.trans (to_only ho))
 clear hr ho
 go_wp2_with fail
 refine (H5.out _ HR4.out).mono ?_
 rintro e W5 ⟨rfl, hr, ho⟩
 have HR5 := hid hr
 have HO5 := hid (HO4.out.trans (to_only ho))
 clear hr ho
 go_wp2_with fail
 refine (H6.out _ (HTO.out _ HO5.out) HR5.out).mono ?_
 rintro e W6 ⟨rfl, hr, ho⟩
 have HR6 := hid hr
 have HO6 := hid (HO5.out.trans ho)
 clear hr ho
 go_wp2_with fail
 go_ret2
 exact ⟨⟨_, rfl⟩, HO6.out⟩
theorem value_ds (l : List UInt8) (m R : Nat) (hl : l.length ≤ 100000) (h13 : (13 : UInt8) ∉ l) (hR : 7 < R) (r1 r2 : List UInt8) (hr : l.dropWhile whX = 61 :: r1) (hq : r1.dropWhile whX = 39 :: r2) (a r : List UInt8) (hu : untX [39] r2 = some (a, r)) (hc : a.contains 60 = true) (w : World) (hT : TabE w) (h : Rd w R l m) : Calls Tryz.prog 163 #[.pointer (some ⟨R, 0, none⟩)] w fun e w' => (∃ s, e = .returned (.tuple #[.string s, .int .i64 5])) ∧ w.grownBy w' (some R) := by
 have HTO : Hid (∀ W, w.grownBy W (some R) → TabE W) := fun W hW => hT.to hW hR
 have HR0 := hid h
 have HO0 := hid (to_refl R w)
 have H1 := hid (fun W hW => white_any l m R h13 W hW)
 have s1 : l.dropWhile whX <:+ l := dw_suf _ _
 have H2 : Hid (∀ W, Rd W R (l.dropWhile whX) m → Calls Tryz.prog 137 #[.pointer (some ⟨R, 0, none⟩), .string ⟨#[61]⟩] W fun e w' => e = .returned (.bool (preX [61] (l.dropWhile whX))) ∧ Rd w' R (passX [61] (l.dropWhile whX)) m ∧ Only R W w') := fun W hW => pass_any _ [61] m R W hW
 rw [hr] at H1 H2 s1
 have hp : preX [61] (61 :: r1) = true := by simp [preX]
 have hp2 : passX [61] (61 :: r1) = r1 := by rw [pass_yes hp]; rfl
 rw [hp, hp2] at H2
 have s2 : r1 <:+ l := (List.suffix_cons 61 r1).trans s1
 have H3 := hid (fun W hW => white_any r1 m R (fun hm => h13 (s2.subset hm)) W hW)
 have s3 : r1.dropWhile whX <:+ l := (dw_suf _ _).trans s2
 have H4 : Hid (∀ W, Rd W R (r1.dropWhile whX) m → Calls Tryz.prog 137 #[.pointer (some ⟨R, 0, none⟩), .string ⟨#[34]⟩] W fun e w' => e = .returned (.bool (preX [34] (r1.dropWhile whX))) ∧ Rd w' R (passX [34] (r1.dropWhile whX)) m ∧ Only R W w') := fun W hW => pass_any _ [34] m R W hW
 have H5 : Hid (∀ W, Rd W R (r1.dropWhile whX) m → Calls Tryz.prog 137 #[.pointer (some ⟨R, 0, none⟩), .string ⟨#[39]⟩] W fun e w' => e = .returned (.bool (preX [39] (r1.dropWhile whX))) ∧ Rd w' R (passX [39] (r1.dropWhile whX)) m ∧ Only R W w') := fun W hW => pass_any _ [39] m R W hW
 have hpq : preX [39] (39 :: r2) = true := by simp [preX]
 have hpq2 : passX [39] (39 :: r2) = r2 := by rw [pass_yes hpq]; rfl
 have s4 : r2 <:+ l := (List.suffix_cons 39 r2).trans (by rw [← hq]; exact s3)
 have hl2 := s4.length_le
 have h34 : preX [34] (39 :: r2) = false := by simp [preX, List.isPrefixOf]
 rw [hq] at H3
 rw [hq, h34, pass_no h34] at H4
 rw [hq, hpq, hpq2] at H5
 have H6 : Hid (∀ W, TabE W → Rd W R r2 m → Calls Tryz.prog 161 #[.pointer (some ⟨R, 0, none⟩), .string ⟨#[39]⟩] W fun e w' => e = .returned (.tuple #[.string (asS a), .int .i64 0]) ∧ Rd w' R r m ∧ W.grownBy w' (some R)) := fun W h1 h2 => upTo_ok r2 [39] a r m R (by omega) (by simp) hu W h1 h2
 have H7 := hid (contains13 a)
 have hal : a.length ≤ 100000 := by
  have := unt_some [39] (by simp) r2 a r hu
  have e := congrArg List.length this
  simp at e
  omega
 rw [hc] at H7
 clear hT h hl h13 hR s1 s2 s3 s4 hp hp2 hr hpq hpq2 hq hl2 hu h34 hal hc
 go_enter Tryz.func163, Tryz.ntmps163
 go_wp2_with fail
 refine (H1.out _ HR0.out).mono ?_
 rintro e W1 ⟨⟨v1, rfl⟩, hr, ho⟩
 have HR1 := hid hr
 have HO1 := hid (HO0.out.trans ho)
 clear hr ho
 go_wp2_with fail
 refine (H2.out _ HR1.out).mono ?_
 rintro e W2 ⟨rfl, hr, ho⟩
 have HR2 := hid hr
 have HO2 := hid (HO1.out.trans (to_only ho))
 clear hr ho
 go_wp2_with fail
 refine (H3.out _ HR2.out).mono ?_
 rintro e W3 ⟨⟨v3, rfl⟩, hr, ho⟩
 have HR3 := hid hr
 have HO3 := hid (HO2.out.trans ho)
 clear hr ho
 go_wp2_with fail
 refine (H4.out _ HR3.out).mono ?_
 rintro e W4 ⟨rfl, hr, ho⟩
 have HR4 := hid hr
 have HO4 := hid (HO3.out.trans (to_only ho))
 clear hr ho
 go_wp2_with fail
 refine (H5.out _ HR4.out).mono ?_
 rintro e W5 ⟨rfl, hr, ho⟩
 have HR5 := hid hr
 have HO5 := hid (HO4.out.trans (to_only ho))
 clear hr ho
 go_wp2_with fail
 refine (H6.out _ (HTO.out _ HO5.out) HR5.out).mono ?_
 rintro e W6 ⟨rfl, hr, ho⟩
 have HR6 := hid hr
 have HO6 := hid (HO5.out.trans ho)
 clear hr ho
 go_wp2_with fail
 refine (H7.out _).mono ?_
 rintro e W ⟨rfl, rfl⟩
 go_wp2_with fail
 go_ret2
 exact ⟨⟨_, rfl⟩, HO6.out⟩
theorem value_es (l : List UInt8) (m R : Nat) (hl : l.length ≤ 100000) (h13 : (13 : UInt8) ∉ l) (hR : 7 < R) (r1 r2 : List UInt8) (hr : l.dropWhile whX = 61 :: r1) (hq : r1.dropWhile whX = 39 :: r2) (a r : List UInt8) (hu : untX [39] r2 = some (a, r)) (hc : a.contains 60 = false) (hv : valX a = none) (w : World) (hT : TabE w) (h : Rd w R l m) : Calls Tryz.prog 163 #[.pointer (some ⟨R, 0, none⟩)] w fun e w' => (∃ s, e = .returned (.tuple #[.string s, .int .i64 5])) ∧ w.grownBy w' (some R) := by
 have HTO : Hid (∀ W, w.grownBy W (some R) → TabE W) := fun W hW => hT.to hW hR
 have HR0 := hid h
 have HO0 := hid (to_refl R w)
 have H1 := hid (fun W hW => white_any l m R h13 W hW)
 have s1 : l.dropWhile whX <:+ l := dw_suf _ _
 have H2 : Hid (∀ W, Rd W R (l.dropWhile whX) m → Calls Tryz.prog 137 #[.pointer (some ⟨R, 0, none⟩), .string ⟨#[61]⟩] W fun e w' => e = .returned (.bool (preX [61] (l.dropWhile whX))) ∧ Rd w' R (passX [61] (l.dropWhile whX)) m ∧ Only R W w') := fun W hW => pass_any _ [61] m R W hW
 rw [hr] at H1 H2 s1
 have hp : preX [61] (61 :: r1) = true := by simp [preX]
 have hp2 : passX [61] (61 :: r1) = r1 := by rw [pass_yes hp]; rfl
 rw [hp, hp2] at H2
 have s2 : r1 <:+ l := (List.suffix_cons 61 r1).trans s1
 have H3 := hid (fun W hW => white_any r1 m R (fun hm => h13 (s2.subset hm)) W hW)
 have s3 : r1.dropWhile whX <:+ l := (dw_suf _ _).trans s2
 have H4 : Hid (∀ W, Rd W R (r1.dropWhile whX) m → Calls Tryz.prog 137 #[.pointer (some ⟨R, 0, none⟩), .string ⟨#[34]⟩] W fun e w' => e = .returned (.bool (preX [34] (r1.dropWhile whX))) ∧ Rd w' R (passX [34] (r1.dropWhile whX)) m ∧ Only R W w') := fun W hW => pass_any _ [34] m R W hW
 have H5 : Hid (∀ W, Rd W R (r1.dropWhile whX) m → Calls Tryz.prog 137 #[.pointer (some ⟨R, 0, none⟩), .string ⟨#[39]⟩] W fun e w' => e = .returned (.bool (preX [39] (r1.dropWhile whX))) ∧ Rd w' R (passX [39] (r1.dropWhile whX)) m ∧ Only R W w') := fun W hW => pass_any _ [39] m R W hW
 have hpq : preX [39] (39 :: r2) = true := by simp [preX]
 have hpq2 : passX [39] (39 :: r2) = r2 := by rw [pass_yes hpq]; rfl
 have s4 : r2 <:+ l := (List.suffix_cons 39 r2).trans (by rw [← hq]; exact s3)
 have hl2 := s4.length_le
 have h34 : preX [34] (39 :: r2) = false := by simp [preX, List.isPrefixOf]
 rw [hq] at H3
 rw [hq, h34, pass_no h34] at H4
 rw [hq, hpq, hpq2] at H5
 have H6 : Hid (∀ W, TabE W → Rd W R r2 m → Calls Tryz.prog 161 #[.pointer (some ⟨R, 0, none⟩), .string ⟨#[39]⟩] W fun e w' => e = .returned (.tuple #[.string (asS a), .int .i64 0]) ∧ Rd w' R r m ∧ W.grownBy w' (some R)) := fun W h1 h2 => upTo_ok r2 [39] a r m R (by omega) (by simp) hu W h1 h2
 have H7 := hid (contains13 a)
 have hal : a.length ≤ 100000 := by
  have := unt_some [39] (by simp) r2 a r hu
  have e := congrArg List.length this
  simp at e
  omega
 rw [hc] at H7
 have H8 := hid (fun W hW => value_any a hal W hW)
 unfold valX at hv
 rw [hv] at H8
 have hE : unE (none : Option (List UInt8)) = 5 := rfl
 rw [hE] at H8
 clear hT h hl h13 hR s1 s2 s3 s4 hp hp2 hr hpq hpq2 hq hl2 hu h34 hal hc hv hE
 generalize asS ((none : Option (List UInt8)).getD []) = X at H8
 generalize asS a = A at H6 H7 H8
 go_enter Tryz.func163, Tryz.ntmps163
 go_wp2_with fail
 refine (H1.out _ HR0.out).mono ?_
 rintro e W1 ⟨⟨v1, rfl⟩, hr, ho⟩
 have HR1 := hid hr
 have HO1 := hid (HO0.out.trans ho)
 clear hr ho
 go_wp2_with fail
 refine (H2.out _ HR1.out).mono ?_
 rintro e W2 ⟨rfl, hr, ho⟩
 have HR2 := hid hr
 have HO2 := hid (HO1.out.trans (to_only ho))
 clear hr ho
 go_wp2_with fail
 refine (H3.out _ HR2.out).mono ?_
 rintro e W3 ⟨⟨v3, rfl⟩, hr, ho⟩
 have HR3 := hid hr
 have HO3 := hid (HO2.out.trans ho)
 clear hr ho
 go_wp2_with fail
 refine (H4.out _ HR3.out).mono ?_
 rintro e W4 ⟨rfl, hr, ho⟩
 have HR4 := hid hr
 have HO4 := hid (HO3.out.trans (to_only ho))
 clear hr ho
 go_wp2_with fail
 refine (H5.out _ HR4.out).mono ?_
 rintro e W5 ⟨rfl, hr, ho⟩
 have HR5 := hid hr
 have HO5 := hid (HO4.out.trans (to_only ho))
 clear hr ho
 go_wp2_with fail
 refine (H6.out _ (HTO.out _ HO5.out) HR5.out).mono ?_
 rintro e W6 ⟨rfl, hr, ho⟩
 have HR6 := hid hr
 have HO6 := hid (HO5.out.trans ho)
 clear hr ho
 go_wp2_with fail
 refine (H7.out _).mono ?_
 rintro e W ⟨rfl, rfl⟩
 go_wp2_with fail
 refine (H8.out _ (HTO.out _ HO6.out)).mono ?_
 rintro e W7 ⟨rfl, hb⟩
 have HR7 := hid (HR6.out.below hb)
 have HO7 := hid (HO6.out.trans (to_below hb))
 clear hb
 go_wp2_with fail
 go_ret2
 exact ⟨⟨_, rfl⟩, HO7.out⟩
theorem value_fs (l : List UInt8) (m R : Nat) (hl : l.length ≤ 100000) (h13 : (13 : UInt8) ∉ l) (hR : 7 < R) (r1 r2 : List UInt8) (hr : l.dropWhile whX = 61 :: r1) (hq : r1.dropWhile whX = 39 :: r2) (a r : List UInt8) (hu : untX [39] r2 = some (a, r)) (v : List UInt8) (hc : a.contains 60 = false) (hv : valX a = some v) (w : World) (hT : TabE w) (h : Rd w R l m) : Calls Tryz.prog 163 #[.pointer (some ⟨R, 0, none⟩)] w fun e w' => e = .returned (.tuple #[.string (asS v), .int .i64 0]) ∧ Rd w' R r m ∧ w.grownBy w' (some R) := by
 have HTO : Hid (∀ W, w.grownBy W (some R) → TabE W) := fun W hW => hT.to hW hR
 have HR0 := hid h
 have HO0 := hid (to_refl R w)
 have H1 := hid (fun W hW => white_any l m R h13 W hW)
 have s1 : l.dropWhile whX <:+ l := dw_suf _ _
 have H2 : Hid (∀ W, Rd W R (l.dropWhile whX) m → Calls Tryz.prog 137 #[.pointer (some ⟨R, 0, none⟩), .string ⟨#[61]⟩] W fun e w' => e = .returned (.bool (preX [61] (l.dropWhile whX))) ∧ Rd w' R (passX [61] (l.dropWhile whX)) m ∧ Only R W w') := fun W hW => pass_any _ [61] m R W hW
 rw [hr] at H1 H2 s1
 have hp : preX [61] (61 :: r1) = true := by simp [preX]
 have hp2 : passX [61] (61 :: r1) = r1 := by rw [pass_yes hp]; rfl
 rw [hp, hp2] at H2
 have s2 : r1 <:+ l := (List.suffix_cons 61 r1).trans s1
 have H3 := hid (fun W hW => white_any r1 m R (fun hm => h13 (s2.subset hm)) W hW)
 have s3 : r1.dropWhile whX <:+ l := (dw_suf _ _).trans s2
 have H4 : Hid (∀ W, Rd W R (r1.dropWhile whX) m → Calls Tryz.prog 137 #[.pointer (some ⟨R, 0, none⟩), .string ⟨#[34]⟩] W fun e w' => e = .returned (.bool (preX [34] (r1.dropWhile whX))) ∧ Rd w' R (passX [34] (r1.dropWhile whX)) m ∧ Only R W w') := fun W hW => pass_any _ [34] m R W hW
 have H5 : Hid (∀ W, Rd W R (r1.dropWhile whX) m → Calls Tryz.prog 137 #[.pointer (some ⟨R, 0, none⟩), .string ⟨#[39]⟩] W fun e w' => e = .returned (.bool (preX [39] (r1.dropWhile whX))) ∧ Rd w' R (passX [39] (r1.dropWhile whX)) m ∧ Only R W w') := fun W hW => pass_any _ [39] m R W hW
 have hpq : preX [39] (39 :: r2) = true := by simp [preX]
 have hpq2 : passX [39] (39 :: r2) = r2 := by rw [pass_yes hpq]; rfl
 have s4 : r2 <:+ l := (List.suffix_cons 39 r2).trans (by rw [← hq]; exact s3)
 have hl2 := s4.length_le
 have h34 : preX [34] (39 :: r2) = false := by simp [preX, List.isPrefixOf]
 rw [hq] at H3
 rw [hq, h34, pass_no h34] at H4
 rw [hq, hpq, hpq2] at H5
 have H6 : Hid (∀ W, TabE W → Rd W R r2 m → Calls Tryz.prog 161 #[.pointer (some ⟨R, 0, none⟩), .string ⟨#[39]⟩] W fun e w' => e = .returned (.tuple #[.string (asS a), .int .i64 0]) ∧ Rd w' R r m ∧ W.grownBy w' (some R)) := fun W h1 h2 => upTo_ok r2 [39] a r m R (by omega) (by simp) hu W h1 h2
 have H7 := hid (contains13 a)
 have hal : a.length ≤ 100000 := by
  have := unt_some [39] (by simp) r2 a r hu
  have e := congrArg List.length this
  simp at e
  omega
 rw [hc] at H7
 have H8 := hid (fun W hW => value_any a hal W hW)
 unfold valX at hv
 rw [hv] at H8
 have hE : unE (some v) = 0 := rfl
 have hG : (some v).getD [] = v := rfl
 rw [hE, hG] at H8
 clear hT h hl h13 hR s1 s2 s3 s4 hp hp2 hr hpq hpq2 hq hl2 hu h34 hal hc hv hE hG
 generalize asS v = X at H8 ⊢
 generalize asS a = A at H6 H7 H8
 go_enter Tryz.func163, Tryz.ntmps163
 go_wp2_with fail
 refine (H1.out _ HR0.out).mono ?_
 rintro e W1 ⟨⟨v1, rfl⟩, hr, ho⟩
 have HR1 := hid hr
 have HO1 := hid (HO0.out.trans ho)
 clear hr ho
 go_wp2_with fail
 refine (H2.out _ HR1.out).mono ?_
 rintro e W2 ⟨rfl, hr, ho⟩
 have HR2 := hid hr
 have HO2 := hid (HO1.out.trans (to_only ho))
 clear hr ho
 go_wp2_with fail
 refine (H3.out _ HR2.out).mono ?_
 rintro e W3 ⟨⟨v3, rfl⟩, hr, ho⟩
 have HR3 := hid hr
 have HO3 := hid (HO2.out.trans ho)
 clear hr ho
 go_wp2_with fail
 refine (H4.out _ HR3.out).mono ?_
 rintro e W4 ⟨rfl, hr, ho⟩
 have HR4 := hid hr
 have HO4 := hid (HO3.out.trans (to_only ho))
 clear hr ho
 go_wp2_with fail
 refine (H5.out _ HR4.out).mono ?_
 rintro e W5 ⟨rfl, hr, ho⟩
 have HR5 := hid hr
 have HO5 := hid (HO4.out.trans (to_only ho))
 clear hr ho
 go_wp2_with fail
 refine (H6.out _ (HTO.out _ HO5.out) HR5.out).mono ?_
 rintro e W6 ⟨rfl, hr, ho⟩
 have HR6 := hid hr
 have HO6 := hid (HO5.out.trans ho)
 clear hr ho
 go_wp2_with fail
 refine (H7.out _).mono ?_
 rintro e W ⟨rfl, rfl⟩
 go_wp2_with fail
 refine (H8.out _ (HTO.out _ HO6.out)).mono ?_
 rintro e W7 ⟨rfl, hb⟩
 have HR7 := hid (HR6.out.below hb)
 have HO7 := hid (HO6.out.trans (to_below hb))
 clear hb
 go_wp2_with fail
 go_ret2
 exact ⟨rfl, HR7.out, HO7.out⟩
theorem valueR_any (l : List UInt8) (m R : Nat) (hl : l.length ≤ 100000) (h13 : (13 : UInt8) ∉ l) (hR : 7 < R) (w : World) (hT : TabE w) (h : Rd w R l m) : Calls Tryz.prog 163 #[.pointer (some ⟨R, 0, none⟩)] w fun e w' => w.grownBy w' (some R) ∧ ((∃ v r, vaX l = some (v, r) ∧ e = .returned (.tuple #[.string (asS v), .int .i64 0]) ∧ Rd w' R r m) ∨ (vaX l = none ∧ ∃ s, e = .returned (.tuple #[.string s, .int .i64 5]))) := by
 have bad : vaX l = none → (Calls Tryz.prog 163 #[.pointer (some ⟨R, 0, none⟩)] w fun e w' => (∃ s, e = .returned (.tuple #[.string s, .int .i64 5])) ∧ w.grownBy w' (some R)) → Calls Tryz.prog 163 #[.pointer (some ⟨R, 0, none⟩)] w fun e w' => w.grownBy w' (some R) ∧ ((∃ v r, vaX l = some (v, r) ∧ e = .returned (.tuple #[.string (asS v), .int .i64 0]) ∧ Rd w' R r m) ∨ (vaX l = none ∧ ∃ s, e = .returned (.tuple #[.string s, .int .i64 5]))) := fun hn hc => hc.mono fun e w' hp => ⟨hp.2, .inr ⟨hn, hp.1⟩⟩
 cases h61 : preX [61] (l.dropWhile whX) with
 | false => exact bad (va_none h61) (value_a l m R hl h13 hR h61 w hT h)
 | true =>
  obtain ⟨r1, hr⟩ := pre_one h61
  have hv := va_eq hr
  cases h34 : preX [34] (r1.dropWhile whX) with
  | true =>
   obtain ⟨r2, hq⟩ := pre_one h34
   rw [hq] at hv
   simp only at hv
   rw [if_pos (by simp)] at hv
   cases hu : untX [34] r2 with
   | none => rw [hu] at hv; exact bad hv (value_cd l m R hl h13 hR r1 r2 hr hq hu w hT h)
   | some p =>
    obtain ⟨a, r⟩ := p
    rw [hu] at hv
    simp only at hv
    cases hc : a.contains 60 with
    | true => rw [hc] at hv; exact bad hv (value_dd l m R hl h13 hR r1 r2 hr hq a r hu hc w hT h)
    | false =>
     rw [hc] at hv
     cases hx : valX a with
     | none => rw [hx] at hv; exact bad hv (value_ed l m R hl h13 hR r1 r2 hr hq a r hu hc hx w hT h)
     | some v =>
      rw [hx] at hv
      exact (value_fd l m R hl h13 hR r1 r2 hr hq a r hu v hc hx w hT h).mono fun e w' hp => ⟨hp.2.2, .inl ⟨v, r, hv, hp.1, hp.2.1⟩⟩
  | false =>
   cases h39 : preX [39] (r1.dropWhile whX) with
   | false =>
    refine bad ?_ (value_b l m R hl h13 hR r1 hr h34 h39 w hT h)
    rw [hv]
    cases hd : r1.dropWhile whX with
    | nil => rfl
    | cons q r2 =>
     simp only
     rw [if_neg]
     rintro (rfl | rfl)
     ·exact not_pre h34 _ hd
     ·exact not_pre h39 _ hd
   | true =>
    obtain ⟨r2, hq⟩ := pre_one h39
    rw [hq] at hv
    simp only at hv
    rw [if_pos (by simp)] at hv
    cases hu : untX [39] r2 with
    | none => rw [hu] at hv; exact bad hv (value_cs l m R hl h13 hR r1 r2 hr hq hu w hT h)
    | some p =>
     obtain ⟨a, r⟩ := p
     rw [hu] at hv
     simp only at hv
     cases hc : a.contains 60 with
     | true => rw [hc] at hv; exact bad hv (value_ds l m R hl h13 hR r1 r2 hr hq a r hu hc w hT h)
     | false =>
      rw [hc] at hv
      cases hx : valX a with
      | none => rw [hx] at hv; exact bad hv (value_es l m R hl h13 hR r1 r2 hr hq a r hu hc hx w hT h)
      | some v =>
       rw [hx] at hv
       exact (value_fs l m R hl h13 hR r1 r2 hr hq a r hu v hc hx w hT h).mono fun e w' hp => ⟨hp.2.2, .inl ⟨v, r, hv, hp.1, hp.2.1⟩⟩
end Go.Proofs.YtgoiafndapemjaaGreatDoor
namespace Go.Proofs.YtgoiafndapemjaaGreatDoor
open Go.RowKit Go.BigFrame
theorem index60 : ∀ l : List UInt8, Lib.indexByte l 60 = if (l.dropWhile (· != 60)).isEmpty then -1 else ((l.takeWhile (· != 60)).length : Int)
 | [] => rfl
 | b :: l => by
  have ih := index60 l
  rw [Lib.indexByte, List.dropWhile_cons, List.takeWhile_cons]
  by_cases hb : b = 60
  ·subst hb; rfl
  ·have h1 : (b == 60) = false := by rw [beq_eq_false_iff_ne]; exact hb
   have h2 : (b != 60) = true := by rw [bne, h1]; rfl
   rw [h1, h2, ih]
   simp only [Bool.false_eq_true, if_false, if_true]
   split
   ·rfl
   ·rw [if_neg (by rw [beq_iff_eq]; omega)]
    simp
theorem tw60_take (l : List UInt8) : l.take (l.takeWhile (· != 60)).length = l.takeWhile (· != 60) ∧ l.drop (l.takeWhile (· != 60)).length = l.dropWhile (· != 60) := tw_take _ l
theorem tw60_le (l : List UInt8) : (l.takeWhile (· != 60)).length ≤ l.length := tw_le _ l
theorem index_any13 (l : List UInt8) (w : World) : Calls Tryz.prog 158 #[.string (asS l), .string ⟨#[60]⟩] w fun e w' => e = .returned (.int .i64 (if (l.dropWhile (· != 60)).isEmpty then -1 else ((l.takeWhile (· != 60)).length : Int))) ∧ w' = w := by
 have := Tryz.strings_Index_one (asS l) 60 w
 rw [asS_data, index60] at this
 exact this
theorem contains_end (l : List UInt8) (hl : l.length ≤ 1000000) (w : World) (hT : TabE w) : Calls Tryz.prog 195 #[.string (asS l), .string ⟨#[93, 93, 62]⟩] w fun e w' => e = .returned (.bool (untX [93, 93, 62] l).isSome) ∧ w' = w := by
 obtain ⟨m, hm⟩ := hT.max
 refine (Tryz.strings_Contains (asS l) ⟨#[93, 93, 62]⟩ m w (by rw [asS_size]; omega) hm).mono ?_
 rintro e w' ⟨rfl, rfl⟩
 refine ⟨?_, rfl⟩
 rw [unt_index [93, 93, 62] (by simp) l, asS_data]
 unfold Lib.contains
 show Ending.returned (.bool (decide (0 ≤ Lib.index l [93, 93, 62]))) = _
 split
 ·rename_i h; rw [decide_eq_true h]; rfl
 ·rename_i h; rw [decide_eq_false h]; rfl
set_option maxRecDepth 100000 in
theorem piece_a (l : List UInt8) (m R : Nat) (hl : l.length ≤ 100000) (hR : 7 < R) (hp : preX [60, 33, 91, 67, 68, 65, 84, 65, 91] l = true) (hu : untX [93, 93, 62] (l.drop 9) = none) (w : World) (hT : TabE w) (h : Rd w R l m) : Calls Tryz.prog 197 #[.pointer (some ⟨R, 0, none⟩)] w fun e w' => (∃ s, e = .returned (.tuple #[.string s, .int .i64 5])) ∧ w.grownBy w' (some R) := by
 have HTO : Hid (∀ W, w.grownBy W (some R) → TabE W) := fun W hW => hT.to hW hR
 have HR0 := hid h
 have HO0 := hid (to_refl R w)
 have H1 : Hid (∀ W, Rd W R l m → Calls Tryz.prog 137 #[.pointer (some ⟨R, 0, none⟩), .string ⟨#[60, 33, 91, 67, 68, 65, 84, 65, 91]⟩] W fun e w' => e = .returned (.bool (preX [60, 33, 91, 67, 68, 65, 84, 65, 91] l)) ∧ Rd w' R (passX [60, 33, 91, 67, 68, 65, 84, 65, 91] l) m ∧ Only R W w') := fun W hW => pass_any l _ m R W hW
 have hd : passX [60, 33, 91, 67, 68, 65, 84, 65, 91] l = l.drop 9 := pass_yes hp
 rw [hp, hd] at H1
 have H2 : Hid (∀ W, TabE W → Rd W R (l.drop 9) m → Calls Tryz.prog 161 #[.pointer (some ⟨R, 0, none⟩), .string ⟨#[93, 93, 62]⟩] W fun e w' => e = .returned (.tuple #[.string ⟨#[]⟩, .int .i64 5]) ∧ Rd w' R (l.drop 9) m ∧ W.grownBy w' (some R)) := fun W h1 h2 => upTo_no (l.drop 9) [93, 93, 62] m R (by rw [List.length_drop]; omega) (by simp) hu W h1 h2
 clear h hT hl hR hp hu hd
 generalize l.drop 9 = l9 at H1 H2
 go_enter Tryz.func197, Tryz.ntmps197
 go_wp2_with fail
 refine (H1.out _ HR0.out).mono ?_
 rintro e W1 ⟨rfl, hr, ho⟩
 have HR1 := hid hr
 have HO1 := hid (HO0.out.trans (to_only ho))
 clear hr ho
 go_wp2_with fail
 refine (H2.out _ (HTO.out _ HO1.out) HR1.out).mono ?_
 rintro e W2 ⟨rfl, hr, ho⟩
 have HR2 := hid hr
 have HO2 := hid (HO1.out.trans ho)
 clear hr ho
 go_wp2_with fail
 go_ret2
 exact ⟨⟨_, rfl⟩, HO2.out⟩
set_option maxRecDepth 100000 in
theorem piece_b (l : List UInt8) (m R : Nat) (hl : l.length ≤ 100000) (hR : 7 < R) (s r : List UInt8) (hp : preX [60, 33, 91, 67, 68, 65, 84, 65, 91] l = true) (hu : untX [93, 93, 62] (l.drop 9) = some (s, r)) (w : World) (hT : TabE w) (h : Rd w R l m) : Calls Tryz.prog 197 #[.pointer (some ⟨R, 0, none⟩)] w fun e w' => e = .returned (.tuple #[.string (asS s), .int .i64 0]) ∧ Rd w' R r m ∧ w.grownBy w' (some R) := by
 have HTO : Hid (∀ W, w.grownBy W (some R) → TabE W) := fun W hW => hT.to hW hR
 have HR0 := hid h
 have HO0 := hid (to_refl R w)
 have H1 : Hid (∀ W, Rd W R l m → Calls Tryz.prog 137 #[.pointer (some ⟨R, 0, none⟩), .string ⟨#[60, 33, 91, 67, 68, 65, 84, 65, 91]⟩] W fun e w' => e = .returned (.bool (preX [60, 33, 91, 67, 68, 65, 84, 65, 91] l)) ∧ Rd w' R (passX [60, 33, 91, 67, 68, 65, 84, 65, 91] l) m ∧ Only R W w') := fun W hW => pass_any l _ m R W hW
 have hd : passX [60, 33, 91, 67, 68, 65, 84, 65, 91] l = l.drop 9 := pass_yes hp
 rw [hp, hd] at H1
 have H2 : Hid (∀ W, TabE W → Rd W R (l.drop 9) m → Calls Tryz.prog 161 #[.pointer (some ⟨R, 0, none⟩), .string ⟨#[93, 93, 62]⟩] W fun e w' => e = .returned (.tuple #[.string (asS s), .int .i64 0]) ∧ Rd w' R r m ∧ W.grownBy w' (some R)) := fun W h1 h2 => upTo_ok (l.drop 9) [93, 93, 62] s r m R (by rw [List.length_drop]; omega) (by simp) hu W h1 h2
 clear h hT hl hR hp hu hd
 generalize l.drop 9 = l9 at H1 H2
 generalize asS s = S at H2 ⊢
 go_enter Tryz.func197, Tryz.ntmps197
 go_wp2_with fail
 refine (H1.out _ HR0.out).mono ?_
 rintro e W1 ⟨rfl, hr, ho⟩
 have HR1 := hid hr
 have HO1 := hid (HO0.out.trans (to_only ho))
 clear hr ho
 go_wp2_with fail
 refine (H2.out _ (HTO.out _ HO1.out) HR1.out).mono ?_
 rintro e W2 ⟨rfl, hr, ho⟩
 have HR2 := hid hr
 have HO2 := hid (HO1.out.trans ho)
 clear hr ho
 go_wp2_with fail
 go_ret2
 exact ⟨rfl, HR2.out, HO2.out⟩
set_option maxRecDepth 100000 in
theorem piece_c (l : List UInt8) (m R : Nat) (hl : l.length ≤ 100000) (hR : 7 < R) (hp : preX [60, 33, 91, 67, 68, 65, 84, 65, 91] l = false) (he : (l.dropWhile (· != 60)).isEmpty = true) (w : World) (hT : TabE w) (h : Rd w R l m) : Calls Tryz.prog 197 #[.pointer (some ⟨R, 0, none⟩)] w fun e w' => (∃ s, e = .returned (.tuple #[.string s, .int .i64 5])) ∧ w.grownBy w' (some R) := by
 have HTO : Hid (∀ W, w.grownBy W (some R) → TabE W) := fun W hW => hT.to hW hR
 have HR0 := hid h
 have HO0 := hid (to_refl R w)
 have H1 : Hid (∀ W, Rd W R l m → Calls Tryz.prog 137 #[.pointer (some ⟨R, 0, none⟩), .string ⟨#[60, 33, 91, 67, 68, 65, 84, 65, 91]⟩] W fun e w' => e = .returned (.bool (preX [60, 33, 91, 67, 68, 65, 84, 65, 91] l)) ∧ Rd w' R (passX [60, 33, 91, 67, 68, 65, 84, 65, 91] l) m ∧ Only R W w') := fun W hW => pass_any l _ m R W hW
 rw [hp, pass_no hp] at H1
 have H2 := hid (index_any13 l)
 rw [he, if_pos rfl] at H2
 clear h hT hl hR hp he HTO
 go_enter Tryz.func197, Tryz.ntmps197
 go_wp2_with fail
 refine (H1.out _ HR0.out).mono ?_
 rintro e W1 ⟨rfl, hr, ho⟩
 have HR1 := hid hr
 have HO1 := hid (HO0.out.trans (to_only ho))
 clear hr ho
 obtain ⟨c0, _⟩ := HR1.out.cells
 generalize asS l = L at H2 c0
 go_wp2_with fail
 refine (H2.out _).mono ?_
 rintro e W ⟨rfl, rfl⟩
 go_wp2_with fail
 go_ret2
 exact ⟨⟨_, rfl⟩, HO1.out⟩
set_option maxRecDepth 100000 in
theorem piece_d (l : List UInt8) (m R : Nat) (hl : l.length ≤ 100000) (hR : 7 < R) (hp : preX [60, 33, 91, 67, 68, 65, 84, 65, 91] l = false) (he : (l.dropWhile (· != 60)).isEmpty = false) (hc : (untX [93, 93, 62] (l.takeWhile (· != 60))).isSome = true) (w : World) (hT : TabE w) (h : Rd w R l m) : Calls Tryz.prog 197 #[.pointer (some ⟨R, 0, none⟩)] w fun e w' => (∃ s, e = .returned (.tuple #[.string s, .int .i64 5])) ∧ w.grownBy w' (some R) := by
 have HTO : Hid (∀ W, w.grownBy W (some R) → TabE W) := fun W hW => hT.to hW hR
 have HR0 := hid h
 have HO0 := hid (to_refl R w)
 have H1 : Hid (∀ W, Rd W R l m → Calls Tryz.prog 137 #[.pointer (some ⟨R, 0, none⟩), .string ⟨#[60, 33, 91, 67, 68, 65, 84, 65, 91]⟩] W fun e w' => e = .returned (.bool (preX [60, 33, 91, 67, 68, 65, 84, 65, 91] l)) ∧ Rd w' R (passX [60, 33, 91, 67, 68, 65, 84, 65, 91] l) m ∧ Only R W w') := fun W hW => pass_any l _ m R W hW
 rw [hp, pass_no hp] at H1
 have H2 := hid (index_any13 l)
 rw [he, if_neg (by simp)] at H2
 have HX1 : Hid ((asS l).extract 0 (l.takeWhile (· != 60)).length = asS (l.takeWhile (· != 60))) := by
  show _ = _
  rw [ext8_to, (tw60_take l).1]
 have HX2 : Hid ((asS l).extract (l.takeWhile (· != 60)).length (asS l).size = asS (l.dropWhile (· != 60))) := by
  show _ = _
  rw [ext8_from, (tw60_take l).2]
 have hz : (l.takeWhile (· != 60)).length ≤ (asS l).size := by rw [asS_size]; exact tw60_le l
 have hzl : (asS l).size ≤ 100000 := by rw [asS_size]; exact hl
 have htl : (l.takeWhile (· != 60)).length ≤ 100000 := Nat.le_trans (tw60_le l) hl
 have H3 := hid (fun W hW => contains_end (l.takeWhile (· != 60)) (by omega) W hW)
 have H4 := hid (fun W hW => unescape_any (l.takeWhile (· != 60)) htl W hW)
 rw [hc] at H3
 clear h hT hl hR hp he hc
 generalize hk : (l.takeWhile (· != 60)).length = k at H2 HX1 HX2 hz htl
 clear hk
 generalize l.takeWhile (· != 60) = tw at HX1 H3 H4
 generalize l.dropWhile (· != 60) = dw at HX2
 generalize asS tw = TW at HX1 H3
 have hb1 : (0 : Int) ≤ (k : Int) := by omega
 have hb0 : ¬ ((k : Int) < 0) := by omega
 go_enter Tryz.func197, Tryz.ntmps197
 go_wp2_with fail
 refine (H1.out _ HR0.out).mono ?_
 rintro e W1 ⟨rfl, hr, ho⟩
 have HR1 := hid hr
 have HO1 := hid (HO0.out.trans (to_only ho))
 clear hr ho
 obtain ⟨c0, _⟩ := HR1.out.cells
 have HRL := hid HR1.out
 unfold Rd at HRL
 generalize asS l = L at H2 c0 HX1 HX2 hz hzl HRL
 go_wp2_with fail
 refine (H2.out _).mono ?_
 rintro e W ⟨rfl, rfl⟩
 have x1 := HX1.out
 have x2 := HX2.out
 generalize asS dw = DW at x2 HX2
 go_wp2_with (first
  | (refine store_part rfl 9 _ _ rfl R 0 (.string DW) _ _ #[.string DW, .int .i64 m] rfl rfl info9 (by simp) rfl rfl HRL.out rfl ?_)
  | fail)
 intro W2 ho hr
 have HRC2 := hid hr
 have HO2 := hid (HO1.out.trans (to_only ho))
 clear ho hr
 go_wp2_with fail
 refine (H3.out _ (HTO.out _ HO2.out)).mono ?_
 rintro e W ⟨rfl, rfl⟩
 go_wp2_with fail
 go_ret2
 exact ⟨⟨_, rfl⟩, HO2.out⟩
set_option maxRecDepth 100000 in
theorem piece_e (l : List UInt8) (m R : Nat) (hl : l.length ≤ 100000) (hR : 7 < R) (hp : preX [60, 33, 91, 67, 68, 65, 84, 65, 91] l = false) (he : (l.dropWhile (· != 60)).isEmpty = false) (hc : (untX [93, 93, 62] (l.takeWhile (· != 60))).isSome = false) (hv : unA (l.takeWhile (· != 60)) = none) (w : World) (hT : TabE w) (h : Rd w R l m) : Calls Tryz.prog 197 #[.pointer (some ⟨R, 0, none⟩)] w fun e w' => (∃ s, e = .returned (.tuple #[.string s, .int .i64 5])) ∧ w.grownBy w' (some R) := by
 have HTO : Hid (∀ W, w.grownBy W (some R) → TabE W) := fun W hW => hT.to hW hR
 have HR0 := hid h
 have HO0 := hid (to_refl R w)
 have H1 : Hid (∀ W, Rd W R l m → Calls Tryz.prog 137 #[.pointer (some ⟨R, 0, none⟩), .string ⟨#[60, 33, 91, 67, 68, 65, 84, 65, 91]⟩] W fun e w' => e = .returned (.bool (preX [60, 33, 91, 67, 68, 65, 84, 65, 91] l)) ∧ Rd w' R (passX [60, 33, 91, 67, 68, 65, 84, 65, 91] l) m ∧ Only R W w') := fun W hW => pass_any l _ m R W hW
 rw [hp, pass_no hp] at H1
 have H2 := hid (index_any13 l)
 rw [he, if_neg (by simp)] at H2
 have HX1 : Hid ((asS l).extract 0 (l.takeWhile (· != 60)).length = asS (l.takeWhile (· != 60))) := by
  show _ = _
  rw [ext8_to, (tw60_take l).1]
 have HX2 : Hid ((asS l).extract (l.takeWhile (· != 60)).length (asS l).size = asS (l.dropWhile (· != 60))) := by
  show _ = _
  rw [ext8_from, (tw60_take l).2]
 have hz : (l.takeWhile (· != 60)).length ≤ (asS l).size := by rw [asS_size]; exact tw60_le l
 have hzl : (asS l).size ≤ 100000 := by rw [asS_size]; exact hl
 have htl : (l.takeWhile (· != 60)).length ≤ 100000 := Nat.le_trans (tw60_le l) hl
 have H3 := hid (fun W hW => contains_end (l.takeWhile (· != 60)) (by omega) W hW)
 have H4 := hid (fun W hW => unescape_any (l.takeWhile (· != 60)) htl W hW)
 rw [hc] at H3
 rw [hv] at H4
 have hE : unE (none : Option (List UInt8)) = 5 := rfl
 rw [hE] at H4
 clear h hT hl hR hp he hc hv hE
 generalize asS ((none : Option (List UInt8)).getD []) = X at H4
 generalize hk : (l.takeWhile (· != 60)).length = k at H2 HX1 HX2 hz htl
 clear hk
 generalize l.takeWhile (· != 60) = tw at HX1 H3 H4
 generalize l.dropWhile (· != 60) = dw at HX2
 generalize asS tw = TW at HX1 H3 H4
 have hb1 : (0 : Int) ≤ (k : Int) := by omega
 have hb0 : ¬ ((k : Int) < 0) := by omega
 go_enter Tryz.func197, Tryz.ntmps197
 go_wp2_with fail
 refine (H1.out _ HR0.out).mono ?_
 rintro e W1 ⟨rfl, hr, ho⟩
 have HR1 := hid hr
 have HO1 := hid (HO0.out.trans (to_only ho))
 clear hr ho
 obtain ⟨c0, _⟩ := HR1.out.cells
 have HRL := hid HR1.out
 unfold Rd at HRL
 generalize asS l = L at H2 c0 HX1 HX2 hz hzl HRL
 go_wp2_with fail
 refine (H2.out _).mono ?_
 rintro e W ⟨rfl, rfl⟩
 have x1 := HX1.out
 have x2 := HX2.out
 generalize asS dw = DW at x2 HX2
 go_wp2_with (first
  | (refine store_part rfl 9 _ _ rfl R 0 (.string DW) _ _ #[.string DW, .int .i64 m] rfl rfl info9 (by simp) rfl rfl HRL.out rfl ?_)
  | fail)
 intro W2 ho hr
 have HRC2 := hid hr
 have HO2 := hid (HO1.out.trans (to_only ho))
 clear ho hr
 go_wp2_with fail
 refine (H3.out _ (HTO.out _ HO2.out)).mono ?_
 rintro e W ⟨rfl, rfl⟩
 go_wp2_with fail
 refine (H4.out _ (HTO.out _ HO2.out)).mono ?_
 rintro e W3 ⟨rfl, ho⟩
 have HO3 := hid (HO2.out.trans (to_below ho))
 clear ho
 go_wp2_with fail
 go_ret2
 exact ⟨⟨_, rfl⟩, HO3.out⟩
set_option maxRecDepth 100000 in
theorem piece_f (l : List UInt8) (m R : Nat) (hl : l.length ≤ 100000) (hR : 7 < R) (s : List UInt8) (hp : preX [60, 33, 91, 67, 68, 65, 84, 65, 91] l = false) (he : (l.dropWhile (· != 60)).isEmpty = false) (hc : (untX [93, 93, 62] (l.takeWhile (· != 60))).isSome = false) (hv : unA (l.takeWhile (· != 60)) = some s) (w : World) (hT : TabE w) (h : Rd w R l m) : Calls Tryz.prog 197 #[.pointer (some ⟨R, 0, none⟩)] w fun e w' => e = .returned (.tuple #[.string (asS s), .int .i64 0]) ∧ Rd w' R (l.dropWhile (· != 60)) m ∧ w.grownBy w' (some R) := by
 have HTO : Hid (∀ W, w.grownBy W (some R) → TabE W) := fun W hW => hT.to hW hR
 have HR0 := hid h
 have HO0 := hid (to_refl R w)
 have H1 : Hid (∀ W, Rd W R l m → Calls Tryz.prog 137 #[.pointer (some ⟨R, 0, none⟩), .string ⟨#[60, 33, 91, 67, 68, 65, 84, 65, 91]⟩] W fun e w' => e = .returned (.bool (preX [60, 33, 91, 67, 68, 65, 84, 65, 91] l)) ∧ Rd w' R (passX [60, 33, 91, 67, 68, 65, 84, 65, 91] l) m ∧ Only R W w') := fun W hW => pass_any l _ m R W hW
 rw [hp, pass_no hp] at H1
 have H2 := hid (index_any13 l)
 rw [he, if_neg (by simp)] at H2
 have HX1 : Hid ((asS l).extract 0 (l.takeWhile (· != 60)).length = asS (l.takeWhile (· != 60))) := by
  show _ = _
  rw [ext8_to, (tw60_take l).1]
 have HX2 : Hid ((asS l).extract (l.takeWhile (· != 60)).length (asS l).size = asS (l.dropWhile (· != 60))) := by
  show _ = _
  rw [ext8_from, (tw60_take l).2]
 have hz : (l.takeWhile (· != 60)).length ≤ (asS l).size := by rw [asS_size]; exact tw60_le l
 have hzl : (asS l).size ≤ 100000 := by rw [asS_size]; exact hl
 have htl : (l.takeWhile (· != 60)).length ≤ 100000 := Nat.le_trans (tw60_le l) hl
 have H3 := hid (fun W hW => contains_end (l.takeWhile (· != 60)) (by omega) W hW)
 have H4 := hid (fun W hW => unescape_any (l.takeWhile (· != 60)) htl W hW)
 rw [hc] at H3
 rw [hv] at H4
 have hE : unE (some s) = 0 := rfl
 have hG : (some s).getD [] = s := rfl
 rw [hE, hG] at H4
 clear h hT hl hR hp he hc hv hE hG
 generalize asS s = X at H4 ⊢
 generalize hk : (l.takeWhile (· != 60)).length = k at H2 HX1 HX2 hz htl
 clear hk
 generalize l.takeWhile (· != 60) = tw at HX1 H3 H4
 generalize l.dropWhile (· != 60) = dw at HX2 ⊢
 generalize asS tw = TW at HX1 H3 H4
 have hb1 : (0 : Int) ≤ (k : Int) := by omega
 have hb0 : ¬ ((k : Int) < 0) := by omega
 go_enter Tryz.func197, Tryz.ntmps197
 go_wp2_with fail
 refine (H1.out _ HR0.out).mono ?_
 rintro e W1 ⟨rfl, hr, ho⟩
 have HR1 := hid hr
 have HO1 := hid (HO0.out.trans (to_only ho))
 clear hr ho
 obtain ⟨c0, _⟩ := HR1.out.cells
 have HRL := hid HR1.out
 unfold Rd at HRL
 generalize asS l = L at H2 c0 HX1 HX2 hz hzl HRL
 go_wp2_with fail
 refine (H2.out _).mono ?_
 rintro e W ⟨rfl, rfl⟩
 have x1 := HX1.out
 have x2 := HX2.out
 obtain ⟨DW, hDW⟩ : ∃ DW, asS dw = DW := ⟨_, rfl⟩
 have HDW := hid hDW
 rw [hDW] at x2
 clear hDW
 go_wp2_with (first
  | (refine store_part rfl 9 _ _ rfl R 0 (.string DW) _ _ #[.string DW, .int .i64 m] rfl rfl info9 (by simp) rfl rfl HRL.out rfl ?_)
  | fail)
 intro W2 ho hr
 have HRC2 := hid hr
 have HO2 := hid (HO1.out.trans (to_only ho))
 clear ho hr
 go_wp2_with fail
 refine (H3.out _ (HTO.out _ HO2.out)).mono ?_
 rintro e W ⟨rfl, rfl⟩
 go_wp2_with fail
 refine (H4.out _ (HTO.out _ HO2.out)).mono ?_
 rintro e W3 ⟨rfl, ho⟩
 have HO3 := hid (HO2.out.trans (to_below ho))
 have HRF := hid (row_keep ho HRC2.out)
 clear ho
 go_wp2_with fail
 go_ret2
 exact ⟨rfl, by unfold Rd; rw [HDW.out]; exact HRF.out, HO3.out⟩
theorem pieceR_any (l : List UInt8) (m R : Nat) (hl : l.length ≤ 100000) (hR : 7 < R) (w : World) (hT : TabE w) (h : Rd w R l m) : Calls Tryz.prog 197 #[.pointer (some ⟨R, 0, none⟩)] w fun e w' => w.grownBy w' (some R) ∧ ((∃ s r, pieceX l = .ok (s, r) ∧ e = .returned (.tuple #[.string (asS s), .int .i64 0]) ∧ Rd w' R r m) ∨ (pieceX l = .error 5 ∧ ∃ s, e = .returned (.tuple #[.string s, .int .i64 5]))) := by
 have bad : pieceX l = .error 5 → (Calls Tryz.prog 197 #[.pointer (some ⟨R, 0, none⟩)] w fun e w' => (∃ s, e = .returned (.tuple #[.string s, .int .i64 5])) ∧ w.grownBy w' (some R)) → Calls Tryz.prog 197 #[.pointer (some ⟨R, 0, none⟩)] w fun e w' => w.grownBy w' (some R) ∧ ((∃ s r, pieceX l = .ok (s, r) ∧ e = .returned (.tuple #[.string (asS s), .int .i64 0]) ∧ Rd w' R r m) ∨ (pieceX l = .error 5 ∧ ∃ s, e = .returned (.tuple #[.string s, .int .i64 5]))) := fun hn hc => hc.mono fun e w' hp => ⟨hp.2, .inr ⟨hn, hp.1⟩⟩
 cases hp : preX [60, 33, 91, 67, 68, 65, 84, 65, 91] l with
 | true =>
  cases hu : untX [93, 93, 62] (l.drop 9) with
  | none => exact bad (by unfold pieceX; rw [hp, hu]; rfl) (piece_a l m R hl hR hp hu w hT h)
  | some p =>
   obtain ⟨s, r⟩ := p
   exact (piece_b l m R hl hR s r hp hu w hT h).mono fun e w' hq => ⟨hq.2.2, .inl ⟨s, r, by unfold pieceX; rw [hp, hu]; rfl, hq.1, hq.2.1⟩⟩
 | false =>
  cases he : (l.dropWhile (· != 60)).isEmpty with
  | true => exact bad (by unfold pieceX; rw [hp, he]; simp) (piece_c l m R hl hR hp he w hT h)
  | false =>
   cases hc : (untX [93, 93, 62] (l.takeWhile (· != 60))).isSome with
   | true => exact bad (by unfold pieceX; rw [hp, he, hc]; simp) (piece_d l m R hl hR hp he hc w hT h)
   | false =>
    cases hv : unA (l.takeWhile (· != 60)) with
    | none => exact bad (by unfold pieceX; rw [hp, he, hc, hv]; simp) (piece_e l m R hl hR hp he hc hv w hT h)
    | some s => exact (piece_f l m R hl hR s hp he hc hv w hT h).mono fun e w' hq => ⟨hq.2.2, .inl ⟨s, _, by unfold pieceX; rw [hp, he, hc, hv]; simp, hq.1, hq.2.1⟩⟩
end Go.Proofs.YtgoiafndapemjaaGreatDoor
namespace Go.Proofs.YtgoiafndapemjaaGreatDoor
open Go.RowKit Go.BigFrame
theorem str_nil8 (l : List UInt8) : ((asS l).toList == []) = l.isEmpty := by
 cases l with
 | nil =>
  have k : (asS []).toList = [] := by simp [asS]
  rw [k]; rfl
 | cons c r => exact str_ne (asS (c :: r)) (by rw [asS_size]; simp)
def PieceB (bg : Bool) (l : List UInt8) (m R : Nat) (e : Ending) (w' : World) : Prop :=
 (pieceX l = .error 5 ∧ ∃ s, e = .returned (.tuple #[.string s, .int .i64 5])) ∨
 ∃ s r, pieceX l = .ok (s, r) ∧ (((bg && !s.isEmpty) = false ∧ e = .returned (.tuple #[.string (asS s), .int .i64 0]) ∧ Rd w' R r m) ∨ ((bg && !s.isEmpty) = true ∧ m + 1 ≤ 4096 ∧ e = .returned (.tuple #[.string (asS s), .int .i64 0]) ∧ Rd w' R r (m + 1)) ∨ ((bg && !s.isEmpty) = true ∧ ¬ m + 1 ≤ 4096 ∧ e = .returned (.tuple #[.string (asS s), .int .i64 3])))
theorem pieceB_any (bg : Bool) (l : List UInt8) (m R : Nat) (hl : l.length ≤ 100000) (hm : m ≤ 1000000) (hR : 7 < R) (w : World) (hT : TabE w) (h : Rd w R l m) : Calls Tryz.prog 165 #[.pointer (some ⟨R, 0, none⟩), .bool bg] w fun e w' => w.grownBy w' (some R) ∧ PieceB bg l m R e w' := by
 have H1 := hid (pieceR_any l m R hl hR w hT h)
 have H2 := hid (fun (r : List UInt8) W hW => count_any r m R hm W hW)
 clear hl hm hR hT h
 cases bg
 ·go_enter Tryz.func165, Tryz.ntmps165
  go_wp2_with fail
  refine H1.out.mono ?_
  rintro e W ⟨ho, (⟨s, r, hp, rfl, hr⟩ | ⟨hp, s, rfl⟩)⟩
  ·have HP := hid hp
   have HR1 := hid hr
   have HO := hid ho
   clear hp hr ho
   obtain ⟨S, hS⟩ : ∃ S, asS s = S := ⟨_, rfl⟩
   have HS := hid hS
   rw [hS]
   clear hS
   go_wp2_with fail
   go_ret2
   exact ⟨HO.out, .inr ⟨s, r, HP.out, .inl ⟨rfl, by rw [HS.out]; rfl, HR1.out⟩⟩⟩
  ·have HP := hid hp
   have HO := hid ho
   clear hp ho
   go_wp2_with fail
   go_ret2
   exact ⟨HO.out, .inl ⟨HP.out, _, rfl⟩⟩
 ·go_enter Tryz.func165, Tryz.ntmps165
  go_wp2_with fail
  refine H1.out.mono ?_
  rintro e W ⟨ho, (⟨s, r, hp, rfl, hr⟩ | ⟨hp, s, rfl⟩)⟩
  ·have HP := hid hp
   have HR1 := hid hr
   have HO := hid ho
   clear hp hr ho
   have hq := str_nil8 s
   have HE : Hid ((true && !s.isEmpty) = !s.isEmpty) := Bool.true_and _
   generalize s.isEmpty = z at hq HE
   obtain ⟨S, hS⟩ : ∃ S, asS s = S := ⟨_, rfl⟩
   have HS := hid hS
   rw [hS] at hq ⊢
   clear hS
   have HZ : Hid ((true && !s.isEmpty) = !z) := by show _ = _; rw [Bool.true_and, ← str_nil8, HS.out, hq]
   cases z
   ·have hq' : (S.toList != []) = true := by rw [bne, hq]; rfl
    by_cases hm4 : m + 1 ≤ 4096
    ·have H3 := hid (H2.out r)
     simp only [if_pos hm4] at H3
     have HM := hid hm4
     clear hm4
     go_wp2_with fail
     refine (H3.out _ HR1.out).mono ?_
     rintro e W2 ⟨rfl, hr, ho⟩
     have HR2 := hid hr
     have HO2 := hid (HO.out.trans (to_only ho))
     clear hr ho
     go_wp2_with fail
     go_ret2
     exact ⟨HO2.out, .inr ⟨s, r, HP.out, .inr (.inl ⟨HZ.out, HM.out, by rw [HS.out]; rfl, HR2.out⟩)⟩⟩
    ·have H3 := hid (H2.out r)
     simp only [if_neg hm4] at H3
     have HM := hid hm4
     clear hm4
     go_wp2_with fail
     refine (H3.out _ HR1.out).mono ?_
     rintro e W2 ⟨rfl, hr, ho⟩
     have HO2 := hid (HO.out.trans (to_only ho))
     clear hr ho
     go_wp2_with fail
     go_ret2
     exact ⟨HO2.out, .inr ⟨s, r, HP.out, .inr (.inr ⟨HZ.out, HM.out, by rw [HS.out]; rfl⟩)⟩⟩
   ·have hq' : (S.toList != []) = false := by rw [bne, hq]; rfl
    go_wp2_with fail
    go_ret2
    exact ⟨HO.out, .inr ⟨s, r, HP.out, .inl ⟨HZ.out, by rw [HS.out]; rfl, HR1.out⟩⟩⟩
  ·have HP := hid hp
   have HO := hid ho
   clear hp ho
   go_wp2_with fail
   go_ret2
   exact ⟨HO.out, .inl ⟨HP.out, _, rfl⟩⟩
theorem appendText_any {P : Nat → Prop} (d b : Nat) (kv wv : Value) (kd : List (Tr d)) (ws : List UInt8) (w : World) (hk : OwnN P w d kv kd) (hw : Wd w b wv ws) (hn : kd.length ≤ 1000000) (hP : ∀ q, w.heap.size ≤ q → P q) :
  Calls Tryz.prog 164 #[kv, wv] w fun e w' => ∃ v', e = .returned v' ∧ OwnN P w' d v' (kd ++ pend d ws) ∧ w.grownBy w' (blk kv) ∧ (blk v' = blk kv ∨ ∃ q, blk v' = some q ∧ w.heap.size ≤ q) := by
 obtain ⟨A, c, rfl, hA, hz⟩ := hw.shape
 obtain ⟨kA, kc, hkv, hkb, _⟩ := hk.shape
 have HK := hid hk
 have HKV := hid hkv
 by_cases h0 : ws = []
 ·subst h0
  have e : kd ++ pend d [] = kd := by show kd ++ [] = kd; exact List.append_nil _
  rw [e]
  clear hA hz hw hP hn
  subst hkv
  go_enter Tryz.func164, Tryz.ntmps164
  go_wp2_with fail
  go_ret
  exact ⟨_, rfl, HK.out, ⟨rfl, rfl, rfl, Nat.le_refl _, fun _ _ _ => rfl⟩, .inl rfl⟩
 ·have hlen : ((ws.length : Int) == 0) = false := by
   rw [beq_eq_false_iff_ne]
   have := List.length_pos_iff.2 h0
   omega
  have e : pend d ws = [leaf d ([], [], ws)] := by
   unfold pend
   have : ws.isEmpty = false := by cases ws <;> simp_all
   rw [this]; rfl
  rw [e]
  have hcv : ∀ W, (BytesAt W A ws) → (convert 42 9 (.slice A ws.length c)).run Tryz.prog W = .ok (.string (asS ws)) W := fun W hW => str_at hW hz
  have hc0 := hcv w hA
  have HND : Hid (∀ W, NdAt (fun q => P q ∧ blk kv ≠ some q) d W #[.string ⟨#[]⟩, .slice none 0 0, .string (asS ws), .slice none 0 0] (leaf d ([], [], ws))) := fun W => NdAt.mk0 (l := ([], [], ws)) ⟨fun h => absurd h (by simp), fun h => absurd h (by simp)⟩
  have HN := hid hn
  have HP := hid hP
  have HKB := hid hkb
  clear hA hz hw hcv h0 e hn hP hkb hk
  generalize ws.length = n at hlen hc0 ⊢
  generalize asS ws = WS at hc0 HND
  subst hkv
  go_enter Tryz.func164, Tryz.ntmps164
  go_wp2_with (first
   | (refine wpList_nd rfl _ _ rfl P d _ _ kd _ (leaf d ([], [], ws)) rfl rfl (HK.out.below ((Below.refl _ _).alloc (Nat.le_refl _) _)) (src_nd (HND.out _) w.heap.size 1 (heap_alloc_new w _)) rfl (HND.out _) HN.out (HP.out _ (by simp)) ?_)
   | fail)
  intro v' w' k1 k2 k3
  have K1 := hid k1
  have K2 := hid k2
  have K3 := hid k3
  clear k1 k2 k3
  obtain ⟨vA, vc, hv', _, _⟩ := K1.out.shape
  subst hv'
  go_wp2_with fail
  go_ret
  refine ⟨_, rfl, K1.out, (World.grownBy_alloc w _ _).trans K2.out, ?_⟩
  rcases K3.out with k | k
  ·exact .inl k
  ·exact .inr ⟨_, k, by simp⟩
end Go.Proofs.YtgoiafndapemjaaGreatDoor
namespace Go.Proofs.YtgoiafndapemjaaGreatDoor
open Go.RowKit Go.BigFrame
attribute [local go_sem ↓] loadN_eq
def ElPost (d lev : Nat) (l : List UInt8) (m R : Nat) (w : World) (e : Ending) (w' : World) : Prop := w.grownBy w' (some R) ∧
 ((∃ t l2 m2 cs, elX d lev l m = .ok (t, l2, m2) ∧ e = .returned (.tuple #[.agg cs, .int .i64 0]) ∧ NdAt (fun q => w.heap.size ≤ q) d w' cs t ∧ Rd w' R l2 m2) ∨
  (∃ (er : Nat) (A B C D : Value), elX d lev l m = .error er ∧ (er = 3 ∨ er = 5 ∨ er = 9) ∧ e = .returned (.tuple #[.agg #[A, B, C, D], .int .i64 er]) ∧ A.oneCell' = true ∧ B.oneCell' = true ∧ C.oneCell' = true ∧ D.oneCell' = true))
def ElOk (d lev : Nat) : Prop := ∀ (l : List UInt8) (m R : Nat) (w : World), l.length ≤ 65536 → (13 : UInt8) ∉ l → m ≤ 4096 → 7 < R → TabE w → Rd w R l m →
 Calls Tryz.prog 106 #[.pointer (some ⟨R, 0, none⟩), .int .i64 ((17 - lev : Nat) : Int)] w (ElPost d lev l m R w)
def KdPost (d lev : Nat) (l : List UInt8) (m R : Nat) (w : World) (e : Ending) (w' : World) : Prop := w.grownBy w' (some R) ∧
 ((∃ ks l2 m2 v, kidW d (elX d lev) [] l m = .ok (ks, l2, m2) ∧ e = .returned (.tuple #[v, .int .i64 0]) ∧ OwnN (fun q => w.heap.size ≤ q) w' d v ks ∧ Rd w' R l2 m2) ∨
  (∃ er : Nat, kidW d (elX d lev) [] l m = .error er ∧ (er = 3 ∨ er = 5 ∨ er = 9) ∧ e = .returned (.tuple #[.slice none 0 0, .int .i64 er])))
theorem el_name : ∀ (d lev : Nat) (l : List UInt8) (m : Nat) (t : Tr d) (l2 : List UInt8) (m2 : Nat), elX d lev l m = .ok (t, l2, m2) → (nmT d t).isEmpty = false
 | 0, lev, l, m, t, l2, m2, h => by
  unfold elX at h
  split at h
  ·cases h
  ·rename_i n al l3 m3 ho
   injection h with h
   injection h with h1 h2
   subst h1
   have := (op_sh ho).2.2.2.1
   show n.isEmpty = false
   cases n <;> simp_all [nameX]
  ·cases h
 | d + 1, lev, l, m, t, l2, m2, h => by
  unfold elX at h
  split at h
  ·cases h
  ·rename_i n al l3 m3 ho
   injection h with h
   injection h with h1 h2
   subst h1
   have := (op_sh ho).2.2.2.1
   show n.isEmpty = false
   cases n <;> simp_all [nameX]
  ·rename_i n al l3 m3 ho
   split at h
   ·cases h
   ·split at h
    ·cases h
    ·injection h with h
     injection h with h1 h2
     subst h1
     have := (op_sh ho).2.2.2.1
     show n.isEmpty = false
     cases n <;> simp_all [nameX]
structure KS (d lev : Nat) (V : Except Nat (List (Tr d) × List UInt8 × Nat)) (R : Nat) (l : List UInt8) (w : World) (kv wv : Value) (kd : List (Tr d)) (ws l' : List UInt8) (m' : Nat) (wr : World) : Prop where
 own : OwnN (fun q => w.heap.size ≤ q ∧ blk wv ≠ some q) wr d kv kd
 wd : Wd wr w.heap.size wv ws
 last : lastB d kd = false
 go : kidW d (elX d lev) (kd ++ pend d ws) l' m' = V
 suf : l' <:+ l
 many : m' ≤ 4096
 few : kd.length + ws.length + l'.length ≤ l.length
 rd : Rd wr R l' m'
 gto : w.grownBy wr (some R)
theorem KS.to {d lev : Nat} {V : Except Nat (List (Tr d) × List UInt8 × Nat)} {R : Nat} {l : List UInt8} {w : World} {kv wv : Value} {kd : List (Tr d)} {ws l' : List UInt8} {m' : Nat} {wr : World} (h : KS d lev V R l w kv wv kd ws l' m' wr) : w.grownBy wr (some R) := h.gto
section
variable {d lev : Nat} {V : Except Nat (List (Tr d) × List UInt8 × Nat)} {R : Nat} {l : List UInt8} {w : World} {kv wv : Value} {kd : List (Tr d)} {ws l' : List UInt8} {m' : Nat} {wr : World}
theorem KS.call (h : KS d lev V R l w kv wv kd ws l' m' wr) (hR : R < w.heap.size) {W : World} (hg : wr.grownBy W (some R)) : OwnN (fun q => w.heap.size ≤ q ∧ blk wv ≠ some q) W d kv kd ∧ Wd W w.heap.size wv ws ∧ w.grownBy W (some R) := by
 refine ⟨h.own.to hg fun q hq => by omega, h.wd.frame fun q hq hl => hg.block q hl fun e => ?_, h.to.trans hg⟩
 have := (h.wd.blk_ge q hq).1
 injection e with e
 omega
theorem KS.aside (h : KS d lev V R l w kv wv kd ws l' m' wr) (hR : R < w.heap.size) (ha : atAs l' = true) {c : List UInt8} (hc : asideX l' = some c) {W : World} (hg : wr.grownBy W (some R)) (hr : Rd W R c m') : KS d lev V R l w kv wv kd ws c m' W := by
 obtain ⟨h1, h2, h3⟩ := h.call hR hg
 have hs := aside_sh hc
 refine ⟨h1, h2, h.last, ?_, hs.1.trans h.suf, h.many, by have := h.few; have := hs.2; omega, hr, h3⟩
 rw [← h.go, kidW_as (el_sh d lev) _ _ _ h.many ha, hc]
theorem KS.aside_no (h : KS d lev V R l w kv wv kd ws l' m' wr) (ha : atAs l' = true) (hc : asideX l' = none) : V = .error 5 := by
 rw [← h.go, kidW_as (el_sh d lev) _ _ _ h.many ha, hc]
theorem KS.done (h : KS d lev V R l w kv wv kd ws l' m' wr) (he : preX [60, 47] l' = true) : V = .ok (kd ++ pend d ws, l', m') := by
 rw [← h.go]; exact kidW_end _ _ _ he
theorem KS.piece_no (h : KS d lev V R l w kv wv kd ws l' m' wr) (h0 : preX [60, 47] l' = false) (h1 : atAs l' = false) (h2 : preX [60, 33, 91, 67, 68, 65, 84, 65, 91] l' = true ∨ preX [60] l' = false) (hp : pieceX l' = .error 5) : V = .error 5 := by
 rw [← h.go, kidW_piece (el_sh d lev) _ _ _ h.many h0 h1 h2, hp]
theorem KS.piece_many (h : KS d lev V R l w kv wv kd ws l' m' wr) (h0 : preX [60, 47] l' = false) (h1 : atAs l' = false) (h2 : preX [60, 33, 91, 67, 68, 65, 84, 65, 91] l' = true ∨ preX [60] l' = false) {s r : List UInt8} (hp : pieceX l' = .ok (s, r)) (hb : (ws.isEmpty && !s.isEmpty) = true) (hm : ¬ m' + 1 ≤ 4096) : V = .error 3 := by
 rw [Bool.and_eq_true, Bool.not_eq_true'] at hb
 rw [← h.go, kidW_piece (el_sh d lev) _ _ _ h.many h0 h1 h2, hp]
 simp only
 rw [say_pend d kd ws s m' h.last, hb.1, hb.2]
 simp [hm]
theorem KS.say (h : KS d lev V R l w kv wv kd ws l' m' wr) (h0 : preX [60, 47] l' = false) (h1 : atAs l' = false) (h2 : preX [60, 33, 91, 67, 68, 65, 84, 65, 91] l' = true ∨ preX [60] l' = false) {s r : List UInt8} (hp : pieceX l' = .ok (s, r)) (m2 : Nat) (hb : ((ws.isEmpty && !s.isEmpty) = false ∧ m2 = m') ∨ ((ws.isEmpty && !s.isEmpty) = true ∧ m' + 1 ≤ 4096 ∧ m2 = m' + 1)) : kidW d (elX d lev) (kd ++ pend d (ws ++ s)) r m2 = V ∧ r <:+ l ∧ m2 ≤ 4096 ∧ kd.length + (ws ++ s).length + r.length ≤ l.length := by
 have hl := (piece_len hp).1
 refine ⟨?_, (piece_sh hp).trans h.suf, by have := h.many; omega, by have := h.few; rw [List.length_append]; omega⟩
 rw [← h.go, kidW_piece (el_sh d lev) _ _ _ h.many h0 h1 h2, hp]
 simp only
 rw [say_pend d kd ws s m' h.last]
 rcases hb with ⟨hb, rfl⟩ | ⟨hb, hm, rfl⟩
 ·cases hs : s.isEmpty with
  | true =>
   have : s = [] := List.isEmpty_iff.1 hs
   subst this
   rw [List.append_nil]
   rfl
  | false =>
   rw [hs] at hb
   have hw : ws.isEmpty = false := by cases hz : ws.isEmpty <;> simp_all
   rw [hw]
   rfl
 ·rw [Bool.and_eq_true, Bool.not_eq_true'] at hb
  have : ws = [] := List.isEmpty_iff.1 hb.1
  subst this
  rw [hb.2]
  simp [hm]
theorem KS.words (h : KS d lev V R l w kv wv kd ws l' m' wr) (hR : R < w.heap.size) {s r : List UInt8} {m2 : Nat} (hgo : kidW d (elX d lev) (kd ++ pend d (ws ++ s)) r m2 = V ∧ r <:+ l ∧ m2 ≤ 4096 ∧ kd.length + (ws ++ s).length + r.length ≤ l.length) {W W2 : World} (hg : wr.grownBy W (some R)) (hr : Rd W R r m2) {wv2 : Value} (hw : Wd W2 w.heap.size wv2 (ws ++ s)) (hg2 : W.grownBy W2 (blk wv)) (hb : blk wv2 = blk wv ∨ blk wv2 = some W.heap.size) : KS d lev V R l w kv wv2 kd (ws ++ s) r m2 W2 := by
 obtain ⟨h1, h2, h3⟩ := h.call hR hg
 refine ⟨?_, hw, h.last, hgo.1, hgo.2.1, hgo.2.2.1, hgo.2.2.2, ?_, ?_⟩
 ·refine h1.frame hg2.size fun q hq hl => ⟨hg2.block q hl fun e => hq.2 e.symm, hq.1, ?_⟩
  rcases hb with hb | hb
  ·rw [hb]; exact hq.2
  ·rw [hb]; intro e; injection e with e; omega
 ·refine (hg2.block R hr.lt fun e => ?_).trans hr
  have := (h.wd.blk_ge R e.symm).1
  omega
 ·refine ⟨hg2.os.trans h3.os, hg2.tape.trans h3.tape, hg2.output.trans h3.output, Nat.le_trans h3.size hg2.size, fun k hk hne => ?_⟩
  refine (hg2.block k (Nat.lt_of_lt_of_le hk h3.size) fun e => ?_).trans (h3.block k hk hne)
  have := (h.wd.blk_ge k e.symm).1
  omega
theorem pend_len (d : Nat) (ws : List UInt8) : (pend d ws).length ≤ ws.length := by
 unfold pend
 cases ws <;> simp
theorem KS.elem (h : KS d lev V R l w kv wv kd ws l' m' wr) (h0 : preX [60, 47] l' = false) (h1 : atAs l' = false) (h2 : preX [60, 33, 91, 67, 68, 65, 84, 65, 91] l' = false) (h3 : preX [60] l' = true) {t : Tr d} {l2 : List UInt8} {m2 : Nat} (he : elX d lev l' m' = .ok (t, l2, m2)) :
  kidW d (elX d lev) ((kd ++ pend d ws ++ [t]) ++ pend d []) l2 m2 = V ∧ l2 <:+ l ∧ m2 ≤ 4096 ∧ (kd ++ pend d ws ++ [t]).length + ([] : List UInt8).length + l2.length ≤ l.length ∧ lastB d (kd ++ pend d ws ++ [t]) = false := by
 obtain ⟨e1, e2⟩ := el_sh d lev _ _ _ _ _ h.many he
 have hp := pend_len d ws
 refine ⟨?_, e1.1.trans h.suf, e2, ?_, ?_⟩
 ·rw [← h.go, kidW_el (el_sh d lev) _ _ _ h.many h0 h1 h2 h3, he]
  show kidW d (elX d lev) ((kd ++ pend d ws ++ [t]) ++ []) l2 m2 = _
  rw [List.append_nil]
 ·have := h.few
  have := e1.2
  simp only [List.length_append, List.length_singleton, List.length_nil]
  omega
 ·rw [last_snoc]
  exact el_name d lev l' m' t l2 m2 he
theorem KS.elem_no (h : KS d lev V R l w kv wv kd ws l' m' wr) (h0 : preX [60, 47] l' = false) (h1 : atAs l' = false) (h2 : preX [60, 33, 91, 67, 68, 65, 84, 65, 91] l' = false) (h3 : preX [60] l' = true) {er : Nat} (he : elX d lev l' m' = .error er) : V = .error er := by
 rw [← h.go, kidW_el (el_sh d lev) _ _ _ h.many h0 h1 h2 h3, he]
end
theorem OwnN.blk_P {P : Nat → Prop} {w : World} {d : Nat} {v : Value} {l : List (Tr d)} (h : OwnN P w d v l) (q : Nat) (hq : blk v = some q) : P q ∧ q < w.heap.size := by
 obtain ⟨A, c, rfl, hb, _⟩ := h.shape
 cases A with
 | none => cases hq
 | some a =>
  have : a.block = q := by injection hq
  rw [← this]
  exact hb a rfl
theorem grown_own {R : Nat} {w W W2 : World} {b : Option Nat} (h : w.grownBy W (some R)) (hg : W.grownBy W2 b) (hb : ∀ q, b = some q → w.heap.size ≤ q) : w.grownBy W2 (some R) :=
 ⟨hg.os.trans h.os, hg.tape.trans h.tape, hg.output.trans h.output, Nat.le_trans h.size hg.size, fun k hk hne => (hg.block k (Nat.lt_of_lt_of_le hk h.size) fun e => by have := hb k e.symm; omega).trans (h.block k hk hne)⟩
theorem rd_own {R m : Nat} {l : List UInt8} {W W2 : World} {b : Option Nat} (h : Rd W R l m) (hg : W.grownBy W2 b) (hb : b ≠ some R) : Rd W2 R l m := (hg.block R h.lt fun e => hb e.symm).trans h
end Go.Proofs.YtgoiafndapemjaaGreatDoor
