import Derived.Test.YtgoiafndapemjaaGreatDoorQ01
import Derived.Test.YtgoiafndapemjaaGreatDoorQ03
import Derived.Test.YtgoiafndapemjaaGreatDoorShelf
import Derived.BigQuiet
import Derived.LoopN
import Derived.Lib.QuietBelow
import Derived.Lib.SlBytesConst
import Derived.Lib.TrimUEq
import Derived.Shelf.GgClosure.StringsTrimFunc
set_option linter.unusedVariables false
set_option linter.unusedSimpArgs false
set_option maxHeartbeats 1000000
namespace Go.Proofs.YtgoiafndapemjaaGreatDoor
open Go.RowKit Go.BigFrame
def asS (l : List UInt8) : ByteArray := ⟨l.toArray⟩
theorem asS_data (l : List UInt8) : (asS l).data.toList = l := rfl
theorem asS_size (x : List UInt8) : (asS x).size = x.length := by rw [Lib.size_eq]; rfl
theorem cut_list (s : ByteArray) (a b : Nat) : (s.extract a b).data.toList = (s.data.toList.drop a).take (b - a) := Lib.extract_data s a b
theorem ext_asS (s : ByteArray) (a b : Nat) : s.extract a b = asS ((s.data.toList.drop a).take (b - a)) := by
 apply ByteArray.ext
 apply Array.ext'
 rw [cut_list]
 rfl
theorem ext8_from (l : List UInt8) (k : Nat) : (asS l).extract k (asS l).size = asS (l.drop k) := by
 rw [ext_asS, asS_data, asS_size, List.take_of_length_le (by simp)]
theorem ext8_to (l : List UInt8) (k : Nat) : (asS l).extract 0 k = asS (l.take k) := by
 rw [ext_asS, asS_data]; simp
theorem emp8 (x : List UInt8) : (asS x).toList.isEmpty = decide (x = []) := by
 rw [show (asS x).toList = x from by rw [ByteArray.toList_eq]; rfl]
 cases x <;> rfl
theorem tl_eq (x c : List UInt8) : ((asS x).toList == c) = decide (x = c) := by
 rw [show (asS x).toList = x from by rw [ByteArray.toList_eq]; rfl]
 by_cases h : x = c
 ·rw [decide_eq_true h, h]; simp
 ·rw [decide_eq_false h]; simpa using h
theorem u8_int (x c : UInt8) : ((x.toNat : Int) == (c.toNat : Int)) = decide (x = c) := by
 by_cases h : x = c
 ·subst h; simp
 ·rw [decide_eq_false h, beq_eq_false_iff_ne]
  exact fun e => h (UInt8.toNat_inj.1 (by omega))
theorem asS_app (x y : List UInt8) : asS x ++ asS y = asS (x ++ y) := by
 apply ByteArray.ext
 rw [ByteArray.data_append]
 simp [asS]
theorem asS_of (s : ByteArray) : asS s.data.toList = s := by simp [asS]
theorem ba_at (s : ByteArray) (k : Nat) (h : k < s.size) : s[k] = s.data.toList.getD k 0 := by
 have h' : k < s.data.toList.length := by simpa using h
 rw [List.getD_eq_getElem?_getD, List.getElem?_eq_getElem h']
 rfl
theorem str_ix (s : ByteArray) (k : Nat) (h : k < s.size) (W : World) : (Instr.index 9 (.string s) (.int .i64 (k : Int))).run Tryz.prog W = .ok (.int .u8 (s.data.toList.getD k 0).toNat) W := by
 have e := ba_at s k h
 have : s[((k : Int)).toNat]? = some (s.data.toList.getD k 0) := by rw [Int.toNat_natCast, ← e]; simp [h]
 have hp : (0 : Int) ≤ (k : Int) := by omega
 simp only [Instr.index, asIntOf, Sem.run_bind, Sem.run_pure, Result.andThen_ok, run_underlying Tryz.underlying9, if_pos hp, this]
theorem u8_eq_iff (x c : UInt8) : ((x.toNat : Int) = (c.toNat : Int)) ↔ x = c := by
 constructor
 ·intro h; exact UInt8.toNat_inj.1 (by omega)
 ·rintro rfl; rfl
def RowB (B : Nat) (l : List UInt8) (w : World) : Prop :=
 (∀ j, j < l.length → w.cell? ⟨B, j, none⟩ = some (.int .u8 (l.getD j 0).toNat)) ∧ (∀ j, j < l.length → w.frozen? ⟨B, j, none⟩ = false)
theorem rowB_set {B : Nat} {l : List UInt8} {w : World} (h : RowB B l w) (k : Nat) (hk : k < l.length) (c : UInt8) : RowB B (l.set k c) (w.setCell ⟨B, k, none⟩ (.int .u8 c.toNat)) := by
 refine ⟨fun j hj => ?_, fun j hj => ?_⟩
 ·rw [List.length_set] at hj
  by_cases e : j = k
  ·subst e
   rw [World.cell?_setCell_same w _ _ (h.1 j hj)]
   simp [List.getD_eq_getElem?_getD, hj]
  ·rw [World.cell?_setCell_other w _ _ _ (by intro h'; apply e; have := congrArg Addr.off h'; simpa using this.symm), h.1 j hj]
   simp [List.getD_eq_getElem?_getD, List.getElem?_set_ne (Ne.symm e)]
 ·rw [List.length_set] at hj
  rw [World.frozen?_setCell]; exact h.2 j hj
theorem rowB_new (w : World) (s : ByteArray) : ∃ cap W1, (convert 9 42 (.string s)).run Tryz.prog w = .ok (.slice (some ⟨w.heap.size, 0, none⟩) s.size cap) W1 ∧ RowB w.heap.size s.data.toList W1 ∧ Below w.heap.size w W1 := by
 obtain ⟨cap, W1, h1, h2, h3⟩ := conv_own w s
 refine ⟨cap, W1, h1, ⟨fun j hj => ?_, fun j hj => ?_⟩, h3⟩
 ·obtain ⟨q, o, e, _, hc⟩ := h2.bytes (by omega)
  cases e
  have := hc j hj
  rwa [Nat.zero_add] at this
 ·exact (h2.cell j (by have := h2.le; have := h2.len; omega)).2
set_option maxRecDepth 1000000 in
theorem lower_any (l : List UInt8) (w : World) (hs : l.length ≤ 1000000) :
  Calls Tryz.prog 172 #[.string (asS l)] w fun e w' => e = .returned (.string (asS (l.map lowB))) ∧ Below w.heap.size w w' := by
 obtain ⟨cap, W1, hconv, hrow, hb1⟩ := rowB_new w (asS l)
 rw [asS_data] at hrow
 have HL : Hid ((asS l).size = l.length) := asS_size l
 generalize asS l = s at hconv HL ⊢
 have HR := hid hrow; have HB := hid hb1
 have hsz : s.size ≤ 1000000 := by have := HL.out; omega
 clear hrow hb1
 go_enter Tryz.func172, Tryz.ntmps172
 go_wp2
 go_loopw [10] (fun i wr => ∃ k : Nat, k ≤ s.size ∧ i = .int .i64 k ∧ Hid (RowB w.heap.size (lowTo l k) wr) ∧ Hid (Below w.heap.size w wr)) (fun i _ => s.size - (intOf i).toNat)
 case atStart => exact ⟨0, Nat.zero_le _, rfl, by rw [lowTo_zero]; exact HR, HB⟩
 case round =>
  obtain ⟨k, hk, rfl, HR2, HB2⟩ := hrel
  by_cases hlt : k < s.size
  ·have hkl : Hid (k < l.length) := by show _ < _; have := HL.out; omega
   obtain ⟨c, hc⟩ : ∃ c : UInt8, Hid (c = l.getD k 0) := ⟨_, rfl⟩
   have hcell : wr.cell? ⟨w.heap.size, k, none⟩ = some (.int .u8 c.toNat) := by
    rw [HR2.out.1 k (by rw [lowTo_len]; exact hkl.out), lowTo_at _ _ hkl.out, hc.out]
   have hfz : wr.frozen? ⟨w.heap.size, k, none⟩ = false := HR2.out.2 k (by rw [lowTo_len]; exact hkl.out)
   have hc0 : (0 : Int) ≤ (c.toNat : Int) := by omega
   have hc1 : (c.toNat : Int) < 256 := by have := c.toNat_lt; omega
   by_cases hu : 65 ≤ (c.toNat : Int) ∧ (c.toNat : Int) ≤ 90
   ·obtain ⟨hu1, hu2⟩ := hu
    have HV := hid (lowB_hit c hu1 hu2)
    go_wp2
    go_roundw
    case rel =>
     refine ⟨k + 1, by omega, by go_num, ?_, HB2.out.setCell (Nat.le_refl _) _⟩
     show RowB _ _ _
     have e : (c.toNat : Int) - 65 + 97 = ((lowB c).toNat : Int) := by rw [HV.out]; omega
     rw [e, lowTo_succ _ k hkl.out, ← hc.out]
     exact rowB_set HR2.out k (by rw [lowTo_len]; exact hkl.out) (lowB c)
    case measure => simp [intOf]; omega
   ·have HM := hid (lowB_miss c hu)
    have HS : Hid (lowTo l (k + 1) = lowTo l k) := lowTo_skip _ k hkl.out (by rw [← hc.out]; exact HM.out)
    by_cases hu1 : 65 ≤ (c.toNat : Int)
    ·have hu2 : ¬ (c.toNat : Int) ≤ 90 := fun h => hu ⟨hu1, h⟩
     clear hu
     go_wp2
     go_roundw
     case rel => exact ⟨k + 1, by omega, by go_num, by rw [HS.out]; exact HR2, HB2⟩
     case measure => simp [intOf]; omega
    ·clear hu
     go_wp2
     go_roundw
     case rel => exact ⟨k + 1, by omega, by go_num, by rw [HS.out]; exact HR2, HB2⟩
     case measure => simp [intOf]; omega
  ·have HA : Hid (lowTo l k = l.map lowB) := lowTo_all _ k (by have := HL.out; omega)
   have hback : (convert 42 9 (.slice (some ⟨w.heap.size, 0, none⟩) s.size cap)).run Tryz.prog wr = .ok (.string (asS (l.map lowB))) wr := by
    have h2 := HR2.out
    rw [HA.out] at h2
    exact str_row (fun h0 => ⟨w.heap.size, 0, rfl, block_lt_of_cell (h2.1 0 h0), fun j hj => by rw [Nat.zero_add]; exact h2.1 j hj⟩) (by rw [List.length_map]; exact HL.out.symm)
   go_wp2
   go_ret
   exact ⟨rfl, HB2.out⟩
theorem clone8 (s : ByteArray) (hs : s.size ≤ 281474976710656) (w : World) : Calls Tryz.prog 78 #[.string s] w fun e w' => e = .returned (.string s) ∧ Below w.heap.size w w' := by
 have HC := hid (fun W => Tryz.stringslite_Clone s W hs)
 clear hs
 go_enter Tryz.func78, Tryz.ntmps78
 go_wp2_with fail
 refine (HC.out _).mono ?_
 rintro e W ⟨rfl, hb⟩
 go_wp2_with fail
 go_ret
 exact ⟨rfl, hb⟩
end Go.Proofs.YtgoiafndapemjaaGreatDoor
namespace Go.Proofs.YtgoiafndapemjaaGreatDoor
open Go.RowKit
def addW (x : ByteArray) : List ByteArray := if x.size = 0 then [] else [x]
def whiteR (r : Int) : Bool := r == 32 || r == 9 || r == 10 || r == 13
def wordsFrom (s : ByteArray) : Nat → Nat → Nat → List ByteArray
 | 0, _, beg => addW (s.extract beg s.size)
 | f + 1, pos, beg => if pos < s.size then (if whiteR (Utf8.decode s pos).1 then addW (s.extract beg pos) ++ wordsFrom s f (pos + (Utf8.decode s pos).2) (pos + 1) else wordsFrom s f (pos + (Utf8.decode s pos).2) beg) else addW (s.extract beg s.size)
def wordsOf (s : ByteArray) : List ByteArray := wordsFrom s s.size 0 0
theorem wordsFrom_end (s : ByteArray) (f pos beg : Nat) (h : ¬ pos < s.size) : wordsFrom s f pos beg = addW (s.extract beg s.size) := by
 cases f <;> simp [wordsFrom, h]
theorem wordsFrom_white (s : ByteArray) (f pos beg : Nat) (h : pos < s.size) (hw : whiteR (Utf8.decode s pos).1 = true) : wordsFrom s (f + 1) pos beg = addW (s.extract beg pos) ++ wordsFrom s f (pos + (Utf8.decode s pos).2) (pos + 1) := by
 simp [wordsFrom, h, hw]
theorem wordsFrom_plain (s : ByteArray) (f pos beg : Nat) (h : pos < s.size) (hw : whiteR (Utf8.decode s pos).1 = false) : wordsFrom s (f + 1) pos beg = wordsFrom s f (pos + (Utf8.decode s pos).2) beg := by
 simp [wordsFrom, h, hw]
theorem addW_le (x : ByteArray) : (addW x).length ≤ 1 := by unfold addW; split <;> simp
theorem addW_mem {x y : ByteArray} (h : y ∈ addW x) : y = x := by
 unfold addW at h
 split at h
 ·simp at h
 ·simpa using h
theorem wordsFrom_len (s : ByteArray) : ∀ f pos beg, (wordsFrom s f pos beg).length ≤ f + 1
 | 0, pos, beg => by have := addW_le (s.extract beg s.size); simp only [wordsFrom]; omega
 | f + 1, pos, beg => by
  have a1 := addW_le (s.extract beg s.size)
  have a2 := addW_le (s.extract beg pos)
  have i1 := wordsFrom_len s f (pos + (Utf8.decode s pos).2) (pos + 1)
  have i2 := wordsFrom_len s f (pos + (Utf8.decode s pos).2) beg
  simp only [wordsFrom]
  repeat' split
  all_goals (try rw [List.length_append]) <;> omega
theorem cut_le (s : ByteArray) (a b : Nat) : (s.extract a b).size ≤ s.size := by rw [ByteArray.size_extract]; omega
theorem wordsFrom_mem (s x : ByteArray) : ∀ f pos beg, x ∈ wordsFrom s f pos beg → x.size ≤ s.size
 | 0, pos, beg => fun h => by simp only [wordsFrom] at h; rw [addW_mem h]; exact cut_le _ _ _
 | f + 1, pos, beg => fun h => by
  simp only [wordsFrom] at h
  split at h
  ·split at h
   ·rcases List.mem_append.1 h with h | h
    ·rw [addW_mem h]; exact cut_le _ _ _
    ·exact wordsFrom_mem s x f _ _ h
   ·exact wordsFrom_mem s x f _ _ h
  ·rw [addW_mem h]; exact cut_le _ _ _
theorem get_eq (s : ByteArray) (i : Nat) : s.get! i = s.data.toList.getD i 0 := by
 obtain ⟨⟨l⟩⟩ := s
 show (l.toArray)[i]! = _
 rw [List.getElem!_toArray, List.getD_eq_getElem?_getD, List.getElem!_eq_getElem?_getD]
 rfl
theorem dN_ascii (n b0 b1 b2 b3 : Nat) (h : b0 < 128) : Lib.decodeN n b0 b1 b2 b3 = (b0, 1) := by simp [Lib.decodeN, h]
def whB (c : UInt8) : Bool := c == 32 || c == 9 || c == 10 || c == 13
def whN (r : Nat) : Bool := whiteR (r : Int)
theorem whN_eq (c : UInt8) : whN c.toNat = whB c := by
 unfold whN whiteR whB
 rw [Bool.eq_iff_iff]
 simp only [Bool.or_eq_true, beq_iff_eq]
 have h : ∀ (k : UInt8), ((c.toNat : Int) = (k.toNat : Int) ↔ c = k) := fun k => ⟨fun h => UInt8.toNat_inj.1 (by omega), fun h => by rw [h]⟩
 have h1 := h 32; have h2 := h 9; have h3 := h 10; have h4 := h 13
 simp only [show UInt8.toNat 32 = 32 from rfl, show UInt8.toNat 9 = 9 from rfl, show UInt8.toNat 10 = 10 from rfl, show UInt8.toNat 13 = 13 from rfl] at h1 h2 h3 h4
 have e1 : ((c.toNat : Int) = 32 ↔ c = 32) := h1
 have e2 : ((c.toNat : Int) = 9 ↔ c = 9) := h2
 have e3 : ((c.toNat : Int) = 10 ↔ c = 10) := h3
 have e4 : ((c.toNat : Int) = 13 ↔ c = 13) := h4
 rw [e1, e2, e3, e4]
theorem whN_lt {r : Nat} (h : whN r = true) : r < 128 := by
 unfold whN whiteR at h
 simp only [Bool.or_eq_true, beq_iff_eq] at h
 omega
theorem whN_big {r : Nat} (h : 128 ≤ r) : whN r = false := by
 cases hw : whN r with
 | false => rfl
 | true => have := whN_lt hw; omega
theorem whB_lt {c : UInt8} (h : whB c = true) : c.toNat < 128 := whN_lt (by rw [whN_eq]; exact h)
theorem whB_big {c : UInt8} (h : 128 ≤ c.toNat) : whB c = false := by rw [← whN_eq]; exact whN_big h
theorem dN_small (n b0 b1 b2 b3 : Nat) (h : (Lib.decodeN n b0 b1 b2 b3).1 < 128) : b0 < 128 := by
 revert h
 unfold Lib.decodeN
 repeat' split
 all_goals (intro h; simp only at h; omega)
theorem dN_conts (n b0 b1 b2 b3 : Nat) : (1 < (Lib.decodeN n b0 b1 b2 b3).2 → 128 ≤ b1) ∧ (2 < (Lib.decodeN n b0 b1 b2 b3).2 → 128 ≤ b2) ∧ (3 < (Lib.decodeN n b0 b1 b2 b3).2 → 128 ≤ b3) ∧ (Lib.decodeN n b0 b1 b2 b3).2 ≤ 4 := by
 unfold Lib.decodeN
 repeat' split
 all_goals (simp only; refine ⟨fun _ => ?_, fun _ => ?_, fun _ => ?_, ?_⟩ <;> omega)
theorem white_at (s : ByteArray) (p : Nat) : whN (Utf8.decode s p).1 = whB (s.data.toList.getD p 0) := by
 rw [Lib.decode_at, get_eq]
 by_cases h : (s.data.toList.getD p 0).toNat < 128
 ·rw [dN_ascii _ _ _ _ _ h]; exact whN_eq _
 ·rw [whB_big (by omega)]
  cases hw : whN (Lib.decodeN (s.size - p) (s.data.toList.getD p 0).toNat (s.get! (p + 1)).toNat (s.get! (p + 2)).toNat (s.get! (p + 3)).toNat).1 with
  | false => rfl
  | true => exact absurd (dN_small _ _ _ _ _ (whN_lt hw)) h
theorem white_width (s : ByteArray) (p : Nat) (h : whB (s.data.toList.getD p 0) = true) : (Utf8.decode s p).2 = 1 := by
 rw [Lib.decode_at, get_eq, dN_ascii _ _ _ _ _ (whB_lt h)]
theorem rest_plain (s : ByteArray) (p j : Nat) (h0 : whB (s.data.toList.getD p 0) = false) (hj : j < (Utf8.decode s p).2) : whB (s.data.toList.getD (p + j) 0) = false := by
 rw [Lib.decode_at, get_eq, get_eq, get_eq, get_eq] at hj
 obtain ⟨c1, c2, c3, c4⟩ := dN_conts (s.size - p) (s.data.toList.getD p 0).toNat (s.data.toList.getD (p + 1) 0).toNat (s.data.toList.getD (p + 2) 0).toNat (s.data.toList.getD (p + 3) 0).toNat
 match j, hj with
 | 0, _ => exact h0
 | 1, hj => exact whB_big (c1 hj)
 | 2, hj => exact whB_big (c2 hj)
 | 3, hj => exact whB_big (c3 hj)
 | j + 4, hj => omega
def IsTrim (l : List UInt8) (a b : Nat) : Prop :=
 a ≤ b ∧ b ≤ l.length ∧ (∀ j, j < a → whB (l.getD j 0) = true) ∧ (∀ j, b ≤ j → j < l.length → whB (l.getD j 0) = true) ∧ (a < b → whB (l.getD a 0) = false ∧ whB (l.getD (b - 1) 0) = false)
def trimB (l : List UInt8) (a b : Nat) : List UInt8 := (l.drop a).take (b - a)
theorem front (s : ByteArray) : ∀ f pos, s.size ≤ pos + f → (Lib.idxFuncFrom whN false s f pos = -1 ∧ ∀ j, pos ≤ j → j < s.size → whB (s.data.toList.getD j 0) = true) ∨
  (∃ i : Nat, Lib.idxFuncFrom whN false s f pos = (i : Int) ∧ pos ≤ i ∧ i < s.size ∧ (∀ j, pos ≤ j → j < i → whB (s.data.toList.getD j 0) = true) ∧ whB (s.data.toList.getD i 0) = false)
 | 0, pos, h => .inl ⟨rfl, fun j h1 h2 => by omega⟩
 | f + 1, pos, h => by
  by_cases hp : pos < s.size
  ·simp only [Lib.idxFuncFrom, if_pos hp, white_at]
   cases hw : whB (s.data.toList.getD pos 0) with
   | false => exact .inr ⟨pos, by simp, Nat.le_refl _, hp, fun j h1 h2 => by omega, hw⟩
   | true =>
    rw [white_width s pos hw]
    simp only [Bool.true_eq_false, if_false]
    rcases front s f (pos + 1) (by omega) with ⟨h1, h2⟩ | ⟨i, h1, h2, h3, h4, h5⟩
    ·refine .inl ⟨h1, fun j a b => ?_⟩
     by_cases e : j = pos
     ·rw [e]; exact hw
     ·exact h2 j (by omega) b
    ·refine .inr ⟨i, h1, by omega, h3, fun j a b => ?_, h5⟩
     by_cases e : j = pos
     ·rw [e]; exact hw
     ·exact h4 j (by omega) b
  ·rw [Lib.idxFuncFrom_end _ _ _ _ _ hp]
   exact .inl ⟨rfl, fun j h1 h2 => by omega⟩
theorem back (s : ByteArray) : ∀ f i, i ≤ f → i ≤ s.size → (∀ j, i ≤ j → j < s.size → whB (s.data.toList.getD j 0) = true) →
  (Lib.lastIdxFuncFrom whN false s f i = -1 ∧ ∀ j, j < s.size → whB (s.data.toList.getD j 0) = true) ∨
  (∃ st e : Nat, Lib.lastIdxFuncFrom whN false s f i = (st : Int) ∧ st + (Utf8.decode s st).2 = e ∧ st < e ∧ e ≤ s.size ∧ (∀ j, e ≤ j → j < s.size → whB (s.data.toList.getD j 0) = true) ∧ whB (s.data.toList.getD (e - 1) 0) = false)
 | 0, i, h, _, hw => .inl ⟨rfl, fun j hj => hw j (by omega) hj⟩
 | f + 1, i, h, hi, hw => by
  by_cases h0 : 0 < i
  ·have hil : i ≤ s.data.toList.length := by rw [← Lib.size_eq]; exact hi
   have ho : Lib.OpenAt s.data.toList i := by
    by_cases e : i = s.data.toList.length
    ·exact .inl e
    ·right
     have := whB_lt (hw i (Nat.le_refl _) (by rw [Lib.size_eq]; omega))
     omega
   have hfw := Lib.fw_width s.data.toList i h0 hil ho
   rw [Lib.decodeL_drop] at hfw
   simp only [Lib.lastIdxFuncFrom, if_pos h0]
   have big : ∀ x, 128 ≤ (s.data.toList.getD (i - 1) 0).toNat → (Lib.decodeLastL (s.data.toList.take i)).2 = x → 1 ≤ x → x ≤ i → whN (Lib.decodeLastL (s.data.toList.take i)).1 = false →
     (∃ st e : Nat, ((i - x : Nat) : Int) = (st : Int) ∧ st + (Utf8.decode s st).2 = e ∧ st < e ∧ e ≤ s.size ∧ (∀ j, e ≤ j → j < s.size → whB (s.data.toList.getD j 0) = true) ∧ whB (s.data.toList.getD (e - 1) 0) = false) := by
    intro x hb hx h1 h2 _
    rw [hx] at hfw
    exact ⟨i - x, i, rfl, by rw [hfw]; omega, by omega, hi, hw, whB_big hb⟩
   rcases Lib.last_cases s.data.toList i h0 hil with ⟨ha, hd⟩ | ⟨ha, hd⟩ | ⟨ha, st, hst, hd, hsum⟩
   ·rw [hd]
    simp only [whN_eq]
    cases hq : whB (s.data.toList.getD (i - 1) 0) with
    | true =>
     simp only [Bool.true_eq_false, if_false]
     refine back s f (i - 1) (by omega) (by omega) fun j a b => ?_
     by_cases e : j = i - 1
     ·rw [e]; exact hq
     ·exact hw j (by omega) b
    | false =>
     simp only [if_true]
     rw [hd] at hfw
     refine .inr ⟨i - 1, i, rfl, ?_, by omega, hi, hw, hq⟩
     simp only at hfw
     rw [hfw]; omega
   ·have hn : whN (Lib.decodeLastL (s.data.toList.take i)).1 = false := by rw [hd]; exact whN_big (by omega)
    rw [if_pos hn]
    exact .inr (big 1 ha (by rw [hd]) (by omega) (by omega) hn |> fun h => by rw [hd]; exact h)
   ·have hlen : ((s.data.toList.take i).drop st).length = i - st := by rw [List.length_drop, List.length_take]; omega
    have hn : whN (Lib.decodeLastL (s.data.toList.take i)).1 = false := by
     cases hq : whN (Lib.decodeLastL (s.data.toList.take i)).1 with
     | false => rfl
     | true =>
      exfalso
      have hq' := whN_lt hq
      rw [hd, Lib.decodeL_N] at hq'
      have hs0 := dN_small _ _ _ _ _ hq'
      rw [Lib.decodeL_N, dN_ascii _ _ _ _ _ hs0] at hsum
      simp only at hsum
      rw [Lib.getD_dropU, Nat.add_zero, Lib.getD_takeU _ _ _ hst, show st = i - 1 by omega] at hs0
      omega
    rw [if_pos hn]
    have hx : (Lib.decodeLastL (s.data.toList.take i)).2 = i - st := by rw [hd]; omega
    rw [hx]
    exact .inr (big (i - st) ha hx (by omega) (by omega) hn)
  ·have e : i = 0 := by omega
   subst e
   rw [Lib.lastIdxFuncFrom_zero]
   exact .inl ⟨rfl, fun j hj => hw j (Nat.zero_le _) hj⟩
theorem decode_rest (s : ByteArray) (st : Nat) : Utf8.decode (s.extract st s.size) 0 = Utf8.decode s st := by
 rw [← Lib.decodeL_drop s st]
 unfold Lib.decodeL
 congr 1
 apply ByteArray.ext
 apply Array.toList_inj.1
 rw [Lib.extract_data, List.take_of_length_le (by rw [List.length_drop, ← Lib.size_eq]; exact Nat.le_refl _)]
theorem right_end (s : ByteArray) : Lib.rightEndF whN s ≤ s.size ∧ (∀ j, Lib.rightEndF whN s ≤ j → j < s.size → whB (s.data.toList.getD j 0) = true) ∧ (0 < Lib.rightEndF whN s → whB (s.data.toList.getD (Lib.rightEndF whN s - 1) 0) = false) := by
 unfold Lib.rightEndF Lib.lastIdxFunc
 rcases back s s.size s.size (Nat.le_refl _) (Nat.le_refl _) (fun j a b => by omega) with ⟨h1, h2⟩ | ⟨st, e, h1, h2, h3, h4, h5, h6⟩
 ·rw [h1, if_neg (by omega)]
  exact ⟨Nat.zero_le _, fun j _ hj => h2 j hj, fun h => by omega⟩
 ·rw [h1, if_pos (by omega), Int.toNat_natCast]
  have hsz : ¬ (s.extract st s.size).size = 0 := by rw [ByteArray.size_extract]; omega
  have hd : (Lib.decodeGoB (s.extract st s.size)).2 = (Utf8.decode s st).2 := by
   unfold Lib.decodeGoB
   rw [if_neg hsz, decode_rest]
  rw [hd, h2]
  exact ⟨h4, h5, fun _ => h6⟩
theorem trimF_is (s : ByteArray) : ∃ a b, IsTrim s.data.toList a b ∧ Lib.trimF whN s = ⟨(trimB s.data.toList a b).toArray⟩ := by
 have hl : s.data.toList.length = s.size := (Lib.size_eq s).symm
 rcases front s s.size 0 (by omega) with ⟨h1, h2⟩ | ⟨i, h1, _, h3, h4, h5⟩
 ·refine ⟨0, 0, ⟨Nat.le_refl _, Nat.zero_le _, fun j hj => by omega, fun j _ hj => h2 j (Nat.zero_le _) (by omega), fun h => by omega⟩, ?_⟩
  have hz : Lib.trimLeftF whN s = ⟨#[]⟩ := by
   unfold Lib.trimLeftF Lib.idxFunc
   rw [if_pos h1]
  unfold Lib.trimF
  have e0 : trimB s.data.toList 0 0 = [] := by simp [trimB]
  rw [hz, e0]
  decide +kernel
 ·have hz : Lib.trimLeftF whN s = s.extract i s.size := by
   unfold Lib.trimLeftF Lib.idxFunc
   rw [h1, if_neg (by omega), Int.toNat_natCast]
  obtain ⟨r1, r2, r3⟩ := right_end (s.extract i s.size)
  have hts : (s.extract i s.size).size = s.size - i := by rw [ByteArray.size_extract]; omega
  have hd : (s.extract i s.size).data.toList = s.data.toList.drop i := Lib.extract_to_end s i
  have hg : ∀ j, (s.extract i s.size).data.toList.getD j 0 = s.data.toList.getD (i + j) 0 := fun j => by rw [hd, Lib.getD_dropU]
  refine ⟨i, i + Lib.rightEndF whN (s.extract i s.size), ⟨by omega, by omega, fun j hj => h4 j (Nat.zero_le _) hj, fun j a b => ?_, fun hlt => ⟨h5, ?_⟩⟩, ?_⟩
  ·have := r2 (j - i) (by omega) (by omega)
   rw [hg, show i + (j - i) = j by omega] at this; exact this
  ·have := r3 (by omega)
   rw [hg] at this
   rw [show i + Lib.rightEndF whN (s.extract i s.size) - 1 = i + (Lib.rightEndF whN (s.extract i s.size) - 1) by omega]; exact this
  ·unfold Lib.trimF Lib.trimRightF
   rw [hz]
   apply ByteArray.ext
   apply Array.toList_inj.1
   rw [Lib.extract_data, hd, List.drop_zero, Nat.sub_zero]
   unfold trimB
   rw [Nat.add_sub_cancel_left]
def addL (cur : List UInt8) : List (List UInt8) := if cur = [] then [] else [cur]
def splitW : List UInt8 → List UInt8 → List (List UInt8)
 | [], cur => addL cur
 | c :: t, cur => if whB c then addL cur ++ splitW t [] else splitW t (cur ++ [c])
theorem addW_eq (x : ByteArray) : addW x = (addL x.data.toList).map asS := by
 unfold addW addL
 by_cases h : x.size = 0
 ·rw [if_pos h, if_pos (by rw [Lib.size_eq] at h; exact List.length_eq_zero_iff.1 h)]; rfl
 ·rw [if_neg h, if_neg (fun e => h (by rw [Lib.size_eq, e]; rfl))]
  rfl
theorem splitW_skip : ∀ (a t cur : List UInt8), (∀ c ∈ a, whB c = false) → splitW (a ++ t) cur = splitW t (cur ++ a)
 | [], t, cur, _ => by simp
 | c :: a, t, cur, h => by
  have hc := h c (by simp)
  rw [List.cons_append, splitW, hc, if_neg (by simp), splitW_skip a t (cur ++ [c]) (fun x hx => h x (by simp [hx]))]
  simp
theorem mem_take_getD (l : List UInt8) (p w : Nat) (c : UInt8) (h : c ∈ (l.drop p).take w) : ∃ j, j < w ∧ p + j < l.length ∧ l.getD (p + j) 0 = c := by
 obtain ⟨j, hj⟩ := List.mem_iff_getElem?.1 h
 rw [List.getElem?_take] at hj
 split at hj
 ·next hlt =>
  rw [List.getElem?_drop] at hj
  refine ⟨j, hlt, (List.getElem?_eq_some_iff.1 hj).1, ?_⟩
  rw [List.getD_eq_getElem?_getD, hj]; rfl
 ·simp at hj
theorem wordsFrom_eq (s : ByteArray) : ∀ f pos beg, s.size ≤ pos + f → beg ≤ pos → pos ≤ s.size → wordsFrom s f pos beg = (splitW (s.data.toList.drop pos) ((s.data.toList.drop beg).take (pos - beg))).map asS
 | 0, pos, beg, h, hb, hp => by
  have hd : s.data.toList.drop pos = [] := List.drop_eq_nil_of_le (by rw [← Lib.size_eq]; omega)
  rw [hd]
  show addW _ = _
  rw [addW_eq, cut_list, show s.size = pos by omega]
  rfl
 | f + 1, pos, beg, h, hb, hp => by
  by_cases hlt : pos < s.size
  ·have hll : pos < s.data.toList.length := by rw [← Lib.size_eq]; exact hlt
   have hg : s.data.toList.getD pos 0 = s.data.toList[pos] := by rw [List.getD_eq_getElem?_getD, List.getElem?_eq_getElem hll]; rfl
   have hwn : whiteR ((Utf8.decode s pos).1 : Nat) = whB (s.data.toList.getD pos 0) := white_at s pos
   cases hw : whB (s.data.toList.getD pos 0) with
   | true =>
    rw [wordsFrom_white s f pos beg hlt (by rw [hwn]; exact hw), white_width s pos hw]
    rw [wordsFrom_eq s f (pos + 1) (pos + 1) (by omega) (Nat.le_refl _) (by omega)]
    rw [List.drop_eq_getElem_cons hll, splitW, ← hg, hw, if_pos rfl, List.map_append, addW_eq, cut_list, Nat.sub_self, List.take_zero]
   | false =>
    rw [wordsFrom_plain s f pos beg hlt (by rw [hwn]; exact hw)]
    have hwd := Lib.decode_width_pos s pos hlt
    have hft := decode_fits s pos hlt
    rw [wordsFrom_eq s f (pos + (Utf8.decode s pos).2) beg (by omega) (by omega) hft]
    have hcut : s.data.toList.drop pos = (s.data.toList.drop pos).take (Utf8.decode s pos).2 ++ s.data.toList.drop (pos + (Utf8.decode s pos).2) := by
     rw [← List.drop_drop, List.take_append_drop]
    rw [hcut, splitW_skip _ _ _ (fun c hc => ?_)]
    ·congr 2
     have e1 : (s.data.toList.drop beg).take (pos - beg) ++ (s.data.toList.drop pos).take (Utf8.decode s pos).2 = (s.data.toList.drop beg).take (pos + (Utf8.decode s pos).2 - beg) := by
      rw [show pos + (Utf8.decode s pos).2 - beg = (pos - beg) + (Utf8.decode s pos).2 by omega, List.take_add, List.drop_drop, show beg + (pos - beg) = pos by omega]
     exact e1.symm
    ·obtain ⟨j, hj, _, rfl⟩ := mem_take_getD _ _ _ _ hc
     exact rest_plain s pos j hw hj
  ·rw [wordsFrom_end s _ pos beg hlt]
   have hd : s.data.toList.drop pos = [] := List.drop_eq_nil_of_le (by rw [← Lib.size_eq]; omega)
   rw [hd, addW_eq, cut_list, show s.size = pos by omega]
   rfl
def wds (s : ByteArray) : List (List UInt8) := splitW s.data.toList []
theorem wordsOf_eq (s : ByteArray) : wordsOf s = (wds s).map asS := by
 have := wordsFrom_eq s s.size 0 0 (by omega) (Nat.le_refl _) (Nat.zero_le _)
 rw [List.drop_zero] at this
 exact this
end Go.Proofs.YtgoiafndapemjaaGreatDoor
