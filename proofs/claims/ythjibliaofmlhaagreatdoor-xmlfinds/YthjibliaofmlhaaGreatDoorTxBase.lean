
/- Texts in the program: their bytes, cut out, read, put into lower case, cloned. -/
import Derived.Test.YthjibliaofmlhaaGreatDoorXmBase
import Derived.Test.YthjibliaofmlhaaGreatDoorXmBook
import Derived.Test.YthjibliaofmlhaaGreatDoorShelf
import Derived.BigQuiet
import Derived.LoopN
import Derived.Lib.QuietBelow
import Derived.Lib.SlBytesConst
namespace Go.Proofs.YthjibliaofmlhaaGreatDoor
set_option linter.unusedVariables false
set_option linter.unusedSimpArgs false
open Go.RowKit Go.BigFrame

def asS (l : List UInt8) : ByteArray := ⟨l.toArray⟩
theorem asS_data (l : List UInt8) : (asS l).data.toList = l := rfl
theorem asS_size (x : List UInt8) : (asS x).size = x.length := by rw [Lib.size_eq]; rfl
theorem cut_list (s : ByteArray) (a b : Nat) : (s.extract a b).data.toList = (s.data.toList.drop a).take (b - a) := Lib.extract_data s a b
theorem ext_asS (s : ByteArray) (a b : Nat) : s.extract a b = asS ((s.data.toList.drop a).take (b - a)) := by
  apply ByteArray.ext
  apply Array.ext'
  rw [cut_list]
  rfl
theorem ext8_from (l : List UInt8) (k : Nat) : (asS l).extract k (asS l).size = asS (l.drop k) := by
  rw [ext_asS, asS_data, asS_size, List.take_of_length_le (by simp)]
theorem ext8_to (l : List UInt8) (k : Nat) : (asS l).extract 0 k = asS (l.take k) := by
  rw [ext_asS, asS_data]; simp
theorem emp8 (x : List UInt8) : (asS x).toList.isEmpty = decide (x = []) := by
  rw [show (asS x).toList = x from by rw [ByteArray.toList_eq]; rfl]
  cases x <;> rfl
theorem tl_eq (x c : List UInt8) : ((asS x).toList == c) = decide (x = c) := by
  rw [show (asS x).toList = x from by rw [ByteArray.toList_eq]; rfl]
  by_cases h : x = c
  · rw [decide_eq_true h, h]; simp
  · rw [decide_eq_false h]; simpa using h
theorem asS_app (x y : List UInt8) : asS x ++ asS y = asS (x ++ y) := by
  apply ByteArray.ext
  rw [ByteArray.data_append]
  simp [asS]
theorem asS_of (s : ByteArray) : asS s.data.toList = s := by simp [asS]
theorem ba_at (s : ByteArray) (k : Nat) (h : k < s.size) : s[k] = s.data.toList.getD k 0 := by
  have h' : k < s.data.toList.length := by simpa using h
  rw [List.getD_eq_getElem?_getD, List.getElem?_eq_getElem h']
  rfl
theorem str_ix (s : ByteArray) (k : Nat) (h : k < s.size) (W : World) : (Instr.index 9 (.string s) (.int .i64 (k : Int))).run Tryz.prog W = .ok (.int .u8 (s.data.toList.getD k 0).toNat) W := by
  have e := ba_at s k h
  have : s[((k : Int)).toNat]? = some (s.data.toList.getD k 0) := by rw [Int.toNat_natCast, ← e]; simp [h]
  have hp : (0 : Int) ≤ (k : Int) := by omega
  simp only [Instr.index, asIntOf, Sem.run_bind, Sem.run_pure, Result.andThen_ok, run_underlying Tryz.underlying9, if_pos hp, this]
theorem clone8 (s : ByteArray) (hs : s.size ≤ 281474976710656) (w : World) : Calls Tryz.prog 43 #[.string s] w fun e w' => e = .returned (.string s) ∧ Below w.heap.size w w' := by
  have HC := hid (fun W => Tryz.stringslite_Clone s W hs)
  clear hs
  go_enter Tryz.func43, Tryz.ntmps43
  go_wp2_with fail
  refine (HC.out _).mono ?_
  rintro e W ⟨rfl, hb⟩
  go_wp2_with fail
  go_ret
  exact ⟨rfl, hb⟩
theorem Own.cut {w : World} {b g n cap : Nat} {l : List UInt8} (h : Own w b g n cap l) (k : Nat) (hk : k ≤ n) : Own w b g k cap (l.take k) := by
  obtain ⟨r, fz, h1, h2, h3⟩ := h.row
  have hl := h.len
  refine ⟨h.ge, by rw [List.length_take]; omega, bvs (l.drop k) ++ r, fz, ?_, ?_, h3⟩
  · rw [← List.append_assoc, ← bvs_app, List.take_append_drop]; exact h1
  · rw [List.length_append, bvs_len, List.length_drop]; omega
/-- What was put down. -/
def Down (w : World) (b : Nat) (d : Value) (o : List UInt8) : Prop := (d = .slice none 0 0 ∧ o = []) ∨ ∃ g n cap, d = .slice (some ⟨g, 0, none⟩) n cap ∧ Own w b g n cap o
theorem Down.below {w w' : World} {b : Nat} {d : Value} {o : List UInt8} (h : Down w b d o) (hb : Below w.heap.size w w') : Down w' b d o := by
  rcases h with h | ⟨g, n, cap, h1, h2⟩
  · exact .inl h
  · exact .inr ⟨g, n, cap, h1, h2.below hb (Nat.le_refl _)⟩
end Go.Proofs.YthjibliaofmlhaaGreatDoor
