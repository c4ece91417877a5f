import Derived.Test.YtgoiafndapemjaaGreatDoorQ04
import Derived.Shelf.LaysM
import Derived.WalkSmall
import Derived.Lib.OthersKept
import Derived.Laws.RangeAny
import Derived.Laws.RangeString
import Derived.WalkSpells
import Derived.WalkLawsBesides
import Derived.Test.YtgoiafndapemjaaGreatDoorQ03
import Derived.Lib.Hide
import Derived.WalkKit
import Derived.Test.YtgoiafndapemjaaGreatDoorFeShelf
import Derived.Deep.QuietTactic
import Derived.BigQuiet
set_option linter.unusedVariables false
set_option linter.unusedSimpArgs false
set_option maxHeartbeats 1000000
namespace Go.Proofs.YtgoiafndapemjaaGreatDoor
open Go.RowKit Go.Lib
theorem ret_intW {k : IntKind} {a b : Int} (h : a = b) : Ending.returned (.int k a) = .returned (.int k b) := by rw [h]
theorem below_iterW (w : World) (s : ByteArray) (pos : Nat) : Below w.heap.size w (w.iter s pos) := (Below.refl _ _).alloc (Nat.le_refl _) _
theorem clone_any (s : ByteArray) (w : World) (hs : s.size ≤ 281474976710656) :
  Calls Tryz.prog 78 #[.string s] w fun e w' => e = .returned (.string s) ∧ Below w.heap.size w w' := by
 go_enter Tryz.func78, Tryz.ntmps78
 go_wp2_with (go_at_call 110; refine (Tryz.stringslite_Clone _ _ hs).mono ?_; rintro e w' ⟨rfl, hb⟩)
 go_ret
 exact ⟨rfl, hb⟩
theorem grown_of {w w1 w' : World} {o : Obj} {row : Option Nat} (hb : Below w.heap.size w w1) (hg : (w1.alloc o).grownBy w' row) : w.grownBy w' row :=
 ⟨hg.os.trans hb.os, hg.tape.trans hb.tape, hg.output.trans hb.output, Nat.le_trans hb.size (Nat.le_trans (by simp) hg.size), fun k hk hr => by
  rw [hg.block k (by have := hb.size; simp; omega) hr, Below.heap_alloc _ _ _ (by have := hb.size; omega), hb.block k hk]⟩
theorem own_belowR {B : Nat} {e : TypeId} {k : Nat} {v : Value} {n : Nat} {xs : List Value} {w w' : World} (h : w.ownsRow B e k v n xs) (hb : Below w.heap.size w w') : w'.ownsRow B e k v n xs := by
 refine ⟨h.1, ?_⟩
 rcases h.2 with h2 | ⟨g, cap, cur, hv, hg, hh, r⟩
 ·exact Or.inl h2
 ·refine Or.inr ⟨g, cap, cur, hv, hg, ?_, r⟩
  rw [hb.block g (by have := (Array.getElem?_eq_some_iff.1 hh).1; exact this)]; exact hh
theorem info9W : (Tryz.prog.info? 9).map (fun i => (i.zero, i.size, i.bytes)) = some (some (.string ByteArray.empty), 1, 16) := by kernel_rfl
theorem whiteW_any (r : Int) (w : World) : Calls Tryz.prog 114 #[.int .i32 r] w fun e w' => e = .returned (.bool (whiteR r)) ∧ w' = w := by
 unfold whiteR
 go_enter Tryz.func114, Tryz.ntmps114
 go_wp2
 all_goals (go_ret; refine ⟨?_, rfl⟩)
 all_goals simp_all
theorem addWord_empty (v : Value) (w : World) : Calls Tryz.prog 115 #[v, .string ⟨#[]⟩] w fun e w' => e = .returned v ∧ w' = w := by
 go_enter Tryz.func115, Tryz.ntmps115
 go_wp2
 go_ret
 exact ⟨rfl, rfl⟩
theorem addWord_more (base : Nat) (v : Value) (xs : List ByteArray) (x : ByteArray) (w : World) (hown : w.ownsRow base 9 1 v xs.length (xs.map Value.string)) (hbase : base ≤ w.heap.size)
  (hx : x.size ≤ 281474976710656) (hne : x.toList.isEmpty = false) (hn : xs.length ≤ 1000000000) :
  Calls Tryz.prog 115 #[v, .string x] w fun e w' => ∃ v', e = .returned v' ∧ w'.ownsRow base 9 1 v' (xs.length + 1) (xs.map Value.string ++ [.string x]) ∧ w.grownBy w' v.ownBlock := by
 obtain ⟨i0, hi, hz0, hz1, hz2⟩ := info_parts info9W
 go_enter Tryz.func115, Tryz.ntmps115
 go_wp2_with (first
  | (go_at_call 78; refine (clone_any _ _ hx).mono ?_; rintro e w1 ⟨rfl, hb1⟩)
  | (at_builtin; refine wpList_append_own _ rfl _ _ 102 rfl base 9 i0 (.string ByteArray.empty) 1 16 Tryz.underlying102 hi hz0 hz1 hz2 rfl (by decide) _ _ _ rfl ((own_belowR hown hb1).alloc _) ⟨w1.heap.size, 0, none⟩ 1 1 [.string x] rfl rfl (cell_one_new _ _ _) ?c2 ?c3 ?c4 ?c5 ?_))
 case c2 => intro u hu; simp at hu; subst hu; rfl
 case c3 => unfold maxLen; omega
 case c4 => omega
 case c5 => have := hb1.size; simp; omega
 intro v' w3 hown' hgrow _
 have hg := grown_of hb1 hgrow
 clear hgrow
 go_wp2
 go_ret
 exact ⟨_, rfl, hown', hg⟩
theorem addWord_any (base : Nat) (v : Value) (xs : List ByteArray) (x : ByteArray) (w : World) (hown : w.ownsRow base 9 1 v xs.length (xs.map Value.string)) (hbase : base ≤ w.heap.size)
  (hx : x.size ≤ 281474976710656) (hn : xs.length ≤ 1000000000) :
  Calls Tryz.prog 115 #[v, .string x] w fun e w' => ∃ v', e = .returned v' ∧ w'.ownsRow base 9 1 v' (xs ++ addW x).length ((xs ++ addW x).map Value.string) ∧ w.grownBy w' v.ownBlock := by
 by_cases h0 : x.size = 0
 ·have hs : x = ⟨#[]⟩ := by
   apply ByteArray.ext
   exact Array.eq_empty_of_size_eq_zero h0
  subst hs
  refine (addWord_empty v w).mono ?_
  rintro e w' ⟨rfl, rfl⟩
  refine ⟨v, rfl, ?_, ⟨rfl, rfl, rfl, Nat.le_refl _, fun _ _ _ => rfl⟩⟩
  have e0 : addW ⟨#[]⟩ = [] := rfl
  rw [e0, List.append_nil]; exact hown
 ·have hne : x.toList.isEmpty = false := by
   rw [Lib.toList_data]
   cases hl : x.data.toList with
   | nil => exfalso; apply h0; rw [Lib.size_eq, hl]; rfl
   | cons a t => rfl
  refine (addWord_more base v xs x w hown hbase hx hne hn).mono ?_
  rintro e w' ⟨v', rfl, ho, hg⟩
  refine ⟨v', rfl, ?_, hg⟩
  simpa [addW, h0] using ho
theorem below_of_grownW {w0 w w' : World} {B base : Nat} {e : TypeId} {k n : Nat} {v : Value} {xs : List Value} (hb : Below B w0 w) (hown : w.ownsRow base e k v n xs) (hB : B ≤ base) (hs : B ≤ w.heap.size) (hg : w.grownBy w' v.ownBlock) : Below B w0 w' := by
 refine hb.grown hg hs fun j hj => ?_
 rcases hown.2 with ⟨rfl, _⟩ | ⟨g, cap, cur, rfl, hg', _⟩
 ·simp [Value.ownBlock] at hj
 ·simp [Value.ownBlock] at hj; omega
theorem kept_of_grown {w w' : World} {base j : Nat} {e : TypeId} {k n : Nat} {v : Value} {xs : List Value} (hown : w.ownsRow base e k v n xs) (hj : j < base) (hs : j < w.heap.size) (hg : w.grownBy w' v.ownBlock) : w'.heap[j]? = w.heap[j]? := by
 refine hg.block j hs fun hj' => ?_
 rcases hown.2 with ⟨rfl, _⟩ | ⟨g, cap, cur, rfl, hg', _⟩
 ·simp [Value.ownBlock] at hj'
 ·simp [Value.ownBlock] at hj'; omega
theorem size_cut (s : ByteArray) (a b : Nat) (h : s.size ≤ 1000000) : (s.extract a b).size ≤ 281474976710656 := by
 rw [ByteArray.size_extract]; omega
theorem own_le {w : World} {base base' size n : Nat} {e : TypeId} {v : Value} {xs : List Value} (h : w.ownsRow base e size v n xs) (hb : base' ≤ base) : w.ownsRow base' e size v n xs := by
 refine ⟨h.1, ?_⟩
 rcases h.2 with h2 | ⟨g, cap, cur, hv, hg, r⟩
 ·exact Or.inl h2
 ·exact Or.inr ⟨g, cap, cur, hv, by omega, r⟩
theorem iterPos_ofW {w : World} {k p : Nat} {s : ByteArray} (h : w.heap[k]? = some (.stringIter s p)) : w.iterPos k = p := by
 simp [World.iterPos, h]
set_option maxHeartbeats 2000000 in
set_option maxRecDepth 1000000 in
theorem words_any (s : ByteArray) (w : World) (hs : s.size ≤ 1000000) :
  Calls Tryz.prog 80 #[.string s] w fun e w' => ∃ v, e = .returned v ∧ w'.ownsRow w.heap.size 9 1 v (wordsOf s).length ((wordsOf s).map Value.string) ∧ Below w.heap.size w w' := by
 go_enter Tryz.func80, Tryz.ntmps80
 go_wp2
 go_loopw [3, 4] (fun v t wr => ∃ (pos b beg : Nat) (acc : List ByteArray), t = .int .i64 beg ∧ wr.heap[w.heap.size]? = some (.stringIter s pos) ∧ wr.ownsRow (w.heap.size + 1) 9 1 v acc.length (acc.map Value.string) ∧ Below w.heap.size w wr ∧ Hid (acc ++ wordsFrom s b pos beg = wordsOf s) ∧ s.size ≤ pos + b ∧ acc.length ≤ pos ∧ beg ≤ pos ∧ pos ≤ s.size) (fun _ _ wr => s.size - wr.iterPos w.heap.size)
 case atStart => exact ⟨0, s.size, 0, [], rfl, heap_alloc_new w _, World.ownsRow_nil _ _ _ _, below_iterW _ _ _, rfl, by omega, Nat.le_refl _, Nat.le_refl _, Nat.zero_le _⟩
 case round =>
  obtain ⟨pos, b, beg, acc, rfl, hit, hown, hbl, hc, hb, ha, hbe, hps⟩ := hrel
  by_cases hp : pos < s.size
  ·have hnx : ∀ ty, (Instr.next (.pointer (some ⟨w.heap.size, 0, none⟩)) true ty).run Tryz.prog wr = _ := fun ty => Lib.run_next_any_at wr w.heap.size s pos ty hit hp
   have hwd := Lib.decode_width_pos s pos hp
   have hft := decode_fits s pos hp
   obtain ⟨b, rfl⟩ : ∃ b', b = b' + 1 := ⟨b - 1, by omega⟩
   have hit2 := Lib.iterAt_heap wr w.heap.size s pos (pos + (Utf8.decode s pos).2) hit
   have hown2 := ownsRow_iterAt hown (k := w.heap.size) (by omega) s (pos + (Utf8.decode s pos).2)
   have hbl2 := Lib.below_iterAt hbl (k := w.heap.size) (Nat.le_refl _) s (pos + (Utf8.decode s pos).2)
   have hsz : w.heap.size < wr.heap.size := (Array.getElem?_eq_some_iff.1 hit).1
   have hsz2 : w.heap.size < (wr.iterAt w.heap.size s (pos + (Utf8.decode s pos).2)).heap.size := by rw [Lib.iterAt_size]; exact hsz
   have HI := Lib.hid hit; have HI2 := Lib.hid hit2; have HO2 := Lib.hid hown2; have HB2 := Lib.hid hbl2
   clear hit hit2 hown2 hbl2 hown hbl
   cases hwh : whiteR (Utf8.decode s pos).1 with
   | true =>
    go_wp2_with (first
     | (go_at_call 114; refine (whiteW_any _ _).mono ?_; rintro e w' ⟨rfl, rfl⟩)
     | (go_at_call 115; refine (addWord_any (w.heap.size + 1) _ acc _ _ HO2.out (by omega) (size_cut _ _ _ hs) (by omega)).mono ?_; rintro e w2 ⟨v', rfl, ho, hg⟩))
    have hit3 := (kept_of_grown HO2.out (by omega) hsz2 hg).trans HI2.out
    have hbl3 := below_of_grownW HB2.out HO2.out (by omega) (by omega) hg
    go_roundw
    case rel =>
     refine ⟨pos + (Utf8.decode s pos).2, b, pos + 1, acc ++ addW (s.extract beg pos), by go_num, hit3, ho, hbl3, ?_, by omega, ?_, by omega, by omega⟩
     ·show _ = _
      rw [List.append_assoc, ← wordsFrom_white s b pos beg hp hwh]; exact hc.out
     ·have := addW_le (s.extract beg pos)
      rw [List.length_append]; omega
    case measure => rw [iterPos_ofW hit3, iterPos_ofW HI.out]; omega
   | false =>
    go_wp2_with (go_at_call 114; refine (whiteW_any _ _).mono ?_; rintro e w' ⟨rfl, rfl⟩)
    go_roundw
    case rel => exact ⟨pos + (Utf8.decode s pos).2, b, beg, acc, rfl, HI2.out, HO2.out, HB2.out, by rw [← wordsFrom_plain s b pos beg hp hwh]; exact hc.out, by omega, by omega, by omega, by omega⟩
    case measure => rw [iterPos_ofW HI2.out, iterPos_ofW HI.out]; omega
  ·have hnx : ∀ ty, (Instr.next (.pointer (some ⟨w.heap.size, 0, none⟩)) true ty).run Tryz.prog wr = _ := fun ty => Lib.run_next_end_at wr w.heap.size s pos ty hit hp
   have HO := Lib.hid hown; have HB := Lib.hid hbl
   have hsz : w.heap.size < wr.heap.size := (Array.getElem?_eq_some_iff.1 hit).1
   clear hit hown hbl
   go_wp2_with (go_at_call 115; refine (addWord_any (w.heap.size + 1) _ acc _ _ HO.out (by omega) (size_cut _ _ _ hs) (by omega)).mono ?_; rintro e w2 ⟨v', rfl, ho, hg⟩)
   go_ret
   refine ⟨_, rfl, ?_, below_of_grownW HB.out HO.out (by omega) (by omega) hg⟩
   have hc2 := hc.out
   rw [wordsFrom_end s b pos beg hp] at hc2
   rw [← hc2]; exact own_le ho (by omega)
theorem tabs_below {w w' : World} (h : Lib.Utf8Tabs 5 6 w) (hb : Below w.heap.size w w') : Lib.Utf8Tabs 5 6 w' := by
 have lt : ∀ (b o : Nat) (v : Value), w.cell? ⟨b, o, none⟩ = some v → b < w.heap.size := fun b o v h => by
  rcases Nat.lt_or_ge b w.heap.size with h' | h'
  ·exact h'
  ·simp [World.cell?, Array.getElem?_eq_none h'] at h
 refine ⟨fun c hc => ?_, fun i hi => ⟨?_, ?_⟩⟩
 ·rw [hb.cell (p := ⟨5, c, none⟩) (lt _ _ _ (h.1 c hc))]; exact h.1 c hc
 ·rw [hb.cell (p := ⟨6, 2 * i, none⟩) (lt _ _ _ (h.2 i hi).1)]; exact (h.2 i hi).1
 ·rw [hb.cell (p := ⟨6, 2 * i + 1, none⟩) (lt _ _ _ (h.2 i hi).2)]; exact (h.2 i hi).2
theorem pred_white (w : World) : PredAt Tryz.prog 114 #[] encR whN w := by
 intro W x _
 show Calls Tryz.prog 114 #[.int .i32 (x : Int)] W _
 refine (whiteW_any (x : Int) W).mono ?_
 rintro e w' ⟨rfl, rfl⟩
 exact ⟨rfl, 0, rfl⟩
def trm (s : ByteArray) : ByteArray := Lib.trimF whN s
theorem trm_size (s : ByteArray) : (trm s).size ≤ s.size := by
 obtain ⟨a, b, _, h⟩ := trimF_is s
 unfold trm
 rw [h, Lib.size_eq, Lib.size_eq s]
 show (trimB s.data.toList a b).length ≤ _
 unfold trimB
 rw [List.length_take, List.length_drop]; omega
set_option maxRecDepth 1000000 in
theorem trim_any (s : ByteArray) (w : World) (hs : s.size ≤ 1000000) (hT : Hid (Lib.Utf8Tabs 5 6 w)) :
  Calls Tryz.prog 123 #[.string s] w fun e w' => e = .returned (.string (trm s)) ∧ Below w.heap.size w w' := by
 have eg : Hid (∀ args w, (callFunc 114 args).run Tryz.prog w = .ok (.enter 114 args) w) := enters_of Tryz.func114 (by kernel_rfl) rfl
 have hz := trm_size s
 have HC : Hid (∀ (W : World), Lib.Utf8Tabs 5 6 W → Calls Tryz.prog 154 #[.string s, .func (.func 114) #[] #[]] W fun e w' => e = .returned (.string (trm s)) ∧ Below W.heap.size W w') :=
  fun W h2 => Tryz.strings_TrimFunc 114 #[] eg.out whN s W (by omega) h2 (pred_white W)
 clear eg
 generalize trm s = t at HC hz ⊢
 go_enter Tryz.func123, Tryz.ntmps123
 go_wp2_with (first
  | (go_at_call 154; refine (HC.out _ hT.out).mono ?_; rintro e w1 ⟨rfl, hb1⟩)
  | (go_at_call 78; refine (clone_any t _ (by omega)).mono ?_; rintro e w2 ⟨rfl, hb2⟩))
 go_ret
 exact ⟨rfl, hb1.trans (hb2.mono hb1.size)⟩
def strs (l : List (List UInt8)) : List Value := l.map fun x => .string (asS x)
end Go.Proofs.YtgoiafndapemjaaGreatDoor
namespace Go.Proofs.YtgoiafndapemjaaGreatDoor
open Go.RowKit
theorem ret_int {k : IntKind} {a b : Int} (h : a = b) : Ending.returned (.int k a) = .returned (.int k b) := by rw [h]
theorem take_rest (s : ByteArray) (pos : Nat) : List.take (s.size - pos) (List.drop pos s.data.toList) = List.drop pos s.data.toList := by
 rw [List.take_of_length_le]; rw [List.length_drop, ← Lib.size_eq]; exact Nat.le_refl _
theorem size_extract (s : ByteArray) (pos : Nat) (h : s.size ≤ 281474976710656) : (s.extract 0 pos).size ≤ 281474976710656 := by
 rw [ByteArray.size_extract]; omega
theorem ret_str {a b : ByteArray} (h : a = b) : Ending.returned (.string a) = .returned (.string b) := by rw [h]
theorem below_iter (w : World) (s : ByteArray) (pos : Nat) : Below w.heap.size w (w.iter s pos) := (Below.refl _ _).alloc (Nat.le_refl _) _
set_option maxRecDepth 1000000 in
theorem check1_any (s : ByteArray) (w : World) :
  Calls Tryz.prog 77 #[.string s] w fun e w' => e = .returned (.int .i64 (chk s)) ∧ Below w.heap.size w w' := by
 go_enter Tryz.func77, Tryz.ntmps77
 go_wp2
 go_loopw [] (fun w' => ∃ (pos b : Nat), w' = w.iter s pos ∧ Hid (vldFrom s b pos = vld s) ∧ s.size ≤ pos + b) (fun w' => s.size - w'.iterPos w.heap.size)
 case atStart => exact ⟨0, s.size, rfl, rfl, by omega⟩
 case round =>
  obtain ⟨pos, b, rfl, hc, hb⟩ := hrel
  by_cases hp : pos < s.size
  ·have hnx : ∀ ty, (Instr.next (.pointer (some ⟨w.heap.size, 0, none⟩)) true ty).run Tryz.prog (w.iter s pos) = _ := fun ty => run_next_any w s pos ty hp
   have hwd := Lib.decode_width_pos s pos hp
   obtain ⟨b, rfl⟩ : ∃ b', b = b' + 1 := ⟨b - 1, by omega⟩
   cases hr : (((Utf8.decode s pos).1 : Int) == 65533) with
   | false =>
    have hbad := Lib.hid (badAt_other s pos hr)
    go_wp2
    go_roundw
    case rel => exact ⟨pos + (Utf8.decode s pos).2, b, rfl, (vldFrom_step s b pos hp hbad.out).symm.trans hc.out, by omega⟩
    case measure => simp; omega
   | true =>
    have hbad := Lib.hid (badAt_err s pos hr)
    have hex := Lib.hid (take_rest s pos)
    cases hq : Lib.hasPrefix (List.take (s.size - pos) (List.drop pos s.data.toList)) [239, 191, 189] with
    | true =>
     go_wp2_with (go_at_call 109; refine (Tryz.strings_HasPrefix _ _ _).mono ?_; rintro e w' ⟨rfl, rfl⟩)
     go_roundw
     case rel =>
      refine ⟨pos + (Utf8.decode s pos).2, b, rfl, (vldFrom_step s b pos hp ?_).symm.trans hc.out, by omega⟩
      rw [hbad.out, ← hex.out, hq]; rfl
     case measure => simp; omega
    | false =>
     go_wp2_with (go_at_call 109; refine (Tryz.strings_HasPrefix _ _ _).mono ?_; rintro e w' ⟨rfl, rfl⟩)
     go_ret
     refine ⟨ret_int ?_, below_iter _ _ _⟩
     rw [chkT_no]
     rw [← hc.out, vldFrom_bad s b pos hp]
     rw [hbad.out, ← hex.out, hq]; rfl
  ·have hnx : ∀ ty, (Instr.next (.pointer (some ⟨w.heap.size, 0, none⟩)) true ty).run Tryz.prog (w.iter s pos) = _ := fun ty => run_next_end w s pos ty hp
   go_wp2
   go_ret
   refine ⟨ret_int ?_, below_iter _ _ _⟩
   rw [chkT_ok]
   rw [← hc.out, vldFrom_end s b pos hp]
theorem check1_ok (s : ByteArray) (w : World) (h : vld s = true) :
  Calls Tryz.prog 77 #[.string s] w fun e w' => e = .returned (.int .i64 0) ∧ Below w.heap.size w w' := by
 have := check1_any s w
 rw [chkT_ok h] at this; exact this
theorem check1_no (s : ByteArray) (w : World) (h : vld s = false) :
  Calls Tryz.prog 77 #[.string s] w fun e w' => e = .returned (.int .i64 5) ∧ Below w.heap.size w w' := by
 have := check1_any s w
 rw [chkT_no h] at this; exact this
theorem ret_bool {a b : Bool} (h : a = b) : Ending.returned (.bool a) = .returned (.bool b) := by rw [h]
set_option maxRecDepth 1000000 in
theorem standsX_any (r : Nat) (w : World) (hr : (r : Int) ≤ 1114111) : Calls Tryz.prog 102 #[.int .i32 r] w fun e w' => e = .returned (.bool (xmlN r)) ∧ w' = w := by
 go_enter Tryz.func102, Tryz.ntmps102
 go_wp2
 all_goals (go_ret; refine ⟨?_, rfl⟩)
 all_goals (simp only [beq_iff_eq, beq_eq_false_iff_ne] at *)
 all_goals first
  | (refine ret_bool (a := true) (xmlN_yes ?_).symm; omega)
  | (refine ret_bool (a := false) (xmlN_no ?_).symm; omega)
set_option maxRecDepth 1000000 in
theorem xml_no (s : ByteArray) (w : World) (h : Hid (vld s = false)) :
  Calls Tryz.prog 65 #[.string s] w fun e w' => e = .returned (.int .i64 5) ∧ Below w.heap.size w w' := by
 go_enter Tryz.func65, Tryz.ntmps65
 go_wp2_with (go_at_call 77; refine (check1_no s _ h.out).mono ?_; rintro e w' ⟨rfl, hb⟩)
 go_ret
 exact ⟨rfl, hb⟩
set_option maxRecDepth 1000000 in
theorem xml_ok (s : ByteArray) (w : World) (h : Hid (vld s = true)) :
  Calls Tryz.prog 65 #[.string s] w fun e w' => e = .returned (.int .i64 (xmlE (xmlB s))) ∧ Below w.heap.size w w' := by
 go_enter Tryz.func65, Tryz.ntmps65
 go_wp2_with (go_at_call 77; refine (check1_ok s _ h.out).mono ?_; rintro e w1 ⟨rfl, hb1⟩)
 go_loopw [] (fun w' => ∃ (pos b : Nat), w' = w1.iter s pos ∧ Hid ((runesFrom s b pos).all xmlN = xmlB s) ∧ s.size ≤ pos + b) (fun w' => s.size - w'.iterPos w1.heap.size)
 case atStart => exact ⟨0, s.size, rfl, rfl, by omega⟩
 case round =>
  obtain ⟨pos, b, rfl, hc, hb⟩ := hrel
  by_cases hp : pos < s.size
  ·have hnx : ∀ ty, (Instr.next (.pointer (some ⟨w1.heap.size, 0, none⟩)) true ty).run Tryz.prog (w1.iter s pos) = _ := fun ty => run_next_any w1 s pos ty hp
   have hwd := Lib.decode_width_pos s pos hp
   have hle := decode_le s pos
   obtain ⟨b, rfl⟩ : ∃ b', b = b' + 1 := ⟨b - 1, by omega⟩
   have HS := Lib.hid (all_step (b := b) hp)
   cases hx : xmlN (Utf8.decode s pos).1 with
   | true =>
    go_wp2_with (go_at_call 102; refine (standsX_any _ _ (by omega)).mono ?_; rintro e w' ⟨rfl, rfl⟩)
    go_roundw
    case rel =>
     refine ⟨pos + (Utf8.decode s pos).2, b, rfl, ?_, by omega⟩
     show _ = _
     rw [← hc.out, HS.out, hx, Bool.true_and]
    case measure => simp; omega
   | false =>
    go_wp2_with (go_at_call 102; refine (standsX_any _ _ (by omega)).mono ?_; rintro e w' ⟨rfl, rfl⟩)
    go_ret
    refine ⟨ret_int ?_, hb1.trans ((below_iter _ _ _).mono hb1.size)⟩
    rw [← hc.out, HS.out, hx, Bool.false_and]; rfl
  ·have hnx : ∀ ty, (Instr.next (.pointer (some ⟨w1.heap.size, 0, none⟩)) true ty).run Tryz.prog (w1.iter s pos) = _ := fun ty => run_next_end w1 s pos ty hp
   go_wp2
   go_ret
   refine ⟨ret_int ?_, hb1.trans ((below_iter _ _ _).mono hb1.size)⟩
   rw [← hc.out, runesFrom_end s b pos hp]; rfl
def placeFrom (s : ByteArray) : Nat → Nat → Nat
 | 0, pos => pos
 | n + 1, pos => if pos < s.size then placeFrom s n (pos + (Utf8.decode s pos).2) else pos
theorem placeFrom_end (s : ByteArray) (n pos : Nat) (h : ¬ pos < s.size) : placeFrom s n pos = pos := by
 cases n <;> simp [placeFrom, h]
theorem extract_all (s : ByteArray) (pos : Nat) (h : ¬ pos < s.size) : s.extract 0 pos = s := by
 apply ByteArray.ext
 apply Array.toList_inj.1
 rw [Lib.extract_data, List.drop_zero, List.take_of_length_le]
 rw [← Lib.size_eq]; omega
set_option maxRecDepth 1000000 in
theorem head_no (s : ByteArray) (n : Int) (w : World) (h1 : ¬ n < 1) (h : Hid (vld s = false)) :
  Calls Tryz.prog 42 #[.string s, .int .i64 n] w fun e w' => e = .returned (.string ⟨#[]⟩) ∧ Below w.heap.size w w' := by
 go_enter Tryz.func42, Tryz.ntmps42
 go_wp2_with (go_at_call 77; refine (check1_no s _ h.out).mono ?_; rintro e w' ⟨rfl, hb⟩)
 go_ret
 exact ⟨rfl, hb⟩
set_option maxRecDepth 1000000 in
theorem head_ok (s : ByteArray) (n : Nat) (w : World) (hs : s.size ≤ 281474976710656) (h1 : 1 ≤ n) (hn : n ≤ 9223372036854775807) (h : Hid (vld s = true)) :
  Calls Tryz.prog 42 #[.string s, .int .i64 n] w fun e w' => e = .returned (.string (s.extract 0 (placeFrom s n 0))) ∧ Below w.heap.size w w' := by
 have h1' : ¬ ((n : Int) < 1) := by omega
 go_enter Tryz.func42, Tryz.ntmps42
 go_wp2_with (go_at_call 77; refine (check1_ok s _ h.out).mono ?_; rintro e w1 ⟨rfl, hb1⟩)
 go_loopw [1] (fun t w' => ∃ (pos k : Nat), w' = w1.iter s pos ∧ t = .int .i64 k ∧ k ≤ n ∧ Hid (placeFrom s k pos = placeFrom s n 0)) (fun _ w' => s.size - w'.iterPos w1.heap.size)
 case atStart => exact ⟨0, n, rfl, rfl, Nat.le_refl _, rfl⟩
 case round =>
  obtain ⟨pos, k, rfl, rfl, hk, hc⟩ := hrel
  by_cases hp : pos < s.size
  ·have hnx : ∀ ty, (Instr.next (.pointer (some ⟨w1.heap.size, 0, none⟩)) true ty).run Tryz.prog (w1.iter s pos) = _ := fun ty => run_next_any w1 s pos ty hp
   have hwd := Lib.decode_width_pos s pos hp
   cases k with
   | zero =>
    have hz : ((0 : Int) == 0) = true := rfl
    have hx := size_extract s pos hs
    go_wp2_with (go_at_call 78; refine (clone_any _ _ (by simpa using hx)).mono ?_; rintro e w' ⟨rfl, hb⟩)
    go_ret
    refine ⟨?_, hb1.trans (((below_iter _ _ _).trans (hb.mono (by simp [World.iter]))).mono hb1.size)⟩
    have hz := hc.out
    refine ret_str ?_
    rw [← hz]; rfl
   | succ k =>
    have hz : (((k + 1 : Nat) : Int) == 0) = false := by rw [beq_eq_false_iff_ne]; omega
    go_wp2
    go_roundw
    case rel =>
     refine ⟨pos + (Utf8.decode s pos).2, k, rfl, by go_num, by omega, ?_⟩
     have := hc.out
     simp only [placeFrom, hp, if_true] at this
     exact this
    case measure => simp; omega
  ·have hnx : ∀ ty, (Instr.next (.pointer (some ⟨w1.heap.size, 0, none⟩)) true ty).run Tryz.prog (w1.iter s pos) = _ := fun ty => run_next_end w1 s pos ty hp
   go_wp2_with (go_at_call 78; refine (clone_any _ _ hs).mono ?_; rintro e w' ⟨rfl, hb⟩)
   go_ret
   refine ⟨?_, hb1.trans (((below_iter _ _ _).trans (hb.mono (by simp [World.iter]))).mono hb1.size)⟩
   refine ret_str ?_
   rw [← hc.out, placeFrom_end s k pos hp, extract_all s pos hp]
def sqz (s : ByteArray) : List UInt8 := Lib.join ((wordsOf s).map (fun x => x.data.toList)) [32]
theorem lens_le (M : Nat) : ∀ l : List ByteArray, (∀ x ∈ l, x.size ≤ M) → Lib.lens (l.map (fun x => x.data.toList)) ≤ l.length * M
 | [], _ => by simp [Lib.lens]
 | x :: r, h => by
  have h1 := h x (by simp)
  have h2 := lens_le M r (fun y hy => h y (by simp [hy]))
  rw [Lib.size_eq] at h1
  simp only [Lib.lens, List.map_cons, List.length_cons, List.sum_cons, Nat.add_mul] at h2 ⊢
  omega
theorem sqz_len (s : ByteArray) (hs : s.size ≤ 1000000) : (sqz s).length ≤ 140737488355328 := by
 have h1 : (wordsOf s).length ≤ s.size + 1 := wordsFrom_len s s.size 0 0
 have h2 := lens_le s.size (wordsOf s) (fun x hx => wordsFrom_mem s x _ _ _ hx)
 have h3 : (wordsOf s).length * s.size ≤ 1000001 * 1000000 := Nat.mul_le_mul (by omega) hs
 unfold sqz
 cases hw : wordsOf s with
 | nil => simp [Lib.join_nil]
 | cons x r =>
  rw [hw] at h1 h2 h3
  rw [List.map_cons, Lib.join_length]
  rw [List.map_cons] at h2
  simp only [List.length_cons, List.length_map, List.length_nil] at h1 ⊢
  omega
theorem sqz_eq (s : ByteArray) : sqz s = Lib.join (wds s) [32] := by
 unfold sqz
 rw [wordsOf_eq, List.map_map]
 congr 1
 conv => rhs; rw [← List.map_id (wds s)]
 apply List.map_congr_left
 intro x _
 simp [asS]
theorem split_len : ∀ (l cur : List UInt8), Lib.lens (splitW l cur) + (splitW l cur).length ≤ cur.length + l.length + 1
 | [], cur => by
  rw [splitW, addL]
  split
  ·simp [Lib.lens]
  ·simp [Lib.lens]
 | c :: t, cur => by
  rw [splitW]
  split
  ·have := split_len t []
   unfold addL
   split
   ·simp only [List.nil_append, List.length_cons, List.length_nil] at this ⊢; omega
   ·simp only [List.cons_append, List.nil_append, List.length_cons, List.length_nil, Lib.lens, List.map_cons, List.sum_cons] at this ⊢; omega
  ·have := split_len t (cur ++ [c])
   simp only [List.length_append, List.length_cons, List.length_nil] at this ⊢; omega
theorem sqz_le (s : ByteArray) : (sqz s).length ≤ s.size := by
 rw [sqz_eq]
 have h := split_len s.data.toList []
 rw [List.length_nil, ← Lib.size_eq] at h
 change Lib.lens (wds s) + (wds s).length ≤ _ at h
 cases hw : wds s with
 | nil => simp [Lib.join_nil]
 | cons x r =>
  rw [hw] at h
  rw [Lib.join_length]
  simp only [List.length_cons, List.length_nil] at h ⊢
  omega
set_option maxRecDepth 1000000 in
theorem squeeze_any (s : ByteArray) (w : World) (hs : s.size ≤ 1000000) :
  Calls Tryz.prog 43 #[.string s] w fun e w' => e = .returned (.string ⟨(sqz s).toArray⟩) ∧ Below w.heap.size w w' := by
 have hlen := Lib.hid (sqz_len s hs)
 have hnum := Lib.hid (wordsFrom_len s s.size 0 0)
 have hdef : Hid (sqz s = Lib.join ((wordsOf s).map (fun x => x.data.toList)) [32]) := rfl
 go_enter Tryz.func43, Tryz.ntmps43
 go_wp2_with (go_at_call 80; refine (words_any s _ hs).mono ?_; rintro e w1 ⟨v, rfl, ho, hb⟩)
 rcases ho.2 with ⟨hv, hn⟩ | ⟨g, cap, cur, hv, hg, hh, hcap, _, _, _⟩
 ·rw [hv]
  refine (Tryz.strings_Join_none none 0 _ _).mono ?_
  rintro e w2 ⟨rfl, rfl⟩
  have he : Hid (sqz s = []) := by
   show _ = _
   rw [hdef.out, List.length_eq_zero_iff.1 hn]; rfl
  clear ho hv hn
  go_wp2
  go_ret
  exact ⟨by rw [he.out]; rfl, hb⟩
 ·rw [hv]
  rw [hv] at ho
  have hgs : g < w1.heap.size := (Array.getElem?_eq_some_iff.1 hh).1
  refine (Tryz.strings_Join g 0 cap (wordsOf s) ⟨#[32]⟩ w1 ?hc hgs ?hN hcap ?hl).mono ?_
  case hc =>
   intro j x hx
   have hj : j < (wordsOf s).length := (List.getElem?_eq_some_iff.1 hx).1
   rw [Nat.zero_add, ho.cellAt j (by omega), List.getElem?_map, hx]; rfl
  case hN => have := hnum.out; unfold wordsOf; omega
  case hl => exact hlen.out
  rintro e w2 ⟨rfl, hb2⟩
  have hb3 := Lib.hid (hb.trans (hb2.mono hb.size))
  clear ho hv hg hh hcap hb hb2 hgs
  go_wp2
  go_ret
  exact ⟨by rw [hdef.out]; rfl, hb3.out⟩
end Go.Proofs.YtgoiafndapemjaaGreatDoor
