/- What text.isWhite, appendWord, Words and Squeeze do, call by call, at every text that is not too long. -/
import Derived.Test.YtdpaimpdlopafaaDoorText
import Derived.WalkSmall
namespace Go.Proofs.YtdpaimpdlopafaaDoor
open Go.RowKit

theorem grown_of {w w1 w' : World} {o : Obj} {row : Option Nat} (hb : Below w.heap.size w w1) (hg : (w1.alloc o).grownBy w' row) : w.grownBy w' row :=
  ⟨hg.os.trans hb.os, hg.tape.trans hb.tape, hg.output.trans hb.output, Nat.le_trans hb.size (Nat.le_trans (by simp) hg.size), fun k hk hr => by
    rw [hg.block k (by have := hb.size; simp; omega) hr, Below.heap_alloc _ _ _ (by have := hb.size; omega), hb.block k hk]⟩
theorem own_below {B : Nat} {e : TypeId} {k : Nat} {v : Value} {n : Nat} {xs : List Value} {w w' : World} (h : w.ownsRow B e k v n xs) (hb : Below w.heap.size w w') : w'.ownsRow B e k v n xs := by
  refine ⟨h.1, ?_⟩
  rcases h.2 with h2 | ⟨g, cap, cur, hv, hg, hh, r⟩
  · exact Or.inl h2
  · refine Or.inr ⟨g, cap, cur, hv, hg, ?_, r⟩
    rw [hb.block g (by have := (Array.getElem?_eq_some_iff.1 hh).1; exact this)]; exact hh

theorem info9 : (Tryd.prog.info? 9).map (fun i => (i.zero, i.size, i.bytes)) = some (some (.string ByteArray.empty), 1, 16) := by kernel_rfl

set_option maxHeartbeats 400000 in
theorem white_any (r : Int) (w : World) : Calls Tryd.prog 17 #[.int .i32 r] w fun e w' => e = .returned (.bool (whiteR r)) ∧ w' = w := by
  unfold whiteR
  go_enter Tryd.func17, Tryd.ntmps17
  go_wp2
  all_goals (go_ret; refine ⟨?_, rfl⟩)
  all_goals simp_all

set_option maxHeartbeats 1000000 in
theorem addWord_empty (v : Value) (w : World) : Calls Tryd.prog 18 #[v, .string ⟨#[]⟩] w fun e w' => e = .returned v ∧ w' = w := by
  go_enter Tryd.func18, Tryd.ntmps18
  go_wp2
  go_ret
  exact ⟨rfl, rfl⟩

set_option maxHeartbeats 1000000 in
theorem addWord_more (base : Nat) (v : Value) (xs : List ByteArray) (x : ByteArray) (w : World) (hown : w.ownsRow base 9 1 v xs.length (xs.map Value.string)) (hbase : base ≤ w.heap.size)
    (hx : x.size ≤ 281474976710656) (hne : x.toList.isEmpty = false) (hn : xs.length ≤ 1000000000) :
    Calls Tryd.prog 18 #[v, .string x] w fun e w' => ∃ v', e = .returned v' ∧ w'.ownsRow base 9 1 v' (xs.length + 1) (xs.map Value.string ++ [.string x]) ∧ w.grownBy w' v.ownBlock := by
  obtain ⟨i0, hi, hz0, hz1, hz2⟩ := info_parts info9
  go_enter Tryd.func18, Tryd.ntmps18
  go_wp2_with (first
    | (go_at_call 20; refine (clone_any _ _ hx).mono ?_; rintro e w1 ⟨rfl, hb1⟩)
    | (at_builtin; refine wpList_append_own _ rfl _ _ 25 rfl base 9 i0 (.string ByteArray.empty) 1 16 Tryd.underlying25 hi hz0 hz1 hz2 rfl (by decide) _ _ _ rfl ((own_below hown hb1).alloc _) ⟨w1.heap.size, 0, none⟩ 1 1 [.string x] rfl rfl (cell_one_new _ _ _) ?c2 ?c3 ?c4 ?c5 ?_))
  case c2 => intro u hu; simp at hu; subst hu; rfl
  case c3 => unfold maxLen; omega
  case c4 => omega
  case c5 => have := hb1.size; simp; omega
  intro v' w3 hown' hgrow _
  have hg := grown_of hb1 hgrow
  clear hgrow
  go_wp2
  go_ret
  exact ⟨_, rfl, hown', hg⟩

theorem addWord_any (base : Nat) (v : Value) (xs : List ByteArray) (x : ByteArray) (w : World) (hown : w.ownsRow base 9 1 v xs.length (xs.map Value.string)) (hbase : base ≤ w.heap.size)
    (hx : x.size ≤ 281474976710656) (hn : xs.length ≤ 1000000000) :
    Calls Tryd.prog 18 #[v, .string x] w fun e w' => ∃ v', e = .returned v' ∧ w'.ownsRow base 9 1 v' (xs ++ addW x).length ((xs ++ addW x).map Value.string) ∧ w.grownBy w' v.ownBlock := by
  by_cases h0 : x.size = 0
  · have hs : x = ⟨#[]⟩ := by
      apply ByteArray.ext
      exact Array.eq_empty_of_size_eq_zero h0
    subst hs
    refine (addWord_empty v w).mono ?_
    rintro e w' ⟨rfl, rfl⟩
    refine ⟨v, rfl, ?_, ⟨rfl, rfl, rfl, Nat.le_refl _, fun _ _ _ => rfl⟩⟩
    have e0 : addW ⟨#[]⟩ = [] := rfl
    rw [e0, List.append_nil]; exact hown
  · have hne : x.toList.isEmpty = false := by
      rw [Lib.toList_data]
      cases hl : x.data.toList with
      | nil => exfalso; apply h0; rw [Lib.size_eq, hl]; rfl
      | cons a t => rfl
    refine (addWord_more base v xs x w hown hbase hx hne hn).mono ?_
    rintro e w' ⟨v', rfl, ho, hg⟩
    refine ⟨v', rfl, ?_, hg⟩
    simpa [addW, h0] using ho

theorem below_of_grown {w0 w w' : World} {B base : Nat} {e : TypeId} {k n : Nat} {v : Value} {xs : List Value} (hb : Below B w0 w) (hown : w.ownsRow base e k v n xs) (hB : B ≤ base) (hs : B ≤ w.heap.size) (hg : w.grownBy w' v.ownBlock) : Below B w0 w' := by
  refine hb.grown hg hs fun j hj => ?_
  rcases hown.2 with ⟨rfl, _⟩ | ⟨g, cap, cur, rfl, hg', _⟩
  · simp [Value.ownBlock] at hj
  · simp [Value.ownBlock] at hj; omega
theorem kept_of_grown {w w' : World} {base j : Nat} {e : TypeId} {k n : Nat} {v : Value} {xs : List Value} (hown : w.ownsRow base e k v n xs) (hj : j < base) (hs : j < w.heap.size) (hg : w.grownBy w' v.ownBlock) : w'.heap[j]? = w.heap[j]? := by
  refine hg.block j hs fun hj' => ?_
  rcases hown.2 with ⟨rfl, _⟩ | ⟨g, cap, cur, rfl, hg', _⟩
  · simp [Value.ownBlock] at hj'
  · simp [Value.ownBlock] at hj'; omega
theorem size_cut (s : ByteArray) (a b : Nat) (h : s.size ≤ 1000000) : (s.extract a b).size ≤ 281474976710656 := by
  rw [ByteArray.size_extract]; omega
theorem own_le {w : World} {base base' size n : Nat} {e : TypeId} {v : Value} {xs : List Value} (h : w.ownsRow base e size v n xs) (hb : base' ≤ base) : w.ownsRow base' e size v n xs := by
  refine ⟨h.1, ?_⟩
  rcases h.2 with h2 | ⟨g, cap, cur, hv, hg, r⟩
  · exact Or.inl h2
  · exact Or.inr ⟨g, cap, cur, hv, by omega, r⟩
theorem iterPos_of {w : World} {k p : Nat} {s : ByteArray} (h : w.heap[k]? = some (.stringIter s p)) : w.iterPos k = p := by
  simp [World.iterPos, h]

set_option maxHeartbeats 2000000 in
set_option maxRecDepth 1000000 in
theorem words_any (s : ByteArray) (w : World) (hs : s.size ≤ 1000000) :
    Calls Tryd.prog 8 #[.string s] w fun e w' => ∃ v, e = .returned v ∧ w'.ownsRow w.heap.size 9 1 v (wordsOf s).length ((wordsOf s).map Value.string) ∧ Below w.heap.size w w' := by
  go_enter Tryd.func8, Tryd.ntmps8
  go_wp2
  go_loopw [3, 4] (fun v t wr => ∃ (pos b beg : Nat) (acc : List ByteArray), t = .int .i64 beg ∧ wr.heap[w.heap.size]? = some (.stringIter s pos) ∧ wr.ownsRow (w.heap.size + 1) 9 1 v acc.length (acc.map Value.string) ∧ Below w.heap.size w wr ∧ Hid (acc ++ wordsFrom s b pos beg = wordsOf s) ∧ s.size ≤ pos + b ∧ acc.length ≤ pos ∧ beg ≤ pos ∧ pos ≤ s.size) (fun _ _ wr => s.size - wr.iterPos w.heap.size)
  case atStart => exact ⟨0, s.size, 0, [], rfl, heap_alloc_new w _, World.ownsRow_nil _ _ _ _, below_iter _ _ _, rfl, by omega, Nat.le_refl _, Nat.le_refl _, Nat.zero_le _⟩
  case round =>
    obtain ⟨pos, b, beg, acc, rfl, hit, hown, hbl, hc, hb, ha, hbe, hps⟩ := hrel
    by_cases hp : pos < s.size
    · have hnx : ∀ ty, (Instr.next (.pointer (some ⟨w.heap.size, 0, none⟩)) true ty).run Tryd.prog wr = _ := fun ty => Lib.run_next_any_at wr w.heap.size s pos ty hit hp
      have hwd := Lib.decode_width_pos s pos hp
      have hft := decode_fits s pos hp
      obtain ⟨b, rfl⟩ : ∃ b', b = b' + 1 := ⟨b - 1, by omega⟩
      have hit2 := Lib.iterAt_heap wr w.heap.size s pos (pos + (Utf8.decode s pos).2) hit
      have hown2 := ownsRow_iterAt hown (k := w.heap.size) (by omega) s (pos + (Utf8.decode s pos).2)
      have hbl2 := Lib.below_iterAt hbl (k := w.heap.size) (Nat.le_refl _) s (pos + (Utf8.decode s pos).2)
      have hsz : w.heap.size < wr.heap.size := (Array.getElem?_eq_some_iff.1 hit).1
      have hsz2 : w.heap.size < (wr.iterAt w.heap.size s (pos + (Utf8.decode s pos).2)).heap.size := by rw [Lib.iterAt_size]; exact hsz
      have HI := Lib.hid hit; have HI2 := Lib.hid hit2; have HO2 := Lib.hid hown2; have HB2 := Lib.hid hbl2
      clear hit hit2 hown2 hbl2 hown hbl
      cases hwh : whiteR (Utf8.decode s pos).1 with
      | true =>
        go_wp2_with (first
          | (go_at_call 17; refine (white_any _ _).mono ?_; rintro e w' ⟨rfl, rfl⟩)
          | (go_at_call 18; refine (addWord_any (w.heap.size + 1) _ acc _ _ HO2.out (by omega) (size_cut _ _ _ hs) (by omega)).mono ?_; rintro e w2 ⟨v', rfl, ho, hg⟩))
        have hit3 := (kept_of_grown HO2.out (by omega) hsz2 hg).trans HI2.out
        have hbl3 := below_of_grown HB2.out HO2.out (by omega) (by omega) hg
        go_roundw
        case rel =>
          refine ⟨pos + (Utf8.decode s pos).2, b, pos + 1, acc ++ addW (s.extract beg pos), by go_num, hit3, ho, hbl3, ?_, by omega, ?_, by omega, by omega⟩
          · show _ = _
            rw [List.append_assoc, ← wordsFrom_white s b pos beg hp hwh]; exact hc.out
          · have := addW_le (s.extract beg pos)
            rw [List.length_append]; omega
        case measure => rw [iterPos_of hit3, iterPos_of HI.out]; omega
      | false =>
        go_wp2_with (go_at_call 17; refine (white_any _ _).mono ?_; rintro e w' ⟨rfl, rfl⟩)
        go_roundw
        case rel => exact ⟨pos + (Utf8.decode s pos).2, b, beg, acc, rfl, HI2.out, HO2.out, HB2.out, by rw [← wordsFrom_plain s b pos beg hp hwh]; exact hc.out, by omega, by omega, by omega, by omega⟩
        case measure => rw [iterPos_of HI2.out, iterPos_of HI.out]; omega
    · have hnx : ∀ ty, (Instr.next (.pointer (some ⟨w.heap.size, 0, none⟩)) true ty).run Tryd.prog wr = _ := fun ty => Lib.run_next_end_at wr w.heap.size s pos ty hit hp
      have HO := Lib.hid hown; have HB := Lib.hid hbl
      have hsz : w.heap.size < wr.heap.size := (Array.getElem?_eq_some_iff.1 hit).1
      clear hit hown hbl
      go_wp2_with (go_at_call 18; refine (addWord_any (w.heap.size + 1) _ acc _ _ HO.out (by omega) (size_cut _ _ _ hs) (by omega)).mono ?_; rintro e w2 ⟨v', rfl, ho, hg⟩)
      go_ret
      refine ⟨_, rfl, ?_, below_of_grown HB.out HO.out (by omega) (by omega) hg⟩
      have hc2 := hc.out
      rw [wordsFrom_end s b pos beg hp] at hc2
      rw [← hc2]; exact own_le ho (by omega)

set_option maxHeartbeats 1000000 in
set_option maxRecDepth 1000000 in
theorem squeeze_any (s : ByteArray) (w : World) (hs : s.size ≤ 1000000) :
    Calls Tryd.prog 12 #[.string s] w fun e w' => e = .returned (.string ⟨(sqz s).toArray⟩) ∧ Below w.heap.size w w' := by
  have hlen := Lib.hid (sqz_len s hs)
  have hnum := Lib.hid (wordsFrom_len s s.size 0 0)
  have hdef : Hid (sqz s = Lib.join ((wordsOf s).map (fun x => x.data.toList)) [32]) := rfl
  go_enter Tryd.func12, Tryd.ntmps12
  go_wp2_with (go_at_call 8; refine (words_any s _ hs).mono ?_; rintro e w1 ⟨v, rfl, ho, hb⟩)
  rcases ho.2 with ⟨hv, hn⟩ | ⟨g, cap, cur, hv, hg, hh, hcap, _, _, _⟩
  · rw [hv]
    refine (Tryd.strings_Join_none none 0 _ _).mono ?_
    rintro e w2 ⟨rfl, rfl⟩
    have he : Hid (sqz s = []) := by
      show _ = _
      rw [hdef.out, List.length_eq_zero_iff.1 hn]; rfl
    clear ho hv hn
    go_wp2
    go_ret
    exact ⟨by rw [he.out]; rfl, hb⟩
  · rw [hv]
    rw [hv] at ho
    have hgs : g < w1.heap.size := (Array.getElem?_eq_some_iff.1 hh).1
    refine (Tryd.strings_Join g 0 cap (wordsOf s) ⟨#[32]⟩ w1 ?hc hgs ?hN hcap ?hl).mono ?_
    case hc =>
      intro j x hx
      have hj : j < (wordsOf s).length := (List.getElem?_eq_some_iff.1 hx).1
      rw [Nat.zero_add, ho.cellAt j (by omega), List.getElem?_map, hx]; rfl
    case hN => have := hnum.out; unfold wordsOf; omega
    case hl => exact hlen.out
    rintro e w2 ⟨rfl, hb2⟩
    have hb3 := Lib.hid (hb.trans (hb2.mono hb.size))
    clear ho hv hg hh hcap hb hb2 hgs
    go_wp2
    go_ret
    exact ⟨by rw [hdef.out]; rfl, hb3.out⟩

theorem aw1 : vld ⟨#[226, 130, 172, 117]⟩ = true := by decide +kernel
theorem aw2 : Lib.runeCount ⟨#[226, 130, 172, 117]⟩ = 2 := by decide +kernel
theorem aw3 : vld ⟨#[226, 130, 172, 117, 114, 111]⟩ = true := by decide +kernel
theorem aw4 : ((⟨#[226, 130, 172, 117, 114, 111]⟩ : ByteArray).extract 0 (placeFrom ⟨#[226, 130, 172, 117, 114, 111]⟩ 2 0)) = ⟨#[226, 130, 172, 117]⟩ := by decide +kernel
theorem aw5 : sqz ⟨#[9, 97, 32, 32, 98]⟩ = [97, 32, 98] := by decide +kernel
theorem aw6 : vld ⟨#[255]⟩ = false := by decide +kernel
theorem aw_count (w : World) : Calls Tryd.prog 14 #[.string ⟨#[226, 130, 172, 117]⟩] w fun e w' => e = .returned (.int .i64 2) ∧ Below w.heap.size w w' := by
  have h := count_ok ⟨#[226, 130, 172, 117]⟩ w (by decide +kernel) aw1
  rw [aw2] at h; exact h
theorem aw_head (w : World) : Calls Tryd.prog 15 #[.string ⟨#[226, 130, 172, 117, 114, 111]⟩, .int .i64 2] w fun e w' => e = .returned (.string ⟨#[226, 130, 172, 117]⟩) ∧ Below w.heap.size w w' := by
  have h := head_ok ⟨#[226, 130, 172, 117, 114, 111]⟩ 2 w (by decide +kernel) (by decide) (by decide) aw3
  rw [aw4] at h; exact h
theorem aw_sqz (w : World) : Calls Tryd.prog 12 #[.string ⟨#[9, 97, 32, 32, 98]⟩] w fun e w' => e = .returned (.string ⟨#[97, 32, 98]⟩) ∧ Below w.heap.size w w' := by
  have h := squeeze_any ⟨#[9, 97, 32, 32, 98]⟩ w (by decide +kernel)
  rw [aw5] at h; exact h
theorem aw_check (w : World) : Calls Tryd.prog 16 #[.string ⟨#[255]⟩] w fun e w' => e = .returned (.int .i64 5) ∧ Below w.heap.size w w' := check_no ⟨#[255]⟩ w aw6

set_option maxHeartbeats 1000000 in
set_option maxRecDepth 1000000 in
theorem awake_any (w : World) : Calls Tryd.prog 6 #[] w fun e w' => e = .returned (.bool true) ∧ Below w.heap.size w w' := by
  go_enter Tryd.func6, Tryd.ntmps6
  go_wp2_with (first
    | (go_at_call 14; refine (aw_count _).mono ?_; rintro e w1 ⟨rfl, hb1⟩)
    | (go_at_call 15; refine (aw_head _).mono ?_; rintro e w2 ⟨rfl, hb2⟩)
    | (go_at_call 12; refine (aw_sqz _).mono ?_; rintro e w3 ⟨rfl, hb3⟩)
    | (go_at_call 16; refine (aw_check _).mono ?_; rintro e w4 ⟨rfl, hb4⟩))
  go_ret
  have hb12 := hb1.trans (hb2.mono hb1.size)
  have hb13 := hb12.trans (hb3.mono hb12.size)
  exact ⟨rfl, hb13.trans (hb4.mono hb13.size)⟩

theorem light_yes (s : ByteArray) (w : World) (h : (s.size : Int) ≤ 4000) : Calls Tryd.prog 5 #[.string s] w fun e w' => e = .returned (.bool true) ∧ w' = w := by
  go_enter Tryd.func5, Tryd.ntmps5
  go_wp2
  go_ret
  exact ⟨rfl, rfl⟩
theorem light_no (s : ByteArray) (w : World) (h : ¬ (s.size : Int) ≤ 4000) : Calls Tryd.prog 5 #[.string s] w fun e w' => e = .returned (.bool false) ∧ w' = w := by
  go_enter Tryd.func5, Tryd.ntmps5
  go_wp2
  go_ret
  exact ⟨rfl, rfl⟩

end Go.Proofs.YtdpaimpdlopafaaDoor
