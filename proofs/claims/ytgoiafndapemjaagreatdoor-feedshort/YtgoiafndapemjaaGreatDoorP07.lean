import Derived.Test.YtgoiafndapemjaaGreatDoorP05
import Derived.Test.YtgoiafndapemjaaGreatDoorP06
import Derived.Test.YtgoiafndapemjaaGreatDoorFeShelf
import Derived.Deep.QuietTactic
import Derived.BigQuiet
import Derived.Laws.BitsLemmas
import Derived.Lib.EndianBits
set_option linter.unusedVariables false
set_option linter.unusedSimpArgs false
set_option maxHeartbeats 1000000
namespace Go.Proofs.YtgoiafndapemjaaGreatDoor
open Go.RowKit
def placeFrom (s : ByteArray) : Nat → Nat → Nat
 | 0, pos => pos
 | n + 1, pos => if pos < s.size then placeFrom s n (pos + (Utf8.decode s pos).2) else pos
theorem placeFrom_end (s : ByteArray) (n pos : Nat) (h : ¬ pos < s.size) : placeFrom s n pos = pos := by
 cases n <;> simp [placeFrom, h]
theorem extract_all (s : ByteArray) (pos : Nat) (h : ¬ pos < s.size) : s.extract 0 pos = s := by
 apply ByteArray.ext
 apply Array.toList_inj.1
 rw [Lib.extract_data, List.drop_zero, List.take_of_length_le]
 rw [← Lib.size_eq]; omega
theorem dN_cut (n n' b0 b1 b2 b3 c1 c2 c3 v k : Nat) (hb : b0 < 256) (e1 : 1 < n' → c1 = b1) (e2 : 2 < n' → c2 = b2) (e3 : 3 < n' → c3 = b3)
  (h : Lib.decodeN n b0 b1 b2 b3 = (v, k)) (hok : (v, k) ≠ (65533, 1)) (hk : k ≤ n') : Lib.decodeN n' b0 c1 c2 c3 = (v, k) := by
 by_cases h0 : b0 < 128
 ·rw [dN_ascii _ _ _ _ _ h0] at h ⊢; exact h
 by_cases h1 : b0 < 194 ∨ 245 ≤ b0
 ·rw [dN_lead _ _ _ _ _ hb h0 h1] at h; exact absurd h.symm hok
 by_cases h2 : b0 < 224
 ·by_cases hx : n < 2 ∨ ¬ (128 ≤ b1 ∧ b1 < 192)
  ·rw [dN_2no _ _ _ _ _ (by omega) h2 hx] at h; exact absurd h.symm hok
  ·rw [dN_2ok _ _ _ _ _ (by omega) h2 (by omega) (by omega)] at h
   have hk2 : k = 2 := (congrArg Prod.snd h).symm
   rw [dN_2ok _ _ _ _ _ (by omega) h2 (by omega) (by rw [e1 (by omega)]; omega), e1 (by omega)]; exact h
 by_cases h3 : b0 < 240
 ·by_cases hx : n < 3 ∨ ¬ (128 ≤ b1 ∧ b1 < 192) ∨ ¬ (128 ≤ b2 ∧ b2 < 192)
  ·rw [dN_3no _ _ _ _ _ (by omega) h3 hx] at h; exact absurd h.symm hok
  ·by_cases hy : (b0 % 16 * 64 + b1 % 64) * 64 + b2 % 64 < 2048 ∨ (55296 ≤ (b0 % 16 * 64 + b1 % 64) * 64 + b2 % 64 ∧ (b0 % 16 * 64 + b1 % 64) * 64 + b2 % 64 < 57344)
   ·rw [dN_3bad _ _ _ _ _ (by omega) h3 hy] at h; exact absurd h.symm hok
   ·rw [dN_3ok _ _ _ _ _ (by omega) h3 (by omega) (by omega) (by omega) (by omega) (by omega)] at h
    have hk2 : k = 3 := (congrArg Prod.snd h).symm
    rw [e1 (by omega), e2 (by omega), dN_3ok _ _ _ _ _ (by omega) h3 (by omega) (by omega) (by omega) (by omega) (by omega)]; exact h
 ·by_cases hx : n < 4 ∨ ¬ (128 ≤ b1 ∧ b1 < 192) ∨ ¬ (128 ≤ b2 ∧ b2 < 192) ∨ ¬ (128 ≤ b3 ∧ b3 < 192)
  ·rw [dN_4no _ _ _ _ _ (by omega) (by omega) hx] at h; exact absurd h.symm hok
  ·by_cases hy : ((b0 % 8 * 64 + b1 % 64) * 64 + b2 % 64) * 64 + b3 % 64 < 65536 ∨ 1114111 < ((b0 % 8 * 64 + b1 % 64) * 64 + b2 % 64) * 64 + b3 % 64
   ·rw [dN_4bad _ _ _ _ _ (by omega) (by omega) hy] at h; exact absurd h.symm hok
   ·rw [dN_4ok _ _ _ _ _ (by omega) (by omega) (by omega) (by omega) (by omega) (by omega) (by omega) (by omega)] at h
    have hk2 : k = 4 := (congrArg Prod.snd h).symm
    rw [e1 (by omega), e2 (by omega), e3 (by omega), dN_4ok _ _ _ _ _ (by omega) (by omega) (by omega) (by omega) (by omega) (by omega) (by omega) (by omega)]; exact h
theorem cut_size (s : ByteArray) (q : Nat) (h : q ≤ s.size) : (s.extract 0 q).size = q := by
 rw [ByteArray.size_extract]; omega
theorem cut_get (s : ByteArray) (q i : Nat) (h : i < q) : (s.extract 0 q).get! i = s.get! i := by
 rw [get_eq, get_eq, Lib.extract_data, List.drop_zero, Nat.sub_zero, List.getD_eq_getElem?_getD, List.getD_eq_getElem?_getD, List.getElem?_take, if_pos h]
theorem cut_decode (s : ByteArray) (q pos : Nat) (hq : q ≤ s.size) (hb : badAt s pos = false) (hw : pos + (Utf8.decode s pos).2 ≤ q) (hp : pos < q) : Utf8.decode (s.extract 0 q) pos = Utf8.decode s pos := by
 have hok : Utf8.decode s pos ≠ (65533, 1) := fun h => by
  have := (bad_iff s pos).2 h
  rw [hb] at this; simp at this
 generalize hd : Utf8.decode s pos = d at hok hw ⊢
 obtain ⟨v, k⟩ := d
 rw [Lib.decode_at] at hd
 rw [Lib.decode_at, cut_size s q hq, cut_get s q pos hp]
 refine dN_cut _ _ _ _ _ _ _ _ _ v k (byte_lt s pos) (fun h => ?_) (fun h => ?_) (fun h => ?_) hd hok (by simp only at hw; omega)
 ·rw [cut_get s q _ (by omega)]
 ·rw [cut_get s q _ (by omega)]
 ·rw [cut_get s q _ (by omega)]
theorem cut_good (s : ByteArray) (q pos : Nat) (hq : q ≤ s.size) (hb : badAt s pos = false) (hw : pos + (Utf8.decode s pos).2 ≤ q) (hp : pos < q) : badAt (s.extract 0 q) pos = false := by
 cases h : badAt (s.extract 0 q) pos with
 | false => rfl
 | true =>
  have h1 := (bad_iff _ _).1 h
  rw [cut_decode s q pos hq hb hw hp] at h1
  have := (bad_iff s pos).2 h1
  rw [hb] at this; simp at this
theorem place_ge (s : ByteArray) : ∀ m pos, pos ≤ placeFrom s m pos
 | 0, pos => Nat.le_refl _
 | m + 1, pos => by
  have := place_ge s m (pos + (Utf8.decode s pos).2)
  simp only [placeFrom]
  split
  ·omega
  ·exact Nat.le_refl _
theorem place_le (s : ByteArray) : ∀ m pos, pos ≤ s.size → placeFrom s m pos ≤ s.size
 | 0, pos, h => h
 | m + 1, pos, h => by
  simp only [placeFrom]
  split
  ·next hp => exact place_le s m _ (decode_fits s pos hp)
  ·exact h
theorem goodC (s : ByteArray) (b pos : Nat) (hp : pos < s.size) (hb : s.size ≤ pos + b) (h : vldFrom s b pos = true) : badAt s pos = false ∧ vldFrom s (b - 1) (pos + (Utf8.decode s pos).2) = true := by
 obtain ⟨b, rfl⟩ : ∃ b', b = b' + 1 := ⟨b - 1, by omega⟩
 cases hq : badAt s pos with
 | true => rw [vldFrom_bad s b pos hp hq] at h; simp at h
 | false => rw [vldFrom_step s b pos hp hq] at h; exact ⟨rfl, h⟩
theorem cut_vld (s : ByteArray) (q : Nat) (hq : q ≤ s.size) : ∀ m b pos f, pos ≤ s.size → s.size ≤ pos + b → vldFrom s b pos = true → placeFrom s m pos = q → vldFrom (s.extract 0 q) f pos = true
 | 0, b, pos, f, _, _, _, h => by
  have e : pos = q := h
  exact vldFrom_end _ _ _ (by rw [cut_size s q hq]; omega)
 | m + 1, b, pos, f, hps, hb, hv, h => by
  by_cases hp : pos < s.size
  ·simp only [placeFrom, hp, if_true] at h
   obtain ⟨hg, hn⟩ := goodC s b pos hp hb hv
   have hwd := Lib.decode_width_pos s pos hp
   have hge := place_ge s m (pos + (Utf8.decode s pos).2)
   have hcd := cut_decode s q pos hq hg (by omega) (by omega)
   cases f with
   | zero => rfl
   | succ f =>
    rw [vldFrom_step _ f pos (by rw [cut_size s q hq]; omega) (cut_good s q pos hq hg (by omega) (by omega)), hcd]
    exact cut_vld s q hq m (b - 1) _ f (decode_fits s pos hp) (by omega) hn h
  ·simp only [placeFrom, hp, if_false] at h
   exact vldFrom_end _ _ _ (by rw [cut_size s q hq]; omega)
theorem cut_count (s : ByteArray) (q : Nat) (hq : q ≤ s.size) : ∀ m b pos f, pos ≤ s.size → s.size ≤ pos + b → vldFrom s b pos = true → placeFrom s m pos = q → m ≤ Lib.runeCountFrom s b pos → q ≤ pos + f → Lib.runeCountFrom (s.extract 0 q) f pos = m
 | 0, b, pos, f, _, _, _, h, _, _ => by
  have e : pos = q := h
  exact Lib.runeCountFrom_end _ _ _ (by rw [cut_size s q hq]; omega)
 | m + 1, b, pos, f, hps, hb, hv, h, hm, hf => by
  by_cases hp : pos < s.size
  ·simp only [placeFrom, hp, if_true] at h
   obtain ⟨hg, hn⟩ := goodC s b pos hp hb hv
   have hwd := Lib.decode_width_pos s pos hp
   have hge := place_ge s m (pos + (Utf8.decode s pos).2)
   have hcd := cut_decode s q pos hq hg (by omega) (by omega)
   obtain ⟨f, rfl⟩ : ∃ f', f = f' + 1 := ⟨f - 1, by omega⟩
   obtain ⟨b, rfl⟩ : ∃ b', b = b' + 1 := ⟨b - 1, by omega⟩
   have hlt : pos < (s.extract 0 q).size := by rw [cut_size s q hq]; omega
   simp only [Lib.runeCountFrom, hp, if_true] at hm
   simp only [Lib.runeCountFrom, hlt, if_true, hcd]
   rw [cut_count s q hq m b _ f (decode_fits s pos hp) (by omega) hn h (by omega) (by omega)]
   omega
  ·rw [Lib.runeCountFrom_end s b pos hp] at hm; omega
theorem head_vld (s : ByteArray) (n : Nat) (h : vld s = true) : vld (s.extract 0 (placeFrom s n 0)) = true :=
 cut_vld s _ (place_le s n 0 (Nat.zero_le _)) n s.size 0 _ (Nat.zero_le _) (by omega) h rfl
theorem head_count (s : ByteArray) (n : Nat) (h : vld s = true) (hn : n ≤ Lib.runeCount s) : Lib.runeCount (s.extract 0 (placeFrom s n 0)) = n :=
 cut_count s _ (place_le s n 0 (Nat.zero_le _)) n s.size 0 _ (Nat.zero_le _) (by omega) h rfl hn (by rw [cut_size s _ (place_le s n 0 (Nat.zero_le _))]; omega)
set_option maxRecDepth 1000000 in
theorem head_no (s : ByteArray) (n : Int) (w : World) (h1 : ¬ n < 1) (h : Hid (vld s = false)) :
  Calls Tryz.prog 42 #[.string s, .int .i64 n] w fun e w' => e = .returned (.string ⟨#[]⟩) ∧ Below w.heap.size w w' := by
 go_enter Tryz.func42, Tryz.ntmps42
 go_wp2_with (go_at_call 77; refine (check1_no s _ h.out).mono ?_; rintro e w' ⟨rfl, hb⟩)
 go_ret
 exact ⟨rfl, hb⟩
set_option maxRecDepth 1000000 in
theorem head_ok (s : ByteArray) (n : Nat) (w : World) (hs : s.size ≤ 281474976710656) (h1 : 1 ≤ n) (hn : n ≤ 9223372036854775807) (h : Hid (vld s = true)) :
  Calls Tryz.prog 42 #[.string s, .int .i64 n] w fun e w' => e = .returned (.string (s.extract 0 (placeFrom s n 0))) ∧ Below w.heap.size w w' := by
 have h1' : ¬ ((n : Int) < 1) := by omega
 go_enter Tryz.func42, Tryz.ntmps42
 go_wp2_with (go_at_call 77; refine (check1_ok s _ h.out).mono ?_; rintro e w1 ⟨rfl, hb1⟩)
 go_loopw [1] (fun t w' => ∃ (pos k : Nat), w' = w1.iter s pos ∧ t = .int .i64 k ∧ k ≤ n ∧ Hid (placeFrom s k pos = placeFrom s n 0)) (fun _ w' => s.size - w'.iterPos w1.heap.size)
 case atStart => exact ⟨0, n, rfl, rfl, Nat.le_refl _, rfl⟩
 case round =>
  obtain ⟨pos, k, rfl, rfl, hk, hc⟩ := hrel
  by_cases hp : pos < s.size
  ·have hnx : ∀ ty, (Instr.next (.pointer (some ⟨w1.heap.size, 0, none⟩)) true ty).run Tryz.prog (w1.iter s pos) = _ := fun ty => run_next_any w1 s pos ty hp
   have hwd := Lib.decode_width_pos s pos hp
   cases k with
   | zero =>
    have hz : ((0 : Int) == 0) = true := rfl
    have hx := size_extract s pos hs
    go_wp2_with (go_at_call 78; refine (clone_any _ _ (by simpa using hx)).mono ?_; rintro e w' ⟨rfl, hb⟩)
    go_ret
    refine ⟨?_, hb1.trans (((below_iter _ _ _).trans (hb.mono (by simp [World.iter]))).mono hb1.size)⟩
    have hz := hc.out
    refine ret_str ?_
    rw [← hz]; rfl
   | succ k =>
    have hz : (((k + 1 : Nat) : Int) == 0) = false := by rw [beq_eq_false_iff_ne]; omega
    go_wp2
    go_roundw
    case rel =>
     refine ⟨pos + (Utf8.decode s pos).2, k, rfl, by go_num, by omega, ?_⟩
     have := hc.out
     simp only [placeFrom, hp, if_true] at this
     exact this
    case measure => simp; omega
  ·have hnx : ∀ ty, (Instr.next (.pointer (some ⟨w1.heap.size, 0, none⟩)) true ty).run Tryz.prog (w1.iter s pos) = _ := fun ty => run_next_end w1 s pos ty hp
   go_wp2_with (go_at_call 78; refine (clone_any _ _ hs).mono ?_; rintro e w' ⟨rfl, hb⟩)
   go_ret
   refine ⟨?_, hb1.trans (((below_iter _ _ _).trans (hb.mono (by simp [World.iter]))).mono hb1.size)⟩
   refine ret_str ?_
   rw [← hc.out, placeFrom_end s k pos hp, extract_all s pos hp]
set_option maxRecDepth 1000000 in
theorem refHead_no (s : ByteArray) (n : Int) (w : World) (hs : s.size ≤ 1000000) (h : Hid (vld s = false)) :
  Calls Tryz.prog 45 #[.string s, .int .i64 n] w fun e w' => e = .returned (.string ⟨#[]⟩) ∧ Below w.heap.size w w' := by
 go_enter Tryz.func45, Tryz.ntmps45
 go_wp2_with (go_at_call 17; refine (runes_no s _ hs h.out).mono ?_; rintro e w1 ⟨rfl, hb1⟩)
 go_ret
 exact ⟨rfl, hb1⟩
theorem good_at (s : ByteArray) (b pos : Nat) (hp : pos < s.size) (hb : s.size ≤ pos + b) (h : vldFrom s b pos = true) : badAt s pos = false := by
 obtain ⟨b, rfl⟩ : ∃ b', b = b' + 1 := ⟨b - 1, by omega⟩
 cases hq : badAt s pos with
 | false => rfl
 | true => rw [vldFrom_bad s b pos hp hq] at h; simp at h
theorem good_next (s : ByteArray) (b pos : Nat) (hp : pos < s.size) (hb : s.size ≤ pos + b) (h : vldFrom s b pos = true) : vldFrom s (b - 1) (pos + (Utf8.decode s pos).2) = true := by
 have hg := good_at s b pos hp hb h
 obtain ⟨b, rfl⟩ : ∃ b', b = b' + 1 := ⟨b - 1, by omega⟩
 rw [vldFrom_step s b pos hp hg] at h
 exact h
set_option maxRecDepth 1000000 in
theorem refHead_ok (s : ByteArray) (n : Int) (w : World) (hs : s.size ≤ 1000000) (hn : n ≤ 9223372036854775807) (h : Hid (vld s = true)) :
  Calls Tryz.prog 45 #[.string s, .int .i64 n] w fun e w' => e = .returned (.string (s.extract 0 (placeFrom s n.toNat 0))) ∧ Below w.heap.size w w' := by
 go_enter Tryz.func45, Tryz.ntmps45
 go_wp2_with (go_at_call 17; refine (runes_ok s _ hs h.out).mono ?_; rintro e w1 ⟨v, rfl, ho, hb1⟩)
 clear ho
 go_loop [7, 8] (fun t i => ∃ pos k b : Nat, i = .int .i64 k ∧ t = .int .i64 pos ∧ k ≤ n.toNat ∧ k ≤ pos ∧ pos ≤ s.size ∧ s.size ≤ pos + b ∧ Hid (vldFrom s b pos = true) ∧ Hid (placeFrom s (n.toNat - k) pos = placeFrom s n.toNat 0)) (fun t _ => s.size - (intOf t).toNat)
 case atStart => exact ⟨0, 0, s.size, rfl, rfl, Nat.zero_le _, Nat.le_refl _, Nat.zero_le _, by omega, h, rfl⟩
 case round =>
  obtain ⟨pos, k, b, rfl, rfl, hk, hkp, hps, hb, hv, hc⟩ := hrel
  by_cases hkn : (k : Int) < n
  ·by_cases hp : pos < s.size
   ·have hwd := Lib.decode_width_pos s pos hp
    have hft := decode_fits s pos hp
    have HG := Lib.hid (good_at s b pos hp hb hv.out)
    have HN := Lib.hid (good_next s b pos hp hb hv.out)
    go_wp2_with (go_at_call 44; refine (rune_ok s pos _ hp hs HG.out).mono ?_; rintro e w2 ⟨rfl, rfl⟩)
    go_round
    case rel =>
     refine ⟨pos + (Utf8.decode s pos).2, k + 1, b - 1, by go_num, by go_num, by omega, by omega, by omega, by omega, HN, ?_⟩
     show _ = _
     rw [← hc.out]
     obtain ⟨m, hm⟩ : ∃ m, n.toNat - k = m + 1 := ⟨n.toNat - k - 1, by omega⟩
     rw [hm, show n.toNat - (k + 1) = m by omega]
     simp [placeFrom, hp]
    case measure => simp [intOf]; omega
   ·go_wp2
    go_ret
    refine ⟨ret_str ?_, hb1⟩
    rw [← hc.out, placeFrom_end s _ pos hp]
  ·have hz : Hid (n.toNat - k = 0) := by show _ = _; omega
   go_wp2
   go_ret
   refine ⟨ret_str ?_, hb1⟩
   rw [← hc.out, hz.out]; rfl
def sqz (s : ByteArray) : List UInt8 := Lib.join ((wordsOf s).map (fun x => x.data.toList)) [32]
theorem lens_le (M : Nat) : ∀ l : List ByteArray, (∀ x ∈ l, x.size ≤ M) → Lib.lens (l.map (fun x => x.data.toList)) ≤ l.length * M
 | [], _ => by simp [Lib.lens]
 | x :: r, h => by
  have h1 := h x (by simp)
  have h2 := lens_le M r (fun y hy => h y (by simp [hy]))
  rw [Lib.size_eq] at h1
  simp only [Lib.lens, List.map_cons, List.length_cons, List.sum_cons, Nat.add_mul] at h2 ⊢
  omega
theorem sqz_len (s : ByteArray) (hs : s.size ≤ 1000000) : (sqz s).length ≤ 140737488355328 := by
 have h1 : (wordsOf s).length ≤ s.size + 1 := wordsFrom_len s s.size 0 0
 have h2 := lens_le s.size (wordsOf s) (fun x hx => wordsFrom_mem s x _ _ _ hx)
 have h3 : (wordsOf s).length * s.size ≤ 1000001 * 1000000 := Nat.mul_le_mul (by omega) hs
 unfold sqz
 cases hw : wordsOf s with
 | nil => simp [Lib.join_nil]
 | cons x r =>
  rw [hw] at h1 h2 h3
  rw [List.map_cons, Lib.join_length]
  rw [List.map_cons] at h2
  simp only [List.length_cons, List.length_map, List.length_nil] at h1 ⊢
  omega
theorem sqz_eq (s : ByteArray) : sqz s = Lib.join (wds s) [32] := by
 unfold sqz
 rw [wordsOf_eq, List.map_map]
 congr 1
 conv => rhs; rw [← List.map_id (wds s)]
 apply List.map_congr_left
 intro x _
 simp [asS]
theorem split_len : ∀ (l cur : List UInt8), Lib.lens (splitW l cur) + (splitW l cur).length ≤ cur.length + l.length + 1
 | [], cur => by
  rw [splitW, addL]
  split
  ·simp [Lib.lens]
  ·simp [Lib.lens]
 | c :: t, cur => by
  rw [splitW]
  split
  ·have := split_len t []
   unfold addL
   split
   ·simp only [List.nil_append, List.length_cons, List.length_nil] at this ⊢; omega
   ·simp only [List.cons_append, List.nil_append, List.length_cons, List.length_nil, Lib.lens, List.map_cons, List.sum_cons] at this ⊢; omega
  ·have := split_len t (cur ++ [c])
   simp only [List.length_append, List.length_cons, List.length_nil] at this ⊢; omega
theorem sqz_le (s : ByteArray) : (sqz s).length ≤ s.size := by
 rw [sqz_eq]
 have h := split_len s.data.toList []
 rw [List.length_nil, ← Lib.size_eq] at h
 change Lib.lens (wds s) + (wds s).length ≤ _ at h
 cases hw : wds s with
 | nil => simp [Lib.join_nil]
 | cons x r =>
  rw [hw] at h
  rw [Lib.join_length]
  simp only [List.length_cons, List.length_nil] at h ⊢
  omega
set_option maxRecDepth 1000000 in
theorem squeeze_any (s : ByteArray) (w : World) (hs : s.size ≤ 1000000) :
  Calls Tryz.prog 43 #[.string s] w fun e w' => e = .returned (.string ⟨(sqz s).toArray⟩) ∧ Below w.heap.size w w' := by
 have hlen := Lib.hid (sqz_len s hs)
 have hnum := Lib.hid (wordsFrom_len s s.size 0 0)
 have hdef : Hid (sqz s = Lib.join ((wordsOf s).map (fun x => x.data.toList)) [32]) := rfl
 go_enter Tryz.func43, Tryz.ntmps43
 go_wp2_with (go_at_call 80; refine (words_any s _ hs).mono ?_; rintro e w1 ⟨v, rfl, ho, hb⟩)
 rcases ho.2 with ⟨hv, hn⟩ | ⟨g, cap, cur, hv, hg, hh, hcap, _, _, _⟩
 ·rw [hv]
  refine (Tryz.strings_Join_none none 0 _ _).mono ?_
  rintro e w2 ⟨rfl, rfl⟩
  have he : Hid (sqz s = []) := by
   show _ = _
   rw [hdef.out, List.length_eq_zero_iff.1 hn]; rfl
  clear ho hv hn
  go_wp2
  go_ret
  exact ⟨by rw [he.out]; rfl, hb⟩
 ·rw [hv]
  rw [hv] at ho
  have hgs : g < w1.heap.size := (Array.getElem?_eq_some_iff.1 hh).1
  refine (Tryz.strings_Join g 0 cap (wordsOf s) ⟨#[32]⟩ w1 ?hc hgs ?hN hcap ?hl).mono ?_
  case hc =>
   intro j x hx
   have hj : j < (wordsOf s).length := (List.getElem?_eq_some_iff.1 hx).1
   rw [Nat.zero_add, ho.cellAt j (by omega), List.getElem?_map, hx]; rfl
  case hN => have := hnum.out; unfold wordsOf; omega
  case hl => exact hlen.out
  rintro e w2 ⟨rfl, hb2⟩
  have hb3 := Lib.hid (hb.trans (hb2.mono hb.size))
  clear ho hv hg hh hcap hb hb2 hgs
  go_wp2
  go_ret
  exact ⟨by rw [hdef.out]; rfl, hb3.out⟩
theorem join_snoc (xs : List (List UInt8)) (y : List UInt8) (h : xs ≠ []) : Lib.join (xs ++ [y]) [32] = Lib.join xs [32] ++ 32 :: y := by
 cases xs with
 | nil => exact absurd rfl h
 | cons x r =>
  rw [List.cons_append, Lib.join_cons, Lib.join_cons]
  simp [Lib.joinTail]
theorem join_take (ws : List (List UInt8)) (k : Nat) (h : k < ws.length) (hk : 0 < k) : Lib.join (ws.take (k + 1)) [32] = Lib.join (ws.take k) [32] ++ 32 :: ws[k] := by
 rw [List.take_succ_eq_append_getElem h, join_snoc]
 intro e
 have := congrArg List.length e
 rw [List.length_take, Nat.min_eq_left (by omega)] at this
 simp at this
 omega
theorem app_data (a b : ByteArray) : (a ++ b).data.toList = a.data.toList ++ b.data.toList := by rw [ByteArray.data_append, Array.toList_append]
theorem app_size (a b : ByteArray) : (a ++ b).size = a.size + b.size := by rw [Lib.size_eq, app_data, List.length_append, ← Lib.size_eq, ← Lib.size_eq]
theorem ext_data {a : ByteArray} {l : List UInt8} (h : a.data.toList = l) : a = ⟨l.toArray⟩ := by rw [← h]
set_option maxRecDepth 1000000 in
theorem refSqueeze_any (s : ByteArray) (w : World) (hs : s.size ≤ 1000000) :
  Calls Tryz.prog 46 #[.string s] w fun e w' => e = .returned (.string ⟨(sqz s).toArray⟩) ∧ Below w.heap.size w w' := by
 have hl : (wds s).length ≤ 1000001 := by
  have := wordsFrom_len s s.size 0 0
  have e := congrArg List.length (wordsOf_eq s)
  rw [List.length_map] at e
  unfold wordsOf at e
  omega
 have HS : Hid (sqz s = Lib.join (wds s) [32]) := sqz_eq s
 have HM : Hid (∀ x ∈ wds s, (asS x).size ≤ 1000000) := fun x hx => by
  have : asS x ∈ wordsOf s := by rw [wordsOf_eq]; exact List.mem_map_of_mem hx
  have := wordsFrom_mem s _ _ _ _ this
  omega
 go_enter Tryz.func46, Tryz.ntmps46
 go_wp2_with (go_at_call 81; refine (refWords_any s _ hs).mono ?_; rintro e w1 ⟨v, rfl, ho, hb⟩)
 generalize wds s = ws at hl HS HM ho
 rcases ho.2 with ⟨hv, h0⟩ | ⟨g, cap, cur, hv, _⟩
 ·have HZ : Hid (ws = []) := List.length_eq_zero_iff.1 h0
  rw [hv]
  clear ho hv h0
  refine wp_loop_rounds 1 ?_
  rw [rounds_succ]
  go_wp2
  go_ret
  exact ⟨by rw [HS.out, HZ.out]; rfl, hb⟩
 ·rw [hv]
  rw [hv] at ho
  have HC : Hid (∀ (j : Nat) (hj : j < ws.length), w1.cell? ⟨g, j, none⟩ = some (.string (asS ws[j]))) := fun j hj => by
   rw [ho.cellAt j (by omega)]
   unfold strs
   rw [List.getElem?_map, List.getElem?_eq_getElem hj]; rfl
  clear ho hv
  go_loop [4, 5] (fun t i => ∃ (k : Nat) (o : ByteArray), k ≤ ws.length ∧ i = .int .i64 k ∧ t = .string o ∧ o.size ≤ k * 1000001 ∧ Hid (o.data.toList = Lib.join (ws.take k) [32])) (fun _ i => ws.length - (intOf i).toNat)
  case atStart => exact ⟨0, ⟨#[]⟩, Nat.zero_le _, rfl, rfl, Nat.zero_le _, rfl⟩
  case round =>
   obtain ⟨k, o, hk, rfl, rfl, hos, hd⟩ := hrel
   have hos2 : o.size ≤ 1000001 * 1000001 := Nat.le_trans hos (Nat.mul_le_mul_right _ (by omega))
   by_cases hlt : k < ws.length
   ·have hcell := HC.out k hlt
    have hxs : (asS ws[k]).size ≤ 1000000 := HM.out _ (List.getElem_mem hlt)
    by_cases h0 : (0 : Int) < (k : Int)
    ·have HJ := Lib.hid (join_take ws k hlt (by omega))
     generalize ws[k] = x at hcell HJ hxs
     go_wp2
     go_round
     case rel =>
      refine ⟨k + 1, _, by omega, by go_num, rfl, by rw [app_size, app_size]; show o.size + 1 + _ ≤ _; omega, ?_⟩
      show _ = _
      rw [HJ.out, app_data, app_data, hd.out]
      simp [asS]
     case measure => simp [intOf]; omega
    ·have HJ : Hid (Lib.join (ws.take (k + 1)) [32] = ws[k] ∧ o.data.toList = []) := by
      have e : k = 0 := by omega
      subst e
      refine ⟨?_, ?_⟩
      ·rw [List.take_succ_eq_append_getElem hlt, List.take_zero, List.nil_append, Lib.join_one]
      ·rw [hd.out]; rfl
     generalize ws[k] = x at hcell HJ hxs
     go_wp2
     go_round
     case rel =>
      refine ⟨k + 1, _, by omega, by go_num, rfl, by rw [app_size]; omega, ?_⟩
      show _ = _
      rw [HJ.out.1, app_data, HJ.out.2]
      simp [asS]
     case measure => simp [intOf]; omega
   ·go_wp2
    go_ret
    refine ⟨?_, hb⟩
    have e := hd.out
    rw [List.take_of_length_le (by omega), ← HS.out] at e
    exact ret_str (ext_data e)
end Go.Proofs.YtgoiafndapemjaaGreatDoor
namespace Go.Proofs.YtgoiafndapemjaaGreatDoor
def rotr (x : UInt32) (n : Nat) : UInt32 := UInt32.ofNat (((x.toNat * 2 ^ (32 - n)) % 4294967296) ||| (x.toNat / 2 ^ n))
def shr (x : UInt32) (n : Nat) : UInt32 := UInt32.ofNat (x.toNat / 2 ^ n)
def be4 (a b c d : UInt8) : UInt32 := UInt32.ofNat (a.toNat * 16777216 + b.toNat * 65536 + c.toNat * 256 + d.toNat)
def sig1 (x : UInt32) : UInt32 := (rotr x 17 ^^^ rotr x 19) ^^^ shr x 10
def sig0 (x : UInt32) : UInt32 := (rotr x 7 ^^^ rotr x 18) ^^^ shr x 3
def big1 (x : UInt32) : UInt32 := (rotr x 6 ^^^ rotr x 11) ^^^ rotr x 25
def big0 (x : UInt32) : UInt32 := (rotr x 2 ^^^ rotr x 13) ^^^ rotr x 22
def choice (e f g : UInt32) : UInt32 := (e &&& f) ^^^ ((e ^^^ 4294967295) &&& g)
def most (a b c : UInt32) : UInt32 := ((a &&& b) ^^^ (a &&& c)) ^^^ (b &&& c)
def wordOf (b : List UInt8) (k : Nat) : UInt32 := be4 (b.getD (4 * k) 0) (b.getD (4 * k + 1) 0) (b.getD (4 * k + 2) 0) (b.getD (4 * k + 3) 0)
def nextW (l : List UInt32) (i : Nat) : UInt32 := ((sig1 (l.getD (i - 2) 0) + l.getD (i - 7) 0) + sig0 (l.getD (i - 15) 0)) + l.getD (i - 16) 0
def wl (b : List UInt8) : Nat → List UInt32
 | 0 => []
 | k + 1 => wl b k ++ [if k < 16 then wordOf b k else nextW (wl b k) k]
structure St where
 (a b c d e f g h : UInt32)
def tOne (s : St) (k w : UInt32) : UInt32 := (((s.h + big1 s.e) + choice s.e s.f s.g) + k) + w
def tTwo (s : St) : UInt32 := big0 s.a + most s.a s.b s.c
def rnd (s : St) (k w : UInt32) : St := ⟨tOne s k w + tTwo s, s.a, s.b, s.c, s.d + tOne s k w, s.e, s.f, s.g⟩
def rnds (ks ws : List UInt32) (s : St) : Nat → St
 | 0 => s
 | n + 1 => rnd (rnds ks ws s n) (ks.getD n 0) (ws.getD n 0)
def addS (s t : St) : St := ⟨s.a + t.a, s.b + t.b, s.c + t.c, s.d + t.d, s.e + t.e, s.f + t.f, s.g + t.g, s.h + t.h⟩
def KSs : List UInt32 := [1116352408, 1899447441, 3049323471, 3921009573, 961987163, 1508970993, 2453635748, 2870763221, 3624381080, 310598401, 607225278, 1426881987, 1925078388, 2162078206, 2614888103, 3248222580, 3835390401, 4022224774, 264347078, 604807628, 770255983, 1249150122, 1555081692, 1996064986, 2554220882, 2821834349, 2952996808, 3210313671, 3336571891, 3584528711, 113926993, 338241895, 666307205, 773529912, 1294757372, 1396182291, 1695183700, 1986661051, 2177026350, 2456956037, 2730485921, 2820302411, 3259730800, 3345764771, 3516065817, 3600352804, 4094571909, 275423344, 430227734, 506948616, 659060556, 883997877, 958139571, 1322822218, 1537002063, 1747873779, 1955562222, 2024104815, 2227730452, 2361852424, 2428436474, 2756734187, 3204031479, 3329325298]
def H0 : St := ⟨1779033703, 3144134277, 1013904242, 2773480762, 1359893119, 2600822924, 528734635, 1541459225⟩
def turnS (s : St) (b : List UInt8) : St := addS s (rnds KSs (wl b 64) s 64)
theorem wl_len (b : List UInt8) : ∀ k, (wl b k).length = k
 | 0 => rfl
 | k + 1 => by simp [wl, wl_len b k]
theorem u_lt (a : UInt32) : a.toNat < 4294967296 := a.toNat_lt
theorem u_add (a b : UInt32) : ((a.toNat : Int) + (b.toNat : Int)) % 4294967296 = ((a + b).toNat : Int) := by
 rw [UInt32.toNat_add]; omega
theorem u_bits (op : BinOp) (a b : UInt32) : bits op .u32 (a.toNat : Int) (b.toNat : Int) = ((match op with | .and => a &&& b | .or => a ||| b | .xor => a ^^^ b | _ => a &&& ~~~b).toNat : Int) := by
 have ha : BitVec.ofInt 32 (a.toNat : Int) = a.toBitVec := by
  rw [BitVec.ofInt_natCast]; exact BitVec.eq_of_toNat_eq (by simp)
 have hb : BitVec.ofInt 32 (b.toNat : Int) = b.toBitVec := by
  rw [BitVec.ofInt_natCast]; exact BitVec.eq_of_toNat_eq (by simp)
 unfold bits
 simp only [IntKind.bits, ha, hb]
 have hw : ∀ v : BitVec 32, IntKind.u32.wrap (v.toNat : Int) = (v.toNat : Int) := fun v => by
  rw [IntKind.wrap_u32]; have := v.isLt; omega
 cases op <;> exact hw _
theorem u_xor (a b : UInt32) : bits .xor .u32 (a.toNat : Int) (b.toNat : Int) = ((a ^^^ b).toNat : Int) := u_bits .xor a b
theorem u_and (a b : UInt32) : bits .and .u32 (a.toNat : Int) (b.toNat : Int) = ((a &&& b).toNat : Int) := u_bits .and a b
theorem u_or (a b : UInt32) : bits .or .u32 (a.toNat : Int) (b.toNat : Int) = ((a ||| b).toNat : Int) := u_bits .or a b
theorem u_not (a : UInt32) : bits .xor .u32 4294967295 (a.toNat : Int) = ((a ^^^ 4294967295).toNat : Int) := by
 have := u_xor 4294967295 a
 rw [UInt32.xor_comm] at this
 exact this
theorem u_not' (a : UInt32) : bits .xor .u32 (a.toNat : Int) 4294967295 = ((a ^^^ 4294967295).toNat : Int) := u_xor a 4294967295
theorem u_of (n : Nat) (h : n < 4294967296) : (UInt32.ofNat n).toNat = n := by
 rw [UInt32.toNat_ofNat']; exact Nat.mod_eq_of_lt h
theorem or_nat (x y : Nat) (hx : x < 4294967296) (hy : y < 4294967296) : bits .or .u32 (x : Int) (y : Int) = ((x ||| y : Nat) : Int) := by
 have h1 := u_of x hx
 have h2 := u_of y hy
 have := u_or (UInt32.ofNat x) (UInt32.ofNat y)
 rw [UInt32.toNat_or, h1, h2] at this
 exact this
theorem or_lt (x y : Nat) (hx : x < 4294967296) (hy : y < 4294967296) : x ||| y < 4294967296 := Nat.or_lt_two_pow (n := 32) hx hy
theorem u_rot (a : UInt32) (n : Nat) (A B : Int) (hA : A = ((a.toNat : Int) * 2 ^ (32 - n)) % 4294967296) (hB : B = (a.toNat : Int) / 2 ^ n) :
  bits .or .u32 A B = ((rotr a n).toNat : Int) := by
 have hp : (0 : Nat) < 2 ^ n := Nat.pow_pos (by omega)
 have hy : a.toNat / 2 ^ n < 4294967296 := Nat.lt_of_le_of_lt (Nat.div_le_self _ _) (u_lt a)
 have eA : A = (((a.toNat * 2 ^ (32 - n)) % 4294967296 : Nat) : Int) := by rw [hA]; simp
 have eB : B = ((a.toNat / 2 ^ n : Nat) : Int) := by rw [hB]; simp
 rw [eA, eB, or_nat _ _ (Nat.mod_lt _ (by decide)) hy]
 unfold rotr
 rw [u_of _ (or_lt _ _ (Nat.mod_lt _ (by decide)) hy)]
theorem u_rot' (a : UInt32) (n : Nat) (A B : Int) (hA : A = ((a.toNat : Int) * 2 ^ (32 - n)) % 4294967296) (hB : B = (a.toNat : Int) / 2 ^ n) :
  bits .or .u32 B A = ((rotr a n).toNat : Int) := by
 rw [← u_rot a n A B hA hB]
 unfold bits
 simp only [BitVec.or_comm]
theorem u_shr (a : UInt32) (n : Nat) : (a.toNat : Int) / 2 ^ n = ((shr a n).toNat : Int) := by
 unfold shr
 rw [u_of _ (Nat.lt_of_le_of_lt (Nat.div_le_self _ _) (u_lt a))]
 simp
def nv (x : UInt32) : Int := (x.toNat : Int)
theorem nv_add (a b : UInt32) : (nv a + nv b) % 4294967296 = nv (a + b) := u_add a b
theorem nv_xor (a b : UInt32) : bits .xor .u32 (nv a) (nv b) = nv (a ^^^ b) := u_xor a b
theorem nv_and (a b : UInt32) : bits .and .u32 (nv a) (nv b) = nv (a &&& b) := u_and a b
theorem nv_not (a : UInt32) : bits .xor .u32 4294967295 (nv a) = nv (a ^^^ 4294967295) := u_not a
theorem nv_not' (a : UInt32) : bits .xor .u32 (nv a) 4294967295 = nv (a ^^^ 4294967295) := u_not' a
theorem nv_shr10 (a : UInt32) : nv a / 1024 = nv (shr a 10) := u_shr a 10
theorem nv_shr3 (a : UInt32) : nv a / 8 = nv (shr a 3) := u_shr a 3
theorem nv_rot (a : UInt32) (n : Nat) : bits .or .u32 (nv a * 2 ^ (32 - n) % 4294967296) (nv a / 2 ^ n) = nv (rotr a n) := u_rot a n _ _ rfl rfl
theorem nv_rot' (a : UInt32) (n : Nat) : bits .or .u32 (nv a / 2 ^ n) (nv a * 2 ^ (32 - n) % 4294967296) = nv (rotr a n) := u_rot' a n _ _ rfl rfl
theorem nv_be4 (a b c d : UInt8) : bits .or .u32 (bits .or .u32 (bits .or .u32 ((a.toNat : Int) % 4294967296 * 16777216 % 4294967296) ((b.toNat : Int) % 4294967296 * 65536 % 4294967296)) ((c.toNat : Int) % 4294967296 * 256 % 4294967296)) ((d.toNat : Int) % 4294967296) = nv (be4 a b c d) := by
 have ha := a.toNat_lt; have hb := b.toNat_lt; have hc := c.toNat_lt; have hd := d.toNat_lt
 have comm : ∀ x y : Int, bits .or .u32 x y = bits .or .u32 y x := fun x y => by unfold bits; simp only [BitVec.or_comm]
 have j24 : ∀ x y : Int, 0 ≤ y → y < 16777216 → 0 ≤ x → x % 16777216 = 0 → x < 4294967296 → bits .or .u32 x y = y + x := fun x y h1 h2 h3 h4 h5 => by rw [comm]; exact u32_or24 _ _ h1 h2 h3 h4 h5
 have j16 : ∀ x y : Int, 0 ≤ y → y < 65536 → 0 ≤ x → x % 65536 = 0 → x < 4294967296 → bits .or .u32 x y = y + x := fun x y h1 h2 h3 h4 h5 => by rw [comm]; exact u32_or16 _ _ h1 h2 h3 h4 h5
 have j8 : ∀ x y : Int, 0 ≤ y → y < 256 → 0 ≤ x → x % 256 = 0 → x < 4294967296 → bits .or .u32 x y = y + x := fun x y h1 h2 h3 h4 h5 => by rw [comm]; exact u32_or8 _ _ h1 h2 h3 h4 h5
 rw [j24 ((a.toNat : Int) % 4294967296 * 16777216 % 4294967296) ((b.toNat : Int) % 4294967296 * 65536 % 4294967296) (by omega) (by omega) (by omega) (by omega) (by omega)]
 rw [j16 _ ((c.toNat : Int) % 4294967296 * 256 % 4294967296) (by omega) (by omega) (by omega) (by omega) (by omega)]
 rw [j8 _ ((d.toNat : Int) % 4294967296) (by omega) (by omega) (by omega) (by omega) (by omega)]
 unfold nv be4
 rw [u_of _ (by omega)]
 omega
end Go.Proofs.YtgoiafndapemjaaGreatDoor
