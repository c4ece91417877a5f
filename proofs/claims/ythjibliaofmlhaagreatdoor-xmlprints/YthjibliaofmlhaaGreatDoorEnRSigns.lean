
/- The same, of the reference. -/
import Derived.Test.YthjibliaofmlhaaGreatDoorEnNum
import Derived.Test.YthjibliaofmlhaaGreatDoorTxRunes
import Derived.Test.YthjibliaofmlhaaGreatDoorEnSigns
namespace Go.Proofs.YthjibliaofmlhaaGreatDoor
set_option linter.unusedVariables false
set_option linter.unusedSimpArgs false
open Go.RowKit Go.BigFrame

/-- A rune's bytes; none: no bytes. -/
def strR (o : Option Nat) : List UInt8 := match o with
  | none => []
  | some n => encL n
theorem encS (v : Nat) (h : v < 128) : asS (strR (some v)) = ⟨#[bt v]⟩ := by show asS (encL v) = _; rw [enc1 h]; rfl
theorem names_any (l : List UInt8) (w : World) : Calls Tryz.prog 126 #[.string (asS l)] w fun e w' => e = .returned (.string (asS (strR (nameR l)))) ∧ w' = w := by
  have h1 := tl_eq l [97, 109, 112]
  have h2 := tl_eq l [108, 116]
  have h3 := tl_eq l [103, 116]
  have h4 := tl_eq l [113, 117, 111, 116]
  have h5 := tl_eq l [97, 112, 111, 115]
  have HN : Hid (nameR l = if l = [97, 109, 112] then some 38 else if l = [108, 116] then some 60 else if l = [103, 116] then some 62 else if l = [113, 117, 111, 116] then some 34 else if l = [97, 112, 111, 115] then some 39 else none) := rfl
  generalize asS l = S at h1 h2 h3 h4 h5 ⊢
  by_cases c1 : l = [97, 109, 112]
  · rw [decide_eq_true c1] at h1
    rw [if_pos c1] at HN
    clear c1
    have HE := hid (encS 38 (by decide))
    go_enter Tryz.func126, Tryz.ntmps126
    go_wp2_with fail
    go_ret
    exact ⟨by rw [HN.out, HE.out]; rfl, rfl⟩
  rw [decide_eq_false c1] at h1
  rw [if_neg c1] at HN
  clear c1
  by_cases c2 : l = [108, 116]
  · rw [decide_eq_true c2] at h2
    rw [if_pos c2] at HN
    clear c2
    have HE := hid (encS 60 (by decide))
    go_enter Tryz.func126, Tryz.ntmps126
    go_wp2_with fail
    go_ret
    exact ⟨by rw [HN.out, HE.out]; rfl, rfl⟩
  rw [decide_eq_false c2] at h2
  rw [if_neg c2] at HN
  clear c2
  by_cases c3 : l = [103, 116]
  · rw [decide_eq_true c3] at h3
    rw [if_pos c3] at HN
    clear c3
    have HE := hid (encS 62 (by decide))
    go_enter Tryz.func126, Tryz.ntmps126
    go_wp2_with fail
    go_ret
    exact ⟨by rw [HN.out, HE.out]; rfl, rfl⟩
  rw [decide_eq_false c3] at h3
  rw [if_neg c3] at HN
  clear c3
  by_cases c4 : l = [113, 117, 111, 116]
  · rw [decide_eq_true c4] at h4
    rw [if_pos c4] at HN
    clear c4
    have HE := hid (encS 34 (by decide))
    go_enter Tryz.func126, Tryz.ntmps126
    go_wp2_with fail
    go_ret
    exact ⟨by rw [HN.out, HE.out]; rfl, rfl⟩
  rw [decide_eq_false c4] at h4
  rw [if_neg c4] at HN
  clear c4
  by_cases c5 : l = [97, 112, 111, 115]
  · rw [decide_eq_true c5] at h5
    rw [if_pos c5] at HN
    clear c5
    have HE := hid (encS 39 (by decide))
    go_enter Tryz.func126, Tryz.ntmps126
    go_wp2_with fail
    go_ret
    exact ⟨by rw [HN.out, HE.out]; rfl, rfl⟩
  rw [decide_eq_false c5] at h5
  rw [if_neg c5] at HN
  clear c5
  go_enter Tryz.func126, Tryz.ntmps126
  go_wp2_with fail
  go_ret
  exact ⟨by rw [HN.out]; rfl, rfl⟩
theorem conv_lit (w : World) (l : List UInt8) (n : Nat) (hn : n = l.length) : (convert 47 9 (.slice (some ⟨w.heap.size, 0, none⟩) n n)).run Tryz.prog (w.alloc (.cells (bcs l) 5)) = .ok (.string (asS l)) (w.alloc (.cells (bcs l) 5)) :=
  str_of n (row_cells (heap_alloc_new w (.cells (bcs l) 5))) n hn
set_option maxRecDepth 100000 in
theorem utf8r_1 (v : Nat) (h : (v : Int) < 128) (w : World) : Calls Tryz.prog 138 #[.int .i64 (v : Int)] w fun e w' => e = .returned (.string (asS (encL v))) ∧ Below w.heap.size w w' := by
  have hcv := conv_lit w (encL v) 1 (by rw [enc1 (v := v) (by omega)]; rfl)
  rw [show bcs (encL v) = #[Value.int .u8 ((v : Int))] from by
    rw [enc1 (v := v) (by omega)]
    show #[Value.int .u8 ((bt (v)).toNat : Int)] = _
    rw [bt_nat (by omega)]
    all_goals simp] at hcv
  generalize asS (encL v) = R at hcv ⊢
  skip
  go_enter Tryz.func138, Tryz.ntmps138
  go_wp2_with fail
  go_ret
  exact ⟨rfl, alloc_below (Below.refl _ _) (Nat.le_refl _) _⟩
set_option maxRecDepth 100000 in
theorem utf8r_2 (v : Nat) (h : ¬ (v : Int) < 128) (h2 : (v : Int) < 2048) (w : World) : Calls Tryz.prog 138 #[.int .i64 (v : Int)] w fun e w' => e = .returned (.string (asS (encL v))) ∧ Below w.heap.size w w' := by
  have hcv := conv_lit w (encL v) 2 (by rw [enc2 (v := v) (by omega) (by omega)]; rfl)
  rw [show bcs (encL v) = #[Value.int .u8 (192 + (v : Int) / 64), Value.int .u8 (128 + (v : Int) % 64)] from by
    rw [enc2 (v := v) (by omega) (by omega)]
    show #[Value.int .u8 ((bt (192 + v / 64)).toNat : Int), Value.int .u8 ((bt (128 + v % 64)).toNat : Int)] = _
    rw [bt_nat (by omega), bt_nat (by omega)]
    all_goals simp] at hcv
  generalize asS (encL v) = R at hcv ⊢
  skip
  go_enter Tryz.func138, Tryz.ntmps138
  go_wp2_with fail
  go_ret
  exact ⟨rfl, alloc_below (Below.refl _ _) (Nat.le_refl _) _⟩
set_option maxRecDepth 100000 in
theorem utf8r_3 (v : Nat) (h : ¬ (v : Int) < 128) (h2 : ¬ (v : Int) < 2048) (h3 : (v : Int) < 65536) (hs : (v : Int) < 55296 ∨ 57344 ≤ (v : Int)) (w : World) : Calls Tryz.prog 138 #[.int .i64 (v : Int)] w fun e w' => e = .returned (.string (asS (encL v))) ∧ Below w.heap.size w w' := by
  have hcv := conv_lit w (encL v) 3 (by rw [enc3 (v := v) (by omega)]; rfl)
  rw [show bcs (encL v) = #[Value.int .u8 (224 + (v : Int) / 4096), Value.int .u8 (128 + (v : Int) / 64 % 64), Value.int .u8 (128 + (v : Int) % 64)] from by
    rw [enc3 (v := v) (by omega)]
    show #[Value.int .u8 ((bt (224 + v / 4096)).toNat : Int), Value.int .u8 ((bt (128 + v / 64 % 64)).toNat : Int), Value.int .u8 ((bt (128 + v % 64)).toNat : Int)] = _
    rw [bt_nat (by omega), bt_nat (by omega), bt_nat (by omega)]
    all_goals simp] at hcv
  generalize asS (encL v) = R at hcv ⊢
  clear hs
  go_enter Tryz.func138, Tryz.ntmps138
  go_wp2_with fail
  go_ret
  exact ⟨rfl, alloc_below (Below.refl _ _) (Nat.le_refl _) _⟩
set_option maxRecDepth 100000 in
theorem utf8r_4 (v : Nat) (h : ¬ (v : Int) < 128) (h2 : ¬ (v : Int) < 2048) (h3 : ¬ (v : Int) < 65536) (h4 : (v : Int) ≤ 1114111) (w : World) : Calls Tryz.prog 138 #[.int .i64 (v : Int)] w fun e w' => e = .returned (.string (asS (encL v))) ∧ Below w.heap.size w w' := by
  have hcv := conv_lit w (encL v) 4 (by rw [enc4 (v := v) (by omega) (by omega)]; rfl)
  rw [show bcs (encL v) = #[Value.int .u8 (240 + (v : Int) / 262144), Value.int .u8 (128 + (v : Int) / 4096 % 64), Value.int .u8 (128 + (v : Int) / 64 % 64), Value.int .u8 (128 + (v : Int) % 64)] from by
    rw [enc4 (v := v) (by omega) (by omega)]
    show #[Value.int .u8 ((bt (240 + v / 262144)).toNat : Int), Value.int .u8 ((bt (128 + v / 4096 % 64)).toNat : Int), Value.int .u8 ((bt (128 + v / 64 % 64)).toNat : Int), Value.int .u8 ((bt (128 + v % 64)).toNat : Int)] = _
    rw [bt_nat (by omega), bt_nat (by omega), bt_nat (by omega), bt_nat (by omega)]
    all_goals simp] at hcv
  generalize asS (encL v) = R at hcv ⊢
  skip
  go_enter Tryz.func138, Tryz.ntmps138
  go_wp2_with fail
  go_ret
  exact ⟨rfl, alloc_below (Below.refl _ _) (Nat.le_refl _) _⟩
theorem utf8r_any (v : Nat) (hv : validR v = true) (w : World) : Calls Tryz.prog 138 #[.int .i64 (v : Int)] w fun e w' => e = .returned (.string (asS (encL v))) ∧ Below w.heap.size w w' := by
  have hv' := validR_iff.1 hv
  by_cases h1 : (v : Int) < 128
  · exact utf8r_1 v h1 w
  · by_cases h2 : (v : Int) < 2048
    · exact utf8r_2 v h1 h2 w
    · by_cases h3 : (v : Int) < 65536
      · exact utf8r_3 v h1 h2 h3 (by omega) w
      · exact utf8r_4 v h1 h2 h3 (by omega) w
/-- Utf8: a rune's bytes, and whether it is one. -/
def utfS (v : Nat) : List UInt8 := if validR v then encL v else []
set_option maxRecDepth 100000 in
theorem Utf8_any (v : Nat) (hl : (v : Int) < 4294967296) (w : World) : Calls Tryz.prog 127 #[.int .i64 (v : Int)] w fun e w' => e = .returned (.tuple #[.string (asS (utfS v)), .bool (validR v)]) ∧ Below w.heap.size w w' := by
  have h0 : ¬ (v : Int) < 0 := by omega
  unfold utfS
  cases hv : validR v with
  | true =>
    have hv' := validR_iff.1 hv
    have HU := hid (fun W => utf8r_any v hv W)
    simp only [if_true]
    generalize asS (encL v) = R at HU ⊢
    clear hv
    have h1 : ¬ 1114111 < (v : Int) := by omega
    by_cases h2 : 55296 ≤ (v : Int)
    · have h3 : ¬ (v : Int) < 57344 := by omega
      clear hv'
      go_enter Tryz.func127, Tryz.ntmps127
      go_wp2_with (first | (go_at_call 138; refine (HU.out _).mono ?_; rintro e W1 ⟨rfl, hb⟩; have HB := hid hb; clear hb) | fail)
      go_ret2
      exact ⟨rfl, HB.out⟩
    · clear hv'
      go_enter Tryz.func127, Tryz.ntmps127
      go_wp2_with (first | (go_at_call 138; refine (HU.out _).mono ?_; rintro e W1 ⟨rfl, hb⟩; have HB := hid hb; clear hb) | fail)
      go_ret2
      exact ⟨rfl, HB.out⟩
  | false =>
    have hv' : ¬ (v < 55296 ∨ (57344 ≤ v ∧ v ≤ 1114111)) := fun h => by rw [validR_iff.2 h] at hv; cases hv
    simp only [Bool.false_eq_true, if_false]
    clear hv
    by_cases h1 : 1114111 < (v : Int)
    · clear hv'
      go_enter Tryz.func127, Tryz.ntmps127
      go_wp2_with fail
      go_ret2
      exact ⟨rfl, Below.refl _ _⟩
    · have h2 : 55296 ≤ (v : Int) := by omega
      have h3 : (v : Int) < 57344 := by omega
      clear hv'
      go_enter Tryz.func127, Tryz.ntmps127
      go_wp2_with fail
      go_ret2
      exact ⟨rfl, Below.refl _ _⟩
end Go.Proofs.YthjibliaofmlhaaGreatDoor
namespace Go.Proofs.YthjibliaofmlhaaGreatDoor
set_option linter.unusedVariables false
set_option linter.unusedSimpArgs false
open Go.RowKit Go.BigFrame

theorem run_name (l : List UInt8) (h : l.length < 2 ∨ l.getD 0 0 ≠ 35) : runeR l = nameR l := by
  unfold runeR
  split
  · rcases h with h | h
    · simp at h; omega
    · exact absurd rfl h
  · rename_i d _
    rcases h with h | h
    · cases d with
      | nil => decide
      | cons x t => simp at h; omega
    · exact absurd rfl h
  · rfl
theorem run_hex (d : List UInt8) : runeR (35 :: 120 :: d) = numR 16 6 d := rfl
theorem run_dec (x : UInt8) (d : List UInt8) (h : x ≠ 120) : runeR (35 :: x :: d) = numR 10 7 (x :: d) := by
  unfold runeR
  split
  · rename_i heq
    simp at heq
    exact absurd heq.1 h
  · rename_i heq
    simp at heq
    rw [heq]
  · rename_i h1 h2
    exact absurd rfl (h2 (x :: d))
theorem numR_long {b most : Nat} {d : List UInt8} (h : most < d.length) : numR b most d = none := by
  unfold numR; rw [if_neg (fun x => by omega)]
theorem numR_nil (b most : Nat) : numR b most [] = none := by
  unfold numR; rw [if_neg (fun x => x.1 rfl)]
theorem numR_bad {b most : Nat} {d : List UInt8} (h : okD b d = false) : numR b most d = none := by
  unfold numR; rw [if_neg (fun x => by rw [h] at x; cases x.2.2)]
theorem numR_ok {b most : Nat} {d : List UInt8} (h0 : d ≠ []) (hl : d.length ≤ most) (h : okD b d = true) : numR b most d = runeN (numE b d) := by
  unfold numR; rw [if_pos ⟨h0, hl, h⟩]
theorem digE_at {c : UInt8} {x : Nat} (hx : c.toNat = x) : digE c = if 48 ≤ x ∧ x ≤ 57 then x - 48 else if 97 ≤ x ∧ x ≤ 102 then x - 97 + 10 else if 65 ≤ x ∧ x ≤ 70 then x - 65 + 10 else 99 := by subst hx; rfl
theorem xml_num (n : Nat) (w : World) : Calls Tryz.prog 62 #[.slice (some ⟨w.heap.size, 0, none⟩) 1 1] (w.alloc (.cells #[.int .i64 (n : Int)] 3)) fun e w' => e = .returned (.bool (xmlN n)) ∧ w' = w.alloc (.cells #[.int .i64 (n : Int)] 3) := by
  have c := refXml_some w.heap.size 1 [n] (w.alloc (.cells #[.int .i64 (n : Int)] 3)) (by simp) (fun j hj => by
    obtain rfl : j = 0 := by simp at hj; omega
    rw [cell_of_row _ _ _ _ _ _ (heap_alloc_new w (.cells #[.int .i64 (n : Int)] 3))]; rfl)
  simp only [List.all_cons, List.all_nil, Bool.and_true] at c
  exact c
set_option maxRecDepth 100000 in
theorem refRef_name (l : List UInt8) (hl : l.length ≤ 100000) (h : l.length < 2 ∨ l.getD 0 0 ≠ 35) (w : World) : Calls Tryz.prog 110 #[.string (asS l)] w fun e w' => e = .returned (.string (asS (strR (runeR l)))) ∧ Below w.heap.size w w' := by
  rw [run_name l h]
  have HN := hid (fun W => names_any l W)
  have hs := asS_size l
  have HIX := hid (fun k h W => str_ix (asS l) k h W)
  rw [asS_data] at HIX
  generalize asS (strR (nameR l)) = R at HN ⊢
  by_cases h2 : l.length < 2
  · generalize asS l = S at HN hs ⊢
    have h3 : (S.size : Int) < 2 := by omega
    clear hs h h2 HIX
    go_enter Tryz.func110, Tryz.ntmps110
    go_wp2_with (first | (go_at_call 126; refine (HN.out _).mono ?_; rintro e W1 ⟨rfl, rfl⟩) | fail)
    go_ret
    exact ⟨rfl, Below.refl _ _⟩
  · have hne : l.getD 0 0 ≠ 35 := by rcases h with h | h; exact absurd h h2; exact h
    have hix : ∀ W, (Instr.index 9 (.string (asS l)) (.int .i64 0)).run Tryz.prog W = _ := fun W => HIX.out 0 (by omega) W
    generalize l.getD 0 0 = c at hix hne
    have hc : ¬ (c.toNat : Int) = 35 := fun e => hne (UInt8.toNat_inj.1 (by show c.toNat = 35; omega))
    generalize asS l = S at HN hs hix ⊢
    have h3 : ¬ (S.size : Int) < 2 := by omega
    have h4 : (S.size : Int) ≤ 100000 := by omega
    clear hs h h2 HIX hne
    go_enter Tryz.func110, Tryz.ntmps110
    go_wp2_with (first | (go_at_call 126; refine (HN.out _).mono ?_; rintro e W1 ⟨rfl, rfl⟩) | fail)
    go_ret
    exact ⟨rfl, Below.refl _ _⟩
set_option maxHeartbeats 4000000 in
set_option maxRecDepth 100000 in
theorem refRef_hex (d : List UInt8) (hl : d.length ≤ 100000) (w : World) : Calls Tryz.prog 110 #[.string (asS (35 :: 120 :: d))] w fun e w' => e = .returned (.string (asS (strR (numR 16 6 d)))) ∧ Below w.heap.size w w' := by
  have hix0 : ∀ W, (Instr.index 9 (.string (asS (35 :: 120 :: d))) (.int .i64 0)).run Tryz.prog W = .ok (.int .u8 35) W := fun W => str_ix (asS (35 :: 120 :: d)) 0 (by rw [asS_size]; simp) W
  have hix1 : ∀ W, (Instr.index 9 (.string (asS (35 :: 120 :: d))) (.int .i64 1)).run Tryz.prog W = .ok (.int .u8 120) W := fun W => str_ix (asS (35 :: 120 :: d)) 1 (by rw [asS_size]; simp) W
  have hs : (asS (35 :: 120 :: d)).size = d.length + 2 := by rw [asS_size]; rfl
  have HIX : Hid (∀ j, j < d.length → ∀ W, (Instr.index 9 (.string (asS (35 :: 120 :: d))) (.int .i64 ((j : Int) + 2))).run Tryz.prog W = .ok (.int .u8 (d.getD j 0).toNat) W) := fun j hj W => by
    have c := str_ix (asS (35 :: 120 :: d)) (j + 2) (by rw [hs]; omega) W
    exact c
  generalize asS (35 :: 120 :: d) = S at hix0 hix1 hs HIX ⊢
  have hsz : (S.size : Int) = (d.length : Int) + 2 := by omega
  have h3 : ¬ (S.size : Int) < 2 := by omega
  have HSZ := hid hsz
  have h4 : (S.size : Int) ≤ 100002 := by omega
  clear hs hsz
  by_cases h0 : d = []
  · have hq : ((S.size : Int) == 2) = true := by rw [beq_iff_eq, HSZ.out, h0]; rfl
    have HR : Hid (numR 16 6 d = none) := by show _ = _; rw [h0]; exact numR_nil 16 6
    rw [HR.out]
    clear h0 HIX
    go_enter Tryz.func110, Tryz.ntmps110
    go_wp2_with fail
    go_ret
    exact ⟨rfl, Below.refl _ _⟩
  have hq : ((S.size : Int) == 2) = false := by
    rw [beq_eq_false_iff_ne, HSZ.out]
    have : 0 < d.length := List.length_pos_iff.2 h0
    omega
  by_cases hm : 6 < d.length
  · have hm' : (6 : Int) < (S.size : Int) - 2 := by rw [HSZ.out]; omega
    have HR : Hid (numR 16 6 d = none) := numR_long hm
    rw [HR.out]
    clear hm HIX h0
    go_enter Tryz.func110, Tryz.ntmps110
    go_wp2_with fail
    go_ret
    exact ⟨rfl, Below.refl _ _⟩
  have hm' : ¬ (6 : Int) < (S.size : Int) - 2 := by rw [HSZ.out]; omega
  have hdl : d.length ≤ 6 := by omega
  have HBAD : Hid (∀ j, j < d.length → ¬ digE (d.getD j 0) < 16 → numR 16 6 d = none) := fun j hj h => numR_bad (okD_false hj h)
  have HOK : Hid (∀ acc, AtE 16 d d.length acc → numR 16 6 d = runeN acc) := fun acc h => by
    have e1 := h.all
    have e2 := h.val
    rw [List.take_length] at e1 e2
    rw [numR_ok h0 hdl e1, e2]
  have HUT := hid (fun v hv W => Utf8_any v hv W)
  have HXN := hid (fun n W => xml_num n W)
  clear hm h0
  generalize numR 16 6 d = Q at HBAD HOK ⊢
  go_enter Tryz.func110, Tryz.ntmps110
  go_wp2_with fail
  go_loop [6, 7] (fun n i => ∃ (j acc : Nat), n = .int .i64 (acc : Int) ∧ i = .int .i64 ((j : Int) + 2) ∧ j ≤ d.length ∧ Hid (AtE 16 d j acc)) (fun _ i => d.length + 2 - (intOf i).toNat)
  case atStart => exact ⟨0, 0, rfl, rfl, Nat.zero_le _, AtE.zero _ _⟩
  case round =>
    obtain ⟨j, acc, rfl, rfl, hj, HA⟩ := hrel
    by_cases hlt : j < d.length
    · have hi : (j : Int) + 2 < (S.size : Int) := by rw [HSZ.out]; omega
      have hix := HIX.out j hlt
      have ha : (acc : Int) < 1048576 := by
        have h9 := HA.out.small 5 (by decide) (by omega)
        rw [show (16 : Nat) ^ 5 = 1048576 from by decide] at h9
        omega
      have HST := hid (HA.out.step hlt)
      have HBJ := hid (HBAD.out j hlt)
      obtain ⟨c, hc⟩ : ∃ c, d.getD j 0 = c := ⟨_, rfl⟩
      rw [hc] at hix HST HBJ
      clear hc
      obtain ⟨x, hx⟩ : ∃ x, c.toNat = x := ⟨_, rfl⟩
      have hdg := digE_at hx
      have hx256 : (x : Int) < 256 := by have := c.toNat_lt; omega
      rw [hx] at hix
      generalize digE c = g at HST HBJ hdg
      clear hx
      rcases (show (x < 48) ∨ (48 ≤ x ∧ x ≤ 57) ∨ (58 ≤ x ∧ x ≤ 64) ∨ (65 ≤ x ∧ x ≤ 70) ∨ (71 ≤ x ∧ x ≤ 96) ∨ (97 ≤ x ∧ x ≤ 102) ∨ (103 ≤ x) by omega) with hk | hk | hk | hk | hk | hk | hk
      · have hg : g = 99 := by
          rw [hdg]
          repeat' split
          all_goals omega
        clear hdg
        have f0 : ¬ 48 ≤ (x : Int) := by omega
        have f1 : ¬ 97 ≤ (x : Int) := by omega
        have f2 : ¬ 65 ≤ (x : Int) := by omega
        have HQ := hid (HBJ.out (by omega))
        have hb9 : (16 : Int) ≤ 99 := by omega
        clear hk hg HST HBJ
        go_wp2_with fail
        go_ret
        exact ⟨by rw [HQ.out]; rfl, Below.refl _ _⟩
      · have hg : g = x - 48 := by
          rw [hdg]
          repeat' split
          all_goals omega
        clear hdg
        have f0 : 48 ≤ (x : Int) := by omega
        have f1 : (x : Int) ≤ 57 := by omega
        have HS2 := hid (HST.out (by omega))
        have HE : Hid (((acc * 16 + g : Nat) : Int) = (acc : Int) * 16 + ((x : Int) - 48)) := by show _ = _; omega
        have hb9 : ¬ (16 : Int) ≤ (x : Int) - 48 := by omega
        clear hk hg HST HBJ
        go_wp2_with fail
        go_round
        case rel => exact ⟨j + 1, acc * 16 + g, by rw [HE.out], by go_num, by omega, HS2⟩
        case measure => simp [intOf]; omega
      · have hg : g = 99 := by
          rw [hdg]
          repeat' split
          all_goals omega
        clear hdg
        have f0 : 48 ≤ (x : Int) := by omega
        have f1 : ¬ (x : Int) ≤ 57 := by omega
        have f2 : ¬ 97 ≤ (x : Int) := by omega
        have f3 : ¬ 65 ≤ (x : Int) := by omega
        have HQ := hid (HBJ.out (by omega))
        have hb9 : (16 : Int) ≤ 99 := by omega
        clear hk hg HST HBJ
        go_wp2_with fail
        go_ret
        exact ⟨by rw [HQ.out]; rfl, Below.refl _ _⟩
      · have hg : g = x - 65 + 10 := by
          rw [hdg]
          repeat' split
          all_goals omega
        clear hdg
        have f0 : 48 ≤ (x : Int) := by omega
        have f1 : ¬ (x : Int) ≤ 57 := by omega
        have f2 : ¬ 97 ≤ (x : Int) := by omega
        have f3 : 65 ≤ (x : Int) := by omega
        have f4 : (x : Int) ≤ 70 := by omega
        have HS2 := hid (HST.out (by omega))
        have HE : Hid (((acc * 16 + g : Nat) : Int) = (acc : Int) * 16 + ((x : Int) - 65 + 10)) := by show _ = _; omega
        have hb9 : ¬ (16 : Int) ≤ (x : Int) - 65 + 10 := by omega
        clear hk hg HST HBJ
        go_wp2_with fail
        go_round
        case rel => exact ⟨j + 1, acc * 16 + g, by rw [HE.out], by go_num, by omega, HS2⟩
        case measure => simp [intOf]; omega
      · have hg : g = 99 := by
          rw [hdg]
          repeat' split
          all_goals omega
        clear hdg
        have f0 : 48 ≤ (x : Int) := by omega
        have f1 : ¬ (x : Int) ≤ 57 := by omega
        have f2 : ¬ 97 ≤ (x : Int) := by omega
        have f3 : 65 ≤ (x : Int) := by omega
        have f4 : ¬ (x : Int) ≤ 70 := by omega
        have HQ := hid (HBJ.out (by omega))
        have hb9 : (16 : Int) ≤ 99 := by omega
        clear hk hg HST HBJ
        go_wp2_with fail
        go_ret
        exact ⟨by rw [HQ.out]; rfl, Below.refl _ _⟩
      · have hg : g = x - 97 + 10 := by
          rw [hdg]
          repeat' split
          all_goals omega
        clear hdg
        have f0 : 48 ≤ (x : Int) := by omega
        have f1 : ¬ (x : Int) ≤ 57 := by omega
        have f2 : 97 ≤ (x : Int) := by omega
        have f3 : (x : Int) ≤ 102 := by omega
        have HS2 := hid (HST.out (by omega))
        have HE : Hid (((acc * 16 + g : Nat) : Int) = (acc : Int) * 16 + ((x : Int) - 97 + 10)) := by show _ = _; omega
        have hb9 : ¬ (16 : Int) ≤ (x : Int) - 97 + 10 := by omega
        clear hk hg HST HBJ
        go_wp2_with fail
        go_round
        case rel => exact ⟨j + 1, acc * 16 + g, by rw [HE.out], by go_num, by omega, HS2⟩
        case measure => simp [intOf]; omega
      · have hg : g = 99 := by
          rw [hdg]
          repeat' split
          all_goals omega
        clear hdg
        have f0 : 48 ≤ (x : Int) := by omega
        have f1 : ¬ (x : Int) ≤ 57 := by omega
        have f2 : 97 ≤ (x : Int) := by omega
        have f3 : ¬ (x : Int) ≤ 102 := by omega
        have f4 : 65 ≤ (x : Int) := by omega
        have f5 : ¬ (x : Int) ≤ 70 := by omega
        have HQ := hid (HBJ.out (by omega))
        have hb9 : (16 : Int) ≤ 99 := by omega
        clear hk hg HST HBJ
        go_wp2_with fail
        go_ret
        exact ⟨by rw [HQ.out]; rfl, Below.refl _ _⟩
    · obtain rfl : j = d.length := by omega
      have hi : ¬ (d.length : Int) + 2 < (S.size : Int) := by rw [HSZ.out]; omega
      have HQ := hid (HOK.out acc HA.out)
      have ha : acc < 16777216 := by
        have h9 := HA.out.small 6 (by decide) hdl
        rw [show (16 : Nat) ^ 6 = 16777216 from by decide] at h9
        exact h9
      have HU := hid (fun W => HUT.out acc (by omega) W)
      have HX := hid (fun W => HXN.out acc W)
      unfold utfS at HU
      clear HUT HXN HIX HBAD HOK HA
      cases hvr : validR acc with
      | false =>
        have HN : Hid (Q = none) := by show _ = _; rw [HQ.out]; unfold runeN; rw [hvr]; rfl
        rw [hvr] at HU
        simp only [Bool.false_eq_true, if_false] at HU
        clear hvr
        go_wp2_with (first | (go_at_call 127; refine (HU.out _).mono ?_; rintro e W1 ⟨rfl, hb⟩; have HB := hid hb; clear hb) | fail)
        go_ret
        exact ⟨by rw [HN.out]; rfl, HB.out⟩
      | true =>
        rw [hvr] at HU
        simp only [if_true] at HU
        cases hxn : xmlN acc with
        | false =>
          have HN : Hid (Q = none) := by show _ = _; rw [HQ.out]; unfold runeN; rw [hvr, hxn]; rfl
          rw [hxn] at HX
          clear hvr hxn
          go_wp2_with (first | (go_at_call 127; refine (HU.out _).mono ?_; rintro e W1 ⟨rfl, hb⟩; have HB := hid hb; clear hb) | (go_at_call 62; refine (HX.out _).mono ?_; rintro e W2 ⟨rfl, rfl⟩) | fail)
          go_ret
          exact ⟨by rw [HN.out]; rfl, alloc_below HB.out HB.out.size _⟩
        | true =>
          have HN : Hid (Q = some acc) := by show _ = _; rw [HQ.out]; unfold runeN; rw [hvr, hxn]; rfl
          rw [hxn] at HX
          clear hvr hxn
          go_wp2_with (first | (go_at_call 127; refine (HU.out _).mono ?_; rintro e W1 ⟨rfl, hb⟩; have HB := hid hb; clear hb) | (go_at_call 62; refine (HX.out _).mono ?_; rintro e W2 ⟨rfl, rfl⟩) | fail)
          go_ret
          exact ⟨by rw [HN.out]; rfl, alloc_below HB.out HB.out.size _⟩
set_option maxHeartbeats 4000000 in
set_option maxRecDepth 100000 in
theorem refRef_dec (d : List UInt8) (hl : d.length ≤ 100000) (x0 : UInt8) (hd0 : d.getD 0 0 = x0) (hx0 : x0 ≠ 120) (h1 : 1 ≤ d.length) (w : World) : Calls Tryz.prog 110 #[.string (asS (35 :: d))] w fun e w' => e = .returned (.string (asS (strR (numR 10 7 d)))) ∧ Below w.heap.size w w' := by
  have hix0 : ∀ W, (Instr.index 9 (.string (asS (35 :: d))) (.int .i64 0)).run Tryz.prog W = .ok (.int .u8 35) W := fun W => str_ix (asS (35 :: d)) 0 (by rw [asS_size]; simp) W
  have hix1 : ∀ W, (Instr.index 9 (.string (asS (35 :: d))) (.int .i64 1)).run Tryz.prog W = .ok (.int .u8 x0.toNat) W := fun W => by
    have c := str_ix (asS (35 :: d)) 1 (by rw [asS_size, List.length_cons]; omega) W
    rw [asS_data, List.getD_cons_succ, hd0] at c
    exact c
  have hxx : ¬ (x0.toNat : Int) = 120 := fun e => hx0 (UInt8.toNat_inj.1 (by show x0.toNat = 120; omega))
  have hs : (asS (35 :: d)).size = d.length + 1 := by rw [asS_size]; rfl
  have HIX : Hid (∀ j, j < d.length → ∀ W, (Instr.index 9 (.string (asS (35 :: d))) (.int .i64 ((j : Int) + 1))).run Tryz.prog W = .ok (.int .u8 (d.getD j 0).toNat) W) := fun j hj W => by
    have c := str_ix (asS (35 :: d)) (j + 1) (by rw [hs]; omega) W
    exact c
  generalize asS (35 :: d) = S at hix0 hix1 hs HIX ⊢
  have hsz : (S.size : Int) = (d.length : Int) + 1 := by omega
  have h3 : ¬ (S.size : Int) < 2 := by omega
  have HSZ := hid hsz
  have h4 : (S.size : Int) ≤ 100002 := by omega
  clear hs hsz hd0 hx0
  have h0 : d ≠ [] := fun h => by rw [h] at h1; simp at h1
  have hq : ((S.size : Int) == 1) = false := by
    rw [beq_eq_false_iff_ne, HSZ.out]
    omega
  clear h1
  by_cases hm : 7 < d.length
  · have hm' : (7 : Int) < (S.size : Int) - 1 := by rw [HSZ.out]; omega
    have HR : Hid (numR 10 7 d = none) := numR_long hm
    rw [HR.out]
    clear hm HIX h0
    go_enter Tryz.func110, Tryz.ntmps110
    go_wp2_with fail
    go_ret
    exact ⟨rfl, Below.refl _ _⟩
  have hm' : ¬ (7 : Int) < (S.size : Int) - 1 := by rw [HSZ.out]; omega
  have hdl : d.length ≤ 7 := by omega
  have HBAD : Hid (∀ j, j < d.length → ¬ digE (d.getD j 0) < 10 → numR 10 7 d = none) := fun j hj h => numR_bad (okD_false hj h)
  have HOK : Hid (∀ acc, AtE 10 d d.length acc → numR 10 7 d = runeN acc) := fun acc h => by
    have e1 := h.all
    have e2 := h.val
    rw [List.take_length] at e1 e2
    rw [numR_ok h0 hdl e1, e2]
  have HUT := hid (fun v hv W => Utf8_any v hv W)
  have HXN := hid (fun n W => xml_num n W)
  clear hm h0
  generalize numR 10 7 d = Q at HBAD HOK ⊢
  go_enter Tryz.func110, Tryz.ntmps110
  go_wp2_with fail
  go_loop [6, 7] (fun n i => ∃ (j acc : Nat), n = .int .i64 (acc : Int) ∧ i = .int .i64 ((j : Int) + 1) ∧ j ≤ d.length ∧ Hid (AtE 10 d j acc)) (fun _ i => d.length + 1 - (intOf i).toNat)
  case atStart => exact ⟨0, 0, rfl, rfl, Nat.zero_le _, AtE.zero _ _⟩
  case round =>
    obtain ⟨j, acc, rfl, rfl, hj, HA⟩ := hrel
    by_cases hlt : j < d.length
    · have hi : (j : Int) + 1 < (S.size : Int) := by rw [HSZ.out]; omega
      have hix := HIX.out j hlt
      have ha : (acc : Int) < 1000000 := by
        have h9 := HA.out.small 6 (by decide) (by omega)
        rw [show (10 : Nat) ^ 6 = 1000000 from by decide] at h9
        omega
      have HST := hid (HA.out.step hlt)
      have HBJ := hid (HBAD.out j hlt)
      obtain ⟨c, hc⟩ : ∃ c, d.getD j 0 = c := ⟨_, rfl⟩
      rw [hc] at hix HST HBJ
      clear hc
      obtain ⟨x, hx⟩ : ∃ x, c.toNat = x := ⟨_, rfl⟩
      have hdg := digE_at hx
      have hx256 : (x : Int) < 256 := by have := c.toNat_lt; omega
      rw [hx] at hix
      generalize digE c = g at HST HBJ hdg
      clear hx
      rcases (show (x < 48) ∨ (48 ≤ x ∧ x ≤ 57) ∨ (58 ≤ x ∧ x ≤ 64) ∨ (65 ≤ x ∧ x ≤ 70) ∨ (71 ≤ x ∧ x ≤ 96) ∨ (97 ≤ x ∧ x ≤ 102) ∨ (103 ≤ x) by omega) with hk | hk | hk | hk | hk | hk | hk
      · have hg : g = 99 := by
          rw [hdg]
          repeat' split
          all_goals omega
        clear hdg
        have f0 : ¬ 48 ≤ (x : Int) := by omega
        have f1 : ¬ 97 ≤ (x : Int) := by omega
        have f2 : ¬ 65 ≤ (x : Int) := by omega
        have HQ := hid (HBJ.out (by omega))
        have hb9 : (10 : Int) ≤ 99 := by omega
        clear hk hg HST HBJ
        go_wp2_with fail
        go_ret
        exact ⟨by rw [HQ.out]; rfl, Below.refl _ _⟩
      · have hg : g = x - 48 := by
          rw [hdg]
          repeat' split
          all_goals omega
        clear hdg
        have f0 : 48 ≤ (x : Int) := by omega
        have f1 : (x : Int) ≤ 57 := by omega
        have HS2 := hid (HST.out (by omega))
        have HE : Hid (((acc * 10 + g : Nat) : Int) = (acc : Int) * 10 + ((x : Int) - 48)) := by show _ = _; omega
        have hb9 : ¬ (10 : Int) ≤ (x : Int) - 48 := by omega
        clear hk hg HST HBJ
        go_wp2_with fail
        go_round
        case rel => exact ⟨j + 1, acc * 10 + g, by rw [HE.out], by go_num, by omega, HS2⟩
        case measure => simp [intOf]; omega
      · have hg : g = 99 := by
          rw [hdg]
          repeat' split
          all_goals omega
        clear hdg
        have f0 : 48 ≤ (x : Int) := by omega
        have f1 : ¬ (x : Int) ≤ 57 := by omega
        have f2 : ¬ 97 ≤ (x : Int) := by omega
        have f3 : ¬ 65 ≤ (x : Int) := by omega
        have HQ := hid (HBJ.out (by omega))
        have hb9 : (10 : Int) ≤ 99 := by omega
        clear hk hg HST HBJ
        go_wp2_with fail
        go_ret
        exact ⟨by rw [HQ.out]; rfl, Below.refl _ _⟩
      · have hg : g = x - 65 + 10 := by
          rw [hdg]
          repeat' split
          all_goals omega
        clear hdg
        have f0 : 48 ≤ (x : Int) := by omega
        have f1 : ¬ (x : Int) ≤ 57 := by omega
        have f2 : ¬ 97 ≤ (x : Int) := by omega
        have f3 : 65 ≤ (x : Int) := by omega
        have f4 : (x : Int) ≤ 70 := by omega
        have HQ := hid (HBJ.out (by omega))
        have hb9 : (10 : Int) ≤ (x : Int) - 65 + 10 := by omega
        clear hk hg HST HBJ
        go_wp2_with fail
        go_ret
        exact ⟨by rw [HQ.out]; rfl, Below.refl _ _⟩
      · have hg : g = 99 := by
          rw [hdg]
          repeat' split
          all_goals omega
        clear hdg
        have f0 : 48 ≤ (x : Int) := by omega
        have f1 : ¬ (x : Int) ≤ 57 := by omega
        have f2 : ¬ 97 ≤ (x : Int) := by omega
        have f3 : 65 ≤ (x : Int) := by omega
        have f4 : ¬ (x : Int) ≤ 70 := by omega
        have HQ := hid (HBJ.out (by omega))
        have hb9 : (10 : Int) ≤ 99 := by omega
        clear hk hg HST HBJ
        go_wp2_with fail
        go_ret
        exact ⟨by rw [HQ.out]; rfl, Below.refl _ _⟩
      · have hg : g = x - 97 + 10 := by
          rw [hdg]
          repeat' split
          all_goals omega
        clear hdg
        have f0 : 48 ≤ (x : Int) := by omega
        have f1 : ¬ (x : Int) ≤ 57 := by omega
        have f2 : 97 ≤ (x : Int) := by omega
        have f3 : (x : Int) ≤ 102 := by omega
        have HQ := hid (HBJ.out (by omega))
        have hb9 : (10 : Int) ≤ (x : Int) - 97 + 10 := by omega
        clear hk hg HST HBJ
        go_wp2_with fail
        go_ret
        exact ⟨by rw [HQ.out]; rfl, Below.refl _ _⟩
      · have hg : g = 99 := by
          rw [hdg]
          repeat' split
          all_goals omega
        clear hdg
        have f0 : 48 ≤ (x : Int) := by omega
        have f1 : ¬ (x : Int) ≤ 57 := by omega
        have f2 : 97 ≤ (x : Int) := by omega
        have f3 : ¬ (x : Int) ≤ 102 := by omega
        have f4 : 65 ≤ (x : Int) := by omega
        have f5 : ¬ (x : Int) ≤ 70 := by omega
        have HQ := hid (HBJ.out (by omega))
        have hb9 : (10 : Int) ≤ 99 := by omega
        clear hk hg HST HBJ
        go_wp2_with fail
        go_ret
        exact ⟨by rw [HQ.out]; rfl, Below.refl _ _⟩
    · obtain rfl : j = d.length := by omega
      have hi : ¬ (d.length : Int) + 1 < (S.size : Int) := by rw [HSZ.out]; omega
      have HQ := hid (HOK.out acc HA.out)
      have ha : acc < 10000000 := by
        have h9 := HA.out.small 7 (by decide) hdl
        rw [show (10 : Nat) ^ 7 = 10000000 from by decide] at h9
        exact h9
      have HU := hid (fun W => HUT.out acc (by omega) W)
      have HX := hid (fun W => HXN.out acc W)
      unfold utfS at HU
      clear HUT HXN HIX HBAD HOK HA
      cases hvr : validR acc with
      | false =>
        have HN : Hid (Q = none) := by show _ = _; rw [HQ.out]; unfold runeN; rw [hvr]; rfl
        rw [hvr] at HU
        simp only [Bool.false_eq_true, if_false] at HU
        clear hvr
        go_wp2_with (first | (go_at_call 127; refine (HU.out _).mono ?_; rintro e W1 ⟨rfl, hb⟩; have HB := hid hb; clear hb) | fail)
        go_ret
        exact ⟨by rw [HN.out]; rfl, HB.out⟩
      | true =>
        rw [hvr] at HU
        simp only [if_true] at HU
        cases hxn : xmlN acc with
        | false =>
          have HN : Hid (Q = none) := by show _ = _; rw [HQ.out]; unfold runeN; rw [hvr, hxn]; rfl
          rw [hxn] at HX
          clear hvr hxn
          go_wp2_with (first | (go_at_call 127; refine (HU.out _).mono ?_; rintro e W1 ⟨rfl, hb⟩; have HB := hid hb; clear hb) | (go_at_call 62; refine (HX.out _).mono ?_; rintro e W2 ⟨rfl, rfl⟩) | fail)
          go_ret
          exact ⟨by rw [HN.out]; rfl, alloc_below HB.out HB.out.size _⟩
        | true =>
          have HN : Hid (Q = some acc) := by show _ = _; rw [HQ.out]; unfold runeN; rw [hvr, hxn]; rfl
          rw [hxn] at HX
          clear hvr hxn
          go_wp2_with (first | (go_at_call 127; refine (HU.out _).mono ?_; rintro e W1 ⟨rfl, hb⟩; have HB := hid hb; clear hb) | (go_at_call 62; refine (HX.out _).mono ?_; rintro e W2 ⟨rfl, rfl⟩) | fail)
          go_ret
          exact ⟨by rw [HN.out]; rfl, alloc_below HB.out HB.out.size _⟩
theorem refRef_any (l : List UInt8) (hl : l.length ≤ 100000) (w : World) : Calls Tryz.prog 110 #[.string (asS l)] w fun e w' => e = .returned (.string (asS (strR (runeR l)))) ∧ Below w.heap.size w w' := by
  by_cases h : l.length < 2 ∨ l.getD 0 0 ≠ 35
  · exact refRef_name l hl h w
  · match l, h with
    | [], h => exact absurd (.inl (by simp)) h
    | [c], h => exact absurd (.inl (by simp)) h
    | c :: x :: d, h =>
      obtain rfl : c = 35 := by
        by_cases hc : c = 35
        · exact hc
        · exact absurd (.inr (by simpa using hc)) h
      simp only [List.length_cons] at hl
      by_cases hx : x = 120
      · subst hx
        rw [run_hex]
        exact refRef_hex d (by omega) w
      · rw [run_dec x d hx]
        exact refRef_dec (x :: d) (by simp; omega) x (by simp) hx (by simp) w
end Go.Proofs.YthjibliaofmlhaaGreatDoor
namespace Go.Proofs.YthjibliaofmlhaaGreatDoor
set_option linter.unusedVariables false
set_option linter.unusedSimpArgs false
open Go.RowKit Go.BigFrame

theorem sliceE_run (S : ByteArray) (a b : Nat) (i j : Int) (hi : i = (a : Int)) (hj : j = (b : Int)) (h1 : a ≤ b) (h2 : b ≤ S.size) (x : ByteArray) (hx : S.extract a b = x) (W : World) : (Instr.slice 9 (.string S) (some (.int .i64 i)) (some (.int .i64 j)) none).run Tryz.prog W = .ok (.string x) W := by
  subst hi; subst hj; subst hx
  rw [run_slice_string W 9 S .i64 .i64 a b Tryz.underlying9 (by omega) (by omega) (by omega)]
  simp
theorem catE_size (o x : List UInt8) (h : o.length + x.length ≤ 1000000) : ¬ (9223372036854775807 < (asS o).size + (asS x).size) := by rw [asS_size, asS_size]; omega
theorem dropE_at (l : List UInt8) (k : Nat) (h : k < l.length) : l.drop k = l.getD k 0 :: l.drop (k + 1) := by
  rw [List.drop_eq_getElem_cons h, List.getD_eq_getElem?_getD, List.getElem?_eq_getElem h]; rfl
theorem map_one (o : List UInt8) (c : UInt8) (x : Option (List UInt8)) : (x.map (c :: ·)).map (o ++ ·) = x.map ((o ++ [c]) ++ ·) := by
  cases x with
  | none => rfl
  | some y => simp
theorem getDE_drop (l : List UInt8) (a j : Nat) : (l.drop a).getD j 0 = l.getD (a + j) 0 := by
  rw [List.getD_eq_getElem?_getD, List.getD_eq_getElem?_getD, List.getElem?_drop]
theorem runesV_no (l : List UInt8) (hl : l.length ≤ 1000000) (h : V l = false) (w : World) : Calls Tryz.prog 61 #[.string (asS l)] w fun e w' => e = .returned (.tuple #[.slice none 0 0, .bool false]) ∧ Below w.heap.size w w' :=
  runes_no (asS l) w (by rw [asS_size]; exact hl) (by rw [vld_V, asS_data]; exact h)
theorem runesV_ok (l : List UInt8) (hl : l.length ≤ 1000000) (h : V l = true) (w : World) : Calls Tryz.prog 61 #[.string (asS l)] w fun e w' => ∃ v, e = .returned (.tuple #[v, .bool true]) ∧ Below w.heap.size w w' := by
  refine (runes_ok (asS l) w (by rw [asS_size]; exact hl) (by rw [vld_V, asS_data]; exact h)).mono ?_
  rintro e w' ⟨v, he, _, hb⟩
  exact ⟨v, he, hb⟩
set_option maxRecDepth 100000 in
theorem refUn_no (l : List UInt8) (hl : l.length ≤ 100000) (h : V l = false) (w : World) : Calls Tryz.prog 93 #[.string (asS l)] w fun e w' => e = .returned (.tuple #[.string ⟨#[]⟩, .bool false]) ∧ Below w.heap.size w w' := by
  have HR := hid (fun W => runesV_no l (by omega) h W)
  clear h hl
  generalize asS l = S at HR ⊢
  go_enter Tryz.func93, Tryz.ntmps93
  go_wp2_with (first | (go_at_call 61; refine (HR.out _).mono ?_; rintro e W1 ⟨rfl, hb⟩; have HB := hid hb; clear hb) | fail)
  go_ret2
  exact ⟨rfl, HB.out⟩
theorem strR_len (o : Option Nat) : (strR o).length ≤ 4 := by
  cases o with
  | none => simp [strR]
  | some n => exact (encL_len n).2
set_option maxHeartbeats 4000000 in
set_option maxRecDepth 100000 in
theorem refUn_V (l : List UInt8) (hl : l.length ≤ 100000) (hV : V l = true) (w : World) : Calls Tryz.prog 93 #[.string (asS l)] w fun e w' => e = .returned (.tuple #[.string (asS ((unL l).getD [])), .bool (unL l).isSome]) ∧ Below w.heap.size w w' := by
  have HU1 : Hid (unL l = (unL (l.drop 0)).map ([] ++ ·)) := by show _ = _; rw [List.drop_zero]; cases unL l <;> simp
  generalize unL l = R at HU1 ⊢
  have HRN := hid (fun W => runesV_ok l (by omega) hV W)
  have HRF := hid (fun b hb W => refRef_any b hb W)
  have HSZ := hid (asS_size l)
  have HIX : Hid (∀ k, k < l.length → ∀ W, (Instr.index 9 (.string (asS l)) (.int .i64 (k : Int))).run Tryz.prog W = .ok (.int .u8 (l.getD k 0).toNat) W) := fun k hk W => str_ix (asS l) k (by rw [asS_size]; exact hk) W
  have HX1 : Hid (∀ k, k < l.length → (asS l).extract k (k + 1) = asS [l.getD k 0]) := fun k hk => by
    rw [ext_asS, asS_data, dropE_at l k hk, show k + 1 - k = 1 from by omega]; rfl
  have HX2 : Hid (∀ k b r, l.drop (k + 1) = b ++ 59 :: r → (asS l).extract (k + 1) (k + 1 + b.length) = asS b) := fun k b r h => by
    rw [ext_asS, asS_data, h, show k + 1 + b.length - (k + 1) = b.length from by omega, List.take_left' rfl]
  generalize asS l = S at HSZ HRN HIX HX1 HX2 ⊢
  have hS : S.size ≤ 100000 := by rw [HSZ.out]; exact hl
  clear hV
  go_enter Tryz.func93, Tryz.ntmps93
  go_wp2_with fail
  refine (HRN.out _).mono ?_
  rintro e W0 ⟨v0, rfl, hb0⟩
  have HB0 := hid hb0
  clear hb0
  go_wp2_with fail
  go_loopw [6, 7] (fun v i wr => ∃ (k : Nat) (o : List UInt8), i = .int .i64 (k : Int) ∧ v = .string (asS o) ∧ k ≤ S.size ∧ o.length ≤ 4 * k ∧ Hid (R = (unL (l.drop k)).map (o ++ ·)) ∧ Hid (Below w.heap.size w wr)) (fun _ i _ => S.size - (intOf i).toNat)
  case atStart => exact ⟨0, [], rfl, rfl, by omega, by simp, HU1, HB0⟩
  case round =>
    obtain ⟨k, o, rfl, rfl, hk, ho, HU, HB⟩ := hrel
    by_cases hlt : k < S.size
    · have hi : (k : Int) < (S.size : Int) := by omega
      have hkl : k < l.length := by have := HSZ.out; omega
      have hix := HIX.out k hkl
      have hdr := dropE_at l k hkl
      have hx1 := HX1.out k hkl
      generalize l.getD k 0 = c at hix hdr hx1
      have hw1 : wrap64 ((k : Int) + 1) = (k : Int) + 1 := by unfold wrap64; omega
      by_cases hc : c = 38
      · subst hc
        obtain ⟨t, ht⟩ : ∃ t, l.drop (k + 1) = t := ⟨_, rfl⟩
        rw [ht] at hdr
        have htl : t.length + (k + 1) = l.length := by rw [← ht, List.length_drop]; omega
        have HTD : Hid (∀ q, k + 1 ≤ q → q < l.length → t.getD (q - (k + 1)) 0 = l.getD q 0) := fun q h1 h2 => by
          rw [← ht, getDE_drop, show k + 1 + (q - (k + 1)) = q from by omega]
        cases hct : cutE t with
        | none =>
          have HQ : Hid (R = none) := by show _ = _; rw [HU.out, hdr, unL_no t hct]; rfl
          have HNE : Hid (∀ q, k + 1 ≤ q → q < l.length → ¬ ((l.getD q 0).toNat : Int) = 59) := fun q h1 h2 e => by
            have h5 := (cutE_none t).1 hct (t.getD (q - (k + 1)) 0) (getD_mem (by omega))
            rw [HTD.out q h1 h2] at h5
            exact h5 (UInt8.toNat_inj.1 (by show (l.getD q 0).toNat = 59; omega))
          clear hct HTD htl ht hdr hx1 HU HX1 HX2 HRF HRN HB0 HU1
          go_wp2_with fail
          go_loop [8] (fun t8 => ∃ q : Nat, t8 = .int .i64 (q : Int) ∧ k + 1 ≤ q ∧ q ≤ S.size) (fun t8 => S.size - (intOf t8).toNat)
          case atStart => exact ⟨k + 1, by go_num, by omega, by omega⟩
          case round =>
            obtain ⟨q, rfl, hq1, hq2⟩ := hrel
            by_cases hqs : q < S.size
            · have hqi : (q : Int) < (S.size : Int) := by omega
              have hql : q < l.length := by have := HSZ.out; omega
              have hixq := HIX.out q hql
              have hne := HNE.out q hq1 hql
              generalize l.getD q 0 = d at hixq hne
              go_wp2_with fail
              go_round
              case rel => exact ⟨q + 1, by go_num, by omega, by omega⟩
              case measure => simp [intOf]; omega
            · have hqi : ¬ (q : Int) < (S.size : Int) := by omega
              have hqe : ((q : Int) == (S.size : Int)) = true := by rw [beq_iff_eq]; omega
              go_wp2_with fail
              go_ret2
              exact ⟨by rw [HQ.out]; rfl, HB.out⟩
        | some p =>
          obtain ⟨b, r⟩ := p
          obtain ⟨htb, hb59⟩ := cutE_some t b r hct
          have hbl : t.length = b.length + 1 + r.length := by rw [htb]; simp; omega
          obtain ⟨E, hE⟩ : ∃ E, E = k + 1 + b.length := ⟨_, rfl⟩
          have HNE : Hid (∀ q, k + 1 ≤ q → q < E → ¬ ((l.getD q 0).toNat : Int) = 59) := fun q h1 h2 e => by
            have h5 := HTD.out q h1 (by omega)
            rw [htb, List.getD_eq_getElem?_getD, List.getElem?_append_left (by omega), ← List.getD_eq_getElem?_getD] at h5
            have h6 := hb59 (b.getD (q - (k + 1)) 0) (getD_mem (by omega))
            rw [h5] at h6
            exact h6 (UInt8.toNat_inj.1 (by show (l.getD q 0).toNat = 59; omega))
          have HAT : Hid (((l.getD E 0).toNat : Int) = 59) := by
            show _ = _
            have h5 := HTD.out E (by omega) (by omega)
            rw [htb, hE, show k + 1 + b.length - (k + 1) = b.length from by omega, List.getD_eq_getElem?_getD, List.getElem?_append_right (Nat.le_refl _), Nat.sub_self] at h5
            rw [← hE] at h5
            rw [← h5]; rfl
          have hEl : E < l.length := by omega
          have hES : (E : Int) < (S.size : Int) := by have := HSZ.out; omega
          have hk1E : k + 1 ≤ E := by omega
          have hx2 := HX2.out k b r (by rw [ht, htb])
          rw [← hE] at hx2
          have hsl := sliceE_run S (k + 1) E ((k : Int) + 1) (E : Int) (by omega) rfl (by omega) (by have := HSZ.out; omega) _ hx2
          have HDE : Hid (l.drop (E + 1) = r) := by
            show _ = _
            rw [hE, show k + 1 + b.length + 1 = (k + 1) + (b.length + 1) from by omega, ← List.drop_drop, ht, htb]
            simp
          have HR := hid (HRF.out b (by omega))
          have HUN : Hid (R = (match runeR b with
              | none => none
              | some n => (unL r).map (encL n ++ ·)).map (o ++ ·)) := by
            show _ = _
            rw [HU.out, hdr]
            cases hrb : runeR b with
            | none => rw [unL_bad t b r hct hrb]
            | some n => rw [unL_ok t b r n hct hrb]
          clear hct HTD htl ht hdr hx1 hx2 HU HX1 HX2 HRF HRN HB0 HU1 htb hb59 hbl hE
          have hSz1 : ((E : Int) == (S.size : Int)) = false := by rw [beq_eq_false_iff_ne]; omega
          go_wp2_with fail
          go_loop [8] (fun t8 => ∃ q : Nat, t8 = .int .i64 (q : Int) ∧ k + 1 ≤ q ∧ q ≤ E) (fun t8 => E - (intOf t8).toNat)
          case atStart => exact ⟨k + 1, by go_num, by omega, by omega⟩
          case round =>
            obtain ⟨q, rfl, hq1, hq2⟩ := hrel
            by_cases hqs : q < E
            · have hqi : (q : Int) < (S.size : Int) := by omega
              have hql : q < l.length := by omega
              have hixq := HIX.out q hql
              have hne := HNE.out q hq1 hqs
              generalize l.getD q 0 = d at hixq hne
              go_wp2_with fail
              go_round
              case rel => exact ⟨q + 1, by go_num, by omega, by omega⟩
              case measure => simp [intOf]; omega
            · obtain rfl : q = E := by omega
              have hixq := HIX.out q hEl
              have hat := HAT.out
              generalize l.getD q 0 = d at hixq hat
              have hsl4 := strR_len (runeR b)
              cases hrb : runeR b with
              | none =>
                rw [hrb] at HR HUN
                have HQ : Hid (R = none) := by show _ = _; rw [HUN.out]; rfl
                have hem : (asS (strR none)).toList.isEmpty = true := by rw [emp8]; rfl
                generalize asS (strR none) = RS at HR hem
                clear hrb HUN
                go_wp2_with (first | (go_at_call 110; refine (HR.out _).mono ?_; rintro e W1 ⟨rfl, hb⟩; have HB1 := hid (HB.out.trans (hb.mono HB.out.size)); clear hb) | fail)
                go_ret2
                exact ⟨by rw [HQ.out]; rfl, HB1.out⟩
              | some n =>
                rw [hrb] at HR HUN hsl4
                have HQ : Hid (R = (unL (l.drop (q + 1))).map ((o ++ strR (some n)) ++ ·)) := by show _ = _; rw [HUN.out, HDE.out]; exact map_app _ _ _
                have hem : (asS (strR (some n))).toList.isEmpty = false := by rw [emp8]; exact decide_eq_false (enc_ne n)
                generalize strR (some n) = rs at HR HQ hem hsl4
                have e1 := asS_app o rs
                have e2 := catE_size o rs (by omega)
                generalize asS rs = RS at HR hem e1 e2
                clear hrb HUN
                go_wp2_with (first | (go_at_call 110; refine (HR.out _).mono ?_; rintro e W1 ⟨rfl, hb⟩; have HB1 := hid (HB.out.trans (hb.mono HB.out.size)); clear hb) | fail)
                go_roundw
                case rel => exact ⟨q + 1, o ++ rs, by go_num, rfl, by omega, by rw [List.length_append]; omega, HQ, HB1⟩
                case measure => simp [intOf]; omega
      · have hne : ¬ (c.toNat : Int) = 38 := fun h => hc (UInt8.toNat_inj.1 (by show c.toNat = 38; omega))
        have HQ : Hid (R = (unL (l.drop (k + 1))).map ((o ++ [c]) ++ ·)) := by show _ = _; rw [HU.out, hdr, unL_cons c _ hc]; exact map_one o c _
        have e1 := asS_app o [c]
        have e2 := catE_size o [c] (by simp; omega)
        have hle : (k : Int) + 1 ≤ (S.size : Int) := by omega
        have hsl := sliceE_run S k (k + 1) (k : Int) ((k : Int) + 1) rfl (by omega) (by omega) (by omega) _ hx1
        generalize asS [c] = SC at hx1 e1 e2 hsl
        clear hdr hc
        go_wp2_with fail
        go_roundw
        case rel => exact ⟨k + 1, o ++ [c], by go_num, rfl, by omega, by simp; omega, HQ, HB⟩
        case measure => simp [intOf]; omega
    · have hi : ¬ (k : Int) < (S.size : Int) := by omega
      have HQ : Hid (R = some o) := by
        show _ = _
        rw [HU.out, List.drop_of_length_le (by have := HSZ.out; omega), unL_nil]
        simp
      go_wp2_with fail
      go_ret2
      exact ⟨by rw [HQ.out]; rfl, HB.out⟩
theorem refUn_any (l : List UInt8) (hl : l.length ≤ 100000) (w : World) : Calls Tryz.prog 93 #[.string (asS l)] w fun e w' => e = .returned (.tuple #[.string (asS ((unA l).getD [])), .bool (unA l).isSome]) ∧ Below w.heap.size w w' := by
  unfold unA
  cases h : V l with
  | true => exact refUn_V l hl h w
  | false => exact refUn_no l hl h w
end Go.Proofs.YthjibliaofmlhaaGreatDoor
namespace Go.Proofs.YthjibliaofmlhaaGreatDoor
set_option linter.unusedVariables false
set_option linter.unusedSimpArgs false
open Go.RowKit Go.BigFrame

theorem oneE_eq (c d : UInt8) : ((asS [c]).toList == [d]) = decide (c = d) := by
  rw [tl_eq]
  by_cases h : c = d
  · rw [decide_eq_true h, h, decide_eq_true rfl]
  · rw [decide_eq_false h, decide_eq_false (by simpa using h)]
set_option maxHeartbeats 4000000 in
set_option maxRecDepth 100000 in
theorem refEsc_any (l : List UInt8) (hl : l.length ≤ 100000) (w : World) : Calls Tryz.prog 32 #[.string (asS l)] w fun e w' => e = .returned (.string (asS (escL l))) ∧ w' = w := by
  have HE0 : Hid (escL l = [] ++ escL (l.drop 0)) := by show _ = _; simp
  generalize escL l = R at HE0 ⊢
  have HSZ := hid (asS_size l)
  have HX1 : Hid (∀ k, k < l.length → (asS l).extract k (k + 1) = asS [l.getD k 0]) := fun k hk => by
    rw [ext_asS, asS_data, dropE_at l k hk, show k + 1 - k = 1 from by omega]; rfl
  generalize asS l = S at HSZ HX1 ⊢
  have hS : S.size ≤ 100000 := by rw [HSZ.out]; exact hl
  go_enter Tryz.func32, Tryz.ntmps32
  go_wp2_with fail
  go_loop [3, 4] (fun v i => ∃ (k : Nat) (o : List UInt8), i = .int .i64 (k : Int) ∧ v = .string (asS o) ∧ k ≤ S.size ∧ o.length ≤ 6 * k ∧ Hid (R = o ++ escL (l.drop k))) (fun _ i => S.size - (intOf i).toNat)
  case atStart => exact ⟨0, [], rfl, rfl, by omega, by simp, HE0⟩
  case round =>
    obtain ⟨k, o, rfl, rfl, hk, ho, HR⟩ := hrel
    by_cases hlt : k < S.size
    · have hi : (k : Int) < (S.size : Int) := by omega
      have hkl : k < l.length := by have := HSZ.out; omega
      have hdr := dropE_at l k hkl
      have hx1 := HX1.out k hkl
      generalize l.getD k 0 = c at hdr hx1
      have hle : (k : Int) + 1 ≤ (S.size : Int) := by omega
      have hsl := sliceE_run S k (k + 1) (k : Int) ((k : Int) + 1) rfl (by omega) (by omega) (by omega) _ hx1
      have HP : Hid (∀ x, escE c = x → R = (o ++ x) ++ escL (l.drop (k + 1))) := fun x hx => by rw [HR.out, hdr, escL_cons, hx, List.append_assoc]
      have HEB : Hid (escE c = if c = 38 then [38, 97, 109, 112, 59] else if c = 60 then [38, 108, 116, 59] else if c = 62 then [38, 103, 116, 59] else if c = 34 then [38, 113, 117, 111, 116, 59] else if c = 39 then [38, 97, 112, 111, 115, 59] else if c = 13 then [38, 35, 49, 51, 59] else [c]) := rfl
      have h1 := oneE_eq c 38
      have h2 := oneE_eq c 60
      have h3 := oneE_eq c 62
      have h4 := oneE_eq c 34
      have h5 := oneE_eq c 39
      have h6 := oneE_eq c 13
      have e9 := asS_app o [c]
      have e8 := catE_size o [c] (by simp; omega)
      generalize asS [c] = SC at hx1 hsl e9 e8 h1 h2 h3 h4 h5 h6
      clear hdr hx1 HR
      by_cases c1 : c = 38
      · rw [decide_eq_true c1] at h1
        rw [if_pos c1] at HEB
        have HP2 := hid (HP.out _ HEB.out)
        have e1 : asS o ++ ⟨#[38, 97, 109, 112, 59]⟩ = asS (o ++ [38, 97, 109, 112, 59]) := asS_app o [38, 97, 109, 112, 59]
        have e2 : ¬ (9223372036854775807 < (asS o).size + (⟨#[38, 97, 109, 112, 59]⟩ : ByteArray).size) := catE_size o [38, 97, 109, 112, 59] (by simp; omega)
        clear c1 HP HEB e8 e9
        go_wp2_with fail
        go_round
        case rel => exact ⟨k + 1, o ++ [38, 97, 109, 112, 59], by go_num, by first | rfl | rw [e1], by omega, by simp; omega, HP2⟩
        case measure => simp [intOf]; omega
      rw [decide_eq_false c1] at h1
      rw [if_neg c1] at HEB
      clear c1
      by_cases c2 : c = 60
      · rw [decide_eq_true c2] at h2
        rw [if_pos c2] at HEB
        have HP2 := hid (HP.out _ HEB.out)
        have e1 : asS o ++ ⟨#[38, 108, 116, 59]⟩ = asS (o ++ [38, 108, 116, 59]) := asS_app o [38, 108, 116, 59]
        have e2 : ¬ (9223372036854775807 < (asS o).size + (⟨#[38, 108, 116, 59]⟩ : ByteArray).size) := catE_size o [38, 108, 116, 59] (by simp; omega)
        clear c2 HP HEB e8 e9
        go_wp2_with fail
        go_round
        case rel => exact ⟨k + 1, o ++ [38, 108, 116, 59], by go_num, by first | rfl | rw [e1], by omega, by simp; omega, HP2⟩
        case measure => simp [intOf]; omega
      rw [decide_eq_false c2] at h2
      rw [if_neg c2] at HEB
      clear c2
      by_cases c3 : c = 62
      · rw [decide_eq_true c3] at h3
        rw [if_pos c3] at HEB
        have HP2 := hid (HP.out _ HEB.out)
        have e1 : asS o ++ ⟨#[38, 103, 116, 59]⟩ = asS (o ++ [38, 103, 116, 59]) := asS_app o [38, 103, 116, 59]
        have e2 : ¬ (9223372036854775807 < (asS o).size + (⟨#[38, 103, 116, 59]⟩ : ByteArray).size) := catE_size o [38, 103, 116, 59] (by simp; omega)
        clear c3 HP HEB e8 e9
        go_wp2_with fail
        go_round
        case rel => exact ⟨k + 1, o ++ [38, 103, 116, 59], by go_num, by first | rfl | rw [e1], by omega, by simp; omega, HP2⟩
        case measure => simp [intOf]; omega
      rw [decide_eq_false c3] at h3
      rw [if_neg c3] at HEB
      clear c3
      by_cases c4 : c = 34
      · rw [decide_eq_true c4] at h4
        rw [if_pos c4] at HEB
        have HP2 := hid (HP.out _ HEB.out)
        have e1 : asS o ++ ⟨#[38, 113, 117, 111, 116, 59]⟩ = asS (o ++ [38, 113, 117, 111, 116, 59]) := asS_app o [38, 113, 117, 111, 116, 59]
        have e2 : ¬ (9223372036854775807 < (asS o).size + (⟨#[38, 113, 117, 111, 116, 59]⟩ : ByteArray).size) := catE_size o [38, 113, 117, 111, 116, 59] (by simp; omega)
        clear c4 HP HEB e8 e9
        go_wp2_with fail
        go_round
        case rel => exact ⟨k + 1, o ++ [38, 113, 117, 111, 116, 59], by go_num, by first | rfl | rw [e1], by omega, by simp; omega, HP2⟩
        case measure => simp [intOf]; omega
      rw [decide_eq_false c4] at h4
      rw [if_neg c4] at HEB
      clear c4
      by_cases c5 : c = 39
      · rw [decide_eq_true c5] at h5
        rw [if_pos c5] at HEB
        have HP2 := hid (HP.out _ HEB.out)
        have e1 : asS o ++ ⟨#[38, 97, 112, 111, 115, 59]⟩ = asS (o ++ [38, 97, 112, 111, 115, 59]) := asS_app o [38, 97, 112, 111, 115, 59]
        have e2 : ¬ (9223372036854775807 < (asS o).size + (⟨#[38, 97, 112, 111, 115, 59]⟩ : ByteArray).size) := catE_size o [38, 97, 112, 111, 115, 59] (by simp; omega)
        clear c5 HP HEB e8 e9
        go_wp2_with fail
        go_round
        case rel => exact ⟨k + 1, o ++ [38, 97, 112, 111, 115, 59], by go_num, by first | rfl | rw [e1], by omega, by simp; omega, HP2⟩
        case measure => simp [intOf]; omega
      rw [decide_eq_false c5] at h5
      rw [if_neg c5] at HEB
      clear c5
      by_cases c6 : c = 13
      · rw [decide_eq_true c6] at h6
        rw [if_pos c6] at HEB
        have HP2 := hid (HP.out _ HEB.out)
        have e1 : asS o ++ ⟨#[38, 35, 49, 51, 59]⟩ = asS (o ++ [38, 35, 49, 51, 59]) := asS_app o [38, 35, 49, 51, 59]
        have e2 : ¬ (9223372036854775807 < (asS o).size + (⟨#[38, 35, 49, 51, 59]⟩ : ByteArray).size) := catE_size o [38, 35, 49, 51, 59] (by simp; omega)
        clear c6 HP HEB e8 e9
        go_wp2_with fail
        go_round
        case rel => exact ⟨k + 1, o ++ [38, 35, 49, 51, 59], by go_num, by first | rfl | rw [e1], by omega, by simp; omega, HP2⟩
        case measure => simp [intOf]; omega
      rw [decide_eq_false c6] at h6
      rw [if_neg c6] at HEB
      clear c6
      have HP2 := hid (HP.out _ HEB.out)
      clear HP HEB
      go_wp2_with fail
      go_round
      case rel => exact ⟨k + 1, o ++ [c], by go_num, rfl, by omega, by simp; omega, HP2⟩
      case measure => simp [intOf]; omega
    · have hi : ¬ (k : Int) < (S.size : Int) := by omega
      have HQ : Hid (R = o) := by
        show _ = _
        rw [HR.out, List.drop_of_length_le (by have := HSZ.out; omega), escL_nil, List.append_nil]
      go_wp2_with fail
      go_ret
      exact ⟨by rw [HQ.out]; rfl, rfl⟩
theorem src_one (w : World) (a : UInt8) (x : Int) (hx : x = (a.toNat : Int)) : Src Tryz.prog 1 47 (.slice (some ⟨w.heap.size, 0, none⟩) 1 1) 1 (bvs [a]) (w.alloc (.cells #[.int .u8 x] 5)) := by
  subst hx
  exact src_bytes (l := [a]) (BytesAt.of_row (heap_alloc_new w (.cells (bcs [a]) 5))) 1 (fun _ => .inr ⟨_, rfl⟩)
theorem linE_cons (c : UInt8) (r : List UInt8) : linE (c :: r) = if c ≠ 13 then c :: linE r else if r.head? = some 10 then linE r else 10 :: linE r := rfl
theorem head_at (l : List UInt8) (k : Nat) (h : k < l.length) : (l.drop k).head? = some (l.getD k 0) := by rw [dropE_at l k h]; rfl
set_option maxHeartbeats 4000000 in
set_option maxRecDepth 100000 in
theorem refLines_any (l : List UInt8) (hl : l.length ≤ 100000) (w : World) : Calls Tryz.prog 38 #[.string (asS l)] w fun e w' => e = .returned (.string (asS (linE l))) ∧ Below w.heap.size w w' := by
  have HE0 : Hid (linE l = [] ++ linE (l.drop 0)) := by show _ = _; simp
  generalize linE l = R at HE0 ⊢
  have HSZ := hid (asS_size l)
  have HIX : Hid (∀ k, k < l.length → ∀ W, (Instr.index 9 (.string (asS l)) (.int .i64 (k : Int))).run Tryz.prog W = .ok (.int .u8 (l.getD k 0).toNat) W) := fun k hk W => str_ix (asS l) k (by rw [asS_size]; exact hk) W
  generalize asS l = S at HSZ HIX ⊢
  have hS : S.size ≤ 100000 := by rw [HSZ.out]; exact hl
  go_enter Tryz.func38, Tryz.ntmps38
  go_wp2_with fail
  go_loopw [3, 4] (fun v i wr => ∃ (k g n cap : Nat) (o : List UInt8), i = .int .i64 (k : Int) ∧ v = .slice (some ⟨g, 0, none⟩) n cap ∧ k ≤ S.size ∧ n ≤ k ∧ Hid (Own wr w.heap.size g n cap o) ∧ Hid (R = o ++ linE (l.drop k)) ∧ Hid (Below w.heap.size w wr)) (fun _ i _ => S.size - (intOf i).toNat)
  case atStart => exact ⟨0, w.heap.size, 0, 0, [], rfl, rfl, by omega, by omega, Own.zero w _ (Nat.le_refl _), HE0, alloc_below (Below.refl _ w) (Nat.le_refl _) _⟩
  case round =>
    obtain ⟨k, g, n, cap, o, rfl, rfl, hk, hn, HO, HR, HB⟩ := hrel
    by_cases hlt : k < S.size
    · have hi : (k : Int) < (S.size : Int) := by omega
      have hkl : k < l.length := by have := HSZ.out; omega
      have hix := HIX.out k hkl
      have hdr := dropE_at l k hkl
      generalize l.getD k 0 = c at hix hdr
      by_cases hc : c = 13
      · have hc' : (c.toNat : Int) = 13 := by rw [hc]; rfl
        by_cases h2 : k + 1 < S.size
        · have hj : ¬ (S.size : Int) ≤ (k : Int) + 1 := by omega
          have hkl2 : k + 1 < l.length := by have := HSZ.out; omega
          have hix2 : ∀ W, (Instr.index 9 (.string S) (.int .i64 ((k : Int) + 1))).run Tryz.prog W = _ := HIX.out (k + 1) hkl2
          have hhd := head_at l (k + 1) hkl2
          generalize l.getD (k + 1) 0 = d at hix2 hhd
          by_cases hd : d = 10
          · have hd' : (d.toNat : Int) = 10 := by rw [hd]; rfl
            have HQ : Hid (R = o ++ linE (l.drop (k + 1))) := by show _ = _; rw [HR.out, hdr, linE_cons, if_neg (by simp [hc]), if_pos (by rw [hhd, hd])]
            clear hdr hc hd hhd HR
            go_wp2_with fail
            go_roundw
            case rel => exact ⟨k + 1, g, n, cap, o, by go_num, rfl, by omega, by omega, HO, HQ, HB⟩
            case measure => simp [intOf]; omega
          · have hd' : ¬ (d.toNat : Int) = 10 := fun e => hd (UInt8.toNat_inj.1 (by show d.toNat = 10; omega))
            have HQ : Hid (R = (o ++ [10]) ++ linE (l.drop (k + 1))) := by show _ = _; rw [HR.out, hdr, linE_cons, if_neg (by simp [hc]), if_neg (by rw [hhd]; simpa using hd)]; simp
            have HOA := hid (HO.out.alloc (.cells #[.int .u8 10] 5))
            have HBA := hid (alloc_below HB.out HB.out.size (.cells #[.int .u8 10] 5))
            have HS := hid (src_one wr 10 10 rfl)
            clear hdr hc hd hhd HR
            go_wp2_with (first
              | (refine wpList_own rfl _ _ 47 rfl w.heap.size g n cap 1 o [10] _ rfl rfl HOA.out HS.out (by omega) HBA.out.size ?_)
              | fail)
            intro g1 cap1 W1 hown1 hg1 hor1
            have HB1 := hid (HOA.out.grown HBA.out HBA.out.size hg1)
            have HO1 := hid hown1
            clear hown1 hg1 hor1
            go_wp2_with fail
            go_roundw
            case rel => exact ⟨k + 1, g1, n + 1, cap1, o ++ [10], by go_num, rfl, by omega, by omega, HO1, HQ, HB1⟩
            case measure => simp [intOf]; omega
        · have hj : (S.size : Int) ≤ (k : Int) + 1 := by omega
          have hhd : (l.drop (k + 1)).head? ≠ some 10 := by rw [List.drop_of_length_le (by have := HSZ.out; omega)]; simp
          have HQ : Hid (R = (o ++ [10]) ++ linE (l.drop (k + 1))) := by show _ = _; rw [HR.out, hdr, linE_cons, if_neg (by simp [hc]), if_neg hhd]; simp
          have HOA := hid (HO.out.alloc (.cells #[.int .u8 10] 5))
          have HBA := hid (alloc_below HB.out HB.out.size (.cells #[.int .u8 10] 5))
          have HS := hid (src_one wr 10 10 rfl)
          clear hdr hc hhd HR
          go_wp2_with (first
            | (refine wpList_own rfl _ _ 47 rfl w.heap.size g n cap 1 o [10] _ rfl rfl HOA.out HS.out (by omega) HBA.out.size ?_)
            | fail)
          intro g1 cap1 W1 hown1 hg1 hor1
          have HB1 := hid (HOA.out.grown HBA.out HBA.out.size hg1)
          have HO1 := hid hown1
          clear hown1 hg1 hor1
          go_wp2_with fail
          go_roundw
          case rel => exact ⟨k + 1, g1, n + 1, cap1, o ++ [10], by go_num, rfl, by omega, by omega, HO1, HQ, HB1⟩
          case measure => simp [intOf]; omega
      · have hc' : ¬ (c.toNat : Int) = 13 := fun e => hc (UInt8.toNat_inj.1 (by show c.toNat = 13; omega))
        have HQ : Hid (R = (o ++ [c]) ++ linE (l.drop (k + 1))) := by show _ = _; rw [HR.out, hdr, linE_cons, if_pos hc]; simp
        have HOA := hid (HO.out.alloc (.cells #[.int .u8 (c.toNat : Int)] 5))
        have HBA := hid (alloc_below HB.out HB.out.size (.cells #[.int .u8 (c.toNat : Int)] 5))
        have HS := hid (src_one wr c (c.toNat : Int) rfl)
        clear hdr hc HR
        go_wp2_with (first
          | (refine wpList_own rfl _ _ 47 rfl w.heap.size g n cap 1 o [c] _ rfl rfl HOA.out HS.out (by omega) HBA.out.size ?_)
          | fail)
        intro g1 cap1 W1 hown1 hg1 hor1
        have HB1 := hid (HOA.out.grown HBA.out HBA.out.size hg1)
        have HO1 := hid hown1
        clear hown1 hg1 hor1
        go_wp2_with fail
        go_roundw
        case rel => exact ⟨k + 1, g1, n + 1, cap1, o ++ [c], by go_num, rfl, by omega, by omega, HO1, HQ, HB1⟩
        case measure => simp [intOf]; omega
    · have hi : ¬ (k : Int) < (S.size : Int) := by omega
      have HQ : Hid (R = o) := by
        show _ = _
        rw [HR.out, List.drop_of_length_le (by have := HSZ.out; omega)]
        simp [linE]
      have hcv : (convert 47 9 (.slice (some ⟨g, 0, none⟩) n cap)).run Tryz.prog wr = .ok (.string (asS o)) wr := str_row HO.out.bytes HO.out.len
      go_wp2_with fail
      go_ret
      exact ⟨by rw [HQ.out]; rfl, HB.out⟩
/-- The first k bytes with blanks. -/
def blTo (m : List UInt8) (k : Nat) : List UInt8 := blankE (m.take k) ++ m.drop k
theorem blTo_len (m : List UInt8) (k : Nat) : (blTo m k).length = m.length := by
  unfold blTo
  rw [List.length_append, blank_len, List.length_take, List.length_drop]; omega
theorem blTo_zero (m : List UInt8) : blTo m 0 = m := by simp [blTo, blankE]
theorem blTo_all (m : List UInt8) (k : Nat) (h : m.length ≤ k) : blTo m k = blankE m := by
  unfold blTo
  rw [List.take_of_length_le h, List.drop_of_length_le h, List.append_nil]
theorem blTo_at (m : List UInt8) (k : Nat) (h : k < m.length) : (blTo m k).getD k 0 = m.getD k 0 := by
  have hl : (blankE (m.take k)).length = k := by rw [blank_len, List.length_take]; omega
  unfold blTo
  rw [List.getD_eq_getElem?_getD, List.getElem?_append_right (by omega), hl, Nat.sub_self, ← List.getD_eq_getElem?_getD, dropE_at m k h]
  rfl
theorem blTo_step (m : List UInt8) (k : Nat) (h : k < m.length) (x : UInt8) (hx : (if m.getD k 0 = 9 ∨ m.getD k 0 = 10 then 32 else m.getD k 0) = x) : blTo m (k + 1) = (blTo m k).set k x := by
  have hl : (blankE (m.take k)).length = k := by rw [blank_len, List.length_take]; omega
  unfold blTo
  rw [take_snoc m k h, show blankE (m.take k ++ [m.getD k 0]) = blankE (m.take k) ++ [x] from by unfold blankE; rw [List.map_append]; simp only [List.map_cons, List.map_nil]; rw [hx], dropE_at m k h, List.set_append_right _ _ (by omega), hl, Nat.sub_self]
  simp
theorem blTo_skip (m : List UInt8) (k : Nat) (h : k < m.length) (hx : ¬ (m.getD k 0 = 9 ∨ m.getD k 0 = 10)) : blTo m (k + 1) = blTo m k := by
  have hl : (blankE (m.take k)).length = k := by rw [blank_len, List.length_take]; omega
  unfold blTo
  rw [take_snoc m k h, show blankE (m.take k ++ [m.getD k 0]) = blankE (m.take k) ++ [m.getD k 0] from by unfold blankE; rw [List.map_append]; simp only [List.map_cons, List.map_nil]; rw [if_neg hx], dropE_at m k h]
  simp
set_option maxHeartbeats 4000000 in
set_option maxRecDepth 100000 in
theorem refValue_any (l : List UInt8) (hl : l.length ≤ 100000) (w : World) : Calls Tryz.prog 92 #[.string (asS l)] w fun e w' => e = .returned (.tuple #[.string (asS ((unA (blankE (linE l))).getD [])), .bool (unA (blankE (linE l))).isSome]) ∧ Below w.heap.size w w' := by
  have HL := hid (fun W => refLines_any l hl W)
  have hll := linE_len l
  generalize linE l = m at HL hll ⊢
  have HU := hid (fun W => refUn_any (blankE m) (by rw [blank_len]; omega) W)
  generalize (unA (blankE m)).isSome = E at HU ⊢
  generalize asS ((unA (blankE m)).getD []) = R at HU ⊢
  have HN := hid (fun W => rowB_new W (asS m))
  rw [asS_data] at HN
  have HSZ : Hid ((asS m).size = m.length) := asS_size m
  generalize asS l = S at HL ⊢
  generalize asS m = M at HL HN HSZ
  have hM : M.size ≤ 100000 := by rw [HSZ.out]; omega
  clear hll
  go_enter Tryz.func92, Tryz.ntmps92
  go_wp2_with fail
  refine (HL.out _).mono ?_
  rintro e W1 ⟨rfl, hb1⟩
  obtain ⟨cap, W2, hconv, hrow, hb2⟩ := HN.out W1
  have HB := hid hb1
  have HB1 := hid (hb1.trans (hb2.mono hb1.size))
  have HR0 : Hid (RowB W1.heap.size (blTo m 0) W2) := by rw [blTo_zero]; exact hrow
  have hB : w.heap.size ≤ W1.heap.size := hb1.size
  clear hb1 hb2 hrow
  go_wp2_with fail
  go_loopw [5] (fun i wr => ∃ k : Nat, k ≤ M.size ∧ i = .int .i64 (k : Int) ∧ Hid (RowB W1.heap.size (blTo m k) wr) ∧ Hid (Below w.heap.size w wr)) (fun i _ => M.size - (intOf i).toNat)
  case atStart => exact ⟨0, Nat.zero_le _, rfl, HR0, HB1⟩
  case round =>
    obtain ⟨k, hk, rfl, HR2, HB2⟩ := hrel
    by_cases hlt : k < M.size
    · have hkl : Hid (k < m.length) := by show _ < _; have := HSZ.out; omega
      have hi : (k : Int) < (M.size : Int) := by omega
      obtain ⟨c, hc⟩ : ∃ c : UInt8, Hid (c = m.getD k 0) := ⟨_, rfl⟩
      have hcell : wr.cell? ⟨W1.heap.size, k, none⟩ = some (.int .u8 c.toNat) := by
        rw [HR2.out.1 k (by rw [blTo_len]; exact hkl.out), blTo_at _ _ hkl.out, hc.out]
      have hfz : wr.frozen? ⟨W1.heap.size, k, none⟩ = false := HR2.out.2 k (by rw [blTo_len]; exact hkl.out)
      by_cases h9 : c = 9
      · have h9' : (c.toNat : Int) = 9 := by rw [h9]; rfl
        have HS := hid (blTo_step m k hkl.out 32 (by rw [← hc.out, if_pos (.inl h9)]))
        clear h9
        go_wp2_with fail
        go_roundw
        case rel =>
          refine ⟨k + 1, by omega, by go_num, ?_, HB2.out.setCell hB _⟩
          show RowB _ _ _
          rw [HS.out]
          exact rowB_set HR2.out k (by rw [blTo_len]; exact hkl.out) 32
        case measure => simp [intOf]; omega
      · have h9' : ¬ (c.toNat : Int) = 9 := fun e => h9 (UInt8.toNat_inj.1 (by show c.toNat = 9; omega))
        by_cases h10 : c = 10
        · have h10' : (c.toNat : Int) = 10 := by rw [h10]; rfl
          have HS := hid (blTo_step m k hkl.out 32 (by rw [← hc.out, if_pos (.inr h10)]))
          clear h9 h10
          go_wp2_with fail
          go_roundw
          case rel =>
            refine ⟨k + 1, by omega, by go_num, ?_, HB2.out.setCell hB _⟩
            show RowB _ _ _
            rw [HS.out]
            exact rowB_set HR2.out k (by rw [blTo_len]; exact hkl.out) 32
          case measure => simp [intOf]; omega
        · have h10' : ((c.toNat : Int) == 10) = false := by rw [beq_eq_false_iff_ne]; exact fun e => h10 (UInt8.toNat_inj.1 (by show c.toNat = 10; omega))
          have HS := hid (blTo_skip m k hkl.out (by rw [← hc.out]; exact fun h => h.elim h9 h10))
          clear h9 h10
          go_wp2_with fail
          go_roundw
          case rel => exact ⟨k + 1, by omega, by go_num, by rw [HS.out]; exact HR2, HB2⟩
          case measure => simp [intOf]; omega
    · have hi : ¬ (k : Int) < (M.size : Int) := by omega
      have hback : (convert 47 9 (.slice (some ⟨W1.heap.size, 0, none⟩) M.size cap)).run Tryz.prog wr = .ok (.string (asS (blankE m))) wr := by
        have h2 := HR2.out
        rw [blTo_all m k (by have := HSZ.out; omega)] at h2
        exact str_row (fun h0 => ⟨W1.heap.size, 0, rfl, block_lt_of_cell (h2.1 0 h0), fun j hj => by rw [Nat.zero_add]; exact h2.1 j hj⟩) (by rw [blank_len]; exact HSZ.out.symm)
      go_wp2_with (first | (go_at_call 93; refine (HU.out _).mono ?_; rintro e W3 ⟨rfl, hb3⟩; have HB3 := hid (HB2.out.trans (hb3.mono HB2.out.size)); clear hb3) | fail)
      go_ret2
      exact ⟨rfl, HB3.out⟩
end Go.Proofs.YthjibliaofmlhaaGreatDoor
