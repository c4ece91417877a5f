
/- A rune's bytes: what the reference's utf8 and Utf8 do. -/
import Derived.Test.YtlgkbdebpnbndaaGreatDoorTxBase
import Derived.Test.YtlgkbdebpnbndaaGreatDoorXmBook
namespace Go.Proofs.YtlgkbdebpnbndaaGreatDoor
set_option linter.unusedVariables false
set_option linter.unusedSimpArgs false
open Go.RowKit Go.BigFrame

theorem conv_lit (w : World) (l : List UInt8) (n : Nat) (hn : n = l.length) : (convert 47 9 (.slice (some ⟨w.heap.size, 0, none⟩) n n)).run Tryz.prog (w.alloc (.cells (bcs l) 5)) = .ok (.string (asS l)) (w.alloc (.cells (bcs l) 5)) :=
  str_of n (row_cells (heap_alloc_new w (.cells (bcs l) 5))) n hn
set_option maxRecDepth 100000 in
theorem utf8r_1 (v : Nat) (h : (v : Int) < 128) (w : World) : Calls Tryz.prog 139 #[.int .i64 (v : Int)] w fun e w' => e = .returned (.string (asS (encL v))) ∧ Below w.heap.size w w' := by
  have hcv := conv_lit w (encL v) 1 (by rw [enc1 (v := v) (by omega)]; rfl)
  rw [show bcs (encL v) = #[Value.int .u8 ((v : Int))] from by
    rw [enc1 (v := v) (by omega)]
    show #[Value.int .u8 ((bt (v)).toNat : Int)] = _
    rw [bt_nat (by omega)]
    all_goals simp] at hcv
  generalize asS (encL v) = R at hcv ⊢
  skip
  go_enter Tryz.func139, Tryz.ntmps139
  go_wp2_with fail
  go_ret
  exact ⟨rfl, alloc_below (Below.refl _ _) (Nat.le_refl _) _⟩
set_option maxRecDepth 100000 in
theorem utf8r_2 (v : Nat) (h : ¬ (v : Int) < 128) (h2 : (v : Int) < 2048) (w : World) : Calls Tryz.prog 139 #[.int .i64 (v : Int)] w fun e w' => e = .returned (.string (asS (encL v))) ∧ Below w.heap.size w w' := by
  have hcv := conv_lit w (encL v) 2 (by rw [enc2 (v := v) (by omega) (by omega)]; rfl)
  rw [show bcs (encL v) = #[Value.int .u8 (192 + (v : Int) / 64), Value.int .u8 (128 + (v : Int) % 64)] from by
    rw [enc2 (v := v) (by omega) (by omega)]
    show #[Value.int .u8 ((bt (192 + v / 64)).toNat : Int), Value.int .u8 ((bt (128 + v % 64)).toNat : Int)] = _
    rw [bt_nat (by omega), bt_nat (by omega)]
    all_goals simp] at hcv
  generalize asS (encL v) = R at hcv ⊢
  skip
  go_enter Tryz.func139, Tryz.ntmps139
  go_wp2_with fail
  go_ret
  exact ⟨rfl, alloc_below (Below.refl _ _) (Nat.le_refl _) _⟩
set_option maxRecDepth 100000 in
theorem utf8r_3 (v : Nat) (h : ¬ (v : Int) < 128) (h2 : ¬ (v : Int) < 2048) (h3 : (v : Int) < 65536) (hs : (v : Int) < 55296 ∨ 57344 ≤ (v : Int)) (w : World) : Calls Tryz.prog 139 #[.int .i64 (v : Int)] w fun e w' => e = .returned (.string (asS (encL v))) ∧ Below w.heap.size w w' := by
  have hcv := conv_lit w (encL v) 3 (by rw [enc3 (v := v) (by omega)]; rfl)
  rw [show bcs (encL v) = #[Value.int .u8 (224 + (v : Int) / 4096), Value.int .u8 (128 + (v : Int) / 64 % 64), Value.int .u8 (128 + (v : Int) % 64)] from by
    rw [enc3 (v := v) (by omega)]
    show #[Value.int .u8 ((bt (224 + v / 4096)).toNat : Int), Value.int .u8 ((bt (128 + v / 64 % 64)).toNat : Int), Value.int .u8 ((bt (128 + v % 64)).toNat : Int)] = _
    rw [bt_nat (by omega), bt_nat (by omega), bt_nat (by omega)]
    all_goals simp] at hcv
  generalize asS (encL v) = R at hcv ⊢
  clear hs
  go_enter Tryz.func139, Tryz.ntmps139
  go_wp2_with fail
  go_ret
  exact ⟨rfl, alloc_below (Below.refl _ _) (Nat.le_refl _) _⟩
set_option maxRecDepth 100000 in
theorem utf8r_4 (v : Nat) (h : ¬ (v : Int) < 128) (h2 : ¬ (v : Int) < 2048) (h3 : ¬ (v : Int) < 65536) (h4 : (v : Int) ≤ 1114111) (w : World) : Calls Tryz.prog 139 #[.int .i64 (v : Int)] w fun e w' => e = .returned (.string (asS (encL v))) ∧ Below w.heap.size w w' := by
  have hcv := conv_lit w (encL v) 4 (by rw [enc4 (v := v) (by omega) (by omega)]; rfl)
  rw [show bcs (encL v) = #[Value.int .u8 (240 + (v : Int) / 262144), Value.int .u8 (128 + (v : Int) / 4096 % 64), Value.int .u8 (128 + (v : Int) / 64 % 64), Value.int .u8 (128 + (v : Int) % 64)] from by
    rw [enc4 (v := v) (by omega) (by omega)]
    show #[Value.int .u8 ((bt (240 + v / 262144)).toNat : Int), Value.int .u8 ((bt (128 + v / 4096 % 64)).toNat : Int), Value.int .u8 ((bt (128 + v / 64 % 64)).toNat : Int), Value.int .u8 ((bt (128 + v % 64)).toNat : Int)] = _
    rw [bt_nat (by omega), bt_nat (by omega), bt_nat (by omega), bt_nat (by omega)]
    all_goals simp] at hcv
  generalize asS (encL v) = R at hcv ⊢
  skip
  go_enter Tryz.func139, Tryz.ntmps139
  go_wp2_with fail
  go_ret
  exact ⟨rfl, alloc_below (Below.refl _ _) (Nat.le_refl _) _⟩
theorem utf8r_any (v : Nat) (hv : validR v = true) (w : World) : Calls Tryz.prog 139 #[.int .i64 (v : Int)] w fun e w' => e = .returned (.string (asS (encL v))) ∧ Below w.heap.size w w' := by
  have hv' := validR_iff.1 hv
  by_cases h1 : (v : Int) < 128
  · exact utf8r_1 v h1 w
  · by_cases h2 : (v : Int) < 2048
    · exact utf8r_2 v h1 h2 w
    · by_cases h3 : (v : Int) < 65536
      · exact utf8r_3 v h1 h2 h3 (by omega) w
      · exact utf8r_4 v h1 h2 h3 (by omega) w
/-- Utf8: a rune's bytes, and whether it is one. -/
def utfS (v : Nat) : List UInt8 := if validR v then encL v else []
set_option maxRecDepth 100000 in
theorem Utf8_any (v : Nat) (hl : (v : Int) < 4294967296) (w : World) : Calls Tryz.prog 122 #[.int .i64 (v : Int)] w fun e w' => e = .returned (.tuple #[.string (asS (utfS v)), .bool (validR v)]) ∧ Below w.heap.size w w' := by
  have h0 : ¬ (v : Int) < 0 := by omega
  unfold utfS
  cases hv : validR v with
  | true =>
    have hv' := validR_iff.1 hv
    have HU := hid (fun W => utf8r_any v hv W)
    simp only [if_true]
    generalize asS (encL v) = R at HU ⊢
    clear hv
    have h1 : ¬ 1114111 < (v : Int) := by omega
    by_cases h2 : 55296 ≤ (v : Int)
    · have h3 : ¬ (v : Int) < 57344 := by omega
      clear hv'
      go_enter Tryz.func122, Tryz.ntmps122
      go_wp2_with (first | (go_at_call 139; refine (HU.out _).mono ?_; rintro e W1 ⟨rfl, hb⟩; have HB := hid hb; clear hb) | fail)
      go_ret2
      exact ⟨rfl, HB.out⟩
    · clear hv'
      go_enter Tryz.func122, Tryz.ntmps122
      go_wp2_with (first | (go_at_call 139; refine (HU.out _).mono ?_; rintro e W1 ⟨rfl, hb⟩; have HB := hid hb; clear hb) | fail)
      go_ret2
      exact ⟨rfl, HB.out⟩
  | false =>
    have hv' : ¬ (v < 55296 ∨ (57344 ≤ v ∧ v ≤ 1114111)) := fun h => by rw [validR_iff.2 h] at hv; cases hv
    simp only [Bool.false_eq_true, if_false]
    clear hv
    by_cases h1 : 1114111 < (v : Int)
    · clear hv'
      go_enter Tryz.func122, Tryz.ntmps122
      go_wp2_with fail
      go_ret2
      exact ⟨rfl, Below.refl _ _⟩
    · have h2 : 55296 ≤ (v : Int) := by omega
      have h3 : (v : Int) < 57344 := by omega
      clear hv'
      go_enter Tryz.func122, Tryz.ntmps122
      go_wp2_with fail
      go_ret2
      exact ⟨rfl, Below.refl _ _⟩
set_option maxRecDepth 100000 in
theorem Utf8_neg (w : World) : Calls Tryz.prog 122 #[.int .i64 (-1)] w fun e w' => e = .returned (.tuple #[.string ⟨#[]⟩, .bool false]) ∧ Below w.heap.size w w' := by
  go_enter Tryz.func122, Tryz.ntmps122
  go_wp2_with fail
  go_ret2
  exact ⟨rfl, Below.refl _ _⟩
end Go.Proofs.YtlgkbdebpnbndaaGreatDoor
