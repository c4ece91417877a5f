import Derived.Test.YtgoiafndapemjaaGreatDoorQ12
import Derived.Test.YtgoiafndapemjaaGreatDoorQ05
import Derived.Lib.IfaceEq
set_option linter.unusedVariables false
set_option linter.unusedSimpArgs false
set_option maxHeartbeats 1000000
namespace Go.Proofs.YtgoiafndapemjaaGreatDoor
open Go.RowKit Go.BigFrame
structure TabE (w : World) : Prop where
 max : ∃ m, w.cell? ⟨2, 0, none⟩ = some (.int .i64 m)
 syn : ∃ te pe, w.cell? ⟨7, 0, none⟩ = some (.iface te pe)
theorem TabE.below {w w' : World} (h : TabE w) (hb : Below w.heap.size w w') : TabE w' := by
 obtain ⟨m, hm⟩ := h.max
 obtain ⟨te, pe, hs⟩ := h.syn
 have l1 := block_lt_of_cell hm
 have l2 := block_lt_of_cell hs
 exact ⟨⟨m, by rw [hb.cell (p := ⟨2, 0, none⟩) l1]; exact hm⟩, ⟨te, pe, by rw [hb.cell (p := ⟨7, 0, none⟩) l2]; exact hs⟩⟩
theorem utf_valid (v : Nat) (hv : validR v = true) : Utf8.valid (v : Int) = true := by
 have := validR_iff.1 hv
 unfold Utf8.valid
 simp only [Bool.or_eq_true, Bool.and_eq_true, decide_eq_true_eq]
 omega
theorem utf_enc (v : Nat) (hv : validR v = true) : Utf8.encode (v : Int) = asS (encL v) := by
 have hv' := validR_iff.1 hv
 unfold Utf8.encode
 simp only [utf_valid v hv, if_true, Int.toNat_natCast]
 by_cases h1 : v < 128
 ·rw [if_pos h1, enc1 h1]; rfl
 ·by_cases h2 : v ≤ 2047
  ·rw [if_neg h1, if_pos (by omega), enc2 (by omega) h2]; rfl
  ·by_cases h3 : v ≤ 65535
   ·rw [if_neg h1, if_neg (by omega), if_pos (by omega), enc3 (by omega)]; rfl
   ·rw [if_neg h1, if_neg (by omega), if_neg (by omega), enc4 (by omega) (by omega)]; rfl
theorem conv_rune (v : Nat) (hv : validR v = true) (W : World) : (convert 21 9 (.int .i32 (v : Int))).run Tryz.prog W = .ok (.string (asS (encL v))) W := by
 rw [← utf_enc v hv]
 simp [convert, Sem.run_bind, run_underlying Tryz.underlying21, run_underlying Tryz.underlying9, Conv.intToString]
theorem valid_lib (v : Nat) : Lib.validRune (v : Int) = validR v := by
 unfold Lib.validRune validR
 rw [Bool.eq_iff_iff, decide_eq_true_eq, decide_eq_true_eq]
 omega
theorem xml_one (v : Nat) (hv : validR v = true) (w : World) : Calls Tryz.prog 65 #[.string (asS (encL v))] w fun e w' => e = .returned (.int .i64 (xmlE (xmlN v))) ∧ Below w.heap.size w w' := by
 have hV : vld (asS (encL v)) = true := by
  rw [vld_V]
  have := V_enc v hv []
  rw [List.append_nil] at this
  exact this
 have c := xml_ok (asS (encL v)) w hV
 rw [show xmlB (asS (encL v)) = xmlN v from by unfold xmlB; rw [show asS (encL v) = ⟨(encL v).toArray⟩ from rfl, runes_one v hv]; simp] at c
 exact c
theorem numE_lt {b : Nat} {d : List UInt8} (h : okD b d = true) : numE b d < b ^ d.length := by
 have aux : ∀ n, n ≤ d.length → ∃ acc, AtE b d n acc := fun n => by
  induction n with
  | zero => exact fun _ => ⟨0, AtE.zero b d⟩
  | succ n ih =>
   intro hn
   obtain ⟨acc, ha⟩ := ih (by omega)
   refine ⟨_, ha.step (by omega) ?_⟩
   have := List.all_eq_true.1 h (d.getD n 0) (by rw [List.getD_eq_getElem?_getD, List.getElem?_eq_getElem (by omega)]; exact List.getElem_mem (by omega))
   simpa using this
 obtain ⟨acc, ha⟩ := aux d.length (Nat.le_refl _)
 have h1 := ha.val
 have h2 := ha.lt
 rw [List.take_length] at h1
 rw [h1]; exact h2
set_option maxRecDepth 100000 in
theorem puE16_nil (w : World) : Calls Tryz.prog 235 #[.string (asS []), .int .i64 16, .int .i64 31] w fun e w' => e = .returned (.tuple #[.int .u64 0, .iface 222 (.int .i64 2)]) ∧ Below w.heap.size w w' := by
 have hemp : (asS []).toList.isEmpty = true := by rw [emp8]; rfl
 generalize asS [] = D at hemp ⊢
 go_enter Tryz.func235, Tryz.ntmps235
 go_wp2_with fail
 go_ret2
 exact ⟨rfl, Below.refl _ _⟩
theorem puE16_err (d : List UInt8) (h8 : d.length ≤ 6) (h : d = [] ∨ okD 16 d = false) (w : World) : Calls Tryz.prog 235 #[.string (asS d), .int .i64 16, .int .i64 31] w fun e w' => e = .returned (.tuple #[.int .u64 0, .iface 222 (.int .i64 2)]) ∧ Below w.heap.size w w' := by
 by_cases hd : d = []
 ·subst hd; exact puE16_nil w
 ·have hh : okD 16 d = false := by
   rcases h with h | h
   ·exact absurd h hd
   ·exact h
  have := puE16_in d hd h8 w
  rw [hh] at this
  exact this
theorem pubE16_ok (d : List UInt8) (h8 : d.length ≤ 6) (hd : d ≠ []) (hh : okD 16 d = true) (w : World) : Calls Tryz.prog 234 #[.string (asS d), .int .i64 16, .int .i64 31] w fun e w' => e = .returned (.tuple #[.int .u64 (numE 16 d : Int), .nilIface]) ∧ Below w.heap.size w w' := by
 have c := puE16_in d hd h8 w
 rw [hh] at c
 simp only [if_true] at c
 have HC := hid c
 clear c
 generalize asS d = D at HC ⊢
 generalize numE 16 d = v at HC ⊢
 go_enter Tryz.func234, Tryz.ntmps234
 go_wp2_with fail
 refine HC.out.mono ?_
 rintro e W1 ⟨rfl, hb⟩
 have HB := hid hb
 clear hb
 go_wp2_with fail
 go_ret2
 exact ⟨rfl, HB.out⟩
theorem toErrE16_any (s : ByteArray) (hs : s.size ≤ 281474976710656) (w : World) (hT : TabE w) : Calls Tryz.prog 236 #[.string ⟨#[80, 97, 114, 115, 101, 85, 105, 110, 116]⟩, .string s, .int .i64 16, .int .i64 31, .iface 222 (.int .i64 2)] w fun e w' => ∃ t p, e = .returned (.iface t p) ∧ Below w.heap.size w w' := by
 obtain ⟨te, pe, hv⟩ := hT.syn
 have HC := hid (Tryz.strconv_syntaxError ⟨#[80, 97, 114, 115, 101, 85, 105, 110, 116]⟩ s _ w hs hv (.inr ⟨te, pe, rfl⟩))
 have heq : ∀ W, (binOp .eql 133 (.iface 222 (.int .i64 2)) (.iface 222 (.int .i64 2))).run Tryz.prog W = .ok (.bool true) W := fun W => Lib.run_eql_iface_int W 2 2 Tryz.underlying133 (by kernel_rfl) Tryz.underlying222
 clear hT hv hs
 go_enter Tryz.func236, Tryz.ntmps236
 go_wp2_with fail
 refine HC.out.mono ?_
 rintro e W1 ⟨N, rfl, _, _, hb⟩
 have HB := hid hb
 clear hb
 go_wp2_with fail
 go_ret
 exact ⟨_, _, rfl, HB.out⟩
theorem pubE16_err (d : List UInt8) (h8 : d.length ≤ 6) (h : d = [] ∨ okD 16 d = false) (w : World) (hT : TabE w) : Calls Tryz.prog 234 #[.string (asS d), .int .i64 16, .int .i64 31] w fun e w' => ∃ t p, e = .returned (.tuple #[.int .u64 0, .iface t p]) ∧ Below w.heap.size w w' := by
 have HC := hid (puE16_err d h8 h w)
 have HT := hid hT
 have hs : (asS d).size ≤ 281474976710656 := by rw [asS_size]; omega
 have HTE := hid (fun W hW => toErrE16_any (asS d) hs W hW)
 clear hT hs
 generalize asS d = D at HC HTE ⊢
 go_enter Tryz.func234, Tryz.ntmps234
 go_wp2_with fail
 refine HC.out.mono ?_
 rintro e W1 ⟨rfl, hb⟩
 have HB := hid hb
 clear hb
 go_wp2_with fail
 refine (HTE.out _ (HT.out.below HB.out)).mono ?_
 rintro e W2 ⟨t, p, rfl, hb2⟩
 have HB2 := hid (HB.out.trans (hb2.mono HB.out.size))
 clear hb2
 go_wp2_with fail
 go_ret2
 exact ⟨t, p, rfl, HB2.out⟩
theorem numbered16_long (d : List UInt8) (hl : d.length ≤ 1000000) (h : ¬ d.length ≤ 6) (w : World) : Calls Tryz.prog 231 #[.string (asS d), .int .i64 16, .int .i64 6] w fun e w' => e = .returned (.tuple #[.int .i32 0, .bool false]) ∧ Below w.heap.size w w' := by
 have hs := asS_size d
 generalize asS d = D at hs ⊢
 have h1 : (6 : Int) < (D.size : Int) := by omega
 have h2 : (D.size : Int) ≤ 1000000 := by omega
 clear hs h hl
 go_enter Tryz.func231, Tryz.ntmps231
 go_wp2_with fail
 go_ret2
 exact ⟨rfl, Below.refl _ _⟩
theorem numbered16_err (d : List UInt8) (h8 : d.length ≤ 6) (h : d = [] ∨ okD 16 d = false) (w : World) (hT : TabE w) : Calls Tryz.prog 231 #[.string (asS d), .int .i64 16, .int .i64 6] w fun e w' => e = .returned (.tuple #[.int .i32 0, .bool false]) ∧ Below w.heap.size w w' := by
 have HC := hid (pubE16_err d h8 h w hT)
 have hs := asS_size d
 generalize asS d = D at hs HC ⊢
 have h1 : ¬ (6 : Int) < (D.size : Int) := by omega
 clear hs h h8 hT
 go_enter Tryz.func231, Tryz.ntmps231
 go_wp2_with fail
 refine HC.out.mono ?_
 rintro e W1 ⟨t, p, rfl, hb⟩
 have HB := hid hb
 clear hb
 go_wp2_with fail
 go_ret2
 exact ⟨rfl, HB.out⟩
def runeV (o : Option Nat) : Value := .tuple #[.int .i32 ((o.getD 0 : Nat) : Int), .bool o.isSome]
theorem numbered16_ok (d : List UInt8) (h8 : d.length ≤ 6) (hd : d ≠ []) (hh : okD 16 d = true) (w : World) : Calls Tryz.prog 231 #[.string (asS d), .int .i64 16, .int .i64 6] w fun e w' => e = .returned (runeV (runeN (numE 16 d))) ∧ Below w.heap.size w w' := by
 have HC := hid (pubE16_ok d h8 hd hh w)
 have hs := asS_size d
 have hlt := numE_lt hh
 have hle : 16 ^ d.length ≤ 16 ^ 6 := Nat.pow_le_pow_right (by decide) h8
 rw [show (16 : Nat) ^ 6 = 16777216 from by decide] at hle
 generalize asS d = D at hs HC ⊢
 generalize numE 16 d = v at HC hlt ⊢
 have h1 : ¬ (6 : Int) < (D.size : Int) := by omega
 have hv : (v : Int) < 16777216 := by omega
 have HVL := hid (fun W => Tryz.utf8_ValidRune (v : Int) W)
 have HLB := hid (valid_lib v)
 rw [HLB.out] at HVL
 clear hs h8 hd hh hlt hle HLB
 cases hvr : validR v with
 | false =>
  have HR : Hid (runeN v = none) := by show _ = _; unfold runeN; rw [hvr]; rfl
  rw [hvr] at HVL
  clear hvr
  rw [HR.out]
  go_enter Tryz.func231, Tryz.ntmps231
  go_wp2_with fail
  refine HC.out.mono ?_
  rintro e W1 ⟨rfl, hb⟩
  have HB := hid hb
  clear hb
  go_wp2_with (first | (go_at_call 228; refine (HVL.out _).mono ?_; rintro e W ⟨rfl, rfl⟩) | fail)
  go_ret2
  exact ⟨rfl, HB.out⟩
 | true =>
  have hcv := conv_rune v hvr
  have HX := hid (fun W => xml_one v hvr W)
  rw [hvr] at HVL
  cases hxn : xmlN v with
  | false =>
   have HR : Hid (runeN v = none) := by show _ = _; unfold runeN; rw [hvr, hxn]; rfl
   rw [hxn] at HX
   have hx1 : xmlE false = 1 := rfl
   rw [hx1] at HX
   clear hvr hxn hx1
   rw [HR.out]
   generalize asS (encL v) = X at hcv HX
   go_enter Tryz.func231, Tryz.ntmps231
   go_wp2_with fail
   refine HC.out.mono ?_
   rintro e W1 ⟨rfl, hb⟩
   have HB := hid hb
   clear hb
   go_wp2_with (first | (go_at_call 228; refine (HVL.out _).mono ?_; rintro e W ⟨rfl, rfl⟩) | (go_at_call 65; refine (HX.out _).mono ?_; rintro e W2 ⟨rfl, hb2⟩; have HB2 := hid (HB.out.trans (hb2.mono HB.out.size)); clear hb2) | fail)
   go_ret2
   exact ⟨rfl, HB2.out⟩
  | true =>
   have HR : Hid (runeN v = some v) := by show _ = _; unfold runeN; rw [hvr, hxn]; rfl
   rw [hxn] at HX
   have hx1 : xmlE true = 0 := rfl
   rw [hx1] at HX
   clear hvr hxn hx1
   rw [HR.out]
   generalize asS (encL v) = X at hcv HX
   go_enter Tryz.func231, Tryz.ntmps231
   go_wp2_with fail
   refine HC.out.mono ?_
   rintro e W1 ⟨rfl, hb⟩
   have HB := hid hb
   clear hb
   go_wp2_with (first | (go_at_call 228; refine (HVL.out _).mono ?_; rintro e W ⟨rfl, rfl⟩) | (go_at_call 65; refine (HX.out _).mono ?_; rintro e W2 ⟨rfl, hb2⟩; have HB2 := hid (HB.out.trans (hb2.mono HB.out.size)); clear hb2) | fail)
   go_ret2
   exact ⟨rfl, HB2.out⟩
theorem numbered16_any (d : List UInt8) (hl : d.length ≤ 1000000) (w : World) (hT : TabE w) : Calls Tryz.prog 231 #[.string (asS d), .int .i64 16, .int .i64 6] w fun e w' => e = .returned (runeV (numR 16 6 d)) ∧ Below w.heap.size w w' := by
 by_cases h8 : d.length ≤ 6
 ·by_cases hd : d ≠ [] ∧ okD 16 d = true
  ·rw [show numR 16 6 d = runeN (numE 16 d) from by unfold numR; rw [if_pos ⟨hd.1, h8, hd.2⟩]]
   exact numbered16_ok d h8 hd.1 hd.2 w
  ·rw [show numR 16 6 d = none from by unfold numR; rw [if_neg (fun h => hd ⟨h.1, h.2.2⟩)]]
   refine numbered16_err d h8 ?_ w hT
   by_cases h0 : d = []
   ·exact .inl h0
   ·right
    cases hk : okD 16 d with
    | false => rfl
    | true => exact absurd ⟨h0, hk⟩ hd
 ·rw [show numR 16 6 d = none from by unfold numR; rw [if_neg (fun h => h8 h.2.1)]]
  exact numbered16_long d hl h8 w
set_option maxRecDepth 100000 in
theorem puE10_nil (w : World) : Calls Tryz.prog 235 #[.string (asS []), .int .i64 10, .int .i64 31] w fun e w' => e = .returned (.tuple #[.int .u64 0, .iface 222 (.int .i64 2)]) ∧ Below w.heap.size w w' := by
 have hemp : (asS []).toList.isEmpty = true := by rw [emp8]; rfl
 generalize asS [] = D at hemp ⊢
 go_enter Tryz.func235, Tryz.ntmps235
 go_wp2_with fail
 go_ret2
 exact ⟨rfl, Below.refl _ _⟩
theorem puE10_err (d : List UInt8) (h8 : d.length ≤ 7) (h : d = [] ∨ okD 10 d = false) (w : World) : Calls Tryz.prog 235 #[.string (asS d), .int .i64 10, .int .i64 31] w fun e w' => e = .returned (.tuple #[.int .u64 0, .iface 222 (.int .i64 2)]) ∧ Below w.heap.size w w' := by
 by_cases hd : d = []
 ·subst hd; exact puE10_nil w
 ·have hh : okD 10 d = false := by
   rcases h with h | h
   ·exact absurd h hd
   ·exact h
  have := puE10_in d hd h8 w
  rw [hh] at this
  exact this
theorem pubE10_ok (d : List UInt8) (h8 : d.length ≤ 7) (hd : d ≠ []) (hh : okD 10 d = true) (w : World) : Calls Tryz.prog 234 #[.string (asS d), .int .i64 10, .int .i64 31] w fun e w' => e = .returned (.tuple #[.int .u64 (numE 10 d : Int), .nilIface]) ∧ Below w.heap.size w w' := by
 have c := puE10_in d hd h8 w
 rw [hh] at c
 simp only [if_true] at c
 have HC := hid c
 clear c
 generalize asS d = D at HC ⊢
 generalize numE 10 d = v at HC ⊢
 go_enter Tryz.func234, Tryz.ntmps234
 go_wp2_with fail
 refine HC.out.mono ?_
 rintro e W1 ⟨rfl, hb⟩
 have HB := hid hb
 clear hb
 go_wp2_with fail
 go_ret2
 exact ⟨rfl, HB.out⟩
theorem toErrE10_any (s : ByteArray) (hs : s.size ≤ 281474976710656) (w : World) (hT : TabE w) : Calls Tryz.prog 236 #[.string ⟨#[80, 97, 114, 115, 101, 85, 105, 110, 116]⟩, .string s, .int .i64 10, .int .i64 31, .iface 222 (.int .i64 2)] w fun e w' => ∃ t p, e = .returned (.iface t p) ∧ Below w.heap.size w w' := by
 obtain ⟨te, pe, hv⟩ := hT.syn
 have HC := hid (Tryz.strconv_syntaxError ⟨#[80, 97, 114, 115, 101, 85, 105, 110, 116]⟩ s _ w hs hv (.inr ⟨te, pe, rfl⟩))
 have heq : ∀ W, (binOp .eql 133 (.iface 222 (.int .i64 2)) (.iface 222 (.int .i64 2))).run Tryz.prog W = .ok (.bool true) W := fun W => Lib.run_eql_iface_int W 2 2 Tryz.underlying133 (by kernel_rfl) Tryz.underlying222
 clear hT hv hs
 go_enter Tryz.func236, Tryz.ntmps236
 go_wp2_with fail
 refine HC.out.mono ?_
 rintro e W1 ⟨N, rfl, _, _, hb⟩
 have HB := hid hb
 clear hb
 go_wp2_with fail
 go_ret
 exact ⟨_, _, rfl, HB.out⟩
theorem pubE10_err (d : List UInt8) (h8 : d.length ≤ 7) (h : d = [] ∨ okD 10 d = false) (w : World) (hT : TabE w) : Calls Tryz.prog 234 #[.string (asS d), .int .i64 10, .int .i64 31] w fun e w' => ∃ t p, e = .returned (.tuple #[.int .u64 0, .iface t p]) ∧ Below w.heap.size w w' := by
 have HC := hid (puE10_err d h8 h w)
 have HT := hid hT
 have hs : (asS d).size ≤ 281474976710656 := by rw [asS_size]; omega
 have HTE := hid (fun W hW => toErrE10_any (asS d) hs W hW)
 clear hT hs
 generalize asS d = D at HC HTE ⊢
 go_enter Tryz.func234, Tryz.ntmps234
 go_wp2_with fail
 refine HC.out.mono ?_
 rintro e W1 ⟨rfl, hb⟩
 have HB := hid hb
 clear hb
 go_wp2_with fail
 refine (HTE.out _ (HT.out.below HB.out)).mono ?_
 rintro e W2 ⟨t, p, rfl, hb2⟩
 have HB2 := hid (HB.out.trans (hb2.mono HB.out.size))
 clear hb2
 go_wp2_with fail
 go_ret2
 exact ⟨t, p, rfl, HB2.out⟩
theorem numbered10_long (d : List UInt8) (hl : d.length ≤ 1000000) (h : ¬ d.length ≤ 7) (w : World) : Calls Tryz.prog 231 #[.string (asS d), .int .i64 10, .int .i64 7] w fun e w' => e = .returned (.tuple #[.int .i32 0, .bool false]) ∧ Below w.heap.size w w' := by
 have hs := asS_size d
 generalize asS d = D at hs ⊢
 have h1 : (7 : Int) < (D.size : Int) := by omega
 have h2 : (D.size : Int) ≤ 1000000 := by omega
 clear hs h hl
 go_enter Tryz.func231, Tryz.ntmps231
 go_wp2_with fail
 go_ret2
 exact ⟨rfl, Below.refl _ _⟩
theorem numbered10_err (d : List UInt8) (h8 : d.length ≤ 7) (h : d = [] ∨ okD 10 d = false) (w : World) (hT : TabE w) : Calls Tryz.prog 231 #[.string (asS d), .int .i64 10, .int .i64 7] w fun e w' => e = .returned (.tuple #[.int .i32 0, .bool false]) ∧ Below w.heap.size w w' := by
 have HC := hid (pubE10_err d h8 h w hT)
 have hs := asS_size d
 generalize asS d = D at hs HC ⊢
 have h1 : ¬ (7 : Int) < (D.size : Int) := by omega
 clear hs h h8 hT
 go_enter Tryz.func231, Tryz.ntmps231
 go_wp2_with fail
 refine HC.out.mono ?_
 rintro e W1 ⟨t, p, rfl, hb⟩
 have HB := hid hb
 clear hb
 go_wp2_with fail
 go_ret2
 exact ⟨rfl, HB.out⟩
theorem numbered10_ok (d : List UInt8) (h8 : d.length ≤ 7) (hd : d ≠ []) (hh : okD 10 d = true) (w : World) : Calls Tryz.prog 231 #[.string (asS d), .int .i64 10, .int .i64 7] w fun e w' => e = .returned (runeV (runeN (numE 10 d))) ∧ Below w.heap.size w w' := by
 have HC := hid (pubE10_ok d h8 hd hh w)
 have hs := asS_size d
 have hlt := numE_lt hh
 have hle : 10 ^ d.length ≤ 10 ^ 7 := Nat.pow_le_pow_right (by decide) h8
 rw [show (10 : Nat) ^ 7 = 10000000 from by decide] at hle
 generalize asS d = D at hs HC ⊢
 generalize numE 10 d = v at HC hlt ⊢
 have h1 : ¬ (7 : Int) < (D.size : Int) := by omega
 have hv : (v : Int) < 10000000 := by omega
 have HVL := hid (fun W => Tryz.utf8_ValidRune (v : Int) W)
 have HLB := hid (valid_lib v)
 rw [HLB.out] at HVL
 clear hs h8 hd hh hlt hle HLB
 cases hvr : validR v with
 | false =>
  have HR : Hid (runeN v = none) := by show _ = _; unfold runeN; rw [hvr]; rfl
  rw [hvr] at HVL
  clear hvr
  rw [HR.out]
  go_enter Tryz.func231, Tryz.ntmps231
  go_wp2_with fail
  refine HC.out.mono ?_
  rintro e W1 ⟨rfl, hb⟩
  have HB := hid hb
  clear hb
  go_wp2_with (first | (go_at_call 228; refine (HVL.out _).mono ?_; rintro e W ⟨rfl, rfl⟩) | fail)
  go_ret2
  exact ⟨rfl, HB.out⟩
 | true =>
  have hcv := conv_rune v hvr
  have HX := hid (fun W => xml_one v hvr W)
  rw [hvr] at HVL
  cases hxn : xmlN v with
  | false =>
   have HR : Hid (runeN v = none) := by show _ = _; unfold runeN; rw [hvr, hxn]; rfl
   rw [hxn] at HX
   have hx1 : xmlE false = 1 := rfl
   rw [hx1] at HX
   clear hvr hxn hx1
   rw [HR.out]
   generalize asS (encL v) = X at hcv HX
   go_enter Tryz.func231, Tryz.ntmps231
   go_wp2_with fail
   refine HC.out.mono ?_
   rintro e W1 ⟨rfl, hb⟩
   have HB := hid hb
   clear hb
   go_wp2_with (first | (go_at_call 228; refine (HVL.out _).mono ?_; rintro e W ⟨rfl, rfl⟩) | (go_at_call 65; refine (HX.out _).mono ?_; rintro e W2 ⟨rfl, hb2⟩; have HB2 := hid (HB.out.trans (hb2.mono HB.out.size)); clear hb2) | fail)
   go_ret2
   exact ⟨rfl, HB2.out⟩
  | true =>
   have HR : Hid (runeN v = some v) := by show _ = _; unfold runeN; rw [hvr, hxn]; rfl
   rw [hxn] at HX
   have hx1 : xmlE true = 0 := rfl
   rw [hx1] at HX
   clear hvr hxn hx1
   rw [HR.out]
   generalize asS (encL v) = X at hcv HX
   go_enter Tryz.func231, Tryz.ntmps231
   go_wp2_with fail
   refine HC.out.mono ?_
   rintro e W1 ⟨rfl, hb⟩
   have HB := hid hb
   clear hb
   go_wp2_with (first | (go_at_call 228; refine (HVL.out _).mono ?_; rintro e W ⟨rfl, rfl⟩) | (go_at_call 65; refine (HX.out _).mono ?_; rintro e W2 ⟨rfl, hb2⟩; have HB2 := hid (HB.out.trans (hb2.mono HB.out.size)); clear hb2) | fail)
   go_ret2
   exact ⟨rfl, HB2.out⟩
theorem numbered10_any (d : List UInt8) (hl : d.length ≤ 1000000) (w : World) (hT : TabE w) : Calls Tryz.prog 231 #[.string (asS d), .int .i64 10, .int .i64 7] w fun e w' => e = .returned (runeV (numR 10 7 d)) ∧ Below w.heap.size w w' := by
 by_cases h8 : d.length ≤ 7
 ·by_cases hd : d ≠ [] ∧ okD 10 d = true
  ·rw [show numR 10 7 d = runeN (numE 10 d) from by unfold numR; rw [if_pos ⟨hd.1, h8, hd.2⟩]]
   exact numbered10_ok d h8 hd.1 hd.2 w
  ·rw [show numR 10 7 d = none from by unfold numR; rw [if_neg (fun h => hd ⟨h.1, h.2.2⟩)]]
   refine numbered10_err d h8 ?_ w hT
   by_cases h0 : d = []
   ·exact .inl h0
   ·right
    cases hk : okD 10 d with
    | false => rfl
    | true => exact absurd ⟨h0, hk⟩ hd
 ·rw [show numR 10 7 d = none from by unfold numR; rw [if_neg (fun h => h8 h.2.1)]]
  exact numbered10_long d hl h8 w
theorem named_any (l : List UInt8) (w : World) : Calls Tryz.prog 232 #[.string (asS l)] w fun e w' => e = .returned (runeV (nameR l)) ∧ w' = w := by
 have h1 := tl_eq l [97, 109, 112]
 have h2 := tl_eq l [108, 116]
 have h3 := tl_eq l [103, 116]
 have h4 := tl_eq l [113, 117, 111, 116]
 have h5 := tl_eq l [97, 112, 111, 115]
 have HN : Hid (nameR l = if l = [97, 109, 112] then some 38 else if l = [108, 116] then some 60 else if l = [103, 116] then some 62 else if l = [113, 117, 111, 116] then some 34 else if l = [97, 112, 111, 115] then some 39 else none) := rfl
 generalize asS l = S at h1 h2 h3 h4 h5 ⊢
 by_cases c1 : l = [97, 109, 112]
 ·rw [decide_eq_true c1] at h1
  rw [if_pos c1] at HN
  clear c1
  go_enter Tryz.func232, Tryz.ntmps232
  go_wp2_with fail
  go_ret2
  exact ⟨by rw [HN.out]; rfl, rfl⟩
 rw [decide_eq_false c1] at h1
 rw [if_neg c1] at HN
 clear c1
 by_cases c2 : l = [108, 116]
 ·rw [decide_eq_true c2] at h2
  rw [if_pos c2] at HN
  clear c2
  go_enter Tryz.func232, Tryz.ntmps232
  go_wp2_with fail
  go_ret2
  exact ⟨by rw [HN.out]; rfl, rfl⟩
 rw [decide_eq_false c2] at h2
 rw [if_neg c2] at HN
 clear c2
 by_cases c3 : l = [103, 116]
 ·rw [decide_eq_true c3] at h3
  rw [if_pos c3] at HN
  clear c3
  go_enter Tryz.func232, Tryz.ntmps232
  go_wp2_with fail
  go_ret2
  exact ⟨by rw [HN.out]; rfl, rfl⟩
 rw [decide_eq_false c3] at h3
 rw [if_neg c3] at HN
 clear c3
 by_cases c4 : l = [113, 117, 111, 116]
 ·rw [decide_eq_true c4] at h4
  rw [if_pos c4] at HN
  clear c4
  go_enter Tryz.func232, Tryz.ntmps232
  go_wp2_with fail
  go_ret2
  exact ⟨by rw [HN.out]; rfl, rfl⟩
 rw [decide_eq_false c4] at h4
 rw [if_neg c4] at HN
 clear c4
 by_cases c5 : l = [97, 112, 111, 115]
 ·rw [decide_eq_true c5] at h5
  rw [if_pos c5] at HN
  clear c5
  go_enter Tryz.func232, Tryz.ntmps232
  go_wp2_with fail
  go_ret2
  exact ⟨by rw [HN.out]; rfl, rfl⟩
 rw [decide_eq_false c5] at h5
 rw [if_neg c5] at HN
 clear c5
 go_enter Tryz.func232, Tryz.ntmps232
 go_wp2_with fail
 go_ret2
 exact ⟨by rw [HN.out]; rfl, rfl⟩
end Go.Proofs.YtgoiafndapemjaaGreatDoor
