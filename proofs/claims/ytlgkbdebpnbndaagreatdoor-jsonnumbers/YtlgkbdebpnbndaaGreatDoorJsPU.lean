
/- Digits read: what strconv.ParseUint does at base sixteen, of 16 bits, with four signs. -/
import Derived.Test.YtlgkbdebpnbndaaGreatDoorTxBase
import Derived.Test.YtlgkbdebpnbndaaGreatDoorXmBook
import Derived.Lib.IfaceEq
import Derived.Laws.Closers25
namespace Go.Proofs.YtlgkbdebpnbndaaGreatDoor
set_option linter.unusedVariables false
set_option linter.unusedSimpArgs false
open Go.RowKit Go.BigFrame

theorem u8_or (a b : UInt8) : bits .or .u8 (a.toNat : Int) (b.toNat : Int) = ((a ||| b).toNat : Int) := by
  have ha : BitVec.ofInt 8 (a.toNat : Int) = a.toBitVec := by
    rw [BitVec.ofInt_natCast]; exact BitVec.eq_of_toNat_eq (by simp)
  have hb : BitVec.ofInt 8 (b.toNat : Int) = b.toBitVec := by
    rw [BitVec.ofInt_natCast]; exact BitVec.eq_of_toNat_eq (by simp)
  unfold bits
  simp only [IntKind.bits, ha, hb]
  have hw : ∀ v : BitVec 8, IntKind.u8.wrap (v.toNat : Int) = (v.toNat : Int) := fun v => by
    rw [IntKind.wrap_u8]; have := v.isLt; omega
  exact hw _
/-- A sign in lower case, as the library puts it. -/
def lowN (c : UInt8) : Nat := (c ||| 32).toNat
theorem lower16 (c : UInt8) (w : World) : Calls Tryz.prog 157 #[.int .u8 c.toNat] w fun e w' => e = .returned (.int .u8 (lowN c)) ∧ w' = w := by
  have h := Tryz.internal_strconv_lower (c.toNat : Int) w
  rw [show bits .or .u8 (c.toNat : Int) 32 = ((lowN c : Nat) : Int) from u8_or c 32] at h
  exact h
theorem lowE_fin : ∀ n : Fin 256, ((48 ≤ n.val ∧ n.val ≤ 57) → digE (UInt8.ofNat n.val) = n.val - 48) ∧ (¬ (48 ≤ n.val ∧ n.val ≤ 57) → 10 ≤ digE (UInt8.ofNat n.val)) ∧ (¬ (48 ≤ n.val ∧ n.val ≤ 57) → digE (UInt8.ofNat n.val) < 16 → 97 ≤ lowN (UInt8.ofNat n.val) ∧ lowN (UInt8.ofNat n.val) ≤ 102 ∧ digE (UInt8.ofNat n.val) = lowN (UInt8.ofNat n.val) - 97 + 10) ∧ (¬ (48 ≤ n.val ∧ n.val ≤ 57) → 16 ≤ digE (UInt8.ofNat n.val) → lowN (UInt8.ofNat n.val) < 97 ∨ 103 ≤ lowN (UInt8.ofNat n.val)) ∧ lowN (UInt8.ofNat n.val) < 256 ∧ (digE (UInt8.ofNat n.val) < 16 → n.val ≠ 95) := by decide +kernel
theorem lowE_of (c : UInt8) : ((48 ≤ c.toNat ∧ c.toNat ≤ 57) → digE c = c.toNat - 48) ∧ (¬ (48 ≤ c.toNat ∧ c.toNat ≤ 57) → 10 ≤ digE c) ∧ (¬ (48 ≤ c.toNat ∧ c.toNat ≤ 57) → digE c < 16 → 97 ≤ lowN c ∧ lowN c ≤ 102 ∧ digE c = lowN c - 97 + 10) ∧ (¬ (48 ≤ c.toNat ∧ c.toNat ≤ 57) → 16 ≤ digE c → lowN c < 97 ∨ 103 ≤ lowN c) ∧ lowN c < 256 ∧ (digE c < 16 → c.toNat ≠ 95) := by
  have := lowE_fin ⟨c.toNat, c.toNat_lt⟩
  simp only [UInt8.ofNat_toNat] at this
  exact this
theorem numE_snoc (b : Nat) (l : List UInt8) (c : UInt8) : numE b (l ++ [c]) = numE b l * b + digE c := by simp [numE]
theorem okD_snoc (b : Nat) (l : List UInt8) (c : UInt8) : okD b (l ++ [c]) = (okD b l && decide (digE c < b)) := by simp [okD]
/-- k digits are read, their number so far. -/
structure AtE (b : Nat) (d : List UInt8) (k acc : Nat) : Prop where
  all : okD b (d.take k) = true
  val : numE b (d.take k) = acc
  lt : acc < b ^ k
theorem AtE.zero (b : Nat) (d : List UInt8) : AtE b d 0 0 := ⟨by rw [List.take_zero]; rfl, by rw [List.take_zero]; rfl, by simp⟩
theorem AtE.step {b : Nat} {d : List UInt8} {k acc : Nat} (h : AtE b d k acc) (hk : k < d.length) (hx : digE (d.getD k 0) < b) : AtE b d (k + 1) (acc * b + digE (d.getD k 0)) := by
  refine ⟨?_, ?_, ?_⟩
  · rw [take_snoc _ _ hk, okD_snoc, h.all, decide_eq_true hx]; rfl
  · rw [take_snoc _ _ hk, numE_snoc, h.val]
  · have h1 := h.lt
    have h2 : (acc + 1) * b ≤ b ^ k * b := Nat.mul_le_mul_right b h1
    rw [Nat.pow_succ]
    rw [Nat.add_mul, Nat.one_mul] at h2
    omega
theorem AtE.small {b : Nat} {d : List UInt8} {k acc : Nat} (h : AtE b d k acc) (m : Nat) (hb : 1 ≤ b) (hk : k ≤ m) : acc < b ^ m := Nat.lt_of_lt_of_le h.lt (Nat.pow_le_pow_right hb hk)
theorem okD_false {b : Nat} {d : List UInt8} {k : Nat} (hk : k < d.length) (h : ¬ digE (d.getD k 0) < b) : okD b d = false := by
  cases hh : okD b d with
  | false => rfl
  | true =>
    have := List.all_eq_true.1 hh (d.getD k 0) (by rw [List.getD_eq_getElem?_getD, List.getElem?_eq_getElem hk]; exact List.getElem_mem hk)
    exact absurd (by simpa using this) h
set_option maxHeartbeats 8000000 in
set_option maxRecDepth 100000 in
theorem puE16_in (d : List UInt8) (hd : d ≠ []) (h8 : d.length ≤ 4) (w : World) : Calls Tryz.prog 146 #[.string (asS d), .int .i64 16, .int .i64 16] w fun e w' => e = .returned (if okD 16 d then .tuple #[.int .u64 (numE 16 d : Int), .nilIface] else .tuple #[.int .u64 0, .iface 164 (.int .i64 2)]) ∧ Below w.heap.size w w' := by
  have hemp : (asS d).toList.isEmpty = false := by rw [emp8]; exact decide_eq_false hd
  obtain ⟨cap, W1, hcv, hB0, hbl⟩ := conv_in w (asS d)
  have HB := hid hB0
  have HBL := hid hbl.1
  rw [asS_data] at HB
  have hsz := asS_size d
  rw [hsz] at hcv
  have HFA : Hid (∀ k, k < d.length → ¬ digE (d.getD k 0) < 16 → okD 16 d = false) := fun k hk h => okD_false hk h
  have HCL : Hid (∀ k, k < d.length → W1.cell? ⟨w.heap.size, k, none⟩ = some (.int .u8 (d.getD k 0).toNat)) := fun k hk => by
    obtain ⟨q, o, e, _, hc⟩ := HB.out (by omega)
    cases e
    have := hc k hk
    rwa [Nat.zero_add] at this
  have hmv : IntKind.u64.wrap (IntKind.u64.wrap 65536 - 1) = 65535 := by
    rw [IntKind.wrap_u64, IntKind.wrap_u64]
    decide
  obtain ⟨n, hn⟩ : ∃ n, n = d.length := ⟨_, rfl⟩
  rw [← hn] at hcv h8 HFA HCL
  have HN := hid hn
  generalize asS d = D at hemp hcv ⊢
  clear hn hsz hd hB0 hbl HB
  have HAL : Hid (∀ acc, AtE 16 d n acc → okD 16 d = true ∧ numE 16 d = acc) := fun acc h => by
    have h1 := h.all
    have h2 := h.val
    rw [HN.out, List.take_length] at h1 h2
    exact ⟨h1, h2⟩
  obtain ⟨R, hR⟩ : ∃ R, R = (if okD 16 d then Value.tuple #[.int .u64 (numE 16 d : Int), .nilIface] else .tuple #[.int .u64 0, .iface 164 (.int .i64 2)]) := ⟨_, rfl⟩
  rw [← hR]
  have HR := hid hR
  clear hR
  go_enter Tryz.func146, Tryz.ntmps146
  go_wp2_with fail
  go_loop [12, 13, 101] (fun vu vn vi => ∃ (k : Nat) (a : Int), vu = .bool false ∧ vn = .int .u64 a ∧ vi = .int .i64 (k : Int) ∧ k ≤ n ∧ Hid (0 ≤ a ∧ AtE 16 d k a.toNat)) (fun _ _ vi => n - (intOf vi).toNat)
  case atStart => exact ⟨0, 0, rfl, rfl, rfl, Nat.zero_le _, Int.le_refl _, AtE.zero _ _⟩
  case round =>
    obtain ⟨k, a, rfl, rfl, rfl, hk, HA⟩ := hrel
    by_cases hkn : k < n
    · have hc := HCL.out k hkn
      have a0 := HA.out.1
      have a1 : a < 4096 := by have h9 := HA.out.2.small 3 (by decide) (by omega); rw [show (16 : Nat) ^ 3 = 4096 from by decide] at h9; omega
      have HST := hid (HA.out.2.step (by rw [← HN.out]; exact hkn))
      have HFK := hid (HFA.out k hkn)
      obtain ⟨c, hcc⟩ : ∃ c, d.getD k 0 = c := ⟨_, rfl⟩
      rw [hcc] at hc HST HFK
      clear hcc
      have HLW := hid (lower16 c)
      obtain ⟨f1, f2, f3, f4, f5, f6⟩ := lowE_of c
      have hc256 := c.toNat_lt
      by_cases hx : digE c < 16
      · have HS2 := hid (HST.out hx)
        by_cases hdg : 48 ≤ c.toNat ∧ c.toNat ≤ 57
        · have hv := f1 hdg
          rw [hv] at HS2
          obtain ⟨d1, d2⟩ := hdg
          clear f1 f2 f3 f4 f5 f6 hx HST HLW HFK hv
          generalize c.toNat = x at hc d1 d2 HS2 hc256
          have h95 : ((x : Int) == 95) = false := by rw [beq_eq_false_iff_ne]; omega
          have HS3 : Hid (0 ≤ a * 16 + ((x : Int) - 48) ∧ AtE 16 d (k + 1) (a * 16 + ((x : Int) - 48)).toNat) := ⟨by omega, by rw [show (a * 16 + ((x : Int) - 48)).toNat = a.toNat * 16 + (x - 48) from by omega]; exact HS2.out⟩
          clear HS2
          go_wp2_with fail
          go_round
          case rel => exact ⟨k + 1, _, rfl, rfl, by go_num, by omega, HS3⟩
          case measure => simp [intOf]; omega
        · obtain ⟨v1, v2, v3⟩ := f3 hdg hx
          have hx95 := f6 hx
          rw [v3] at HS2
          clear f1 f2 f3 f4 f6 hx HST HFK v3
          generalize lowN c = v at HLW v1 v2 f5 HS2
          generalize c.toNat = x at hc hdg hc256 HLW hx95
          have HS3 : Hid (0 ≤ a * 16 + ((v : Int) - 97 + 10) ∧ AtE 16 d (k + 1) (a * 16 + ((v : Int) - 97 + 10)).toNat) := ⟨by omega, by rw [show (a * 16 + ((v : Int) - 97 + 10)).toNat = a.toNat * 16 + (v - 97 + 10) from by omega]; exact HS2.out⟩
          clear HS2
          have h95 : ((x : Int) == 95) = false := by rw [beq_eq_false_iff_ne]; omega
          rcases (show x < 48 ∨ 57 < x by omega) with hx1 | hx1
          all_goals (clear hdg hx95)
          all_goals go_wp2_with (first | (go_at_call 157; refine (HLW.out _).mono ?_; rintro e W ⟨rfl, rfl⟩) | fail)
          all_goals go_round
          case rel => exact ⟨k + 1, _, rfl, rfl, by go_num, by omega, HS3⟩
          case measure => simp [intOf]; omega
          case rel => exact ⟨k + 1, _, rfl, rfl, by go_num, by omega, HS3⟩
          case measure => simp [intOf]; omega
      · have HF := hid (HFK.out hx)
        have hdg : ¬ (48 ≤ c.toNat ∧ c.toNat ≤ 57) := fun h => hx (by rw [f1 h]; omega)
        have g2 := f4 hdg (by omega)
        clear f1 f2 f3 f4 f6 hx HST
        generalize lowN c = v at HLW f5 g2
        have HRE : Hid (R = .tuple #[.int .u64 0, .iface 164 (.int .i64 2)]) := by show _ = _; rw [HR.out, HF.out]; rfl
        generalize c.toNat = x at hc HLW hdg hc256
        obtain ⟨b95, h95⟩ : ∃ b, ((x : Int) == 95) = b := ⟨_, rfl⟩
        cases b95 <;> rcases (show x < 48 ∨ 57 < x by omega) with hx1 | hx1 <;> rcases (show v < 97 ∨ 122 < v ∨ (103 ≤ v ∧ v ≤ 122) by omega) with hv1 | hv1 | hv1
        all_goals (clear hdg g2)
        all_goals go_wp2_with (first | (go_at_call 157; refine (HLW.out _).mono ?_; rintro e W ⟨rfl, rfl⟩) | fail)
        all_goals go_ret2
        all_goals exact ⟨by rw [HRE.out]; rfl, HBL.out⟩
    · obtain rfl : k = n := by omega
      have HF := hid (HAL.out a.toNat HA.out.2)
      have a0 := HA.out.1
      have HRE : Hid (R = .tuple #[.int .u64 a, .nilIface]) := by show _ = _; rw [HR.out, HF.out.1, HF.out.2, show ((a.toNat : Nat) : Int) = a from by omega]; rfl
      go_wp2_with fail
      go_ret2
      exact ⟨by rw [HRE.out]; rfl, HBL.out⟩
/-- What is read of the library's variables: MaxLen, and the error of what is no number. -/
structure TabE (w : World) : Prop where
  max : ∃ m, w.cell? ⟨3, 0, none⟩ = some (.int .i64 m)
  syn : ∃ te pe, w.cell? ⟨4, 0, none⟩ = some (.iface te pe)
theorem TabE.below {w w' : World} (h : TabE w) (hb : Below w.heap.size w w') : TabE w' := by
  obtain ⟨m, hm⟩ := h.max
  obtain ⟨te, pe, hs⟩ := h.syn
  have l1 := block_lt_of_cell hm
  have l2 := block_lt_of_cell hs
  exact ⟨⟨m, by rw [hb.cell (p := ⟨3, 0, none⟩) l1]; exact hm⟩, ⟨te, pe, by rw [hb.cell (p := ⟨4, 0, none⟩) l2]; exact hs⟩⟩
theorem utf_valid (v : Nat) (hv : validR v = true) : Utf8.valid (v : Int) = true := by
  have := validR_iff.1 hv
  unfold Utf8.valid
  simp only [Bool.or_eq_true, Bool.and_eq_true, decide_eq_true_eq]
  omega
theorem utf_enc (v : Nat) (hv : validR v = true) : Utf8.encode (v : Int) = asS (encL v) := by
  have hv' := validR_iff.1 hv
  unfold Utf8.encode
  simp only [utf_valid v hv, if_true, Int.toNat_natCast]
  by_cases h1 : v < 128
  · rw [if_pos h1, enc1 h1]; rfl
  · by_cases h2 : v ≤ 2047
    · rw [if_neg h1, if_pos (by omega), enc2 (by omega) h2]; rfl
    · by_cases h3 : v ≤ 65535
      · rw [if_neg h1, if_neg (by omega), if_pos (by omega), enc3 (by omega)]; rfl
      · rw [if_neg h1, if_neg (by omega), if_neg (by omega), enc4 (by omega) (by omega)]; rfl
theorem valid_lib (v : Nat) : Lib.validRune (v : Int) = validR v := by
  unfold Lib.validRune validR
  rw [Bool.eq_iff_iff, decide_eq_true_eq, decide_eq_true_eq]
  omega
theorem numE_lt {b : Nat} {d : List UInt8} (h : okD b d = true) : numE b d < b ^ d.length := by
  have aux : ∀ n, n ≤ d.length → ∃ acc, AtE b d n acc := fun n => by
    induction n with
    | zero => exact fun _ => ⟨0, AtE.zero b d⟩
    | succ n ih =>
      intro hn
      obtain ⟨acc, ha⟩ := ih (by omega)
      refine ⟨_, ha.step (by omega) ?_⟩
      have := List.all_eq_true.1 h (d.getD n 0) (by rw [List.getD_eq_getElem?_getD, List.getElem?_eq_getElem (by omega)]; exact List.getElem_mem (by omega))
      simpa using this
  obtain ⟨acc, ha⟩ := aux d.length (Nat.le_refl _)
  have h1 := ha.val
  have h2 := ha.lt
  rw [List.take_length] at h1
  rw [h1]; exact h2

set_option maxRecDepth 100000 in
theorem puE16_nil (w : World) : Calls Tryz.prog 146 #[.string (asS []), .int .i64 16, .int .i64 16] w fun e w' => e = .returned (.tuple #[.int .u64 0, .iface 164 (.int .i64 2)]) ∧ Below w.heap.size w w' := by
  have hemp : (asS []).toList.isEmpty = true := by rw [emp8]; rfl
  generalize asS [] = D at hemp ⊢
  go_enter Tryz.func146, Tryz.ntmps146
  go_wp2_with fail
  go_ret2
  exact ⟨rfl, Below.refl _ _⟩
theorem puE16_err (d : List UInt8) (h8 : d.length ≤ 4) (h : d = [] ∨ okD 16 d = false) (w : World) : Calls Tryz.prog 146 #[.string (asS d), .int .i64 16, .int .i64 16] w fun e w' => e = .returned (.tuple #[.int .u64 0, .iface 164 (.int .i64 2)]) ∧ Below w.heap.size w w' := by
  by_cases hd : d = []
  · subst hd; exact puE16_nil w
  · have hh : okD 16 d = false := by
      rcases h with h | h
      · exact absurd h hd
      · exact h
    have := puE16_in d hd h8 w
    rw [hh] at this
    exact this
theorem pubE16_ok (d : List UInt8) (h8 : d.length ≤ 4) (hd : d ≠ []) (hh : okD 16 d = true) (w : World) : Calls Tryz.prog 153 #[.string (asS d), .int .i64 16, .int .i64 16] w fun e w' => e = .returned (.tuple #[.int .u64 (numE 16 d : Int), .nilIface]) ∧ Below w.heap.size w w' := by
  have c := puE16_in d hd h8 w
  rw [hh] at c
  simp only [if_true] at c
  have HC := hid c
  clear c
  generalize asS d = D at HC ⊢
  generalize numE 16 d = v at HC ⊢
  go_enter Tryz.func153, Tryz.ntmps153
  go_wp2_with fail
  refine HC.out.mono ?_
  rintro e W1 ⟨rfl, hb⟩
  have HB := hid hb
  clear hb
  go_wp2_with fail
  go_ret2
  exact ⟨rfl, HB.out⟩
theorem toErrE16_any (s : ByteArray) (hs : s.size ≤ 281474976710656) (w : World) (hT : TabE w) : Calls Tryz.prog 135 #[.string ⟨#[80, 97, 114, 115, 101, 85, 105, 110, 116]⟩, .string s, .int .i64 16, .int .i64 16, .iface 164 (.int .i64 2)] w fun e w' => ∃ t p, e = .returned (.iface t p) ∧ Below w.heap.size w w' := by
  obtain ⟨te, pe, hv⟩ := hT.syn
  have HC := hid (Tryz.strconv_syntaxError ⟨#[80, 97, 114, 115, 101, 85, 105, 110, 116]⟩ s _ w hs hv (.inr ⟨te, pe, rfl⟩))
  have heq : ∀ W, (binOp .eql 109 (.iface 164 (.int .i64 2)) (.iface 164 (.int .i64 2))).run Tryz.prog W = .ok (.bool true) W := fun W => Lib.run_eql_iface_int W 2 2 Tryz.underlying109 (by kernel_rfl) Tryz.underlying164
  clear hT hv hs
  go_enter Tryz.func135, Tryz.ntmps135
  go_wp2_with fail
  refine HC.out.mono ?_
  rintro e W1 ⟨N, rfl, _, _, hb⟩
  have HB := hid hb
  clear hb
  go_wp2_with fail
  go_ret
  exact ⟨_, _, rfl, HB.out⟩
theorem pubE16_err (d : List UInt8) (h8 : d.length ≤ 4) (h : d = [] ∨ okD 16 d = false) (w : World) (hT : TabE w) : Calls Tryz.prog 153 #[.string (asS d), .int .i64 16, .int .i64 16] w fun e w' => ∃ t p, e = .returned (.tuple #[.int .u64 0, .iface t p]) ∧ Below w.heap.size w w' := by
  have HC := hid (puE16_err d h8 h w)
  have HT := hid hT
  have hs : (asS d).size ≤ 281474976710656 := by rw [asS_size]; omega
  have HTE := hid (fun W hW => toErrE16_any (asS d) hs W hW)
  clear hT hs
  generalize asS d = D at HC HTE ⊢
  go_enter Tryz.func153, Tryz.ntmps153
  go_wp2_with fail
  refine HC.out.mono ?_
  rintro e W1 ⟨rfl, hb⟩
  have HB := hid hb
  clear hb
  go_wp2_with fail
  refine (HTE.out _ (HT.out.below HB.out)).mono ?_
  rintro e W2 ⟨t, p, rfl, hb2⟩
  have HB2 := hid (HB.out.trans (hb2.mono HB.out.size))
  clear hb2
  go_wp2_with fail
  go_ret2
  exact ⟨t, p, rfl, HB2.out⟩
end Go.Proofs.YtlgkbdebpnbndaaGreatDoor
