
/- Decimal numbers read: what strconv.ParseUint at base ten and readNumber of package http do. -/
import Derived.Test.YtclonnpglikddaaGreatDoorHtSmall
import Derived.Test.YtclonnpglikddaaGreatDoorHtTab
import Derived.Lib.IfaceEq
import Derived.Lib.ParseIntBMem
import Derived.Lib.AtoiErrMem
namespace Go.Proofs.YtclonnpglikddaaGreatDoor
set_option linter.unusedVariables false
set_option linter.unusedSimpArgs false
open Go.RowKit Go.BigFrame

theorem toErr10 (k : Int) (hk : k = 2 ∨ k = 1) (s : ByteArray) (hs : s.size ≤ 281474976710656) (w : World) (hT : TabC w) : Calls Tryz.prog 131 #[.string ⟨#[80, 97, 114, 115, 101, 85, 105, 110, 116]⟩, .string s, .int .i64 10, .int .i64 32, .iface 159 (.int .i64 k)] w fun e w' => ∃ t p, e = .returned (.iface t p) ∧ Below w.heap.size w w' := by
  obtain ⟨te, pe, hv⟩ := hT.syn
  obtain ⟨t2, p2, hv2⟩ := hT.rng
  have HC := hid (Tryz.strconv_syntaxError ⟨#[80, 97, 114, 115, 101, 85, 105, 110, 116]⟩ s _ w hs hv (.inr ⟨te, pe, rfl⟩))
  have HC2 := hid (Tryz.strconv_rangeError ⟨#[80, 97, 114, 115, 101, 85, 105, 110, 116]⟩ s _ w hs hv2 (.inr ⟨t2, p2, rfl⟩))
  have heq : ∀ W, (binOp .eql 120 (.iface 159 (.int .i64 2)) (.iface 159 (.int .i64 2))).run Tryz.prog W = .ok (.bool true) W := fun W => Lib.run_eql_iface_int W 2 2 Tryz.underlying120 (by kernel_rfl) Tryz.underlying159
  have heq1 : ∀ W, (binOp .eql 120 (.iface 159 (.int .i64 1)) (.iface 159 (.int .i64 2))).run Tryz.prog W = .ok (.bool false) W := fun W => Lib.run_eql_iface_int W 1 2 Tryz.underlying120 (by kernel_rfl) Tryz.underlying159
  have heq2 : ∀ W, (binOp .eql 120 (.iface 159 (.int .i64 1)) (.iface 159 (.int .i64 1))).run Tryz.prog W = .ok (.bool true) W := fun W => Lib.run_eql_iface_int W 1 1 Tryz.underlying120 (by kernel_rfl) Tryz.underlying159
  clear hT hv hv2 hs
  rcases hk with rfl | rfl
  · go_enter Tryz.func131, Tryz.ntmps131
    go_wp2_with fail
    refine HC.out.mono ?_
    rintro e W1 ⟨N, rfl, _, _, hb⟩
    have HB := hid hb
    clear hb
    go_wp2_with fail
    go_ret
    exact ⟨_, _, rfl, HB.out⟩
  · go_enter Tryz.func131, Tryz.ntmps131
    go_wp2_with fail
    refine HC2.out.mono ?_
    rintro e W1 ⟨N, rfl, _, _, hb⟩
    have HB := hid hb
    clear hb
    go_wp2_with fail
    go_ret
    exact ⟨_, _, rfl, HB.out⟩
/-- What ParseUint tells: a number, or none. -/
def Pu (s : List UInt8) (u : Nat) (k : Int) : Prop := (k = 0 ∧ s ≠ [] ∧ Lib.parseUintM 4294967295 0 s = .ok u ∧ u ≤ 4294967295) ∨ ((k = 2 ∨ k = 1) ∧ (s = [] ∨ ∀ v, Lib.parseUintM 4294967295 0 s ≠ .ok v))
def puV (k : Int) : Value := if k = 0 then .nilIface else .iface 159 (.int .i64 k)
theorem pum_le : ∀ (s : List UInt8) (acc u : Nat), acc ≤ 4294967295 → Lib.parseUintM 4294967295 acc s = .ok u → u ≤ 4294967295
  | [], acc, u, ha, h => by
    simp only [Lib.parseUintM] at h
    cases h
    exact ha
  | c :: r, acc, u, ha, h => by
    simp only [Lib.parseUintM] at h
    split at h
    · split at h
      · cases h
      · split at h
        · cases h
        · exact pum_le r _ u (by omega) h
    · cases h
set_option maxRecDepth 100000 in
theorem pu10_nil (w : World) : Calls Tryz.prog 130 #[.string (asS []), .int .i64 10, .int .i64 32] w fun e w' => e = .returned (.tuple #[.int .u64 0, .iface 159 (.int .i64 2)]) ∧ Below w.heap.size w w' := by
  have hemp : (asS []).toList.isEmpty = true := by rw [emp8]; rfl
  generalize asS [] = D at hemp ⊢
  go_enter Tryz.func130, Tryz.ntmps130
  go_wp2_with fail
  go_ret2
  exact ⟨rfl, Below.refl _ _⟩
theorem pu10 (s : List UInt8) (hs : s.length ≤ 1000000) (w : World) : Calls Tryz.prog 130 #[.string (asS s), .int .i64 10, .int .i64 32] w fun e w' => (∃ u k, e = .returned (.tuple #[.int .u64 (u : Nat), puV k]) ∧ Pu s u k) ∧ Below w.heap.size w w' := by
  by_cases h0 : s = []
  · subst h0
    refine (pu10_nil w).mono ?_
    rintro e w' ⟨rfl, hb⟩
    exact ⟨⟨0, 2, rfl, .inr ⟨.inl rfl, .inl rfl⟩⟩, hb⟩
  · have hl : s.length ≠ 0 := fun e => h0 (List.length_eq_zero_iff.1 e)
    refine (Tryz.internal_strconv_ParseUint_10_b32 (asS s) (by rw [asS_size]; exact hl) (by rw [asS_size]; omega) w).mono ?_
    rintro e w' ⟨rfl, rfl⟩
    rw [asS_data]
    refine ⟨?_, Lib.bytesWorld_below _ _ _⟩
    rcases hp : Lib.parseUintM 4294967295 0 s with u | _ | _
    · exact ⟨u, 0, rfl, .inl ⟨rfl, h0, hp, pum_le s 0 u (by decide) hp⟩⟩
    · exact ⟨0, 2, rfl, .inr ⟨.inl rfl, .inr fun v h => by rw [hp] at h; cases h⟩⟩
    · exact ⟨4294967295, 1, rfl, .inr ⟨.inr rfl, .inr fun v h => by rw [hp] at h; cases h⟩⟩
theorem pub10 (s : List UInt8) (hs : s.length ≤ 1000000) (w : World) (hT : TabC w) : Calls Tryz.prog 100 #[.string (asS s), .int .i64 10, .int .i64 32] w fun e w' => (∃ (u : Nat) (k : Int) (x : Value), e = .returned (.tuple #[.int .u64 u, x]) ∧ Pu s u k ∧ (k = 0 → x = .nilIface) ∧ (k ≠ 0 → ∃ t p, x = .iface t p)) ∧ Below w.heap.size w w' := by
  have HC := hid (pu10 s hs w)
  have HT := hid hT
  have hz : (asS s).size ≤ 281474976710656 := by rw [asS_size]; omega
  have HTE := hid (fun k hk W hW => toErr10 k hk (asS s) hz W hW)
  clear hT hz
  generalize asS s = D at HC HTE ⊢
  go_enter Tryz.func100, Tryz.ntmps100
  go_wp2_with fail
  refine HC.out.mono ?_
  rintro e W1 ⟨⟨u, k, rfl, hp⟩, hb⟩
  have HB := hid hb
  have HP := hid hp
  clear hb hp
  by_cases hk : k = 0
  · subst hk
    rw [show puV 0 = .nilIface from rfl]
    go_wp2_with fail
    go_ret2
    exact ⟨⟨u, 0, .nilIface, rfl, HP.out, fun _ => rfl, fun h => absurd rfl h⟩, HB.out⟩
  · have hk2 : k = 2 ∨ k = 1 := by
      rcases HP.out with h | h
      · exact absurd h.1 hk
      · exact h.1
    have HK := hid hk
    rw [show puV k = .iface 159 (.int .i64 k) from if_neg hk]
    have HE := hid (HTE.out k hk2 W1 (HT.out.below HB.out))
    clear hk hk2
    go_wp2_with fail
    refine HE.out.mono ?_
    rintro e W2 ⟨t, p, rfl, hb2⟩
    have HB2 := hid (HB.out.trans (hb2.mono HB.out.size))
    clear hb2
    go_wp2_with fail
    go_ret2
    exact ⟨⟨u, k, .iface t p, rfl, HP.out, fun h => absurd h HK.out, fun _ => ⟨t, p, rfl⟩⟩, HB2.out⟩
def numV (most : Nat) (s : List UInt8) : Int := if numB most s then (valD s : Int) else 0
theorem readNumber_any (s : List UInt8) (most : Nat) (m : Int) (hm : m = (most : Int)) (hm8 : most ≤ 8) (hs : s.length ≤ 1000000) (w : World) (hT : TabC w) : Calls Tryz.prog 78 #[.string (asS s), .int .i64 m] w fun e w' => e = .returned (.tuple #[.int .i64 (numV most s), .bool (numB most s)]) ∧ Below w.heap.size w w' := by
  have HC := hid (pub10 s hs w hT)
  have HZ := hid (asS_size s)
  have HOK : Hid (∀ u k, Pu s u k → numB most s = true → k = 0 ∧ u = valD s ∧ s.length ≤ most ∧ valD s < 100000000) := fun u k hp hn => by
    have h8 := num_le most 8 hm8 s hn
    have hv := pum_val s h8
    have hlt := val_lt8 s h8
    have hn' := hn
    unfold numB at hn'
    rw [Bool.and_eq_true] at hn'
    have hl := of_decide_eq_true hn'.1
    rcases hp with ⟨h1, h2, h3, _⟩ | ⟨_, h2⟩
    · rw [hv] at h3
      cases h3
      exact ⟨h1, rfl, hl.2, hlt⟩
    · rcases h2 with h2 | h2
      · rw [h2] at hl; simp at hl
      · exact absurd hv (h2 _)
  have HNO : Hid (∀ u k, Pu s u k → numB most s = false → k = 0 → most < s.length) := fun u k hp hn hk => by
    rcases hp with ⟨h1, h2, h3, _⟩ | ⟨h1, _⟩
    · refine Nat.lt_of_not_le fun hl => ?_
      exact num_not most s hn h2 hl u h3
    · omega
  have HNV : Hid (numV most s = if numB most s then (valD s : Int) else 0) := rfl
  clear hT
  generalize numV most s = V at HNV ⊢
  generalize asS s = D at HC HZ ⊢
  go_enter Tryz.func78, Tryz.ntmps78
  go_wp2_with fail
  refine HC.out.mono ?_
  rintro e W1 ⟨⟨u, k, x, rfl, hp, hx0, hx1⟩, hb⟩
  have HB := hid hb
  have HP := hid hp
  clear hb hp
  cases hn : numB most s with
  | true =>
    have HQ := hid hn
    obtain ⟨rfl, rfl, hl, hlt⟩ := HOK.out u k HP.out hn
    have hx := hx0 rfl
    subst hx
    have HV : Hid (V = (valD s : Int)) := by show _ = _; rw [HNV.out, hn]; rfl
    have h1 : ¬ m < (D.size : Int) := by have := HZ.out; omega
    have h2 : (valD s : Int) ≤ 99999999 := by omega
    have h3 : (0 : Int) ≤ (valD s : Int) := by omega
    clear hx0 hx1 hn HNV hl hlt
    generalize (valD s : Int) = vv at HV h2 h3
    go_wp2_with fail
    go_ret2
    exact ⟨by rw [HV.out, HQ.out]; rfl, HB.out⟩
  | false =>
    have HQ := hid hn
    have HV : Hid (V = 0) := by show _ = _; rw [HNV.out, hn]; rfl
    by_cases hk : k = 0
    · have hx := hx0 hk
      subst hx
      have hl := HNO.out u k HP.out hn hk
      have h1 : m < (D.size : Int) := by have := HZ.out; omega
      clear hx0 hx1 hn HNV hl hk
      go_wp2_with fail
      go_ret2
      exact ⟨by rw [HV.out, HQ.out]; rfl, HB.out⟩
    · obtain ⟨t, p, rfl⟩ := hx1 hk
      clear hx0 hx1 hn HNV hk
      go_wp2_with fail
      go_ret2
      exact ⟨by rw [HV.out, HQ.out]; rfl, HB.out⟩
end Go.Proofs.YtclonnpglikddaaGreatDoor
