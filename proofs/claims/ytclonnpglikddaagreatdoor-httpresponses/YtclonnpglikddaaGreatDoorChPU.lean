
/- Hexadecimal digits read: what strconv.ParseUint does at base sixteen with at most eight signs. -/
import Derived.Test.YtclonnpglikddaaGreatDoorTxBase
import Derived.Test.YtclonnpglikddaaGreatDoorHtPlain
import Derived.Laws.Closers25
namespace Go.Proofs.YtclonnpglikddaaGreatDoor
set_option linter.unusedVariables false
set_option linter.unusedSimpArgs false
open Go.RowKit Go.BigFrame

theorem u8_or (a b : UInt8) : bits .or .u8 (a.toNat : Int) (b.toNat : Int) = ((a ||| b).toNat : Int) := by
  have ha : BitVec.ofInt 8 (a.toNat : Int) = a.toBitVec := by
    rw [BitVec.ofInt_natCast]; exact BitVec.eq_of_toNat_eq (by simp)
  have hb : BitVec.ofInt 8 (b.toNat : Int) = b.toBitVec := by
    rw [BitVec.ofInt_natCast]; exact BitVec.eq_of_toNat_eq (by simp)
  unfold bits
  simp only [IntKind.bits, ha, hb]
  have hw : ∀ v : BitVec 8, IntKind.u8.wrap (v.toNat : Int) = (v.toNat : Int) := fun v => by
    rw [IntKind.wrap_u8]; have := v.isLt; omega
  exact hw _
/-- A sign in lower case, as the library puts it. -/
def lowN (c : UInt8) : Nat := (c ||| 32).toNat
theorem lower16 (c : UInt8) (w : World) : Calls Tryz.prog 150 #[.int .u8 c.toNat] w fun e w' => e = .returned (.int .u8 (lowN c)) ∧ w' = w := by
  have h := Tryz.internal_strconv_lower (c.toNat : Int) w
  rw [show bits .or .u8 (c.toNat : Int) 32 = ((lowN c : Nat) : Int) from u8_or c 32] at h
  exact h
theorem low_fin : ∀ n : Fin 256, (isHx (UInt8.ofNat n.val) = true → ¬ (48 ≤ n.val ∧ n.val ≤ 57) → 97 ≤ lowN (UInt8.ofNat n.val) ∧ lowN (UInt8.ofNat n.val) ≤ 102 ∧ hxv (UInt8.ofNat n.val) = lowN (UInt8.ofNat n.val) - 97 + 10) ∧ (isHx (UInt8.ofNat n.val) = true → (48 ≤ n.val ∧ n.val ≤ 57) → hxv (UInt8.ofNat n.val) = n.val - 48) ∧ (isHx (UInt8.ofNat n.val) = false → ¬ (48 ≤ n.val ∧ n.val ≤ 57) ∧ (lowN (UInt8.ofNat n.val) < 97 ∨ 103 ≤ lowN (UInt8.ofNat n.val))) ∧ lowN (UInt8.ofNat n.val) < 256 ∧ (isHx (UInt8.ofNat n.val) = true → n.val ≠ 95) := by decide +kernel
theorem low_of (c : UInt8) : (isHx c = true → ¬ (48 ≤ c.toNat ∧ c.toNat ≤ 57) → 97 ≤ lowN c ∧ lowN c ≤ 102 ∧ hxv c = lowN c - 97 + 10) ∧ (isHx c = true → (48 ≤ c.toNat ∧ c.toNat ≤ 57) → hxv c = c.toNat - 48) ∧ (isHx c = false → ¬ (48 ≤ c.toNat ∧ c.toNat ≤ 57) ∧ (lowN c < 97 ∨ 103 ≤ lowN c)) ∧ lowN c < 256 ∧ (isHx c = true → c.toNat ≠ 95) := by
  have := low_fin ⟨c.toNat, c.toNat_lt⟩
  simp only [UInt8.ofNat_toNat] at this
  exact this
/-- k digits are read, their number so far. -/
structure AtP (d : List UInt8) (k acc : Nat) : Prop where
  all : (d.take k).all isHx = true
  val : valC (d.take k) = acc
theorem AtP.lt {d : List UInt8} {k acc : Nat} (h : AtP d k acc) : acc < 16 ^ k := by
  have h1 := val_lt _ h.all
  rw [h.val] at h1
  refine Nat.lt_of_lt_of_le h1 (Nat.pow_le_pow_right (by decide) ?_)
  rw [List.length_take]; omega
theorem AtP.small {d : List UInt8} {k acc : Nat} (h : AtP d k acc) (hk : k ≤ 7) : acc < 268435456 := by
  have h1 := h.lt
  have h2 : 16 ^ k ≤ 16 ^ 7 := Nat.pow_le_pow_right (by decide) hk
  omega
theorem AtP.step {d : List UInt8} {k acc : Nat} (h : AtP d k acc) (hk : k < d.length) (hx : isHx (d.getD k 0) = true) : AtP d (k + 1) (acc * 16 + hxv (d.getD k 0)) := by
  refine ⟨?_, ?_⟩
  · rw [all_take _ _ _ hk, h.all, hx]; rfl
  · rw [take_snoc _ _ hk, val_snoc, h.val]
set_option maxHeartbeats 8000000 in
set_option maxRecDepth 100000 in
theorem pu_in (d : List UInt8) (hd : d ≠ []) (h8 : d.length ≤ 8) (w : World) : Calls Tryz.prog 130 #[.string (asS d), .int .i64 16, .int .i64 32] w fun e w' => e = .returned (if d.all isHx then .tuple #[.int .u64 (valC d : Int), .nilIface] else .tuple #[.int .u64 0, .iface 159 (.int .i64 2)]) ∧ Below w.heap.size w w' := by
  have hemp : (asS d).toList.isEmpty = false := by rw [emp8]; exact decide_eq_false hd
  obtain ⟨cap, W1, hcv, hB0, hbl⟩ := conv_in w (asS d)
  have HB := hid hB0
  have HBL := hid hbl.1
  rw [asS_data] at HB
  have hsz := asS_size d
  rw [hsz] at hcv
  have HFA : Hid (∀ k, k < d.length → isHx (d.getD k 0) = false → d.all isHx = false) := fun k hk h => by
    cases hh : d.all isHx with
    | false => rfl
    | true =>
      have := List.all_eq_true.1 hh (d.getD k 0) (by rw [List.getD_eq_getElem?_getD, List.getElem?_eq_getElem hk]; exact List.getElem_mem hk)
      rw [h] at this; cases this
  have HCL : Hid (∀ k, k < d.length → W1.cell? ⟨w.heap.size, k, none⟩ = some (.int .u8 (d.getD k 0).toNat)) := fun k hk => by
    obtain ⟨q, o, e, _, hc⟩ := HB.out (by omega)
    cases e
    have := hc k hk
    rwa [Nat.zero_add] at this
  have HT : Hid (AtP d d.length (valC d) → True) := fun _ => trivial
  have hmv : IntKind.u64.wrap (IntKind.u64.wrap 4294967296 - 1) = 4294967295 := by
    rw [IntKind.wrap_u64, IntKind.wrap_u64]
    decide
  obtain ⟨n, hn⟩ : ∃ n, n = d.length := ⟨_, rfl⟩
  rw [← hn] at hcv h8 HFA HCL
  have HN := hid hn
  generalize asS d = D at hemp hcv ⊢
  clear hn hsz hd hB0 hbl HB HT
  have HAL : Hid (∀ acc, AtP d n acc → d.all isHx = true ∧ valC d = acc) := fun acc h => by
    have h1 := h.all
    have h2 := h.val
    rw [HN.out, List.take_length] at h1 h2
    exact ⟨h1, h2⟩
  obtain ⟨R, hR⟩ : ∃ R, R = (if d.all isHx then Value.tuple #[.int .u64 (valC d : Int), .nilIface] else .tuple #[.int .u64 0, .iface 159 (.int .i64 2)]) := ⟨_, rfl⟩
  rw [← hR]
  have HR := hid hR
  clear hR
  go_enter Tryz.func130, Tryz.ntmps130
  go_wp2_with fail
  go_loop [12, 13, 101] (fun vu vn vi => ∃ (k : Nat) (a : Int), vu = .bool false ∧ vn = .int .u64 a ∧ vi = .int .i64 (k : Int) ∧ k ≤ n ∧ Hid (0 ≤ a ∧ AtP d k a.toNat)) (fun _ _ vi => n - (intOf vi).toNat)
  case atStart => exact ⟨0, 0, rfl, rfl, rfl, Nat.zero_le _, Int.le_refl _, by rw [List.take_zero]; rfl, by rw [List.take_zero]; rfl⟩
  case round =>
    obtain ⟨k, a, rfl, rfl, rfl, hk, HA⟩ := hrel
    by_cases hkn : k < n
    · have hc := HCL.out k hkn
      have a0 := HA.out.1
      have a1 : a ≤ 268435455 := by have := HA.out.2.small (by omega); omega
      have HST := hid (HA.out.2.step (by rw [← HN.out]; exact hkn))
      have HFK := hid (HFA.out k hkn)
      obtain ⟨c, hcc⟩ : ∃ c, d.getD k 0 = c := ⟨_, rfl⟩
      rw [hcc] at hc HST HFK
      clear hcc
      have HLW := hid (lower16 c)
      obtain ⟨f1, f2, f3, f4, f5⟩ := low_of c
      have hc256 := c.toNat_lt
      cases hx : isHx c
      · have HF := hid (HFK.out hx)
        obtain ⟨g1, g2⟩ := f3 hx
        clear f1 f2 f3 f5 hx HST
        generalize lowN c = v at HLW f4 g2
        have HRE : Hid (R = .tuple #[.int .u64 0, .iface 159 (.int .i64 2)]) := by show _ = _; rw [HR.out, HF.out]; rfl
        generalize c.toNat = x at hc HLW g1 hc256
        obtain ⟨b95, h95⟩ : ∃ b, ((x : Int) == 95) = b := ⟨_, rfl⟩
        cases b95 <;> rcases (show x < 48 ∨ 57 < x by omega) with hx1 | hx1 <;> rcases (show v < 97 ∨ 122 < v ∨ (103 ≤ v ∧ v ≤ 122) by omega) with hv1 | hv1 | hv1
        all_goals (clear g1 g2)
        all_goals go_wp2_with (first | (go_at_call 150; refine (HLW.out _).mono ?_; rintro e W ⟨rfl, rfl⟩) | fail)
        all_goals go_ret2
        all_goals exact ⟨by rw [HRE.out]; rfl, HBL.out⟩
      · have HS2 := hid (HST.out hx)
        by_cases hdg : 48 ≤ c.toNat ∧ c.toNat ≤ 57
        · have hv := f2 hx hdg
          rw [hv] at HS2
          obtain ⟨d1, d2⟩ := hdg
          clear f1 f2 f3 f4 f5 hx HST HLW HFK hv
          generalize c.toNat = x at hc d1 d2 HS2 hc256
          have h95 : ((x : Int) == 95) = false := by rw [beq_eq_false_iff_ne]; omega
          have HS3 : Hid (0 ≤ a * 16 + ((x : Int) - 48) ∧ AtP d (k + 1) (a * 16 + ((x : Int) - 48)).toNat) := ⟨by omega, by rw [show (a * 16 + ((x : Int) - 48)).toNat = a.toNat * 16 + (x - 48) from by omega]; exact HS2.out⟩
          clear HS2
          go_wp2_with fail
          go_round
          case rel => exact ⟨k + 1, _, rfl, rfl, by go_num, by omega, HS3⟩
          case measure => simp [intOf]; omega
        · obtain ⟨v1, v2, v3⟩ := f1 hx hdg
          have hx95 := f5 hx
          rw [v3] at HS2
          clear f1 f2 f3 f5 hx HST HFK v3
          generalize lowN c = v at HLW v1 v2 f4 HS2
          generalize c.toNat = x at hc hdg hc256 HLW hx95
          have HS3 : Hid (0 ≤ a * 16 + ((v : Int) - 97 + 10) ∧ AtP d (k + 1) (a * 16 + ((v : Int) - 97 + 10)).toNat) := ⟨by omega, by rw [show (a * 16 + ((v : Int) - 97 + 10)).toNat = a.toNat * 16 + (v - 97 + 10) from by omega]; exact HS2.out⟩
          clear HS2
          have h95 : ((x : Int) == 95) = false := by rw [beq_eq_false_iff_ne]; omega
          rcases (show x < 48 ∨ 57 < x by omega) with hx1 | hx1
          all_goals (clear hdg hx95)
          all_goals go_wp2_with (first | (go_at_call 150; refine (HLW.out _).mono ?_; rintro e W ⟨rfl, rfl⟩) | fail)
          all_goals go_round
          case rel => exact ⟨k + 1, _, rfl, rfl, by go_num, by omega, HS3⟩
          case measure => simp [intOf]; omega
          case rel => exact ⟨k + 1, _, rfl, rfl, by go_num, by omega, HS3⟩
          case measure => simp [intOf]; omega
    · obtain rfl : k = n := by omega
      have HF := hid (HAL.out a.toNat HA.out.2)
      have a0 := HA.out.1
      have HRE : Hid (R = .tuple #[.int .u64 a, .nilIface]) := by show _ = _; rw [HR.out, HF.out.1, HF.out.2, show ((a.toNat : Nat) : Int) = a from by omega]; rfl
      go_wp2_with fail
      go_ret2
      exact ⟨by rw [HRE.out]; rfl, HBL.out⟩
end Go.Proofs.YtclonnpglikddaaGreatDoor
