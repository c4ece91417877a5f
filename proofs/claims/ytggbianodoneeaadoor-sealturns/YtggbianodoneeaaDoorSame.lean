
/- What mac.Same and mac.Check do. -/
import Derived.Test.YtggbianodoneeaaDoorMacOf0
namespace Go.Proofs.YtggbianodoneeaaDoor
open Go.RowKit
set_option linter.unusedSimpArgs false
set_option linter.unusedVariables false

theorem u8_or (a b : UInt8) : bits .or .u8 (a.toNat : Int) (b.toNat : Int) = ((a ||| b).toNat : Int) := by
  have ha : BitVec.ofInt 8 (a.toNat : Int) = a.toBitVec := by
    rw [BitVec.ofInt_natCast]; exact BitVec.eq_of_toNat_eq (by simp)
  have hb : BitVec.ofInt 8 (b.toNat : Int) = b.toBitVec := by
    rw [BitVec.ofInt_natCast]; exact BitVec.eq_of_toNat_eq (by simp)
  unfold bits
  simp only [IntKind.bits, ha, hb]
  have hw : ∀ v : BitVec 8, IntKind.u8.wrap (v.toNat : Int) = (v.toNat : Int) := fun v => by
    rw [IntKind.wrap_u8]; have := v.isLt; omega
  exact hw _
theorem or_zero (x a b : UInt8) : x ||| (a ^^^ b) = 0 ↔ x = 0 ∧ a = b := by
  constructor
  · intro h
    have hn : x.toNat ||| (a ^^^ b).toNat = 0 := by rw [← UInt8.toNat_or, h]; rfl
    have h1 : x.toNat = 0 := Nat.le_zero.1 (hn ▸ Nat.left_le_or)
    have h2 : (a ^^^ b).toNat = 0 := Nat.le_zero.1 (hn ▸ Nat.right_le_or)
    have h3 : x = 0 := UInt8.toNat_inj.1 h1
    have h4 : a ^^^ b = 0 := UInt8.toNat_inj.1 h2
    exact ⟨h3, UInt8.xor_eq_zero_iff.1 h4⟩
  · rintro ⟨rfl, rfl⟩
    rw [UInt8.xor_self]; rfl
theorem take_same (a b : List UInt8) (k : Nat) (ha : k < a.length) (hb : k < b.length) : a.take (k + 1) = b.take (k + 1) ↔ a.take k = b.take k ∧ a.getD k 0 = b.getD k 0 := by
  rw [List.take_succ_eq_append_getElem ha, List.take_succ_eq_append_getElem hb]
  have e1 : a.getD k 0 = a[k] := by rw [List.getD_eq_getElem?_getD, List.getElem?_eq_getElem ha]; rfl
  have e2 : b.getD k 0 = b[k] := by rw [List.getD_eq_getElem?_getD, List.getElem?_eq_getElem hb]; rfl
  rw [e1, e2]
  constructor
  · intro h
    have := List.append_inj h (by simp; omega)
    exact ⟨this.1, by simpa using this.2⟩
  · rintro ⟨h1, h2⟩; rw [h1, h2]

set_option maxRecDepth 100000 in
set_option maxHeartbeats 1000000 in
theorem same_any (a b : List UInt8) (A B : Option Addr) (c d : Nat) (w : World) (hA : BytesAt w A a) (hB : BytesAt w B b) (hl : a.length ≤ 9223372036854775807) (t : Bool) (ht : t = decide (a = b)) :
    Calls Tryd.prog 29 #[.slice A a.length c, .slice B b.length d] w fun e w' => e = .returned (.bool t) ∧ ∃ n, w' = w.drewN n := by
  have HA := hid hA
  have HB := hid hB
  have HT := hid ht
  clear hA hB ht
  by_cases hn : a.length = b.length
  · have hni : (a.length : Int) = (b.length : Int) := by omega
    have HN := hid hn
    rw [← hn]
    clear hni hn
    go_enter Tryd.func29, Tryd.ntmps29
    go_wp2_with fail
    go_loopw [5, 14] (fun u i wr => ∃ (k : Nat) (x : UInt8), k ≤ a.length ∧ i = .int .i64 k ∧ u = .int .u8 (x.toNat : Int) ∧ Hid (x = 0 ↔ a.take k = b.take k) ∧ Hid (∃ n, wr = w.drewN n)) (fun _ i _ => a.length - (intOf i).toNat)
    case atStart => exact ⟨0, 0, Nat.zero_le _, rfl, rfl, by show _ ↔ _; simp, 0, by rw [World.drewN_zero]⟩
    case round =>
      obtain ⟨k, x, hk, rfl, rfl, HX, HW⟩ := hrel
      by_cases hlt : k < a.length
      · obtain ⟨q, o, rfl, hq, hc⟩ := HA.out (by omega)
        obtain ⟨q2, o2, rfl, hq2, hc2⟩ := HB.out (by have := HN.out; omega)
        obtain ⟨y, hy⟩ : ∃ y, Hid (y = a.getD k 0) := ⟨_, rfl⟩
        obtain ⟨z, hz⟩ : ∃ z, Hid (z = b.getD k 0) := ⟨_, rfl⟩
        have cy : wr.cell? ⟨q, o + k, none⟩ = some (.int .u8 y.toNat) := by
          obtain ⟨n, hn⟩ := HW.out
          rw [hn, World.cell?_drewN, hc k hlt, hy.out]
        have cz : wr.cell? ⟨q2, o2 + k, none⟩ = some (.int .u8 z.toNat) := by
          obtain ⟨n, hn⟩ := HW.out
          rw [hn, World.cell?_drewN, hc2 k (by rw [← HN.out]; exact hlt), hz.out]
        obtain ⟨v, hv, hv2⟩ : ∃ v : UInt8, bits .xor .u8 (y.toNat : Int) (z.toNat : Int) = (v.toNat : Int) ∧ Hid (v = y ^^^ z) := ⟨_, u8_xor y z, rfl⟩
        obtain ⟨u, hu, hu2⟩ : ∃ u : UInt8, bits .or .u8 (x.toNat : Int) (v.toNat : Int) = (u.toNat : Int) ∧ Hid (u = x ||| v) := ⟨_, u8_or x v, rfl⟩
        have HU : Hid (u = 0 ↔ a.take (k + 1) = b.take (k + 1)) := by
          show _ ↔ _
          rw [hu2.out, hv2.out, or_zero, take_same a b k hlt (by rw [← HN.out]; exact hlt), HX.out, hy.out, hz.out]
        clear hc hc2
        go_wp2_with fail
        go_quiet (fail)
        go_wp2_with fail
        go_roundw
        case rel => exact ⟨k + 1, u, by omega, by go_num, rfl, HU, by obtain ⟨n, hn⟩ := HW.out; exact ⟨n + nq, by rw [hn, World.drewN_drewN]⟩⟩
        case measure => simp [intOf]; omega
      · have hX := HX.out
        rw [List.take_of_length_le (by omega), List.take_of_length_le (by rw [← HN.out]; omega)] at hX
        by_cases he : a = b
        · have hx2 : x.toNat = 0 := by rw [hX.2 he]; rfl
          have HX2 := hid hx2
          have ht : t = true := by rw [HT.out]; simp [he]
          subst ht
          clear hX hx2 he
          go_wp2_with fail
          go_ret
          exact ⟨by simp [HX2.out], HW.out⟩
        · have hx0 : ¬ x = 0 := fun h => he (hX.1 h)
          have hx1 : ¬ (x.toNat = 0) := fun h => hx0 (UInt8.toNat_inj.1 h)
          have HX2 := hid hx1
          have ht : t = false := by rw [HT.out]; simp [he]
          subst ht
          clear hX hx0 hx1
          go_wp2_with fail
          go_ret
          exact ⟨by simp [HX2.out], HW.out⟩
  · have hni : ¬ ((a.length : Int) = (b.length : Int)) := by omega
    have ht : t = false := by rw [HT.out]; simp; intro h; exact hn (by rw [h])
    subst ht
    go_enter Tryd.func29, Tryd.ntmps29
    go_wp2_with fail
    go_ret
    exact ⟨rfl, 0, by rw [World.drewN_zero]⟩

set_option maxHeartbeats 400000 in
theorem check_any (s : ByteArray) (w : World) (n : Int) (hn : n = if s.size < 8 then 1 else if 128 < s.size then 3 else 0) :
    Calls Tryd.prog 30 #[.string s] w fun e w' => e = .returned (.int .i64 n) ∧ w' = w := by
  by_cases h1 : s.size < 8
  · rw [if_pos h1] at hn; subst hn
    have h2 : (s.size : Int) < 8 := by omega
    go_enter Tryd.func30, Tryd.ntmps30
    go_wp2_with fail
    go_ret
    exact ⟨rfl, rfl⟩
  · rw [if_neg h1] at hn
    have h2 : ¬ (s.size : Int) < 8 := by omega
    by_cases h3 : 128 < s.size
    · rw [if_pos h3] at hn; subst hn
      have h4 : (128 : Int) < (s.size : Int) := by omega
      go_enter Tryd.func30, Tryd.ntmps30
      go_wp2_with fail
      go_ret
      exact ⟨rfl, rfl⟩
    · rw [if_neg h3] at hn; subst hn
      have h4 : ¬ (128 : Int) < (s.size : Int) := by omega
      go_enter Tryd.func30, Tryd.ntmps30
      go_wp2_with fail
      go_ret
      exact ⟨rfl, rfl⟩

end Go.Proofs.YtggbianodoneeaaDoor
