
/- What ip's digit, number, strictNumber and groupNumber do, and the reference's digit and number. -/
import Derived.Test.YtlblefcmilfjdaaGreatDoorProg
import Derived.Test.YtlblefcmilfjdaaGreatDoorIpBook
import Derived.Test.YtlblefcmilfjdaaGreatDoorMem
import Derived.WalkKit
import Derived.Below
import Derived.Deep.QuietTactic
import Derived.BigQuiet
namespace Go.Proofs.YtlblefcmilfjdaaGreatDoor
open Go.RowKit

def dgN (c : UInt8) : Nat := if dig c < 16 then dig c else 16
theorem dgN_lt (c : UInt8) (base : Nat) (hb : base ≤ 16) : dgN c < base ↔ dig c < base := by unfold dgN; split <;> omega
theorem dgN_eq (c : UInt8) (base : Nat) (hb : base ≤ 16) (h : dig c < base) : dgN c = dig c := by unfold dgN; rw [if_pos (by omega)]
theorem dgN_le (c : UInt8) : dgN c ≤ 16 := by unfold dgN; split <;> omega
theorem dgN_a (c : UInt8) (h1 : 48 ≤ c.toNat) (h2 : c.toNat ≤ 57) : dgN c = c.toNat - 48 := by
  have e : dig c = c.toNat - 48 := by unfold dig; rw [if_pos ⟨h1, h2⟩]
  unfold dgN; rw [e, if_pos (by omega)]
theorem dgN_b (c : UInt8) (h1 : 97 ≤ c.toNat) (h2 : c.toNat ≤ 102) : dgN c = c.toNat - 87 := by
  have e : dig c = c.toNat - 87 := by unfold dig; rw [if_neg (by omega), if_pos ⟨h1, h2⟩]
  unfold dgN; rw [e, if_pos (by omega)]
theorem dgN_c (c : UInt8) (h1 : 65 ≤ c.toNat) (h2 : c.toNat ≤ 70) : dgN c = c.toNat - 55 := by
  have e : dig c = c.toNat - 55 := by unfold dig; rw [if_neg (by omega), if_neg (by omega), if_pos ⟨h1, h2⟩]
  unfold dgN; rw [e, if_pos (by omega)]
theorem dgN_d (c : UInt8) (h1 : ¬ (48 ≤ c.toNat ∧ c.toNat ≤ 57)) (h2 : ¬ (97 ≤ c.toNat ∧ c.toNat ≤ 102)) (h3 : ¬ (65 ≤ c.toNat ∧ c.toNat ≤ 70)) : dgN c = 16 := by
  have e : dig c = 99 := by unfold dig; rw [if_neg h1, if_neg h2, if_neg h3]
  unfold dgN; rw [e, if_neg (by omega)]

set_option maxHeartbeats 1000000 in
theorem digit_any (c : UInt8) (w : World) : Calls Tryz.prog 171 #[.int .u8 c.toNat] w fun e w' => e = .returned (.int .u64 (dgN c)) ∧ w' = w := by
  have hc := c.toNat_lt
  by_cases h1 : (48 : Int) ≤ (c.toNat : Int)
  · by_cases h2 : (c.toNat : Int) ≤ 57
    · have HD := hid (dgN_a c (by omega) (by omega))
      go_enter Tryz.func171, Tryz.ntmps171
      go_wp2
      go_ret
      exact ⟨congrArg (fun z => Ending.returned (Value.int .u64 z)) (show _ = ((dgN c : Nat) : Int) by rw [HD.out]; omega), rfl⟩
    · by_cases h3 : (97 : Int) ≤ (c.toNat : Int)
      · by_cases h4 : (c.toNat : Int) ≤ 102
        · have HD := hid (dgN_b c (by omega) (by omega))
          go_enter Tryz.func171, Tryz.ntmps171
          go_wp2
          go_ret
          exact ⟨congrArg (fun z => Ending.returned (Value.int .u64 z)) (show _ = ((dgN c : Nat) : Int) by rw [HD.out]; omega), rfl⟩
        · have h5 : (65 : Int) ≤ (c.toNat : Int) := by omega
          have h6 : ¬ (c.toNat : Int) ≤ 70 := by omega
          have HD := hid (dgN_d c (by omega) (by omega) (by omega))
          go_enter Tryz.func171, Tryz.ntmps171
          go_wp2
          go_ret
          exact ⟨by rw [HD.out]; rfl, rfl⟩
      · by_cases h5 : (65 : Int) ≤ (c.toNat : Int)
        · by_cases h6 : (c.toNat : Int) ≤ 70
          · have HD := hid (dgN_c c (by omega) (by omega))
            go_enter Tryz.func171, Tryz.ntmps171
            go_wp2
            go_ret
            exact ⟨congrArg (fun z => Ending.returned (Value.int .u64 z)) (show _ = ((dgN c : Nat) : Int) by rw [HD.out]; omega), rfl⟩
          · have HD := hid (dgN_d c (by omega) (by omega) (by omega))
            go_enter Tryz.func171, Tryz.ntmps171
            go_wp2
            go_ret
            exact ⟨by rw [HD.out]; rfl, rfl⟩
        · have HD := hid (dgN_d c (by omega) (by omega) (by omega))
          go_enter Tryz.func171, Tryz.ntmps171
          go_wp2
          go_ret
          exact ⟨by rw [HD.out]; rfl, rfl⟩
  · have h3 : ¬ (97 : Int) ≤ (c.toNat : Int) := by omega
    have h5 : ¬ (65 : Int) ≤ (c.toNat : Int) := by omega
    have HD := hid (dgN_d c (by omega) (by omega) (by omega))
    go_enter Tryz.func171, Tryz.ntmps171
    go_wp2
    go_ret
    exact ⟨by rw [HD.out]; rfl, rfl⟩

theorem byte_at (s : ByteArray) (p : Nat) (h : p < s.size) : s.data.toList.getD p 0 = s[p] := by
  rw [List.getD_eq_getElem?_getD, List.getElem?_eq_getElem (by simpa using h)]; simp; rfl
theorem take_at (s : ByteArray) (p : Nat) (h : p < s.size) : s.data.toList.take (p + 1) = s.data.toList.take p ++ [s[p]] := by
  rw [List.take_add_one, List.getElem?_eq_getElem (by simpa using h)]; simp; rfl
theorem split_at (s : ByteArray) (p : Nat) (h : p < s.size) : s.data.toList = s.data.toList.take p ++ s[p] :: s.data.toList.drop (p + 1) := by
  conv => lhs; rw [← List.take_append_drop p s.data.toList]
  rw [List.drop_eq_getElem_cons (by simpa using h)]; simp; rfl
theorem wrap_muladd (n d base e : Nat) (h : n < e) (hb : base ≤ 16) (he : e ≤ 4294967296) (hd : d ≤ 16) : ∃ m q : Nat, m = n * base ∧ q = m + d ∧ IntKind.u64.wrap ((n : Int) * (base : Int)) = (m : Int) ∧ IntKind.u64.wrap ((m : Int) + (d : Int)) = (q : Int) := by
  have h1 : n * base ≤ n * 16 := Nat.mul_le_mul_left n hb
  obtain ⟨m, hm⟩ : ∃ m, m = n * base := ⟨_, rfl⟩
  rw [← hm] at h1
  refine ⟨m, m + d, hm, rfl, ?_, ?_⟩
  · rw [show (n : Int) * (base : Int) = (m : Int) from by rw [hm]; exact (Int.natCast_mul n base).symm, IntKind.wrap_u64]; omega
  · rw [IntKind.wrap_u64]; omega
theorem mul_lt (n d base e : Nat) (h : n < e) (hb : base ≤ 16) (he : e ≤ 4294967296) (hd : d ≤ 16) : n * base + d < 18446744073709551616 := by
  have : n * base ≤ n * 16 := Nat.mul_le_mul_left n hb
  omega

def numV (base e : Nat) (l : List UInt8) : Nat := if numOk base e l then valB base l else 0
set_option maxHeartbeats 1000000 in
theorem number_any (s : ByteArray) (base e : Nat) (w : World) (hs : s.size ≤ 1000000) (hb1 : 1 ≤ base) (hb : base ≤ 16) (he1 : 1 ≤ e) (he : e ≤ 4294967296) :
    Calls Tryz.prog 168 #[.string s, .int .u64 base, .int .u64 e] w fun r w' => r = .returned (.tuple #[.int .u64 (numV base e s.data.toList), .bool (numOk base e s.data.toList)]) ∧ w' = w := by
  go_enter Tryz.func168, Tryz.ntmps168
  go_wp2
  go_loop [8, 13] (fun v i => ∃ (k n : Nat), k ≤ s.size ∧ i = .int .i64 (k : Int) ∧ v = .int .u64 (n : Int) ∧ n < e ∧ Hid (n = valB base (s.data.toList.take k)) ∧ Hid (((s.data.toList.take k).all fun c => decide (dig c < base)) = true)) (fun _ i => s.size - (intOf i).toNat)
  case atStart => exact ⟨0, 0, Nat.zero_le _, rfl, rfl, by omega, rfl, rfl⟩
  case round =>
    obtain ⟨k, n, hk, rfl, rfl, hn, HV, HA⟩ := hrel
    by_cases hp : k < s.size
    · have HT := hid (take_at s k hp)
      have HS := hid (split_at s k hp)
      obtain ⟨m, q, hm, hq, w1, w2⟩ := wrap_muladd n (dgN s[k]) base e hn hb he (dgN_le _)
      have HQ : Hid (q = n * base + dgN s[k]) := by rw [hq, hm]; rfl
      clear hm hq
      by_cases hd : dig s[k] < base
      · have hd1 : ((dgN s[k] : Nat) : Int) < base := by have := (dgN_lt s[k] base hb).2 hd; omega
        have HE := hid (dgN_eq s[k] base hb hd)
        have HD := hid hd
        clear hd
        have HN : Hid (q = valB base (s.data.toList.take (k + 1))) := by
          show _ = _
          rw [HQ.out, HT.out, valB_snoc, ← HV.out, HE.out]
        by_cases hv : (q : Int) < e
        · go_wp2_with (go_at_call 171; refine (digit_any _ _).mono ?_; rintro r w' ⟨rfl, rfl⟩)
          go_round
          case rel =>
            refine ⟨k + 1, q, by omega, by go_num, rfl, by omega, HN, ?_⟩
            · show _ = _
              rw [HT.out, List.all_append, HA.out]
              simpa using HD.out
          case measure => simp [intOf]; omega
        · have HF : Hid (numOk base e s.data.toList = false) := by
            show _ = _
            rw [HS.out]
            refine numOk_stop base e hb1 _ _ _ (Or.inr ?_)
            rw [← HT.out, ← HN.out]
            omega
          go_wp2_with (go_at_call 171; refine (digit_any _ _).mono ?_; rintro r w' ⟨rfl, rfl⟩)
          go_ret2
          exact ⟨by rw [numV, HF.out]; rfl, rfl⟩
      · have hd1 : ¬ ((dgN s[k] : Nat) : Int) < base := by have := (dgN_lt s[k] base hb); omega
        have HF : Hid (numOk base e s.data.toList = false) := by
          show _ = _
          rw [HS.out]
          exact numOk_stop base e hb1 _ _ _ (Or.inl hd)
        clear hd
        go_wp2_with (go_at_call 171; refine (digit_any _ _).mono ?_; rintro r w' ⟨rfl, rfl⟩)
        go_ret2
        exact ⟨by rw [numV, HF.out]; rfl, rfl⟩
    · have hke : k = s.size := by omega
      subst hke
      have HF : Hid (numOk base e s.data.toList = true ∧ n = valB base s.data.toList) := by
        have e1 : s.data.toList.take s.size = s.data.toList := List.take_of_length_le (by simp)
        have h1 := HV.out
        have h2 := HA.out
        rw [e1] at h1 h2
        refine ⟨?_, h1⟩
        unfold numOk
        rw [h2, ← h1]
        simpa using hn
      go_wp2
      go_ret2
      exact ⟨by rw [numV, HF.out.1, HF.out.2]; rfl, rfl⟩
end Go.Proofs.YtlblefcmilfjdaaGreatDoor
