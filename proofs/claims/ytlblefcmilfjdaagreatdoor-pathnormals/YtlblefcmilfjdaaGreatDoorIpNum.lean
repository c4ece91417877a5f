
/- What ip's strictNumber and groupNumber do, and the reference's digit, number and part. -/
import Derived.Test.YtlblefcmilfjdaaGreatDoorIpLeaf
namespace Go.Proofs.YtlblefcmilfjdaaGreatDoor
open Go.RowKit

theorem empty_iff (s : ByteArray) : s.toList.isEmpty = decide (s.size = 0) := by
  rw [Lib.toList_data]
  cases h : s.data.toList with
  | nil => have : s.size = 0 := by rw [Lib.size_eq, h]; rfl
           simp [this]
  | cons a r => have : s.size ≠ 0 := by rw [Lib.size_eq, h]; simp
                simp [this]
theorem list_nil (s : ByteArray) (h : s.size = 0) : s.data.toList = [] := List.eq_nil_of_length_eq_zero (by rw [← Lib.size_eq]; exact h)
theorem list_ne (s : ByteArray) (h : s.size ≠ 0) : s.data.toList ≠ [] := fun e => h (by rw [Lib.size_eq, e]; rfl)
theorem head_at (s : ByteArray) (h : 0 < s.size) : s.data.toList.headD 0 = s[0] := by
  rw [← byte_at s 0 h]; cases s.data.toList <;> simp
def stV (x : List UInt8) : Nat := if okFour x then valB 10 x else 0
theorem stV_ok (x : List UInt8) (h : okFour x = numOk 10 256 x) : stV x = numV 10 256 x := by unfold stV numV; rw [h]
theorem numV_lt (b e : Nat) (x : List UInt8) (he : 1 ≤ e) : numV b e x < e := by
  unfold numV
  split
  · rename_i h; unfold numOk at h; rw [Bool.and_eq_true, decide_eq_true_eq] at h; exact h.2
  · omega

set_option maxHeartbeats 1000000 in
theorem strict_any (s : ByteArray) (w : World) (hs : s.size ≤ 1000000) :
    Calls Tryz.prog 161 #[.string s] w fun r w' => r = .returned (.tuple #[.int .u8 (stV s.data.toList), .bool (okFour s.data.toList)]) ∧ w' = w := by
  by_cases h0 : s.size = 0
  · have he : s.toList.isEmpty = true := by rw [empty_iff]; simpa using h0
    have HL := hid (list_nil s h0)
    clear h0
    go_enter Tryz.func161, Tryz.ntmps161
    go_wp2
    go_ret2
    exact ⟨by rw [HL.out]; rfl, rfl⟩
  · have he : s.toList.isEmpty = false := by rw [empty_iff]; simpa using h0
    have hpos : 0 < s.size := by omega
    have HL := hid (list_ne s h0)
    have HH := hid (head_at s hpos)
    have HZ : Hid (s.data.toList.length = s.size) := (Lib.size_eq s).symm
    have HE := hid (okFour_eq s.data.toList HL.out)
    obtain ⟨v, hv⟩ : ∃ v, v = numV 10 256 s.data.toList := ⟨_, rfl⟩
    obtain ⟨o, ho⟩ : ∃ o, o = numOk 10 256 s.data.toList := ⟨_, rfl⟩
    have hvl : v < 256 := by rw [hv]; exact numV_lt 10 256 _ (by omega)
    have hN : ∀ w, Calls Tryz.prog 168 #[.string s, .int .u64 10, .int .u64 256] w fun r w' => r = .returned (.tuple #[.int .u64 v, .bool o]) ∧ w' = w := by
      intro w
      rw [hv, ho]
      exact number_any s 10 256 w hs (by omega) (by omega) (by omega) (by omega)
    have HV := hid hv; have HO := hid ho
    clear hv ho
    have hw8 : IntKind.u8.wrap (v : Int) = (v : Int) := by rw [IntKind.wrap_u8]; omega
    by_cases h1 : (1 : Int) < (s.size : Int)
    · by_cases h2 : ((s[0].toNat : Nat) : Int) = 48
      · have HF : Hid (okFour s.data.toList = false) := by
          show _ = _
          rw [HE.out, HZ.out, HH.out]
          have e1 : s[0] = 48 := UInt8.toNat_inj.1 (by simpa using (by omega : s[0].toNat = 48))
          have e2 : 1 < s.size := by omega
          simp [e1, e2]
        go_enter Tryz.func161, Tryz.ntmps161
        go_wp2
        go_ret2
        exact ⟨by rw [stV, HF.out]; rfl, rfl⟩
      · have HF : Hid (okFour s.data.toList = numOk 10 256 s.data.toList) := by
          show _ = _
          rw [HE.out, HH.out]
          have e1 : s[0] ≠ 48 := fun e => h2 (by rw [e]; rfl)
          simp [e1]
        go_enter Tryz.func161, Tryz.ntmps161
        go_wp2_with (go_at_call 168; refine (hN _).mono ?_; rintro r w' ⟨rfl, rfl⟩)
        go_ret2
        exact ⟨by rw [stV_ok _ HF.out, HF.out, ← HV.out, ← HO.out]; rfl, rfl⟩
    · have HF : Hid (okFour s.data.toList = numOk 10 256 s.data.toList) := by
        show _ = _
        rw [HE.out, HZ.out]
        have e2 : ¬ 1 < s.size := by omega
        simp [e2]
      go_enter Tryz.func161, Tryz.ntmps161
      go_wp2_with (go_at_call 168; refine (hN _).mono ?_; rintro r w' ⟨rfl, rfl⟩)
      go_ret2
      exact ⟨by rw [stV_ok _ HF.out, HF.out, ← HV.out, ← HO.out]; rfl, rfl⟩

/-- A group. -/
def okG (x : List UInt8) : Bool := decide (x ≠ []) && decide (x.length ≤ 4) && numOk 16 65536 x
def gV (x : List UInt8) : Nat := if okG x then valB 16 x else 0
set_option maxHeartbeats 1000000 in
theorem group_any (s : ByteArray) (w : World) (hs : s.size ≤ 1000000) :
    Calls Tryz.prog 166 #[.string s] w fun r w' => r = .returned (.tuple #[.int .u64 (gV s.data.toList), .bool (okG s.data.toList)]) ∧ w' = w := by
  have HZ : Hid (s.data.toList.length = s.size) := (Lib.size_eq s).symm
  by_cases h0 : s.size = 0
  · have he : s.toList.isEmpty = true := by rw [empty_iff]; simpa using h0
    have HL := hid (list_nil s h0)
    clear h0
    go_enter Tryz.func166, Tryz.ntmps166
    go_wp2
    go_ret2
    exact ⟨by rw [HL.out]; rfl, rfl⟩
  · have he : s.toList.isEmpty = false := by rw [empty_iff]; simpa using h0
    have HL := hid (list_ne s h0)
    by_cases h1 : (4 : Int) < (s.size : Int)
    · have HF : Hid (okG s.data.toList = false) := by
        show _ = _
        unfold okG
        rw [HZ.out]
        have : ¬ s.size ≤ 4 := by omega
        simp [this]
      go_enter Tryz.func166, Tryz.ntmps166
      go_wp2
      go_ret2
      exact ⟨by rw [gV, HF.out]; rfl, rfl⟩
    · have HF : Hid (okG s.data.toList = numOk 16 65536 s.data.toList) := by
        show _ = _
        unfold okG
        rw [HZ.out]
        have : s.size ≤ 4 := by omega
        have h2 := HL.out
        simp [this, h2]
      go_enter Tryz.func166, Tryz.ntmps166
      go_wp2_with (go_at_call 168; refine (number_any s 16 65536 _ hs (by omega) (by omega) (by omega) (by omega)).mono ?_; rintro r w' ⟨rfl, rfl⟩)
      go_ret2
      exact ⟨by rw [gV, HF.out]; rfl, rfl⟩

/-! The reference's. -/
def rdg (base : Nat) (c : UInt8) : Int := if dig c < base then (dig c : Int) else -1
theorem rdg_of (base : Nat) (c : UInt8) (d : Nat) (h : dig c = d) : rdg base c = if (d : Int) < base then (d : Int) else -1 := by
  unfold rdg; rw [h]; by_cases h1 : d < base
  · rw [if_pos h1, if_pos (by omega)]
  · rw [if_neg h1, if_neg (by omega)]
theorem dig_a (c : UInt8) (h1 : 48 ≤ c.toNat) (h2 : c.toNat ≤ 57) : dig c = c.toNat - 48 := by unfold dig; rw [if_pos ⟨h1, h2⟩]
theorem dig_b (c : UInt8) (h1 : 97 ≤ c.toNat) (h2 : c.toNat ≤ 102) : dig c = c.toNat - 87 := by unfold dig; rw [if_neg (by omega), if_pos ⟨h1, h2⟩]
theorem dig_c (c : UInt8) (h1 : 65 ≤ c.toNat) (h2 : c.toNat ≤ 70) : dig c = c.toNat - 55 := by unfold dig; rw [if_neg (by omega), if_neg (by omega), if_pos ⟨h1, h2⟩]
theorem dig_d (c : UInt8) (h1 : ¬ (48 ≤ c.toNat ∧ c.toNat ≤ 57)) (h2 : ¬ (97 ≤ c.toNat ∧ c.toNat ≤ 102)) (h3 : ¬ (65 ≤ c.toNat ∧ c.toNat ≤ 70)) : dig c = 99 := by unfold dig; rw [if_neg h1, if_neg h2, if_neg h3]
theorem rdg_no (base : Nat) (c : UInt8) (hb : base ≤ 16) (h : dig c = 99) : rdg base c = -1 := by unfold rdg; rw [h, if_neg (by omega)]

set_option maxHeartbeats 2000000 in
theorem refDigit_any (c : UInt8) (base : Nat) (hb1 : 1 ≤ base) (hb : base ≤ 16) (w : World) : Calls Tryz.prog 152 #[.int .u8 c.toNat, .int .i64 base] w fun e w' => e = .returned (.int .i64 (rdg base c)) ∧ w' = w := by
  have hc := c.toNat_lt
  have hm : ¬ (base : Int) ≤ -1 := by omega
  by_cases h1 : (48 : Int) ≤ (c.toNat : Int)
  · by_cases h2 : (c.toNat : Int) ≤ 57
    · have h3 : ¬ (97 : Int) ≤ (c.toNat : Int) := by omega
      have h5 : ¬ (65 : Int) ≤ (c.toNat : Int) := by omega
      have HD := hid (rdg_of base c _ (dig_a c (by omega) (by omega)))
      by_cases hd : (base : Int) ≤ (c.toNat : Int) - 48
      · go_enter Tryz.func152, Tryz.ntmps152
        go_wp2
        go_ret
        exact ⟨congrArg (fun z => Ending.returned (Value.int .i64 z)) (show _ = rdg base c by rw [HD.out, if_neg (by omega)]), rfl⟩
      · go_enter Tryz.func152, Tryz.ntmps152
        go_wp2
        go_ret
        exact ⟨congrArg (fun z => Ending.returned (Value.int .i64 z)) (show _ = rdg base c by rw [HD.out, if_pos (by omega)]; omega), rfl⟩
    · by_cases h3 : (97 : Int) ≤ (c.toNat : Int)
      · have h5 : (65 : Int) ≤ (c.toNat : Int) := by omega
        have h6 : ¬ (c.toNat : Int) ≤ 70 := by omega
        by_cases h4 : (c.toNat : Int) ≤ 102
        · have HD := hid (rdg_of base c _ (dig_b c (by omega) (by omega)))
          by_cases hd : (base : Int) ≤ (c.toNat : Int) - 87
          · go_enter Tryz.func152, Tryz.ntmps152
            go_wp2
            go_ret
            exact ⟨congrArg (fun z => Ending.returned (Value.int .i64 z)) (show _ = rdg base c by rw [HD.out, if_neg (by omega)]), rfl⟩
          · go_enter Tryz.func152, Tryz.ntmps152
            go_wp2
            go_ret
            exact ⟨congrArg (fun z => Ending.returned (Value.int .i64 z)) (show _ = rdg base c by rw [HD.out, if_pos (by omega)]; omega), rfl⟩
        · have HD := hid (rdg_no base c hb (dig_d c (by omega) (by omega) (by omega)))
          go_enter Tryz.func152, Tryz.ntmps152
          go_wp2
          go_ret
          exact ⟨congrArg (fun z => Ending.returned (Value.int .i64 z)) (show _ = rdg base c by rw [HD.out]), rfl⟩
      · by_cases h5 : (65 : Int) ≤ (c.toNat : Int)
        · by_cases h6 : (c.toNat : Int) ≤ 70
          · have HD := hid (rdg_of base c _ (dig_c c (by omega) (by omega)))
            by_cases hd : (base : Int) ≤ (c.toNat : Int) - 55
            · go_enter Tryz.func152, Tryz.ntmps152
              go_wp2
              go_ret
              exact ⟨congrArg (fun z => Ending.returned (Value.int .i64 z)) (show _ = rdg base c by rw [HD.out, if_neg (by omega)]), rfl⟩
            · go_enter Tryz.func152, Tryz.ntmps152
              go_wp2
              go_ret
              exact ⟨congrArg (fun z => Ending.returned (Value.int .i64 z)) (show _ = rdg base c by rw [HD.out, if_pos (by omega)]; omega), rfl⟩
          · have HD := hid (rdg_no base c hb (dig_d c (by omega) (by omega) (by omega)))
            go_enter Tryz.func152, Tryz.ntmps152
            go_wp2
            go_ret
            exact ⟨congrArg (fun z => Ending.returned (Value.int .i64 z)) (show _ = rdg base c by rw [HD.out]), rfl⟩
        · have HD := hid (rdg_no base c hb (dig_d c (by omega) (by omega) (by omega)))
          go_enter Tryz.func152, Tryz.ntmps152
          go_wp2
          go_ret
          exact ⟨congrArg (fun z => Ending.returned (Value.int .i64 z)) (show _ = rdg base c by rw [HD.out]), rfl⟩
  · have h3 : ¬ (97 : Int) ≤ (c.toNat : Int) := by omega
    have h5 : ¬ (65 : Int) ≤ (c.toNat : Int) := by omega
    have HD := hid (rdg_no base c hb (dig_d c (by omega) (by omega) (by omega)))
    go_enter Tryz.func152, Tryz.ntmps152
    go_wp2
    go_ret
    exact ⟨congrArg (fun z => Ending.returned (Value.int .i64 z)) (show _ = rdg base c by rw [HD.out]), rfl⟩

theorem min_step (v n base d : Nat) (hb : 1 ≤ base) (h : n = min v 4294967296) : min (n * base + d) 4294967296 = min (v * base + d) 4294967296 := by
  by_cases hv : v ≤ 4294967296
  · rw [Nat.min_eq_left hv] at h; rw [h]
  · have h1 : n = 4294967296 := by omega
    have h2 : n ≤ n * base := Nat.le_mul_of_pos_right n hb
    have h3 : v ≤ v * base := Nat.le_mul_of_pos_right v hb
    rw [Nat.min_eq_right (by omega), Nat.min_eq_right (by omega)]
theorem wrap_muladd' (n d base : Nat) (h : n ≤ 4294967296) (hb : base ≤ 16) (hd : d ≤ 16) : ∃ m q : Nat, m = n * base ∧ q = m + d ∧ IntKind.i64.wrap ((n : Int) * (base : Int)) = (m : Int) ∧ IntKind.i64.wrap ((m : Int) + (d : Int)) = (q : Int) := by
  have h1 : n * base ≤ n * 16 := Nat.mul_le_mul_left n hb
  obtain ⟨m, hm⟩ : ∃ m, m = n * base := ⟨_, rfl⟩
  rw [← hm] at h1
  refine ⟨m, m + d, hm, rfl, ?_, ?_⟩
  · rw [show (n : Int) * (base : Int) = (m : Int) from by rw [hm]; exact (Int.natCast_mul n base).symm, IntKind.wrap_i64]; omega
  · rw [IntKind.wrap_i64]; omega
theorem num_some (base : Nat) (l : List UInt8) (hl : l ≠ []) (h : (l.all fun c => decide (dig c < base)) = true) : num base l = ((min (valB base l) 4294967296 : Nat) : Int) := by
  unfold num isNum
  rw [h, if_pos (by simpa using hl)]
theorem num_stop (base : Nat) (l r : List UInt8) (c : UInt8) (h : ¬ dig c < base) : num base (l ++ c :: r) = -1 := num_no base _ c (by simp) h
theorem num_nil (base : Nat) : num base [] = -1 := by simp [num, isNum]

set_option maxHeartbeats 1000000 in
theorem refNumber_any (s : ByteArray) (base : Nat) (hb1 : 1 ≤ base) (hb : base ≤ 16) (w : World) (hs : s.size ≤ 1000000) : Calls Tryz.prog 136 #[.string s, .int .i64 base] w fun e w' => e = .returned (.int .i64 (num base s.data.toList)) ∧ w' = w := by
  by_cases h0 : s.size = 0
  · have he : s.toList.isEmpty = true := by rw [empty_iff]; simpa using h0
    have HL := hid (list_nil s h0)
    clear h0
    go_enter Tryz.func136, Tryz.ntmps136
    go_wp2
    go_ret
    exact ⟨by rw [HL.out, num_nil]; rfl, rfl⟩
  have he : s.toList.isEmpty = false := by rw [empty_iff]; simpa using h0
  have HL := hid (list_ne s h0)
  clear h0
  go_enter Tryz.func136, Tryz.ntmps136
  go_wp2
  go_loop [5, 6] (fun v i => ∃ (k n : Nat), k ≤ s.size ∧ i = .int .i64 (k : Int) ∧ v = .int .i64 (n : Int) ∧ n ≤ 4294967296 ∧ Hid (n = min (valB base (s.data.toList.take k)) 4294967296) ∧ Hid (((s.data.toList.take k).all fun c => decide (dig c < base)) = true)) (fun _ i => s.size - (intOf i).toNat)
  case atStart => exact ⟨0, 0, Nat.zero_le _, rfl, rfl, by omega, rfl, rfl⟩
  case round =>
    obtain ⟨k, n, hk, rfl, rfl, hn, HV, HA⟩ := hrel
    by_cases hp : k < s.size
    · have HT := hid (take_at s k hp)
      have HS := hid (split_at s k hp)
      by_cases hd : dig s[k] < base
      · have hr : rdg base s[k] = (dig s[k] : Int) := by unfold rdg; rw [if_pos hd]
        obtain ⟨m, q, hm, hq, w1, w2⟩ := wrap_muladd' n (dig s[k]) base hn hb (by omega)
        have HQ : Hid (q = n * base + dig s[k]) := by rw [hq, hm]; rfl
        have HN : Hid (min q 4294967296 = min (valB base (s.data.toList.take (k + 1))) 4294967296) := by
          show _ = _
          rw [HQ.out, HT.out, valB_snoc]
          exact min_step _ n base _ hb1 HV.out
        have HD : Hid (((s.data.toList.take (k + 1)).all fun c => decide (dig c < base)) = true) := by
          show _ = _
          rw [HT.out, List.all_append, HA.out]
          simpa using hd
        obtain ⟨d, hdd⟩ : ∃ d, d = dig s[k] := ⟨_, rfl⟩
        rw [← hdd] at hr w2
        have hd0 : ¬ (d : Int) < 0 := by omega
        have hC : ∀ w, Calls Tryz.prog 152 #[.int .u8 s[k].toNat, .int .i64 base] w fun e w' => e = .returned (.int .i64 (d : Int)) ∧ w' = w := fun w => by
          rw [← hr]; exact refDigit_any s[k] base hb1 hb w
        clear hm hq hr hd hdd
        by_cases hv : (4294967296 : Int) < q
        · go_wp2_with (go_at_call 152; refine (hC _).mono ?_; rintro r w' ⟨rfl, rfl⟩)
          go_round
          case rel =>
            exact ⟨k + 1, 4294967296, by omega, by go_num, rfl, by omega, by have := HN.out; show _ = _; omega, HD⟩
          case measure => simp [intOf]; omega
        · go_wp2_with (go_at_call 152; refine (hC _).mono ?_; rintro r w' ⟨rfl, rfl⟩)
          go_round
          case rel =>
            exact ⟨k + 1, q, by omega, by go_num, rfl, by omega, by have := HN.out; show _ = _; omega, HD⟩
          case measure => simp [intOf]; omega
      · have HF : Hid (num base s.data.toList = -1) := by
          show _ = _
          rw [HS.out]; exact num_stop base _ _ _ hd
        have hC : ∀ w, Calls Tryz.prog 152 #[.int .u8 s[k].toNat, .int .i64 base] w fun e w' => e = .returned (.int .i64 (-1)) ∧ w' = w := fun w => by
          have := refDigit_any s[k] base hb1 hb w
          rw [rdg, if_neg hd] at this; exact this
        clear hd
        go_wp2_with (go_at_call 152; refine (hC _).mono ?_; rintro r w' ⟨rfl, rfl⟩)
        go_ret
        exact ⟨by rw [HF.out]; rfl, rfl⟩
    · have hke : k = s.size := by omega
      subst hke
      have HF : Hid (num base s.data.toList = (n : Int)) := by
        have e1 : s.data.toList.take s.size = s.data.toList := List.take_of_length_le (by simp)
        have h1 := HV.out
        have h2 := HA.out
        rw [e1] at h1 h2
        show _ = _
        rw [num_some base _ HL.out h2, ← h1]
      go_wp2
      go_ret
      exact ⟨by rw [HF.out]; rfl, rfl⟩

theorem cut_list (s : ByteArray) (a b : Nat) : (s.extract a b).data.toList = (s.data.toList.drop a).take (b - a) := Lib.extract_data s a b
theorem drop2 (s : ByteArray) : (s.extract 2 s.size).data.toList = s.data.toList.drop 2 := by
  rw [cut_list]; exact List.take_of_length_le (by simp)
theorem cut_size (s : ByteArray) (a b : Nat) (h : b ≤ s.size) : (s.extract a b).size = b - a := by simp; omega
end Go.Proofs.YtlblefcmilfjdaaGreatDoor
