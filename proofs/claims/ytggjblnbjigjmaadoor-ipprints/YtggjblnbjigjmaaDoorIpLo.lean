
/- What ip.Loose does. -/
import Derived.Test.YtggjblnbjigjmaaDoorIpP4
namespace Go.Proofs.YtggjblnbjigjmaaDoor
open Go.RowKit

theorem trim_any (s : ByteArray) (hs : s.size ≤ 1000000) (w : World) : Calls Tryd.prog 32 #[.string s, .string ⟨#[46]⟩] w fun e w' => e = .returned (.string ⟨(trimDot s.data.toList).toArray⟩) ∧ w' = w := by
  refine (Tryd.strings_TrimSuffix s ⟨#[46]⟩ w (by omega)).mono ?_
  rintro e w' ⟨rfl, rfl⟩
  exact ⟨by rw [show (⟨#[46]⟩ : ByteArray).data.toList = [46] from rfl, trim_lib], rfl⟩
theorem trim_size (l : List UInt8) : (⟨(trimDot l).toArray⟩ : ByteArray).size ≤ l.length := by
  show (trimDot l).toArray.size ≤ _
  unfold trimDot
  split <;> simp
theorem u8wrap (n : Nat) : IntKind.u8.wrap (n : Int) = ((b8 n).toNat : Int) := by
  rw [IntKind.wrap_u8]; simp [b8]
theorem v4L_B (n : Nat) : v4L (b8 (n / 16777216)) (b8 (n / 65536)) (b8 (n / 256)) (b8 n) = v4B n := rfl
theorem u64muladd (A E p : Nat) (h : A * E + p < 4294967296) : IntKind.u64.wrap ((A : Int) * (E : Int)) = ((A * E : Nat) : Int) ∧ IntKind.u64.wrap (((A * E : Nat) : Int) + (p : Int)) = ((A * E + p : Nat) : Int) := by
  obtain ⟨m, hm⟩ : ∃ m, m = A * E := ⟨_, rfl⟩
  have e : (A : Int) * (E : Int) = (m : Int) := by rw [hm]; exact (Int.natCast_mul A E).symm
  rw [e, ← hm]
  rw [← hm] at h
  constructor
  · rw [IntKind.wrap_u64]; omega
  · rw [IntKind.wrap_u64]; omega
theorem pV_part (e : Nat) (x : List UInt8) (h : partOk e x = true) : pV e x = (partA x).toNat := by unfold pV; rw [if_pos h]
theorem acc_step (P : List (List UInt8)) (k A E : Nat) (x : List UInt8) (hE : E = endL P.length k) (hx : P.getD k [] = x) (h : accL P k = some A) (hp : partOk E x = true) : accL P (k + 1) = some (A * E + pV E x) := by
  rw [accL, h]
  simp only
  rw [hx, ← hE, if_pos hp, pV_part E x hp]
theorem acc_stop (P : List (List UInt8)) (k A E : Nat) (x : List UInt8) (hE : E = endL P.length k) (hk : k < P.length) (hx : P.getD k [] = x) (h : accL P k = some A) (hp : partOk E x = false) : accL P P.length = none := by
  have : accL P (k + 1) = none := by
    rw [accL, h]
    simp only
    rw [hx, ← hE, hp]; rfl
  have h2 := acc_none P (k + 1) (P.length - (k + 1)) this
  rw [show k + 1 + (P.length - (k + 1)) = P.length from by omega] at h2
  exact h2
theorem acc_small (P : List (List UInt8)) (k A E : Nat) (x : List UInt8) (h4 : P.length ≤ 4) (hk : k < P.length) (h : accL P (k + 1) = some (A * E + pV E x)) : A * E + pV E x < 4294967296 := by
  by_cases hl : k + 1 = P.length
  · rw [hl] at h; exact acc_full P (by omega) h4 _ h
  · have h1 := acc_lt P (k + 1) _ (by omega) h
    have h2 : 256 ^ (k + 1) ≤ 256 ^ 4 := Nat.pow_le_pow_right (by omega) (by omega)
    have h3 : (256 : Nat) ^ 4 = 4294967296 := by decide
    omega

set_option maxHeartbeats 4000000 in
theorem loose_any (s : ByteArray) (hs : s.size ≤ 1000000) (w : World) (hT : TabS w) :
    Calls Tryd.prog 11 #[.string s] w fun e w' => e = .returned (.tuple #[.agg (acs false (ansB (looseA s.data.toList))), .int .i64 (ansE (looseA s.data.toList))]) ∧ Below w.heap.size w w' := by
  have HP := hid (loose_parts s.data.toList)
  have HTA : Hid (∀ o, TabS (w.alloc o)) := fun o => hT.below (alloc_below (Below.refl _ w) (Nat.le_refl _) o)
  clear hT
  obtain ⟨s2, hs2⟩ : ∃ s2 : ByteArray, s2 = ⟨(trimDot s.data.toList).toArray⟩ := ⟨_, rfl⟩
  have hd2 : s2.data.toList = trimDot s.data.toList := by rw [hs2]
  have hz2 : s2.size ≤ 1000000 := by
    have := trim_size s.data.toList
    rw [← hs2] at this
    rw [← Lib.size_eq] at this; omega
  have HTR := hid (fun W => trim_any s hs W)
  rw [← hs2] at HTR
  rw [← hd2] at HP
  have HSP := hid (fun W hT => split_any s2 46 5 (by omega) (by omega) hz2 W hT)
  clear hs2 hd2
  go_enter Tryd.func11, Tryd.ntmps11
  go_wp2_with fail
  refine (HTR.out _).mono ?_
  rintro e W0 ⟨rfl, rfl⟩
  go_wp2_with fail
  refine (HSP.out _ (HTA.out _)).mono ?_
  rintro e W1 ⟨L, N, rfl, hM, hSZ, hR, hb, hz, hN⟩
  obtain ⟨hr0, hb0, _⟩ := row1 hb
  rw [sz_alloc] at hR hz ⊢
  have HR0 := hid hr0; have HB0 := hid hb0; have HR := hid hR; have HSZ := hid hSZ
  have hM' : L.map (·.data.toList) = cutK 46 4 s2.data.toList := hM
  obtain ⟨P, hP⟩ : ∃ P, P = cutK 46 4 s2.data.toList := ⟨_, rfl⟩
  rw [← hP] at HP hM'
  have HM := hid hM'
  have hPL : P.length = L.length := by rw [← hM', List.length_map]
  have hP0 : 0 < L.length := by
    rw [← hPL, hP, cutK_len]
    have := cutL_pos 46 s2.data.toList
    omega
  clear hb hr0 hb0 hR hM hM' hSZ hz hP
  by_cases hL : (4 : Int) < (L.length : Int)
  · have HF : Hid (looseA s.data.toList = none) := by
      show _ = _
      rw [HP.out, if_pos (by omega)]
    go_wp2_with (first
      | (refine store_addr rfl _ _ rfl w.heap.size false (zer 16) rfl rfl rfl _ HR0.out rfl ?_)
      | fail)
    intro W2 hO2 hW2
    go_wp2
    refine bodyPost_ret (ret_addr2 (p := 2) (q := 3) Tryd.results11 _ _ w.heap.size false (zer 16) rfl (0, 0) _ rfl rfl hW2) rfl ⟨?_, HB0.out.trans (hO2.below (Nat.le_refl _))⟩
    rw [HF.out]; rfl
  have HF : Hid (looseA s.data.toList = (accL P P.length).map v4B) := by
    show _ = _
    rw [HP.out, if_neg (by omega)]
  clear HP
  have hP4 : P.length ≤ 4 := by omega
  go_wp2_with fail
  go_loop [5, 20] (fun av iv => ∃ k A : Nat, k ≤ L.length ∧ iv = .int .i64 (k : Int) ∧ av = .int .u64 (A : Int) ∧ A < 4294967296 ∧ Hid (accL P k = some A)) (fun _ i => L.length - (intOf i).toNat)
  case atStart => exact ⟨0, 0, Nat.zero_le _, rfl, rfl, by omega, rfl⟩
  case round =>
    obtain ⟨k, A, hk, rfl, rfl, hA, HA⟩ := hrel
    by_cases hkL : (k : Int) < (L.length : Int)
    · obtain ⟨x, hx⟩ : ∃ x, L[k]? = some x := ⟨_, List.getElem?_eq_getElem (by omega)⟩
      have hc := part_at HR.out k x hx
      have HX := hid (map_at HM.out k x hx)
      have hxs : x.size ≤ 1000000 := Nat.le_trans (HSZ.out x (List.mem_of_getElem? hx)) hz2
      clear hx
      have hN : ∀ (E v : Nat) (o : Bool), 1 ≤ E → E ≤ 4294967296 → v = pV E x.data.toList → o = partOk E x.data.toList → ∀ w, Calls Tryd.prog 33 #[.string x, .int .u64 E] w fun r w' => r = .returned (.tuple #[.int .u64 v, .bool o]) ∧ w' = w := by
        intro E v o h1 h2 h3 h4 w
        rw [h3, h4]
        exact looseN_any x E w hxs h1 h2
      have HST : Hid (∀ E, E = endL P.length k → partOk E x.data.toList = false → looseA s.data.toList = none) := fun E hE hp => by
        rw [HF.out, acc_stop P k A E _ hE (by omega) HX.out HA.out hp]; rfl
      have HGO : Hid (∀ E, E = endL P.length k → partOk E x.data.toList = true → accL P (k + 1) = some (A * E + pV E x.data.toList) ∧ A * E + pV E x.data.toList < 4294967296) := fun E hE hp => by
        have h1 := acc_step P k A E _ hE HX.out HA.out hp
        exact ⟨h1, acc_small P k A E _ hP4 (by omega) h1⟩
      by_cases hlast : (k : Int) = (L.length : Int) - 1
      · obtain ⟨E, c, hE, hc2, hcE, hE1, hE2⟩ : ∃ E c : Nat, E = endL P.length k ∧ (8 : Int) * (4 - (k : Int)) = (c : Int) ∧ IntKind.u64.wrap ((2 : Int) ^ c) = (E : Int) ∧ 1 ≤ E ∧ E ≤ 4294967296 := by
          have e : endL P.length k = 256 ^ (4 - k) := by unfold endL; rw [if_pos (by omega)]
          rcases (show k = 0 ∨ k = 1 ∨ k = 2 ∨ k = 3 by omega) with h | h | h | h
          · exact ⟨4294967296, 32, by rw [e, h], by rw [h]; rfl, by decide, by omega, by omega⟩
          · exact ⟨16777216, 24, by rw [e, h], by rw [h]; rfl, by decide, by omega, by omega⟩
          · exact ⟨65536, 16, by rw [e, h], by rw [h]; rfl, by decide, by omega, by omega⟩
          · exact ⟨256, 8, by rw [e, h], by rw [h]; rfl, by decide, by omega, by omega⟩
        have hlast2 : ((k : Int) == (L.length : Int) - 1) = true := by rw [beq_iff_eq]; exact hlast
        clear hlast
        obtain ⟨v, hv⟩ : ∃ v, v = pV E x.data.toList := ⟨_, rfl⟩
        obtain ⟨o, ho⟩ : ∃ o, o = partOk E x.data.toList := ⟨_, rfl⟩
        have hC := hN E v o hE1 hE2 hv ho
        cases o
        · have HF0 := hid (HST.out E hE ho.symm)
          clear hN hE hv ho
          go_wp2_with (first
            | (go_at_call 33; refine (hC _).mono ?_; rintro r w' ⟨rfl, rfl⟩)
            | (refine store_addr rfl _ _ rfl w.heap.size false (zer 16) rfl rfl rfl _ HR0.out rfl ?_)
            | fail)
          intro W3 hO3 hW3
          go_wp2
          refine bodyPost_ret (ret_addr2 (p := 2) (q := 3) Tryd.results11 _ _ w.heap.size false (zer 16) rfl (0, 0) _ rfl rfl hW3) rfl ⟨?_, HB0.out.trans (hO3.below (Nat.le_refl _))⟩
          rw [HF0.out]; rfl
        · obtain ⟨g1, g2⟩ := HGO.out E hE ho.symm
          rw [← hv] at g1 g2
          obtain ⟨w1, w2⟩ := u64muladd A E v g2
          obtain ⟨m, hm⟩ : ∃ m, m = A * E := ⟨_, rfl⟩
          obtain ⟨q, hq⟩ : ∃ q, q = A * E + v := ⟨_, rfl⟩
          rw [← hm] at w1 w2
          rw [← hq] at g1 g2
          rw [hm, ← hq, ← hm] at w2
          have G1 := hid g1
          clear hN hE hv ho g1 hm hq
          go_wp2_with (first
            | (go_at_call 33; refine (hC _).mono ?_; rintro r w' ⟨rfl, rfl⟩)
            | fail)
          go_round
          case rel => exact ⟨k + 1, q, by omega, by go_num, rfl, g2, G1⟩
          case measure => simp [intOf]; omega
      · have hlast2 : ((k : Int) == (L.length : Int) - 1) = false := by rw [beq_eq_false_iff_ne]; exact hlast
        obtain ⟨E, hE256⟩ : ∃ E : Nat, E = 256 := ⟨_, rfl⟩
        have hE : E = endL P.length k := by rw [hE256]; unfold endL; rw [if_neg (by omega)]
        have hE1 : 1 ≤ E := by omega
        have hE2 : E ≤ 4294967296 := by omega
        subst hE256
        clear hlast
        obtain ⟨v, hv⟩ : ∃ v, v = pV 256 x.data.toList := ⟨_, rfl⟩
        obtain ⟨o, ho⟩ : ∃ o, o = partOk 256 x.data.toList := ⟨_, rfl⟩
        have hC := hN 256 v o hE1 hE2 hv ho
        cases o
        · have HF0 := hid (HST.out 256 hE ho.symm)
          clear hN hE hv ho
          go_wp2_with (first
            | (go_at_call 33; refine (hC _).mono ?_; rintro r w' ⟨rfl, rfl⟩)
            | (refine store_addr rfl _ _ rfl w.heap.size false (zer 16) rfl rfl rfl _ HR0.out rfl ?_)
            | fail)
          intro W3 hO3 hW3
          go_wp2
          refine bodyPost_ret (ret_addr2 (p := 2) (q := 3) Tryd.results11 _ _ w.heap.size false (zer 16) rfl (0, 0) _ rfl rfl hW3) rfl ⟨?_, HB0.out.trans (hO3.below (Nat.le_refl _))⟩
          rw [HF0.out]; rfl
        · obtain ⟨g1, g2⟩ := HGO.out 256 hE ho.symm
          rw [← hv] at g1 g2
          obtain ⟨w1, w2⟩ := u64muladd A 256 v g2
          obtain ⟨m, hm⟩ : ∃ m, m = A * 256 := ⟨_, rfl⟩
          obtain ⟨q, hq⟩ : ∃ q, q = A * 256 + v := ⟨_, rfl⟩
          rw [← hm] at w1 w2
          rw [← hq] at g1 g2
          rw [hm, ← hq, ← hm] at w2
          have G1 := hid g1
          clear hN hE hv ho g1 hm hq
          have w1' : IntKind.u64.wrap ((A : Int) * 256) = (m : Int) := w1
          go_wp2_with (first
            | (go_at_call 33; refine (hC _).mono ?_; rintro r w' ⟨rfl, rfl⟩)
            | fail)
          go_round
          case rel => exact ⟨k + 1, q, by omega, by go_num, rfl, g2, G1⟩
          case measure => simp [intOf]; omega
    · have hk' : k = L.length := by omega
      have HF1 : Hid (looseA s.data.toList = some (v4B A)) := by
        show _ = _
        rw [HF.out, hPL, ← hk', HA.out]; rfl
      obtain ⟨a0, h0⟩ : ∃ a0, a0 = b8 (A / 16777216) := ⟨_, rfl⟩
      obtain ⟨a1, h1⟩ : ∃ a0, a0 = b8 (A / 65536) := ⟨_, rfl⟩
      obtain ⟨a2, h2⟩ : ∃ a0, a0 = b8 (A / 256) := ⟨_, rfl⟩
      obtain ⟨a3, h3⟩ : ∃ a0, a0 = b8 A := ⟨_, rfl⟩
      have u0 : (A : Int) / 16777216 = (a0.toNat : Int) := by rw [h0]; simp [b8]; omega
      have u1 : (A : Int) / 65536 % 256 = (a1.toNat : Int) := by rw [h1]; simp [b8]
      have u2 : (A : Int) / 256 % 256 = (a2.toNat : Int) := by rw [h2]; simp [b8]
      have u3' : IntKind.u8.wrap (A : Int) = (a3.toNat : Int) := by rw [h3]; exact u8wrap A
      have HVB : Hid (v4L a0 a1 a2 a3 = v4B A) := by show _ = _; rw [h0, h1, h2, h3]; exact v4L_B A
      have HVL : Hid ((v4B A).length = 16) := rfl
      have HV4 := hid (fun W => v4_any a0 a1 a2 a3 W)
      rw [HVB.out] at HV4
      clear h0 h1 h2 h3 HVB
      generalize v4B A = VB at HV4 HF1 HVL
      clear hk'
      go_wp2_with fail
      refine (HV4.out _).mono ?_
      rintro e W2 ⟨rfl, hb2⟩
      have HR2 : Hid (W2.heap[w.heap.size]? = _) := (hb2.block _ (by omega)).trans HR0.out
      have HB2 : Hid (Below w.heap.size w W2) := HB0.out.trans (hb2.mono HB0.out.size)
      clear hb2
      go_wp2_with (first
        | (refine store_addr rfl _ _ rfl w.heap.size false VB HVL.out rfl rfl _ HR2.out rfl ?_)
        | fail)
      intro W3 hO3 hW3
      go_wp2
      refine bodyPost_ret (ret_addr2 (p := 2) (q := 3) Tryd.results11 _ _ w.heap.size false VB HVL.out (0, 0) _ rfl rfl hW3) rfl ⟨?_, HB2.out.trans (hO3.below (Nat.le_refl _))⟩
      rw [HF1.out]; rfl
end Go.Proofs.YtggjblnbjigjmaaDoor
