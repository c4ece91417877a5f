
/- What the reference's V4 and Loose do. -/
import Derived.Test.YtggjblnbjigjmaaDoorIpCut
namespace Go.Proofs.YtggjblnbjigjmaaDoor
open Go.RowKit

/-- The last k bytes are there. -/
def vK (n k : Nat) : List UInt8 := zer (16 - k) ++ (v4B n).drop (16 - k)
theorem vK_len (n k : Nat) (hk : k ≤ 4) : (vK n k).length = 16 := by
  unfold vK; rw [List.length_append, zer_len, List.length_drop, v4B_len]; omega
theorem vK_set (n k : Nat) (hk : k < 4) : (vK n k).set (15 - k) (b8 (n / 256 ^ k)) = vK n (k + 1) := by
  match k, hk with
  | 0, _ => rw [show n / 256 ^ 0 = n from by simp]; rfl
  | 1, _ => rw [show n / 256 ^ 1 = n / 256 from by simp]; rfl
  | 2, _ => rw [show (256 : Nat) ^ 2 = 65536 from by decide]; rfl
  | 3, _ => rw [show (256 : Nat) ^ 3 = 16777216 from by decide]; rfl
theorem vK_four (n : Nat) : vK n 4 = v4B n := rfl
theorem vK_zero (n : Nat) : vK n 0 = zer 16 := rfl
set_option maxHeartbeats 1000000 in
theorem refV4_any (n : Nat) (hn : n < 18446744073709551616) (w : World) : Calls Tryd.prog 21 #[.int .u64 n] w fun e w' => e = .returned (.agg (acs false (v4B n))) ∧ Below w.heap.size w w' := by
  go_enter Tryd.func21, Tryd.ntmps21
  go_wp2_with (first
    | (refine store_addr rfl _ _ rfl (w.heap.size + 1) false (zer 16) rfl rfl rfl _ (by rw [← sz_alloc]; exact heap_alloc_new _ _) rfl ?_)
    | fail)
  intro W1 hO1 hW1
  have HW1 := hid hW1
  have HZ1 : Hid (∃ Z : Array Value, Z.size = 17 ∧ W1.heap[w.heap.size]? = some (.cells Z 25 (0, 0))) := ⟨_, rfl, (hO1.block _ (by omega)).trans ((Below.heap_alloc _ _ _ (by simp)).trans (heap_alloc_new w _))⟩
  have HB1 : Hid (Below w.heap.size w W1) := (alloc_below (alloc_below (Below.refl _ w) (Nat.le_refl _) _) (by simp) _).trans (hO1.below (by omega))
  have hs1 : w.heap.size + 2 ≤ W1.heap.size := by rw [hO1.size]; simp
  clear hO1 hW1
  go_wp2_with fail
  go_loopw [0, 4] (fun nv iv wx => ∃ k m : Nat, k ≤ 4 ∧ m < 18446744073709551616 ∧ iv = .int .i64 (15 - (k : Int)) ∧ nv = .int .u64 (m : Int) ∧ Hid (m = n / 256 ^ k) ∧ Hid (wx.heap[w.heap.size + 1]? = some (.cells (acs false (vK n k)) 25 (0, 0))) ∧ Hid (Only (w.heap.size + 1) W1 wx)) (fun _ i _ => ((intOf i) - 11).toNat)
  case atStart => exact ⟨0, n, by omega, hn, rfl, rfl, by show _ = _; simp, HW1, ⟨rfl, rfl, rfl, rfl, fun _ _ => rfl⟩⟩
  case round =>
    obtain ⟨k, m, hk, hm, rfl, rfl, HM, HK, HOn⟩ := hrel
    by_cases hk4 : (12 : Int) ≤ 15 - (k : Int)
    · have HS := hid (vK_set n k (by omega))
      rw [← HM.out] at HS
      have HY : Hid ((m : Int) % 256 = ((b8 m).toNat : Int)) := by show _ = _; simp [b8]
      have HM1 : Hid (m / 256 = n / 256 ^ (k + 1)) := by show _ = _; rw [HM.out, Nat.div_div_eq_div_mul, ← Nat.pow_succ]
      have HLN := hid (vK_len n k hk)
      generalize b8 m = y8 at HS HY
      go_wp2_with (first
        | (refine store_byteA rfl _ _ rfl (w.heap.size + 1) _ (15 - k) false (vK n k) (by rw [HLN.out]; omega) y8 _ rfl ?hoj rfl HY.out HK.out ?_)
        | fail)
      case hoj => omega
      intro W3 hO3 hW3
      rw [HS.out] at hW3
      have HW3 := hid hW3
      have HO3 : Hid (Only (w.heap.size + 1) W1 W3) := ⟨hO3.os.trans HOn.out.os, hO3.tape.trans HOn.out.tape, hO3.output.trans HOn.out.output, hO3.size.trans HOn.out.size, fun j hj => (hO3.block j hj).trans (HOn.out.block j hj)⟩
      clear hW3 hO3
      go_wp2_with fail
      go_roundw
      case rel => exact ⟨k + 1, m / 256, by omega, by omega, by go_num, by go_num, HM1, HW3, HO3⟩
      case measure => simp [intOf]; omega
    · have hk' : k = 4 := by omega
      subst hk'
      obtain ⟨Z, hZs, hZ⟩ := HZ1.out
      have HZr : Hid (wr.heap[w.heap.size]? = some (.cells Z 25 (0, 0))) := (HOn.out.block _ (by omega)).trans hZ
      clear hZ
      have HVL := hid (v4B_len n)
      have HK' : Hid (wr.heap[w.heap.size + 1]? = some (.cells (acs false (v4B n)) 25 (0, 0))) := HK
      go_wp2_with (first
        | (refine load_addr rfl _ rfl (w.heap.size + 1) false (v4B n) HVL.out rfl (0, 0) HK'.out ?_)
        | (refine store_addr rfl _ _ rfl w.heap.size false (v4B n) HVL.out rfl rfl _ HZr.out hZs ?_)
        | fail)
      intro W3 hO3 hW3
      go_wp2
      exact bodyPost_ret (ret_addr Tryd.results21 _ _ w.heap.size false (v4B n) HVL.out (0, 0) rfl hW3) rfl ⟨rfl, (HB1.out.trans (HOn.out.below (by omega))).trans (hO3.below (Nat.le_refl _))⟩

theorem getLast_at (s : ByteArray) (h : 0 < s.size) : s.data.toList.getLast? = some (s[s.size - 1]'(by omega)) := by
  rw [List.getLast?_eq_getElem?, ← Lib.size_eq, List.getElem?_eq_getElem (by simpa using by omega)]; simp; rfl
theorem trim_yes (s : ByteArray) (h : 0 < s.size) (hb : s[s.size - 1]'(by omega) = 46) : trimDot s.data.toList = (s.extract 0 (s.size - 1)).data.toList := by
  unfold trimDot
  rw [getLast_at s h, if_pos (by rw [hb]), cut_list, List.drop_zero, Nat.sub_zero, List.dropLast_eq_take, ← Lib.size_eq]
theorem trim_no (s : ByteArray) (h : 0 < s.size) (hb : s[s.size - 1]'(by omega) ≠ 46) : trimDot s.data.toList = s.data.toList := by
  unfold trimDot
  rw [getLast_at s h, if_neg (fun e => hb (Option.some.inj e))]
theorem acc_last (P : List (List UInt8)) (m A E : Nat) (hm : P.length = m + 1) (x : List UInt8) (hx : P.getD m [] = x) (hE : E = 256 ^ (5 - P.length)) (h : accL P m = some A) (h4 : P.length ≤ 4) : accL P P.length = if partOk E x then some (A * E + (partA x).toNat) else none := by
  have e : endL P.length m = E := by unfold endL; rw [hE, hm, if_pos (by omega), show 5 - (m + 1) = 4 - m from by omega]
  rw [hm] at e ⊢
  rw [accL, h]
  simp only
  rw [hx, hm, e]
theorem pow_le4 (k : Nat) (h : k ≤ 4) : 256 ^ k ≤ 4294967296 := by
  have h2 : 256 ^ k ≤ 256 ^ 4 := Nat.pow_le_pow_right (by omega) h
  have h3 : (256 : Nat) ^ 4 = 4294967296 := by decide
  omega
theorem pow_pos (k : Nat) : 1 ≤ 256 ^ k := Nat.one_le_pow _ _ (by omega)
theorem part_ge (x : List UInt8) : -1 ≤ partA x ∧ partA x ≤ 4294967296 := by
  have hn : ∀ b l, -1 ≤ num b l ∧ num b l ≤ 4294967296 := fun b l => by
    unfold num; split
    · omega
    · omega
  unfold partA
  split
  · split
    · omega
    · exact hn _ _
  · split
    · exact hn _ _
    · exact hn _ _
theorem own_str {w : World} {b g n c : Nat} {L : List (List UInt8)} (h : OwnV w 9 b g n c (strs L)) (j : Nat) (hj : j < L.length) : w.cell? ⟨g, j, none⟩ = some (.string (asS (L.getD j []))) := by
  refine h.at j _ ?_
  unfold strs
  rw [List.getElem?_map, List.getD_eq_getElem?_getD, List.getElem?_eq_getElem hj]; rfl
theorem asS_size (x : List UInt8) : (asS x).size = x.length := by rw [Lib.size_eq]; rfl
theorem cut_small (b : UInt8) : ∀ (l : List UInt8) x, x ∈ cutL b l → x.length ≤ l.length
  | [], x, h => by simp [cutL] at h; subst h; simp
  | c :: r, x, h => by
    have ih := cut_small b r
    have hp := cutL_pos b r
    unfold cutL at h
    split at h
    · rcases List.mem_cons.1 h with rfl | h
      · simp
      · have := ih x h; simp; omega
    · rcases List.mem_cons.1 h with rfl | h
      · cases hq : cutL b r with
        | nil => rw [hq] at hp; simp at hp
        | cons y t =>
          have := ih y (by rw [hq]; simp)
          simp; omega
      · have := ih x (List.mem_of_mem_tail h); simp; omega
theorem getD_small (b : UInt8) (l : List UInt8) (j : Nat) : ((cutL b l).getD j []).length ≤ l.length := by
  rw [List.getD_eq_getElem?_getD]
  cases h : (cutL b l)[j]? with
  | none => simp
  | some x => exact cut_small b l x (List.mem_of_getElem? h)

set_option maxHeartbeats 4000000 in
theorem refLoose_any (s : ByteArray) (hs : s.size ≤ 1000000) (w : World) : Calls Tryd.prog 12 #[.string s] w fun e w' => e = .returned (.tuple #[.agg (acs false (ansB (looseA s.data.toList))), .bool (looseA s.data.toList).isSome]) ∧ Below w.heap.size w w' := by
  obtain ⟨s2, HS2, hz2, hcase⟩ : ∃ s2 : ByteArray, Hid (s2.data.toList = trimDot s.data.toList) ∧ s2.size ≤ 1000000 ∧ (((∃ h : 0 < s.size, (((s[s.size - 1]'(by omega)).toNat : Nat) : Int) = 46) ∧ s2 = s.extract 0 (s.size - 1)) ∨ ((¬ (0 : Int) < (s.size : Int)) ∧ s = s2) ∨ ((∃ h : 0 < s.size, ¬ (((s[s.size - 1]'(by omega)).toNat : Nat) : Int) = 46) ∧ s = s2)) := by
    by_cases h0 : 0 < s.size
    · by_cases hb : s[s.size - 1]'(by omega) = 46
      · exact ⟨_, (trim_yes s h0 hb).symm, by rw [cut_size _ _ _ (by omega)]; omega, Or.inl ⟨⟨h0, by rw [hb]; rfl⟩, rfl⟩⟩
      · exact ⟨s, (trim_no s h0 hb).symm, hs, Or.inr (Or.inr ⟨⟨h0, fun e => hb (UInt8.toNat_inj.1 (by simpa using (by omega : (s[s.size - 1]'(by omega)).toNat = 46)))⟩, rfl⟩)⟩
    · refine ⟨s, ?_, hs, Or.inr (Or.inl ⟨by omega, rfl⟩)⟩
      show _ = _
      rw [list_nil s (by omega)]; rfl
  have HC := hid (fun W => refCut_any s2 46 hz2 W)
  have HF : Hid (looseA s.data.toList = looseP (cutL 46 s2.data.toList)) := by show _ = _; rw [HS2.out]; rfl
  obtain ⟨P, hP⟩ : ∃ P, P = cutL 46 s2.data.toList := ⟨_, rfl⟩
  have HPS : Hid (∀ j, (P.getD j []).length ≤ 1000000) := fun j => by rw [hP]; have := getD_small 46 s2.data.toList j; rw [← Lib.size_eq] at this; omega
  have hP0 : 0 < P.length := by rw [hP]; exact cutL_pos 46 _
  have hPm : P.length ≤ 1000001 := by rw [hP]; have := cut_len 46 s2.data.toList; rw [← Lib.size_eq] at this; omega
  rw [← hP] at HC HF
  clear hP HS2
  rcases hcase with ⟨⟨h0, hb⟩, rfl⟩ | ⟨h0, rfl⟩ | ⟨⟨h0, hb⟩, rfl⟩
  · have h0' : (0 : Int) < (s.size : Int) := by omega
    go_enter Tryd.func12, Tryd.ntmps12
    go_wp2_with fail
    refine (HC.out _).mono ?_
    rintro e W1 ⟨g, c, rfl, hown, hb1⟩
    obtain ⟨hr0, hb0, hz1⟩ := row1 hb1
    have HR0 := hid hr0; have HB0 := hid hb0; have HO := hid hown
    clear hr0 hb0 hown hb1 hb
    by_cases hL : (4 : Int) < (P.length : Int)
    · have HF0 : Hid (looseA s.data.toList = none) := by
        show _ = _
        rw [HF.out]; unfold looseP; rw [if_pos (by omega)]
      go_wp2_with (first
        | (refine store_addr rfl _ _ rfl w.heap.size false (zer 16) rfl rfl rfl _ HR0.out rfl ?_)
        | fail)
      intro W2 hO2 hW2
      go_wp2
      refine bodyPost_ret (ret_addr2 (p := 2) (q := 3) Tryd.results12 _ _ w.heap.size false (zer 16) rfl (0, 0) _ rfl rfl hW2) rfl ⟨?_, HB0.out.trans (hO2.below (Nat.le_refl _))⟩
      rw [HF0.out]; rfl
    have HFA : Hid (looseA s.data.toList = (accL P P.length).map v4B) := by
      show _ = _
      rw [HF.out]; exact loose_acc P hP0 (by omega)
    go_wp2_with fail
    go_loop [5, 6] (fun av iv => ∃ k A : Nat, k ≤ P.length - 1 ∧ A ≤ 4294967296 ∧ iv = .int .i64 (k : Int) ∧ av = .int .i64 (A : Int) ∧ Hid (accL P k = some A)) (fun _ i => P.length - (intOf i).toNat)
    case atStart => exact ⟨0, 0, by omega, by omega, rfl, rfl, rfl⟩
    case round =>
      obtain ⟨k, A, hk, hA, rfl, rfl, HA⟩ := hrel
      by_cases hkL : (k : Int) < (P.length : Int) - 1
      · have hc := own_str HO.out k (by omega)
        have hxs := HPS.out k
        obtain ⟨x, hx⟩ : ∃ x, x = P.getD k [] := ⟨_, rfl⟩
        rw [← hx] at hc hxs
        have HX : Hid (P.getD k [] = x) := hx.symm
        clear hx
        have hE : 256 = endL P.length k := by unfold endL; rw [if_neg (by omega)]
        have hpg := part_ge x
        have hxz : (asS x).size ≤ 1000000 := by rw [asS_size]; exact hxs
        obtain ⟨p, hp⟩ : ∃ p, p = partA x := ⟨_, rfl⟩
        have hC : ∀ w, Calls Tryd.prog 34 #[.string (asS x)] w fun e w' => e = .returned (.int .i64 p) ∧ w' = w := fun w => by rw [hp]; exact refPart_any (asS x) w hxz
        rw [← hp] at hpg
        by_cases hbad : p < 0 ∨ 255 < p
        · have HF0 : Hid (looseA s.data.toList = none) := by
            show _ = _
            rw [HFA.out, acc_stop P k A 256 x hE (by omega) HX.out HA.out (by unfold partOk; rw [← hp, decide_eq_false_iff_not]; omega)]; rfl
          clear hE hp
          rcases hbad with hbad | hbad
          · go_wp2_with (first
              | (go_at_call 34; refine (hC _).mono ?_; rintro r w' ⟨rfl, rfl⟩)
              | (refine store_addr rfl _ _ rfl w.heap.size false (zer 16) rfl rfl rfl _ HR0.out rfl ?_)
              | fail)
            intro W2 hO2 hW2
            go_wp2
            refine bodyPost_ret (ret_addr2 (p := 2) (q := 3) Tryd.results12 _ _ w.heap.size false (zer 16) rfl (0, 0) _ rfl rfl hW2) rfl ⟨?_, HB0.out.trans (hO2.below (Nat.le_refl _))⟩
            rw [HF0.out]; rfl
          · have hbad2 : ¬ p < 0 := by omega
            go_wp2_with (first
              | (go_at_call 34; refine (hC _).mono ?_; rintro r w' ⟨rfl, rfl⟩)
              | (refine store_addr rfl _ _ rfl w.heap.size false (zer 16) rfl rfl rfl _ HR0.out rfl ?_)
              | fail)
            intro W2 hO2 hW2
            go_wp2
            refine bodyPost_ret (ret_addr2 (p := 2) (q := 3) Tryd.results12 _ _ w.heap.size false (zer 16) rfl (0, 0) _ rfl rfl hW2) rfl ⟨?_, HB0.out.trans (hO2.below (Nat.le_refl _))⟩
            rw [HF0.out]; rfl
        · have h1 : ¬ p < 0 := fun h => hbad (Or.inl h)
          have h2 : ¬ 255 < p := fun h => hbad (Or.inr h)
          have hok : partOk 256 x = true := by unfold partOk; rw [← hp, decide_eq_true_eq]; omega
          have g1 := acc_step P k A 256 x hE HX.out HA.out hok
          have g2 := acc_lt P (k + 1) _ (by omega) g1
          have g3 := pow_le4 (k + 1) (by omega)
          rw [pV_part 256 x hok, ← hp] at g1 g2
          obtain ⟨q, hq⟩ : ∃ q : Nat, p = (q : Int) := ⟨p.toNat, by omega⟩
          rw [hq, Int.toNat_natCast] at g1 g2
          have G1 := hid g1
          have hq2 : A * 256 + q ≤ 4294967296 := by omega
          clear hbad hok g1 g2 g3 hE hp
          subst hq
          go_wp2_with (first
            | (go_at_call 34; refine (hC _).mono ?_; rintro r w' ⟨rfl, rfl⟩)
            | fail)
          go_round
          case rel => exact ⟨k + 1, A * 256 + q, by omega, hq2, by go_num, by go_num, G1⟩
          case measure => simp [intOf]; omega
      · have hk' : k = P.length - 1 := by omega
        obtain ⟨m, hm⟩ : ∃ m, P.length = m + 1 := ⟨P.length - 1, by omega⟩
        have hkm : k = m := by omega
        subst hkm
        have HM := hid hm
        have hAl := acc_lt P k A (by omega) HA.out
        have HAl := hid hAl
        have hk3 : k ≤ 3 := by omega
        have hPk : (P.length : Int) = (k : Int) + 1 := by omega
        have hlt : ¬ (k : Int) < (k : Int) := by omega
        clear hm hk' hAl hkL hk
        go_wp2_with fail
        clear hPk hlt
        go_loop [5, 8, 9] (fun av mv iv => ∃ j M T : Nat, k ≤ j ∧ j ≤ 4 ∧ M ≤ 4294967296 ∧ T ≤ 4294967296 ∧ iv = .int .i64 (j : Int) ∧ mv = .int .i64 (M : Int) ∧ av = .int .i64 (T : Int) ∧ Hid (M = 256 ^ (j - k)) ∧ Hid (T = A * M)) (fun _ _ i => 4 - (intOf i).toNat)
        case atStart => exact ⟨k, 1, A, Nat.le_refl _, by omega, by omega, hA, rfl, rfl, rfl, by show _ = _; simp, by show _ = _; simp⟩
        case round =>
          obtain ⟨j, M, T, hkj, hj4, hM, hTm, rfl, rfl, rfl, HMe, HTe⟩ := hrel
          by_cases hj : (j : Int) < 4
          · have hM2 : Hid (M * 256 = 256 ^ (j + 1 - k)) := by
              show _ = _
              rw [HMe.out, show j + 1 - k = (j - k) + 1 from by omega, Nat.pow_succ]
            have hT2 : Hid (T * 256 = A * (M * 256)) := by show _ = _; rw [HTe.out, Nat.mul_assoc]
            have hM3 : M * 256 ≤ 4294967296 := by rw [hM2.out]; exact pow_le4 _ (by omega)
            have hT3 : T * 256 ≤ 4294967296 := by
              rw [hT2.out, hM2.out]
              have h1 : A * 256 ^ (j + 1 - k) ≤ 256 ^ k * 256 ^ (j + 1 - k) := Nat.mul_le_mul_right _ (Nat.le_of_lt HAl.out)
              rw [← Nat.pow_add, show k + (j + 1 - k) = j + 1 from by omega] at h1
              have h2 := pow_le4 (j + 1) (by omega)
              omega
            go_wp2_with fail
            go_round
            case rel => exact ⟨j + 1, M * 256, T * 256, by omega, by omega, hM3, hT3, by go_num, by go_num, by go_num, hM2, hT2⟩
            case measure => simp [intOf]; omega
          · have hj' : j = 4 := by omega
            subst hj'
            have hc := own_str HO.out k (by have := HM.out; omega)
            have hxs := HPS.out k
            obtain ⟨x, hx⟩ : ∃ x, x = P.getD k [] := ⟨_, rfl⟩
            rw [← hx] at hc hxs
            have HX : Hid (P.getD k [] = x) := hx.symm
            clear hx
            have hpg := part_ge x
            have hxz : (asS x).size ≤ 1000000 := by rw [asS_size]; exact hxs
            obtain ⟨p, hp⟩ : ∃ p, p = partA x := ⟨_, rfl⟩
            have hC : ∀ w, Calls Tryd.prog 34 #[.string (asS x)] w fun e w' => e = .returned (.int .i64 p) ∧ w' = w := fun w => by rw [hp]; exact refPart_any (asS x) w hxz
            rw [← hp] at hpg
            have HLA := hid (acc_last P k A M HM.out x HX.out (by rw [HMe.out, HM.out, show 5 - (k + 1) = 4 - k from by omega]) HA.out (by have := HM.out; omega))
            have hPk : (P.length : Int) = (k : Int) + 1 := by have := HM.out; omega
            by_cases hbad : p < 0 ∨ (M : Int) ≤ p
            · have HF0 : Hid (looseA s.data.toList = none) := by
                show _ = _
                rw [HFA.out, HLA.out, if_neg (by unfold partOk; rw [← hp, decide_eq_true_eq]; omega)]; rfl
              clear hp
              rcases hbad with hbad | hbad
              · go_wp2_with (first
                  | (go_at_call 34; refine (hC _).mono ?_; rintro r w' ⟨rfl, rfl⟩)
                  | (refine store_addr rfl _ _ rfl w.heap.size false (zer 16) rfl rfl rfl _ HR0.out rfl ?_)
                  | fail)
                intro W2 hO2 hW2
                go_wp2
                refine bodyPost_ret (ret_addr2 (p := 2) (q := 3) Tryd.results12 _ _ w.heap.size false (zer 16) rfl (0, 0) _ rfl rfl hW2) rfl ⟨?_, HB0.out.trans (hO2.below (Nat.le_refl _))⟩
                rw [HF0.out]; rfl
              · have hbad2 : ¬ p < 0 := by omega
                go_wp2_with (first
                  | (go_at_call 34; refine (hC _).mono ?_; rintro r w' ⟨rfl, rfl⟩)
                  | (refine store_addr rfl _ _ rfl w.heap.size false (zer 16) rfl rfl rfl _ HR0.out rfl ?_)
                  | fail)
                intro W2 hO2 hW2
                go_wp2
                refine bodyPost_ret (ret_addr2 (p := 2) (q := 3) Tryd.results12 _ _ w.heap.size false (zer 16) rfl (0, 0) _ rfl rfl hW2) rfl ⟨?_, HB0.out.trans (hO2.below (Nat.le_refl _))⟩
                rw [HF0.out]; rfl
            · have h1 : ¬ p < 0 := fun h => hbad (Or.inl h)
              have h2 : ¬ (M : Int) ≤ p := fun h => hbad (Or.inr h)
              have hok : partOk M x = true := by unfold partOk; rw [← hp, decide_eq_true_eq]; omega
              obtain ⟨q, hq⟩ : ∃ q : Nat, p = (q : Int) := ⟨p.toNat, by omega⟩
              have HF1 : Hid (looseA s.data.toList = some (v4B (T + q))) := by
                show _ = _
                rw [HFA.out, HLA.out, if_pos hok, ← hp, hq, Int.toNat_natCast, ← HTe.out]; rfl
              clear hbad hok hp
              subst hq
              have HV := hid (fun W => refV4_any (T + q) (by omega) W)
              have HVL := hid (v4B_len (T + q))
              obtain ⟨VB, hVB⟩ : ∃ VB, VB = v4B (T + q) := ⟨_, rfl⟩
              rw [← hVB] at HF1 HV HVL
              have hcast : ((T + q : Nat) : Int) = (T : Int) + (q : Int) := by omega
              rw [hcast] at HV
              clear hVB hcast
              go_wp2_with (first
                | (go_at_call 34; refine (hC _).mono ?_; rintro r w' ⟨rfl, rfl⟩)
                | fail)
              refine (HV.out _).mono ?_
              rintro e W2 ⟨rfl, hb2⟩
              have HR2 : Hid (W2.heap[w.heap.size]? = _) := (hb2.block _ (by omega)).trans HR0.out
              have HB2 : Hid (Below w.heap.size w W2) := HB0.out.trans (hb2.mono HB0.out.size)
              clear hb2
              go_wp2_with (first
                | (refine store_addr rfl _ _ rfl w.heap.size false VB HVL.out rfl rfl _ HR2.out rfl ?_)
                | fail)
              intro W3 hO3 hW3
              go_wp2
              refine bodyPost_ret (ret_addr2 (p := 2) (q := 3) Tryd.results12 _ _ w.heap.size false VB HVL.out (0, 0) _ rfl rfl hW3) rfl ⟨?_, HB2.out.trans (hO3.below (Nat.le_refl _))⟩
              rw [HF1.out]; rfl
  · go_enter Tryd.func12, Tryd.ntmps12
    go_wp2_with fail
    refine (HC.out _).mono ?_
    rintro e W1 ⟨g, c, rfl, hown, hb1⟩
    obtain ⟨hr0, hb0, hz1⟩ := row1 hb1
    have HR0 := hid hr0; have HB0 := hid hb0; have HO := hid hown
    clear hr0 hb0 hown hb1 h0
    by_cases hL : (4 : Int) < (P.length : Int)
    · have HF0 : Hid (looseA s.data.toList = none) := by
        show _ = _
        rw [HF.out]; unfold looseP; rw [if_pos (by omega)]
      go_wp2_with (first
        | (refine store_addr rfl _ _ rfl w.heap.size false (zer 16) rfl rfl rfl _ HR0.out rfl ?_)
        | fail)
      intro W2 hO2 hW2
      go_wp2
      refine bodyPost_ret (ret_addr2 (p := 2) (q := 3) Tryd.results12 _ _ w.heap.size false (zer 16) rfl (0, 0) _ rfl rfl hW2) rfl ⟨?_, HB0.out.trans (hO2.below (Nat.le_refl _))⟩
      rw [HF0.out]; rfl
    have HFA : Hid (looseA s.data.toList = (accL P P.length).map v4B) := by
      show _ = _
      rw [HF.out]; exact loose_acc P hP0 (by omega)
    go_wp2_with fail
    go_loop [5, 6] (fun av iv => ∃ k A : Nat, k ≤ P.length - 1 ∧ A ≤ 4294967296 ∧ iv = .int .i64 (k : Int) ∧ av = .int .i64 (A : Int) ∧ Hid (accL P k = some A)) (fun _ i => P.length - (intOf i).toNat)
    case atStart => exact ⟨0, 0, by omega, by omega, rfl, rfl, rfl⟩
    case round =>
      obtain ⟨k, A, hk, hA, rfl, rfl, HA⟩ := hrel
      by_cases hkL : (k : Int) < (P.length : Int) - 1
      · have hc := own_str HO.out k (by omega)
        have hxs := HPS.out k
        obtain ⟨x, hx⟩ : ∃ x, x = P.getD k [] := ⟨_, rfl⟩
        rw [← hx] at hc hxs
        have HX : Hid (P.getD k [] = x) := hx.symm
        clear hx
        have hE : 256 = endL P.length k := by unfold endL; rw [if_neg (by omega)]
        have hpg := part_ge x
        have hxz : (asS x).size ≤ 1000000 := by rw [asS_size]; exact hxs
        obtain ⟨p, hp⟩ : ∃ p, p = partA x := ⟨_, rfl⟩
        have hC : ∀ w, Calls Tryd.prog 34 #[.string (asS x)] w fun e w' => e = .returned (.int .i64 p) ∧ w' = w := fun w => by rw [hp]; exact refPart_any (asS x) w hxz
        rw [← hp] at hpg
        by_cases hbad : p < 0 ∨ 255 < p
        · have HF0 : Hid (looseA s.data.toList = none) := by
            show _ = _
            rw [HFA.out, acc_stop P k A 256 x hE (by omega) HX.out HA.out (by unfold partOk; rw [← hp, decide_eq_false_iff_not]; omega)]; rfl
          clear hE hp
          rcases hbad with hbad | hbad
          · go_wp2_with (first
              | (go_at_call 34; refine (hC _).mono ?_; rintro r w' ⟨rfl, rfl⟩)
              | (refine store_addr rfl _ _ rfl w.heap.size false (zer 16) rfl rfl rfl _ HR0.out rfl ?_)
              | fail)
            intro W2 hO2 hW2
            go_wp2
            refine bodyPost_ret (ret_addr2 (p := 2) (q := 3) Tryd.results12 _ _ w.heap.size false (zer 16) rfl (0, 0) _ rfl rfl hW2) rfl ⟨?_, HB0.out.trans (hO2.below (Nat.le_refl _))⟩
            rw [HF0.out]; rfl
          · have hbad2 : ¬ p < 0 := by omega
            go_wp2_with (first
              | (go_at_call 34; refine (hC _).mono ?_; rintro r w' ⟨rfl, rfl⟩)
              | (refine store_addr rfl _ _ rfl w.heap.size false (zer 16) rfl rfl rfl _ HR0.out rfl ?_)
              | fail)
            intro W2 hO2 hW2
            go_wp2
            refine bodyPost_ret (ret_addr2 (p := 2) (q := 3) Tryd.results12 _ _ w.heap.size false (zer 16) rfl (0, 0) _ rfl rfl hW2) rfl ⟨?_, HB0.out.trans (hO2.below (Nat.le_refl _))⟩
            rw [HF0.out]; rfl
        · have h1 : ¬ p < 0 := fun h => hbad (Or.inl h)
          have h2 : ¬ 255 < p := fun h => hbad (Or.inr h)
          have hok : partOk 256 x = true := by unfold partOk; rw [← hp, decide_eq_true_eq]; omega
          have g1 := acc_step P k A 256 x hE HX.out HA.out hok
          have g2 := acc_lt P (k + 1) _ (by omega) g1
          have g3 := pow_le4 (k + 1) (by omega)
          rw [pV_part 256 x hok, ← hp] at g1 g2
          obtain ⟨q, hq⟩ : ∃ q : Nat, p = (q : Int) := ⟨p.toNat, by omega⟩
          rw [hq, Int.toNat_natCast] at g1 g2
          have G1 := hid g1
          have hq2 : A * 256 + q ≤ 4294967296 := by omega
          clear hbad hok g1 g2 g3 hE hp
          subst hq
          go_wp2_with (first
            | (go_at_call 34; refine (hC _).mono ?_; rintro r w' ⟨rfl, rfl⟩)
            | fail)
          go_round
          case rel => exact ⟨k + 1, A * 256 + q, by omega, hq2, by go_num, by go_num, G1⟩
          case measure => simp [intOf]; omega
      · have hk' : k = P.length - 1 := by omega
        obtain ⟨m, hm⟩ : ∃ m, P.length = m + 1 := ⟨P.length - 1, by omega⟩
        have hkm : k = m := by omega
        subst hkm
        have HM := hid hm
        have hAl := acc_lt P k A (by omega) HA.out
        have HAl := hid hAl
        have hk3 : k ≤ 3 := by omega
        have hPk : (P.length : Int) = (k : Int) + 1 := by omega
        have hlt : ¬ (k : Int) < (k : Int) := by omega
        clear hm hk' hAl hkL hk
        go_wp2_with fail
        clear hPk hlt
        go_loop [5, 8, 9] (fun av mv iv => ∃ j M T : Nat, k ≤ j ∧ j ≤ 4 ∧ M ≤ 4294967296 ∧ T ≤ 4294967296 ∧ iv = .int .i64 (j : Int) ∧ mv = .int .i64 (M : Int) ∧ av = .int .i64 (T : Int) ∧ Hid (M = 256 ^ (j - k)) ∧ Hid (T = A * M)) (fun _ _ i => 4 - (intOf i).toNat)
        case atStart => exact ⟨k, 1, A, Nat.le_refl _, by omega, by omega, hA, rfl, rfl, rfl, by show _ = _; simp, by show _ = _; simp⟩
        case round =>
          obtain ⟨j, M, T, hkj, hj4, hM, hTm, rfl, rfl, rfl, HMe, HTe⟩ := hrel
          by_cases hj : (j : Int) < 4
          · have hM2 : Hid (M * 256 = 256 ^ (j + 1 - k)) := by
              show _ = _
              rw [HMe.out, show j + 1 - k = (j - k) + 1 from by omega, Nat.pow_succ]
            have hT2 : Hid (T * 256 = A * (M * 256)) := by show _ = _; rw [HTe.out, Nat.mul_assoc]
            have hM3 : M * 256 ≤ 4294967296 := by rw [hM2.out]; exact pow_le4 _ (by omega)
            have hT3 : T * 256 ≤ 4294967296 := by
              rw [hT2.out, hM2.out]
              have h1 : A * 256 ^ (j + 1 - k) ≤ 256 ^ k * 256 ^ (j + 1 - k) := Nat.mul_le_mul_right _ (Nat.le_of_lt HAl.out)
              rw [← Nat.pow_add, show k + (j + 1 - k) = j + 1 from by omega] at h1
              have h2 := pow_le4 (j + 1) (by omega)
              omega
            go_wp2_with fail
            go_round
            case rel => exact ⟨j + 1, M * 256, T * 256, by omega, by omega, hM3, hT3, by go_num, by go_num, by go_num, hM2, hT2⟩
            case measure => simp [intOf]; omega
          · have hj' : j = 4 := by omega
            subst hj'
            have hc := own_str HO.out k (by have := HM.out; omega)
            have hxs := HPS.out k
            obtain ⟨x, hx⟩ : ∃ x, x = P.getD k [] := ⟨_, rfl⟩
            rw [← hx] at hc hxs
            have HX : Hid (P.getD k [] = x) := hx.symm
            clear hx
            have hpg := part_ge x
            have hxz : (asS x).size ≤ 1000000 := by rw [asS_size]; exact hxs
            obtain ⟨p, hp⟩ : ∃ p, p = partA x := ⟨_, rfl⟩
            have hC : ∀ w, Calls Tryd.prog 34 #[.string (asS x)] w fun e w' => e = .returned (.int .i64 p) ∧ w' = w := fun w => by rw [hp]; exact refPart_any (asS x) w hxz
            rw [← hp] at hpg
            have HLA := hid (acc_last P k A M HM.out x HX.out (by rw [HMe.out, HM.out, show 5 - (k + 1) = 4 - k from by omega]) HA.out (by have := HM.out; omega))
            have hPk : (P.length : Int) = (k : Int) + 1 := by have := HM.out; omega
            by_cases hbad : p < 0 ∨ (M : Int) ≤ p
            · have HF0 : Hid (looseA s.data.toList = none) := by
                show _ = _
                rw [HFA.out, HLA.out, if_neg (by unfold partOk; rw [← hp, decide_eq_true_eq]; omega)]; rfl
              clear hp
              rcases hbad with hbad | hbad
              · go_wp2_with (first
                  | (go_at_call 34; refine (hC _).mono ?_; rintro r w' ⟨rfl, rfl⟩)
                  | (refine store_addr rfl _ _ rfl w.heap.size false (zer 16) rfl rfl rfl _ HR0.out rfl ?_)
                  | fail)
                intro W2 hO2 hW2
                go_wp2
                refine bodyPost_ret (ret_addr2 (p := 2) (q := 3) Tryd.results12 _ _ w.heap.size false (zer 16) rfl (0, 0) _ rfl rfl hW2) rfl ⟨?_, HB0.out.trans (hO2.below (Nat.le_refl _))⟩
                rw [HF0.out]; rfl
              · have hbad2 : ¬ p < 0 := by omega
                go_wp2_with (first
                  | (go_at_call 34; refine (hC _).mono ?_; rintro r w' ⟨rfl, rfl⟩)
                  | (refine store_addr rfl _ _ rfl w.heap.size false (zer 16) rfl rfl rfl _ HR0.out rfl ?_)
                  | fail)
                intro W2 hO2 hW2
                go_wp2
                refine bodyPost_ret (ret_addr2 (p := 2) (q := 3) Tryd.results12 _ _ w.heap.size false (zer 16) rfl (0, 0) _ rfl rfl hW2) rfl ⟨?_, HB0.out.trans (hO2.below (Nat.le_refl _))⟩
                rw [HF0.out]; rfl
            · have h1 : ¬ p < 0 := fun h => hbad (Or.inl h)
              have h2 : ¬ (M : Int) ≤ p := fun h => hbad (Or.inr h)
              have hok : partOk M x = true := by unfold partOk; rw [← hp, decide_eq_true_eq]; omega
              obtain ⟨q, hq⟩ : ∃ q : Nat, p = (q : Int) := ⟨p.toNat, by omega⟩
              have HF1 : Hid (looseA s.data.toList = some (v4B (T + q))) := by
                show _ = _
                rw [HFA.out, HLA.out, if_pos hok, ← hp, hq, Int.toNat_natCast, ← HTe.out]; rfl
              clear hbad hok hp
              subst hq
              have HV := hid (fun W => refV4_any (T + q) (by omega) W)
              have HVL := hid (v4B_len (T + q))
              obtain ⟨VB, hVB⟩ : ∃ VB, VB = v4B (T + q) := ⟨_, rfl⟩
              rw [← hVB] at HF1 HV HVL
              have hcast : ((T + q : Nat) : Int) = (T : Int) + (q : Int) := by omega
              rw [hcast] at HV
              clear hVB hcast
              go_wp2_with (first
                | (go_at_call 34; refine (hC _).mono ?_; rintro r w' ⟨rfl, rfl⟩)
                | fail)
              refine (HV.out _).mono ?_
              rintro e W2 ⟨rfl, hb2⟩
              have HR2 : Hid (W2.heap[w.heap.size]? = _) := (hb2.block _ (by omega)).trans HR0.out
              have HB2 : Hid (Below w.heap.size w W2) := HB0.out.trans (hb2.mono HB0.out.size)
              clear hb2
              go_wp2_with (first
                | (refine store_addr rfl _ _ rfl w.heap.size false VB HVL.out rfl rfl _ HR2.out rfl ?_)
                | fail)
              intro W3 hO3 hW3
              go_wp2
              refine bodyPost_ret (ret_addr2 (p := 2) (q := 3) Tryd.results12 _ _ w.heap.size false VB HVL.out (0, 0) _ rfl rfl hW3) rfl ⟨?_, HB2.out.trans (hO3.below (Nat.le_refl _))⟩
              rw [HF1.out]; rfl
  · have h0' : (0 : Int) < (s.size : Int) := by omega
    go_enter Tryd.func12, Tryd.ntmps12
    go_wp2_with fail
    refine (HC.out _).mono ?_
    rintro e W1 ⟨g, c, rfl, hown, hb1⟩
    obtain ⟨hr0, hb0, hz1⟩ := row1 hb1
    have HR0 := hid hr0; have HB0 := hid hb0; have HO := hid hown
    clear hr0 hb0 hown hb1 hb
    by_cases hL : (4 : Int) < (P.length : Int)
    · have HF0 : Hid (looseA s.data.toList = none) := by
        show _ = _
        rw [HF.out]; unfold looseP; rw [if_pos (by omega)]
      go_wp2_with (first
        | (refine store_addr rfl _ _ rfl w.heap.size false (zer 16) rfl rfl rfl _ HR0.out rfl ?_)
        | fail)
      intro W2 hO2 hW2
      go_wp2
      refine bodyPost_ret (ret_addr2 (p := 2) (q := 3) Tryd.results12 _ _ w.heap.size false (zer 16) rfl (0, 0) _ rfl rfl hW2) rfl ⟨?_, HB0.out.trans (hO2.below (Nat.le_refl _))⟩
      rw [HF0.out]; rfl
    have HFA : Hid (looseA s.data.toList = (accL P P.length).map v4B) := by
      show _ = _
      rw [HF.out]; exact loose_acc P hP0 (by omega)
    go_wp2_with fail
    go_loop [5, 6] (fun av iv => ∃ k A : Nat, k ≤ P.length - 1 ∧ A ≤ 4294967296 ∧ iv = .int .i64 (k : Int) ∧ av = .int .i64 (A : Int) ∧ Hid (accL P k = some A)) (fun _ i => P.length - (intOf i).toNat)
    case atStart => exact ⟨0, 0, by omega, by omega, rfl, rfl, rfl⟩
    case round =>
      obtain ⟨k, A, hk, hA, rfl, rfl, HA⟩ := hrel
      by_cases hkL : (k : Int) < (P.length : Int) - 1
      · have hc := own_str HO.out k (by omega)
        have hxs := HPS.out k
        obtain ⟨x, hx⟩ : ∃ x, x = P.getD k [] := ⟨_, rfl⟩
        rw [← hx] at hc hxs
        have HX : Hid (P.getD k [] = x) := hx.symm
        clear hx
        have hE : 256 = endL P.length k := by unfold endL; rw [if_neg (by omega)]
        have hpg := part_ge x
        have hxz : (asS x).size ≤ 1000000 := by rw [asS_size]; exact hxs
        obtain ⟨p, hp⟩ : ∃ p, p = partA x := ⟨_, rfl⟩
        have hC : ∀ w, Calls Tryd.prog 34 #[.string (asS x)] w fun e w' => e = .returned (.int .i64 p) ∧ w' = w := fun w => by rw [hp]; exact refPart_any (asS x) w hxz
        rw [← hp] at hpg
        by_cases hbad : p < 0 ∨ 255 < p
        · have HF0 : Hid (looseA s.data.toList = none) := by
            show _ = _
            rw [HFA.out, acc_stop P k A 256 x hE (by omega) HX.out HA.out (by unfold partOk; rw [← hp, decide_eq_false_iff_not]; omega)]; rfl
          clear hE hp
          rcases hbad with hbad | hbad
          · go_wp2_with (first
              | (go_at_call 34; refine (hC _).mono ?_; rintro r w' ⟨rfl, rfl⟩)
              | (refine store_addr rfl _ _ rfl w.heap.size false (zer 16) rfl rfl rfl _ HR0.out rfl ?_)
              | fail)
            intro W2 hO2 hW2
            go_wp2
            refine bodyPost_ret (ret_addr2 (p := 2) (q := 3) Tryd.results12 _ _ w.heap.size false (zer 16) rfl (0, 0) _ rfl rfl hW2) rfl ⟨?_, HB0.out.trans (hO2.below (Nat.le_refl _))⟩
            rw [HF0.out]; rfl
          · have hbad2 : ¬ p < 0 := by omega
            go_wp2_with (first
              | (go_at_call 34; refine (hC _).mono ?_; rintro r w' ⟨rfl, rfl⟩)
              | (refine store_addr rfl _ _ rfl w.heap.size false (zer 16) rfl rfl rfl _ HR0.out rfl ?_)
              | fail)
            intro W2 hO2 hW2
            go_wp2
            refine bodyPost_ret (ret_addr2 (p := 2) (q := 3) Tryd.results12 _ _ w.heap.size false (zer 16) rfl (0, 0) _ rfl rfl hW2) rfl ⟨?_, HB0.out.trans (hO2.below (Nat.le_refl _))⟩
            rw [HF0.out]; rfl
        · have h1 : ¬ p < 0 := fun h => hbad (Or.inl h)
          have h2 : ¬ 255 < p := fun h => hbad (Or.inr h)
          have hok : partOk 256 x = true := by unfold partOk; rw [← hp, decide_eq_true_eq]; omega
          have g1 := acc_step P k A 256 x hE HX.out HA.out hok
          have g2 := acc_lt P (k + 1) _ (by omega) g1
          have g3 := pow_le4 (k + 1) (by omega)
          rw [pV_part 256 x hok, ← hp] at g1 g2
          obtain ⟨q, hq⟩ : ∃ q : Nat, p = (q : Int) := ⟨p.toNat, by omega⟩
          rw [hq, Int.toNat_natCast] at g1 g2
          have G1 := hid g1
          have hq2 : A * 256 + q ≤ 4294967296 := by omega
          clear hbad hok g1 g2 g3 hE hp
          subst hq
          go_wp2_with (first
            | (go_at_call 34; refine (hC _).mono ?_; rintro r w' ⟨rfl, rfl⟩)
            | fail)
          go_round
          case rel => exact ⟨k + 1, A * 256 + q, by omega, hq2, by go_num, by go_num, G1⟩
          case measure => simp [intOf]; omega
      · have hk' : k = P.length - 1 := by omega
        obtain ⟨m, hm⟩ : ∃ m, P.length = m + 1 := ⟨P.length - 1, by omega⟩
        have hkm : k = m := by omega
        subst hkm
        have HM := hid hm
        have hAl := acc_lt P k A (by omega) HA.out
        have HAl := hid hAl
        have hk3 : k ≤ 3 := by omega
        have hPk : (P.length : Int) = (k : Int) + 1 := by omega
        have hlt : ¬ (k : Int) < (k : Int) := by omega
        clear hm hk' hAl hkL hk
        go_wp2_with fail
        clear hPk hlt
        go_loop [5, 8, 9] (fun av mv iv => ∃ j M T : Nat, k ≤ j ∧ j ≤ 4 ∧ M ≤ 4294967296 ∧ T ≤ 4294967296 ∧ iv = .int .i64 (j : Int) ∧ mv = .int .i64 (M : Int) ∧ av = .int .i64 (T : Int) ∧ Hid (M = 256 ^ (j - k)) ∧ Hid (T = A * M)) (fun _ _ i => 4 - (intOf i).toNat)
        case atStart => exact ⟨k, 1, A, Nat.le_refl _, by omega, by omega, hA, rfl, rfl, rfl, by show _ = _; simp, by show _ = _; simp⟩
        case round =>
          obtain ⟨j, M, T, hkj, hj4, hM, hTm, rfl, rfl, rfl, HMe, HTe⟩ := hrel
          by_cases hj : (j : Int) < 4
          · have hM2 : Hid (M * 256 = 256 ^ (j + 1 - k)) := by
              show _ = _
              rw [HMe.out, show j + 1 - k = (j - k) + 1 from by omega, Nat.pow_succ]
            have hT2 : Hid (T * 256 = A * (M * 256)) := by show _ = _; rw [HTe.out, Nat.mul_assoc]
            have hM3 : M * 256 ≤ 4294967296 := by rw [hM2.out]; exact pow_le4 _ (by omega)
            have hT3 : T * 256 ≤ 4294967296 := by
              rw [hT2.out, hM2.out]
              have h1 : A * 256 ^ (j + 1 - k) ≤ 256 ^ k * 256 ^ (j + 1 - k) := Nat.mul_le_mul_right _ (Nat.le_of_lt HAl.out)
              rw [← Nat.pow_add, show k + (j + 1 - k) = j + 1 from by omega] at h1
              have h2 := pow_le4 (j + 1) (by omega)
              omega
            go_wp2_with fail
            go_round
            case rel => exact ⟨j + 1, M * 256, T * 256, by omega, by omega, hM3, hT3, by go_num, by go_num, by go_num, hM2, hT2⟩
            case measure => simp [intOf]; omega
          · have hj' : j = 4 := by omega
            subst hj'
            have hc := own_str HO.out k (by have := HM.out; omega)
            have hxs := HPS.out k
            obtain ⟨x, hx⟩ : ∃ x, x = P.getD k [] := ⟨_, rfl⟩
            rw [← hx] at hc hxs
            have HX : Hid (P.getD k [] = x) := hx.symm
            clear hx
            have hpg := part_ge x
            have hxz : (asS x).size ≤ 1000000 := by rw [asS_size]; exact hxs
            obtain ⟨p, hp⟩ : ∃ p, p = partA x := ⟨_, rfl⟩
            have hC : ∀ w, Calls Tryd.prog 34 #[.string (asS x)] w fun e w' => e = .returned (.int .i64 p) ∧ w' = w := fun w => by rw [hp]; exact refPart_any (asS x) w hxz
            rw [← hp] at hpg
            have HLA := hid (acc_last P k A M HM.out x HX.out (by rw [HMe.out, HM.out, show 5 - (k + 1) = 4 - k from by omega]) HA.out (by have := HM.out; omega))
            have hPk : (P.length : Int) = (k : Int) + 1 := by have := HM.out; omega
            by_cases hbad : p < 0 ∨ (M : Int) ≤ p
            · have HF0 : Hid (looseA s.data.toList = none) := by
                show _ = _
                rw [HFA.out, HLA.out, if_neg (by unfold partOk; rw [← hp, decide_eq_true_eq]; omega)]; rfl
              clear hp
              rcases hbad with hbad | hbad
              · go_wp2_with (first
                  | (go_at_call 34; refine (hC _).mono ?_; rintro r w' ⟨rfl, rfl⟩)
                  | (refine store_addr rfl _ _ rfl w.heap.size false (zer 16) rfl rfl rfl _ HR0.out rfl ?_)
                  | fail)
                intro W2 hO2 hW2
                go_wp2
                refine bodyPost_ret (ret_addr2 (p := 2) (q := 3) Tryd.results12 _ _ w.heap.size false (zer 16) rfl (0, 0) _ rfl rfl hW2) rfl ⟨?_, HB0.out.trans (hO2.below (Nat.le_refl _))⟩
                rw [HF0.out]; rfl
              · have hbad2 : ¬ p < 0 := by omega
                go_wp2_with (first
                  | (go_at_call 34; refine (hC _).mono ?_; rintro r w' ⟨rfl, rfl⟩)
                  | (refine store_addr rfl _ _ rfl w.heap.size false (zer 16) rfl rfl rfl _ HR0.out rfl ?_)
                  | fail)
                intro W2 hO2 hW2
                go_wp2
                refine bodyPost_ret (ret_addr2 (p := 2) (q := 3) Tryd.results12 _ _ w.heap.size false (zer 16) rfl (0, 0) _ rfl rfl hW2) rfl ⟨?_, HB0.out.trans (hO2.below (Nat.le_refl _))⟩
                rw [HF0.out]; rfl
            · have h1 : ¬ p < 0 := fun h => hbad (Or.inl h)
              have h2 : ¬ (M : Int) ≤ p := fun h => hbad (Or.inr h)
              have hok : partOk M x = true := by unfold partOk; rw [← hp, decide_eq_true_eq]; omega
              obtain ⟨q, hq⟩ : ∃ q : Nat, p = (q : Int) := ⟨p.toNat, by omega⟩
              have HF1 : Hid (looseA s.data.toList = some (v4B (T + q))) := by
                show _ = _
                rw [HFA.out, HLA.out, if_pos hok, ← hp, hq, Int.toNat_natCast, ← HTe.out]; rfl
              clear hbad hok hp
              subst hq
              have HV := hid (fun W => refV4_any (T + q) (by omega) W)
              have HVL := hid (v4B_len (T + q))
              obtain ⟨VB, hVB⟩ : ∃ VB, VB = v4B (T + q) := ⟨_, rfl⟩
              rw [← hVB] at HF1 HV HVL
              have hcast : ((T + q : Nat) : Int) = (T : Int) + (q : Int) := by omega
              rw [hcast] at HV
              clear hVB hcast
              go_wp2_with (first
                | (go_at_call 34; refine (hC _).mono ?_; rintro r w' ⟨rfl, rfl⟩)
                | fail)
              refine (HV.out _).mono ?_
              rintro e W2 ⟨rfl, hb2⟩
              have HR2 : Hid (W2.heap[w.heap.size]? = _) := (hb2.block _ (by omega)).trans HR0.out
              have HB2 : Hid (Below w.heap.size w W2) := HB0.out.trans (hb2.mono HB0.out.size)
              clear hb2
              go_wp2_with (first
                | (refine store_addr rfl _ _ rfl w.heap.size false VB HVL.out rfl rfl _ HR2.out rfl ?_)
                | fail)
              intro W3 hO3 hW3
              go_wp2
              refine bodyPost_ret (ret_addr2 (p := 2) (q := 3) Tryd.results12 _ _ w.heap.size false VB HVL.out (0, 0) _ rfl rfl hW3) rfl ⟨?_, HB2.out.trans (hO3.below (Nat.le_refl _))⟩
              rw [HF1.out]; rfl
end Go.Proofs.YtggjblnbjigjmaaDoor
