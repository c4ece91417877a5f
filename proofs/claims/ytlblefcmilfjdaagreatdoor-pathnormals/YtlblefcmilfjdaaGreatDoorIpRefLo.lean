
/- What the reference's V4 and Loose do. -/
import Derived.Test.YtlblefcmilfjdaaGreatDoorIpCut
namespace Go.Proofs.YtlblefcmilfjdaaGreatDoor
open Go.RowKit

/-- The last k bytes are there. -/
def vK (n k : Nat) : List UInt8 := zer (16 - k) ++ (v4B n).drop (16 - k)
theorem vK_len (n k : Nat) (hk : k ≤ 4) : (vK n k).length = 16 := by
  unfold vK; rw [List.length_append, zer_len, List.length_drop, v4B_len]; omega
theorem vK_set (n k : Nat) (hk : k < 4) : (vK n k).set (15 - k) (b8 (n / 256 ^ k)) = vK n (k + 1) := by
  match k, hk with
  | 0, _ => rw [show n / 256 ^ 0 = n from by simp]; rfl
  | 1, _ => rw [show n / 256 ^ 1 = n / 256 from by simp]; rfl
  | 2, _ => rw [show (256 : Nat) ^ 2 = 65536 from by decide]; rfl
  | 3, _ => rw [show (256 : Nat) ^ 3 = 16777216 from by decide]; rfl
theorem vK_four (n : Nat) : vK n 4 = v4B n := rfl
theorem vK_zero (n : Nat) : vK n 0 = zer 16 := rfl
set_option maxHeartbeats 1000000 in
theorem refV4_any (n : Nat) (hn : n < 18446744073709551616) (w : World) : Calls Tryz.prog 111 #[.int .u64 n] w fun e w' => e = .returned (.agg (acs false (v4B n))) ∧ Below w.heap.size w w' := by
  go_enter Tryz.func111, Tryz.ntmps111
  go_wp2_with (first
    | (refine store_addr rfl _ _ rfl (w.heap.size + 1) false (zer 16) rfl rfl rfl _ (by rw [← sz_alloc]; exact heap_alloc_new _ _) rfl ?_)
    | fail)
  intro W1 hO1 hW1
  have HW1 := hid hW1
  have HZ1 : Hid (∃ Z : Array Value, Z.size = 17 ∧ W1.heap[w.heap.size]? = some (.cells Z 93 (0, 0))) := ⟨_, rfl, (hO1.block _ (by omega)).trans ((Below.heap_alloc _ _ _ (by simp)).trans (heap_alloc_new w _))⟩
  have HB1 : Hid (Below w.heap.size w W1) := (alloc_below (alloc_below (Below.refl _ w) (Nat.le_refl _) _) (by simp) _).trans (hO1.below (by omega))
  have hs1 : w.heap.size + 2 ≤ W1.heap.size := by rw [hO1.size]; simp
  clear hO1 hW1
  go_wp2_with fail
  go_loopw [0, 4] (fun nv iv wx => ∃ k m : Nat, k ≤ 4 ∧ m < 18446744073709551616 ∧ iv = .int .i64 (15 - (k : Int)) ∧ nv = .int .u64 (m : Int) ∧ Hid (m = n / 256 ^ k) ∧ Hid (wx.heap[w.heap.size + 1]? = some (.cells (acs false (vK n k)) 93 (0, 0))) ∧ Hid (Only (w.heap.size + 1) W1 wx)) (fun _ i _ => ((intOf i) - 11).toNat)
  case atStart => exact ⟨0, n, by omega, hn, rfl, rfl, by show _ = _; simp, HW1, ⟨rfl, rfl, rfl, rfl, fun _ _ => rfl⟩⟩
  case round =>
    obtain ⟨k, m, hk, hm, rfl, rfl, HM, HK, HOn⟩ := hrel
    by_cases hk4 : (12 : Int) ≤ 15 - (k : Int)
    · have HS := hid (vK_set n k (by omega))
      rw [← HM.out] at HS
      have HY : Hid ((m : Int) % 256 = ((b8 m).toNat : Int)) := by show _ = _; simp [b8]
      have HM1 : Hid (m / 256 = n / 256 ^ (k + 1)) := by show _ = _; rw [HM.out, Nat.div_div_eq_div_mul, ← Nat.pow_succ]
      have HLN := hid (vK_len n k hk)
      generalize b8 m = y8 at HS HY
      go_wp2_with (first
        | (refine store_byteA rfl _ _ rfl (w.heap.size + 1) _ (15 - k) false (vK n k) (by rw [HLN.out]; omega) y8 _ rfl ?hoj rfl HY.out HK.out ?_)
        | fail)
      case hoj => omega
      intro W3 hO3 hW3
      rw [HS.out] at hW3
      have HW3 := hid hW3
      have HO3 : Hid (Only (w.heap.size + 1) W1 W3) := ⟨hO3.os.trans HOn.out.os, hO3.tape.trans HOn.out.tape, hO3.output.trans HOn.out.output, hO3.size.trans HOn.out.size, fun j hj => (hO3.block j hj).trans (HOn.out.block j hj)⟩
      clear hW3 hO3
      go_wp2_with fail
      go_roundw
      case rel => exact ⟨k + 1, m / 256, by omega, by omega, by go_num, by go_num, HM1, HW3, HO3⟩
      case measure => simp [intOf]; omega
    · have hk' : k = 4 := by omega
      subst hk'
      obtain ⟨Z, hZs, hZ⟩ := HZ1.out
      have HZr : Hid (wr.heap[w.heap.size]? = some (.cells Z 93 (0, 0))) := (HOn.out.block _ (by omega)).trans hZ
      clear hZ
      have HVL := hid (v4B_len n)
      have HK' : Hid (wr.heap[w.heap.size + 1]? = some (.cells (acs false (v4B n)) 93 (0, 0))) := HK
      go_wp2_with (first
        | (refine load_addr rfl _ rfl (w.heap.size + 1) false (v4B n) HVL.out rfl (0, 0) HK'.out ?_)
        | (refine store_addr rfl _ _ rfl w.heap.size false (v4B n) HVL.out rfl rfl _ HZr.out hZs ?_)
        | fail)
      intro W3 hO3 hW3
      go_wp2
      exact bodyPost_ret (ret_addr Tryz.results111 _ _ w.heap.size false (v4B n) HVL.out (0, 0) rfl hW3) rfl ⟨rfl, (HB1.out.trans (HOn.out.below (by omega))).trans (hO3.below (Nat.le_refl _))⟩

theorem getLast_at (s : ByteArray) (h : 0 < s.size) : s.data.toList.getLast? = some (s[s.size - 1]'(by omega)) := by
  rw [List.getLast?_eq_getElem?, ← Lib.size_eq, List.getElem?_eq_getElem (by simpa using by omega)]; simp; rfl
theorem trim_yes (s : ByteArray) (h : 0 < s.size) (hb : s[s.size - 1]'(by omega) = 46) : trimDot s.data.toList = (s.extract 0 (s.size - 1)).data.toList := by
  unfold trimDot
  rw [getLast_at s h, if_pos (by rw [hb]), cut_list, List.drop_zero, Nat.sub_zero, List.dropLast_eq_take, ← Lib.size_eq]
theorem trim_no (s : ByteArray) (h : 0 < s.size) (hb : s[s.size - 1]'(by omega) ≠ 46) : trimDot s.data.toList = s.data.toList := by
  unfold trimDot
  rw [getLast_at s h, if_neg (fun e => hb (Option.some.inj e))]
theorem acc_last (P : List (List UInt8)) (m A E : Nat) (hm : P.length = m + 1) (x : List UInt8) (hx : P.getD m [] = x) (hE : E = 256 ^ (5 - P.length)) (h : accL P m = some A) (h4 : P.length ≤ 4) : accL P P.length = if partOk E x then some (A * E + (partA x).toNat) else none := by
  have e : endL P.length m = E := by unfold endL; rw [hE, hm, if_pos (by omega), show 5 - (m + 1) = 4 - m from by omega]
  rw [hm] at e ⊢
  rw [accL, h]
  simp only
  rw [hx, hm, e]
theorem pow_le4 (k : Nat) (h : k ≤ 4) : 256 ^ k ≤ 4294967296 := by
  have h2 : 256 ^ k ≤ 256 ^ 4 := Nat.pow_le_pow_right (by omega) h
  have h3 : (256 : Nat) ^ 4 = 4294967296 := by decide
  omega
theorem pow_pos (k : Nat) : 1 ≤ 256 ^ k := Nat.one_le_pow _ _ (by omega)
theorem part_ge (x : List UInt8) : -1 ≤ partA x ∧ partA x ≤ 4294967296 := by
  have hn : ∀ b l, -1 ≤ num b l ∧ num b l ≤ 4294967296 := fun b l => by
    unfold num; split
    · omega
    · omega
  unfold partA
  split
  · split
    · omega
    · exact hn _ _
  · split
    · exact hn _ _
    · exact hn _ _
theorem own_str {w : World} {b g n c : Nat} {L : List (List UInt8)} (h : OwnV w 9 b g n c (strs L)) (j : Nat) (hj : j < L.length) : w.cell? ⟨g, j, none⟩ = some (.string (asS (L.getD j []))) := by
  refine h.at j _ ?_
  unfold strs
  rw [List.getElem?_map, List.getD_eq_getElem?_getD, List.getElem?_eq_getElem hj]; rfl
theorem asS_size (x : List UInt8) : (asS x).size = x.length := by rw [Lib.size_eq]; rfl
theorem cut_small (b : UInt8) : ∀ (l : List UInt8) x, x ∈ cutL b l → x.length ≤ l.length
  | [], x, h => by simp [cutL] at h; subst h; simp
  | c :: r, x, h => by
    have ih := cut_small b r
    have hp := cutL_pos b r
    unfold cutL at h
    split at h
    · rcases List.mem_cons.1 h with rfl | h
      · simp
      · have := ih x h; simp; omega
    · rcases List.mem_cons.1 h with rfl | h
      · cases hq : cutL b r with
        | nil => rw [hq] at hp; simp at hp
        | cons y t =>
          have := ih y (by rw [hq]; simp)
          simp; omega
      · have := ih x (List.mem_of_mem_tail h); simp; omega
theorem getD_small (b : UInt8) (l : List UInt8) (j : Nat) : ((cutL b l).getD j []).length ≤ l.length := by
  rw [List.getD_eq_getElem?_getD]
  cases h : (cutL b l)[j]? with
  | none => simp
  | some x => exact cut_small b l x (List.mem_of_getElem? h)

end Go.Proofs.YtlblefcmilfjdaaGreatDoor
