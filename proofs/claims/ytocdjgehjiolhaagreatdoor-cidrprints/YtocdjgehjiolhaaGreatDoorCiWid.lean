
/- What cidr.width and cidr.first do. -/
import Derived.Test.YtocdjgehjiolhaaGreatDoorCiNet
import Derived.Test.YtocdjgehjiolhaaGreatDoorIpLast
import Derived.Laws.BitsAll
import Derived.Laws.Bits
namespace Go.Proofs.YtocdjgehjiolhaaGreatDoor
open Go.RowKit

set_option maxHeartbeats 1000000 in
theorem width_any (v : Bool) (B : List UInt8) (w : World) : Calls Tryz.prog 16 #[.agg (acs v B)] w fun e w' => e = .returned (.int .i64 (totB v)) ∧ Below w.heap.size w w' := by
  have c0 := acs_zero v B
  generalize acs v B = X at c0 ⊢
  cases v
  · go_enter Tryz.func16, Tryz.ntmps16
    go_wp2_with fail
    go_ret
    exact ⟨rfl, alloc_below (Below.refl _ w) (Nat.le_refl _) _⟩
  · go_enter Tryz.func16, Tryz.ntmps16
    go_wp2_with fail
    go_ret
    exact ⟨rfl, alloc_below (Below.refl _ w) (Nat.le_refl _) _⟩

/-- The bytes behind i rounds. -/
def midB (B : List UInt8) (L i : Nat) : List UInt8 := (firstB B L).take i ++ B.drop i
theorem midB_len (B : List UInt8) (hB : B.length = 16) (L i : Nat) (hi : i ≤ 16) : (midB B L i).length = 16 := by simp [midB, firstB_len, hB]; omega
theorem midB_zero (B : List UInt8) (L : Nat) : midB B L 0 = B := by simp [midB]
theorem midB_end (B : List UInt8) (hB : B.length = 16) (L : Nat) : midB B L 16 = firstB B L := by
  unfold midB
  rw [List.take_of_length_le (by rw [firstB_len]; omega), List.drop_eq_nil_of_le (by omega), List.append_nil]
theorem midB_at (B : List UInt8) (L i : Nat) (hi : i < 16) : (midB B L i).getD i 0 = B.getD i 0 := by
  unfold midB
  rw [List.getD_eq_getElem?_getD, List.getD_eq_getElem?_getD, List.getElem?_append_right (by rw [List.length_take, firstB_len]; omega), List.length_take, firstB_len, Nat.min_eq_left (by omega), Nat.sub_self, List.getElem?_drop, Nat.add_zero]
theorem midB_next (B : List UInt8) (hB : B.length = 16) (L i : Nat) (hi : i < 16) : (midB B L i).set i (keepB (B.getD i 0) (min (L - 8 * i) 8)) = midB B L (i + 1) := by
  have h1 : ((firstB B L).take i).length = i := by rw [List.length_take, firstB_len]; omega
  have h2 := firstB_at B L i hi
  unfold midB
  rw [List.set_append_right _ _ (by omega), h1, Nat.sub_self]
  have e1 : B.drop i = B.getD i 0 :: B.drop (i + 1) := by
    rw [List.drop_eq_getElem_cons (by omega), List.getD_eq_getElem?_getD, List.getElem?_eq_getElem (by omega)]; rfl
  have e2 : (firstB B L).take (i + 1) = (firstB B L).take i ++ [(firstB B L).getD i 0] := by
    rw [List.take_succ_eq_append_getElem (by rw [firstB_len]; omega), List.getD_eq_getElem?_getD, List.getElem?_eq_getElem (by rw [firstB_len]; omega)]; rfl
  rw [e1, e2, h2]
  simp
theorem and_keep : ∀ (a : Fin 256) (m : Fin 9), (a.val &&& (255 - 255 / 2 ^ m.val)) = keepN a.val m.val := by decide +kernel
theorem bits_keep (b : UInt8) (m : Nat) (hm : m ≤ 8) : bits .andNot .u8 (b.toNat : Int) ((255 / 2 ^ m : Nat) : Int) = ((keepB b m).toNat : Int) := by
  have h1 : 255 / 2 ^ m ≤ 255 := Nat.div_le_self _ _
  rw [u8_andNot_nat b.toNat (255 / 2 ^ m) b.toNat_lt (by omega), keepB_toNat]
  exact congrArg (fun n : Nat => (n : Int)) (and_keep ⟨b.toNat, b.toNat_lt⟩ ⟨m, by omega⟩)
set_option maxHeartbeats 1000000 in
theorem first_any (v : Bool) (B : List UInt8) (hB : B.length = 16) (k : Nat) (hk : k ≤ 128) (w : World) : Calls Tryz.prog 17 #[.agg (acs v B), .int .i64 k] w fun e w' => e = .returned (.agg (acs v (firstB B (offB v + k)))) ∧ Below w.heap.size w w' := by
  have HW := hid (fun W => width_any v B W)
  have HT : Hid ((128 : Int) - (totB v : Int) + (k : Int) = ((offB v + k : Nat) : Int)) := by show _ = _; cases v <;> simp [totB, offB] <;> omega
  have hL : offB v + k ≤ 224 := by cases v <;> simp [offB] <;> omega
  generalize offB v + k = L at HT hL ⊢
  go_enter Tryz.func17, Tryz.ntmps17
  go_wp2_with (first
    | (refine load_addr rfl _ rfl w.heap.size v B hB rfl (0, 0) ((Below.heap_alloc _ _ _ (by simp)).trans (heap_alloc_new w _)) ?_)
    | fail)
  refine (HW.out _).mono ?_
  rintro e V ⟨rfl, hb⟩
  obtain ⟨r1, r2, r3, r4⟩ := row2 hb
  have HR1 := hid r1; have HR2 := hid r2; have HB := hid r3; have hz := r4
  clear hb r1 r2 r3 r4
  have hT := HT.out
  have htv : totB v ≤ 128 := by cases v <;> decide
  go_wp2_with fail
  clear hT
  go_loopw [5, 12] (fun lv iv wr => ∃ i : Nat, i ≤ 16 ∧ iv = .int .i64 (i : Int) ∧ lv = .int .i64 ((L - 8 * i : Nat) : Int) ∧ Hid (wr.heap[w.heap.size]? = some (.cells (acs v (midB B L i)) 24 (0, 0))) ∧ Hid (∃ Z : Array Value, Z.size = 17 ∧ wr.heap[w.heap.size + 1]? = some (.cells Z 24 (0, 0))) ∧ Hid (Below w.heap.size w wr)) (fun _ i _ => 16 - (intOf i).toNat)
  case atStart => exact ⟨0, by omega, rfl, by simp, by show _ = _; rw [midB_zero]; exact HR2.out, ⟨_, rfl, HR1.out⟩, HB.out⟩
  case round =>
    obtain ⟨i, hi, rfl, rfl, HA, HZ, HBr⟩ := hrel
    by_cases h16 : (i : Int) < 16
    · have hm : min (L - 8 * i) 8 ≤ 8 := by omega
      have hc : wr.cell? ⟨w.heap.size, 1 + i, none⟩ = some (.int .u8 (B.getD i 0).toNat) := by
        rw [cell_of_row _ _ _ _ _ _ HA.out, Nat.add_comm, acs_at v _ i (by rw [midB_len B hB L i hi]; omega), midB_at B L i (by omega)]
      have hf : wr.frozen? ⟨w.heap.size, 1 + i, none⟩ = false := frozen_of_row _ _ _ _ _ HA.out
      have HNX : Hid ((midB B L i).set i (keepB (B.getD i 0) (min (L - 8 * i) 8)) = midB B L (i + 1)) := midB_next B hB L i (by omega)
      have HLE : Hid ((midB B L i).length = 16) := midB_len B hB L i hi
      have hsub : Hid (L - 8 * (i + 1) = (L - 8 * i) - 8) := by show _ = _; omega
      have hq2 : L - 8 * i ≤ 224 := by omega
      generalize L - 8 * i = q at hm HNX hsub hq2
      have hbk : bits .andNot .u8 ((B.getD i 0).toNat : Int) (255 / 2 ^ (min (q : Int) 8).toNat) = ((keepB (B.getD i 0) (min q 8)).toNat : Int) := by
        rw [← bits_keep _ _ hm]
        congr 1
        rw [show (min (q : Int) 8).toNat = min q 8 from by omega]
        simp
      generalize keepB (B.getD i 0) (min q 8) = y at hbk HNX
      generalize B.getD i 0 = b at hbk hc
      have hqm : (max ((q : Int) - 8) 0) = ((q - 8 : Nat) : Int) := by omega
      go_wp2_with fail
      go_region
      go_wp2_with fail
      go_roundw
      case rel =>
        refine ⟨i + 1, by omega, by go_num, ?_, ?_, ?_, ?_⟩
        · rw [hsub.out]
        · show _ = _
          rw [← HNX.out, ← acs_set v (midB B L i) i y, Nat.add_comm i 1]
          exact setCells_heapF w.heap.size 24 (0, 0) [Value.int .u8 y.toNat] (1 + i) wr _ HA.out
        · obtain ⟨Z, hZ, hrz⟩ := HZ.out
          exact ⟨Z, hZ, ((only_set w.heap.size (1 + i) _ wr).block _ (by omega)).trans hrz⟩
        · exact (HBr.out.trans ((only_set w.heap.size (1 + i) _ wr).below (Nat.le_refl _))).drew
      case measure => simp [intOf]; omega
    · have hi' : i = 16 := by omega
      subst hi'
      obtain ⟨Z, hZ, hrz⟩ := HZ.out
      have HM : Hid (midB B L 16 = firstB B L) := midB_end B hB L
      rw [HM.out] at HA
      go_wp2_with (first
        | (refine load_addr rfl _ rfl w.heap.size v (firstB B L) (firstB_len B L) rfl (0, 0) HA.out ?_)
        | (refine store_addr rfl _ _ rfl (w.heap.size + 1) v (firstB B L) (firstB_len B L) rfl rfl _ hrz hZ ?_)
        | fail)
      intro W3 hO3 hW3
      go_wp2
      exact bodyPost_ret (ret_addr Tryz.results17 _ _ (w.heap.size + 1) v _ (firstB_len B L) (0, 0) rfl hW3) rfl ⟨rfl, HBr.out.trans (hO3.below (by omega))⟩
end Go.Proofs.YtocdjgehjiolhaaGreatDoor
