
/- What cidr.v6 does. -/
import Derived.Test.YtocdjgehjiolhaaCiFunc
import Derived.Test.YtocdjgehjiolhaaIpV4
namespace Go.Proofs.Ytocdjgehjiolhaa
open Go.RowKit
set_option linter.unusedSimpArgs false
set_option maxRecDepth 100000

/-- The IPv6 that begins with groups. -/
def v6L (gs : List Nat) : List UInt8 := (List.range 16).map fun j => if j % 2 = 0 then UInt8.ofNat (gs.getD (j / 2) 0 / 256) else UInt8.ofNat (gs.getD (j / 2) 0)
theorem v6L_len (gs : List Nat) : (v6L gs).length = 16 := by simp [v6L]
theorem v6L_at (gs : List Nat) (j : Nat) (h : j < 16) : (v6L gs)[j]? = some (if j % 2 = 0 then UInt8.ofNat (gs.getD (j / 2) 0 / 256) else UInt8.ofNat (gs.getD (j / 2) 0)) := by
  unfold v6L
  rw [List.getElem?_map, List.getElem?_range h]
  rfl
theorem take_getD (gs : List Nat) (i j : Nat) : (gs.take i).getD j 0 = if j < i then gs.getD j 0 else 0 := by
  rw [List.getD_eq_getElem?_getD, List.getD_eq_getElem?_getD, List.getElem?_take]
  split <;> rfl
theorem v6L_next (gs : List Nat) (i x : Nat) (hx : gs[i]? = some x) : ((v6L (gs.take i)).set (2 * i) (UInt8.ofNat (x / 256))).set (2 * i + 1) (UInt8.ofNat x) = v6L (gs.take (i + 1)) := by
  have hx' : gs.getD i 0 = x := by rw [List.getD_eq_getElem?_getD, hx]; rfl
  apply List.ext_getElem?
  intro j
  by_cases hj : j < 16
  · rw [v6L_at _ j hj, List.getElem?_set, List.getElem?_set, List.length_set, v6L_len, v6L_at _ j hj, take_getD, take_getD]
    by_cases h1 : 2 * i + 1 = j
    · subst h1
      rw [if_pos rfl, if_pos hj, if_neg (by omega), if_pos (by omega), show (2 * i + 1) / 2 = i from by omega, hx']
    · rw [if_neg h1]
      by_cases h2 : 2 * i = j
      · subst h2
        rw [if_pos rfl, if_pos hj, if_pos (by omega), if_pos (by omega), show 2 * i / 2 = i from by omega, hx']
      · rw [if_neg h2]
        by_cases h3 : j / 2 < i
        · simp only [if_pos h3, if_pos (show j / 2 < i + 1 by omega)]
        · simp only [if_neg h3, if_neg (show ¬ j / 2 < i + 1 by omega)]
  · rw [List.getElem?_eq_none (by rw [List.length_set, List.length_set, v6L_len]; omega), List.getElem?_eq_none (by rw [v6L_len]; omega)]
theorem v6L_zero : v6L ([].take 0) = zer 16 := by decide
theorem v6L_take0 (gs : List Nat) : v6L (gs.take 0) = zer 16 := by rw [List.take_zero]; decide
theorem ofNat_wrap (x : Nat) : ((UInt8.ofNat x).toNat : Int) = IntKind.u8.wrap (x : Int) := by
  rw [UInt8.toNat_ofNat', IntKind.wrap_u8]
  omega
set_option maxHeartbeats 2000000 in
theorem v6_any (gs : List Nat) (hg : gs.length ≤ 8) (hlt : ∀ x ∈ gs, x < 65536) (b c : Nat) (w : World) (hrow : w.heap[b]? = some (.cells (gs.map fun x : Nat => Value.int .u16 (x : Int)).toArray 52 (0, 0))) : Calls Try.prog 33 #[.slice (some ⟨b, 0, none⟩) gs.length c] w fun e w' => e = .returned (.agg (acs true (v6L gs))) ∧ Below w.heap.size w w' := by
  have hbw : b < w.heap.size := (Array.getElem?_eq_some_iff.1 hrow).1
  have HG : Hid (∀ W, Below w.heap.size w W → ∀ (j x : Nat), gs[j]? = some x → W.cell? ⟨b, j, none⟩ = some (.int .u16 (x : Int))) := fun W hW j x hx => by
    rw [hW.cell (p := ⟨b, j, none⟩) hbw, cell_of_row _ _ _ _ _ _ hrow, List.getElem?_toArray, List.getElem?_map, hx]; rfl
  have HAT : Hid (∀ k, k < gs.length → ∃ x, gs[k]? = some x ∧ x < 65536) := fun k hk => ⟨gs[k], List.getElem?_eq_getElem hk, hlt _ (List.getElem_mem hk)⟩
  have HNX := hid (v6L_next gs)
  have HEND : Hid (gs.take gs.length = gs) := List.take_length
  clear hrow hlt
  obtain ⟨m, hm⟩ : ∃ m, m = gs.length := ⟨_, rfl⟩
  rw [← hm] at hg HAT HEND ⊢
  clear hm
  go_enter Try.func33, Try.ntmps33
  go_wp2_with (first
    | (refine wpList_built rfl 24 _ rfl (acs true (zer 16)) built_v6 ?_)
    | (refine store_addr rfl _ _ rfl (w.heap.size + 1) true (zer 16) rfl rfl rfl _ (by rw [← sz_alloc]; exact heap_alloc_new _ _) rfl ?_)
    | fail)
  intro V hO hV
  have HR : Hid (V.heap[w.heap.size]? = _) := (hO.block _ (by omega)).trans ((Below.heap_alloc _ _ _ (by simp)).trans (heap_alloc_new w _))
  have HB : Hid (Below w.heap.size w V) := (alloc_below (alloc_below (Below.refl _ w) (Nat.le_refl _) _) (by simp) _).trans (hO.below (by omega))
  have HV := hid hV
  clear hO hV
  go_wp2_with fail
  go_loopw [4, 5, 9] (fun _ _ iv wr => ∃ i : Nat, i ≤ m ∧ iv = .int .i64 (i : Int) ∧ Hid (wr.heap[w.heap.size + 1]? = some (.cells (acs true (v6L (gs.take i))) 24 (0, 0))) ∧ Hid (∃ Z : Array Value, Z.size = 17 ∧ wr.heap[w.heap.size]? = some (.cells Z 24 (0, 0))) ∧ Hid (Below w.heap.size w wr)) (fun _ _ i _ => m - (intOf i).toNat)
  case atStart => exact ⟨0, by omega, rfl, by show _ = _; rw [v6L_take0]; exact HV.out, ⟨_, rfl, HR.out⟩, HB.out⟩
  case round =>
    obtain ⟨i, hi, rfl, HA, HZ, HBr⟩ := hrel
    by_cases him : (i : Int) < (m : Int)
    · obtain ⟨x, hx, hxl⟩ := HAT.out i (by omega)
      have hc := HG.out wr HBr.out i x hx
      have HN := hid (HNX.out i x hx)
      clear hx
      have E1 : Hid ((x : Int) / 256 = ((UInt8.ofNat (x / 256)).toNat : Int)) := by show _ = _; rw [ofNat_wrap, IntKind.wrap_u8]; omega
      have E2 : Hid (IntKind.u8.wrap (x : Int) = ((UInt8.ofNat x).toNat : Int)) := (ofNat_wrap x).symm
      have HL : Hid ((v6L (gs.take i)).length = 16) := v6L_len _
      have HL2 : Hid (((v6L (gs.take i)).set (2 * i) (UInt8.ofNat (x / 256))).length = 16) := by show _ = _; rw [List.length_set]; exact v6L_len _
      generalize UInt8.ofNat (x / 256) = y1 at E1 HN HL2
      generalize UInt8.ofNat x = y2 at E2 HN
      generalize v6L (gs.take i) = CUR at HA HN HL HL2
      go_wp2_with (first
        | (refine store_byteA rfl _ _ rfl (w.heap.size + 1) _ (2 * i) true CUR (by rw [HL.out]; omega) y1 _ rfl (by omega) rfl E1.out HA.out ?_)
        | fail)
      intro W1 hO1 hW1
      have HW1 := hid hW1
      clear hW1
      go_wp2_with (first
        | (refine store_byteA rfl _ _ rfl (w.heap.size + 1) _ (2 * i + 1) true _ (by rw [HL2.out]; omega) y2 _ rfl (by omega) rfl E2.out HW1.out ?_)
        | fail)
      intro W2 hO2 hW2
      have HW2 := hid hW2
      rw [HN.out] at HW2
      clear hW2
      go_wp2_with fail
      go_roundw
      case rel =>
        refine ⟨i + 1, by omega, by go_num, HW2, ?_, ?_⟩
        · obtain ⟨Z, hZ, hrz⟩ := HZ.out
          exact ⟨Z, hZ, (hO2.block _ (by omega)).trans ((hO1.block _ (by omega)).trans hrz)⟩
        · exact (HBr.out.trans (hO1.below (by omega))).trans (hO2.below (by omega))
      case measure => simp [intOf]; omega
    · have hi' : i = m := by omega
      subst hi'
      rw [HEND.out] at HA
      obtain ⟨Z, hZ, hrz⟩ := HZ.out
      have HRZ := hid hrz
      clear hrz
      have HL : Hid ((v6L gs).length = 16) := v6L_len _
      obtain ⟨R, hR⟩ : ∃ R, R = v6L gs := ⟨_, rfl⟩
      rw [← hR] at HA HL
      have HRE := hid hR
      clear hR
      go_wp2_with (first
        | (refine load_addr rfl _ rfl (w.heap.size + 1) true R HL.out rfl (0, 0) HA.out ?_)
        | (refine store_addr rfl _ _ rfl w.heap.size true R HL.out rfl rfl _ HRZ.out hZ ?_)
        | fail)
      intro W3 hO3 hW3
      go_wp2
      exact bodyPost_ret (ret_addr Try.results33 _ _ w.heap.size true R HL.out (0, 0) rfl hW3) rfl ⟨by rw [HRE.out], HBr.out.trans (hO3.below (Nat.le_refl _))⟩
set_option maxHeartbeats 1000000 in
theorem v6_nil (w : World) : Calls Try.prog 33 #[.slice none 0 0] w fun e w' => e = .returned (.agg (acs true (zer 16))) ∧ Below w.heap.size w w' := by
  go_enter Try.func33, Try.ntmps33
  go_wp2_with (first
    | (refine wpList_built rfl 24 _ rfl (acs true (zer 16)) built_v6 ?_)
    | (refine store_addr rfl _ _ rfl (w.heap.size + 1) true (zer 16) rfl rfl rfl _ (by rw [← sz_alloc]; exact heap_alloc_new _ _) rfl ?_)
    | fail)
  intro V hO hV
  have HR : Hid (V.heap[w.heap.size]? = _) := (hO.block _ (by omega)).trans ((Below.heap_alloc _ _ _ (by simp)).trans (heap_alloc_new w _))
  have HB : Hid (Below w.heap.size w V) := (alloc_below (alloc_below (Below.refl _ w) (Nat.le_refl _) _) (by simp) _).trans (hO.below (by omega))
  have HV := hid hV
  clear hO hV
  go_wp2_with fail
  go_loop [4, 5, 9] (fun _ _ iv => iv = .int .i64 0) (fun _ _ _ => 0)
  case atStart => rfl
  case round =>
    subst hrel
    go_wp2_with (first
      | (refine load_addr rfl _ rfl (w.heap.size + 1) true (zer 16) rfl rfl (0, 0) HV.out ?_)
      | (refine store_addr rfl _ _ rfl w.heap.size true (zer 16) rfl rfl rfl _ HR.out rfl ?_)
      | fail)
    intro W3 hO3 hW3
    go_wp2
    exact bodyPost_ret (ret_addr Try.results33 _ _ w.heap.size true (zer 16) rfl (0, 0) rfl hW3) rfl ⟨rfl, HB.out.trans (hO3.below (Nat.le_refl _))⟩
end Go.Proofs.Ytocdjgehjiolhaa
