
/- What ip.parseV4 does. -/
import Derived.Test.YtocdjgehjiolhaaGreatDoorIpLoo
import Derived.Test.YtocdjgehjiolhaaGreatDoorIpLast
import Derived.Test.YtocdjgehjiolhaaGreatDoorIpBook
namespace Go.Proofs.YtocdjgehjiolhaaGreatDoor
open Go.RowKit

theorem split_any (s : ByteArray) (b : UInt8) (n : Nat) (hn : 1 ≤ n) (hn2 : n ≤ 100) (hs : s.size ≤ 1000000) (w : World) (hT : TabS w) :
    Calls Tryz.prog 66 #[.string s, .string ⟨#[b]⟩, .int .i64 n] w fun e w' => ∃ (L : List ByteArray) (N : Nat), e = .returned (.slice (some ⟨w.heap.size, 0, none⟩) L.length N) ∧ L.map (·.data.toList) = cutK b (n - 1) s.data.toList ∧ (∀ x ∈ L, x.size ≤ s.size) ∧ w'.heap[w.heap.size]? = some (.cells (Lib.cellsOf L N) 9 (0, 0)) ∧ Below w.heap.size w w' ∧ w.heap.size + 1 ≤ w'.heap.size ∧ L.length ≤ N := by
  obtain ⟨m, hm⟩ := hT.max
  refine (Tryz.strings_SplitN s ⟨#[b]⟩ n m w (by omega) hm (Nat.le_refl 1) hn (by omega)).mono ?_
  rintro e w' ⟨rfl, rfl⟩
  refine ⟨_, _, rfl, ?_, fun x hx => splitB_small _ _ s x hx, heap_alloc_new w _, alloc_below (Below.refl _ w) (Nat.le_refl _) _, by simp, ?_⟩
  · rw [Lib.splitB_data, ← splitN_cut b n hn]
    unfold Lib.splitN
    rw [Lib.size_eq]
  · have := Lib.splitB_length_le ⟨#[b]⟩ 0 (min n (s.size + 1) - 1) s
    omega
theorem part_at {w : World} {g N : Nat} {L : List ByteArray} {fr : Nat × Nat} (h : w.heap[g]? = some (.cells (Lib.cellsOf L N) 9 fr)) (j : Nat) (x : ByteArray) (hj : L[j]? = some x) : w.cell? ⟨g, j, none⟩ = some (.string x) := by
  rw [cell_of_row _ _ _ _ _ _ h]
  unfold Lib.cellsOf
  have hl := (List.getElem?_eq_some_iff.1 hj).1
  rw [List.getElem?_toArray, List.getElem?_append_left (by simpa using hl), List.getElem?_map, hj]
  rfl
theorem map_at {L : List ByteArray} {P : List (List UInt8)} (h : L.map (·.data.toList) = P) (j : Nat) (x : ByteArray) (hj : L[j]? = some x) : P.getD j [] = x.data.toList := by
  rw [← h, List.getD_eq_getElem?_getD, List.getElem?_map, hj]; rfl
/-- The answer of reading one of IPv4: its bytes, or none. -/
def ansB (o : Option (List UInt8)) : List UInt8 := o.getD (zer 16)
def ansE (o : Option (List UInt8)) : Int := if o.isSome then 0 else 5
def p4 (l : List UInt8) : Option (List UInt8) := if 0 ≤ four l then some (v4B (four l).toNat) else none
theorem stV_b8 (x : List UInt8) (h : okFour x = true) : ((stV x : Nat) : Int) = ((b8 (valB 10 x)).toNat : Int) := by
  rw [b8_toNat _ (okFour_num x h).2]; unfold stV; rw [if_pos h]
set_option maxHeartbeats 2000000 in
theorem parse4_any (s : ByteArray) (hs : s.size ≤ 1000000) (w : World) (hT : TabS w) :
    Calls Tryz.prog 45 #[.string s] w fun e w' => e = .returned (.tuple #[.agg (acs false (ansB (p4 s.data.toList))), .int .i64 (ansE (p4 s.data.toList))]) ∧ Below w.heap.size w w' := by
  have HP : Hid (p4 s.data.toList = if 0 ≤ fourP (cutK 46 4 s.data.toList) then some (v4B (fourP (cutK 46 4 s.data.toList)).toNat) else none) := by
    show _ = _; unfold p4; rw [four_parts]
  have HT := hid hT
  have HTA : Hid (∀ o, TabS (w.alloc o)) := fun o => hT.below (alloc_below (Below.refl _ w) (Nat.le_refl _) o)
  clear hT
  go_enter Tryz.func45, Tryz.ntmps45
  go_wp2_with fail
  refine (split_any s 46 5 (by omega) (by omega) hs _ (HTA.out _)).mono ?_
  rintro e W1 ⟨L, N, rfl, hM, hSZ, hR, hb, hz, hN⟩
  obtain ⟨hr0, hb0, _⟩ := row1 hb
  rw [sz_alloc] at hR hz ⊢
  have HR0 := hid hr0; have HB0 := hid hb0; have HR := hid hR; have HM := hid hM; have HSZ := hid hSZ
  have hz1 : w.heap.size + 2 ≤ W1.heap.size := by omega
  clear hb hr0 hb0 hR hM hSZ hz
  by_cases hL : (L.length : Int) = 4
  case neg =>
    have HF : Hid (p4 s.data.toList = none) := by
      show _ = _
      have hl : (cutK 46 4 s.data.toList).length ≠ 4 := by rw [← HM.out, List.length_map]; omega
      rw [HP.out, four_len _ hl]; rfl
    go_wp2_with (first
      | (refine store_addr rfl _ _ rfl w.heap.size false (zer 16) rfl rfl rfl _ HR0.out rfl ?_)
      | fail)
    intro W2 hO2 hW2
    go_wp2
    refine bodyPost_ret (ret_addr2 (p := 2) (q := 3) Tryz.results45 _ _ w.heap.size false (zer 16) rfl (0, 0) _ rfl rfl hW2) rfl ⟨?_, HB0.out.trans (hO2.below (Nat.le_refl _))⟩
    rw [HF.out]; rfl
  case pos =>
    obtain ⟨P, hP⟩ : ∃ P, P = cutK 46 4 s.data.toList := ⟨_, rfl⟩
    rw [← hP] at HP
    have HM' : Hid (L.map (·.data.toList) = P) := by rw [hP]; exact HM.out
    have hPL : P.length = 4 := by rw [← HM'.out, List.length_map]; omega
    clear HM hP
    go_wp2_with (first
      | (refine store_addr rfl _ _ rfl W1.heap.size false (zer 16) rfl rfl rfl _ (heap_alloc_new W1 _) rfl ?_)
      | fail)
    intro W2 hO2 hW2
    have HW2 := hid hW2
    have HO2 : Hid (Below W1.heap.size W1 W2) := (alloc_below (Below.refl _ W1) (Nat.le_refl _) _).trans (hO2.below (Nat.le_refl _))
    clear hO2 hW2
    go_wp2_with fail
    go_loopw [19] (fun iv wx => ∃ k : Nat, k ≤ 4 ∧ iv = .int .i64 (k : Int) ∧ Hid (wx.heap[W1.heap.size]? = some (.cells (acs false (fV P k)) 24 (0, 0))) ∧ Hid (Below W1.heap.size W1 wx) ∧ Hid (∀ j, j < k → okFour (P.getD j []) = true)) (fun i _ => 4 - (intOf i).toNat)
    case atStart => exact ⟨0, by omega, rfl, by rw [fV_zero]; exact HW2, HO2, fun j hj => absurd hj (by omega)⟩
    case round =>
      obtain ⟨k, hk, rfl, HK, HBK, HOK⟩ := hrel
      have HRk : Hid (wr.heap[w.heap.size + 1]? = some (.cells (Lib.cellsOf L N) 9 (0, 0))) := (HBK.out.block _ (by omega)).trans HR.out
      have HR0k : Hid (wr.heap[w.heap.size]? = _) := (HBK.out.block _ (by omega)).trans HR0.out
      have HBw : Hid (Below w.heap.size w wr) := HB0.out.trans (HBK.out.mono (by omega))
      by_cases hk4 : (k : Int) < 4
      · obtain ⟨x, hx⟩ : ∃ x, L[k]? = some x := ⟨_, List.getElem?_eq_getElem (by omega)⟩
        have hc := part_at HRk.out k x hx
        have HX := hid (map_at HM'.out k x hx)
        have hxs : x.size ≤ 1000000 := Nat.le_trans (HSZ.out x (List.mem_of_getElem? hx)) hs
        clear hx
        have HLN := hid (fV_len P hPL k hk)
        obtain ⟨v, hv⟩ : ∃ v, v = stV x.data.toList := ⟨_, rfl⟩
        obtain ⟨o, ho⟩ : ∃ o, o = okFour x.data.toList := ⟨_, rfl⟩
        have hC : ∀ w, Calls Tryz.prog 67 #[.string x] w fun r w' => r = .returned (.tuple #[.int .u8 v, .bool o]) ∧ w' = w := fun w => by rw [hv, ho]; exact strict_any x w hxs
        have HV := hid hv; have HO := hid ho
        clear hv ho
        cases o
        · have HF : Hid (p4 s.data.toList = none) := by
            show _ = _
            rw [HP.out, four_bad P k (by omega) (by rw [HX.out]; exact HO.out.symm)]; rfl
          go_wp2_with (first
            | (go_at_call 67; refine (hC _).mono ?_; rintro r w' ⟨rfl, rfl⟩)
            | (refine store_addr rfl _ _ rfl w.heap.size false (zer 16) rfl rfl rfl _ HR0k.out rfl ?_)
            | fail)
          intro W3 hO3 hW3
          go_wp2
          refine bodyPost_ret (ret_addr2 (p := 2) (q := 3) Tryz.results45 _ _ w.heap.size false (zer 16) rfl (0, 0) _ rfl rfl hW3) rfl ⟨?_, HBw.out.trans (hO3.below (Nat.le_refl _))⟩
          rw [HF.out]; rfl
        · have HZ : Hid ((v : Int) = ((b8 (valB 10 (P.getD k []))).toNat : Int)) := by
            show _ = _
            rw [HX.out, HV.out]; exact stV_b8 _ HO.out.symm
          have HS := hid (fV_set P hPL k (by omega))
          generalize b8 (valB 10 (P.getD k [])) = y8 at HZ HS
          go_wp2_with (first
            | (go_at_call 67; refine (hC _).mono ?_; rintro r w' ⟨rfl, rfl⟩)
            | (refine store_byteA rfl _ _ rfl W1.heap.size _ (12 + k) false (fV P k) (by rw [HLN.out]; omega) y8 v rfl ?hoj rfl HZ.out HK.out ?_)
            | fail)
          case hoj => omega
          intro W3 hO3 hW3
          rw [HS.out] at hW3
          have HW3 := hid hW3; have HO3 := hid hO3
          clear hW3 hO3
          go_wp2_with fail
          go_roundw
          case rel =>
            refine ⟨k + 1, by omega, by go_num, HW3, HBK.out.trans (HO3.out.below (Nat.le_refl _)), fun j hj => ?_⟩
            by_cases hjk : j < k
            · exact HOK.out j hjk
            · rw [show j = k from by omega, HX.out]; exact HO.out.symm
          case measure => simp [intOf]; omega
      · have hk4' : k = 4 := by omega
        subst hk4'
        have HF := hid (four_ok P hPL HOK.out)
        have HF2 : Hid (p4 s.data.toList = some (fV P 4)) := by
          show _ = _
          rw [HP.out, if_pos HF.out.1, HF.out.2]
        go_wp2_with (first
          | (refine load_addr rfl _ rfl W1.heap.size false (fV P 4) (fV_len P hPL 4 (by omega)) rfl (0, 0) HK.out ?_)
          | (refine store_addr rfl _ _ rfl w.heap.size false (fV P 4) (fV_len P hPL 4 (by omega)) rfl rfl _ HR0k.out rfl ?_)
          | fail)
        intro W3 hO3 hW3
        go_wp2
        refine bodyPost_ret (ret_addr2 (p := 2) (q := 3) Tryz.results45 _ _ w.heap.size false (fV P 4) (fV_len P hPL 4 (by omega)) (0, 0) _ rfl rfl hW3) rfl ⟨?_, HBw.out.trans (hO3.below (Nat.le_refl _))⟩
        rw [HF2.out]; rfl
end Go.Proofs.YtocdjgehjiolhaaGreatDoor
