
/- What ip.colons does. -/
import Derived.Test.YtocdjgehjiolhaaGreatDoorIpFU
namespace Go.Proofs.YtocdjgehjiolhaaGreatDoor
open Go.RowKit

theorem hexs_len (g : List Nat) : (hexs g).length = g.length := by simp [hexs]
theorem hexs_snoc (g : List Nat) (k : Nat) (h : k < g.length) : hexs (g.take (k + 1)) = hexs (g.take k) ++ [digs 16 (g.getD k 0)] := by
  unfold hexs
  rw [List.take_succ_eq_append_getElem h, List.map_append]
  simp [List.getD_eq_getElem?_getD, h]
theorem hexs_short (g : List Nat) : ∀ x ∈ hexs g, x.length ≤ 100 := fun x hx => by
  obtain ⟨j, _, rfl⟩ := List.mem_map.1 hx
  have := digs_short 16 j
  omega
set_option maxHeartbeats 2000000 in
theorem colons_any (g : List Nat) (hl : g.length ≤ 8) (hg : ∀ j, j < g.length → g.getD j 0 < 65536) (A : Option Addr) (q o c : Nat) (w : World) (hT : TabP w) (hA : 0 < g.length → A = some ⟨q, o, none⟩) (hq : q < w.heap.size)
    (hsrc : ∀ j, j < g.length → w.cell? ⟨q, o + j, none⟩ = some (.int .u16 (g.getD j 0 : Nat))) :
    Calls Tryz.prog 54 #[.slice A g.length c] w fun e w' => e = .returned (.string (asS (J g))) ∧ Below w.heap.size w w' := by
  have HSRC := hid hsrc
  have HA := hid hA
  have HT := hid hT
  have HG := hid hg
  obtain ⟨n, hn⟩ : ∃ n, n = g.length := ⟨_, rfl⟩
  rw [← hn] at hl HSRC HA HG ⊢
  have HN := hid hn
  clear hsrc hA hT hg hn
  have HE : Hid (hexs (g.take n) = hexs g) := by show _ = _; rw [HN.out, List.take_length]
  obtain ⟨R, hR⟩ : ∃ R, R = J g := ⟨_, rfl⟩
  rw [← hR]
  have HRE := hid hR
  clear hR
  obtain ⟨Z, hZ⟩ : ∃ Z, Z = (List.replicate n (Value.string ByteArray.empty)).toArray := ⟨_, rfl⟩
  have hmk : ∀ W, (Instr.makeSlice 69 (.int .i64 0) (.int .i64 (n : Int))).run Tryz.prog W = .ok (.slice (some ⟨W.heap.size, 0, none⟩) 0 n) (W.alloc (.cells Z 9)) := fun W => by rw [hZ]; exact make_strs 0 n (by omega) (by omega) W
  have HZ : Hid (∀ (W : World) b, b ≤ W.heap.size → OwnV (W.alloc (.cells Z 9)) 9 b W.heap.size 0 n (strs [])) := fun W b hb => by rw [hZ]; exact own_made W n b hb
  clear hZ
  go_enter Tryz.func54, Tryz.ntmps54
  go_wp2_with fail
  clear hmk
  go_loopw [3, 11] (fun pv iv wx => ∃ k g' c' : Nat, k ≤ n ∧ iv = .int .i64 (k : Int) ∧ pv = .slice (some ⟨g', 0, none⟩) k c' ∧ Hid (OwnV wx 9 w.heap.size g' k c' (strs (hexs (g.take k)))) ∧ Hid (Below w.heap.size w wx)) (fun _ i _ => n - (intOf i).toNat)
  case atStart => exact ⟨0, w.heap.size, n, by omega, rfl, rfl, HZ.out w w.heap.size (Nat.le_refl _), alloc_below (Below.refl _ w) (Nat.le_refl _) _⟩
  case round =>
    obtain ⟨k, g', c', hk, rfl, rfl, HO, HB⟩ := hrel
    have hsz := HB.out.size
    by_cases hkn : (k : Int) < n
    · obtain rfl := HA.out (by omega)
      obtain ⟨x, hx⟩ : ∃ x, x = g.getD k 0 := ⟨_, rfl⟩
      have hxl := HG.out k (by omega)
      have hc : wr.cell? ⟨q, o + k, none⟩ = some (.int .u16 (x : Nat)) := by
        rw [HB.out.cell (p := ⟨q, o + k, none⟩) hq, HSRC.out k (by omega), hx]
      rw [← hx] at hxl
      have HD : Hid (hexs (g.take (k + 1)) = hexs (g.take k) ++ [digs 16 x]) := by show _ = _; rw [hx, hexs_snoc _ _ (by rw [← HN.out]; omega)]
      have HTW : Hid (TabP wr) := HT.out.below HB.out
      clear hx
      go_wp2_with fail
      refine (hexU x hxl _ HTW.out).mono ?_
      rintro e W1 ⟨rfl, hb1⟩
      have HO1 : Hid (OwnV W1 9 w.heap.size g' k c' (strs (hexs (g.take k)))) := HO.out.below hb1 (Nat.le_refl _)
      have HB1 : Hid (Below w.heap.size w W1) := HB.out.trans (hb1.mono hsz)
      have hs1 := hb1.size
      clear hb1 hc
      generalize digs 16 x = db at HD
      go_wp2_with (first
        | (refine wpList_ownV cellS rfl _ _ rfl w.heap.size g' k c' 1 (strs (hexs (g.take k))) (strs [db]) _ rfl rfl (HO1.out.alloc _) (src_new W1 db _) (by omega) ?h3 ?_)
        | fail)
      case h3 => simp; omega
      intro g2 c2 W2 hown hgr hg'
      have HO2 : Hid (OwnV W2 9 w.heap.size g2 (k + 1) c2 (strs (hexs (g.take (k + 1))))) := by
        rw [HD.out, strs_app]; exact hown
      have HB2 : Hid (Below w.heap.size w W2) := (HO1.out.alloc _).grown (alloc_below HB1.out HB1.out.size _) (by simp; omega) hgr
      clear hown hgr hg'
      go_wp2_with fail
      go_roundw
      case rel => exact ⟨k + 1, g2, c2, by omega, by go_num, rfl, HO2, HB2⟩
      case measure => simp [intOf]; omega
    · have hk' : k = n := by omega
      subst hk'
      have hlen : (hexs g).length = k := by rw [hexs_len, HN.out]
      have HO3 := HO.out
      rw [HE.out, ← hlen] at HO3
      have HJ := hid (joinS 58 (hexs g) wr w.heap.size g' c' (by rw [hlen]; omega) (hexs_short g) HO3)
      rw [hlen, show joinL 58 (hexs g) = J g from rfl, ← HRE.out] at HJ
      clear HO3 hlen
      go_wp2_with fail
      refine HJ.out.mono ?_
      rintro e W1 ⟨rfl, hb1⟩
      go_wp2_with fail
      go_ret
      exact ⟨rfl, HB.out.trans (hb1.mono hsz)⟩
end Go.Proofs.YtocdjgehjiolhaaGreatDoor
