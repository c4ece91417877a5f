
/- What the reference's tag does. -/
import Derived.Test.YtggbianodoneeaaDoorAwake3
namespace Go.Proofs.YtggbianodoneeaaDoor
open Go.RowKit
set_option linter.unusedSimpArgs false
set_option linter.unusedVariables false

theorem own_lt {w : World} {b g n cap : Nat} {xs : List Value} (h : w.ownsRow b 5 1 (.slice (some ⟨g, 0, none⟩) n cap) n xs) : g < w.heap.size := by
  rcases h.2 with ⟨h0, _⟩ | ⟨g', c', cur, h1, _, h2, _⟩
  · cases h0
  · cases h1; exact (Array.getElem?_eq_some_iff.1 h2).1
theorem own_mono {w : World} {b b' g n cap : Nat} {xs : List Value} (h : w.ownsRow b 5 1 (.slice (some ⟨g, 0, none⟩) n cap) n xs) (hb : b' ≤ b) : w.ownsRow b' 5 1 (.slice (some ⟨g, 0, none⟩) n cap) n xs := by
  refine ⟨h.1, ?_⟩
  rcases h.2 with ⟨h0, _⟩ | ⟨g', c', cur, h1, h2, h3⟩
  · cases h0
  · exact .inr ⟨g', c', cur, h1, Nat.le_trans hb h2, h3⟩
theorem grown_of_below {w w' : World} (h : Below w.heap.size w w') : w.grownBy w' none := ⟨h.os, h.tape, h.output, h.size, fun k hk _ => h.block k hk⟩
theorem grown_of_only {w w' : World} {g : Nat} (h : Only g w w') : w.grownBy w' (some g) := ⟨h.os, h.tape, h.output, by rw [h.size]; exact Nat.le_refl _, fun k _ hg => h.block k (fun e => hg (by rw [e]))⟩
theorem Ref.app' {w W W' : World} {g : Nat} (h : Ref w W) (hge : w.heap.size + 1 ≤ g) (hg : W.grownBy W' (some g)) : Ref w W' :=
  h.step ⟨hg.os, hg.tape, hg.output, hg.size, fun k hk => hg.block k (by have := h.lt; omega) (fun e => by cases e; omega)⟩
theorem xorB_succ (b : List UInt8) (p : UInt8) (k : Nat) (h : k < b.length) : xorB (b.take (k + 1)) p = xorB (b.take k) p ++ [b.getD k 0 ^^^ p] := by
  rw [List.take_succ_eq_append_getElem h, List.getD_eq_getElem?_getD, List.getElem?_eq_getElem h]
  unfold xorB
  rw [List.map_append]
  rfl
theorem put_byteN (D : List UInt8) (n k : Nat) (y : UInt8) (hk : k < D.length) (hn : k < n) (hy : y = D.getD k 0) : (bcs (D.take k ++ zer (n - k))).setIfInBounds k (.int .u8 y.toNat) = bcs (D.take (k + 1) ++ zer (n - (k + 1))) := by
  have e : (D.take k ++ zer (n - k)).set k y = D.take (k + 1) ++ zer (n - (k + 1)) := by
    rw [List.set_append_right _ _ (by simp; omega)]
    have e0 : k - (D.take k).length = 0 := by simp; omega
    obtain ⟨m, hm⟩ : ∃ m, n - k = m + 1 := ⟨n - k - 1, by omega⟩
    rw [e0, hm, show n - (k + 1) = m from by omega, List.take_succ_eq_append_getElem hk, hy, List.getD_eq_getElem?_getD, List.getElem?_eq_getElem hk, List.append_assoc]
    rfl
  rw [← e]
  simp [bcs, List.map_set]
theorem built56 : Tryd.prog.built 69 [] = some (bcs (zer 64)) := by kernel_rfl

set_option maxRecDepth 100000 in
set_option maxHeartbeats 4000000 in
theorem refMac_any (key b : List UInt8) (A1 A2 : Option Addr) (cap1 cap2 : Nat) (w : World) (hA1 : BytesAt w A1 key) (hA2 : BytesAt w A2 b) (hl1 : key.length ≤ 100000) (hl2 : b.length ≤ 100000) :
    Calls Tryd.prog 31 #[.slice A1 key.length cap1, .slice A2 b.length cap2] w fun e w' => e = .returned (.agg (bcs (hmac key b))) ∧ Below w.heap.size w w' := by
  have HA1 := hid hA1
  have HA2 := hid hA2
  have HKL := hid (keyB_len key)
  have HRE0 : Hid (∀ W, BytesAt W A1 key → Calls Tryd.prog 42 #[.slice A1 key.length cap1] W fun e w' => e = .returned (.agg (bcs (sha key))) ∧ Below W.heap.size W w') := fun W h => refOf_any key A1 cap1 W h (by omega)
  have HRE1 : Hid (∀ W A c, BytesAt W A (xorB (keyB key) 54 ++ b) → Calls Tryd.prog 42 #[.slice A (64 + b.length) c] W fun e w' => e = .returned (.agg (bcs (sha (xorB (keyB key) 54 ++ b)))) ∧ Below W.heap.size W w') := fun W A c h => by
    have := refOf_any (xorB (keyB key) 54 ++ b) A c W h (by rw [List.length_append, xorB_len, keyB_len]; omega)
    rw [List.length_append, xorB_len, keyB_len] at this
    exact this
  have HRE2 : Hid (∀ W A c, BytesAt W A (xorB (keyB key) 92 ++ sha (xorB (keyB key) 54 ++ b)) → Calls Tryd.prog 42 #[.slice A 96 c] W fun e w' => e = .returned (.agg (bcs (hmac key b))) ∧ Below W.heap.size W w') := fun W A c h => by
    have := refOf_any (xorB (keyB key) 92 ++ sha (xorB (keyB key) 54 ++ b)) A c W h (by rw [List.length_append, xorB_len, keyB_len, sha_len]; omega)
    rw [List.length_append, xorB_len, keyB_len, sha_len] at this
    exact this
  have HX2L : Hid ((xorB (keyB key) 92).length = 64) := by show _ = _; rw [xorB_len, keyB_len]
  have HIL := hid (sha_len (xorB (keyB key) 54 ++ b))
  have HDL := hid (hmac_len key b)
  generalize hmac key b = D at HRE2 HDL ⊢
  generalize sha (xorB (keyB key) 54 ++ b) = I at HRE1 HRE2 HIL
  have HKE1 : Hid (64 < key.length → keyB key = sha key ++ zer 32) := fun h => by unfold keyB; rw [if_pos h]
  have HKE2 : Hid (¬ 64 < key.length → keyB key = key ++ zer (64 - key.length)) := fun h => by unfold keyB; rw [if_neg h]
  generalize keyB key = KB at HRE1 HRE2 HKL HX2L HKE1 HKE2
  have HI24 := hid (size24' I HIL.out)
  have HO24 := hid (bvs_one I)
  have HBZ := hid built56
  have HS56 := hid (size49' (zer 64) (zer_len 64))
  have HO56 := hid (bvs_one (zer 64))
  obtain ⟨Z, hZ⟩ : ∃ Z, Hid (Z = bcs (zer 64)) := ⟨_, rfl⟩
  rw [← hZ.out] at HBZ HS56 HO56
  have HZS : Hid (Z.size = 64) := by rw [hZ.out]; rfl
  have HR0 := hid (Ref.start w)
  clear hA1 hA2
  by_cases hlong : (64 : Int) < (key.length : Int)
  · have hKE := HKE1.out (by omega)
    have HSL := hid (sha_len key)
    generalize sha key = S at hKE HRE0 HSL
    have HKE := hid hKE
    clear hKE HKE1 HKE2
    go_enter Tryd.func31, Tryd.ntmps31
    go_wp2_with (first
      | (refine wpList_built rfl 69 _ rfl Z HBZ.out ?_)
      | (refine wpList_store_abs rfl 69 (.tmp 5) (.tmp 14) rfl (w.heap.size + 1) 0 Z rfl rfl 69 _ (heap_alloc2_new w _ _) (by rw [HZS.out]; exact Nat.le_refl 64) HS56.out HO56.out ?_; intro W1 hO1 hW1;
         have HZ1 : Hid (W1.heap[w.heap.size + 1]? = some (.cells (bcs (zer 64)) 69 (0, 0))) := by rw [over_whole _ Z (by rw [HZS.out]; rfl), hZ.out] at hW1; exact hW1
         have HR1 : Hid (Ref w W1) := (Ref.alloc (by exact HR0.out) _).step (hO1.below (Nat.le_refl _))
         clear hO1 hW1))
    refine (HRE0.out _ (HA1.out.below HR1.out.bel (Nat.le_refl _))).mono ?_
    rintro e W2 ⟨rfl, hb2⟩
    have hz1 : w.heap.size + 1 < W1.heap.size := (Array.getElem?_eq_some_iff.1 HZ1.out).1
    have HZ2 := hid ((hb2.block _ hz1).trans HZ1.out)
    have HR2 : Hid (Ref w W2) := HR1.out.step (hb2.mono HR1.out.lt)
    have hz2 : w.heap.size + 1 < W2.heap.size := (Array.getElem?_eq_some_iff.1 HZ2.out).1
    have HIS := hid (size24' S HSL.out)
    have HOS := hid (bvs_one S)
    clear hb2 HZ1 HR1
    go_wp2_with (refine wpList_store_abs rfl 54 (.tmp 6) (.tmp 19) rfl W2.heap.size 0 (bcs S) rfl rfl 54 _ (heap_alloc_new W2 _) (by rw [bcs_size, HSL.out]; exact Nat.le_refl 32) HIS.out HOS.out ?_; intro W3 hO3 hW3)
    rw [over_bytes _ S (by rw [HSL.out]; rfl)] at hW3
    have HS3 := hid hW3
    have HR3 : Hid (Ref w W3) := (HR2.out.alloc _).step (hO3.below (by omega))
    have HZ3 : Hid (W3.heap[w.heap.size + 1]? = some (.cells (bcs (S.take 0 ++ zer (64 - 0))) 69 (0, 0))) := by
      show _ = _
      rw [hO3.block _ (by omega), Below.heap_alloc W2 _ _ (by omega)]; exact HZ2.out
    have hP : w.heap.size + 1 ≠ W2.heap.size := by omega
    clear hO3 hW3 HZ2 HR2 HRE0
    generalize W2.heap.size = P at HS3 hP ⊢
    go_wp2_with fail
    go_loopw [7] (fun i wx => ∃ k : Nat, k ≤ 32 ∧ i = .int .i64 k ∧ Hid (wx.heap[w.heap.size + 1]? = some (.cells (bcs (S.take k ++ zer (64 - k))) 69 (0, 0))) ∧ Hid (Only (w.heap.size + 1) W3 wx)) (fun i _ => 32 - (intOf i).toNat)
    case atStart => exact ⟨0, by omega, rfl, HZ3, rfl, rfl, rfl, rfl, fun _ _ => rfl⟩
    case round =>
      obtain ⟨k, hk, rfl, HX, HOn⟩ := hrel
      by_cases hlt0 : k < 32
      · obtain ⟨x, hx⟩ : ∃ x, Hid (x = S.getD k 0) := ⟨_, rfl⟩
        have cx : wr.cell? ⟨P, k, none⟩ = some (.int .u8 x.toNat) := by
          rw [World.cell?_of_block (w := W3) (HOn.out.block P (by omega)), cell_of_row _ _ _ _ _ _ HS3.out, bcs_at _ _ (by rw [HSL.out]; exact hlt0), hx.out]
        obtain ⟨z, cz⟩ : ∃ z, wr.cell? ⟨w.heap.size + 1, k, none⟩ = some z := by
          rw [cell_of_row _ _ _ _ _ _ HX.out]
          have h5 : k < (bcs (S.take k ++ zer (64 - k))).size := by rw [bcs_size, List.length_append, List.length_take, zer_len, HSL.out]; omega
          exact ⟨_, Array.getElem?_eq_getElem h5⟩
        have fz : wr.frozen? ⟨w.heap.size + 1, k, none⟩ = false := frozen_of_row _ _ _ _ _ HX.out
        go_wp2_with fail
        go_roundw
        case rel =>
          refine ⟨k + 1, by omega, by go_num, ?_, ?_⟩
          · show _ = _
            rw [heap_setCell_same _ _ _ _ _ _ HX.out, put_byteN S 64 k x (by rw [HSL.out]; exact hlt0) (by omega) hx.out]
          · have := HOn.out
            exact ⟨this.os, this.tape, this.output, by rw [← this.size]; simp [World.setCell], fun k hk => (heap_setCell_other _ _ _ _ hk).trans (this.block k hk)⟩
        case measure => simp [intOf]; omega
      · have hX := HX.out
        rw [show k = 32 from by omega, List.take_of_length_le (by rw [HSL.out]; omega), ← HKE.out] at hX
        have HK := hid hX
        have HR : Hid (Ref w wr) := HR3.out.step (HOn.out.below (by omega))
        clear hX HX HOn HZ3 HR3 HS3
        have hB0 : Hid (w.heap.size + 1 < wr.heap.size) := (Array.getElem?_eq_some_iff.1 HK.out).1
        have hB1 : w.heap.size + 1 < wr.heap.size := hB0.out
        obtain ⟨Wk, hWk⟩ : ∃ W, W = wr := ⟨_, rfl⟩
        have HB : Hid (∀ o1 o2, Below Wk.heap.size Wk ((wr.alloc o1).alloc o2)) := fun o1 o2 => by rw [hWk]; exact ((Below.refl _ _).alloc (Nat.le_refl _) o1).alloc (by simp) o2
        have HO1 : Hid (∀ o2, ((wr.alloc (.cells #[] 5)).alloc o2).ownsRow wr.heap.size 5 1 (.slice (some ⟨wr.heap.size, 0, none⟩) 0 0) 0 (bvs [])) := fun o2 => (own_zero wr wr.heap.size (Nat.le_refl _)).alloc o2
        have HO2 : Hid (∀ o1, ((wr.alloc o1).alloc (.cells #[] 5)).ownsRow wr.heap.size 5 1 (.slice (some ⟨wr.heap.size + 1, 0, none⟩) 0 0) 0 (bvs [])) := fun o1 => by
          have := own_zero (wr.alloc o1) wr.heap.size (by simp)
          rw [show (wr.alloc o1).heap.size = wr.heap.size + 1 from by simp] at this
          exact this
        go_wp2_with fail
        rw [← hWk] at HO1 HO2 HK HR hB1 HB hB0
        rw [← hWk]
        clear hWk
        go_loopw [9, 10, 11] (fun vi vo i wx => ∃ (k g c g2 c2 : Nat), k ≤ 64 ∧ i = .int .i64 k ∧ vi = .slice (some ⟨g, 0, none⟩) k c ∧ vo = .slice (some ⟨g2, 0, none⟩) k c2 ∧ Hid (g ≠ g2) ∧ Hid (wx.ownsRow Wk.heap.size 5 1 (.slice (some ⟨g, 0, none⟩) k c) k (bvs (xorB (KB.take k) 54))) ∧ Hid (wx.ownsRow Wk.heap.size 5 1 (.slice (some ⟨g2, 0, none⟩) k c2) k (bvs (xorB (KB.take k) 92))) ∧ Hid (Below Wk.heap.size Wk wx)) (fun _ _ i _ => 64 - (intOf i).toNat)
        case atStart => exact ⟨0, Wk.heap.size, 0, Wk.heap.size + 1, 0, by omega, rfl, rfl, rfl, (by show _ ≠ _; omega), HO1.out _, HO2.out _, HB.out _ _⟩
        case round =>
          obtain ⟨k, g, c, g2, c2, hk, rfl, rfl, rfl, HNE, HI, HO, HBW⟩ := hrel
          have hsz := HBW.out.size
          by_cases hlt : k < 64
          · obtain ⟨x, hx⟩ : ∃ x, Hid (x = KB.getD k 0) := ⟨_, rfl⟩
            have cK : ∀ W, Below Wk.heap.size Wk W → W.cell? ⟨w.heap.size + 1, k, none⟩ = some (.int .u8 x.toNat) := fun W hW => by
              rw [hW.cell (p := ⟨w.heap.size + 1, k, none⟩) hB1, cell_of_row _ _ _ _ _ _ HK.out, bcs_at _ _ (by rw [HKL.out]; exact hlt), hx.out]
            have HCK := hid cK
            have cx := cK _ HBW.out
            obtain ⟨y, hy, hy2⟩ : ∃ y : UInt8, bits .xor .u8 (x.toNat : Int) 54 = (y.toNat : Int) ∧ Hid (y = x ^^^ 54) := ⟨_, u8_xor x 54, rfl⟩
            obtain ⟨z, hz, hz2⟩ : ∃ z : UInt8, bits .xor .u8 (x.toNat : Int) 92 = (z.toNat : Int) ∧ Hid (z = x ^^^ 92) := ⟨_, u8_xor x 92, rfl⟩
            have HY : Hid (xorB (KB.take (k + 1)) 54 = xorB (KB.take k) 54 ++ [y]) := by show _ = _; rw [xorB_succ _ _ _ (by rw [HKL.out]; exact hlt), hy2.out, hx.out]
            have HZ : Hid (xorB (KB.take (k + 1)) 92 = xorB (KB.take k) 92 ++ [z]) := by show _ = _; rw [xorB_succ _ _ _ (by rw [HKL.out]; exact hlt), hz2.out, hx.out]
            clear cK hx hy2 hz2
            go_wp2_with (first
              | (refine wpList_app rfl (.tmp 47) (.tmp 52) rfl Wk.heap.size g k c 1 1 (bvs (xorB (KB.take k) 54)) _ [y] rfl rfl rfl (HI.out.alloc _) (BytesAt.one wr y _ rfl) (by omega) (by simp; omega) ?_; intro g3 c3 W3 hown3 hgr3 hg3;
                 have HI3 := hid hown3
                 have HO3 : Hid (W3.ownsRow Wk.heap.size 5 1 (.slice (some ⟨g2, 0, none⟩) k c2) k (bvs (xorB (KB.take k) 92))) := (HO.out.alloc _).kept hgr3 (.inr (by simp [Value.ownBlock]; exact fun h => HNE.out h.symm))
                 have HB3 : Hid (Below Wk.heap.size Wk W3) := own_below (HI.out.alloc _) (HBW.out.alloc hsz _) (by simp; omega) hgr3
                 have HNE3 : Hid (g3 ≠ g2) := by
                   have h1 := own_lt HO.out
                   have h2 := HNE.out
                   rcases hg3 with h | h
                   · rw [h]; exact h2
                   · simp at h; show _ ≠ _; omega
                 have hsz3 := HB3.out.size
                 have cx3 := HCK.out W3 HB3.out
                 clear hown3 hgr3 hg3)
              | (refine wpList_app rfl (.tmp 54) (.tmp 59) rfl Wk.heap.size g2 k c2 1 1 (bvs (xorB (KB.take k) 92)) _ [z] rfl rfl rfl (HO3.out.alloc _) (BytesAt.one W3 z _ rfl) (by omega) (by simp; omega) ?_; intro g4 c4 W4 hown4 hgr4 hg4;
                 have HO4 := hid hown4
                 have HI4 : Hid (W4.ownsRow Wk.heap.size 5 1 (.slice (some ⟨g3, 0, none⟩) (k + 1) c3) (k + 1) (bvs (xorB (KB.take k) 54) ++ bvs [y])) := (HI3.out.alloc _).kept hgr4 (.inr (by simp [Value.ownBlock]; exact HNE3.out))
                 have HB4 : Hid (Below Wk.heap.size Wk W4) := own_below (HO3.out.alloc _) (HB3.out.alloc hsz3 _) (by simp; omega) hgr4
                 have HNE4 : Hid (g3 ≠ g4) := by
                   have h1 := own_lt HI3.out
                   have h2 := HNE3.out
                   rcases hg4 with h | h
                   · rw [h]; exact h2
                   · simp at h; show _ ≠ _; omega
                 clear hown4 hgr4 hg4))
            go_roundw
            case rel => exact ⟨k + 1, g3, c3, g4, c4, by omega, by go_num, rfl, rfl, HNE4, (by show World.ownsRow _ _ _ _ _ _ _; rw [HY.out, bvs_app]; exact HI4.out), (by show World.ownsRow _ _ _ _ _ _ _; rw [HZ.out, bvs_app]; exact HO4.out), HB4⟩
            case measure => simp [intOf]; omega
          · obtain rfl : k = 64 := by omega
            have HI2 := HI.out
            have HO2' := HO.out
            rw [List.take_of_length_le (by rw [HKL.out]; omega)] at HI2 HO2'
            have HIX := hid HI2
            have HOX := hid HO2'
            clear HI2 HO2' HI HO HO1 HO2 HB
            have HA2k := hid (HA2.out.below ((HR.out.bel).trans (HBW.out.mono (by omega))) (Nat.le_refl _))
            have HRW : Hid (Ref w wr) := HR.out.step (HBW.out.mono (by omega))
            generalize xorB KB 54 = X1 at HIX HRE1
            generalize xorB KB 92 = X2 at HOX HRE2 HX2L
            go_wp2_with (refine wpList_app rfl (.tmp 61) (.tmp 62) rfl Wk.heap.size g 64 c cap2 b.length (bvs X1) A2 b rfl rfl rfl HIX.out HA2k.out (by omega) hsz ?_; intro g3 c3 W3 hown3 hgr3 hg3)
            have HBA : Hid (BytesAt W3 (some ⟨g3, 0, none⟩) (X1 ++ b)) := by
              rw [← bvs_app] at hown3; exact BytesAt.own hown3
            have HO3 : Hid (W3.ownsRow Wk.heap.size 5 1 (.slice (some ⟨g2, 0, none⟩) 64 c2) 64 (bvs X2)) := HOX.out.kept hgr3 (.inr (by simp [Value.ownBlock]; exact fun h => HNE.out h.symm))
            have HR3 : Hid (Ref w W3) := HRW.out.app' (by have := own_ge HIX.out; omega) hgr3
            clear hown3 hgr3 hg3 HIX HOX HRW HNE HBW HA2k HK HR
            refine (HRE1.out _ _ _ HBA.out).mono ?_
            rintro e W5 ⟨rfl, hb5⟩
            have HR5 : Hid (Ref w W5) := HR3.out.step (hb5.mono HR3.out.lt)
            have HO5 : Hid (W5.ownsRow Wk.heap.size 5 1 (.slice (some ⟨g2, 0, none⟩) 64 c2) 64 (bvs X2)) := HO3.out.kept (grown_of_below hb5) (.inr (by simp [Value.ownBlock]))
            clear hb5 HO3 HR3 HBA
            have hz5 := HR5.out.lt
            go_wp2_with (refine wpList_store_abs rfl 54 (.tmp 12) (.tmp 64) rfl W5.heap.size 0 (bcs I) rfl rfl 54 _ (heap_alloc_new W5 _) (by rw [bcs_size, HIL.out]; exact Nat.le_refl 32) HI24.out HO24.out ?_; intro W6 hO6 hW6)
            rw [over_bytes _ I (by rw [HIL.out]; rfl)] at hW6
            have hg25 : g2 < W5.heap.size := own_lt HO5.out
            have HR6 : Hid (Ref w W6) := (HR5.out.alloc _).step (hO6.below (by omega))
            have HO6 : Hid (W6.ownsRow (w.heap.size + 1) 5 1 (.slice (some ⟨g2, 0, none⟩) 64 c2) 64 (bvs (X2 ++ I.take 0))) := by
              have h7 := (HO5.out.alloc _).kept (grown_of_only hO6) (.inr (by simp [Value.ownBlock]; omega))
              rw [List.take_zero, List.append_nil]
              exact own_mono h7 (by omega)
            have HE6 := hid hW6
            clear hO6 hW6 HO5 HR5
            generalize W5.heap.size = E at HE6 hg25 hz5 ⊢
            have HNE6 : Hid (g2 ≠ E) := by show _ ≠ _; omega
            go_wp2_with fail
            go_loopw [10, 13] (fun v i wx => ∃ (k g c m : Nat), k ≤ 32 ∧ i = .int .i64 k ∧ v = .slice (some ⟨g, 0, none⟩) m c ∧ m ≤ 96 ∧ Hid (m = 64 + k) ∧ Hid (g ≠ E) ∧ Hid (wx.ownsRow (w.heap.size + 1) 5 1 (.slice (some ⟨g, 0, none⟩) m c) m (bvs (X2 ++ I.take k))) ∧ Hid (wx.heap[E]? = some (.cells (bcs I) 54 (0, 0))) ∧ Hid (Ref w wx)) (fun _ i _ => 32 - (intOf i).toNat)
            case atStart => exact ⟨0, g2, c2, 64, by omega, rfl, rfl, by omega, rfl, HNE6, HO6, HE6, HR6⟩
            case round =>
              obtain ⟨k, g, c, m, hk, rfl, rfl, hm, HM, HNE, HO, HE, HR⟩ := hrel
              by_cases hlt2 : k < 32
              · obtain ⟨x, hx⟩ : ∃ x, Hid (x = I.getD k 0) := ⟨_, rfl⟩
                have cx : wr.cell? ⟨E, k, none⟩ = some (.int .u8 x.toNat) := by
                  rw [cell_of_row _ _ _ _ _ _ HE.out, bcs_at _ _ (by rw [HIL.out]; exact hlt2), hx.out]
                have HX : Hid (I.take (k + 1) = I.take k ++ [x]) := by
                  show _ = _
                  have h8 : k < I.length := by rw [HIL.out]; exact hlt2
                  rw [List.take_succ_eq_append_getElem h8, hx.out, List.getD_eq_getElem?_getD, List.getElem?_eq_getElem h8]; rfl
                clear hx
                go_wp2_with (
                  (refine wpList_app rfl (.tmp 69) (.tmp 73) rfl (w.heap.size + 1) g m c 1 1 (bvs (X2 ++ I.take k)) _ [x] rfl rfl rfl (HO.out.alloc _) (BytesAt.one wr x _ rfl) (by omega) ((HR.out.alloc _).lt) ?_; intro g3 c3 W3 hown3 hgr3 hg3;
                   have HR3 : Hid (Ref w W3) := (HR.out.alloc _).app (HO.out.alloc _) hgr3
                   have HO3 := hid hown3
                   have hE : E < wr.heap.size := (Array.getElem?_eq_some_iff.1 HE.out).1
                   have HE3 : Hid (W3.heap[E]? = some (.cells (bcs I) 54 (0, 0))) := by
                     show _ = _
                     rw [hgr3.block E (by simp; omega) (fun h => HNE.out (by cases h; rfl)), Below.heap_alloc wr _ _ hE]; exact HE.out
                   have HNE3 : Hid (g3 ≠ E) := by
                     have h2 := HNE.out
                     rcases hg3 with h | h
                     · rw [h]; exact h2
                     · simp at h; show _ ≠ _; omega
                   clear hown3 hgr3 hg3))
                go_roundw
                case rel => exact ⟨k + 1, g3, c3, m + 1, by omega, by go_num, rfl, (by have := HM.out; omega), (by show _ = _; have := HM.out; omega), HNE3, (by show World.ownsRow _ _ _ _ _ _ _; rw [HX.out, ← List.append_assoc, bvs_app]; exact HO3.out), HE3, HR3⟩
                case measure => simp [intOf]; omega
              · obtain rfl : m = 96 := by have := HM.out; omega
                have hO := HO.out
                rw [List.take_of_length_le (by rw [HIL.out]; omega)] at hO
                have HBA := hid (BytesAt.own hO)
                clear hO HO HE HM HNE
                go_wp2_with fail
                refine (HRE2.out _ _ _ HBA.out).mono ?_
                rintro e W8 ⟨rfl, hb8⟩
                have HR8 : Hid (Ref w W8) := HR.out.step (hb8.mono HR.out.lt)
                have HRES := hid HR8.out.res
                clear hb8
                go_wp2_with (refine wpList_store_abs rfl 54 (.tmp 4) (.tmp 76) rfl w.heap.size 0 (bcs D) rfl rfl 54 _ HRES.out (by rw [bcs_size, bcs_size, HDL.out]; exact Nat.le_refl 32) (size24' D HDL.out) (bvs_one D) ?_; intro W9 hO9 hW9)
                rw [over_bytes _ D (by rw [bcs_size, HDL.out]; rfl)] at hW9
                exact bodyPost_ret (v := .agg (bcs D)) (results_cell_row (p := 4) (ty := 54) Tryd.results31 _ _ w.heap.size 54 _ (0, 0) (.array 32 5) rfl hW9 Tryd.underlying54 rfl (size24' D HDL.out)) rfl ⟨rfl, HR8.out.bel.trans (hO9.below (Nat.le_refl _))⟩
  · have hKE := HKE2.out (by omega)
    have HKE := hid hKE
    clear hKE HKE1 HKE2 HRE0
    go_enter Tryd.func31, Tryd.ntmps31
    go_wp2_with (first
      | (refine wpList_built rfl 69 _ rfl Z HBZ.out ?_)
      | (refine wpList_store_abs rfl 69 (.tmp 5) (.tmp 14) rfl (w.heap.size + 1) 0 Z rfl rfl 69 _ (heap_alloc2_new w _ _) (by rw [HZS.out]; exact Nat.le_refl 64) HS56.out HO56.out ?_; intro W1 hO1 hW1;
         have HZ1 : Hid (W1.heap[w.heap.size + 1]? = some (.cells (bcs (key.take 0 ++ zer (64 - 0))) 69 (0, 0))) := by rw [over_whole _ Z (by rw [HZS.out]; rfl), hZ.out] at hW1; exact hW1
         have HR1 : Hid (Ref w W1) := (Ref.alloc (by exact HR0.out) _).step (hO1.below (Nat.le_refl _))
         clear hO1 hW1))
    go_loopw [8] (fun i wx => ∃ k : Nat, k ≤ key.length ∧ i = .int .i64 k ∧ Hid (wx.heap[w.heap.size + 1]? = some (.cells (bcs (key.take k ++ zer (64 - k))) 69 (0, 0))) ∧ Hid (Only (w.heap.size + 1) W1 wx)) (fun i _ => key.length - (intOf i).toNat)
    case atStart => exact ⟨0, by omega, rfl, HZ1, rfl, rfl, rfl, rfl, fun _ _ => rfl⟩
    case round =>
      obtain ⟨k, hk, rfl, HX, HOn⟩ := hrel
      by_cases hlt0 : k < key.length
      · obtain ⟨q, o, rfl, hq, hc⟩ := HA1.out (by omega)
        obtain ⟨x, hx⟩ : ∃ x, Hid (x = key.getD k 0) := ⟨_, rfl⟩
        have cx : wr.cell? ⟨q, o + k, none⟩ = some (.int .u8 x.toNat) := by
          rw [World.cell?_of_block (w := W1) (HOn.out.block q (by omega)), HR1.out.bel.cell (p := ⟨q, o + k, none⟩) hq, hc k hlt0, hx.out]
        obtain ⟨z, cz⟩ : ∃ z, wr.cell? ⟨w.heap.size + 1, k, none⟩ = some z := by
          rw [cell_of_row _ _ _ _ _ _ HX.out]
          have h5 : k < (bcs (key.take k ++ zer (64 - k))).size := by rw [bcs_size, List.length_append, List.length_take, zer_len]; omega
          exact ⟨_, Array.getElem?_eq_getElem h5⟩
        have fz : wr.frozen? ⟨w.heap.size + 1, k, none⟩ = false := frozen_of_row _ _ _ _ _ HX.out
        clear hc
        go_wp2_with fail
        go_roundw
        case rel =>
          refine ⟨k + 1, by omega, by go_num, ?_, ?_⟩
          · show _ = _
            rw [heap_setCell_same _ _ _ _ _ _ HX.out, put_byteN key 64 k x hlt0 (by omega) hx.out]
          · have := HOn.out
            exact ⟨this.os, this.tape, this.output, by rw [← this.size]; simp [World.setCell], fun k hk => (heap_setCell_other _ _ _ _ hk).trans (this.block k hk)⟩
        case measure => simp [intOf]; omega
      · have hX := HX.out
        rw [show k = key.length from by omega, List.take_of_length_le (Nat.le_refl _), ← HKE.out] at hX
        have HK := hid hX
        have HR : Hid (Ref w wr) := HR1.out.step (HOn.out.below (by omega))
        clear hX HX HOn HZ1 HR1
        have hB0 : Hid (w.heap.size + 1 < wr.heap.size) := (Array.getElem?_eq_some_iff.1 HK.out).1
        have hB1 : w.heap.size + 1 < wr.heap.size := hB0.out
        obtain ⟨Wk, hWk⟩ : ∃ W, W = wr := ⟨_, rfl⟩
        have HB : Hid (∀ o1 o2, Below Wk.heap.size Wk ((wr.alloc o1).alloc o2)) := fun o1 o2 => by rw [hWk]; exact ((Below.refl _ _).alloc (Nat.le_refl _) o1).alloc (by simp) o2
        have HO1 : Hid (∀ o2, ((wr.alloc (.cells #[] 5)).alloc o2).ownsRow wr.heap.size 5 1 (.slice (some ⟨wr.heap.size, 0, none⟩) 0 0) 0 (bvs [])) := fun o2 => (own_zero wr wr.heap.size (Nat.le_refl _)).alloc o2
        have HO2 : Hid (∀ o1, ((wr.alloc o1).alloc (.cells #[] 5)).ownsRow wr.heap.size 5 1 (.slice (some ⟨wr.heap.size + 1, 0, none⟩) 0 0) 0 (bvs [])) := fun o1 => by
          have := own_zero (wr.alloc o1) wr.heap.size (by simp)
          rw [show (wr.alloc o1).heap.size = wr.heap.size + 1 from by simp] at this
          exact this
        go_wp2_with fail
        rw [← hWk] at HO1 HO2 HK HR hB1 HB hB0
        rw [← hWk]
        clear hWk
        go_loopw [9, 10, 11] (fun vi vo i wx => ∃ (k g c g2 c2 : Nat), k ≤ 64 ∧ i = .int .i64 k ∧ vi = .slice (some ⟨g, 0, none⟩) k c ∧ vo = .slice (some ⟨g2, 0, none⟩) k c2 ∧ Hid (g ≠ g2) ∧ Hid (wx.ownsRow Wk.heap.size 5 1 (.slice (some ⟨g, 0, none⟩) k c) k (bvs (xorB (KB.take k) 54))) ∧ Hid (wx.ownsRow Wk.heap.size 5 1 (.slice (some ⟨g2, 0, none⟩) k c2) k (bvs (xorB (KB.take k) 92))) ∧ Hid (Below Wk.heap.size Wk wx)) (fun _ _ i _ => 64 - (intOf i).toNat)
        case atStart => exact ⟨0, Wk.heap.size, 0, Wk.heap.size + 1, 0, by omega, rfl, rfl, rfl, (by show _ ≠ _; omega), HO1.out _, HO2.out _, HB.out _ _⟩
        case round =>
          obtain ⟨k, g, c, g2, c2, hk, rfl, rfl, rfl, HNE, HI, HO, HBW⟩ := hrel
          have hsz := HBW.out.size
          by_cases hlt : k < 64
          · obtain ⟨x, hx⟩ : ∃ x, Hid (x = KB.getD k 0) := ⟨_, rfl⟩
            have cK : ∀ W, Below Wk.heap.size Wk W → W.cell? ⟨w.heap.size + 1, k, none⟩ = some (.int .u8 x.toNat) := fun W hW => by
              rw [hW.cell (p := ⟨w.heap.size + 1, k, none⟩) hB1, cell_of_row _ _ _ _ _ _ HK.out, bcs_at _ _ (by rw [HKL.out]; exact hlt), hx.out]
            have HCK := hid cK
            have cx := cK _ HBW.out
            obtain ⟨y, hy, hy2⟩ : ∃ y : UInt8, bits .xor .u8 (x.toNat : Int) 54 = (y.toNat : Int) ∧ Hid (y = x ^^^ 54) := ⟨_, u8_xor x 54, rfl⟩
            obtain ⟨z, hz, hz2⟩ : ∃ z : UInt8, bits .xor .u8 (x.toNat : Int) 92 = (z.toNat : Int) ∧ Hid (z = x ^^^ 92) := ⟨_, u8_xor x 92, rfl⟩
            have HY : Hid (xorB (KB.take (k + 1)) 54 = xorB (KB.take k) 54 ++ [y]) := by show _ = _; rw [xorB_succ _ _ _ (by rw [HKL.out]; exact hlt), hy2.out, hx.out]
            have HZ : Hid (xorB (KB.take (k + 1)) 92 = xorB (KB.take k) 92 ++ [z]) := by show _ = _; rw [xorB_succ _ _ _ (by rw [HKL.out]; exact hlt), hz2.out, hx.out]
            clear cK hx hy2 hz2
            go_wp2_with (first
              | (refine wpList_app rfl (.tmp 47) (.tmp 52) rfl Wk.heap.size g k c 1 1 (bvs (xorB (KB.take k) 54)) _ [y] rfl rfl rfl (HI.out.alloc _) (BytesAt.one wr y _ rfl) (by omega) (by simp; omega) ?_; intro g3 c3 W3 hown3 hgr3 hg3;
                 have HI3 := hid hown3
                 have HO3 : Hid (W3.ownsRow Wk.heap.size 5 1 (.slice (some ⟨g2, 0, none⟩) k c2) k (bvs (xorB (KB.take k) 92))) := (HO.out.alloc _).kept hgr3 (.inr (by simp [Value.ownBlock]; exact fun h => HNE.out h.symm))
                 have HB3 : Hid (Below Wk.heap.size Wk W3) := own_below (HI.out.alloc _) (HBW.out.alloc hsz _) (by simp; omega) hgr3
                 have HNE3 : Hid (g3 ≠ g2) := by
                   have h1 := own_lt HO.out
                   have h2 := HNE.out
                   rcases hg3 with h | h
                   · rw [h]; exact h2
                   · simp at h; show _ ≠ _; omega
                 have hsz3 := HB3.out.size
                 have cx3 := HCK.out W3 HB3.out
                 clear hown3 hgr3 hg3)
              | (refine wpList_app rfl (.tmp 54) (.tmp 59) rfl Wk.heap.size g2 k c2 1 1 (bvs (xorB (KB.take k) 92)) _ [z] rfl rfl rfl (HO3.out.alloc _) (BytesAt.one W3 z _ rfl) (by omega) (by simp; omega) ?_; intro g4 c4 W4 hown4 hgr4 hg4;
                 have HO4 := hid hown4
                 have HI4 : Hid (W4.ownsRow Wk.heap.size 5 1 (.slice (some ⟨g3, 0, none⟩) (k + 1) c3) (k + 1) (bvs (xorB (KB.take k) 54) ++ bvs [y])) := (HI3.out.alloc _).kept hgr4 (.inr (by simp [Value.ownBlock]; exact HNE3.out))
                 have HB4 : Hid (Below Wk.heap.size Wk W4) := own_below (HO3.out.alloc _) (HB3.out.alloc hsz3 _) (by simp; omega) hgr4
                 have HNE4 : Hid (g3 ≠ g4) := by
                   have h1 := own_lt HI3.out
                   have h2 := HNE3.out
                   rcases hg4 with h | h
                   · rw [h]; exact h2
                   · simp at h; show _ ≠ _; omega
                 clear hown4 hgr4 hg4))
            go_roundw
            case rel => exact ⟨k + 1, g3, c3, g4, c4, by omega, by go_num, rfl, rfl, HNE4, (by show World.ownsRow _ _ _ _ _ _ _; rw [HY.out, bvs_app]; exact HI4.out), (by show World.ownsRow _ _ _ _ _ _ _; rw [HZ.out, bvs_app]; exact HO4.out), HB4⟩
            case measure => simp [intOf]; omega
          · obtain rfl : k = 64 := by omega
            have HI2 := HI.out
            have HO2' := HO.out
            rw [List.take_of_length_le (by rw [HKL.out]; omega)] at HI2 HO2'
            have HIX := hid HI2
            have HOX := hid HO2'
            clear HI2 HO2' HI HO HO1 HO2 HB
            have HA2k := hid (HA2.out.below ((HR.out.bel).trans (HBW.out.mono (by omega))) (Nat.le_refl _))
            have HRW : Hid (Ref w wr) := HR.out.step (HBW.out.mono (by omega))
            generalize xorB KB 54 = X1 at HIX HRE1
            generalize xorB KB 92 = X2 at HOX HRE2 HX2L
            go_wp2_with (refine wpList_app rfl (.tmp 61) (.tmp 62) rfl Wk.heap.size g 64 c cap2 b.length (bvs X1) A2 b rfl rfl rfl HIX.out HA2k.out (by omega) hsz ?_; intro g3 c3 W3 hown3 hgr3 hg3)
            have HBA : Hid (BytesAt W3 (some ⟨g3, 0, none⟩) (X1 ++ b)) := by
              rw [← bvs_app] at hown3; exact BytesAt.own hown3
            have HO3 : Hid (W3.ownsRow Wk.heap.size 5 1 (.slice (some ⟨g2, 0, none⟩) 64 c2) 64 (bvs X2)) := HOX.out.kept hgr3 (.inr (by simp [Value.ownBlock]; exact fun h => HNE.out h.symm))
            have HR3 : Hid (Ref w W3) := HRW.out.app' (by have := own_ge HIX.out; omega) hgr3
            clear hown3 hgr3 hg3 HIX HOX HRW HNE HBW HA2k HK HR
            refine (HRE1.out _ _ _ HBA.out).mono ?_
            rintro e W5 ⟨rfl, hb5⟩
            have HR5 : Hid (Ref w W5) := HR3.out.step (hb5.mono HR3.out.lt)
            have HO5 : Hid (W5.ownsRow Wk.heap.size 5 1 (.slice (some ⟨g2, 0, none⟩) 64 c2) 64 (bvs X2)) := HO3.out.kept (grown_of_below hb5) (.inr (by simp [Value.ownBlock]))
            clear hb5 HO3 HR3 HBA
            have hz5 := HR5.out.lt
            go_wp2_with (refine wpList_store_abs rfl 54 (.tmp 12) (.tmp 64) rfl W5.heap.size 0 (bcs I) rfl rfl 54 _ (heap_alloc_new W5 _) (by rw [bcs_size, HIL.out]; exact Nat.le_refl 32) HI24.out HO24.out ?_; intro W6 hO6 hW6)
            rw [over_bytes _ I (by rw [HIL.out]; rfl)] at hW6
            have hg25 : g2 < W5.heap.size := own_lt HO5.out
            have HR6 : Hid (Ref w W6) := (HR5.out.alloc _).step (hO6.below (by omega))
            have HO6 : Hid (W6.ownsRow (w.heap.size + 1) 5 1 (.slice (some ⟨g2, 0, none⟩) 64 c2) 64 (bvs (X2 ++ I.take 0))) := by
              have h7 := (HO5.out.alloc _).kept (grown_of_only hO6) (.inr (by simp [Value.ownBlock]; omega))
              rw [List.take_zero, List.append_nil]
              exact own_mono h7 (by omega)
            have HE6 := hid hW6
            clear hO6 hW6 HO5 HR5
            generalize W5.heap.size = E at HE6 hg25 hz5 ⊢
            have HNE6 : Hid (g2 ≠ E) := by show _ ≠ _; omega
            go_wp2_with fail
            go_loopw [10, 13] (fun v i wx => ∃ (k g c m : Nat), k ≤ 32 ∧ i = .int .i64 k ∧ v = .slice (some ⟨g, 0, none⟩) m c ∧ m ≤ 96 ∧ Hid (m = 64 + k) ∧ Hid (g ≠ E) ∧ Hid (wx.ownsRow (w.heap.size + 1) 5 1 (.slice (some ⟨g, 0, none⟩) m c) m (bvs (X2 ++ I.take k))) ∧ Hid (wx.heap[E]? = some (.cells (bcs I) 54 (0, 0))) ∧ Hid (Ref w wx)) (fun _ i _ => 32 - (intOf i).toNat)
            case atStart => exact ⟨0, g2, c2, 64, by omega, rfl, rfl, by omega, rfl, HNE6, HO6, HE6, HR6⟩
            case round =>
              obtain ⟨k, g, c, m, hk, rfl, rfl, hm, HM, HNE, HO, HE, HR⟩ := hrel
              by_cases hlt2 : k < 32
              · obtain ⟨x, hx⟩ : ∃ x, Hid (x = I.getD k 0) := ⟨_, rfl⟩
                have cx : wr.cell? ⟨E, k, none⟩ = some (.int .u8 x.toNat) := by
                  rw [cell_of_row _ _ _ _ _ _ HE.out, bcs_at _ _ (by rw [HIL.out]; exact hlt2), hx.out]
                have HX : Hid (I.take (k + 1) = I.take k ++ [x]) := by
                  show _ = _
                  have h8 : k < I.length := by rw [HIL.out]; exact hlt2
                  rw [List.take_succ_eq_append_getElem h8, hx.out, List.getD_eq_getElem?_getD, List.getElem?_eq_getElem h8]; rfl
                clear hx
                go_wp2_with (
                  (refine wpList_app rfl (.tmp 69) (.tmp 73) rfl (w.heap.size + 1) g m c 1 1 (bvs (X2 ++ I.take k)) _ [x] rfl rfl rfl (HO.out.alloc _) (BytesAt.one wr x _ rfl) (by omega) ((HR.out.alloc _).lt) ?_; intro g3 c3 W3 hown3 hgr3 hg3;
                   have HR3 : Hid (Ref w W3) := (HR.out.alloc _).app (HO.out.alloc _) hgr3
                   have HO3 := hid hown3
                   have hE : E < wr.heap.size := (Array.getElem?_eq_some_iff.1 HE.out).1
                   have HE3 : Hid (W3.heap[E]? = some (.cells (bcs I) 54 (0, 0))) := by
                     show _ = _
                     rw [hgr3.block E (by simp; omega) (fun h => HNE.out (by cases h; rfl)), Below.heap_alloc wr _ _ hE]; exact HE.out
                   have HNE3 : Hid (g3 ≠ E) := by
                     have h2 := HNE.out
                     rcases hg3 with h | h
                     · rw [h]; exact h2
                     · simp at h; show _ ≠ _; omega
                   clear hown3 hgr3 hg3))
                go_roundw
                case rel => exact ⟨k + 1, g3, c3, m + 1, by omega, by go_num, rfl, (by have := HM.out; omega), (by show _ = _; have := HM.out; omega), HNE3, (by show World.ownsRow _ _ _ _ _ _ _; rw [HX.out, ← List.append_assoc, bvs_app]; exact HO3.out), HE3, HR3⟩
                case measure => simp [intOf]; omega
              · obtain rfl : m = 96 := by have := HM.out; omega
                have hO := HO.out
                rw [List.take_of_length_le (by rw [HIL.out]; omega)] at hO
                have HBA := hid (BytesAt.own hO)
                clear hO HO HE HM HNE
                go_wp2_with fail
                refine (HRE2.out _ _ _ HBA.out).mono ?_
                rintro e W8 ⟨rfl, hb8⟩
                have HR8 : Hid (Ref w W8) := HR.out.step (hb8.mono HR.out.lt)
                have HRES := hid HR8.out.res
                clear hb8
                go_wp2_with (refine wpList_store_abs rfl 54 (.tmp 4) (.tmp 76) rfl w.heap.size 0 (bcs D) rfl rfl 54 _ HRES.out (by rw [bcs_size, bcs_size, HDL.out]; exact Nat.le_refl 32) (size24' D HDL.out) (bvs_one D) ?_; intro W9 hO9 hW9)
                rw [over_bytes _ D (by rw [bcs_size, HDL.out]; rfl)] at hW9
                exact bodyPost_ret (v := .agg (bcs D)) (results_cell_row (p := 4) (ty := 54) Tryd.results31 _ _ w.heap.size 54 _ (0, 0) (.array 32 5) rfl hW9 Tryd.underlying54 rfl (size24' D HDL.out)) rfl ⟨rfl, HR8.out.bel.trans (hO9.below (Nat.le_refl _))⟩

end Go.Proofs.YtggbianodoneeaaDoor
