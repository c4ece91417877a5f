import Derived.Test.YtgoiafndapemjaaGreatDoorQ33
set_option linter.unusedVariables false
set_option linter.unusedSimpArgs false
set_option maxHeartbeats 1000000
namespace Go.Proofs.YtgoiafndapemjaaGreatDoor
open Go.RowKit
structure Ref (w W : World) : Prop where
  bel : Below w.heap.size w W
  res : W.heap[w.heap.size]? = some (.cells (bcs (zer 32)) 74 (0, 0))
theorem Ref.lt {w W : World} (h : Ref w W) : w.heap.size + 1 ≤ W.heap.size := (Array.getElem?_eq_some_iff.1 h.res).1
theorem Ref.step {w W W' : World} (h : Ref w W) (hb : Below (w.heap.size + 1) W W') : Ref w W' :=
  ⟨h.bel.trans (hb.mono (by omega)), (hb.block _ (by omega)).trans h.res⟩
theorem Ref.alloc {w W : World} (h : Ref w W) (o : Obj) : Ref w (W.alloc o) := h.step ((Below.refl _ _).alloc h.lt o)
theorem Ref.app {w W W' : World} {g n c : Nat} {xs : List Value} (h : Ref w W) (hown : W.ownsRow (w.heap.size + 1) 5 1 (.slice (some ⟨g, 0, none⟩) n c) n xs) (hg : W.grownBy W' (some g)) : Ref w W' :=
  h.step (own_below hown (Below.refl _ _) h.lt hg)
theorem Ref.start (w : World) : Ref w (w.alloc (.cells (bcs (zer 32)) 74)) := ⟨(Below.refl _ _).alloc (Nat.le_refl _) _, heap_alloc_new w _⟩
def sliceI (t : TypeId) (x : Value) (lo hi mx : Option Value) : Sem Value := Instr.sliceAt t x lo hi mx
theorem slice22_eq (x : Value) (lo hi mx : Option Value) : Instr.sliceAt 42 x lo hi mx = sliceI 42 x lo hi mx := rfl
theorem slice_lh (g m c a b : Nat) (i j : Int) (hi : i = (a : Int)) (hj : j = (b : Int)) (hab : a < b) (hb : b ≤ c) (W : World) :
    (sliceI 42 (.slice (some ⟨g, 0, none⟩) m c) (some (.int .i64 i)) (some (.int .i64 j)) none).run Tryz.prog W = .ok (.slice (some ⟨g, a, none⟩) (b - a) (c - a)) W := by
  subst hi hj
  have he : Tryz.prog.elem 42 = 5 := by simp [Program.elem, Tryz.underlying42]
  unfold sliceI
  rw [run_sliceAt_slice W 42 _ _ _ _ (by rw [he]; exact Tryz.underlying42)]
  rw [run_slice_lh W 42 (some ⟨g, 0, none⟩) m c (by rw [he]; exact Tryz.underlying42) .i64 .i64 (a : Int) (b : Int) (by omega) (by omega) (by omega)]
  rw [he, Tryz.sizeOf5]
  have h1 : ¬ c = a := by omega
  simp only [Result.andThen_ok, sliced, Int.toNat_natCast, if_neg h1, Nat.mul_one, Option.map_some]
  rw [Addr.add_mid, Nat.zero_add]
theorem load36_eq (x : Value) : Instr.loadAt 108 x = loadI 108 x := rfl
theorem load36_row {w : World} {g : Nat} {ks : List UInt32} (hk : ks.length = 64) (h : w.heap[g]? = some (.cells (wvs ks).toArray 108 (0, 0))) : (loadI 108 (.pointer (some ⟨g, 0, none⟩))).run Tryz.prog w = .ok (.agg (wvs ks).toArray) w :=
  run_loadAt_mid w g 0 108 (wvs ks) _ (range_row (a := []) (c := []) (t := 108) (fr := (0, 0)) (by rw [List.nil_append, List.append_nil]; exact h) 0 rfl) Tryz.underlying108 rfl (by rw [size36]; simp [wvs, hk])
theorem load35_row' {w : World} {g : Nat} {s : St} (h : w.heap[g]? = some (.cells s.cs 107 (0, 0))) : (loadI 107 (.pointer (some ⟨g, 0, none⟩))).run Tryz.prog w = .ok (.agg s.cs) w :=
  load35_row (range_row (a := []) (c := []) (t := 107) (fr := (0, 0)) (by rw [List.nil_append, List.append_nil]; exact h) 0 rfl)
theorem blk_at (p : List UInt8) (t j : Nat) (h : j < 64) : (blkS p t).getD j 0 = p.getD (64 * t + j) 0 := by
  simp [blkS, List.getD_eq_getElem?_getD, h]
theorem built24 : Tryz.prog.built 74 [] = some (bcs (zer 32)) := by kernel_rfl
theorem flat_at : ∀ (L : List UInt32) (j r : Nat), j < L.length → r < 4 → (L.flatMap bytesOf).getD (4 * j + r) 0 = (bytesOf (L.getD j 0)).getD r 0
  | [], j, _, h, _ => absurd h (by simp)
  | x :: L, 0, r, _, hr => by
    rw [List.flatMap_cons, List.getD_eq_getElem?_getD, List.getElem?_append_left (by show 4 * 0 + r < 4; omega)]
    simp [List.getD_eq_getElem?_getD]
  | x :: L, j + 1, r, h, hr => by
    have ih := flat_at L j r (by simpa using h) hr
    rw [List.flatMap_cons, List.getD_eq_getElem?_getD, List.getElem?_append_right (by show 4 ≤ 4 * (j + 1) + r; omega)]
    have e : 4 * (j + 1) + r - (bytesOf x).length = 4 * j + r := by show 4 * (j + 1) + r - 4 = _; omega
    rw [e, ← List.getD_eq_getElem?_getD, ih]
    rfl
theorem dig_at (s : St) (j r : Nat) (hj : j < 8) (hr : r < 4) : (digS s).getD (4 * j + r) 0 = (bytesOf (s.l.getD j 0)).getD r 0 := flat_at s.l j r hj hr
theorem put_byte (D : List UInt8) (k : Nat) (y : UInt8) (hD : D.length = 32) (hk : k < 32) (hy : y = D.getD k 0) : (bcs (D.take k ++ zer (32 - k))).setIfInBounds k (.int .u8 y.toNat) = bcs (D.take (k + 1) ++ zer (32 - (k + 1))) := by
  have h1 : k < D.length := by omega
  have e : (D.take k ++ zer (32 - k)).set k y = D.take (k + 1) ++ zer (32 - (k + 1)) := by
    rw [List.set_append_right _ _ (by simp; omega)]
    have e0 : k - (D.take k).length = 0 := by simp; omega
    obtain ⟨m, hm⟩ : ∃ m, 32 - k = m + 1 := ⟨31 - k, by omega⟩
    rw [e0, hm, show 32 - (k + 1) = m from by omega, List.take_succ_eq_append_getElem h1, hy, List.getD_eq_getElem?_getD, List.getElem?_eq_getElem h1, List.append_assoc]
    rfl
  rw [← e]
  simp [bcs, List.map_set]
attribute [local go_sem ↓] load35_eq load36_eq store35_eq slice22_eq
set_option maxRecDepth 100000 in
set_option maxHeartbeats 2000000 in
theorem refOf_any (l : List UInt8) (A : Option Addr) (cap : Nat) (w : World) (hA : BytesAt w A l) (hlen : l.length ≤ 1000000) :
    Calls Tryz.prog 48 #[.slice A l.length cap] w fun e w' => e = .returned (.agg (bcs (sha l))) ∧ Below w.heap.size w w' := by
  have HA := hid hA
  have HP := hid (pad_sha l)
  have HSL := hid (sha_len l)
  generalize sha l = D at HP HSL ⊢
  clear hA
  have hA1 : ∀ o1 o2, BytesAt ((w.alloc o1).alloc o2) A l := fun o1 o2 => (HA.out.below ((Below.refl w.heap.size w).alloc (Nat.le_refl _) o1) (Nat.le_refl _)).below ((Below.refl _ _).alloc (Nat.le_refl _) o2) (Nat.le_refl _)
  have HA1 := hid hA1
  have HO1 : Hid (∀ o1, ((w.alloc o1).alloc (.cells #[] 5)).ownsRow (w.heap.size + 1) 5 1 (.slice (some ⟨w.heap.size + 1, 0, none⟩) 0 0) 0 (bvs [])) := fun o1 => by
    have := own_zero (w.alloc o1) (w.heap.size + 1) (by simp)
    rw [show (w.alloc o1).heap.size = w.heap.size + 1 from by simp] at this
    exact this
  have HR0 := hid (Ref.start w)
  clear hA1
  go_enter Tryz.func48, Tryz.ntmps48
  go_wp2_with (first
    | (refine wpList_app rfl (.tmp 12) (.tmp 13) rfl (w.heap.size + 1) (w.heap.size + 1) 0 0 cap l.length (bvs []) A l rfl rfl rfl (HO1.out _) (HA1.out _ _) (by omega) (by simp) ?_; intro g1 c1 W1 hown1 hgr1 hg1;
       have HRW1 : Hid (Ref w W1) := (Ref.alloc (by exact HR0.out) _).app (HO1.out _) hgr1
       rw [Nat.zero_add] at hown1
       have HOW1 := hid hown1
       clear hown1 hgr1 hg1)
    | (refine wpList_app rfl (.tmp 15) (.tmp 16) rfl (w.heap.size + 1) g1 l.length c1 1 1 (bvs l) _ [128] rfl rfl rfl (HOW1.out.alloc _) (BytesAt.one W1 128 128 rfl) (by omega) ((HRW1.out.alloc _).lt) ?_; intro g2 c2 W2 hown2 hgr2 hg2;
       have HRW2 : Hid (Ref w W2) := (HRW1.out.alloc _).app (HOW1.out.alloc _) hgr2
       have HOW2 := hid hown2
       clear hown2 hgr2 hg2 HOW1 HRW1))
  go_loopw [3, 4] (fun v i wr => ∃ (k g c m : Nat), k ≤ padZ l.length ∧ i = .int .i64 k ∧ v = .slice (some ⟨g, 0, none⟩) m c ∧ m = l.length + 1 + k ∧ Hid (wr.ownsRow (w.heap.size + 1) 5 1 (.slice (some ⟨g, 0, none⟩) m c) m (bvs (padTo l k))) ∧ Hid (Ref w wr)) (fun _ i _ => 64 - (intOf i).toNat)
  case atStart => exact ⟨0, g2, c2, l.length + 1, Nat.zero_le _, rfl, rfl, rfl, (by show World.ownsRow _ _ _ _ _ _ _; unfold padTo; rw [bvs_app]; exact HOW2.out), HRW2⟩
  case round =>
    obtain ⟨k, g, c, m, hk, rfl, rfl, hm, HO, HR⟩ := hrel
    have hpz : padZ l.length ≤ 63 := by unfold padZ; omega
    have hm64 : m ≤ 1000064 := by omega
    by_cases hlt : k < padZ l.length
    · have hne : ¬ ((m : Int) % 64 = 56) := by unfold padZ at hlt; omega
      have HM := hid hm
      clear hm
      go_wp2_with (
         (refine wpList_app rfl (.tmp 28) (.tmp 29) rfl (w.heap.size + 1) g m c 1 1 (bvs (padTo l k)) _ [0] rfl rfl rfl (HO.out.alloc _) (BytesAt.one wr 0 0 rfl) (by omega) ((HR.out.alloc _).lt) ?_; intro g3 c3 W3 hown3 hgr3 hg3;
          have HRW3 : Hid (Ref w W3) := (HR.out.alloc _).app (HO.out.alloc _) hgr3
          have HOW3 := hid hown3
          clear hown3 hgr3 hg3))
      go_roundw
      case rel => exact ⟨k + 1, g3, c3, m + 1, by omega, by go_num, rfl, (by have := HM.out; omega), (by show World.ownsRow _ _ _ _ _ _ _; rw [padTo_succ, bvs_app]; exact HOW3.out), HRW3⟩
      case measure => simp [intOf]; omega
    · have heq : (m : Int) % 64 = 56 := by unfold padZ at hlt hk; omega
      have HK : Hid (k = padZ l.length) := by show _ = _; omega
      have HM0 := hid hm
      clear hm
      go_wp2_with fail
      have HO2 : Hid (wr.ownsRow (w.heap.size + 1) 5 1 (.slice (some ⟨g, 0, none⟩) m c) m (bvs (padTo l (padZ l.length)))) := by
        have := HO.out; rw [HK.out] at this; exact this
      have HM : Hid (m = l.length + 1 + padZ l.length) := by show _ = _; rw [← HK.out]; exact HM0.out
      clear heq hlt hk HO HK HM0
      obtain ⟨Q, hQ⟩ : ∃ Q, Q = padTo l (padZ l.length) := ⟨_, rfl⟩
      rw [← hQ] at HO2
      have HQ := hid hQ
      clear hQ
      go_loopw [3, 6] (fun v i wr => ∃ (k g c m : Nat), k ≤ 8 ∧ i = .int .i64 (7 - (k : Int)) ∧ v = .slice (some ⟨g, 0, none⟩) m c ∧ m ≤ 1000064 + k ∧ Hid (m = l.length + 1 + padZ l.length + k) ∧ Hid (wr.ownsRow (w.heap.size + 1) 5 1 (.slice (some ⟨g, 0, none⟩) m c) m (bvs (Q ++ (sizeB l.length).take k))) ∧ Hid (Ref w wr)) (fun _ i _ => (intOf i + 1).toNat)
      case atStart => exact ⟨0, g, c, m, Nat.zero_le _, rfl, rfl, by omega, (by show _ = _; have := HM.out; omega), (by show World.ownsRow _ _ _ _ _ _ _; rw [List.take_zero, List.append_nil]; exact HO2.out), HR⟩
      case round =>
        obtain ⟨k, g, c, m, hk, rfl, rfl, hm64, HM, HO, HR⟩ := hrel
        by_cases hlt : k < 8
        · obtain ⟨j, hj⟩ : ∃ j : Nat, 7 - (k : Int) = (j : Int) := ⟨7 - k, by omega⟩
          obtain ⟨x, hx⟩ : ∃ x : UInt8, x = (sizeB l.length).getD k 0 := ⟨_, rfl⟩
          rw [hj]
          have hv : (l.length : Int) * 8 / 2 ^ (8 * j) % 256 = (x.toNat : Int) := by
            have h1 := sizeB_at l.length k hlt hlen
            rw [← hx, show 7 - k = j from by omega] at h1
            rw [h1]; simp
          have HX : Hid ((sizeB l.length).take (k + 1) = (sizeB l.length).take k ++ [x]) := by
            show _ = _
            have h8 : k < (sizeB l.length).length := hlt
            rw [List.take_succ_eq_append_getElem h8, hx, List.getD_eq_getElem?_getD, List.getElem?_eq_getElem h8]; rfl
          have HV := hid hv
          have HJ := hid hj
          clear hx hv hj
          have hj7 : (j : Int) ≤ 7 := by have := HJ.out; omega
          go_wp2_with (
            (refine wpList_app rfl (.tmp 39) (.tmp 46) rfl (w.heap.size + 1) g m c 1 1 (bvs (Q ++ (sizeB l.length).take k)) _ [x] rfl rfl rfl (HO.out.alloc _) (BytesAt.one wr x _ HV.out) (by omega) ((HR.out.alloc _).lt) ?_; intro g3 c3 W3 hown3 hgr3 hg3;
             have HRW3 : Hid (Ref w W3) := (HR.out.alloc _).app (HO.out.alloc _) hgr3
             have HOW3 := hid hown3
             clear hown3 hgr3 hg3))
          go_roundw
          case rel => exact ⟨k + 1, g3, c3, m + 1, by omega, (by have := HJ.out; congr 1; omega), rfl, by omega, (by show _ = _; have := HM.out; omega), (by show World.ownsRow _ _ _ _ _ _ _; rw [HX.out, ← List.append_assoc, bvs_app]; exact HOW3.out), HRW3⟩
          case measure => have := HJ.out; first | (simp [intOf]; done) | (simp [intOf]; omega)
        · obtain rfl : k = 8 := by omega
          have HO2 : Hid (wr.ownsRow (w.heap.size + 1) 5 1 (.slice (some ⟨g, 0, none⟩) m c) m (bvs (pad l))) := by
            have := HO.out; rw [List.take_of_length_le (by rw [sizeB_len]; omega), HQ.out] at this; exact this
          have HML : Hid (m = (pad l).length) := by show _ = _; rw [HM.out, pad_len]; omega
          have HMD := hid (pad_mod l)
          generalize pad l = p at HO2 HML HMD HP
          have hcm := own_cap HO2.out
          have hp0 : 0 < p.length := by have := HML.out; have := HM.out; omega
          have HBA := hid (BytesAt.own HO2.out)
          have HC := hid consts_any
          obtain ⟨C1, hC1⟩ : ∃ C, Hid (C = H0.cs) := ⟨_, rfl⟩
          obtain ⟨C2, hC2⟩ : ∃ C, Hid (C = (wvs KSs).toArray) := ⟨_, rfl⟩
          rw [← hC1.out, ← hC2.out] at HC
          have HS1 : Hid ((Tryz.prog.info? 107).map (·.size) = some C1.size) := by rw [hC1.out]; exact size35' H0
          have HS2 : Hid ((Tryz.prog.info? 108).map (·.size) = some C2.size) := by rw [hC2.out]; exact size36k
          have HO1' : Hid (C1.all (·.oneCell') = true) := by rw [hC1.out]; exact cs_one H0
          have HO2' : Hid (C2.all (·.oneCell') = true) := by rw [hC2.out]; exact wvs_one KSs
          have HZ1 : Hid (C1.size = 8) := by rw [hC1.out]; rfl
          have HZ2 : Hid (C2.size = 64) := by rw [hC2.out]; rfl
          clear HO HM HQ HA1 HO1 HR0 HA HO2
          go_wp2_with fail
          refine (HC.out _).mono ?_
          rintro e W4 ⟨rfl, hb4⟩
          have HB4 := hid hb4
          clear hb4 HC
          go_wp2_with (first
            | (refine wpList_store_abs rfl 107 (.tmp 7) (.tmp 50) rfl W4.heap.size 0 C1 rfl rfl 107 _ (heap_alloc2_old W4 _ _) (by rw [HZ1.out]; exact Nat.le_refl 8) HS1.out HO1'.out ?_; intro W5 hO5 hW5)
            | (refine wpList_store_abs rfl 108 (.tmp 8) (.tmp 51) rfl (W4.heap.size + 1) 0 C2 rfl rfl 108 _ ((hO5.block _ (by omega)).trans (heap_alloc2_new W4 _ _)) (by rw [HZ2.out]; exact Nat.le_refl 64) HS2.out HO2'.out ?_; intro W6 hO6 hW6))
          rw [over_whole _ C1 (by rw [HZ1.out]; rfl)] at hW5
          rw [over_whole _ C2 (by rw [HZ2.out]; rfl)] at hW6
          have HRM := hid ((hO6.block W4.heap.size (by omega)).trans hW5)
          have HRK := hid hW6
          have hB : Below W4.heap.size W4 W6 := ((((Below.refl _ _).alloc (Nat.le_refl _) _).alloc (by simp) _).trans (hO5.below (Nat.le_refl _))).trans (hO6.below (by omega))
          have HBA6 := hid ((HBA.out.below HB4.out (Nat.le_refl _)).below hB (Nat.le_refl _))
          have HRF := hid ((HR.out.step (HB4.out.mono HR.out.lt)).step (hB.mono (by have := HR.out.lt; have := HB4.out.size; omega)))
          have hgM : g < W4.heap.size := by
            obtain ⟨q, o, h1, h2, _⟩ := HBA.out hp0
            cases h1
            exact Nat.lt_of_lt_of_le h2 HB4.out.size
          have hNM : w.heap.size + 1 ≤ W4.heap.size := by have := HR.out.lt; have := HB4.out.size; omega
          clear hO5 hO6 hW5 hW6 HBA hB HB4 HR HS1 HO1' HZ1
          rw [hC1.out] at HRM
          rw [hC2.out] at HRK
          generalize W4.heap.size = M at HRM HRK hgM hNM ⊢
          go_wp2_with fail
          go_loopw [9] (fun v wr => ∃ t : Nat, 64 * t ≤ m ∧ v = .int .i64 (64 * (t : Int)) ∧ Hid (wr.heap[M]? = some (.cells (stTo p t).cs 107 (0, 0))) ∧ Hid (wr.heap[M + 1]? = some (.cells (wvs KSs).toArray 108 (0, 0))) ∧ Hid (Below M W6 wr)) (fun v _ => m - (intOf v).toNat)
          case atStart => exact ⟨0, Nat.zero_le _, rfl, HRM, HRK, Below.refl _ _⟩
          case round =>
            obtain ⟨t, ht, rfl, HT, HK, HB⟩ := hrel
            by_cases hlt : 64 * t < m
            · have hle : 64 * t + 64 ≤ m := by have := HML.out; have := HMD.out; omega
              have hsl := slice_lh g m c (64 * t) (64 * t + 64) (64 * (t : Int)) (64 * (t : Int) + 64) (by omega) (by omega) (by omega) (by omega)
              have h64 : 64 * t + 64 - 64 * t = 64 := by omega
              simp only [h64] at hsl
              have hwr : IntKind.i64.wrap (64 * (t : Int) + 64) = 64 * (t : Int) + 64 := by rw [IntKind.wrap_i64]; omega
              obtain ⟨S, hS⟩ : ∃ S, Hid (S = stTo p t) := ⟨_, rfl⟩
              rw [← hS.out] at HT
              have HSN : Hid (stTo p (t + 1) = addS S (rnds KSs (wl (blkS p t) 64) S 64)) := by show _ = _; rw [hS.out]; rfl
              have H28 : Hid (∀ W, Below M W6 W → Calls Tryz.prog 85 #[.agg S.cs, .agg (wvs KSs).toArray, .slice (some ⟨g, 64 * t, none⟩) 64 (c - 64 * t)] W fun e w' => e = .returned (.agg (addS S (rnds KSs (wl (blkS p t) 64) S 64)).cs) ∧ Below W.heap.size W w') := fun W hW => by
                obtain ⟨q, o, h1, h2, h3⟩ := HBA6.out hp0
                cases h1
                refine step_any S KSs KS_len (blkS p t) g (64 * t) (c - 64 * t) W (Nat.lt_of_lt_of_le h2 hW.size) (fun j hj => ?_)
                rw [hW.cell (p := ⟨g, 64 * t + j, none⟩) hgM]
                have := h3 (64 * t + j) (by have := HML.out; omega)
                rw [Nat.zero_add] at this
                rw [this, blk_at p t j hj]
              generalize addS S (rnds KSs (wl (blkS p t) 64) S 64) = T at H28 HSN
              have hl1 : (loadI 107 (.pointer (some ⟨M, 0, none⟩))).run Tryz.prog wr.drew = .ok (.agg S.cs) wr.drew := load35_row' HT.out
              have hl2 : (loadI 108 (.pointer (some ⟨M + 1, 0, none⟩))).run Tryz.prog wr.drew = .ok (.agg (wvs KSs).toArray) wr.drew := load36_row KS_len HK.out
              have hM : M + 1 < wr.heap.size := (Array.getElem?_eq_some_iff.1 HK.out).1
              have HSTO : Hid (∀ w1, Below wr.drew.heap.size wr.drew w1 → ∃ W, (storeI 107 (.pointer (some ⟨M, 0, none⟩)) (.agg T.cs)).run Tryz.prog w1 = .ok () W ∧ W.heap[M]? = some (.cells T.cs 107 (0, 0)) ∧ W.heap[M + 1]? = some (.cells (wvs KSs).toArray 108 (0, 0)) ∧ Below M W6 W) := fun w1 h1 => by
                have hr := (h1.block M (show M < wr.heap.size by omega)).trans HT.out
                obtain ⟨W, h2, h3, h4⟩ := store35_row hr (o := 0) (by rw [cs_size]; omega) T
                refine ⟨W, h2, ?_, ?_, ?_⟩
                · rw [h4, show over S.cs 0 (wvs T.l) = T.cs from over8 _ T rfl]
                · rw [h3.block _ (by omega), h1.block _ hM]; exact HK.out
                · exact ((HB.out.trans (below_drewN M wr 1)).trans (h1.mono (show M ≤ wr.heap.size by omega))).trans (h3.below (Nat.le_refl _))
              obtain ⟨C3, hC3⟩ : ∃ C, Hid (C = (wvs KSs).toArray) := ⟨_, rfl⟩
              rw [← hC3.out] at H28 hl2
              have HBD : Hid (Below M W6 wr.drew) := HB.out.trans (below_drewN M wr 1)
              clear HT HK
              go_wp2_with fail
              go_region_with ((go_at_call 85; refine (H28.out _ (by exact HBD.out)).mono ?_; rintro e w1 ⟨rfl, hb1⟩; obtain ⟨W7, hst, h7a, h7b, h7c⟩ := HSTO.out w1 hb1; have H7a := hid h7a; have H7b := hid h7b; have H7c := hid h7c; clear hb1 h7a h7b h7c))
              all_goals
                go_wp2_with fail
                go_roundw
                case rel => exact ⟨t + 1, by omega, (by first | rfl | (congr 1; omega)), (by show _ = _; rw [HSN.out]; exact H7a.out), H7b, H7c⟩
                case measure => simp [intOf]; omega
            · have HTP : Hid (digS (stTo p t) = D) := HP.out t (by have := HML.out; omega)
              generalize stTo p t = s at HT HTP
              have HBZ := hid built24
              have HS24 := hid (size24' (zer 32) (zer_len 32))
              have HO24 := hid (bvs_one (zer 32))
              have HRW := hid ((HRF.out.step (HB.out.mono hNM)).res)
              have HBW := hid ((HRF.out.step (HB.out.mono hNM)).bel)
              clear HB HK HRF HRM HRK HP
              have hMr : M < wr.heap.size := (Array.getElem?_eq_some_iff.1 HT.out).1
              obtain ⟨Z, hZ⟩ : ∃ Z, Hid (Z = bcs (zer 32)) := ⟨_, rfl⟩
              rw [← hZ.out] at HBZ HS24 HO24
              have HZS : Hid (Z.size = 32) := by rw [hZ.out]; rfl
              go_wp2_with (first
                | (refine wpList_built rfl 74 _ rfl Z HBZ.out ?_)
                | (refine wpList_store_abs rfl 74 (.tmp 10) (.tmp 66) rfl wr.heap.size 0 Z rfl rfl 74 _ (heap_alloc_new wr _) (by rw [HZS.out]; exact Nat.le_refl 32) HS24.out HO24.out ?_; intro W8 hO8 hW8))
              rw [over_whole _ Z (by rw [HZS.out]; rfl), hZ.out] at hW8
              have HX0 : Hid (W8.heap[wr.heap.size]? = some (.cells (bcs (D.take 0 ++ zer (32 - 0))) 74 (0, 0))) := hW8
              have HS8 : Hid (W8.heap[M]? = some (.cells s.cs 107 (0, 0))) := by
                show _ = _
                rw [hO8.block _ (by omega), Below.heap_alloc wr _ M (by omega)]; exact HT.out
              have HR8 : Hid (W8.heap[w.heap.size]? = some (.cells (bcs (zer 32)) 74 (0, 0))) := by
                show _ = _
                rw [hO8.block _ (by omega), Below.heap_alloc wr _ _ (by omega)]; exact HRW.out
              have HB8 : Hid (Below w.heap.size w W8) := (HBW.out.alloc (by omega) _).trans (hO8.below (by omega))
              clear hO8 hW8 HT HRW HBW HBZ HS24 HO24 HZS hZ
              have hRM : w.heap.size < wr.heap.size := by omega
              generalize wr.heap.size = R at HX0 HS8 HR8 hMr hRM ⊢
              go_loopw [11] (fun v wr => ∃ k : Nat, k ≤ 32 ∧ v = .int .i64 k ∧ Hid (wr.heap[R]? = some (.cells (bcs (D.take k ++ zer (32 - k))) 74 (0, 0))) ∧ Hid (Only R W8 wr)) (fun v _ => 32 - (intOf v).toNat)
              case atStart => exact ⟨0, by omega, rfl, HX0, rfl, rfl, rfl, rfl, fun _ _ => rfl⟩
              case round =>
                obtain ⟨k, hk, rfl, HX, HOn⟩ := hrel
                by_cases hk32 : k < 32
                · obtain ⟨j, hj⟩ : ∃ j, j = k / 4 := ⟨_, rfl⟩
                  obtain ⟨x, hx⟩ : ∃ x, x = s.l.getD j 0 := ⟨_, rfl⟩
                  obtain ⟨y, hy⟩ : ∃ y, y = D.getD k 0 := ⟨_, rfl⟩
                  have hj8 : j < 8 := by omega
                  have HY := hid hy
                  have HYX : Hid (∀ r, k % 4 = r → r < 4 → y = (bytesOf x).getD r 0) := fun r hr h4 => by
                    rw [hy, hx, ← HTP.out, ← dig_at s j r hj8 h4, show 4 * j + r = k from by omega]
                  have hq : (k : Int) / 4 = (j : Int) := by omega
                  have cx : wr.cell? ⟨M, j, none⟩ = some (.int .u32 (nv x)) := by
                    rw [World.cell?_of_block (w := W8) (HOn.out.block M (by omega)), cell_of_row _ _ _ _ _ _ HS8.out, hx, St.cs_eq]
                    exact wvs_at s.l j hj8
                  obtain ⟨z, cz⟩ : ∃ z, wr.cell? ⟨R, k, none⟩ = some z := by
                    rw [cell_of_row _ _ _ _ _ _ HX.out]
                    have h5 : k < (bcs (D.take k ++ zer (32 - k))).size := by rw [bcs_size, List.length_append, List.length_take, zer_len, HSL.out]; omega
                    exact ⟨_, Array.getElem?_eq_getElem h5⟩
                  have fz : wr.frozen? ⟨R, k, none⟩ = false := frozen_of_row _ _ _ _ _ HX.out
                  clear hx hy hj
                  rcases (show k % 4 = 0 ∨ k % 4 = 1 ∨ k % 4 = 2 ∨ k % 4 = 3 by omega) with h4 | h4 | h4 | h4
                  · have hr : (k : Int) % 4 = 0 := by omega
                    have HV : Hid (nv x / 16777216 % 256 = (y.toNat : Int)) := by show _ = _; rw [HYX.out 0 h4 (by omega)]; exact byte_eq x 16777216
                    clear HYX h4
                    go_wp2_with fail
                    go_roundw
                    case rel =>
                      refine ⟨k + 1, by omega, by go_num, ?_, ?_⟩
                      · show _ = _
                        rw [HV.out, heap_setCell_same _ _ _ _ _ _ HX.out, put_byte D k y HSL.out hk32 HY.out]
                      · have := HOn.out
                        exact ⟨this.os, this.tape, this.output, by rw [← this.size]; simp [World.setCell], fun k hk => (heap_setCell_other _ _ _ _ hk).trans (this.block k hk)⟩
                    case measure => simp [intOf]; omega
                  · have hr : (k : Int) % 4 = 1 := by omega
                    have HV : Hid (nv x / 65536 % 256 = (y.toNat : Int)) := by show _ = _; rw [HYX.out 1 h4 (by omega)]; exact byte_eq x 65536
                    clear HYX h4
                    go_wp2_with fail
                    go_roundw
                    case rel =>
                      refine ⟨k + 1, by omega, by go_num, ?_, ?_⟩
                      · show _ = _
                        rw [HV.out, heap_setCell_same _ _ _ _ _ _ HX.out, put_byte D k y HSL.out hk32 HY.out]
                      · have := HOn.out
                        exact ⟨this.os, this.tape, this.output, by rw [← this.size]; simp [World.setCell], fun k hk => (heap_setCell_other _ _ _ _ hk).trans (this.block k hk)⟩
                    case measure => simp [intOf]; omega
                  · have hr : (k : Int) % 4 = 2 := by omega
                    have HV : Hid (nv x / 256 % 256 = (y.toNat : Int)) := by show _ = _; rw [HYX.out 2 h4 (by omega)]; exact byte_eq x 256
                    clear HYX h4
                    go_wp2_with fail
                    go_roundw
                    case rel =>
                      refine ⟨k + 1, by omega, by go_num, ?_, ?_⟩
                      · show _ = _
                        rw [HV.out, heap_setCell_same _ _ _ _ _ _ HX.out, put_byte D k y HSL.out hk32 HY.out]
                      · have := HOn.out
                        exact ⟨this.os, this.tape, this.output, by rw [← this.size]; simp [World.setCell], fun k hk => (heap_setCell_other _ _ _ _ hk).trans (this.block k hk)⟩
                    case measure => simp [intOf]; omega
                  · have hr : (k : Int) % 4 = 3 := by omega
                    have HV : Hid (nv x % 256 = (y.toNat : Int)) := by show _ = _; rw [HYX.out 3 h4 (by omega)]; show nv x % 256 = ((UInt8.ofNat x.toNat).toNat : Int); unfold nv; rw [UInt8.toNat_ofNat']; simp
                    clear HYX h4
                    go_wp2_with fail
                    go_roundw
                    case rel =>
                      refine ⟨k + 1, by omega, by go_num, ?_, ?_⟩
                      · show _ = _
                        rw [HV.out, heap_setCell_same _ _ _ _ _ _ HX.out, put_byte D k y HSL.out hk32 HY.out]
                      · have := HOn.out
                        exact ⟨this.os, this.tape, this.output, by rw [← this.size]; simp [World.setCell], fun k hk => (heap_setCell_other _ _ _ _ hk).trans (this.block k hk)⟩
                    case measure => simp [intOf]; omega
                · have hX := HX.out
                  rw [List.take_of_length_le (by rw [HSL.out]; omega), show 32 - k = 0 from by omega, show zer 0 = [] from rfl, List.append_nil] at hX
                  have HX2 := hid hX
                  have HI := hid (size24' D HSL.out)
                  have HO := hid (bvs_one D)
                  have HR9 := hid ((HOn.out.block w.heap.size (by omega)).trans HR8.out)
                  have HB9 := hid (HB8.out.trans (HOn.out.below (Nat.le_of_lt hRM)))
                  clear hX HX HOn
                  go_wp2_with (first
                    | (refine wpList_load_row rfl 74 (.tmp 10) rfl R rfl 74 (bcs D) (0, 0) (.array 32 5) HX2.out Tryz.underlying74 rfl HI.out ?_)
                    | (refine wpList_store_abs rfl 74 (.tmp 2) (.tmp 84) rfl w.heap.size 0 (bcs D) rfl rfl 74 _ HR9.out (by rw [bcs_size, bcs_size, HSL.out]; exact Nat.le_refl 32) HI.out HO.out ?_; intro W10 hO10 hW10))
                  rw [over_bytes _ D (by rw [bcs_size, HSL.out]; rfl)] at hW10
                  exact bodyPost_ret (v := .agg (bcs D)) (results_cell_row (p := 2) (ty := 74) Tryz.results48 _ _ w.heap.size 74 _ (0, 0) (.array 32 5) rfl hW10 Tryz.underlying74 rfl HI.out) rfl ⟨rfl, HB9.out.trans (hO10.below (Nat.le_refl _))⟩
end Go.Proofs.YtgoiafndapemjaaGreatDoor
