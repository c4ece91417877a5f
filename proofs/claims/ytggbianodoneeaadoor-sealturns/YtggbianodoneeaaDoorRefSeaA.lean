
/- What the reference's turned and Tag do (layer 4). -/
import Derived.Test.YtggbianodoneeaaDoorSealB
namespace Go.Proofs.YtggbianodoneeaaDoor
open Go.RowKit
set_option linter.unusedSimpArgs false
set_option linter.unusedVariables false

/-- append(own, bytes or a text...), in a region that draws its order. -/
theorem step_own {ops : Array Oper} {o : Oper} {a : Act} {w : World} {K : Act → World → Prop} {Q : Exit → Act → World → Prop} {E : Prop} (hgd : o.guard = none) (s x : Operand) (tx : TypeId)
    (ho : o.op = .call { callee := .builtin .append, args := #[s, x], argTypes := #[31, tx] })
    (base g n cap m : Nat) (l l2 : List UInt8) (xv : Value) (hs : a.eval s = .slice (some ⟨g, 0, none⟩) n cap) (hx : a.eval x = xv) (hown : Own w base g n cap l)
    (hA : Src Tryd.prog 1 tx xv m (bvs l2) w) (hn : n + m ≤ 1000000000) (hbase : base ≤ w.heap.size)
    (h : ∀ g' cap' w', Own w' base g' (n + m) cap' (l ++ l2) → w.grownBy w' (some g) → (g' = g ∨ g' = w.heap.size) → K (a.put o.dst (.slice (some ⟨g', 0, none⟩) (n + m) cap')) w') :
    if Region.wanted o (yielded ops a.tmps) = true then Oper.wp Tryd.prog o a w K Q else E := by
  have hw : Region.wanted o (yielded ops a.tmps) = true := by simp [Region.wanted, hgd]
  rw [if_pos hw]
  obtain ⟨g', cap', w', hr, h2, h3, h4⟩ := hown.run_app tx o.type xv hA hn hbase
  unfold Oper.wp
  simp [execOp, ho, resolve, invoke, builtin, hs, hx, hr, Result.andThen]
  exact h g' cap' w' h2 h3 h4
theorem Own.of_row {w : World} {b g : Nat} {l : List UInt8} (hb : b ≤ g) (h : w.heap[g]? = some (.cells (bcs l) 5 (0, 0))) : Own w b g l.length l.length l :=
  ⟨hb, rfl, [], (0, 0), by rw [List.append_nil]; exact h, by simp, .inl rfl⟩
theorem Own.put {w : World} {b g n cap k : Nat} {l : List UInt8} {v : Value} (h : Own w b g n cap l) (hk : g ≠ k) (j : Nat) : Own (w.setCell ⟨k, j, none⟩ v) b g n cap l := h.kept (heap_setCell_other _ _ _ _ hk)

set_option maxRecDepth 100000 in
set_option maxHeartbeats 4000000 in
theorem refTurned_any (key nonce b : List UInt8) (A1 A2 A3 : Option Addr) (c1 c2 c3 : Nat) (w : World) (hA1 : BytesAt w A1 key) (hA2 : BytesAt w A2 nonce) (hA3 : BytesAt w A3 b) (hl1 : key.length ≤ 100000) (hl2 : nonce.length ≤ 1000) (hl3 : b.length ≤ 8000) :
    Calls Tryd.prog 34 #[.slice A1 key.length c1, .slice A2 nonce.length c2, .slice A3 b.length c3] w fun e w' => (∃ g c, e = .returned (.slice (some ⟨g, 0, none⟩) b.length c) ∧ Own w' w.heap.size g b.length c (turnB key nonce b)) ∧ Below w.heap.size w w' := by
  have HA1 := hid hA1
  have HA2 := hid hA2
  have HA3 := hid hA3
  have HKF : Hid (Calls Tryd.prog 15 #[.slice A1 key.length c1, .string ⟨#[115, 116, 114, 101, 97, 109]⟩, .int .i64 32] w fun e w' => (∃ g c, e = .returned (.slice (some ⟨g, 0, none⟩) 32 c) ∧ Own w' w.heap.size g 32 c (skey key)) ∧ Below w.heap.size w w') := refDer_any key STREAM 32 (by omega) A1 c1 w hA1 hl1 (by decide)
  have HKL := hid (skey_len key)
  have HEN : Hid (turnB key nonce b = turnTo (skey key) nonce b b.length) := rfl
  generalize turnB key nonce b = D at HEN ⊢
  generalize skey key = K at HKF HKL HEN
  have HPC : Hid (∀ (i g c : Nat) W B c', BytesAt W (some ⟨g, 0, none⟩) K → BytesAt W B (nonce ++ [0, 0, 0, UInt8.ofNat i]) → Calls Tryd.prog 31 #[.slice (some ⟨g, 0, none⟩) 32 c, .slice B (nonce.length + 4) c'] W fun e w' => e = .returned (.agg (bcs (piece K nonce i))) ∧ Below W.heap.size W w') := fun i g c W B c' h2 h3 => by
    have := refMac_any K (nonce ++ [0, 0, 0, UInt8.ofNat i]) (some ⟨g, 0, none⟩) B c c' W h2 h3 (by rw [HKL.out]; omega) (by simp; omega)
    rw [HKL.out, show (nonce ++ [0, 0, 0, UInt8.ofNat i]).length = nonce.length + 4 from by simp] at this
    exact this
  have HSUC := hid (turnTo_succ K nonce b)
  have HPL := hid (piece_len K nonce)
  have HSA := hid (strm_at K nonce)
  have HBZ := hid built24
  have HS24 := hid (size24' (zer 32) (zer_len 32))
  have HO24 := hid (bvs_one (zer 32))
  obtain ⟨Z, hZ⟩ : ∃ Z, Hid (Z = bcs (zer 32)) := ⟨_, rfl⟩
  rw [← hZ.out] at HBZ HS24 HO24
  have HZS : Hid (Z.size = 32) := by rw [hZ.out]; rfl
  clear hA1 hA2 hA3
  go_enter Tryd.func34, Tryd.ntmps34
  go_wp2_with fail
  refine HKF.out.mono ?_
  rintro e W1 ⟨⟨gk, ck, rfl, ho1⟩, hb1⟩
  have HK1 := hid ho1
  have HB1 := hid hb1
  have hz1 := hb1.size
  have hgk := ho1.lt
  clear ho1 hb1 HKF
  have HT0 : Hid (turnTo K nonce b 0 = []) := rfl
  go_wp2_with (first
    | (refine wpList_built rfl 54 _ rfl Z HBZ.out ?_)
    | (refine wpList_store_abs rfl 54 (.tmp 9) (.tmp 15) rfl (W1.heap.size + 1) 0 Z rfl rfl 54 _ (heap_alloc2_new W1 _ _) (by rw [HZS.out]; exact Nat.le_refl 32) HS24.out HO24.out ?_; intro W2 hO2 hW2;
       have HP2 : Hid (W2.heap[W1.heap.size + 1]? = some (.cells (bcs (zer 32)) 54 (0, 0))) := by rw [over_whole _ Z (by rw [HZS.out]; rfl), hZ.out] at hW2; exact hW2
       have HO2 : Hid (Own W2 W1.heap.size W1.heap.size 0 0 (turnTo K nonce b 0)) := by show Own _ _ _ _ _ _; rw [HT0.out]; exact ((Own.zero W1 _ (Nat.le_refl _)).alloc _).kept (hO2.block _ (by omega))
       have HB2 : Hid (Below W1.heap.size W1 W2) := (((Below.refl _ _).alloc (Nat.le_refl _) _).alloc (by simp) _).trans (hO2.below (by omega))
       clear hO2 hW2))
  go_loopw [8, 10] (fun ov iv wx => ∃ (i g c : Nat) (pc : List UInt8), i ≤ b.length ∧ iv = .int .i64 (i : Int) ∧ ov = .slice (some ⟨g, 0, none⟩) i c ∧ Hid (g ≠ W1.heap.size + 1) ∧ Hid (pc.length = 32) ∧ Hid (i % 32 ≠ 0 → pc = piece K nonce (i / 32)) ∧ Hid (Own wx W1.heap.size g i c (turnTo K nonce b i)) ∧ Hid (wx.heap[W1.heap.size + 1]? = some (.cells (bcs pc) 54 (0, 0))) ∧ Hid (Below W1.heap.size W1 wx)) (fun _ iv _ => b.length - (intOf iv).toNat)
  case atStart => exact ⟨0, W1.heap.size, 0, zer 32, by omega, rfl, rfl, (by show _ ≠ _; omega), zer_len 32, (fun h => absurd rfl h), HO2, HP2, HB2⟩
  case round =>
    clear HO2 HP2 HB2
    obtain ⟨i, g, c, pc, hi, rfl, rfl, HNE, HCL, HCP, HO, HP, HB⟩ := hrel
    have hz2 : W1.heap.size + 1 < wr.heap.size := (Array.getElem?_eq_some_iff.1 HP.out).1
    by_cases hlt : i < b.length
    · obtain ⟨q, hq⟩ : ∃ q, q = i / 32 := ⟨_, rfl⟩
      obtain ⟨r, hr⟩ : ∃ r, r = i % 32 := ⟨_, rfl⟩
      have hr32 : r < 32 := by omega
      have hq256 : q < 256 := by omega
      have m1 : (i : Int).tmod 32 = (r : Int) := by rw [Int.tmod_eq_emod_of_nonneg (by omega)]; omega
      have m2 : (i : Int) % 32 = (r : Int) := by omega
      have m3 : (i : Int).tdiv 32 = (q : Int) := by rw [Int.tdiv_eq_ediv_of_nonneg (by omega)]; omega
      have m4 : (i : Int) / 32 = (q : Int) := by omega
      obtain ⟨qa, oa, rfl, hqa, hca⟩ := HA3.out (by omega)
      obtain ⟨x, hx⟩ : ∃ x, Hid (x = b.getD i 0) := ⟨_, rfl⟩
      have HCX : Hid (∀ W, Below W1.heap.size W1 W → W.cell? ⟨qa, oa + i, none⟩ = some (.int .u8 x.toNat)) := fun W hW => by
        rw [hW.cell (p := ⟨qa, oa + i, none⟩) (show qa < W1.heap.size by omega), HB1.out.cell (p := ⟨qa, oa + i, none⟩) hqa, hca i hlt, hx.out]
      have HQ := hid hq
      have HR := hid hr
      have HGL := hid HO.out.lt
      clear hq hr hca
      by_cases hr0 : r = 0
      · subst hr0
        have HPL1 := hid (HPL.out q)
        have HST := hid (HSA.out i q 0 HQ.out HR.out)
        have HPCN : Hid ((i + 1) % 32 ≠ 0 → piece K nonce q = piece K nonce ((i + 1) / 32)) := fun _ => by rw [show (i + 1) / 32 = q from by have := HQ.out; have := HR.out; omega]
        have HPC1 := hid (HPC.out q gk ck)
        generalize piece K nonce q = p1 at HPC1 HPL1 HST HPCN
        have HI8 : Hid ((UInt8.ofNat q).toNat = q) := by show _ = _; rw [UInt8.toNat_ofNat', Nat.mod_eq_of_lt (by omega)]
        have HBT : Hid (∀ W : World, BytesAt (W.alloc (.cells #[.int .u8 0, .int .u8 0, .int .u8 0, .int .u8 (q : Int)] 5)) (some ⟨W.heap.size, 0, none⟩) [0, 0, 0, UInt8.ofNat q]) := fun W => BytesAt.of_row (l := [0, 0, 0, UInt8.ofNat q]) (t := 5) (fr := (0, 0)) (by rw [heap_alloc_new]; simp only [bcs, List.map_cons, List.map_nil, HI8.out]; rfl)
        generalize UInt8.ofNat q = xq at HPC1 HBT
        have d1 : (q : Int).tdiv 16777216 = 0 := by rw [Int.tdiv_eq_ediv_of_nonneg (by omega)]; omega
        have d2 : (q : Int).tdiv 65536 = 0 := by rw [Int.tdiv_eq_ediv_of_nonneg (by omega)]; omega
        have d3 : (q : Int).tdiv 256 = 0 := by rw [Int.tdiv_eq_ediv_of_nonneg (by omega)]; omega
        have d4 : (q : Int) / 16777216 = 0 := by omega
        have d5 : (q : Int) / 65536 = 0 := by omega
        have d6 : (q : Int) / 256 = 0 := by omega
        have hw : IntKind.u8.wrap (q : Int) = (q : Int) := by rw [IntKind.wrap_u8]; omega
        have HA2w : Hid (BytesAt (wr.alloc (.cells #[] 5)) A2 nonce) := ((HA2.out.below HB1.out (Nat.le_refl _)).below HB.out (Nat.le_refl _)).below ((Below.refl _ _).alloc (Nat.le_refl _) _) (Nat.le_refl _)
        have hzw := HB.out.size
        go_wp2_with (first
          | (refine wpList_own rfl (.tmp 28) (.tmp 29) 31 rfl wr.heap.size wr.heap.size 0 0 nonce.length [] nonce _ rfl rfl (Own.zero wr _ (Nat.le_refl _)) (src_bytes HA2w.out c2 (fun _ => opt_any _)) (by omega) (by simp) ?_; intro g3 cc3 W3 hown3 hgr3 hg3;
             have HX3 : Hid (Own W3 wr.heap.size g3 nonce.length cc3 nonce) := by have := hown3; rw [Nat.zero_add, List.nil_append] at this; exact this
             have HB3 : Hid (Below wr.heap.size wr W3) := (Own.zero wr wr.heap.size (Nat.le_refl _)).grown ((Below.refl _ _).alloc (Nat.le_refl _) _) (by simp) hgr3
             clear hown3 hgr3 hg3)
          | (refine wpList_own rfl (.tmp 30) (.tmp 42) 31 rfl wr.heap.size g3 nonce.length cc3 4 nonce [0, 0, 0, xq] _ rfl rfl (HX3.out.alloc _) (src_bytes (l := [0, 0, 0, xq]) (HBT.out _) 4 (fun h => by cases h)) (by omega) (by have := HB3.out.size; simp <;> omega) ?_; intro g4 cc4 W4 hown4 hgr4 hg4;
             have HX4 := hid hown4
             have HB4 : Hid (Below wr.heap.size wr W4) := (HX3.out.alloc _).grown (HB3.out.alloc HB3.out.size _) (by have := HB3.out.size; simp <;> omega) hgr4
             clear hown4 hgr4 hg4))
        refine (HPC1.out _ _ _ ((HK1.out.bytes.below HB.out (Nat.le_refl _)).below HB4.out (Nat.le_refl _)) HX4.out.bytes).mono ?_
        rintro e W5 ⟨rfl, hb5⟩
        have HB5 := hid (HB4.out.trans (hb5.mono HB4.out.size))
        have HP5 := hid ((HB5.out.block _ hz2).trans HP.out)
        have HO5 := hid (HO.out.below HB5.out (Nat.le_refl _))
        have HBB5 := hid (HB.out.trans (HB5.out.mono hzw))
        clear hb5 HP HO HB HPC1 HCP HX3 HX4 HB3 HB4
        go_wp2_with (refine wpList_store_abs rfl 54 (.tmp 9) (.tmp 44) rfl (W1.heap.size + 1) 0 (bcs p1) rfl rfl 54 _ HP5.out (by rw [bcs_size, bcs_size, HPL1.out, HCL.out]; exact Nat.le_refl 32) (size24' p1 HPL1.out) (bvs_one p1) ?_; intro W6 hO6 hW6)
        rw [over_bytes _ p1 (by rw [bcs_size, HPL1.out, HCL.out])] at hW6
        have HP6 := hid hW6
        have HO6 := hid (HO5.out.kept (hO6.block g HNE.out))
        have HB6 : Hid (Below W1.heap.size W1 W6) := HBB5.out.trans (hO6.below (by omega))
        clear hO6 hW6 HP5 HO5 HB5 HBB5
        obtain ⟨y, hy⟩ : ∃ y, Hid (y = p1.getD 0 0) := ⟨_, rfl⟩
        obtain ⟨z, hz, hxy⟩ : ∃ z : UInt8, z = x ^^^ y ∧ bits .xor .u8 (x.toNat : Int) (y.toNat : Int) = (z.toNat : Int) := ⟨_, rfl, u8_xor x y⟩
        have HZ : Hid (turnTo K nonce b (i + 1) = turnTo K nonce b i ++ [z]) := by show _ = _; rw [HSUC.out, hz, hx.out, hy.out, HST.out]
        have cx := HCX.out W6 HB6.out
        have cy : W6.cell? ⟨W1.heap.size + 1, 0, none⟩ = some (.int .u8 y.toNat) := by rw [cell_of_row _ _ _ _ _ _ HP6.out, bcs_at _ _ (by rw [HPL1.out]; omega), hy.out]
        have hzz := HB6.out.size
        have hzP : W1.heap.size + 1 < W6.heap.size := (Array.getElem?_eq_some_iff.1 HP6.out).1
        clear hz
        go_wp2_with fail
        go_region_law ((refine step_own (by rfl) _ _ 31 (by rfl) W1.heap.size g i c 1 (turnTo K nonce b i) [z] _ (by rfl) (by rfl) (by exact (HO6.out.alloc _).drew) (by exact src_bytes (w := (W6.alloc (.cells #[.int .u8 (z.toNat : Int)] 5)).drew) (l := [z]) (by exact BytesAt.one W6 z _ rfl) 1 (fun h => by cases h)) (by omega) (by show W1.heap.size ≤ (W6.alloc _).heap.size; simp <;> omega) ?_; intro g7 c7 W7 hown7 hgr7 hg7))
        all_goals
          have HO7 : Hid (Own W7 W1.heap.size g7 (i + 1) c7 (turnTo K nonce b (i + 1))) := by show Own _ _ _ _ _ _; rw [HZ.out]; exact hown7
          have hgr8 : (W6.alloc (.cells #[.int .u8 (z.toNat : Int)] 5)).drew.grownBy W7 (some g) := hgr7
          have HB7 : Hid (Below W1.heap.size W1 W7) := ((HO6.out.alloc _).drew).grown ((HB6.out.alloc hzz _).drew) (by show W1.heap.size ≤ (W6.alloc _).heap.size; simp <;> omega) hgr8
          have HP7 : Hid (W7.heap[W1.heap.size + 1]? = some (.cells (bcs p1) 54 (0, 0))) := by
            show _ = _
            rw [hgr8.block (W1.heap.size + 1) (by show _ < (W6.alloc _).heap.size; simp <;> omega) (fun e => HNE.out (by cases e; rfl))]
            show (W6.alloc _).heap[W1.heap.size + 1]? = _
            rw [Below.heap_alloc W6 _ _ hzP]; exact HP6.out
          have HN7 : Hid (g7 ≠ W1.heap.size + 1) := by
            have h1 := HNE.out
            show _ ≠ _
            rcases hg7 with h | h
            · omega
            · have h2 : (W6.alloc (.cells #[.int .u8 (z.toNat : Int)] 5)).drew.heap.size = W6.heap.size + 1 := by show (W6.alloc _).heap.size = _; simp
              rw [h2] at h; omega
          clear hown7 hgr7 hgr8 hg7
          go_wp2_with fail
          go_roundw
          case rel => exact ⟨i + 1, g7, c7, p1, by omega, by go_num, rfl, HN7, HPL1, HPCN, HO7, HP7, HB7⟩
          case measure => simp [intOf]; omega
      · have HST : Hid (strm K nonce i = pc.getD r 0) := by
          have h1 := HQ.out
          have h2 := HR.out
          show _ = _
          rw [HSA.out i q r h1 h2, HCP.out (by omega), h1]
        have HPCN : Hid ((i + 1) % 32 ≠ 0 → pc = piece K nonce ((i + 1) / 32)) := fun h => by
          have h2 := HR.out
          rw [HCP.out (by omega), show (i + 1) / 32 = i / 32 from by omega]
        have hr0' : ¬ ((r : Int) = 0) := by omega
        have hr32' : (r : Int) < 32 := by omega
        obtain ⟨y, hy⟩ : ∃ y, Hid (y = pc.getD r 0) := ⟨_, rfl⟩
        obtain ⟨z, hz, hxy⟩ : ∃ z : UInt8, z = x ^^^ y ∧ bits .xor .u8 (x.toNat : Int) (y.toNat : Int) = (z.toNat : Int) := ⟨_, rfl, u8_xor x y⟩
        have HZ : Hid (turnTo K nonce b (i + 1) = turnTo K nonce b i ++ [z]) := by show _ = _; rw [HSUC.out, hz, hx.out, hy.out, HST.out]
        have cx := HCX.out wr HB.out
        have cy : wr.cell? ⟨W1.heap.size + 1, r, none⟩ = some (.int .u8 y.toNat) := by rw [cell_of_row _ _ _ _ _ _ HP.out, bcs_at _ _ (by rw [HCL.out]; omega), hy.out]
        have hzz := HB.out.size
        have hzP : W1.heap.size + 1 < wr.heap.size := (Array.getElem?_eq_some_iff.1 HP.out).1
        clear hz
        go_wp2_with fail
        go_region_law ((refine step_own (by rfl) _ _ 31 (by rfl) W1.heap.size g i c 1 (turnTo K nonce b i) [z] _ (by rfl) (by rfl) (by exact (HO.out.alloc _).drew) (by exact src_bytes (w := (wr.alloc (.cells #[.int .u8 (z.toNat : Int)] 5)).drew) (l := [z]) (by exact BytesAt.one wr z _ rfl) 1 (fun h => by cases h)) (by omega) (by show W1.heap.size ≤ (wr.alloc _).heap.size; simp <;> omega) ?_; intro g7 c7 W7 hown7 hgr7 hg7))
        all_goals
          have HO7 : Hid (Own W7 W1.heap.size g7 (i + 1) c7 (turnTo K nonce b (i + 1))) := by show Own _ _ _ _ _ _; rw [HZ.out]; exact hown7
          have hgr8 : (wr.alloc (.cells #[.int .u8 (z.toNat : Int)] 5)).drew.grownBy W7 (some g) := hgr7
          have HB7 : Hid (Below W1.heap.size W1 W7) := ((HO.out.alloc _).drew).grown ((HB.out.alloc hzz _).drew) (by show W1.heap.size ≤ (wr.alloc _).heap.size; simp <;> omega) hgr8
          have HP7 : Hid (W7.heap[W1.heap.size + 1]? = some (.cells (bcs pc) 54 (0, 0))) := by
            show _ = _
            rw [hgr8.block (W1.heap.size + 1) (by show _ < (wr.alloc _).heap.size; simp <;> omega) (fun e => HNE.out (by cases e; rfl))]
            show (wr.alloc _).heap[W1.heap.size + 1]? = _
            rw [Below.heap_alloc wr _ _ hzP]; exact HP.out
          have HN7 : Hid (g7 ≠ W1.heap.size + 1) := by
            have h1 := HNE.out
            show _ ≠ _
            rcases hg7 with h | h
            · omega
            · have h2 : (wr.alloc (.cells #[.int .u8 (z.toNat : Int)] 5)).drew.heap.size = wr.heap.size + 1 := by show (wr.alloc _).heap.size = _; simp
              rw [h2] at h; omega
          clear hown7 hgr7 hgr8 hg7
          go_wp2_with fail
          go_roundw
          case rel => exact ⟨i + 1, g7, c7, pc, by omega, by go_num, rfl, HN7, HCL, HPCN, HO7, HP7, HB7⟩
          case measure => simp [intOf]; omega
    · obtain rfl : i = b.length := by omega
      have hO := HO.out
      rw [← HEN.out] at hO
      have HOO := hid hO
      clear hO HO
      go_wp2_with fail
      go_ret
      exact ⟨⟨g, c, rfl, HOO.out.mono hz1⟩, HB1.out.trans (HB.out.mono hz1)⟩

end Go.Proofs.YtggbianodoneeaaDoor
