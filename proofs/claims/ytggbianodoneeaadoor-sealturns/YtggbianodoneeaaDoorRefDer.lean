
/- What the reference's Derive does. -/
import Derived.Test.YtggbianodoneeaaDoorDerive
namespace Go.Proofs.YtggbianodoneeaaDoor
open Go.RowKit
set_option linter.unusedSimpArgs false
set_option linter.unusedVariables false

theorem Own.zero (w : World) (b : Nat) (hb : b ≤ w.heap.size) : Own (w.alloc (.cells #[] 5)) b w.heap.size 0 0 [] := Own.of_own (own_zero w b hb)
theorem Own.other {w w' : World} {b g g2 n cap : Nat} {l : List UInt8} (h : Own w b g n cap l) (hg : w.grownBy w' (some g2)) (hne : g ≠ g2) : Own w' b g n cap l := h.kept (hg.block g h.lt (fun e => hne (by cases e; rfl)))
theorem tags_next (key label : List UInt8) (n k j : Nat) (h1 : 32 * k + j ≤ n) (h2 : j = 32 ∨ 32 * k + j = n) (hj : j ≤ 32) : tags key label k ++ (hmac key (msg label (k + 1))).take j = (tags key label (k + 1)).take n := by
  rw [tags, List.take_append, tags_len, List.take_of_length_le (l := tags key label k) (by rw [tags_len]; omega)]
  congr 1
  rcases h2 with h2 | h2
  · rw [List.take_of_length_le (by rw [hmac_len]; omega), List.take_of_length_le (by rw [hmac_len]; omega)]
  · rw [show n - 32 * k = j from by omega]
theorem take_snoc (l : List UInt8) (j : Nat) (h : j < l.length) : l.take (j + 1) = l.take j ++ [l.getD j 0] := by
  rw [List.take_succ_eq_append_getElem h, List.getD_eq_getElem?_getD, List.getElem?_eq_getElem h]; rfl

set_option maxRecDepth 100000 in
set_option maxHeartbeats 4000000 in
theorem refDer_any (key : List UInt8) (s : ByteArray) (n : Nat) (hn : n ≤ 1024) (A : Option Addr) (cap : Nat) (w : World) (hA : BytesAt w A key) (hlen : key.length ≤ 100000) (hls : s.size ≤ 50000) :
    Calls Tryd.prog 15 #[.slice A key.length cap, .string s, .int .i64 (n : Int)] w fun e w' => (∃ g c, e = .returned (.slice (some ⟨g, 0, none⟩) n c) ∧ Own w' w.heap.size g n c (drv key s.data.toList n)) ∧ Below w.heap.size w w' := by
  have HA := hid hA
  have HSL := hid (ba_len s)
  have HOF : Hid (∀ (b : List UInt8) W B c, b.length ≤ 100000 → BytesAt W A key → BytesAt W B b → Calls Tryd.prog 31 #[.slice A key.length cap, .slice B b.length c] W fun e w' => e = .returned (.agg (bcs (hmac key b))) ∧ Below W.heap.size W w') := fun b W B c h0 h2 h3 => refMac_any key b A B cap c W h2 h3 hlen h0
  have HML := hid (msg_len s.data.toList)
  have HNEXT := hid (tags_next key s.data.toList n)
  have HEND := hid (tags_take key s.data.toList n)
  have HTG := hid (tags_len key s.data.toList)
  have HT0 : Hid (tags key s.data.toList 0 = []) := rfl
  generalize drv key s.data.toList n = D at HEND ⊢
  generalize tags key s.data.toList = TG at HNEXT HEND HTG HT0
  clear hA
  go_enter Tryd.func15, Tryd.ntmps15
  go_wp2_with fail
  go_loopw [7, 8] (fun ov iv wx => ∃ (k m g c : Nat), k ≤ 32 ∧ 32 * k < n + 32 ∧ iv = .int .i64 ((k + 1 : Nat) : Int) ∧ Hid (m = min n (32 * k)) ∧ ov = .slice (some ⟨g, 0, none⟩) m c ∧ Hid (Own wx w.heap.size g m c ((TG k).take n)) ∧ Hid (Below w.heap.size w wx)) (fun _ iv _ => 100 - (intOf iv).toNat)
  case atStart => exact ⟨0, 0, w.heap.size, 0, by omega, by omega, rfl, (by show _ = _; omega), rfl, (by show Own _ _ _ _ _ _; rw [HT0.out, List.take_nil]; exact Own.zero w _ (Nat.le_refl _)), (Below.refl _ _).alloc (Nat.le_refl _) _⟩
  case round =>
    obtain ⟨k, m, g, c, hk1, hk2, rfl, HM, rfl, HO, HB⟩ := hrel
    by_cases hlt : 32 * k < n
    · have hm : m = 32 * k := by rw [HM.out]; omega
      have hO := HO.out
      rw [List.take_of_length_le (by rw [HTG.out]; omega), hm] at hO
      have HO1 := hid hO
      clear hO HO HM
      subst hm
      have hl1 : 32 * (k : Int) < (n : Int) := by omega
      have hl2 : ((k : Int) + 1) < 64 := by omega
      have hw : IntKind.u8.wrap ((k : Int) + 1) = (k : Int) + 1 := by rw [IntKind.wrap_u8]; omega
      have HOM : Hid (∀ W B c, BytesAt W A key → BytesAt W B (msg s.data.toList (k + 1)) → Calls Tryd.prog 31 #[.slice A key.length cap, .slice B (s.size + 2) c] W fun e w' => e = .returned (.agg (bcs (hmac key (msg s.data.toList (k + 1))))) ∧ Below W.heap.size W w') := fun W B c h2 h3 => by
        have := HOF.out (msg s.data.toList (k + 1)) W B c (by rw [HML.out, HSL.out]; omega) h2 h3
        rw [HML.out, HSL.out] at this
        exact this
      have HHL := hid (hmac_len key (msg s.data.toList (k + 1)))
      have HNX := hid (HNEXT.out k)
      have HMD : Hid (msg s.data.toList (k + 1) = s.data.toList ++ [0, UInt8.ofNat (k + 1)]) := rfl
      have HK8 : Hid ((UInt8.ofNat (k + 1)).toNat = k + 1) := by show _ = _; rw [UInt8.toNat_ofNat', Nat.mod_eq_of_lt (by omega)]
      have HBT : Hid (∀ W : World, BytesAt (W.alloc (.cells #[.int .u8 0, .int .u8 ((k : Int) + 1)] 5)) (some ⟨W.heap.size, 0, none⟩) [0, UInt8.ofNat (k + 1)]) := fun W => BytesAt.of_row (l := [0, UInt8.ofNat (k + 1)]) (t := 5) (fr := (0, 0)) (by rw [heap_alloc_new]; simp only [bcs, List.map_cons, List.map_nil, HK8.out]; rfl)
      have hgl := HO1.out.lt
      have hbs := HB.out.size
      go_wp2_with (first
        | (refine wpList_own rfl (.tmp 23) (.tmp 24) 9 rfl w.heap.size wr.heap.size 0 0 s.size [] s.data.toList _ rfl rfl (Own.zero wr _ hbs) (src_text _ s) (by omega) (by simp; omega) ?_; intro g1 c1 W1 hown1 hgr1 hg1;
           have HX1 : Hid (Own W1 w.heap.size g1 s.size c1 s.data.toList) := by have := hown1; rw [Nat.zero_add, List.nil_append] at this; exact this
           have HO2 : Hid (Own W1 w.heap.size g (32 * k) c (TG k)) := (HO1.out.alloc _).other hgr1 (by omega)
           have HB1 : Hid (Below w.heap.size w W1) := (Own.zero wr w.heap.size hbs).grown (HB.out.alloc hbs _) (by simp; omega) hgr1
           have hz1 : wr.heap.size + 1 ≤ W1.heap.size := by have := hgr1.size; simp at this; exact this
           have hg1' : wr.heap.size ≤ g1 := by rcases hg1 with h | h <;> (try simp at h) <;> omega
           clear hown1 hgr1 hg1)
        | (refine wpList_own rfl (.tmp 25) (.tmp 28) 31 rfl w.heap.size g1 s.size c1 2 s.data.toList [0, UInt8.ofNat (k + 1)] _ rfl rfl (HX1.out.alloc _) (src_bytes (l := [0, UInt8.ofNat (k + 1)]) (HBT.out _) 2 (fun h => by cases h)) (by omega) (by simp; omega) ?_; intro g2 c2 W2 hown2 hgr2 hg2;
           have HX2 : Hid (Own W2 w.heap.size g2 (s.size + 2) c2 (msg s.data.toList (k + 1))) := hown2
           have HO3 : Hid (Own W2 w.heap.size g (32 * k) c (TG k)) := (HO2.out.alloc _).other hgr2 (by omega)
           have HB2 : Hid (Below w.heap.size w W2) := (HX1.out.alloc _).grown (HB1.out.alloc (by omega) _) (by simp; omega) hgr2
           clear hown2 hgr2 hg2))
      refine (HOM.out _ _ _ (HA.out.below HB2.out (Nat.le_refl _)) HX2.out.bytes).mono ?_
      rintro e W3 ⟨rfl, hb3⟩
      have HO4 := hid (HO3.out.below hb3 (Nat.le_refl _))
      have HB3 := hid (HB2.out.trans (hb3.mono HB2.out.size))
      clear hb3 HX1 HX2 HO1 HO2 HO3 HB HB1 HB2 HOM HMD HK8
      generalize hmac key (msg s.data.toList (k + 1)) = T at HHL HNX ⊢
      go_wp2_with (refine wpList_store_abs rfl 54 (.tmp 9) (.tmp 30) rfl W3.heap.size 0 (bcs T) rfl rfl 54 _ (heap_alloc_new W3 _) (by rw [bcs_size, HHL.out]; exact Nat.le_refl 32) (size24' T HHL.out) (bvs_one T) ?_; intro W4 hO4 hW4)
      rw [over_bytes _ T (by rw [HHL.out]; rfl)] at hW4
      have HT4 := hid hW4
      have hg4 := HO4.out.lt
      have HO5 : Hid (Own W4 w.heap.size g (32 * k) c (TG k)) := (HO4.out.alloc _).kept (hO4.block _ (by omega))
      have HB4 : Hid (Below w.heap.size w W4) := (HB3.out.alloc HB3.out.size _).trans (hO4.below HB3.out.size)
      have hgP : g ≠ W3.heap.size := by omega
      clear hO4 hW4 HO4 HB3
      generalize W3.heap.size = P at HT4 hgP ⊢
      go_wp2_with fail
      have HLT := hid hlt
      clear hlt hl1 hl2 hw hz1 hg1' hgl hbs hg4
      go_loopw [7, 10] (fun ov jv wx => ∃ (j g c : Nat), j ≤ 32 ∧ 32 * k + j ≤ n ∧ jv = .int .i64 (j : Int) ∧ ov = .slice (some ⟨g, 0, none⟩) (32 * k + j) c ∧ Hid (g ≠ P) ∧ Hid (Own wx w.heap.size g (32 * k + j) c (TG k ++ T.take j)) ∧ Hid (wx.heap[P]? = some (.cells (bcs T) 54 (0, 0))) ∧ Hid (Below w.heap.size w wx)) (fun _ jv _ => 32 - (intOf jv).toNat)
      case atStart => exact ⟨0, g, c, by omega, (by have := HLT.out; omega), rfl, rfl, hgP, (by show Own _ _ _ _ _ _; rw [List.take_zero, List.append_nil]; exact HO5.out), HT4, HB4⟩
      case round =>
        clear HO5 HT4 HB4 hgP
        obtain ⟨j, g', c', hj1, hj2, rfl, rfl, HNE, HOI, HTI, HBI⟩ := hrel
        have HJN : Hid ((j = 32 ∨ 32 * k + j = n) → TG k ++ T.take j = (TG (k + 1)).take n) := fun h => HNX.out j hj2 h hj1
        by_cases hj32 : j < 32
        · by_cases hjn : 32 * k + j < n
          · have hl3 : 32 * (k : Int) + (j : Int) < (n : Int) := by omega
            obtain ⟨x, hx⟩ : ∃ x, Hid (x = T.getD j 0) := ⟨_, rfl⟩
            have cx : wr.cell? ⟨P, j, none⟩ = some (.int .u8 x.toNat) := by rw [cell_of_row _ _ _ _ _ _ HTI.out, bcs_at _ _ (by rw [HHL.out]; exact hj32), hx.out]
            have HSN : Hid (TG k ++ T.take (j + 1) = TG k ++ T.take j ++ [x]) := by show _ = _; rw [take_snoc T j (by rw [HHL.out]; exact hj32), hx.out, List.append_assoc]
            have hbs := HBI.out.size
            have hPl : P < wr.heap.size := (Array.getElem?_eq_some_iff.1 HTI.out).1
            go_wp2_with (refine wpList_own rfl (.tmp 41) (.tmp 45) 31 rfl w.heap.size g' (32 * k + j) c' 1 (TG k ++ T.take j) [x] _ rfl rfl (HOI.out.alloc _) (src_bytes (l := [x]) (BytesAt.one wr x _ rfl) 1 (fun h => by cases h)) (by omega) (by simp; omega) ?_; intro g2 c2 W2 hown2 hgr2 hg2)
            have HX2 : Hid (Own W2 w.heap.size g2 (32 * k + j + 1) c2 (TG k ++ T.take (j + 1))) := by show Own _ _ _ _ _ _; rw [HSN.out]; exact hown2
            have HB2 : Hid (Below w.heap.size w W2) := (HOI.out.alloc _).grown (HBI.out.alloc hbs _) (by simp; omega) hgr2
            have HT2 : Hid (W2.heap[P]? = some (.cells (bcs T) 54 (0, 0))) := by
              show _ = _
              rw [hgr2.block P (by simp; omega) (fun e => HNE.out (by cases e; rfl)), Below.heap_alloc wr _ _ hPl]; exact HTI.out
            have HN2 : Hid (g2 ≠ P) := by
              have := HNE.out
              show _ ≠ _
              rcases hg2 with h | h
              · omega
              · simp at h; omega
            clear hown2 hgr2 hg2 cx hl3
            go_wp2_with fail
            go_roundw
            case rel => exact ⟨j + 1, g2, c2, by omega, by omega, by go_num, (by first | rfl | simp [Nat.add_assoc]), HN2, (by have := HX2.out; exact this), HT2, HB2⟩
            case measure => simp [intOf]; omega
          · have hjn2 : 32 * k + j = n := by omega
            have hl3 : ¬ (32 * (k : Int) + (j : Int) < (n : Int)) := by omega
            have hO := HOI.out
            rw [HJN.out (.inr hjn2)] at hO
            have HOO := hid hO
            clear hO HOI
            have HHH := hid hjn2
            clear hjn2
            go_wp2_with fail
            go_roundw
            case rel => exact ⟨k + 1, 32 * k + j, g', c', (by have := HLT.out; omega), (by have := HLT.out; omega), by go_num, (by have := HHH.out; show _ = _; omega), rfl, HOO, HBI⟩
            case measure => simp [intOf]; omega
        · have hj : j = 32 := by omega
          have hO := HOI.out
          rw [HJN.out (.inl hj)] at hO
          have HOO := hid hO
          clear hO HOI
          go_wp2_with fail
          go_roundw
          case rel => exact ⟨k + 1, 32 * k + j, g', c', (by have := HLT.out; omega), (by have := HLT.out; omega), by go_num, (by show _ = _; omega), rfl, HOO, HBI⟩
          case measure => simp [intOf]; omega
    · have hm : m = n := by rw [HM.out]; omega
      have hO := HO.out
      rw [HEND.out k (by omega), hm] at hO
      have HOO := hid hO
      clear hO HO HM
      subst hm
      go_wp2_with fail
      go_ret
      exact ⟨⟨g, c, rfl, HOO.out⟩, HB.out⟩

end Go.Proofs.YtggbianodoneeaaDoor
