
/- What SealTurns does at every input. -/
import Derived.Test.YtggbianodoneeaaDoorLight
import Derived.Test.YtggbianodoneeaaDoorOpenLaw
import Derived.Deep.RegionHeld3
namespace Go.Proofs.YtggbianodoneeaaDoor
open Go.RowKit
set_option linter.unusedSimpArgs false
set_option linter.unusedVariables false

theorem bounds_u16 {z : Int} (h : (Lit.int .u16 z).wf = true) : 0 ≤ z ∧ z ≤ 65535 := by
  simp [Lit.wf, IntKind.min, IntKind.max, IntKind.signed, IntKind.bits] at h
  omega
/-- Open of bytes that may be long enough: bad, or not, as its tag says. -/
theorem open_told (key t : List UInt8) (s : ByteArray) (A1 : Option Addr) (q o c1 c2 : Nat) (w : World) (hT : TabS w) (hA1 : BytesAt w A1 key) (hA2 : BytesAt w (some ⟨q, o, none⟩) t) (hc1 : key.length ≤ c1) (hl1 : key.length ≤ 100000) (hc2 : t.length ≤ c2) (hls : s.size ≤ 256) (ht1 : 48 ≤ t.length) (ht2 : t.length ≤ 4144) (E : Int) (hE : E = if tagB key s.data.toList (t.take (t.length - 32)) = t.drop (t.length - 32) then 0 else 11) :
    Calls Tryd.prog 21 #[.slice A1 key.length c1, .string s, .slice (some ⟨q, o, none⟩) t.length c2] w fun e w' => (∃ v, e = .returned (.tuple #[v, .int .i64 E])) ∧ Below w.heap.size w w' := by
  refine (open_mid key t s A1 q o c1 c2 w hT hA1 hA2 hc1 hl1 hc2 hls ht1 ht2).mono ?_
  rintro e w' ⟨h | h, hb⟩
  · rw [if_neg (fun e => h.1 e.symm)] at hE
    exact ⟨⟨_, by rw [h.2, hE]⟩, hb⟩
  · obtain ⟨he, O, rfl, _, _⟩ := h
    rw [if_pos he.symm] at hE
    exact ⟨⟨_, by rw [hE]⟩, hb⟩

set_option maxRecDepth 100000 in
set_option maxHeartbeats 8000000 in
theorem turns_law (a0 : Option Addr) (len0 cap0 : Nat) (z0 : List Int) (nonce : List UInt8) (s : ByteArray) (a1 : Option Addr) (len1 cap1 : Nat) (z1 : List Int) (bit : Int) (w : World) (h0 : IsRow .u8 w a0 len0 cap0 z0) (hn : nonce.length = 16) (h1 : IsRow .u8 w a1 len1 cap1 z1) (hbit : (Lit.int .u16 bit).wf = true) (hT : TabS w) :
    Calls Tryd.prog 7 #[.slice a0 len0 cap0, .agg (inC nonce s (.slice a1 len1 cap1)), .int .u16 bit] w fun e w' => e = .returned (.bool true) ∧ Below w.heap.size w w' := by
  have HAW := hid awake4_any
  have HT := hid hT
  have hT1 := hT.lt
  have hm1 := h1.len
  unfold maxLen at hm1
  obtain ⟨key, rfl, hc0, hA⟩ := row_at h0 (by omega)
  obtain ⟨b, rfl, hc1, hB⟩ := row_at h1 (by omega)
  have HA := hid hA
  have HB := hid hB
  have HN := hid hn
  have HLI : Hid (∀ W t, t = decide (key.length ≤ 500 ∧ s.size ≤ 600 ∧ b.length ≤ 6000) → Calls Tryd.prog 16 #[.slice a0 key.length cap0, .agg (inC nonce s (.slice a1 b.length cap1))] W fun e w' => e = .returned (.bool t) ∧ Below W.heap.size W w') := fun W t ht => light_any a0 key.length cap0 nonce hn s a1 b.length cap1 W t ht
  have HCL : Hid (∀ {W : World} {g : Nat}, W.heap[g]? = some (.cells (inC nonce s (.slice a1 b.length cap1)) 40 (0, 0)) → W.rangeAt g 0 (bvs nonce) ∧ W.cell? ⟨g, 16, none⟩ = some (.string s) ∧ W.cell? ⟨g, 17, none⟩ = some (.slice a1 b.length cap1)) := fun h => ⟨in_range h, in_label hn h, in_bytes hn h⟩
  have HSI := hid (sizeIn' nonce hn s (.slice a1 b.length cap1))
  have HB0 : Hid (∀ o1, Below w.heap.size w (w.alloc o1)) := fun o1 => (Below.refl _ _).alloc (Nat.le_refl _) o1
  have hu38 := Tryd.underlying38
  have hi38 : (Tryd.prog.info? 38).map (·.size) = some (bvs nonce).length := by rw [size44, bvs_len, hn]
  have HNV : Hid (bcs nonce = (bvs nonce).toArray) := bcs_eq nonce
  have hbt : 0 ≤ bit ∧ bit ≤ 65535 := by
    exact bounds_u16 hbit
  obtain ⟨bt, rfl⟩ : ∃ n : Nat, bit = (n : Int) := ⟨bit.toNat, by omega⟩
  generalize hC : inC nonce s (.slice a1 b.length cap1) = C at HLI HCL HSI ⊢
  clear hT h0 h1 hA hB hn hC hbit
  generalize bvs nonce = NV at HCL hi38 HNV
  by_cases hlight : key.length ≤ 500 ∧ s.size ≤ 600 ∧ b.length ≤ 6000
  case neg =>
    have HL0 := hid (fun W => HLI.out W false (by simp [hlight]))
    clear hlight HLI
    go_enter Tryd.func7, Tryd.ntmps7
    go_wp2_with (refine wpList_load_row rfl 40 (.tmp 4) rfl w.heap.size rfl 40 C (0, 0) _ (heap_alloc_new w _) Tryd.underlying40 rfl HSI.out ?_)
    refine (HL0.out _).mono ?_
    rintro e W1 ⟨rfl, hb1⟩
    have HB1 := hid ((HB0.out _).trans (hb1.mono (by simp)))
    clear hb1
    go_wp2_with fail
    refine (HAW.out _ (HT.out.below HB1.out hT1)).mono ?_
    rintro e W2 ⟨rfl, hb2⟩
    go_wp2_with fail
    go_ret
    exact ⟨rfl, HB1.out.trans (hb2.mono HB1.out.size)⟩
  case pos =>
    have HL0 := hid (fun W => HLI.out W true (by simp [hlight]))
    obtain ⟨hk5, hs6, hb6⟩ := hlight
    clear HLI
    by_cases hbad : 256 < s.size ∨ 4096 < b.length
    · have HSE : Hid (∀ W A m A' c c', Calls Tryd.prog 18 #[.slice A m c, .agg NV.toArray, .string s, .slice A' b.length c'] W fun e w' => e = .returned (.tuple #[.slice none 0 0, .int .i64 3]) ∧ Below W.heap.size W w') := fun W A m A' c c' => by rw [← HNV.out]; exact seal_bad nonce s A A' m c b.length c' W hbad
      clear hbad
      go_enter Tryd.func7, Tryd.ntmps7
      go_wp2_with (refine wpList_load_row rfl 40 (.tmp 4) rfl w.heap.size rfl 40 C (0, 0) _ (heap_alloc_new w _) Tryd.underlying40 rfl HSI.out ?_)
      refine (HL0.out _).mono ?_
      rintro e V ⟨rfl, hb1⟩
      have HM : Hid (V.heap[w.heap.size]? = some (.cells C 40 (0, 0))) := (hb1.block _ (by simp)).trans (heap_alloc_new w _)
      have HBV := hid ((HB0.out _).trans (hb1.mono (by simp)))
      clear hb1
      obtain ⟨hr1, hs1, hb1⟩ := HCL.out HM.out
      have HR1 := hid hr1
      clear hr1
      go_wp2_with (refine wpList_load_mid rfl 38 (.tmp 23) rfl w.heap.size 0 rfl NV _ HR1.out hu38 rfl hi38 ?_)
      refine (HSE.out _ _ _ _ _ _).mono ?_
      rintro e W2 ⟨rfl, hb2⟩
      have HB2 := hid (HBV.out.trans (hb2.mono HBV.out.size))
      clear hb2 hs1 hb1
      go_wp2_with fail
      refine (HAW.out _ (HT.out.below HB2.out hT1)).mono ?_
      rintro e W3 ⟨rfl, hb3⟩
      go_wp2_with fail
      go_ret
      exact ⟨rfl, HB2.out.trans (hb3.mono HB2.out.size)⟩
    · have hs256 : s.size ≤ 256 := by omega
      have hb4096 : b.length ≤ 4096 := by omega
      have HSE : Hid (∀ W A A' c c', TabS W → BytesAt W A key → key.length ≤ c → BytesAt W A' b → b.length ≤ c' → Calls Tryd.prog 18 #[.slice A key.length c, .agg NV.toArray, .string s, .slice A' b.length c'] W fun e w' => (∃ g c, e = .returned (.tuple #[.slice (some ⟨g, 0, none⟩) (b.length + 48) c, .int .i64 0]) ∧ Own w' W.heap.size g (b.length + 48) c (sealB key nonce s.data.toList b)) ∧ Below W.heap.size W w') := fun W A A' c c' h1 h2 h3 h4 h5 => by rw [← HNV.out]; exact seal_any key nonce b HN.out s A A' c c' W h1 h2 h4 h3 (by omega) h5 hs256 hb4096
      have HDL : Hid ((sealB key nonce s.data.toList b).length = b.length + 48) := by show _ = _; rw [sealB_len, HN.out]; omega
      obtain ⟨n, hn32⟩ : ∃ n, b.length + 48 = n + 32 := ⟨b.length + 16, by omega⟩
      rw [hn32] at HSE HDL
      have hn16 : 16 ≤ n := by omega
      have hn4112 : n ≤ 4112 := by omega
      clear hn32
      generalize sealB key nonce s.data.toList b = D at HSE HDL
      clear hbad
      go_enter Tryd.func7, Tryd.ntmps7
      go_wp2_with (refine wpList_load_row rfl 40 (.tmp 4) rfl w.heap.size rfl 40 C (0, 0) _ (heap_alloc_new w _) Tryd.underlying40 rfl HSI.out ?_)
      refine (HL0.out _).mono ?_
      rintro e V ⟨rfl, hb1⟩
      have HM : Hid (V.heap[w.heap.size]? = some (.cells C 40 (0, 0))) := (hb1.block _ (by simp)).trans (heap_alloc_new w _)
      have HBV := hid ((HB0.out _).trans (hb1.mono (by simp)))
      have hzV : w.heap.size < V.heap.size := (Array.getElem?_eq_some_iff.1 HM.out).1
      clear hb1
      have HTW : Hid (∀ W, Below V.heap.size V W → TabS W) := fun W h => (HT.out.below HBV.out hT1).below h (by omega)
      have HKW : Hid (∀ W, Below V.heap.size V W → BytesAt W a0 key) := fun W h => (HA.out.below HBV.out (Nat.le_refl _)).below h (Nat.le_refl _)
      have HLW : Hid (∀ W, Below V.heap.size V W → W.cell? ⟨w.heap.size, 16, none⟩ = some (.string s)) := fun W h => (HCL.out ((h.block _ hzV).trans HM.out)).2.1
      obtain ⟨hr1, hs1, hb1⟩ := HCL.out HM.out
      have HR1 := hid hr1
      clear hr1
      go_wp2_with (refine wpList_load_mid rfl 38 (.tmp 23) rfl w.heap.size 0 rfl NV _ HR1.out hu38 rfl hi38 ?_)
      refine (HSE.out _ _ _ _ _ (HTW.out _ (Below.refl _ _)) (HKW.out _ (Below.refl _ _)) hc0 (HB.out.below HBV.out (Nat.le_refl _)) hc1).mono ?_
      rintro e W2 ⟨⟨g, c, rfl, ho2⟩, hb2⟩
      have HV2 := hid hb2
      have HO2 := hid ho2
      have hcl := ho2.le
      have hgV := ho2.ge
      have hz2 := hb2.size
      clear hb2 ho2 hs1 hb1 HSE
      obtain ⟨i, hi⟩ : ∃ i, i = bt % (8 * (n + 32)) := ⟨_, rfl⟩
      have hlt8 : i < 8 * (n + 32) := by rw [hi]; exact Nat.mod_lt _ (by omega)
      have m1 : (bt : Int).tmod (8 * ((n : Int) + 32)) = (i : Int) := by
        rw [Int.tmod_eq_emod_of_nonneg (by omega), hi, show 8 * ((n : Int) + 32) = ((8 * (n + 32) : Nat) : Int) from by omega]
        exact (Int.natCast_emod _ _).symm
      have m0 : ¬ (8 * ((n : Int) + 32) = 0) := by omega
      obtain ⟨j, hj⟩ : ∃ j, j = i / 8 := ⟨_, rfl⟩
      obtain ⟨r, hr⟩ : ∃ r, r = i % 8 := ⟨_, rfl⟩
      have m2 : (i : Int).tdiv 8 = (j : Int) := by rw [Int.tdiv_eq_ediv_of_nonneg (by omega)]; omega
      have m3 : (i : Int) / 8 = (j : Int) := by omega
      have m4 : (i : Int).tmod 8 = (r : Int) := by rw [Int.tmod_eq_emod_of_nonneg (by omega)]; omega
      have m5 : (i : Int) % 8 = (r : Int) := by omega
      have hj48 : j < n + 32 := by omega
      have hr8 : r < 8 := by omega
      have hr8' : (r : Int) < 8 := by omega
      clear hi hj hr
      have h48 : ¬ ((n : Int) + 32 < 48) := by omega
      obtain ⟨x, hx⟩ : ∃ x, Hid (x = D.getD j 0) := ⟨_, rfl⟩
      obtain ⟨y, hy⟩ : ∃ y : UInt8, bits .xor .u8 (x.toNat : Int) (2 ^ r % 256) = (y.toNat : Int) := by
        have e1 : ((2 : Int) ^ r % 256) = ((UInt8.ofNat (2 ^ r % 256)).toNat : Int) := by
          rw [UInt8.toNat_ofNat', Nat.mod_mod]
          exact (Int.natCast_emod (2 ^ r) 256).symm ▸ by simp
        rw [e1]
        exact ⟨_, u8_xor x _⟩
      go_wp2_with (first
        | (refine wpList_own rfl (.tmp 38) (.tmp 39) 31 rfl W2.heap.size W2.heap.size 0 0 (n + 32) [] D _ rfl rfl (Own.zero W2 _ (Nat.le_refl _)) (by have := src_bytes (HO2.out.alloc (.cells #[] 5)).bytes c (fun _ => opt_any _); rw [HDL.out] at this; exact this) (by omega) (by simp) ?_; intro g3 c3 W3 hown3 hgr3 hg3;
           have HO3 : Hid (Own W3 W2.heap.size g3 (n + 32) c3 D) := by have := hown3; rw [Nat.zero_add, List.nil_append] at this; exact this
           have HB3 : Hid (Below W2.heap.size W2 W3) := (Own.zero W2 W2.heap.size (Nat.le_refl _)).grown ((Below.refl _ _).alloc (Nat.le_refl _) _) (by simp) hgr3
           have hc3 := HO3.out.le
           have cx : W3.cell? ⟨g3, j, none⟩ = some (.int .u8 x.toNat) := by
             obtain ⟨q, o, e, hq, hc⟩ := HO3.out.bytes (by rw [HDL.out]; omega)
             cases e
             have := hc j (by rw [HDL.out]; exact hj48)
             rw [Nat.zero_add] at this
             rw [this, hx.out]
           have fx : W3.frozen? ⟨g3, j, none⟩ = false := (HO3.out.cell j (by omega)).2
           clear hown3 hgr3 hg3))
      have HTL : Hid ((D.set j y).length = n + 32) := by show _ = _; rw [List.length_set]; exact HDL.out
      have HO4 : Hid (Own (W3.setCell ⟨g3, j, none⟩ (.int .u8 (y.toNat : Int))) W2.heap.size g3 (n + 32) c3 (D.set j y)) := HO3.out.set j hj48 y
      have HB4 : Hid (Below W2.heap.size W2 (W3.setCell ⟨g3, j, none⟩ (.int .u8 (y.toNat : Int)))) := Below.setCell (p := ⟨g3, j, none⟩) HB3.out HO3.out.ge _
      generalize W3.setCell ⟨g3, j, none⟩ (.int .u8 (y.toNat : Int)) = W4 at HO4 HB4 ⊢
      generalize D.set j y = T at HTL HO4
      clear cx fx hx hy HO3 HB3
      have HTG : Hid (∀ (ls : ByteArray) (L : List UInt8) (q cc : Nat) W, ls.size ≤ 256 → L.length = n + 32 → BytesAt W a0 key → BytesAt W (some ⟨q, 0, none⟩) L → Calls Tryd.prog 23 #[.slice a0 key.length cap0, .string ls, .slice (some ⟨q, 0, none⟩) (n) cc] W fun e w' => (∃ g c, e = .returned (.slice (some ⟨g, 0, none⟩) 32 c) ∧ (convert 31 9 (.slice (some ⟨g, 0, none⟩) 32 c)).run Tryd.prog w' = .ok (.string ⟨(tagB key ls.data.toList (L.take (n))).toArray⟩) w') ∧ Below W.heap.size W w') := fun ls L q cc W h1 h2 h3 h4 => by
        have hL : (L.take (n)).length = n := by rw [List.length_take, h2]; omega
        have := refTag_any key ls (L.take (n)) a0 (some ⟨q, 0, none⟩) cap0 cc W h3 (h4.take _) (by omega) (by rw [hL]; omega) h1
        rw [hL] at this
        refine this.mono ?_
        rintro e w' ⟨⟨g, c, rfl, ho⟩, hb⟩
        exact ⟨⟨g, c, rfl, str_row ho.bytes (tagB_len _ _ _)⟩, hb⟩
      have HSP : Hid (∀ (L : List UInt8) (q cc : Nat) W, L.length = n + 32 → BytesAt W (some ⟨q, 0, none⟩) L → (convert 31 9 (.slice (some ⟨q, n, none⟩) 32 cc)).run Tryd.prog W = .ok (.string ⟨(L.drop (n)).toArray⟩) W) := fun L q cc W h2 h4 => by
        have hb := h4.part (n) 32 (by omega)
        rw [List.take_of_length_le (by rw [List.length_drop]; omega), Nat.zero_add] at hb
        exact str_part hb (by rw [List.length_drop]; omega)
      have HON : Hid (∀ (ls : ByteArray) (L : List UInt8) (q cc : Nat) W (E : Int), ls.size ≤ 256 → L.length = n + 32 → TabS W → BytesAt W a0 key → BytesAt W (some ⟨q, 0, none⟩) L → n + 32 ≤ cc → E = (if tagB key ls.data.toList (L.take (n)) = L.drop (n) then 0 else 11) → Calls Tryd.prog 21 #[.slice a0 key.length cap0, .string ls, .slice (some ⟨q, 0, none⟩) (n + 32) cc] W fun e w' => (∃ v, e = .returned (.tuple #[v, .int .i64 E])) ∧ Below W.heap.size W w') := fun ls L q cc W E h1 h2 h3 h4 h5 h6 h7 => by
        have hL : L.length - 32 = n := by omega
        have := open_told key L ls a0 q 0 cap0 cc W h3 h4 h5 hc0 (by omega) (by omega) h1 (by omega) (by omega) E (by rw [hL]; exact h7)
        rw [h2] at this
        exact this
      have tn1 : (n : Int) ≤ (c3 : Int) := by omega
      have tn5 : (n : Int) ≤ (c : Int) := by omega
      have tn3 : ¬ c3 = n := by omega
      have tn6 : ¬ c = n := by omega
      have HV4 : Hid (∀ W, Below W4.heap.size W4 W → Below V.heap.size V W) := fun W h => (HV2.out.trans (HB4.out.mono hz2)).trans (h.mono (Nat.le_trans hz2 HB4.out.size))
      have HG4 : Hid (∀ W, Below W4.heap.size W4 W → BytesAt W (some ⟨g3, 0, none⟩) T) := fun W h => HO4.out.bytes.below h (Nat.le_refl _)
      have HD4 : Hid (∀ W, Below W4.heap.size W4 W → BytesAt W (some ⟨g, 0, none⟩) D) := fun W h => (HO2.out.bytes.below HB4.out (Nat.le_refl _)).below h (Nat.le_refl _)
      obtain ⟨u, hu⟩ : ∃ u, Hid (u = decide (tagB key s.data.toList (T.take (n)) = T.drop (n))) := ⟨_, rfl⟩
      obtain ⟨E, hE⟩ : ∃ E : Int, Hid (E = (if tagB key s.data.toList (T.take (n)) = T.drop (n) then 0 else 11)) := ⟨_, rfl⟩
      have hE1 : (E == 11) = !u := by rw [hE.out, hu.out]; by_cases h : tagB key s.data.toList (T.take (n)) = T.drop (n) <;> simp [h]
      have hE2 : decide (E = 11) = !u := by rw [hE.out, hu.out]; by_cases h : tagB key s.data.toList (T.take (n)) = T.drop (n) <;> simp [h]
      have HON1 := hid (fun W => HON.out s T g3 c3 W E hs256 HTL.out)
      have HHE := hE
      have HTG1 := hid (fun W => HTG.out s T g3 c3 W hs256 HTL.out)
      have HSP1 := hid (fun W => HSP.out T g3 (c3 - (n)) W HTL.out)
      have e0 := str_same (tagB key s.data.toList (T.take (n))) (T.drop (n))
      rw [← hu.out] at e0
      clear hu
      generalize (⟨(tagB key s.data.toList (T.take (n))).toArray⟩ : ByteArray) = X at HTG1 e0
      generalize (⟨(T.drop (n)).toArray⟩ : ByteArray) = Y at HSP1 e0
      have s1 := HSP1.out W4.drew (HG4.out _ (below_drewN _ _ 1))
      have cl := HLW.out W4 (HV4.out _ (Below.refl _ _))
      have HTC : Hid (Calls Tryd.prog 23 #[.slice a0 key.length cap0, .string s, .slice (some ⟨g3, 0, none⟩) n c3] W4.drew fun e w' => (∃ g c, e = .returned (.slice (some ⟨g, 0, none⟩) 32 c) ∧ (convert 31 9 (.slice (some ⟨g, 0, none⟩) 32 c)).run Tryd.prog w' = .ok (.string X) w') ∧ (convert 31 9 (.slice (some ⟨g3, n, none⟩) 32 (c3 - n))).run Tryd.prog w' = .ok (.string Y) w' ∧ Below W4.heap.size W4 w') := by
        refine (HTG1.out _ (HKW.out _ (HV4.out _ (below_drewN _ _ 1))) (HG4.out _ (below_drewN _ _ 1))).mono ?_
        rintro e w' ⟨h1, hb⟩
        have hb' : Below W4.heap.size W4 w' := (below_drewN _ W4 1).trans hb
        exact ⟨h1, HSP1.out _ (HG4.out _ hb'), hb'⟩
      go_cut [12] (fun v wx => v = .bool u ∧ Hid (Below W4.heap.size W4 wx))
      case first =>
        go_region_with ((go_at_call 23; refine HTC.out.mono ?_; rintro e w9 ⟨⟨g9, c9, rfl, s9⟩, s8, hb9⟩; have HB9 := hid hb9; clear hb9))
        all_goals
          go_wp2_with fail
          go_meet
          case rel => exact ⟨by first | rfl | simp, HB9⟩
      case rest =>
        obtain ⟨rfl, HB5⟩ := hcut
        clear s1 cl HTC HTG1 HSP1 e0
        have cl := HLW.out wc (HV4.out _ HB5.out)
        go_wp2_with fail
        refine (HON1.out _ (HTW.out _ (HV4.out _ HB5.out)) (HKW.out _ (HV4.out _ HB5.out)) (HG4.out _ HB5.out) hc3 HHE.out).mono ?_
        rintro e W6 ⟨⟨v6, rfl⟩, hb6'⟩
        have HB6 : Hid (Below W4.heap.size W4 W6) := HB5.out.trans (hb6'.mono HB5.out.size)
        clear hb6' cl HB5 HON1 HHE
        have cl := HLW.out W6 (HV4.out _ HB6.out)
        have hnu : ((!u) == u) = false := by cases u <;> rfl
        by_cases hl256 : (256 : Int) ≤ (s.size : Int)
        · go_wp2_with fail
          refine (HAW.out _ (HTW.out _ (HV4.out _ HB6.out))).mono ?_
          rintro e W7 ⟨rfl, hb7⟩
          go_wp2_with fail
          go_ret
          exact ⟨rfl, (HBV.out.trans ((HV4.out _ HB6.out).mono (Nat.le_of_lt hzV))).trans (hb7.mono (Nat.le_trans (Nat.le_of_lt hzV) (HV4.out _ HB6.out).size))⟩
        · go_wp2_with fail
          have hs2 : (s ++ (⟨#[120]⟩ : ByteArray)).size ≤ 256 := by
            have e1 : (s ++ (⟨#[120]⟩ : ByteArray)).size = s.size + 1 := by rw [ByteArray.size_append]; rfl
            omega
          generalize s ++ (⟨#[120]⟩ : ByteArray) = s2 at hs2 ⊢
          clear hE1 hE2 hnu
          obtain ⟨u2, hu2⟩ : ∃ u, Hid (u = decide (tagB key s2.data.toList (D.take n) = D.drop n)) := ⟨_, rfl⟩
          obtain ⟨E2, hE2⟩ : ∃ E : Int, Hid (E = (if tagB key s2.data.toList (D.take n) = D.drop n then 0 else 11)) := ⟨_, rfl⟩
          have hF1 : (E2 == 11) = !u2 := by rw [hE2.out, hu2.out]; by_cases h : tagB key s2.data.toList (D.take n) = D.drop n <;> simp [h]
          have hF2 : decide (E2 = 11) = !u2 := by rw [hE2.out, hu2.out]; by_cases h : tagB key s2.data.toList (D.take n) = D.drop n <;> simp [h]
          have hnu2 : ((!u2) != u2) = true := by cases u2 <;> rfl
          have HON2 := hid (fun W => HON.out s2 D g c W E2 hs2 HDL.out)
          have HTG2 := hid (fun W => HTG.out s2 D g c W hs2 HDL.out)
          have HSP2 := hid (fun W => HSP.out D g (c - n) W HDL.out)
          have e0 := str_same (tagB key s2.data.toList (D.take n)) (D.drop n)
          rw [← hu2.out] at e0
          clear hu2 HTG HSP HON
          generalize (⟨(tagB key s2.data.toList (D.take n)).toArray⟩ : ByteArray) = X2 at HTG2 e0
          generalize (⟨(D.drop n).toArray⟩ : ByteArray) = Y2 at HSP2 e0
          have s1 := HSP2.out W6.drew (HD4.out _ (HB6.out.trans (below_drewN _ _ 1)))
          have HTC : Hid (Calls Tryd.prog 23 #[.slice a0 key.length cap0, .string s2, .slice (some ⟨g, 0, none⟩) n c] W6.drew fun e w' => (∃ g c, e = .returned (.slice (some ⟨g, 0, none⟩) 32 c) ∧ (convert 31 9 (.slice (some ⟨g, 0, none⟩) 32 c)).run Tryd.prog w' = .ok (.string X2) w') ∧ (convert 31 9 (.slice (some ⟨g, n, none⟩) 32 (c - n))).run Tryd.prog w' = .ok (.string Y2) w' ∧ Below W4.heap.size W4 w') := by
            refine (HTG2.out _ (HKW.out _ (HV4.out _ (HB6.out.trans (below_drewN _ _ 1)))) (HD4.out _ (HB6.out.trans (below_drewN _ _ 1)))).mono ?_
            rintro e w' ⟨h1, hb⟩
            have hb' : Below W4.heap.size W4 w' := HB6.out.trans ((below_drewN _ W6 1).trans (hb.mono HB6.out.size))
            exact ⟨h1, HSP2.out _ (HD4.out _ hb'), hb'⟩
          go_cut [12] (fun v wx => v = .bool u2 ∧ Hid (Below W4.heap.size W4 wx))
          case first =>
            go_region_with ((go_at_call 23; refine HTC.out.mono ?_; rintro e w9 ⟨⟨g9, c9, rfl, s9⟩, s8, hb9⟩; have HB9 := hid hb9; clear hb9))
            all_goals
              go_wp2_with fail
              go_meet
              case rel => exact ⟨by first | rfl | simp, HB9⟩
          case rest =>
            obtain ⟨rfl, HB7⟩ := hcut
            clear s1 HTC HTG2 HSP2 e0
            go_wp2_with fail
            refine (HON2.out _ (HTW.out _ (HV4.out _ HB7.out)) (HKW.out _ (HV4.out _ HB7.out)) (HD4.out _ HB7.out) hcl hE2.out).mono ?_
            rintro e W8 ⟨⟨v8, rfl⟩, hb8⟩
            have HB8 : Hid (Below W4.heap.size W4 W8) := HB7.out.trans (hb8.mono HB7.out.size)
            clear hb8 HB7 HON2
            go_wp2_with fail
            refine (HAW.out _ (HTW.out _ (HV4.out _ HB8.out))).mono ?_
            rintro e W9 ⟨rfl, hb9⟩
            go_wp2_with fail
            go_ret
            exact ⟨rfl, (HBV.out.trans ((HV4.out _ HB8.out).mono (Nat.le_of_lt hzV))).trans (hb9.mono (Nat.le_trans (Nat.le_of_lt hzV) (HV4.out _ HB8.out).size))⟩

end Go.Proofs.YtggbianodoneeaaDoor
