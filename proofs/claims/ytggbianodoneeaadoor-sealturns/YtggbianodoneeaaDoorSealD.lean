
/- What seal.Open does. -/
import Derived.Test.YtggbianodoneeaaDoorSealC
import Derived.Test.YtggbianodoneeaaDoorStrs
namespace Go.Proofs.YtggbianodoneeaaDoor
open Go.RowKit
set_option linter.unusedSimpArgs false
set_option linter.unusedVariables false

/-- Which error Open tells. -/
def openE (key label s : List UInt8) : Int := if 256 < label.length ∨ 4144 < s.length then 3 else if s.length < 48 then 5 else if s.drop (s.length - 32) = tagB key label (s.take (s.length - 32)) then 0 else 11
def openB (key s : List UInt8) : List UInt8 := turnB key (s.take 16) ((s.take (s.length - 32)).drop 16)
theorem BytesAt.part {w : World} {q o : Nat} {l : List UInt8} (h : BytesAt w (some ⟨q, o, none⟩) l) (a n : Nat) (h1 : a + n ≤ l.length) : BytesAt w (some ⟨q, o + a, none⟩) ((l.drop a).take n) := fun h0 => by
  have h2 : 0 < l.length := by rw [List.length_take, List.length_drop] at h0; omega
  obtain ⟨q', o', e, hq, hc⟩ := h h2
  cases e
  refine ⟨q, o + a, rfl, hq, fun j hj => ?_⟩
  rw [List.length_take, List.length_drop] at hj
  rw [Nat.add_assoc, hc (a + j) (by omega)]
  congr 3
  simp [List.getD_eq_getElem?_getD, show j < n from by omega]

theorem open_long (A1 A2 : Option Addr) (m1 c1 m2 c2 : Nat) (s : ByteArray) (w : World) (h : 256 < s.size ∨ 4144 < m2) :
    Calls Tryd.prog 21 #[.slice A1 m1 c1, .string s, .slice A2 m2 c2] w fun e w' => e = .returned (.tuple #[.slice none 0 0, .int .i64 3]) ∧ w' = w := by
  by_cases h1 : 256 < s.size
  · clear h
    go_enter Tryd.func21, Tryd.ntmps21
    go_wp2_with fail
    go_ret2
    exact ⟨rfl, rfl⟩
  · have h2 : (4144 : Int) < (m2 : Int) := by omega
    have h3 : ¬ (256 : Int) < (s.size : Int) := by omega
    clear h h1
    go_enter Tryd.func21, Tryd.ntmps21
    go_wp2_with fail
    go_ret2
    exact ⟨rfl, rfl⟩
theorem open_short (A1 A2 : Option Addr) (m1 c1 m2 c2 : Nat) (s : ByteArray) (w : World) (h1 : s.size ≤ 256) (h2 : m2 < 48) :
    Calls Tryd.prog 21 #[.slice A1 m1 c1, .string s, .slice A2 m2 c2] w fun e w' => e = .returned (.tuple #[.slice none 0 0, .int .i64 5]) ∧ w' = w := by
  have h3 : ¬ (256 : Int) < (s.size : Int) := by omega
  have h4 : ¬ (4144 : Int) < (m2 : Int) := by omega
  go_enter Tryd.func21, Tryd.ntmps21
  go_wp2_with fail
  go_ret2
  exact ⟨rfl, rfl⟩

set_option maxRecDepth 100000 in
set_option maxHeartbeats 4000000 in
theorem open_mid (key t : List UInt8) (s : ByteArray) (A1 : Option Addr) (q o c1 c2 : Nat) (w : World) (hT : TabS w) (hA1 : BytesAt w A1 key) (hA2 : BytesAt w (some ⟨q, o, none⟩) t) (hc1 : key.length ≤ c1) (hl1 : key.length ≤ 100000) (hc2 : t.length ≤ c2) (hls : s.size ≤ 256) (ht1 : 48 ≤ t.length) (ht2 : t.length ≤ 4144) :
    Calls Tryd.prog 21 #[.slice A1 key.length c1, .string s, .slice (some ⟨q, o, none⟩) t.length c2] w fun e w' =>
      ((t.drop (t.length - 32) ≠ tagB key s.data.toList (t.take (t.length - 32)) ∧ e = .returned (.tuple #[.slice none 0 0, .int .i64 11])) ∨
       (t.drop (t.length - 32) = tagB key s.data.toList (t.take (t.length - 32)) ∧ ∃ O, e = .returned (.tuple #[.slice (some ⟨O, 0, none⟩) (t.length - 48) (t.length - 48), .int .i64 0]) ∧ w.heap.size ≤ O ∧ w'.heap[O]? = some (.cells (bcs (openB key t)) 5 (0, 0)))) ∧ Below w.heap.size w w' := by
  have HT := hid hT
  have hT1 := hT.lt
  have HA1 := hid hA1
  have HA2 := hid hA2
  obtain ⟨n, hn⟩ : ∃ n, n = t.length - 32 := ⟨_, rfl⟩
  have HTN : Hid (t.length = n + 32) := by show _ = _; omega
  have HTA : Hid (∀ W, TabS W → BytesAt W A1 key → BytesAt W (some ⟨q, o, none⟩) t → Calls Tryd.prog 33 #[.slice A1 key.length c1, .string s, .slice (some ⟨q, o, none⟩) n c2] W fun e w' => e = .returned (.agg (bcs (tagB key s.data.toList (t.take n)))) ∧ Below W.heap.size W w') := fun W h1 h2 h3 => by
    have hL : (t.take n).length = n := by rw [List.length_take]; omega
    have := tagOf_any key s (t.take n) A1 (some ⟨q, o, none⟩) c1 c2 W h1 h2 (h3.take n) hc1 hl1 (by rw [hL]; omega) hls
    rw [hL] at this
    exact this
  have HGL := hid (tagB_len key s.data.toList (t.take n))
  have HDL : Hid ((t.drop n).length = 32) := by show _ = _; rw [List.length_drop]; omega
  have HSM : Hid (∀ W P (u : Bool), BytesAt W (some ⟨q, o, none⟩) t → W.heap[P]? = some (.cells (bcs (tagB key s.data.toList (t.take n))) 54 (0, 0)) → u = decide (t.drop n = tagB key s.data.toList (t.take n)) → ∀ c, Calls Tryd.prog 29 #[.slice (some ⟨q, o + n, none⟩) 32 c, .slice (some ⟨P, 0, none⟩) 32 32] W fun e w' => e = .returned (.bool u) ∧ ∃ k, w' = W.drewN k) := fun W P u h1 h2 h3 c => by
    have hb := h1.part n 32 (by omega)
    rw [List.take_of_length_le (by rw [List.length_drop]; omega)] at hb
    have := same_any (t.drop n) (tagB key s.data.toList (t.take n)) (some ⟨q, o + n, none⟩) (some ⟨P, 0, none⟩) c 32 W hb (BytesAt.of_row h2) (by rw [HDL.out]; omega) u h3
    rw [HDL.out, HGL.out] at this
    exact this
  have HTU : Hid (∀ W, TabS W → BytesAt W A1 key → BytesAt W (some ⟨q, o, none⟩) t → ∀ c3, n - 16 ≤ c3 → Calls Tryd.prog 32 #[.slice A1 key.length c1, .slice (some ⟨q, o, none⟩) 16 c2, .slice (some ⟨q, o + 16, none⟩) (n - 16) c3] W fun e w' => ∃ O, e = .returned (.slice (some ⟨O, 0, none⟩) (n - 16) (n - 16)) ∧ W.heap.size ≤ O ∧ w'.heap[O]? = some (.cells (bcs (openB key t)) 5 (0, 0)) ∧ Below W.heap.size W w') := fun W h1 h2 h3 c3 h4 => by
    have e1 : (t.take 16).length = 16 := by rw [List.length_take]; omega
    have e2 : ((t.drop 16).take (n - 16)).length = n - 16 := by rw [List.length_take, List.length_drop]; omega
    have := turned_seal key (t.take 16) ((t.drop 16).take (n - 16)) A1 (some ⟨q, o, none⟩) (some ⟨q, o + 16, none⟩) c1 c2 c3 W h1 h2 (h3.take 16) (h3.part 16 (n - 16) (by omega)) hc1 hl1 (by omega) (by omega) (by omega)
    rw [e1, e2] at this
    have e3 : openB key t = turnB key (t.take 16) ((t.drop 16).take (n - 16)) := by
      unfold openB; rw [← hn, List.drop_take]
    rw [e3]
    exact this
  rw [← hn, show t.length - 48 = n - 16 from by omega]
  generalize openB key t = D at HTU ⊢
  generalize tagB key s.data.toList (t.take n) = G at HTA HGL HSM ⊢
  have hN1 : t.length = n + 32 := HTN.out
  rw [hN1] at ht1 ht2 hc2 ⊢
  have hq1 : ¬ ((256 : Int) < (s.size : Int)) := by omega
  have hq2 : ¬ ((4144 : Int) < (n : Int) + 32) := by omega
  have hq3 : ¬ ((n : Int) + 32 < 48) := by omega
  have hn16 : 16 ≤ n := by omega
  clear hT hA1 hA2 hn hN1
  by_cases heq : t.drop n = G
  · have HS1 : Hid (∀ W P, BytesAt W (some ⟨q, o, none⟩) t → W.heap[P]? = some (.cells (bcs G) 54 (0, 0)) → ∀ c, Calls Tryd.prog 29 #[.slice (some ⟨q, o + n, none⟩) 32 c, .slice (some ⟨P, 0, none⟩) 32 32] W fun e w' => e = .returned (.bool true) ∧ ∃ k, w' = W.drewN k) := fun W P h1 h2 c => HSM.out W P true h1 h2 (by simp [heq]) c
    have HEQ := hid heq
    clear heq HSM
    have hc9 : ¬ c2 = n := by omega
    have hc8 : (n : Int) ≤ (c2 : Int) := by omega
    go_enter Tryd.func21, Tryd.ntmps21
    go_wp2_with fail
    go_quiet (fail)
    have HBV := hid (below_drewN w.heap.size w nq)
    generalize w.drewN nq = V at HBV ⊢
    go_wp2_with fail
    refine (HTA.out _ (HT.out.below HBV.out hT1) (HA1.out.below HBV.out (Nat.le_refl _)) (HA2.out.below HBV.out (Nat.le_refl _))).mono ?_
    rintro e W1 ⟨rfl, hb1⟩
    have HB1 := hid (HBV.out.trans (hb1.mono HBV.out.size))
    clear hb1 HBV HTA
    go_wp2_with (refine wpList_store_abs rfl 54 (.tmp 10) (.tmp 37) rfl W1.heap.size 0 (bcs G) rfl rfl 54 _ (heap_alloc_new W1 _) (by rw [bcs_size, HGL.out]; exact Nat.le_refl 32) (size24' G HGL.out) (bvs_one G) ?_; intro W2 hO2 hW2)
    rw [over_bytes _ G (by rw [HGL.out]; rfl)] at hW2
    have HG2 := hid hW2
    have HB2 : Hid (Below w.heap.size w W2) := (HB1.out.alloc HB1.out.size _).trans (hO2.below HB1.out.size)
    clear hO2 hW2 HB1
    have HSC := hid (HS1.out W2 W1.heap.size (HA2.out.below HB2.out (Nat.le_refl _)) HG2.out (c2 - n))
    go_wp2_with fail
    refine HSC.out.mono ?_
    rintro e W3 ⟨rfl, k3, hW3⟩
    have HB3 : Hid (Below w.heap.size w W3) := by rw [hW3]; exact HB2.out.trans (below_drewN _ _ _)
    clear hW3 HSC HS1 HG2 HB2
    have HTC := hid (HTU.out W3.drew ((HT.out.below HB3.out hT1).below (below_drewN 2 W3 1) (by have := HB3.out.size; omega)) ((HA1.out.below HB3.out (Nat.le_refl _)).below (below_drewN W3.heap.size W3 1) (Nat.le_refl _)) ((HA2.out.below HB3.out (Nat.le_refl _)).below (below_drewN W3.heap.size W3 1) (Nat.le_refl _)) (c2 - 16) (by omega))
    have hc7 : ¬ c2 = 16 := by omega
    have hc6 : (16 : Int) ≤ (c2 : Int) := by omega
    have hc5 : (16 : Int) ≤ (n : Int) := by omega
    clear HTU
    go_wp2_with fail
    go_region_with ((go_at_call 32; refine HTC.out.mono ?_; rintro e w1 ⟨O, rfl, hO, hr, hb⟩; have HO9 := hid hO; have HR9 := hid hr; have HB9 := hid hb; clear hO hr hb))
    all_goals
      go_wp2_with fail
      go_ret2
      exact ⟨.inr ⟨HEQ.out, O, rfl, Nat.le_trans HB3.out.size HO9.out, HR9.out⟩, (HB3.out.trans (below_drewN _ W3 1)).trans (HB9.out.mono HB3.out.size)⟩
  · have HS1 : Hid (∀ W P, BytesAt W (some ⟨q, o, none⟩) t → W.heap[P]? = some (.cells (bcs G) 54 (0, 0)) → ∀ c, Calls Tryd.prog 29 #[.slice (some ⟨q, o + n, none⟩) 32 c, .slice (some ⟨P, 0, none⟩) 32 32] W fun e w' => e = .returned (.bool false) ∧ ∃ k, w' = W.drewN k) := fun W P h1 h2 c => HSM.out W P false h1 h2 (by simp [heq]) c
    have HEQ := hid heq
    clear heq HSM
    have hc9 : ¬ c2 = n := by omega
    have hc8 : (n : Int) ≤ (c2 : Int) := by omega
    go_enter Tryd.func21, Tryd.ntmps21
    go_wp2_with fail
    go_quiet (fail)
    have HBV := hid (below_drewN w.heap.size w nq)
    generalize w.drewN nq = V at HBV ⊢
    go_wp2_with fail
    refine (HTA.out _ (HT.out.below HBV.out hT1) (HA1.out.below HBV.out (Nat.le_refl _)) (HA2.out.below HBV.out (Nat.le_refl _))).mono ?_
    rintro e W1 ⟨rfl, hb1⟩
    have HB1 := hid (HBV.out.trans (hb1.mono HBV.out.size))
    clear hb1 HBV HTA
    go_wp2_with (refine wpList_store_abs rfl 54 (.tmp 10) (.tmp 37) rfl W1.heap.size 0 (bcs G) rfl rfl 54 _ (heap_alloc_new W1 _) (by rw [bcs_size, HGL.out]; exact Nat.le_refl 32) (size24' G HGL.out) (bvs_one G) ?_; intro W2 hO2 hW2)
    rw [over_bytes _ G (by rw [HGL.out]; rfl)] at hW2
    have HG2 := hid hW2
    have HB2 : Hid (Below w.heap.size w W2) := (HB1.out.alloc HB1.out.size _).trans (hO2.below HB1.out.size)
    clear hO2 hW2 HB1
    have HSC := hid (HS1.out W2 W1.heap.size (HA2.out.below HB2.out (Nat.le_refl _)) HG2.out (c2 - n))
    go_wp2_with fail
    refine HSC.out.mono ?_
    rintro e W3 ⟨rfl, k3, hW3⟩
    have HB3 : Hid (Below w.heap.size w W3) := by rw [hW3]; exact HB2.out.trans (below_drewN _ _ _)
    clear hW3 HSC HS1 HG2 HB2
    go_wp2_with fail
    go_ret2
    exact ⟨.inl ⟨HEQ.out, rfl⟩, HB3.out⟩

end Go.Proofs.YtggbianodoneeaaDoor
