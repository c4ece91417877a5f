/- What MacOf does at every input. -/
import Derived.Test.YtfiacflggiccaaaDoorRefMac
import Derived.Test.YtfiacflggiccaaaDoorSameLaw
namespace Go.Proofs.YtfiacflggiccaaaDoor
open Go.RowKit
set_option linter.unusedSimpArgs false
set_option linter.unusedVariables false

set_option maxRecDepth 100000 in
set_option maxHeartbeats 1000000 in
theorem macOf_law (a0 : Option Addr) (len0 cap0 : Nat) (z0 : List Int) (a1 : Option Addr) (len1 cap1 : Nat) (z1 : List Int) (w : World) (h0 : IsRow .u8 w a0 len0 cap0 z0) (h1 : IsRow .u8 w a1 len1 cap1 z1) (hT : TabS w) :
    Calls Tryd.prog 6 #[.slice a0 len0 cap0, .slice a1 len1 cap1] w fun e w' => e = .returned (.bool true) ∧ Below w.heap.size w w' := by
  have HAW := hid awake3_any
  have HT := hid hT
  have hT1 := hT.lt
  have hm0 := h0.len
  have hm1 := h1.len
  unfold maxLen at hm0 hm1
  obtain ⟨a, rfl, hc0, hA⟩ := row_at h0 (by omega)
  obtain ⟨b, rfl, hc1, hB⟩ := row_at h1 (by omega)
  have HA := hid hA
  have HB := hid hB
  clear h0 h1 hT hA hB
  by_cases hl0 : (a.length : Int) ≤ 2000
  · by_cases hl1 : (b.length : Int) ≤ 2000
    · have HOF : Hid (∀ W A c B d, TabS W → BytesAt W A a → BytesAt W B b → a.length ≤ c → b.length ≤ d → Calls Tryd.prog 20 #[.slice A a.length c, .slice B b.length d] W fun e w' => e = .returned (.agg (bcs (hmac a b))) ∧ Below W.heap.size W w') := fun W A c B d h1 h2 h3 h4 h5 => macOf_any a b A B c d W h1 h2 h3 h4 h5 (by omega) (by omega)
      have HRE : Hid (∀ W A c B d, BytesAt W A a → BytesAt W B b → Calls Tryd.prog 21 #[.slice A a.length c, .slice B b.length d] W fun e w' => e = .returned (.agg (bcs (hmac a b))) ∧ Below W.heap.size W w') := fun W A c B d h1 h2 => refMac_any a b A B c d W h1 h2 (by omega) (by omega)
      have HEQ := hid (eq24 (hmac a b) (hmac_len a b))
      generalize hmac a b = D at HOF HRE HEQ
      go_enter Tryd.func6, Tryd.ntmps6
      go_wp2_with (first
        | (refine wpList_app rfl (.tmp 14) (.tmp 15) rfl w.heap.size w.heap.size 0 0 cap0 a.length (bvs []) a0 a rfl rfl rfl (own_zero w w.heap.size (Nat.le_refl _)) (HA.out.below ((Below.refl w.heap.size w).alloc (Nat.le_refl _) _) (Nat.le_refl _)) (by omega) (by simp) ?_; intro g1 c1 W1 hown1 hgr1 hg1;
           have HB1 : Hid (Below w.heap.size w W1) := own_below (own_zero w w.heap.size (Nat.le_refl _)) ((Below.refl w.heap.size w).alloc (Nat.le_refl _) _) (by simp) hgr1
           rw [Nat.zero_add] at hown1
           have HO1 := hid hown1
           have hz1 := HB1.out.size
           clear hown1 hgr1 hg1)
        | (refine wpList_app rfl (.tmp 17) (.tmp 18) rfl W1.heap.size W1.heap.size 0 0 cap1 b.length (bvs []) a1 b rfl rfl rfl (own_zero W1 W1.heap.size (Nat.le_refl _)) (HB.out.below (HB1.out.alloc hz1 _) (Nat.le_refl _)) (by omega) (by simp) ?_; intro g2 c2 W2 hown2 hgr2 hg2;
           have HB12 : Hid (Below W1.heap.size W1 W2) := own_below (own_zero W1 W1.heap.size (Nat.le_refl _)) ((Below.refl W1.heap.size W1).alloc (Nat.le_refl _) _) (by simp) hgr2
           rw [Nat.zero_add] at hown2
           have HO2 := hid hown2
           clear hown2 hgr2 hg2))
      have HB2 : Hid (Below w.heap.size w W2) := HB1.out.trans (HB12.out.mono hz1)
      refine (HOF.out _ _ _ _ _ (HT.out.below HB2.out hT1) ((BytesAt.own (l := a) HO1.out).below HB12.out (Nat.le_refl _)) (BytesAt.own (l := b) HO2.out) (own_cap HO1.out) (own_cap HO2.out)).mono ?_
      rintro e W3 ⟨rfl, hb3⟩
      have HB3 := hid (HB2.out.trans (hb3.mono HB2.out.size))
      clear hb3
      go_wp2_with fail
      refine (HRE.out _ _ _ _ _ (HA.out.below HB3.out (Nat.le_refl _)) (HB.out.below HB3.out (Nat.le_refl _))).mono ?_
      rintro e W4 ⟨rfl, hb4⟩
      have HB4 := hid (HB3.out.trans (hb4.mono HB3.out.size))
      clear hb4
      have heq := HEQ.out W4
      go_wp2_with fail
      refine (HAW.out _ (HT.out.below HB4.out hT1)).mono ?_
      rintro e W5 ⟨rfl, hb5⟩
      have HB5 := hid (HB4.out.trans (hb5.mono HB4.out.size))
      clear hb5
      go_wp2_with fail
      go_ret
      exact ⟨rfl, HB5.out⟩
    · go_enter Tryd.func6, Tryd.ntmps6
      go_wp2_with (go_at_call 19; refine (HAW.out _ HT.out).mono ?_; rintro e w1 ⟨rfl, hb1⟩)
      go_ret
      exact ⟨rfl, hb1⟩
  · go_enter Tryd.func6, Tryd.ntmps6
    go_wp2_with (go_at_call 19; refine (HAW.out _ HT.out).mono ?_; rintro e w1 ⟨rfl, hb1⟩)
    go_ret
    exact ⟨rfl, hb1⟩

end Go.Proofs.YtfiacflggiccaaaDoor
