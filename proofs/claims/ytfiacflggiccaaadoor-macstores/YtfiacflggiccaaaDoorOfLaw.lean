/- What ShaOf does at every input. -/
import Derived.Test.YtfiacflggiccaaaDoorRefOf
namespace Go.Proofs.YtfiacflggiccaaaDoor
open Go.RowKit
set_option linter.unusedSimpArgs false
set_option linter.unusedVariables false

theorem of_at (l : List UInt8) (A : Option Addr) (cap : Nat) (w : World) (hT : TabS w) (hA : BytesAt w A l) (hcap : l.length ≤ cap) (hlen : l.length ≤ 1000000) :
    Calls Tryd.prog 10 #[.slice A l.length cap] w fun e w' => e = .returned (.agg (bcs (sha l))) ∧ Below w.heap.size w w' := by
  by_cases h0 : 0 < l.length
  · obtain ⟨q, o, h1, h2, h3⟩ := hA h0
    exact of_any l A cap q o w hT (fun _ => h1) h2 h3 hcap hlen
  · exact of_any l A cap 0 0 w hT (fun h => absurd h h0) (Nat.lt_trans Nat.zero_lt_one hT.lt) (fun j hj => absurd hj (by omega)) hcap hlen
theorem row_at {w : World} {a : Option Addr} {len cap : Nat} {zs : List Int} (h : IsRow .u8 w a len cap zs) (h0 : 0 < w.heap.size) : ∃ l : List UInt8, l.length = len ∧ len ≤ cap ∧ BytesAt w a l := by
  obtain ⟨l, q, o, h1, h2, h3, h4, h5⟩ := row_open h h0
  exact ⟨l, h1, h2, fun hp => ⟨q, o, h3 hp, h4, h5⟩⟩

set_option maxRecDepth 100000 in
set_option maxHeartbeats 1000000 in
theorem of_law (a : Option Addr) (len cap : Nat) (zs : List Int) (w : World) (h : IsRow .u8 w a len cap zs) (hT : TabS w) :
    Calls Tryd.prog 3 #[.slice a len cap] w fun e w' => e = .returned (.bool true) ∧ Below w.heap.size w w' := by
  have HAW := hid awake_any
  have HT := hid hT
  have hT1 := hT.lt
  have hmax := h.len
  unfold maxLen at hmax
  obtain ⟨l, rfl, hcap, hA⟩ := row_at h (by omega)
  have HA := hid hA
  clear h hT hA
  by_cases hlong : (l.length : Int) ≤ 4000
  · have HOF : Hid (∀ W A c, TabS W → BytesAt W A l → l.length ≤ c → Calls Tryd.prog 10 #[.slice A l.length c] W fun e w' => e = .returned (.agg (bcs (sha l))) ∧ Below W.heap.size W w') := fun W A c h1 h2 h3 => of_at l A c W h1 h2 h3 (by omega)
    have HRE : Hid (∀ W A c, BytesAt W A l → Calls Tryd.prog 11 #[.slice A l.length c] W fun e w' => e = .returned (.agg (bcs (sha l))) ∧ Below W.heap.size W w') := fun W A c h1 => refOf_any l A c W h1 (by omega)
    have HEQ := hid (eq24 (sha l) (sha_len l))
    generalize sha l = D at HOF HRE HEQ
    go_enter Tryd.func3, Tryd.ntmps3
    go_wp2_with (first
      | (refine wpList_app rfl (.tmp 7) (.tmp 8) rfl w.heap.size w.heap.size 0 0 cap l.length (bvs []) a l rfl rfl rfl (own_zero w w.heap.size (Nat.le_refl _)) (HA.out.below ((Below.refl w.heap.size w).alloc (Nat.le_refl _) _) (Nat.le_refl _)) (by omega) (by simp) ?_; intro g1 c1 W1 hown1 hgr1 hg1;
         have HB1 : Hid (Below w.heap.size w W1) := own_below (own_zero w w.heap.size (Nat.le_refl _)) ((Below.refl w.heap.size w).alloc (Nat.le_refl _) _) (by simp) hgr1
         rw [Nat.zero_add] at hown1
         have HOW1 := hid hown1
         clear hown1 hgr1 hg1))
    refine (HOF.out _ _ _ (HT.out.below HB1.out hT1) (BytesAt.own (l := l) HOW1.out) (own_cap HOW1.out)).mono ?_
    rintro e W2 ⟨rfl, hb2⟩
    have HB2 := hid (HB1.out.trans (hb2.mono HB1.out.size))
    clear hb2
    go_wp2_with fail
    refine (HRE.out _ _ _ (HA.out.below HB2.out (Nat.le_refl _))).mono ?_
    rintro e W3 ⟨rfl, hb3⟩
    have HB3 := hid (HB2.out.trans (hb3.mono HB2.out.size))
    clear hb3
    have heq := HEQ.out W3
    go_wp2_with fail
    refine (HAW.out _ (HT.out.below HB3.out hT1)).mono ?_
    rintro e W4 ⟨rfl, hb4⟩
    have HB4 := hid (HB3.out.trans (hb4.mono HB3.out.size))
    clear hb4
    go_wp2_with fail
    go_ret
    exact ⟨rfl, HB4.out⟩
  · go_enter Tryd.func3, Tryd.ntmps3
    go_wp2_with (go_at_call 9; refine (HAW.out _ HT.out).mono ?_; rintro e w1 ⟨rfl, hb1⟩)
    go_ret
    exact ⟨rfl, hb1⟩

end Go.Proofs.YtfiacflggiccaaaDoor
