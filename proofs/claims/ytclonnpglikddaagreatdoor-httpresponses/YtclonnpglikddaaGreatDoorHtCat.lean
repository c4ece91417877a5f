
/- Three pieces of bytes put together: what slices.Grow and slices.Concat do. -/
import Derived.Test.YtclonnpglikddaaGreatDoorHtShelf
import Derived.Test.YtclonnpglikddaaGreatDoorDown
namespace Go.Proofs.YtclonnpglikddaaGreatDoor
set_option linter.unusedVariables false
set_option linter.unusedSimpArgs false
open Go.RowKit Go.BigFrame

theorem grow_any (n : Nat) (h0 : 0 < n) (hn : n ≤ 1000000) (w : World) : Calls Tryz.prog 82 #[.slice none 0 0, .int .i64 (n : Int)] w fun e w' => ∃ g cap, e = .returned (.slice (some ⟨g, 0, none⟩) 0 cap) ∧ Own w' w.heap.size g 0 cap [] ∧ Below w.heap.size w w' := by
  obtain ⟨i0, hi, hz0, hz1, hz2⟩ := info_parts info5
  refine (Tryz.slices_Grow_grow i0 (.int .u8 0) hi hz0 (by omega) none 0 0 n [] w (Nat.le_refl _) (by omega) (by rw [hz2]; omega) (by omega) (by simp) (fun _ => rfl) (fun a ha => by cases ha)).mono ?_
  rintro e w' ⟨rfl, rfl⟩
  have hge := grownCap_ge w (0 + n) 0 5
  generalize grownCap w (0 + n) 0 5 = cap at hge ⊢
  refine ⟨_, _, rfl, ⟨Nat.le_refl _, rfl, (([] : List Value).toArray ++ Builtin.zeroCells (Value.cells (.int .u8 0)) (0 + n - 0) ++ Builtin.zeroCells (Value.cells (.int .u8 0)) (cap - (0 + n))).toList, (0, 0), ?_, ?_, .inl rfl⟩, ((Below.refl _ w).drew).alloc (Nat.le_refl _) _⟩
  · rw [show w.heap.size = w.drew.heap.size from rfl, heap_alloc_new w.drew _]
    refine congrArg (fun a => some (Obj.cells a 5 (0, 0))) (Array.ext' ?_)
    simp [bvs]
  · rw [Array.length_toList, Array.size_append, Array.size_append, size_zeroCells, size_zeroCells]
    have e1 : (Value.cells (.int .u8 0)).size = 1 := rfl
    have e2 : (([] : List Value).toArray).size = 0 := rfl
    rw [e1, e2]
    omega
def cat3 (x y z : List UInt8) (k : Nat) : List UInt8 := if k = 0 then [] else if k = 1 then x else if k = 2 then x ++ y else x ++ (y ++ z)
def len3 (a b c k : Nat) : Nat := if k = 0 then 0 else if k = 1 then a else if k = 2 then a + b else a + b + c
set_option maxHeartbeats 4000000 in
set_option maxRecDepth 100000 in
theorem concat_any (x y z : List UInt8) (A B C : Option Addr) (ca cb cc g : Nat) (hx : 0 < x.length) (hl : x.length + y.length + z.length ≤ 1000000) (w : World) (hrow : w.heap[g]? = some (.cells #[.slice A x.length ca, .slice B y.length cb, .slice C z.length cc] 23 (0, 0))) (hA : BytesAt w A x) (hB : BytesAt w B y) (hC : BytesAt w C z) : Calls Tryz.prog 53 #[.slice (some ⟨g, 0, none⟩) 3 3] w fun e w' => ∃ h cap, e = .returned (.slice (some ⟨h, 0, none⟩) (x.length + y.length + z.length) cap) ∧ Own w' w.heap.size h (x.length + y.length + z.length) cap (x ++ (y ++ z)) ∧ Below w.heap.size w w' := by
  have HROW := hid hrow
  have HX : Hid (∀ W, Below w.heap.size w W → Src Tryz.prog 1 23 (.slice A x.length ca) x.length (bvs x) W) := fun W hb => src_bytes (hA.below hb (Nat.le_refl _)) ca (fun _ => opt_any A)
  have HY : Hid (∀ W, Below w.heap.size w W → Src Tryz.prog 1 23 (.slice B y.length cb) y.length (bvs y) W) := fun W hb => src_bytes (hB.below hb (Nat.le_refl _)) cb (fun _ => opt_any B)
  have HZ : Hid (∀ W, Below w.heap.size w W → Src Tryz.prog 1 23 (.slice C z.length cc) z.length (bvs z) W) := fun W hb => src_bytes (hC.below hb (Nat.le_refl _)) cc (fun _ => opt_any C)
  have hlt : g < w.heap.size := (Array.getElem?_eq_some_iff.1 hrow).1
  have HCELL : Hid (∀ W, Below w.heap.size w W → W.cell? ⟨g, 0, none⟩ = some (.slice A x.length ca) ∧ W.cell? ⟨g, 1, none⟩ = some (.slice B y.length cb) ∧ W.cell? ⟨g, 2, none⟩ = some (.slice C z.length cc)) := fun W hb => by
    have h := (hb.block g hlt).trans hrow
    exact ⟨by rw [cell_of_row _ _ _ _ _ _ h]; rfl, by rw [cell_of_row _ _ _ _ _ _ h]; rfl, by rw [cell_of_row _ _ _ _ _ _ h]; rfl⟩
  clear hrow hA hB hC hlt HROW
  generalize x.length = a at hx hl HX HCELL ⊢
  generalize y.length = b at hl HY HCELL ⊢
  generalize z.length = c at hl HZ HCELL ⊢
  have HGR := hid (fun W => grow_any (a + b + c) (by omega) (by omega) W)
  obtain ⟨k0, k1, k2⟩ := HCELL.out w (Below.refl _ _)
  go_enter Tryz.func53, Tryz.ntmps53
  go_wp2_with fail
  go_loop [3, 11] (fun s i => ∃ k : Nat, k ≤ 3 ∧ i = .int .i64 (k : Int) ∧ s = .int .i64 ((len3 a b c k : Nat) : Int)) (fun s i => 3 - (intOf i).toNat)
  case atStart => exact ⟨0, by omega, rfl, rfl⟩
  case round =>
    obtain ⟨k, hk, rfl, rfl⟩ := hrel
    rcases (show k = 0 ∨ k = 1 ∨ k = 2 ∨ k = 3 by omega) with rfl | rfl | rfl | rfl
    · rw [show len3 a b c 0 = 0 from rfl]
      go_wp2_with fail
      go_round
      case rel => exact ⟨1, by omega, rfl, by rw [show len3 a b c 1 = a from rfl]⟩
      case measure => simp [intOf]
    · rw [show len3 a b c 1 = a from rfl]
      go_wp2_with fail
      go_round
      case rel => exact ⟨2, by omega, rfl, by rw [show len3 a b c 2 = a + b from rfl]; exact congrArg (Value.int IntKind.i64) (by omega)⟩
      case measure => simp [intOf]
    · rw [show ((len3 a b c 2 : Nat) : Int) = (a : Int) + (b : Int) from by show ((a + b : Nat) : Int) = _; omega]
      go_wp2_with fail
      go_round
      case rel => exact ⟨3, by omega, rfl, by rw [show len3 a b c 3 = a + b + c from rfl]; exact congrArg (Value.int IntKind.i64) (by omega)⟩
      case measure => simp [intOf]
    · rw [show len3 a b c 3 = a + b + c from rfl]
      clear k0 k1 k2
      go_wp2_with fail
      refine (HGR.out _).mono ?_
      rintro e W1 ⟨g1, cap1, rfl, hown, hb1⟩
      have HO1 := hid hown
      have HB1 := hid hb1
      clear hown hb1 HGR
      go_wp2_with fail
      go_loopw [6, 27] (fun v i wr => ∃ k g' cap' : Nat, k ≤ 3 ∧ i = .int .i64 (k : Int) ∧ v = .slice (some ⟨g', 0, none⟩) (len3 a b c k) cap' ∧ Hid (Own wr w.heap.size g' (len3 a b c k) cap' (cat3 x y z k)) ∧ Hid (Below w.heap.size w wr)) (fun v i wr => 3 - (intOf i).toNat)
      case atStart => exact ⟨0, g1, cap1, by omega, rfl, rfl, HO1, HB1⟩
      case round =>
        obtain ⟨k, g', cap', hk, rfl, rfl, HO, HB⟩ := hrel
        obtain ⟨k0, k1, k2⟩ := HCELL.out wr HB.out
        rcases (show k = 0 ∨ k = 1 ∨ k = 2 ∨ k = 3 by omega) with rfl | rfl | rfl | rfl
        · rw [show len3 a b c 0 = 0 from rfl, show cat3 x y z 0 = [] from rfl] at HO
          rw [show len3 a b c 0 = 0 from rfl]
          go_wp2_with (first
            | (refine wpList_own rfl _ _ 23 rfl w.heap.size g' 0 cap' a [] x _ rfl rfl HO.out (HX.out _ HB.out) (by omega) HB.out.size ?_)
            | fail)
          intro g2 cap2 W2 ho2 hg2 _
          have HO2 := hid ho2
          have HB2 := hid (HO.out.grown HB.out HB.out.size hg2)
          clear ho2 hg2
          try rw [Nat.zero_add] at HO2
          try rw [Nat.zero_add]
          go_wp2_with fail
          go_roundw
          case rel => exact ⟨1, g2, cap2, by omega, rfl, rfl, HO2, HB2⟩
          case measure => simp [intOf]
        · rw [show len3 a b c 1 = a from rfl, show cat3 x y z 1 = x from rfl] at HO
          rw [show len3 a b c 1 = a from rfl]
          go_wp2_with (first
            | (refine wpList_own rfl _ _ 23 rfl w.heap.size g' a cap' b x y _ rfl rfl HO.out (HY.out _ HB.out) (by omega) HB.out.size ?_)
            | fail)
          intro g2 cap2 W2 ho2 hg2 _
          have HO2 := hid ho2
          have HB2 := hid (HO.out.grown HB.out HB.out.size hg2)
          clear ho2 hg2
          go_wp2_with fail
          go_roundw
          case rel => exact ⟨2, g2, cap2, by omega, rfl, rfl, HO2, HB2⟩
          case measure => simp [intOf]
        · rw [show len3 a b c 2 = a + b from rfl, show cat3 x y z 2 = x ++ y from rfl] at HO
          rw [show len3 a b c 2 = a + b from rfl]
          go_wp2_with (first
            | (refine wpList_own rfl _ _ 23 rfl w.heap.size g' (a + b) cap' c (x ++ y) z _ rfl rfl HO.out (HZ.out _ HB.out) (by omega) HB.out.size ?_)
            | fail)
          intro g2 cap2 W2 ho2 hg2 _
          have HO2 := hid ho2
          have HB2 := hid (HO.out.grown HB.out HB.out.size hg2)
          clear ho2 hg2
          go_wp2_with fail
          go_roundw
          case rel => exact ⟨3, g2, cap2, by omega, rfl, rfl, HO2, HB2⟩
          case measure => simp [intOf]
        · go_wp2_with fail
          go_ret
          exact ⟨g', cap', rfl, HO.out, HB.out⟩
end Go.Proofs.YtclonnpglikddaaGreatDoor
