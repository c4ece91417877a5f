/- What ShaNobody does at every input. -/
import Derived.Test.YtehjjobnmlhjlaaDoorEq
import Derived.Test.YtehjjobnmlhjlaaDoorOpen
namespace Go.Proofs.YtehjjobnmlhjlaaDoor
open Go.RowKit

set_option maxRecDepth 100000 in
set_option maxHeartbeats 1000000 in
theorem nobody_any (A : Option Addr) (n cap : Nat) (w : World) (hT : TabS w) (hn : n ≤ maxLen) :
    Calls Tryd.prog 8 #[.slice A n cap] w fun e w' => e = .returned (.bool true) ∧ Below w.heap.size w w' := by
  unfold maxLen at hn
  have HAW := hid awake_any
  have HT := hid hT
  have hT1 := hT.lt
  clear hT
  by_cases hlong : (n : Int) ≤ 4000
  · have HON := hid of_nil
    have HSN := hid sum_none
    have HBZ := hid built_zero
    have HMF : Hid (∀ (W : World) (g : Nat), W.heap[g]? = some (.cells (hcs Z0 (zer 64) 0 false).toArray 51 (0, 0)) → W.cell? ⟨g, 73, none⟩ = some (.bool false)) := fun W g h => hash_m (zer_len 64) h
    have HWU : Hid (∀ (W : World) (g : Nat) (v : Value), W.heap[g]? = some (.cells (hcs Z0 (zer 64) 0 false).toArray 51 (0, 0)) → Calls Tryd.prog 13 #[.pointer (some ⟨g, 0, none⟩), v] W fun e w' => e = .returned (.tuple #[]) ∧ w' = W) := fun W g v h => write_un g Z0 (zer 64) 0 v W (zer_len 64) h
    have HLU : Hid (∀ (W : World) (g : Nat), W.heap[g]? = some (.cells (hcs Z0 (zer 64) 0 false).toArray 51 (0, 0)) → Calls Tryd.prog 14 #[.pointer (some ⟨g, 0, none⟩)] W fun e w' => e = .returned (.int .i64 0) ∧ w' = W) := fun W g h => len_any g Z0 (zer 64) 0 false W (zer_len 64) h
    generalize (hcs Z0 (zer 64) 0 false).toArray = Z at HBZ HMF HWU HLU
    have HEQ := hid (eq24 (sha []) (sha_len []))
    generalize sha [] = F at HON HSN HEQ
    go_enter Tryd.func8, Tryd.ntmps8
    go_wp2_with fail
    go_loopw [3] (fun i wr => ∃ k : Nat, k ≤ 2 ∧ i = .int .i64 k ∧ Hid (Below w.heap.size w wr)) (fun i _ => 2 - (intOf i).toNat)
    case atStart => exact ⟨0, by omega, rfl, Below.refl _ _⟩
    case round =>
      obtain ⟨k, hk, rfl, HB⟩ := hrel
      have hsz := HB.out.size
      have HTr := hid (HT.out.below HB.out hT1)
      by_cases h2 : k < 2
      · by_cases h1 : k = 1
        · subst h1
          go_wp2_with (refine wpList_built rfl 51 _ rfl Z HBZ.out ?_)
          refine (HWU.out _ _ _ (heap_alloc_new wr _)).mono ?_
          rintro e w1 ⟨rfl, rfl⟩
          go_wp2_with fail
          refine (HLU.out _ _ (heap_alloc_new wr _)).mono ?_
          rintro e w1 ⟨rfl, rfl⟩
          have HB0 := hid (HB.out.alloc hsz (.cells Z 51))
          go_wp2_with fail
          refine (HSN.out (some wr.heap.size) _ (HT.out.below HB0.out hT1) (fun b hb => by cases hb; exact HMF.out _ _ (heap_alloc_new wr _))).mono ?_
          rintro e w1 ⟨rfl, hb1⟩
          have HB1 := hid (HB0.out.trans (hb1.mono HB0.out.size))
          clear hb1
          go_wp2_with fail
          refine (HON.out _ (HT.out.below HB1.out hT1)).mono ?_
          rintro e w2 ⟨rfl, hb2⟩
          have HB2 := hid (HB1.out.trans (hb2.mono HB1.out.size))
          clear hb2
          have heq := HEQ.out w2
          go_wp2_with fail
          go_roundw
          case rel => exact ⟨2, by omega, rfl, HB2⟩
          case measure => simp [intOf]
        · obtain rfl : k = 0 := by omega
          go_wp2_with fail
          refine (write_nil _ _).mono ?_
          rintro e w1 ⟨rfl, rfl⟩
          go_wp2_with fail
          refine (len_nil _).mono ?_
          rintro e w1 ⟨rfl, rfl⟩
          go_wp2_with fail
          refine (HSN.out none _ HTr.out (fun b hb => by cases hb)).mono ?_
          rintro e w1 ⟨rfl, hb1⟩
          have HB1 := hid (HB.out.trans (hb1.mono hsz))
          clear hb1
          go_wp2_with fail
          refine (HON.out _ (HT.out.below HB1.out hT1)).mono ?_
          rintro e w2 ⟨rfl, hb2⟩
          have HB2 := hid (HB1.out.trans (hb2.mono HB1.out.size))
          clear hb2
          have heq := HEQ.out w2
          go_wp2_with fail
          go_roundw
          case rel => exact ⟨1, by omega, rfl, HB2⟩
          case measure => simp [intOf]
      · go_wp2_with (go_at_call 9; refine (HAW.out _ HTr.out).mono ?_; rintro e w1 ⟨rfl, hb1⟩)
        go_ret
        exact ⟨rfl, HB.out.trans (hb1.mono hsz)⟩
  · go_enter Tryd.func8, Tryd.ntmps8
    go_wp2_with (go_at_call 9; refine (HAW.out _ HT.out).mono ?_; rintro e w1 ⟨rfl, hb1⟩)
    go_ret
    exact ⟨rfl, hb1⟩

theorem nobody_row (a : Option Addr) (len cap : Nat) (zs : List Int) (w : World) (h : IsRow .u8 w a len cap zs) (hT : TabS w) :
    Calls Tryd.prog 8 #[.slice a len cap] w fun e w' => e = .returned (.bool true) ∧ Below w.heap.size w w' := nobody_any a len cap w hT h.len

end Go.Proofs.YtehjjobnmlhjlaaDoor
