
/- The well known tag, reckoned by the kernel; the third layer's awake. -/
import Derived.Test.YtggbianodoneeaaDoorSame
namespace Go.Proofs.YtggbianodoneeaaDoor
open Go.RowKit
set_option linter.unusedSimpArgs false
set_option linter.unusedVariables false

def JEFE : List UInt8 := [74, 101, 102, 101]
def WHAT : List UInt8 := [119, 104, 97, 116, 32, 100, 111, 32, 121, 97, 32, 119, 97, 110, 116, 32, 102, 111, 114, 32, 110, 111, 116, 104, 105, 110, 103, 63]
set_option maxRecDepth 100000 in
theorem hex_jefe : hexB ((hmac JEFE WHAT).take 4) = [53, 98, 100, 99, 99, 49, 52, 54] := by decide +kernel
theorem refHex_at (l : List UInt8) (A : Option Addr) (cap : Nat) (w : World) (h0 : 0 < w.heap.size) (hA : BytesAt w A l) (hlen : l.length ≤ 1000000) :
    Calls Tryd.prog 28 #[.slice A l.length cap] w fun e w' => e = .returned (.string ⟨(hexB l).toArray⟩) ∧ Below w.heap.size w w' := by
  by_cases hp : 0 < l.length
  · obtain ⟨q, o, h1, h2, h3⟩ := hA hp
    exact refHex_any l A cap q o w (fun _ => h1) h2 h3 hlen
  · exact refHex_any l A cap 0 0 w (fun h => absurd h hp) h0 (fun j hj => absurd hj (by omega)) hlen

set_option maxRecDepth 100000 in
set_option maxHeartbeats 1000000 in
theorem awake3_any (w : World) (hT : TabS w) : Calls Tryd.prog 13 #[] w fun e w' => e = .returned (.bool true) ∧ Below w.heap.size w w' := by
  have HT := hid hT
  have hT1 := hT.lt
  have HOF : Hid (∀ W g h, TabS W → W.heap[g]? = some (.cells (bcs JEFE) 5 (4, 5)) → W.heap[h]? = some (.cells (bcs WHAT) 5 (28, 29)) → Calls Tryd.prog 27 #[.slice (some ⟨g, 0, none⟩) 4 4, .slice (some ⟨h, 0, none⟩) 28 28] W fun e w' => e = .returned (.agg (bcs (hmac JEFE WHAT))) ∧ Below W.heap.size W w') := fun W g h h1 h2 h3 =>
    macOf_any JEFE WHAT _ _ 4 28 W h1 (BytesAt.of_row h2) (BytesAt.of_row h3) (Nat.le_refl 4) (Nat.le_refl 28) (by decide) (by decide)
  have HFL := hid (hmac_len JEFE WHAT)
  have HHX : Hid (∀ W M, 0 < W.heap.size → W.heap[M]? = some (.cells (bcs (hmac JEFE WHAT)) 54 (0, 0)) → Calls Tryd.prog 28 #[.slice (some ⟨M, 0, none⟩) 4 32] W fun e w' => e = .returned (.string ⟨#[53, 98, 100, 99, 99, 49, 52, 54]⟩) ∧ Below W.heap.size W w') := fun W M h0 h => by
    have := refHex_at ((hmac JEFE WHAT).take 4) (some ⟨M, 0, none⟩) 32 W h0 (by have := BytesAt.mid (o := 0) h 4 (by rw [hmac_len]; omega); rw [List.drop_zero] at this; exact this) (by rw [List.length_take, hmac_len]; decide)
    rw [hex_jefe, List.length_take, hmac_len] at this
    exact this
  have HSA : Hid (∀ W g h, W.heap[g]? = some (.cells (bcs [1]) 5 (0, 0)) → W.heap[h]? = some (.cells (bcs [1]) 5 (0, 0)) → Calls Tryd.prog 29 #[.slice (some ⟨g, 0, none⟩) 1 1, .slice (some ⟨h, 0, none⟩) 1 1] W fun e w' => e = .returned (.bool true) ∧ ∃ n, w' = W.drewN n) := fun W g h h1 h2 =>
    same_any [1] [1] _ _ 1 1 W (BytesAt.of_row h1) (BytesAt.of_row h2) (by decide) true (by decide)
  have HCH : Hid (∀ W, Calls Tryd.prog 30 #[.string ⟨#[115, 104, 111, 114, 116]⟩] W fun e w' => e = .returned (.int .i64 1) ∧ w' = W) := fun W => check_any _ W 1 (by decide)
  generalize hmac JEFE WHAT = D at HOF HHX HFL
  have HJ : Hid ((#[.int .u8 74, .int .u8 101, .int .u8 102, .int .u8 101] : Array Value) = bcs JEFE) := rfl
  have HI := hid (size24' D HFL.out)
  have HO := hid (bvs_one D)
  clear hT
  go_enter Tryd.func13, Tryd.ntmps13
  have hcv := Lib.run_convert_bytes_const (P := Tryd.prog) w 31 5 #[.int .u8 74, .int .u8 101, .int .u8 102, .int .u8 101] 4 4 Tryd.underlying31 Tryd.underlying5
  have hcw := Lib.run_convert_bytes_const (P := Tryd.prog) (w.alloc (.cells #[.int .u8 74, .int .u8 101, .int .u8 102, .int .u8 101] 5 (4, 5))) 31 5 #[.int .u8 119, .int .u8 104, .int .u8 97, .int .u8 116, .int .u8 32, .int .u8 100, .int .u8 111, .int .u8 32, .int .u8 121, .int .u8 97, .int .u8 32, .int .u8 119, .int .u8 97, .int .u8 110, .int .u8 116, .int .u8 32, .int .u8 102, .int .u8 111, .int .u8 114, .int .u8 32, .int .u8 110, .int .u8 111, .int .u8 116, .int .u8 104, .int .u8 105, .int .u8 110, .int .u8 103, .int .u8 63] 28 28 Tryd.underlying31 Tryd.underlying5
  simp only [World.size_alloc] at hcw
  have HB2 : Hid (∀ o1 o2, Below w.heap.size w ((w.alloc o1).alloc o2)) := fun o1 o2 => ((Below.refl _ _).alloc (Nat.le_refl _) o1).alloc (by simp) o2
  go_wp2_with fail
  refine (HOF.out _ _ _ (HT.out.below (HB2.out _ _) hT1) (heap_alloc2_old w _ _) (heap_alloc2_new w _ _)).mono ?_
  rintro e W1 ⟨rfl, hb1⟩
  have HB1 := hid ((HB2.out _ _).trans (hb1.mono (by simp; omega)))
  have hz1 : w.heap.size ≤ W1.heap.size := HB1.out.size
  clear hb1 hcv hcw
  go_wp2_with (refine wpList_store_abs rfl 54 (.tmp 1) (.tmp 6) rfl W1.heap.size 0 (bcs D) rfl rfl 54 _ (heap_alloc_new W1 _) (by rw [bcs_size, HFL.out]; exact Nat.le_refl 32) HI.out HO.out ?_; intro W2 hO2 hW2)
  rw [over_bytes _ D (by rw [HFL.out]; rfl)] at hW2
  have HB3 := hid ((HB1.out.alloc hz1 _).trans (hO2.below hz1))
  have HW2 := hid hW2
  have hz2 : w.heap.size ≤ W2.heap.size := HB3.out.size
  clear hO2 hW2
  go_wp2_with fail
  refine (HHX.out _ _ (by omega) HW2.out).mono ?_
  rintro e W3 ⟨rfl, hb3⟩
  have HB4 := hid (HB3.out.trans (hb3.mono hz2))
  have hz3 : w.heap.size ≤ W3.heap.size := HB4.out.size
  clear hb3
  go_wp2_with fail
  refine (HSA.out _ _ _ (heap_alloc2_old W3 _ _) (heap_alloc2_new W3 _ _)).mono ?_
  rintro e W4 ⟨rfl, n, rfl⟩
  go_wp2_with fail
  refine (HCH.out _).mono ?_
  rintro e W5 ⟨rfl, rfl⟩
  go_wp2_with fail
  go_ret
  exact ⟨rfl, ((HB4.out.alloc hz3 _).alloc (by simp; omega) _).trans (below_drewN _ _ _)⟩

end Go.Proofs.YtggbianodoneeaaDoor
