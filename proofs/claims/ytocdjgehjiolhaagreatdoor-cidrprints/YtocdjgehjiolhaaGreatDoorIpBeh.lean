
/- What ip.behind, mapped, nat64, compatible and unspecifiedOrLoopback do. -/
import Derived.Test.YtocdjgehjiolhaaGreatDoorIpLast
namespace Go.Proofs.YtocdjgehjiolhaaGreatDoor
open Go.RowKit

def behL (h B : List UInt8) : List UInt8 := h ++ B.drop 12
theorem behL_len (h B : List UInt8) (hh : h.length = 12) (hB : B.length = 16) : (behL h B).length = 16 := by simp [behL, hh, hB]
theorem over_head (B h : List UInt8) (hB : B.length = 16) (hh : h.length = 12) : over (acs true B) 1 (bvs h) = acs true (behL h B) := by
  have e : acs true B = ([Value.bool true] ++ (bvs (B.take 12) ++ bvs (B.drop 12))).toArray := by
    rw [← bvs_app, List.take_append_drop]; rfl
  rw [e]
  have := over_mid (bvs (B.take 12)) (bvs h) [Value.bool true] (bvs (B.drop 12)) (by rw [bvs_len, bvs_len, hh]; simp [hB])
  rw [show ([Value.bool true] : List Value).length = 1 from rfl] at this
  rw [this, ← bvs_app]; rfl
theorem range_B {w : World} {g : Nat} {v : Bool} {B : List UInt8} {fr : Nat × Nat} (h : w.heap[g]? = some (.cells (acs v B) 24 fr)) : w.rangeAt g 1 (bvs B) :=
  range_row (a := [.bool v]) (b := bvs B) (c := []) (t := 24) (fr := fr) (by rw [List.append_nil]; exact h) 1 rfl
theorem info16 (B : List UInt8) (hB : B.length = 16) : (Tryz.prog.info? 22).map (·.size) = some (bvs B).length := by rw [bvs_len, hB]; kernel_rfl
theorem heap4_3 (w : World) (A B C D : Obj) : ((((w.alloc A).alloc B).alloc C).alloc D).heap[w.heap.size + 3]? = some D := by
  have := heap_alloc_new (((w.alloc A).alloc B).alloc C) D
  simpa using this
theorem heap4_2 (w : World) (A B C D : Obj) : ((((w.alloc A).alloc B).alloc C).alloc D).heap[w.heap.size + 2]? = some C := (Below.heap_alloc _ _ _ (by simp)).trans (heap3_2 w A B C)
theorem heap4_0 (w : World) (A B C D : Obj) : ((((w.alloc A).alloc B).alloc C).alloc D).heap[w.heap.size]? = some A := (Below.heap_alloc _ _ _ (by simp; omega)).trans (heap3_0 w A B C)
theorem below4 (w : World) (A B C D : Obj) : Below w.heap.size w ((((w.alloc A).alloc B).alloc C).alloc D) := alloc_below (alloc_below (alloc_below (alloc_below (Below.refl _ w) (Nat.le_refl _) A) (by simp) B) (by simp; omega) C) (by simp; omega) D
theorem load16_eq (x : Value) : Instr.loadAt 22 x = loadI 22 x := rfl
attribute [local go_sem ↓] load16_eq loadA_eq
set_option maxHeartbeats 1000000 in
set_option maxRecDepth 100000 in
theorem behind_any (h : List UInt8) (hh : h.length = 12) (v : Bool) (B : List UInt8) (hB : B.length = 16) (w : World) : Calls Tryz.prog 76 #[.agg (bcs h), .agg (acs v B)] w fun e w' => e = .returned (.agg (acs true (behL h B))) ∧ Below w.heap.size w w' := by
  have HBU := hid (built_six B hB)
  have HOV := hid (over_head B h hB hh)
  have HBL := hid (behL_len h B hh hB)
  have hl : ∀ A Z, (loadI 22 (.pointer (some ⟨w.heap.size + 1, 1, none⟩))).run Tryz.prog (((w.alloc A).alloc (.cells (acs v B) 24)).alloc Z) = .ok (.agg (bcs B)) (((w.alloc A).alloc (.cells (acs v B) 24)).alloc Z) := fun A Z =>
    run_loadAt_mid _ _ 1 22 (bvs B) _ (range_B (heap3_1 w _ _ _)) Tryz.underlying22 rfl (info16 B hB)
  have HLB : Hid (∀ {W : World} {g : Nat} {t fr}, W.heap[g]? = some (.cells (bcs h) t fr) → BytesAt W (some ⟨g, 0, none⟩) h) := fun h => BytesAt.of_row h
  generalize acs v B = X at hl ⊢
  generalize bcs B = NB at hl HBU
  obtain ⟨HC, hHC⟩ : ∃ HC, HC = bcs h := ⟨_, rfl⟩
  rw [← hHC] at HLB ⊢
  have HLL := hid hl
  clear hl
  clear hHC
  go_enter Tryz.func76, Tryz.ntmps76
  go_wp2_with fail
  have hl := HLL.out (Obj.cells HC 107) (Obj.cells #[.bool false, .int .u8 0, .int .u8 0, .int .u8 0, .int .u8 0, .int .u8 0, .int .u8 0, .int .u8 0, .int .u8 0, .int .u8 0, .int .u8 0, .int .u8 0, .int .u8 0, .int .u8 0, .int .u8 0, .int .u8 0, .int .u8 0] 24)
  have HR0 := hid (heap3_0 w (Obj.cells HC 107) (Obj.cells X 24) (Obj.cells #[.bool false, .int .u8 0, .int .u8 0, .int .u8 0, .int .u8 0, .int .u8 0, .int .u8 0, .int .u8 0, .int .u8 0, .int .u8 0, .int .u8 0, .int .u8 0, .int .u8 0, .int .u8 0, .int .u8 0, .int .u8 0, .int .u8 0] 24))
  have HR2 := hid (heap3_2 w (Obj.cells HC 107) (Obj.cells X 24) (Obj.cells #[.bool false, .int .u8 0, .int .u8 0, .int .u8 0, .int .u8 0, .int .u8 0, .int .u8 0, .int .u8 0, .int .u8 0, .int .u8 0, .int .u8 0, .int .u8 0, .int .u8 0, .int .u8 0, .int .u8 0, .int .u8 0, .int .u8 0] 24))
  have HBV : Hid (Below w.heap.size w (((w.alloc (Obj.cells HC 107)).alloc (Obj.cells X 24)).alloc (Obj.cells #[.bool false, .int .u8 0, .int .u8 0, .int .u8 0, .int .u8 0, .int .u8 0, .int .u8 0, .int .u8 0, .int .u8 0, .int .u8 0, .int .u8 0, .int .u8 0, .int .u8 0, .int .u8 0, .int .u8 0, .int .u8 0, .int .u8 0] 24))) := alloc_below (alloc_below (alloc_below (Below.refl _ w) (Nat.le_refl _) _) (by simp) _) (by simp; omega) _
  have hsz : (((w.alloc (Obj.cells HC 107)).alloc (Obj.cells X 24)).alloc (Obj.cells #[.bool false, .int .u8 0, .int .u8 0, .int .u8 0, .int .u8 0, .int .u8 0, .int .u8 0, .int .u8 0, .int .u8 0, .int .u8 0, .int .u8 0, .int .u8 0, .int .u8 0, .int .u8 0, .int .u8 0, .int .u8 0, .int .u8 0] 24)).heap.size = w.heap.size + 3 := by simp
  have HSZ := hid hsz
  clear hsz HLL
  generalize ((w.alloc (Obj.cells HC 107)).alloc (Obj.cells X 24)).alloc (Obj.cells #[.bool false, .int .u8 0, .int .u8 0, .int .u8 0, .int .u8 0, .int .u8 0, .int .u8 0, .int .u8 0, .int .u8 0, .int .u8 0, .int .u8 0, .int .u8 0, .int .u8 0, .int .u8 0, .int .u8 0, .int .u8 0, .int .u8 0] 24) = V at hl HR0 HR2 HBV HSZ ⊢
  rw [hl]
  simp only [Result.andThen_ok]
  clear hl
  go_wp2_with (first
    | (refine wpList_built rfl 24 _ rfl (acs true B) HBU.out ?_)
    | (refine store_addr rfl _ _ rfl V.heap.size true B hB rfl rfl _ (heap_alloc_new V _) rfl ?_)
    | fail)
  intro W1 hO1 hW1
  have HW1 := hid hW1
  have HHD : Hid (BytesAt W1 (some ⟨w.heap.size, 0, none⟩) h) := HLB.out ((hO1.block _ (by have := HSZ.out; omega)).trans ((Below.heap_alloc _ _ _ (by have := HSZ.out; omega)).trans HR0.out))
  have HRS : Hid (W1.heap[w.heap.size + 1 + 1]? = _) := (hO1.block _ (by have := HSZ.out; omega)).trans ((Below.heap_alloc _ _ _ (by have := HSZ.out; omega)).trans HR2.out)
  have HB1 : Hid (Below w.heap.size w W1) := (alloc_below HBV.out HBV.out.size _).trans (hO1.below HBV.out.size)
  have hge : w.heap.size + 1 + 1 < V.heap.size := by have := HSZ.out; omega
  clear hW1 hO1
  go_wp2_with fail
  have hBz : (acs true B).size = 17 := acs_size true B hB
  go_region_law ((refine step_copy_in (by rfl) _ _ (by rfl) V.heap.size 1 16 16 12 12 (some ⟨w.heap.size, 0, none⟩) h (by rfl) (by rfl) hh.symm 24 (acs true B) (by exact HHD.out) (by omega) (by exact HW1.out) (by omega) ?_; intro W3 hO3 hW3))
  all_goals
    rw [HOV.out] at hW3
    have HW3 := hid hW3
    have HRS3 : Hid (W3.heap[w.heap.size + 1 + 1]? = _) := (hO3.block _ (by omega)).trans HRS.out
    have HB3 : Hid (Below w.heap.size w W3) := (HB1.out.trans (below_drewN _ _ 1)).trans (hO3.below HBV.out.size)
    clear hW3 hO3
    go_wp2_with (first
      | (refine load_addr rfl _ rfl V.heap.size true (behL h B) HBL.out rfl (0, 0) HW3.out ?_)
      | (refine store_addr rfl _ _ rfl (w.heap.size + 1 + 1) true (behL h B) HBL.out rfl rfl _ HRS3.out rfl ?_)
      | fail)
    intro W4 hO4 hW4
    go_wp2
    exact bodyPost_ret (ret_addr Tryz.results76 _ _ (w.heap.size + 1 + 1) true (behL h B) HBL.out (0, 0) rfl hW4) rfl ⟨rfl, HB3.out.trans (hO4.below (by omega))⟩

def mapH : List UInt8 := [0, 0, 0, 0, 0, 0, 0, 0, 0, 0, 255, 255]
def natH : List UInt8 := [0, 100, 255, 155, 0, 0, 0, 0, 0, 0, 0, 0]
def comH : List UInt8 := [0, 0, 0, 0, 0, 0, 0, 0, 0, 0, 0, 0]
set_option maxHeartbeats 1000000 in
theorem mapped_any (v : Bool) (B : List UInt8) (hB : B.length = 16) (w : World) : Calls Tryz.prog 52 #[.agg (acs v B)] w fun e w' => e = .returned (.agg (acs true (behL mapH B))) ∧ Below w.heap.size w w' := by
  have HBE : Hid (∀ W, Calls Tryz.prog 76 #[.agg #[.int .u8 0, .int .u8 0, .int .u8 0, .int .u8 0, .int .u8 0, .int .u8 0, .int .u8 0, .int .u8 0, .int .u8 0, .int .u8 0, .int .u8 255, .int .u8 255], .agg (acs v B)] W fun e w' => e = .returned (.agg (acs true (behL mapH B))) ∧ Below W.heap.size W w') := fun W => behind_any mapH rfl v B hB W
  have HBL := hid (behL_len mapH B rfl hB)
  have HLD : Hid (∀ Z, (loadI 24 (.pointer (some ⟨w.heap.size, 0, none⟩))).run Tryz.prog ((w.alloc (.cells (acs v B) 24)).alloc Z) = .ok (.agg (acs v B)) ((w.alloc (.cells (acs v B) 24)).alloc Z)) := fun Z => loadA_row hB ((Below.heap_alloc _ _ _ (by simp)).trans (heap_alloc_new w _))
  generalize acs v B = X at HBE HLD ⊢
  generalize behL mapH B = R at HBE HBL ⊢
  have hld := HLD.out
  go_enter Tryz.func52, Tryz.ntmps52
  go_wp2_with fail
  refine (HBE.out _).mono ?_
  rintro e W1 ⟨rfl, hb1⟩
  have HR := hid (row2 hb1)
  clear hb1 hld
  go_wp2_with (first
    | (refine store_addr rfl _ _ rfl (w.heap.size + 1) true R HBL.out rfl rfl _ HR.out.1 rfl ?_)
    | fail)
  intro W2 hO2 hW2
  go_wp2
  exact bodyPost_ret (ret_addr Tryz.results52 _ _ (w.heap.size + 1) true R HBL.out (0, 0) rfl hW2) rfl ⟨rfl, HR.out.2.2.1.trans (hO2.below (by omega))⟩
set_option maxHeartbeats 1000000 in
theorem nat64_any (v : Bool) (B : List UInt8) (hB : B.length = 16) (w : World) : Calls Tryz.prog 60 #[.agg (acs v B)] w fun e w' => e = .returned (.agg (acs true (behL natH B))) ∧ Below w.heap.size w w' := by
  have HBE : Hid (∀ W, Calls Tryz.prog 76 #[.agg #[.int .u8 0, .int .u8 100, .int .u8 255, .int .u8 155, .int .u8 0, .int .u8 0, .int .u8 0, .int .u8 0, .int .u8 0, .int .u8 0, .int .u8 0, .int .u8 0], .agg (acs v B)] W fun e w' => e = .returned (.agg (acs true (behL natH B))) ∧ Below W.heap.size W w') := fun W => behind_any natH rfl v B hB W
  have HBL := hid (behL_len natH B rfl hB)
  have HLD : Hid (∀ Z, (loadI 24 (.pointer (some ⟨w.heap.size, 0, none⟩))).run Tryz.prog ((w.alloc (.cells (acs v B) 24)).alloc Z) = .ok (.agg (acs v B)) ((w.alloc (.cells (acs v B) 24)).alloc Z)) := fun Z => loadA_row hB ((Below.heap_alloc _ _ _ (by simp)).trans (heap_alloc_new w _))
  generalize acs v B = X at HBE HLD ⊢
  generalize behL natH B = R at HBE HBL ⊢
  have hld := HLD.out
  go_enter Tryz.func60, Tryz.ntmps60
  go_wp2_with fail
  refine (HBE.out _).mono ?_
  rintro e W1 ⟨rfl, hb1⟩
  have HR := hid (row2 hb1)
  clear hb1 hld
  go_wp2_with (first
    | (refine store_addr rfl _ _ rfl (w.heap.size + 1) true R HBL.out rfl rfl _ HR.out.1 rfl ?_)
    | fail)
  intro W2 hO2 hW2
  go_wp2
  exact bodyPost_ret (ret_addr Tryz.results60 _ _ (w.heap.size + 1) true R HBL.out (0, 0) rfl hW2) rfl ⟨rfl, HR.out.2.2.1.trans (hO2.below (by omega))⟩
set_option maxHeartbeats 1000000 in
theorem compatible_any (v : Bool) (B : List UInt8) (hB : B.length = 16) (w : World) : Calls Tryz.prog 61 #[.agg (acs v B)] w fun e w' => e = .returned (.agg (acs true (behL comH B))) ∧ Below w.heap.size w w' := by
  have HBE : Hid (∀ W, Calls Tryz.prog 76 #[.agg #[.int .u8 0, .int .u8 0, .int .u8 0, .int .u8 0, .int .u8 0, .int .u8 0, .int .u8 0, .int .u8 0, .int .u8 0, .int .u8 0, .int .u8 0, .int .u8 0], .agg (acs v B)] W fun e w' => e = .returned (.agg (acs true (behL comH B))) ∧ Below W.heap.size W w') := fun W => behind_any comH rfl v B hB W
  have HBL := hid (behL_len comH B rfl hB)
  have HLD : Hid (∀ Z, (loadI 24 (.pointer (some ⟨w.heap.size, 0, none⟩))).run Tryz.prog ((w.alloc (.cells (acs v B) 24)).alloc Z) = .ok (.agg (acs v B)) ((w.alloc (.cells (acs v B) 24)).alloc Z)) := fun Z => loadA_row hB ((Below.heap_alloc _ _ _ (by simp)).trans (heap_alloc_new w _))
  generalize acs v B = X at HBE HLD ⊢
  generalize behL comH B = R at HBE HBL ⊢
  have hld := HLD.out
  go_enter Tryz.func61, Tryz.ntmps61
  go_wp2_with fail
  refine (HBE.out _).mono ?_
  rintro e W1 ⟨rfl, hb1⟩
  have HR := hid (row2 hb1)
  clear hb1 hld
  go_wp2_with (first
    | (refine store_addr rfl _ _ rfl (w.heap.size + 1) true R HBL.out rfl rfl _ HR.out.1 rfl ?_)
    | fail)
  intro W2 hO2 hW2
  go_wp2
  exact bodyPost_ret (ret_addr Tryz.results61 _ _ (w.heap.size + 1) true R HBL.out (0, 0) rfl hW2) rfl ⟨rfl, HR.out.2.2.1.trans (hO2.below (by omega))⟩
end Go.Proofs.YtocdjgehjiolhaaGreatDoor
