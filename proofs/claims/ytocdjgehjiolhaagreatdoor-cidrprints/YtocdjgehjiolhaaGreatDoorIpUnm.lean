
/- What ip.unspecifiedOrLoopback, Unmap and Embeds do. -/
import Derived.Test.YtocdjgehjiolhaaGreatDoorIpBeh
namespace Go.Proofs.YtocdjgehjiolhaaGreatDoor
open Go.RowKit
attribute [local go_sem ↓] loadA_eq

abbrev REG (f : Nat) (args : Array Value) (V : World) (x : Value) : Prop := ∀ d os, Calls Tryz.prog f args (Sort.grow (redrawn V d) os) fun e w'' => e = .returned x ∧ ∃ p : Regrown, w'' = Sort.grow (redrawn V p.d) p.os
abbrev LDA (V : World) (g : Nat) (X : Array Value) : Prop := ∀ d os, (loadI 24 (.pointer (some ⟨g, 0, none⟩))).run Tryz.prog (Sort.grow (redrawn V d) os) = .ok (.agg X) (Sort.grow (redrawn V d) os)
theorem eqV (v u : Bool) (B C : List UInt8) (hB : B.length = 16) (hC : C.length = 16) (t : Bool) (ht : t = decide (v = u ∧ B = C)) (W : World) : (Op.equalIn 10000 24 (.agg (acs v B)) (.agg (acs u C))).run Tryz.prog W = .ok t W := by
  rw [eqA v u B C hB hC W, ht]

set_option maxHeartbeats 1000000 in
theorem unspec_any (v : Bool) (B : List UInt8) (hB : B.length = 16) (w : World) (t1 t2 : Bool) (h1 : t1 = decide (v = false ∧ B = v4L 0 0 0 0)) (h2 : t2 = decide (v = false ∧ B = v4L 0 0 0 1)) : Calls Tryz.prog 62 #[.agg (acs v B)] w fun e w' => e = .returned (.bool (t1 || t2)) ∧ Below w.heap.size w w' := by
  have q1 := fun W => eqV v false B (v4L 0 0 0 0) hB rfl t1 h1 W
  have q2 := fun W => eqV v false B (v4L 0 0 0 1) hB rfl t2 h2 W
  have hg := guardA
  have HV0 : Hid (∀ W, Calls Tryz.prog 40 #[.int .u8 0, .int .u8 0, .int .u8 0, .int .u8 0] W fun e w' => e = .returned (.agg (acs false (v4L 0 0 0 0))) ∧ Below W.heap.size W w') := fun W => v4_any 0 0 0 0 W
  have HV1 : Hid (∀ W, Calls Tryz.prog 40 #[.int .u8 0, .int .u8 0, .int .u8 0, .int .u8 1] W fun e w' => e = .returned (.agg (acs false (v4L 0 0 0 1))) ∧ Below W.heap.size W w') := fun W => v4_any 0 0 0 1 W
  have HLD : Hid (∀ {W : World} {g : Nat}, W.heap[g]? = some (.cells (acs v B) 24 (0, 0)) → LDA W g (acs v B)) := fun h d os => loadA_re hB h d os
  generalize acs v B = X at q1 q2 HLD ⊢
  generalize acs false (v4L 0 0 0 0) = Z0 at q1 HV0
  generalize acs false (v4L 0 0 0 1) = Z1 at q2 HV1
  clear h1 h2
  go_enter Tryz.func62, Tryz.ntmps62
  go_wp2_with fail
  obtain ⟨V, hV⟩ : ∃ V, V = w.alloc (Obj.cells X 24) := ⟨_, rfl⟩
  have HR : Hid (V.heap[w.heap.size]? = some (.cells X 24 (0, 0))) := by rw [hV]; exact heap_alloc_new w _
  have HB : Hid (Below w.heap.size w V) := by rw [hV]; exact alloc_below (Below.refl _ w) (Nat.le_refl _) _
  rw [← hV]
  clear hV
  have k1 : LDA V w.heap.size X := HLD.out HR.out
  have c0 : REG 40 #[.int .u8 0, .int .u8 0, .int .u8 0, .int .u8 0] V (.agg Z0) := fun d os => Calls.regrown_of (HV0.out _)
  have c1 : REG 40 #[.int .u8 0, .int .u8 0, .int .u8 0, .int .u8 1] V (.agg Z1) := fun d os => Calls.regrown_of (HV1.out _)
  cases t1
  · refine wp_region_quiet_below (by kernel_rfl) (by kernel_rfl) ?_
    repeat (quiet_step (first | (go_at_call_of 40 (Value.int IntKind.u8 1); exact c1 _ _) | exact c0 _ _))
    refine wpQuiet_nil ?_
    rintro W9 ⟨⟨dqW9, osqW9⟩, hwW9⟩
    have HQW9 : Hid (Below V.heap.size V W9) := by rw [hwW9]; exact below_regrown V dqW9 osqW9
    clear hwW9
    clear k1 c0 c1 q1 q2 hg HLD HR HV0 HV1
    go_wp2_with fail
    go_ret
    exact ⟨rfl, HB.out.trans (HQW9.out.mono HB.out.size)⟩
  · refine wp_region_quiet_below (by kernel_rfl) (by kernel_rfl) ?_
    repeat (quiet_step (first | (go_at_call_of 40 (Value.int IntKind.u8 1); exact c1 _ _) | exact c0 _ _))
    refine wpQuiet_nil ?_
    rintro W9 ⟨⟨dqW9, osqW9⟩, hwW9⟩
    have HQW9 : Hid (Below V.heap.size V W9) := by rw [hwW9]; exact below_regrown V dqW9 osqW9
    clear hwW9
    clear k1 c0 c1 q1 q2 hg HLD HR HV0 HV1
    go_wp2_with fail
    go_ret
    exact ⟨rfl, HB.out.trans (HQW9.out.mono HB.out.size)⟩

/-- Is it the IPv6 of a head? -/
def isH (h : List UInt8) (v : Bool) (B : List UInt8) : Bool := decide (v = true ∧ B = behL h (lastL B))
def unmB (v : Bool) (B : List UInt8) : List UInt8 := if isH mapH v B then lastL B else B
def unmV (v : Bool) (B : List UInt8) : Bool := if isH mapH v B then false else v
set_option maxHeartbeats 1000000 in
theorem unmap_any (v : Bool) (B : List UInt8) (hB : B.length = 16) (w : World) : Calls Tryz.prog 27 #[.agg (acs v B)] w fun e w' => e = .returned (.agg (acs (unmV v B) (unmB v B))) ∧ Below w.heap.size w w' := by
  obtain ⟨t, ht⟩ : ∃ t, t = isH mapH v B := ⟨_, rfl⟩
  unfold unmV unmB
  rw [← ht]
  have q1 := fun W => eqV v true B (behL mapH (lastL B)) hB rfl t ht W
  have hg := guardA
  have HLF := hid (fun W => last_any v B hB W)
  have HMP := hid (fun W => mapped_any false (lastL B) (lastL_len B) W)
  have HLD : Hid (∀ {W : World} {g : Nat}, W.heap[g]? = some (.cells (acs v B) 24 (0, 0)) → LDA W g (acs v B)) := fun h d os => loadA_re hB h d os
  have HLL := hid (lastL_len B)
  generalize lastL B = LB at q1 HLF HMP HLL ⊢
  have HLD2 : Hid (∀ {W : World} {g : Nat}, W.heap[g]? = some (.cells (acs false LB) 24 (0, 0)) → LDA W g (acs false LB)) := fun h d os => loadA_re HLL.out h d os
  have hl0 : ∀ Z, (loadI 24 (.pointer (some ⟨w.heap.size, 0, none⟩))).run Tryz.prog ((w.alloc (.cells (acs v B) 24)).alloc Z) = .ok (.agg (acs v B)) ((w.alloc (.cells (acs v B) 24)).alloc Z) := fun Z => loadA_row hB ((Below.heap_alloc _ _ _ (by simp)).trans (heap_alloc_new w _))
  generalize acs true (behL mapH LB) = MP at q1 HMP
  clear ht
  go_enter Tryz.func27, Tryz.ntmps27
  go_wp2_with fail
  refine (HLF.out _).mono ?_
  rintro e W1 ⟨rfl, hb1⟩
  have HR := hid (row2 hb1)
  have hz1 : w.heap.size + 2 ≤ W1.heap.size := HR.out.2.2.2
  clear hb1 hl0
  go_wp2_with (first
    | (refine store_addr rfl _ _ rfl W1.heap.size false LB HLL.out rfl rfl _ (heap_alloc_new W1 _) rfl ?_)
    | fail)
  intro V hO hW
  have HR1 : Hid (V.heap[w.heap.size]? = some (.cells (acs v B) 24 (0, 0))) := (hO.block _ (by omega)).trans ((Below.heap_alloc _ _ _ (by omega)).trans HR.out.2.1)
  have HR2 : Hid (V.heap[w.heap.size + 1]? = _) := (hO.block _ (by omega)).trans ((Below.heap_alloc _ _ _ (by omega)).trans HR.out.1)
  have HR3 := hid hW
  have hzV : W1.heap.size < V.heap.size := by rw [hO.size]; simp
  have HB : Hid (Below w.heap.size w V) := (alloc_below HR.out.2.2.1 HR.out.2.2.1.size _).trans (hO.below HR.out.2.2.1.size)
  clear hO hW
  have k1 : LDA V w.heap.size (acs v B) := HLD.out HR1.out
  have k2 : LDA V W1.heap.size (acs false LB) := HLD2.out HR3.out
  have c1 : REG 52 #[.agg (acs false LB)] V (.agg MP) := fun d os => Calls.regrown_of (HMP.out _)
  go_wp2_with fail
  refine wp_region_quiet_below (by kernel_rfl) (by kernel_rfl) ?_
  repeat (quiet_step (first | exact c1 _ _))
  refine wpQuiet_nil ?_
  rintro W9 ⟨⟨dqW9, osqW9⟩, hwW9⟩
  have HQW9 : Hid (Below V.heap.size V W9) := by rw [hwW9]; exact below_regrown V dqW9 osqW9
  clear hwW9
  have HR1' : Hid (W9.heap[w.heap.size]? = some (.cells (acs v B) 24 (0, 0))) := (HQW9.out.block _ (by omega)).trans HR1.out
  have HR2' : Hid (W9.heap[w.heap.size + 1]? = _) := (HQW9.out.block _ (by omega)).trans HR2.out
  have HR3' : Hid (W9.heap[W1.heap.size]? = some (.cells (acs false LB) 24 (0, 0))) := (HQW9.out.block _ hzV).trans HR3.out
  have HB9 : Hid (Below w.heap.size w W9) := HB.out.trans (HQW9.out.mono HB.out.size)
  clear k1 k2 c1 q1 hg
  cases t
  · go_wp2_with (first
      | (refine load_addr rfl _ rfl w.heap.size v B hB rfl (0, 0) HR1'.out ?_)
      | (refine store_addr rfl _ _ rfl (w.heap.size + 1) v B hB rfl rfl _ HR2'.out rfl ?_)
      | fail)
    intro W3 hO3 hW3
    go_wp2
    exact bodyPost_ret (ret_addr Tryz.results27 _ _ (w.heap.size + 1) v B hB (0, 0) rfl hW3) rfl ⟨rfl, HB9.out.trans (hO3.below (by omega))⟩
  · go_wp2_with (first
      | (refine load_addr rfl _ rfl W1.heap.size false LB HLL.out rfl (0, 0) HR3'.out ?_)
      | (refine store_addr rfl _ _ rfl (w.heap.size + 1) false LB HLL.out rfl rfl _ HR2'.out rfl ?_)
      | fail)
    intro W3 hO3 hW3
    go_wp2
    exact bodyPost_ret (ret_addr Tryz.results27 _ _ (w.heap.size + 1) false LB HLL.out (0, 0) rfl hW3) rfl ⟨rfl, HB9.out.trans (hO3.below (by omega))⟩
end Go.Proofs.YtocdjgehjiolhaaGreatDoor
