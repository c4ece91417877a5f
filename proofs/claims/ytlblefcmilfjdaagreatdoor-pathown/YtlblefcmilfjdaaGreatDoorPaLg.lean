
/- What the law's long does. -/
import Derived.Test.YtlblefcmilfjdaaGreatDoorPaPort
namespace Go.Proofs.YtlblefcmilfjdaaGreatDoor
set_option linter.unusedVariables false
set_option linter.unusedSimpArgs false
open Go.RowKit Go.BigFrame

def LongAns (u : UrlV) (e : Ending) : Prop := ∃ b, e = .returned (.bool b) ∧ (b = false → LenU 3000 u)
set_option maxHeartbeats 3000000 in
set_option maxRecDepth 100000 in
/-- Some part is longer than 3000 bytes, or none is. -/
theorem long_any (u : UrlV) (w : World) : Calls Tryz.prog 9 #[.agg (ucs u)] w fun e w' => LongAns u e ∧ Below w.heap.size w w' := by
  have HB : Hid (Below w.heap.size w (w.alloc (.cells (ucs u) 26))) := alloc_below (Below.refl _ w) (Nat.le_refl _) _
  have c0 := cellU (heap_alloc_new w (.cells (ucs u) 26)) 0 (.string (asS u.scheme)) rfl
  have c1 := cellU (heap_alloc_new w (.cells (ucs u) 26)) 1 (.string (asS u.user)) rfl
  have c3 := cellU (heap_alloc_new w (.cells (ucs u) 26)) 3 (.string (asS u.host)) rfl
  have c4 := cellU (heap_alloc_new w (.cells (ucs u) 26)) 4 (.string (asS u.port)) rfl
  have c7 := cellU (heap_alloc_new w (.cells (ucs u) 26)) 7 (.string (asS u.path)) rfl
  have c8 := cellU (heap_alloc_new w (.cells (ucs u) 26)) 8 (.string (asS u.query)) rfl
  have c10 := cellU (heap_alloc_new w (.cells (ucs u) 26)) 10 (.string (asS u.frag)) rfl
  have s0 := asS_size u.scheme
  have s1 := asS_size u.user
  have s2 := asS_size u.host
  have s3 := asS_size u.port
  have s4 := asS_size u.path
  have s5 := asS_size u.query
  have s6 := asS_size u.frag
  obtain ⟨V, hV⟩ : ∃ V, V = w.alloc (Obj.cells (ucs u) 26) := ⟨_, rfl⟩
  by_cases h0 : (3000 : Int) < ((asS u.scheme).size : Int)
  · clear hV s0 s1 s2 s3 s4 s5 s6
    go_enter Tryz.func9, Tryz.ntmps9
    go_wp2_with fail
    go_ret
    exact ⟨⟨_, rfl, fun h => by cases h⟩, HB.out⟩
  by_cases h1 : (3000 : Int) < ((asS u.user).size : Int)
  · clear hV s0 s1 s2 s3 s4 s5 s6
    go_enter Tryz.func9, Tryz.ntmps9
    go_wp2_with fail
    go_ret
    exact ⟨⟨_, rfl, fun h => by cases h⟩, HB.out⟩
  by_cases h2 : (3000 : Int) < ((asS u.host).size : Int)
  · clear hV s0 s1 s2 s3 s4 s5 s6
    go_enter Tryz.func9, Tryz.ntmps9
    go_wp2_with fail
    go_ret
    exact ⟨⟨_, rfl, fun h => by cases h⟩, HB.out⟩
  by_cases h3 : (3000 : Int) < ((asS u.port).size : Int)
  · clear hV s0 s1 s2 s3 s4 s5 s6
    go_enter Tryz.func9, Tryz.ntmps9
    go_wp2_with fail
    go_ret
    exact ⟨⟨_, rfl, fun h => by cases h⟩, HB.out⟩
  by_cases h4 : (3000 : Int) < ((asS u.path).size : Int)
  · clear hV s0 s1 s2 s3 s4 s5 s6
    go_enter Tryz.func9, Tryz.ntmps9
    go_wp2_with fail
    go_ret
    exact ⟨⟨_, rfl, fun h => by cases h⟩, HB.out⟩
  by_cases h5 : (3000 : Int) < ((asS u.query).size : Int)
  · clear hV s0 s1 s2 s3 s4 s5 s6
    go_enter Tryz.func9, Tryz.ntmps9
    go_wp2_with fail
    go_ret
    exact ⟨⟨_, rfl, fun h => by cases h⟩, HB.out⟩
  by_cases h6 : (3000 : Int) < ((asS u.frag).size : Int)
  · clear hV s0 s1 s2 s3 s4 s5 s6
    go_enter Tryz.func9, Tryz.ntmps9
    go_wp2_with fail
    go_ret
    exact ⟨⟨_, rfl, fun h => by cases h⟩, HB.out⟩
  have HL : Hid (LenU 3000 u) := ⟨by omega, by omega, by omega, by omega, by omega, by omega, by omega⟩
  clear hV s0 s1 s2 s3 s4 s5 s6
  go_enter Tryz.func9, Tryz.ntmps9
  go_wp2_with fail
  go_ret
  exact ⟨⟨_, rfl, fun _ => HL.out⟩, HB.out⟩
end Go.Proofs.YtlblefcmilfjdaaGreatDoor
