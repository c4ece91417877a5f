
/- That the statements of layer 6 are awake; what cidr.Has does. -/
import Derived.Test.YtocdjgehjiolhaaCiAll
import Derived.Test.YtocdjgehjiolhaaIpRefP
namespace Go.Proofs.Ytocdjgehjiolhaa
open Go.RowKit Go.BigFrame
attribute [local go_sem ↓] loadA_eq loadN_eq

def tenT : ByteArray := ⟨#[58, 58, 102, 102, 102, 102, 58, 49, 48, 46, 48, 46, 48, 46, 49]⟩
def eightT : ByteArray := ⟨#[56, 46, 56, 46, 56, 46, 56]⟩
theorem ten_parse : parseA tenT.data.toList = some (true, behL mapH (v4L 10 0 0 1)) := by decide +kernel
theorem eight_parse : parseA eightT.data.toList = some (false, v4L 8 8 8 8) := by decide +kernel
theorem ref_ten (w : World) : Calls Try.prog 23 #[.string ⟨#[58, 58, 102, 102, 102, 102, 58, 49, 48, 46, 48, 46, 48, 46, 49]⟩] w fun e w' => e = .returned (.tuple #[.agg (acs true (behL mapH (v4L 10 0 0 1))), .bool true]) ∧ Below w.heap.size w w' := by
  have h := refParse_any tenT (by decide) w
  rw [ten_parse] at h
  exact h
theorem ref_eight (w : World) : Calls Try.prog 23 #[.string ⟨#[56, 46, 56, 46, 56, 46, 56]⟩] w fun e w' => e = .returned (.tuple #[.agg (acs false (v4L 8 8 8 8)), .bool true]) ∧ Below w.heap.size w w' := by
  have h := refParse_any eightT (by decide) w
  rw [eight_parse] at h
  exact h
theorem allow_ten (w : World) : Calls Try.prog 12 #[.agg (acs true (behL mapH (v4L 10 0 0 1))), .slice none 0 0] w fun e w' => e = .returned (.int .i64 8) ∧ Below w.heap.size w w' := by
  have h := allow_nil true (behL mapH (v4L 10 0 0 1)) rfl w
  rw [wake_ten] at h
  exact h
theorem allow_eight (w : World) : Calls Try.prog 12 #[.agg (acs false (v4L 8 8 8 8)), .slice none 0 0] w fun e w' => e = .returned (.int .i64 0) ∧ Below w.heap.size w w' := by
  have h := allow_nil false (v4L 8 8 8 8) rfl w
  rw [wake_eight] at h
  exact h
set_option maxHeartbeats 2000000 in
theorem awake6 (w : World) : Calls Try.prog 11 #[] w fun e w' => e = .returned (.bool true) ∧ Below w.heap.size w w' := by
  have H1 := hid ref_ten
  have H2 := hid ref_eight
  have H3 := hid allow_ten
  have H4 := hid allow_eight
  have H5 := hid forbidden_any
  have HL1 : Hid ((behL mapH (v4L 10 0 0 1)).length = 16) := rfl
  have HL2 : Hid ((v4L 8 8 8 8).length = 16) := rfl
  generalize behL mapH (v4L 10 0 0 1) = TB at H1 H3 HL1
  generalize v4L 8 8 8 8 = EB at H2 H4 HL2
  generalize forbCells.toArray = FC at H5
  go_enter Try.func11, Try.ntmps11
  go_wp2_with fail
  refine (H1.out _).mono ?_
  rintro e W1 ⟨rfl, hb1⟩
  have HB1 := hid hb1
  clear hb1
  go_wp2_with (first
    | (refine store_addr rfl _ _ rfl W1.heap.size true TB HL1.out rfl rfl _ (heap_alloc_new W1 _) rfl ?_)
    | fail)
  intro W2 hO2 hW2
  have HB2 : Hid (Below w.heap.size w W2) := (alloc_below HB1.out HB1.out.size _).trans (hO2.below HB1.out.size)
  have HW2 := hid hW2
  have z2 : W1.heap.size < W2.heap.size := by rw [hO2.size]; simp
  clear hO2 hW2
  go_wp2_with fail
  refine (H2.out _).mono ?_
  rintro e W3 ⟨rfl, hb3⟩
  have HB3 : Hid (Below w.heap.size w W3) := HB2.out.trans (hb3.mono HB2.out.size)
  have HW3 : Hid (W3.heap[W1.heap.size]? = some (.cells (acs true TB) 24 (0, 0))) := (hb3.block _ z2).trans HW2.out
  have z3 : W1.heap.size < W3.heap.size := Nat.lt_of_lt_of_le z2 hb3.size
  clear hb3
  go_wp2_with (first
    | (refine store_addr rfl _ _ rfl W3.heap.size false EB HL2.out rfl rfl _ (heap_alloc_new W3 _) rfl ?_)
    | fail)
  intro W4 hO4 hW4
  have HB4 : Hid (Below w.heap.size w W4) := (alloc_below HB3.out HB3.out.size _).trans (hO4.below HB3.out.size)
  have HR1 : Hid (W4.heap[W1.heap.size]? = some (.cells (acs true TB) 24 (0, 0))) := (hO4.block _ (by omega)).trans ((Below.heap_alloc _ _ _ z3).trans HW3.out)
  have HR2 := hid hW4
  have z4 : W3.heap.size < W4.heap.size := by rw [hO4.size]; simp
  clear hO4 hW4
  have l1 := loadA_row HL1.out HR1.out
  go_wp2_with fail
  refine (H3.out _).mono ?_
  rintro e W5 ⟨rfl, hb5⟩
  have HB5 : Hid (Below w.heap.size w W5) := HB4.out.trans (hb5.mono HB4.out.size)
  have l2 := loadA_row HL2.out ((hb5.block _ z4).trans HR2.out)
  clear hb5 l1
  go_wp2_with fail
  refine (H4.out _).mono ?_
  rintro e W6 ⟨rfl, hb6⟩
  have HB6 : Hid (Below w.heap.size w W6) := HB5.out.trans (hb6.mono HB5.out.size)
  clear hb6 l2
  go_wp2_with fail
  refine (H5.out _).mono ?_
  rintro e W7 ⟨g, rfl, _, _, hb7⟩
  have HB7 : Hid (Below w.heap.size w W7) := HB6.out.trans (hb7.mono HB6.out.size)
  clear hb7
  go_wp2_with fail
  go_ret
  exact ⟨rfl, HB7.out⟩

/-- Has, as it answers. -/
def hasR (n : NetV) (u : Bool) (C : List UInt8) : Bool := mayV n && mayB u C && hasV n u C
set_option maxHeartbeats 2000000 in
theorem has_any (n : NetV) (hB : n.B.length = 16) (u : Bool) (C : List UInt8) (hC : C.length = 16) (w : World) : Calls Try.prog 7 #[.agg (ncs n), .agg (acs u C)] w fun e w' => e = .returned (.bool (hasR n u C)) ∧ Below w.heap.size w w' := by
  have H1 := hid (fun W => check_net n hB W)
  have H2 := hid (fun W => ipcheck_any u C hC W)
  have H3 : Hid (mayV n = true → mayB u C = true → ∀ W, Calls Try.prog 22 #[.agg (ncs n), .agg (acs u C)] W fun e w' => e = .returned (.bool (hasV n u C)) ∧ Below W.heap.size W w') := fun h1 h2 W => by
    have h := mayN_parts h1
    have := tot_le n.v
    rw [← holdV_has n hB u C hC h1 h2]
    exact holds_any n hB h.2.1 (by omega) u C hC W
  have HRE : Hid (hasR n u C = (mayV n && mayB u C && hasV n u C)) := rfl
  have HLN : Hid (∀ {W : World} {g : Nat}, W.heap[g]? = some (.cells (ncs n) 26 (0, 0)) → (loadI 26 (.pointer (some ⟨g, 0, none⟩))).run Try.prog W = .ok (.agg (ncs n)) W) := fun h => loadN_row hB h
  have HLA : Hid (∀ {W : World} {g : Nat}, W.heap[g]? = some (.cells (acs u C) 24 (0, 0)) → (loadI 24 (.pointer (some ⟨g, 0, none⟩))).run Try.prog W = .ok (.agg (acs u C)) W) := fun h => loadA_row hC h
  generalize hasR n u C = R at HRE ⊢
  generalize hasV n u C = t at HRE H3
  generalize mayV n = m1 at HRE H1 H3
  generalize mayB u C = m2 at HRE H2 H3
  generalize ncs n = X at H1 H3 HLN ⊢
  generalize acs u C = AX at H2 H3 HLA ⊢
  have l0 : (loadI 26 (.pointer (some ⟨w.heap.size, 0, none⟩))).run Try.prog ((w.alloc (.cells X 26)).alloc (.cells AX 24)) = .ok (.agg X) ((w.alloc (.cells X 26)).alloc (.cells AX 24)) := HLN.out ((Below.heap_alloc _ _ _ (by simp)).trans (heap_alloc_new w _))
  go_enter Try.func7, Try.ntmps7
  go_wp2_with fail
  refine (H1.out _).mono ?_
  rintro e W1 ⟨rfl, hb1⟩
  obtain ⟨r2, r1, b1, z1⟩ := row2 hb1
  have HR1 := hid r1; have HR2 := hid r2; have HB1 := hid b1
  clear hb1 r1 r2 b1 l0
  cases m1
  · have HQ : Hid (R = false) := by show _ = _; rw [HRE.out]; rfl
    go_wp2_with fail
    go_ret
    exact ⟨by rw [HQ.out]; rfl, HB1.out⟩
  have l1 := HLA.out HR2.out
  go_wp2_with fail
  refine (H2.out _).mono ?_
  rintro e W2 ⟨rfl, hb2⟩
  have HB2 : Hid (Below w.heap.size w W2) := HB1.out.trans (hb2.mono HB1.out.size)
  have l2 := HLA.out ((hb2.block _ (by omega)).trans HR2.out)
  have l3 := HLN.out ((hb2.block _ (by omega)).trans HR1.out)
  clear hb2 l1
  cases m2
  · have HQ : Hid (R = false) := by show _ = _; rw [HRE.out]; rfl
    go_wp2_with fail
    go_ret
    exact ⟨by rw [HQ.out]; rfl, HB2.out⟩
  have HQ : Hid (R = t) := by show _ = _; rw [HRE.out]; rfl
  have H3' := hid (H3.out (by first | rfl | trivial) (by first | rfl | trivial))
  go_wp2_with fail
  refine (H3'.out _).mono ?_
  rintro e W3 ⟨rfl, hb3⟩
  clear l2 l3
  go_wp2_with fail
  go_ret
  exact ⟨by rw [HQ.out]; rfl, HB2.out.trans (hb3.mono HB2.out.size)⟩
end Go.Proofs.Ytocdjgehjiolhaa
