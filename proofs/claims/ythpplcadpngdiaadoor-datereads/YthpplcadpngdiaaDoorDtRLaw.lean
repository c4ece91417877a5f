
/- What Any does, of both; the law of times that are read: it returns true. -/
import Derived.Test.YthpplcadpngdiaaDoorDtAw
import Derived.Test.YthpplcadpngdiaaDoorDtRR8
namespace Go.Proofs.YthpplcadpngdiaaDoor
set_option linter.unusedVariables false
set_option linter.unusedSimpArgs false
open Go.RowKit Go.BigFrame

theorem refR822_any (l : List UInt8) (hl : l.length ≤ 90000) (w : World) : Calls Tryd.prog 17 #[.string (asS l)] w fun e w' => Told (p822 l) e ∧ Below w.heap.size w w' := by
  unfold p822
  rw [← r822_eq]
  by_cases h : ∃ d m y c z, dropR (lowW l) = [d, m, y, c, z]
  · obtain ⟨d, m, y, c, z, h⟩ := h
    rw [h]
    exact refR822_yes l hl d m y c z h w
  · have hn : ∀ d m y c z, dropR (lowW l) ≠ [d, m, y, c, z] := fun d m y c z e => h ⟨d, m, y, c, z, e⟩
    have e : r822W (dropR (lowW l)) = none := by
      generalize dropR (lowW l) = ws at hn
      unfold r822W
      split
      · next d m y c z => exact absurd rfl (hn d m y c z)
      · rfl
    rw [e]
    exact refR822_no l hl hn w
/-- The text without the white at its ends. -/
def trmL (l : List UInt8) : List UInt8 := (trm (asS l)).data.toList
theorem trmL_len (l : List UInt8) : (trmL l).length ≤ l.length := by
  have := trm_size (asS l)
  rw [asS_size, Lib.size_eq] at this
  exact this
theorem trmL_as (l : List UInt8) : asS (trmL l) = trm (asS l) := asS_of _
theorem trimL_any (l : List UInt8) (hl : l.length ≤ 90000) (w : World) (hT : Lib.Utf8Tabs 2 3 w) : Calls Tryd.prog 52 #[.string (asS l)] w fun e w' => e = .returned (.string (asS (trmL l))) ∧ Below w.heap.size w w' := by
  rw [trmL_as]
  exact trim_any (asS l) w (by rw [asS_size]; omega) hT
theorem refTrimL_any (l : List UInt8) (hl : l.length ≤ 90000) (w : World) : Calls Tryd.prog 53 #[.string (asS l)] w fun e w' => e = .returned (.string (asS (trmL l))) ∧ w' = w := by
  refine (refTrim_any (asS l) w (by rw [asS_size]; omega)).mono ?_
  rintro e w' ⟨⟨a, b, ht, rfl⟩, rfl⟩
  refine ⟨?_, rfl⟩
  obtain ⟨a', b', ht', e'⟩ := trimF_is (asS l)
  have h1 := isTrim_one ht ht'
  rw [trmL_as]
  unfold trm
  rw [e']
  unfold trimB
  rw [← h1, ext_asS]
  rfl
def anyL (l : List UInt8) : Option Int := match p3339 (trmL l) with
  | some v => some v
  | none => p822 (trmL l)
set_option maxHeartbeats 1000000 in
theorem any_any (l : List UInt8) (hl : l.length ≤ 90000) (w : World) (hT : TabD w) (hU : Lib.Utf8Tabs 2 3 w) : Calls Tryd.prog 18 #[.string (asS l)] w fun e w' => e = .returned (optT (anyL l)) ∧ Below w.heap.size w w' := by
  have H1 := hid (trimL_any l hl w hU)
  have hl2 : (trmL l).length ≤ 90000 := Nat.le_trans (trmL_len l) hl
  have H2 := hid (fun W => p3339_any (trmL l) (by omega) W)
  have H3 := hid (fun W h => p822_any (trmL l) (by omega) W h)
  have HTT := hid hT
  unfold anyL
  clear hT hU
  generalize p3339 (trmL l) = A at *
  generalize p822 (trmL l) = B at *
  generalize asS (trmL l) = s1 at *
  generalize asS l = s0 at *
  cases A with
  | some v =>
    change Hid (∀ W : World, Calls Tryd.prog 14 #[.string s1] W fun e w' => e = .returned (.tuple #[.int .i64 v, .int .i64 0]) ∧ Below W.heap.size W w') at H2
    go_enter Tryd.func18, Tryd.ntmps18
    go_wp2_with (first
      | (go_at_call 52; refine H1.out.mono ?_; rintro e w1 ⟨rfl, hb1⟩)
      | (go_at_call 14; refine (H2.out _).mono ?_; rintro e w2 ⟨rfl, hb2⟩)
      | fail)
    go_ret2
    exact ⟨rfl, b_two hb1 hb2⟩
  | none =>
    change Hid (∀ W : World, Calls Tryd.prog 14 #[.string s1] W fun e w' => e = .returned (.tuple #[.int .i64 0, .int .i64 5]) ∧ Below W.heap.size W w') at H2
    show Calls Tryd.prog 18 #[.string s0] w fun e w' => e = .returned (optT B) ∧ Below w.heap.size w w'
    cases B
    all_goals unfold optT at H3
    all_goals go_enter Tryd.func18, Tryd.ntmps18
    all_goals go_wp2_with (first
      | (go_at_call 52; refine H1.out.mono ?_; rintro e w1 ⟨rfl, hb1⟩)
      | (go_at_call 14; refine (H2.out _).mono ?_; rintro e w2 ⟨rfl, hb2⟩)
      | (go_at_call 16; refine (H3.out _ (HTT.out.below (b_two hb1 hb2))).mono ?_; rintro e w3 ⟨rfl, hb3⟩)
      | fail)
    all_goals go_ret2
    all_goals exact ⟨rfl, b_two (b_two hb1 hb2) hb3⟩
set_option maxHeartbeats 1000000 in
theorem refAny_any (l : List UInt8) (hl : l.length ≤ 90000) (w : World) : Calls Tryd.prog 19 #[.string (asS l)] w fun e w' => Told (anyL l) e ∧ Below w.heap.size w w' := by
  have H1 := hid (fun W => refTrimL_any l hl W)
  have hl2 : (trmL l).length ≤ 90000 := Nat.le_trans (trmL_len l) hl
  have H2 := hid (fun W => refR3339_any (trmL l) hl2 W)
  have H3 := hid (fun W => refR822_any (trmL l) hl2 W)
  unfold anyL
  generalize p3339 (trmL l) = A at *
  generalize p822 (trmL l) = B at *
  generalize asS (trmL l) = s1 at *
  generalize asS l = s0 at *
  cases A with
  | some v =>
    go_enter Tryd.func19, Tryd.ntmps19
    go_wp2_with (first
      | (go_at_call 53; refine (H1.out _).mono ?_; rintro e w1 ⟨rfl, rfl⟩)
      | (go_at_call 15; refine (H2.out _).mono ?_; rintro e w2 ⟨⟨n, rfl, hn⟩, hb2⟩; obtain rfl := hn v rfl; clear hn; simp only [Option.isSome_some])
      | fail)
    go_ret2
    exact ⟨told_some rfl rfl rfl, hb2⟩
  | none =>
    show Calls Tryd.prog 19 #[.string s0] w fun e w' => Told B e ∧ Below w.heap.size w w'
    cases B
    all_goals go_enter Tryd.func19, Tryd.ntmps19
    all_goals go_wp2_with (first
      | (go_at_call 53; refine (H1.out _).mono ?_; rintro e w1 ⟨rfl, rfl⟩)
      | (go_at_call 15; refine (H2.out _).mono ?_; rintro e w2 ⟨⟨n, rfl, hn⟩, hb2⟩; clear hn; simp only [Option.isSome_none])
      | (go_at_call 17; refine (H3.out _).mono ?_; rintro e w3 ⟨⟨n3, rfl, hn3⟩, hb3⟩; (have HN3 := hid hn3); clear hn3)
      | fail)
    all_goals go_ret2
    all_goals exact ⟨⟨_, rfl, HN3.out⟩, b_two hb2 hb3⟩
def tvI (o : Option Int) : Int := o.getD 0
def teI (o : Option Int) : Int := if o.isSome then 0 else 5
theorem optT_I (o : Option Int) : optT o = .tuple #[.int .i64 (tvI o), .int .i64 (teI o)] := by cases o <;> rfl
set_option maxHeartbeats 1000000 in
theorem same_of (o : Option Int) (n : Int) (hn : ∀ v, o = some v → n = v) (w : World) : Calls Tryd.prog 20 #[.int .i64 (tvI o), .int .i64 (teI o), .int .i64 n, .bool o.isSome] w fun e w' => e = .returned (.bool true) ∧ w' = w := by
  cases o with
  | none =>
    show Calls Tryd.prog 20 #[.int .i64 0, .int .i64 5, .int .i64 n, .bool false] w fun e w' => e = .returned (.bool true) ∧ w' = w
    clear hn
    go_enter Tryd.func20, Tryd.ntmps20
    go_wp2_with fail
    go_ret
    exact ⟨rfl, rfl⟩
  | some t =>
    obtain rfl := hn t rfl
    clear hn
    show Calls Tryd.prog 20 #[.int .i64 n, .int .i64 0, .int .i64 n, .bool true] w fun e w' => e = .returned (.bool true) ∧ w' = w
    go_enter Tryd.func20, Tryd.ntmps20
    go_wp2_with fail
    go_ret
    exact ⟨rfl, rfl⟩
set_option maxHeartbeats 2000000 in
set_option maxRecDepth 1000000 in
theorem reads_light (l : List UInt8) (hl : l.length ≤ 500) (w : World) (hT : TabD w) (hU : Lib.Utf8Tabs 2 3 w) : Calls Tryd.prog 5 #[.string (asS l)] w fun e w' => e = .returned (.bool true) ∧ Below w.heap.size w w' := by
  have H1 := hid (fun W => p3339_any l (by omega) W)
  have H2 := hid (fun W => refR3339_any l (by omega) W)
  have H3 := hid (fun W h => p822_any l (by omega) W h)
  have H4 := hid (fun W => refR822_any l (by omega) W)
  have H5 := hid (fun W h h' => any_any l (by omega) W h h')
  have H6 := hid (fun W => refAny_any l (by omega) W)
  have S1 := hid (fun n h W => same_of (p3339 l) n h W)
  have S2 := hid (fun n h W => same_of (p822 l) n h W)
  have S3 := hid (fun n h W => same_of (anyL l) n h W)
  have HA := hid (fun W h => awake14 W h)
  rw [optT_I] at H1 H3 H5
  have g5 : ¬ 500 < ((asS l).size : Int) := by rw [asS_size]; omega
  have HTT := hid hT
  have HUU := hid hU
  clear hT hU
  unfold Told at H2 H4 H6
  generalize (p3339 l).isSome = o1 at *
  generalize (p822 l).isSome = o2 at *
  generalize (anyL l).isSome = o3 at *
  generalize tvI (p3339 l) = a1 at *
  generalize tvI (p822 l) = a2 at *
  generalize tvI (anyL l) = a3 at *
  generalize teI (p3339 l) = e1 at *
  generalize teI (p822 l) = e2 at *
  generalize teI (anyL l) = e3 at *
  generalize p3339 l = P1 at *
  generalize p822 l = P2 at *
  generalize anyL l = P3 at *
  generalize asS l = s at *
  go_enter Tryd.func5, Tryd.ntmps5
  go_wp2_with fail
  refine (H1.out _).mono ?_
  rintro e w1 ⟨rfl, hb1⟩
  go_wp2_with fail
  refine (H2.out _).mono ?_
  rintro e w2 ⟨⟨n1, rfl, hn1⟩, hb2⟩
  have S1' := hid (S1.out n1 hn1)
  have HB2 := hid (b_two hb1 hb2)
  clear hn1 S1 hb1 hb2
  have HT2 := hid (HTT.out.below HB2.out)
  go_wp2_with fail
  refine (H3.out _ HT2.out).mono ?_
  rintro e w3 ⟨rfl, hb3⟩
  go_wp2_with fail
  refine (H4.out _).mono ?_
  rintro e w4 ⟨⟨n2, rfl, hn2⟩, hb4⟩
  have S2' := hid (S2.out n2 hn2)
  have HB4 := hid (b_two (b_two HB2.out hb3) hb4)
  clear hn2 S2 hb3 hb4 HB2 HT2
  have HT4 := hid (HTT.out.below HB4.out)
  have HU4 := hid (tabs_below HUU.out HB4.out)
  go_wp2_with fail
  refine (H5.out _ HT4.out HU4.out).mono ?_
  rintro e w5 ⟨rfl, hb5⟩
  go_wp2_with fail
  refine (H6.out _).mono ?_
  rintro e w6 ⟨⟨n3, rfl, hn3⟩, hb6⟩
  have S3' := hid (S3.out n3 hn3)
  have HB6 := hid (b_two (b_two HB4.out hb5) hb6)
  clear hn3 S3 hb5 hb6 HB4 HT4 HU4
  have HT6 := hid (HTT.out.below HB6.out)
  go_wp2_with fail
  refine (S1'.out _).mono ?_
  rintro e w7 ⟨rfl, rfl⟩
  go_wp2_with fail
  refine (S2'.out _).mono ?_
  rintro e w7 ⟨rfl, rfl⟩
  go_wp2_with fail
  refine (S3'.out _).mono ?_
  rintro e w7 ⟨rfl, rfl⟩
  go_wp2_with fail
  refine (HA.out _ HT6.out).mono ?_
  rintro e w8 ⟨rfl, hb8⟩
  go_wp2_with fail
  go_ret
  exact ⟨rfl, b_two HB6.out hb8⟩
set_option maxHeartbeats 1000000 in
theorem dateReads_law (s : ByteArray) (w : World) (hT : TabD w ∧ Lib.Utf8Tabs 2 3 w) : Calls Tryd.prog 5 #[.string s] w fun e w' => e = .returned (.bool true) ∧ Below w.heap.size w w' := by
  by_cases h : s.size ≤ 500
  · have := reads_light s.data.toList (by rw [← Lib.size_eq]; exact h) w hT.1 hT.2
    rw [asS_of] at this
    exact this
  · have g5 : 500 < (s.size : Int) := by omega
    have HA := hid (fun W h => awake14 W h)
    have HTT := hid hT.1
    clear hT h
    go_enter Tryd.func5, Tryd.ntmps5
    go_wp2_with (first
      | (go_at_call 10; refine (HA.out _ HTT.out).mono ?_; rintro e w1 ⟨rfl, hb1⟩)
      | fail)
    go_ret
    exact ⟨rfl, hb1⟩
end Go.Proofs.YthpplcadpngdiaaDoor
