
/- What ip.longestRun does. -/
import Derived.Test.YtocdjgehjiolhaaGreatDoorIpFU
namespace Go.Proofs.YtocdjgehjiolhaaGreatDoor
open Go.RowKit
set_option linter.unusedVariables false

/-- The longest run among those that end by i, and where the run that ends at i begins. -/
structure AtR (g : List Nat) (i a n b : Nat) : Prop where
  le : b ≤ i
  zero : ∀ m, b ≤ m → m < i → g.getD m 0 = 0
  edge : b = 0 ∨ g.getD (b - 1) 0 ≠ 0
  run : a + n ≤ i
  runz : allz g a (a + n) = true
  none : n = 0 → a = 0
  most : ∀ j k, j ≤ k → k ≤ i → allz g j k = true → k - j ≤ n
  first : ∀ j k, j ≤ k → k ≤ i → allz g j k = true → k - j = n → 0 < n → a ≤ j
theorem allz_of (g : List Nat) (i k : Nat) (h : ∀ m, i ≤ m → m < k → g.getD m 0 = 0) : allz g i k = true := by
  unfold allz
  rw [List.all_eq_true]
  intro m hm
  rw [List.mem_range] at hm
  exact decide_eq_true (h (i + m) (by omega) (by omega))
theorem AtR.start (g : List Nat) : AtR g 0 0 0 0 :=
  ⟨Nat.le_refl _, fun m h1 h2 => by omega, .inl rfl, Nat.le_refl _, allz_of _ _ _ (fun m h1 h2 => by omega), fun _ => rfl, fun j k h1 h2 _ => by omega, fun j k h1 h2 _ _ h => by omega⟩
/-- The group i is looked at: b' is where the run that ends behind it begins. -/
theorem AtR.step {g : List Nat} {i a n b : Nat} (h : AtR g i a n b) (b' : Nat) (hb : b' = if g.getD i 0 = 0 then b else i + 1) : (n < i + 1 - b' → AtR g (i + 1) b' (i + 1 - b') b') ∧ (¬ n < i + 1 - b' → AtR g (i + 1) a n b') := by
  have hle := h.le
  have hrun := h.run
  have hb1 : b' ≤ i + 1 := by rw [hb]; split <;> omega
  have hz : ∀ m, b' ≤ m → m < i + 1 → g.getD m 0 = 0 := by
    intro m h1 h2
    rw [hb] at h1
    split at h1
    · rename_i h0
      rcases Nat.lt_or_ge m i with h3 | h3
      · exact h.zero m h1 h3
      · rw [show m = i from by omega]; exact h0
    · omega
  have he : b' = 0 ∨ g.getD (b' - 1) 0 ≠ 0 := by
    rw [hb]
    split
    · exact h.edge
    · rename_i h0
      exact .inr (by rw [Nat.add_sub_cancel]; exact h0)
  have hlast : ∀ j, j ≤ i + 1 → allz g j (i + 1) = true → b' ≤ j := by
    intro j hj hzj
    rcases Nat.lt_or_ge j b' with h1 | h1
    · exfalso
      rcases he with h2 | h2
      · omega
      · exact h2 (run_zero g j (i + 1) (b' - 1) hzj (by omega) (by omega))
    · exact h1
  constructor
  · intro hn
    refine ⟨hb1, hz, he, by omega, allz_of _ _ _ (fun m h1 h2 => hz m h1 (by omega)), fun h0 => by omega, fun j k h1 h2 h3 => ?_, fun j k h1 h2 h3 h4 h5 => ?_⟩
    · rcases Nat.lt_or_ge k (i + 1) with hk | hk
      · have := h.most j k h1 (by omega) h3; omega
      · obtain rfl : k = i + 1 := by omega
        have := hlast j h1 h3; omega
    · rcases Nat.lt_or_ge k (i + 1) with hk | hk
      · have := h.most j k h1 (by omega) h3; omega
      · obtain rfl : k = i + 1 := by omega
        exact hlast j h1 h3
  · intro hn
    refine ⟨hb1, hz, he, by omega, h.runz, h.none, fun j k h1 h2 h3 => ?_, fun j k h1 h2 h3 h4 h5 => ?_⟩
    · rcases Nat.lt_or_ge k (i + 1) with hk | hk
      · exact h.most j k h1 (by omega) h3
      · obtain rfl : k = i + 1 := by omega
        have := hlast j h1 h3; omega
    · rcases Nat.lt_or_ge k (i + 1) with hk | hk
      · exact h.first j k h1 (by omega) h3 h4 h5
      · obtain rfl : k = i + 1 := by omega
        have := hlast j h1 h3; omega
theorem AtR.best {g : List Nat} {a n b : Nat} (h : AtR g 8 a n b) : best g = (a, n) := best_is g a n ⟨h.run, h.runz⟩ h.none h.most h.first
/-- Eight groups as cells. -/
def gcs (g : List Nat) : Array Value := (g.map fun (x : Nat) => Value.int .u16 x).toArray
theorem gcs_size (g : List Nat) : (gcs g).size = g.length := by simp [gcs]
theorem gcs_at (g : List Nat) (j : Nat) (h : j < g.length) : (gcs g)[j]? = some (.int .u16 (g.getD j 0 : Nat)) := by
  simp [gcs, List.getD_eq_getElem?_getD, h]
theorem gcs_one (g : List Nat) : (gcs g).all (·.oneCell') = true := by
  simp only [gcs, List.all_toArray, List.all_eq_true]
  intro v hv
  obtain ⟨x, _, rfl⟩ := List.mem_map.1 hv
  rfl
theorem gcs_info (g : List Nat) (h : g.length = 8) : (Tryz.prog.info? 60).map (·.size) = some (gcs g).size := by rw [gcs_size, h]; kernel_rfl

theorem indexG (cs : Array Value) (k : Nat) (v : Value) (hk : k < 8) (hv : cs[k]? = some v) (w : World) : (Instr.index 60 (.agg cs) (.int .i64 (k : Int))).run Tryz.prog w = .ok v w := by
  have h : Tryz.prog.underlying 60 = some (.array 8 59) := Tryz.underlying60
  simp [Instr.index, asIntOf, run_underlying h, Tryz.sizeOf59, part, Tryz.isAgg59, hv, hk]
set_option maxRecDepth 100000 in
set_option maxHeartbeats 2000000 in
theorem longest_any (g : List Nat) (hl : g.length = 8) (w : World) : Calls Tryz.prog 53 #[.agg (gcs g)] w fun e w' => e = .returned (.tuple #[.int .i64 ((best g).1 : Nat), .int .i64 ((best g).2 : Nat)]) ∧ Below w.heap.size w w' := by
  have HC : Hid (∀ k, k < 8 → (gcs g)[k]? = some (.int .u16 (g.getD k 0 : Nat))) := fun k hk => gcs_at g k (by omega)
  have HI := hid (gcs_info g hl)
  have HS := hid (gcs_size g)
  have HONE := hid (gcs_one g)
  generalize gcs g = X at HC HI HS HONE ⊢
  obtain ⟨p, hp⟩ : ∃ p, p = best g := ⟨_, rfl⟩
  rw [← hp]
  have HP := hid hp
  clear hp
  go_enter Tryz.func53, Tryz.ntmps53
  go_wp2_with (first
    | (refine wpList_load_row rfl 60 _ rfl w.heap.size rfl 60 X (0, 0) _ (heap_alloc_new w _) Tryz.underlying60 rfl HI.out ?_)
    | fail)
  go_wp2_with fail
  go_loopw [4, 5, 6, 10] (fun av nv bv iv wx => ∃ i a n b : Nat, i ≤ 8 ∧ av = .int .i64 (a : Int) ∧ nv = .int .i64 (n : Int) ∧ bv = .int .i64 (b : Int) ∧ iv = .int .i64 (i : Int) ∧ Hid (AtR g i a n b) ∧ Hid (Below w.heap.size w wx)) (fun _ _ _ i _ => 8 - (intOf i).toNat)
  case atStart => exact ⟨0, 0, 0, 0, by omega, rfl, rfl, rfl, rfl, AtR.start g, alloc_below (Below.refl _ w) (Nat.le_refl _) _⟩
  case round =>
    obtain ⟨i, a, n, b, hi, rfl, rfl, rfl, rfl, HR, HB⟩ := hrel
    have hle := HR.out.le
    have hrun := HR.out.run
    by_cases hi8 : (i : Int) < 8
    · have hx := HC.out i (by omega)
      obtain ⟨x, ex⟩ : ∃ x, x = g.getD i 0 := ⟨_, rfl⟩
      rw [← ex] at hx
      have hidx : ∀ W, (Instr.index 60 (.agg X) (.int .i64 (i : Int))).run Tryz.prog W = .ok (.int .u16 (x : Nat)) W := fun W => indexG X i _ (by omega) hx W
      clear hx
      by_cases hx0 : (x : Int) = 0
      · have hx0' : x = 0 := by omega
        subst hx0'
        have HST := hid (HR.out.step b (by rw [← ex, if_pos rfl]))
        clear ex hx0
        by_cases hn : (i : Int) + 1 - b > n
        · have HN := hid (HST.out.1 (by omega))
          go_wp2_with fail
          go_roundw
          case rel => exact ⟨i + 1, b, i + 1 - b, b, by omega, rfl, by go_num, rfl, by go_num, HN, HB⟩
          case measure => simp [intOf]; omega
        · have HN := hid (HST.out.2 (by omega))
          go_wp2_with fail
          go_roundw
          case rel => exact ⟨i + 1, a, n, b, by omega, rfl, rfl, rfl, by go_num, HN, HB⟩
          case measure => simp [intOf]; omega
      · have HST := hid (HR.out.step (i + 1) (by rw [← ex, if_neg (by omega)]))
        have HN := hid (HST.out.2 (by omega))
        clear ex
        go_wp2_with fail
        go_roundw
        case rel => exact ⟨i + 1, a, n, i + 1, by omega, rfl, rfl, by go_num, by go_num, HN, HB⟩
        case measure => simp [intOf]; omega
    · have hk' : i = 8 := by omega
      subst hk'
      have HQ := hid HR.out.best
      go_wp2_with fail
      go_ret2
      refine ⟨?_, HB.out⟩
      rw [HP.out, HQ.out]
      rfl
end Go.Proofs.YtocdjgehjiolhaaGreatDoor
