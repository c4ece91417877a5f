/- What MacSame does at every input. -/
import Derived.Test.YtfiacflggiccaaaDoorAwake3
namespace Go.Proofs.YtfiacflggiccaaaDoor
open Go.RowKit
set_option linter.unusedSimpArgs false
set_option linter.unusedVariables false

theorem str_at {w : World} {A : Option Addr} {l : List UInt8} {c : Nat} (hA : BytesAt w A l) (hz : l.length = 0 → A = none ∧ c = 0 ∨ ∃ x, A = some x) : (convert 22 9 (.slice A l.length c)).run Tryd.prog w = .ok (.string ⟨l.toArray⟩) w := by
  by_cases h0 : 0 < l.length
  · obtain ⟨q, o, h1, h2, h3⟩ := hA h0
    exact str_in hz (fun _ => h1) h2 h3 (Below.refl _ _)
  · obtain rfl := List.length_eq_zero_iff.1 (by omega : l.length = 0)
    rcases hz rfl with ⟨rfl, rfl⟩ | ⟨x, rfl⟩
    · exact str_nil w
    · exact str_of c (fun j v hv => by simp [bvs] at hv) 0 rfl
theorem str_same (a b : List UInt8) : ((⟨a.toArray⟩ : ByteArray).toList == (⟨b.toArray⟩ : ByteArray).toList) = decide (a = b) := by
  rw [ByteArray.toList_eq, ByteArray.toList_eq]
  by_cases h : a = b <;> simp [h]
theorem row_nil {w : World} {a : Option Addr} {len cap : Nat} {zs : List Int} (h : IsRow .u8 w a len cap zs) : len = 0 → a = none ∧ cap = 0 ∨ ∃ x, a = some x := fun _ => by
  rcases h with ⟨h1, _, h2, _⟩ | ⟨x, h1, _⟩
  · exact .inl ⟨h1, h2⟩
  · exact .inr ⟨x, h1⟩

set_option maxRecDepth 100000 in
set_option maxHeartbeats 1000000 in
theorem same_law (a0 : Option Addr) (len0 cap0 : Nat) (z0 : List Int) (a1 : Option Addr) (len1 cap1 : Nat) (z1 : List Int) (w : World) (h0 : IsRow .u8 w a0 len0 cap0 z0) (h1 : IsRow .u8 w a1 len1 cap1 z1) (hT : TabS w) :
    Calls Tryd.prog 7 #[.slice a0 len0 cap0, .slice a1 len1 cap1] w fun e w' => e = .returned (.bool true) ∧ Below w.heap.size w w' := by
  have HAW := hid awake3_any
  have hT1 := hT.lt
  have hm0 := h0.len
  have hm1 := h1.len
  unfold maxLen at hm0 hm1
  have hn0 := row_nil h0
  have hn1 := row_nil h1
  obtain ⟨a, rfl, hc0, hA⟩ := row_at h0 (by omega)
  obtain ⟨b, rfl, hc1, hB⟩ := row_at h1 (by omega)
  have HTD : Hid (∀ n, TabS (w.drewN n)) := fun n => hT.below (below_drewN 2 w n) (by omega)
  have HTE : Hid (TabS w.drew) := hT.below (below_drewN 2 w 1) (by omega)
  obtain ⟨t, ht⟩ : ∃ t, t = decide (a = b) := ⟨_, rfl⟩
  have HSA : Hid (Calls Tryd.prog 22 #[.slice a0 a.length cap0, .slice a1 b.length cap1] w.drew fun e w' => e = .returned (.bool t) ∧ ∃ n, w' = w.drew.drewN n) := same_any a b a0 a1 cap0 cap1 w.drew (by exact hA) (by exact hB) (by omega) t ht
  have s1 : (convert 22 9 (.slice a0 a.length cap0)).run Tryd.prog w.drew = .ok (.string ⟨a.toArray⟩) w.drew := str_at (by exact hA) hn0
  have s2 : (convert 22 9 (.slice a1 b.length cap1)).run Tryd.prog w.drew = .ok (.string ⟨b.toArray⟩) w.drew := str_at (by exact hB) hn1
  have s3 : ∀ n, (convert 22 9 (.slice a0 a.length cap0)).run Tryd.prog (w.drewN n) = .ok (.string ⟨a.toArray⟩) (w.drewN n) := fun n => str_at (by exact hA) hn0
  have s4 : ∀ n, (convert 22 9 (.slice a1 b.length cap1)).run Tryd.prog (w.drewN n) = .ok (.string ⟨b.toArray⟩) (w.drewN n) := fun n => str_at (by exact hB) hn1
  have e0 := str_same a b
  rw [← ht] at e0
  generalize (⟨a.toArray⟩ : ByteArray) = X at s1 s3 e0
  generalize (⟨b.toArray⟩ : ByteArray) = Y at s2 s4 e0
  clear h0 h1 hT hA hB ht hn0 hn1
  cases t
  all_goals
    go_enter Tryd.func7, Tryd.ntmps7
    go_wp2_with fail
    go_region_with ((first
      | (go_at_call 22; refine HSA.out.mono ?_; rintro e w1 ⟨rfl, n, rfl⟩)
      | (go_at_call 19; first | (refine (HAW.out _ (HTD.out _)).mono ?_; rintro e w1 ⟨rfl, hb1⟩) | (refine (HAW.out _ HTE.out).mono ?_; rintro e w1 ⟨rfl, hb1⟩))))
    all_goals
      go_wp2_with fail
      go_ret
      exact ⟨rfl, (below_drewN _ w _).trans (by exact hb1)⟩

end Go.Proofs.YtfiacflggiccaaaDoor
