
/- What MacSame does at every input. -/
import Derived.Test.YtggbianodoneeaaDoorAwake3
namespace Go.Proofs.YtggbianodoneeaaDoor
open Go.RowKit
set_option linter.unusedSimpArgs false
set_option linter.unusedVariables false

theorem str_at {w : World} {A : Option Addr} {l : List UInt8} {c : Nat} (hA : BytesAt w A l) (hz : l.length = 0 → A = none ∧ c = 0 ∨ ∃ x, A = some x) : (convert 31 9 (.slice A l.length c)).run Tryd.prog w = .ok (.string ⟨l.toArray⟩) w := by
  by_cases h0 : 0 < l.length
  · obtain ⟨q, o, h1, h2, h3⟩ := hA h0
    exact str_in hz (fun _ => h1) h2 h3 (Below.refl _ _)
  · obtain rfl := List.length_eq_zero_iff.1 (by omega : l.length = 0)
    rcases hz rfl with ⟨rfl, rfl⟩ | ⟨x, rfl⟩
    · exact str_nil w
    · exact str_of c (fun j v hv => by simp [bvs] at hv) 0 rfl
theorem str_same (a b : List UInt8) : ((⟨a.toArray⟩ : ByteArray).toList == (⟨b.toArray⟩ : ByteArray).toList) = decide (a = b) := by
  rw [ByteArray.toList_eq, ByteArray.toList_eq]
  by_cases h : a = b <;> simp [h]
theorem row_nil {w : World} {a : Option Addr} {len cap : Nat} {zs : List Int} (h : IsRow .u8 w a len cap zs) : len = 0 → a = none ∧ cap = 0 ∨ ∃ x, a = some x := fun _ => by
  rcases h with ⟨h1, _, h2, _⟩ | ⟨x, h1, _⟩
  · exact .inl ⟨h1, h2⟩
  · exact .inr ⟨x, h1⟩

end Go.Proofs.YtggbianodoneeaaDoor
