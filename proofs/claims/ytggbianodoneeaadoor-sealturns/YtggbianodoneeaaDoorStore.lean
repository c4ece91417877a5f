
/- What mac.Store, mac.Match and the reference's Secret do. -/
import Derived.Test.YtggbianodoneeaaDoorRefMac
import Derived.Test.YtggbianodoneeaaDoorSameLaw
import Derived.Lib.ConvBytes
namespace Go.Proofs.YtggbianodoneeaaDoor
open Go.RowKit
set_option linter.unusedSimpArgs false
set_option linter.unusedVariables false

theorem size44 : (Tryd.prog.info? 38).map (·.size) = some 16 := by kernel_rfl
theorem size44' (b : List UInt8) (h : b.length = 16) : (Tryd.prog.info? 38).map (·.size) = some (bcs b).size := by rw [size44, bcs_size, h]
theorem conv_in (w : World) (s : ByteArray) : ∃ cap W1, (convert 9 31 (.string s)).run Tryd.prog w = .ok (.slice (some ⟨w.heap.size, 0, none⟩) s.size cap) W1 ∧ BytesAt W1 (some ⟨w.heap.size, 0, none⟩) s.data.toList ∧ Below w.heap.size w W1 ∧ s.size ≤ cap := by
  refine ⟨_, _, Lib.run_convert_string_bytes w 9 31 5 s Tryd.underlying9 Tryd.underlying31 Tryd.underlying5, fun _ => ⟨w.heap.size, 0, rfl, by rw [Lib.bytesWorld_size]; omega, fun j hj => ?_⟩, ⟨rfl, rfl, rfl, by rw [Lib.bytesWorld_size]; omega, fun k hk => Lib.bytesWorld_at_old w 5 s k hk⟩, grownCap_ge _ _ _ _⟩
  rw [Nat.zero_add]
  exact Lib.bytesWorld_cell w 5 s j (by simpa using hj)
theorem results_row_tmp {P : Program} {fn : Func} {p q : Tmp} {ty : TypeId} (h : fn.results = #[.cell p ty, .tmp q]) (tmps : Array Value) (w : World) (g : Nat) (t : TypeId) (cs : Array Value) (fr : Nat × Nat) (d : TypeDesc) (v : Value)
    (hp : tmps[p]? = some (.pointer (some ⟨g, 0, none⟩))) (hq : tmps[q]? = some v) (hg : w.heap[g]? = some (.cells cs t fr)) (hu : P.underlying ty = some d) (hd : (match d with | .struct _ | .array _ _ => true | _ => false) = true) (hi : (P.info? ty).map (·.size) = some cs.size) :
    (results fn tmps).run P w = .ok (.tuple #[.agg cs, v]) w := by
  simp [results, h, hp, hq, asAddr, run_loadVar_row w g t ty cs fr d hg hu hd hi]
def errNo (s : ByteArray) : Int := if s.size < 8 then 1 else if 128 < s.size then 3 else 0
theorem err_ok {s : ByteArray} (he : errNo s = 0) : s.size ≤ 128 := by
  unfold errNo at he
  by_cases h2 : 128 < s.size
  · by_cases h1 : s.size < 8
    · omega
    · rw [if_neg h1, if_pos h2] at he; cases he
  · omega
def stored (salt : List UInt8) (s : ByteArray) : List UInt8 := if errNo s = 0 then hmac salt s.data.toList else zer 32
theorem stored_len (salt : List UInt8) (s : ByteArray) : (stored salt s).length = 32 := by unfold stored; split; exact hmac_len _ _; exact zer_len 32
theorem ba_len (s : ByteArray) : s.data.toList.length = s.size := by simp

end Go.Proofs.YtggbianodoneeaaDoor
