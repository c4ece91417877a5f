
/- The small fixed question of layer 10: what awake does. -/
import Derived.Test.YtlgfepaicgnkpaaDoorChDec
namespace Go.Proofs.YtlgfepaicgnkpaaDoor
set_option linter.unusedVariables false
set_option linter.unusedSimpArgs false
open Go.RowKit Go.BigFrame

theorem awC1 : decodeC [51, 59, 120, 13, 10, 97, 98, 99, 13, 10, 48, 13, 10, 13, 10, 121] = ([97, 98, 99], 15, 0) := by kernel_rfl
theorem awC2 : szP [43, 51] = -1 := by kernel_rfl
theorem Down.str {w : World} {b : Nat} {d : Value} {o : List UInt8} (h : Down w b d o) : (convert 23 9 d).run Tryd.prog w = .ok (.string (asS o)) w := by
  rcases h with ⟨rfl, rfl⟩ | ⟨g, n, cap, rfl, h2⟩
  · exact str_nil w
  · have := h2.len
    exact str_part h2.bytes h2.len
set_option maxHeartbeats 1000000 in
set_option maxRecDepth 100000 in
theorem awake10 (w : World) (hT : TabC w) : Calls Tryd.prog 10 #[] w fun e w' => e = .returned (.bool true) ∧ Below w.heap.size w w' := by
  have HT := hid hT
  have HD : Hid (∀ W, TabC W → BytesAt W (some ⟨w.heap.size, 0, none⟩) [51, 59, 120, 13, 10, 97, 98, 99, 13, 10, 48, 13, 10, 13, 10, 121] → Calls Tryd.prog 12 #[.slice (some ⟨w.heap.size, 0, none⟩) 16 16] W fun e w' => ∃ v, e = .returned (.tuple #[v, .int .i64 15, .int .i64 0]) ∧ Down w' W.heap.size v [97, 98, 99] ∧ Below W.heap.size W w') := fun W h1 h2 => by
    have := decode_any [51, 59, 120, 13, 10, 97, 98, 99, 13, 10, 48, 13, 10, 13, 10, 121] ⟨w.heap.size, 0, none⟩ 16 (by decide) (by decide) W h1 h2
    rw [awC1] at this
    exact this
  have HS : Hid (∀ W, TabC W → Calls Tryd.prog 16 #[.string ⟨#[43, 51]⟩] W fun e w' => e = .returned (.tuple #[.int .i64 0, .int .i64 5]) ∧ Below W.heap.size W w') := fun W h1 => by
    have := size_any [43, 51] (by decide) W h1
    rw [awC2] at this
    exact this
  have hcv := Lib.run_convert_bytes_const (P := Tryd.prog) w 23 5 (bcs [51, 59, 120, 13, 10, 97, 98, 99, 13, 10, 48, 13, 10, 13, 10, 121]) 16 16 Tryd.underlying23 Tryd.underlying5
  have HB1 := hid (alloc_below (Below.refl w.heap.size w) (Nat.le_refl _) (.cells (bcs [51, 59, 120, 13, 10, 97, 98, 99, 13, 10, 48, 13, 10, 13, 10, 121]) 5 (16, 17)))
  have HA1 := hid (BytesAt.of_row (l := [51, 59, 120, 13, 10, 97, 98, 99, 13, 10, 48, 13, 10, 13, 10, 121]) (heap_alloc_new w (.cells (bcs [51, 59, 120, 13, 10, 97, 98, 99, 13, 10, 48, 13, 10, 13, 10, 121]) 5 (16, 17))))
  have hbc : bcs [51, 59, 120, 13, 10, 97, 98, 99, 13, 10, 48, 13, 10, 13, 10, 121] = #[.int .u8 51, .int .u8 59, .int .u8 120, .int .u8 13, .int .u8 10, .int .u8 97, .int .u8 98, .int .u8 99, .int .u8 13, .int .u8 10, .int .u8 48, .int .u8 13, .int .u8 10, .int .u8 13, .int .u8 10, .int .u8 121] := rfl
  rw [hbc] at hcv HB1 HA1
  have hsz : (#[.int .u8 51, .int .u8 59, .int .u8 120, .int .u8 13, .int .u8 10, .int .u8 97, .int .u8 98, .int .u8 99, .int .u8 13, .int .u8 10, .int .u8 48, .int .u8 13, .int .u8 10, .int .u8 13, .int .u8 10, .int .u8 121] : Array Value).size = 16 := rfl
  rw [hsz] at hcv
  clear hT hbc hsz
  go_enter Tryd.func10, Tryd.ntmps10
  go_wp2_with fail
  refine (HD.out _ (HT.out.below HB1.out) HA1.out).mono ?_
  rintro e W1 ⟨v, rfl, hv, hb⟩
  have HB2 := hid (HB1.out.trans (hb.mono HB1.out.size))
  have HV := hid hv
  clear hb hv hcv HA1 HD
  go_wp2_with fail
  refine (HS.out _ (HT.out.below HB2.out)).mono ?_
  rintro e W2 ⟨rfl, hb⟩
  have HB3 := hid (HB2.out.trans (hb.mono HB2.out.size))
  have HV2 := hid (HV.out.below hb)
  clear hb
  have hst := HV2.out.str
  rw [show asS [97, 98, 99] = ⟨#[97, 98, 99]⟩ from rfl] at hst
  go_wp2_with fail
  go_ret
  exact ⟨rfl, HB3.out⟩
end Go.Proofs.YtlgfepaicgnkpaaDoor
