
/- Whether a header is read (awake); which headers any bytes begin with: the statement's walk. -/
import Derived.Test.YtakompbdbmlocaaDoorHdGet
import Derived.Test.YtakompbdbmlocaaDoorHdRParse
namespace Go.Proofs.YtakompbdbmlocaaDoor
set_option linter.unusedVariables false
set_option linter.unusedSimpArgs false
open Go.RowKit Go.BigFrame

theorem aw1 : parseH [65, 58, 32, 98, 13, 10, 13, 10, 120] = ([⟨[65], [98]⟩], 8, 0) := by kernel_rfl
theorem aw2 : parseH [65, 32, 58, 32, 98, 13, 10, 13, 10] = ([], 0, 5) := by kernel_rfl
theorem aw3 : getV [⟨[65], [98]⟩] [97] = [98] ∧ getB [⟨[65], [98]⟩] [97] = true := ⟨by kernel_rfl, by kernel_rfl⟩
set_option maxHeartbeats 1000000 in
set_option maxRecDepth 100000 in
theorem awake9 (w : World) (hT : TabS w) : Calls Tryd.prog 8 #[] w fun e w' => e = .returned (.bool true) ∧ Below w.heap.size w w' := by
  have HT := hid hT
  have HP1 : Hid (∀ W, TabS W → BytesAt W (some ⟨w.heap.size, 0, none⟩) [65, 58, 32, 98, 13, 10, 13, 10, 120] → Calls Tryd.prog 12 #[.slice (some ⟨w.heap.size, 0, none⟩) 9 9] W fun e w' => ∃ v, e = .returned (.tuple #[v, .int .i64 8, .int .i64 0]) ∧ HdsV w' v [⟨[65], [98]⟩] ∧ Below W.heap.size W w') := fun W h1 h2 => by
    have := parse9_any [65, 58, 32, 98, 13, 10, 13, 10, 120] ⟨w.heap.size, 0, none⟩ 9 (by decide) (by decide) W h1 h2
    rw [aw1] at this
    exact this
  have HP2 : Hid (∀ W g, TabS W → BytesAt W (some ⟨g, 0, none⟩) [65, 32, 58, 32, 98, 13, 10, 13, 10] → Calls Tryd.prog 12 #[.slice (some ⟨g, 0, none⟩) 9 9] W fun e w' => ∃ v, e = .returned (.tuple #[v, .int .i64 0, .int .i64 5]) ∧ HdsV w' v [] ∧ Below W.heap.size W w') := fun W g h1 h2 => by
    have := parse9_any [65, 32, 58, 32, 98, 13, 10, 13, 10] ⟨g, 0, none⟩ 9 (by decide) (by decide) W h1 h2
    rw [aw2] at this
    exact this
  have HG : Hid (∀ W A c, HdsAt W A [⟨[65], [98]⟩] → Calls Tryd.prog 17 #[.slice A 1 c, .string ⟨#[97]⟩] W fun e w' => e = .returned (.tuple #[.string ⟨#[98]⟩, .bool true]) ∧ Below W.heap.size W w') := fun W A c h => by
    have := get_any [⟨[65], [98]⟩] [97] A c (by decide) (fun k hk => by
      obtain rfl : k = 0 := by simp at hk; exact hk
      decide) (by decide) W h
    rw [aw3.1, aw3.2] at this
    exact this
  have hcv := Lib.run_convert_bytes_const (P := Tryd.prog) w 23 5 #[.int .u8 65, .int .u8 58, .int .u8 32, .int .u8 98, .int .u8 13, .int .u8 10, .int .u8 13, .int .u8 10, .int .u8 120] 9 9 Tryd.underlying23 Tryd.underlying5
  have HB1 := hid (alloc_below (Below.refl w.heap.size w) (Nat.le_refl _) (.cells #[.int .u8 65, .int .u8 58, .int .u8 32, .int .u8 98, .int .u8 13, .int .u8 10, .int .u8 13, .int .u8 10, .int .u8 120] 5 (9, 10)))
  have HA1 := hid (BytesAt.of_row (l := [65, 58, 32, 98, 13, 10, 13, 10, 120]) (heap_alloc_new w (.cells (bcs [65, 58, 32, 98, 13, 10, 13, 10, 120]) 5 (9, 10))))
  have HA1' : Hid (BytesAt (w.alloc (.cells #[.int .u8 65, .int .u8 58, .int .u8 32, .int .u8 98, .int .u8 13, .int .u8 10, .int .u8 13, .int .u8 10, .int .u8 120] 5 (9, 10))) (some ⟨w.heap.size, 0, none⟩) [65, 58, 32, 98, 13, 10, 13, 10, 120]) := HA1.out
  clear hT HA1
  go_enter Tryd.func8, Tryd.ntmps8
  go_wp2_with fail
  refine (HP1.out _ (HT.out.below HB1.out) HA1'.out).mono ?_
  rintro e W1 ⟨v, rfl, hv, hb⟩
  have HB2 := hid (HB1.out.trans (hb.mono HB1.out.size))
  obtain ⟨A, c, rfl, hat⟩ := hv
  have HAT := hid hat
  clear hb hat hcv HA1' HP1
  have hcv := Lib.run_convert_bytes_const (P := Tryd.prog) W1 23 5 #[.int .u8 65, .int .u8 32, .int .u8 58, .int .u8 32, .int .u8 98, .int .u8 13, .int .u8 10, .int .u8 13, .int .u8 10] 9 9 Tryd.underlying23 Tryd.underlying5
  have HB3 := hid (alloc_below HB2.out HB2.out.size (.cells #[.int .u8 65, .int .u8 32, .int .u8 58, .int .u8 32, .int .u8 98, .int .u8 13, .int .u8 10, .int .u8 13, .int .u8 10] 5 (9, 10)))
  have HA2 : Hid (BytesAt (W1.alloc (.cells #[.int .u8 65, .int .u8 32, .int .u8 58, .int .u8 32, .int .u8 98, .int .u8 13, .int .u8 10, .int .u8 13, .int .u8 10] 5 (9, 10))) (some ⟨W1.heap.size, 0, none⟩) [65, 32, 58, 32, 98, 13, 10, 13, 10]) := BytesAt.of_row (l := [65, 32, 58, 32, 98, 13, 10, 13, 10]) (heap_alloc_new W1 (.cells (bcs [65, 32, 58, 32, 98, 13, 10, 13, 10]) 5 (9, 10)))
  have HAT3 := hid (HAT.out.below (alloc_below (Below.refl _ W1) (Nat.le_refl _) (.cells #[.int .u8 65, .int .u8 32, .int .u8 58, .int .u8 32, .int .u8 98, .int .u8 13, .int .u8 10, .int .u8 13, .int .u8 10] 5 (9, 10))) (Nat.le_refl _))
  go_wp2_with fail
  refine (HP2.out _ W1.heap.size (HT.out.below HB3.out) HA2.out).mono ?_
  rintro e W2 ⟨v2, rfl, hv2, hb⟩
  have HB4 := hid (HB3.out.trans (hb.mono HB3.out.size))
  have HAT4 := hid (HAT3.out.below hb (Nat.le_refl _))
  clear hb hv2 hcv HA2 HP2
  go_wp2_with fail
  refine (HG.out _ A c HAT4.out).mono ?_
  rintro e W3 ⟨rfl, hb⟩
  have HB5 := hid (HB4.out.trans (hb.mono HB4.out.size))
  clear hb
  go_wp2_with fail
  go_ret
  exact ⟨rfl, HB5.out⟩
theorem IsRow.bytes {w : World} {a : Option Addr} {len cap : Nat} {zs : List Int} (h : IsRow .u8 w a len cap zs) (h0 : 0 < w.heap.size) : ∃ l : List UInt8, l.length = len ∧ len ≤ cap ∧ BytesAt w a l := by
  obtain ⟨l, q, o, h1, h2, h3, h4, h5⟩ := row_open h h0
  exact ⟨l, h1, h2, fun hp => ⟨q, o, h3 hp, h4, h5⟩⟩
set_option maxHeartbeats 1000000 in
set_option maxRecDepth 100000 in
theorem parses9_law (A : Option Addr) (len cap : Nat) (zs : List Int) (w : World) (h : IsRow .u8 w A len cap zs) (hT : TabS w) : Calls Tryd.prog 4 #[.slice A len cap] w fun e w' => e = .returned (.bool true) ∧ Below w.heap.size w w' := by
  obtain ⟨l, rfl, hcap, hA⟩ := h.bytes hT.lt
  have HT := hid hT
  have HAW := hid (fun W hW => awake9 W hW)
  clear h
  by_cases hl : 20000 < l.length
  · have h1 : (20000 : Int) < (l.length : Int) := by omega
    generalize l.length = n at h1 ⊢
    clear hl hcap hA
    go_enter Tryd.func4, Tryd.ntmps4
    go_wp2_with fail
    refine (HAW.out _ HT.out).mono ?_
    rintro e W ⟨rfl, hb⟩
    have HB := hid hb
    clear hb
    go_wp2_with fail
    go_ret
    exact ⟨rfl, HB.out⟩
  · have h1 : ¬ (20000 : Int) < (l.length : Int) := by omega
    have HA := hid hA
    have HP := hid (fun X c h W hW hX => parse9_any l X c (by omega) h W hW hX)
    have HR := hid (fun W hX => refParse_any l A cap (by omega) hcap W hX)
    have HSR : Hid (∀ W, Below w.heap.size w W → Src Tryd.prog 1 23 (.slice A l.length cap) l.length (bvs l) W) := fun W hb => src_bytes (hA.below hb (Nat.le_refl _)) cap (fun _ => opt_any A)
    obtain ⟨P1, hP1⟩ : ∃ P1, P1 = parseH l := ⟨_, rfl⟩
    rw [← hP1] at HP HR
    have hpl : P1.1.length ≤ 1000000 := by rw [hP1]; exact parse_out l (by omega)
    have HSM := hid (fun (A B : Option Addr) c d W h1 h2 => same_any P1.1 P1.1 A B c d hpl W h1 h2)
    rw [same_refl] at HSM
    generalize hn : l.length = n at h1 HP HR HSR ⊢
    have hn2 : n ≤ 20000 := by omega
    clear hl hcap hA hT hP1 hn hpl
    go_enter Tryd.func4, Tryd.ntmps4
    have HB0 := hid (alloc_below (Below.refl w.heap.size w) (Nat.le_refl _) (.cells #[] 5))
    go_wp2_with (first
      | (refine wpList_fresh rfl _ _ 23 rfl w.heap.size n l _ rfl rfl (HSR.out _ HB0.out) (by omega) ?_)
      | fail)
    intro X c1 W1 hX hc1 hb1
    have HX := hid hX
    have HB1 := hid (HB0.out.trans (hb1.mono (by omega)))
    have HC1 := hid hc1
    clear hX hb1 hc1
    go_wp2_with fail
    refine (HP.out X c1 HC1.out _ (HT.out.below HB1.out) HX.out).mono ?_
    rintro e W2 ⟨v1, rfl, hv1, hb2⟩
    have HB2 := hid (HB1.out.trans (hb2.mono HB1.out.size))
    have HV1 := hid hv1
    clear hb2 hv1
    go_wp2_with fail
    refine (HR.out _ (HA.out.below HB2.out (Nat.le_refl _))).mono ?_
    rintro e W3 ⟨v2, rfl, hv2, hb3⟩
    have HB3 := hid (HB2.out.trans (hb3.mono HB2.out.size))
    have HV3 := hid (HV1.out.below hb3)
    clear hb3
    obtain ⟨A1, d1, rfl, hat1⟩ := HV3.out
    obtain ⟨A2, d2, rfl, hat2⟩ := hv2
    have HS2 := hid (HSM.out A1 A2 d1 d2 _ hat1 hat2)
    clear hat1 hat2 HV3 HV1
    go_wp2_with fail
    refine HS2.out.mono ?_
    rintro e W4 ⟨rfl, hb4⟩
    have HB4 := hid (HB3.out.trans (hb4.mono HB3.out.size))
    clear hb4 HS2
    go_wp2_with fail
    refine (HAW.out _ (HT.out.below HB4.out)).mono ?_
    rintro e W5 ⟨rfl, hb5⟩
    have HB5 := hid (HB4.out.trans (hb5.mono HB4.out.size))
    clear hb5
    go_wp2_with fail
    go_ret
    exact ⟨rfl, HB5.out⟩
end Go.Proofs.YtakompbdbmlocaaDoor
