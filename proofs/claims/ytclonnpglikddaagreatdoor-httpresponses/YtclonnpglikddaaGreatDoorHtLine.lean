
/- A message's first line cut off: what cutLine of package http does. -/
import Derived.Test.YtclonnpglikddaaGreatDoorHdParse
import Derived.Test.YtclonnpglikddaaGreatDoorHtBook
namespace Go.Proofs.YtclonnpglikddaaGreatDoor
set_option linter.unusedVariables false
set_option linter.unusedSimpArgs false
open Go.RowKit Go.BigFrame

theorem lineM_no (b : List UInt8) (h : (10 : UInt8) ∉ b.take 4096) : lineM b = ([], 0, if 4096 < b.length then 3 else 10) := by
  unfold lineM
  rw [find_miss 10 _ h, if_neg (by omega)]
theorem lineM_at (b a x : List UInt8) (h : (10 : UInt8) ∉ a) (e : b.take 4096 = a ++ 10 :: x) : lineM b = (crH a, a.length + 1, 0) := by
  have hl : a.length ≤ 4096 := by
    have := congrArg List.length e
    rw [List.length_take, List.length_append, List.length_cons] at this
    omega
  have ht : b.take a.length = a := by
    have h1 : (b.take 4096).take a.length = a := by rw [e, List.take_left]
    rw [List.take_take, Nat.min_eq_left hl] at h1
    exact h1
  unfold lineM
  rw [e, find_byte 10 a x h, if_pos (by simp), ht]
set_option maxHeartbeats 2000000 in
set_option maxRecDepth 100000 in
theorem cutLine_any (b : List UInt8) (X : Addr) (c : Nat) (hb : b.length ≤ 1000000) (hc : b.length ≤ c) (w : World) (hT : TabS w) (hA : BytesAt w (some X) b) : Calls Tryz.prog 36 #[.slice (some X) b.length c] w fun e w' => e = .returned (.tuple #[.string (asS (lineM b).1), .int .i64 (lineM b).2.1, .int .i64 (lineM b).2.2]) ∧ Below w.heap.size w w' := by
  have HA := hid (hA.take 4096)
  have HT := hid hT
  have hcv := const_conv w 10
  have HCL := hid (const_cell w 10)
  have HW1 := hid (alloc_below (Below.refl w.heap.size w) (Nat.le_refl _) (.cells #[.int .u8 10] 5 (1, 2)))
  have HTL : Hid ((b.take 4096).length = min b.length 4096) := by show _ = _; rw [List.length_take]; omega
  rcases first_dec 10 (b.take 4096) with hno | ⟨a, x, hax, hno⟩
  · rw [lineM_no b hno]
    have HNO := hid hno
    clear hA hT hno
    generalize hn : b.length = n at hb hc HTL ⊢
    have hmin : min (n : Int) 4096 = ((min n 4096 : Nat) : Int) := by omega
    have hh1 : min n 4096 ≤ c := by omega
    have hh3 : min n 4096 ≤ 1000000 := by omega
    generalize min n 4096 = h at hmin hh1 hh3 HTL
    have hh4 : (h : Int) ≤ (c : Int) := by omega
    have hh0 : (0 : Int) ≤ (h : Int) := by omega
    have HCUT : Hid (∀ W, TabS W → BytesAt W (some X) (b.take 4096) → W.cell? ⟨w.heap.size, 0, none⟩ = some (.int .u8 10) → Calls Tryz.prog 64 #[.slice (some X) h c, .slice (some ⟨w.heap.size, 0, none⟩) 1 1] W fun e w' => e = .returned (.tuple #[.slice (some X) h c, .slice none 0 0, .bool false]) ∧ Below W.heap.size W w') := fun W h1 h2 h3 => by
      have := cutLF_no (b.take 4096) (some X) c w.heap.size 1 W h1 h2 (by rw [HTL.out]; omega) (by rw [HTL.out]; omega) (by simp) h3 HNO.out
      rwa [HTL.out] at this
    clear hn
    by_cases hlong : 4096 < n
    · rw [if_pos hlong]
      have hl1 : (4096 : Int) < (n : Int) := by omega
      clear hlong
      go_enter Tryz.func36, Tryz.ntmps36
      go_wp2_with fail
      refine (HCUT.out _ (HT.out.below HW1.out) (HA.out.below HW1.out (Nat.le_refl _)) HCL.out).mono ?_
      rintro e W2 ⟨rfl, hb2⟩
      have HB2 := hid (HW1.out.trans (hb2.mono HW1.out.size))
      clear hb2 hcv
      go_wp2_with fail
      go_ret3
      exact ⟨rfl, HB2.out⟩
    · rw [if_neg hlong]
      have hl1 : ¬ (4096 : Int) < (n : Int) := by omega
      clear hlong
      go_enter Tryz.func36, Tryz.ntmps36
      go_wp2_with fail
      refine (HCUT.out _ (HT.out.below HW1.out) (HA.out.below HW1.out (Nat.le_refl _)) HCL.out).mono ?_
      rintro e W2 ⟨rfl, hb2⟩
      have HB2 := hid (HW1.out.trans (hb2.mono HW1.out.size))
      clear hb2 hcv
      go_wp2_with fail
      go_ret3
      exact ⟨rfl, HB2.out⟩
  · rw [lineM_at b a x hno hax]
    rw [hax] at HA HTL
    have HAA : Hid (BytesAt w (some X) a) := by
      have := HA.out.take a.length
      rw [List.take_left] at this
      exact this
    have HCC : Hid (BytesAt w (some X) (crH a)) := by
      have := HAA.out.take (crH a).length
      rw [← cr_take] at this
      exact this
    have HNO := hid hno
    have hcl := cr_le a
    have hal : a.length + 1 ≤ min b.length 4096 := by
      have := HTL.out
      rw [List.length_append, List.length_cons] at this
      omega
    clear hA hT hno hax
    generalize hn : b.length = n at hb hc HTL hal ⊢
    have hmin : min (n : Int) 4096 = ((min n 4096 : Nat) : Int) := by omega
    have hh1 : min n 4096 ≤ c := by omega
    have hh3 : min n 4096 ≤ 1000000 := by omega
    generalize min n 4096 = h at hmin hh1 hh3 HTL hal
    have hh4 : (h : Int) ≤ (c : Int) := by omega
    have hh0 : (0 : Int) ≤ (h : Int) := by omega
    have HCUT : Hid (∀ W, TabS W → BytesAt W (some X) (a ++ 10 :: x) → W.cell? ⟨w.heap.size, 0, none⟩ = some (.int .u8 10) → Calls Tryz.prog 64 #[.slice (some X) h c, .slice (some ⟨w.heap.size, 0, none⟩) 1 1] W fun e w' => e = .returned (.tuple #[.slice (some X) a.length c, Lib.fromV (some X) h c (a.length + 1), .bool true]) ∧ Below W.heap.size W w') := fun W h1 h2 h3 =>
      cutLF_at a x (some X) h c w.heap.size 1 W h1 h2 HTL.out (by omega) (by omega) (by simp) h3 HNO.out
    have HTR := hid (fun g W h1 h2 => trimCR_any a (some X) c g 1 W h1 (by omega) (by omega) h2)
    have HSTR : Hid (∀ W, BytesAt W (some X) (crH a) → (convert 23 9 (.slice (some X) (crH a).length c)).run Tryz.prog W = .ok (.string (asS (crH a))) W) := fun W h => str_part h rfl
    generalize Lib.fromV (some X) h c (a.length + 1) = FV at HCUT
    generalize crH a = cr at HTR HCC HSTR hcl ⊢
    generalize a.length = al at HCUT HTR hcl hal ⊢
    generalize cr.length = z at HTR HSTR hcl
    generalize asS cr = CS at HSTR ⊢
    clear hn
    go_enter Tryz.func36, Tryz.ntmps36
    go_wp2_with fail
    refine (HCUT.out _ (HT.out.below HW1.out) (HA.out.below HW1.out (Nat.le_refl _)) HCL.out).mono ?_
    rintro e W2 ⟨rfl, hb2⟩
    have HB2 := hid (HW1.out.trans (hb2.mono HW1.out.size))
    clear hb2 hcv HCUT
    have hcv := const_conv W2 13
    have HCL2 := hid (const_cell W2 13)
    have HW3 := hid (alloc_below HB2.out HB2.out.size (.cells #[.int .u8 13] 5 (1, 2)))
    go_wp2_with fail
    refine (HTR.out W2.heap.size _ (HAA.out.below HW3.out (Nat.le_refl _)) HCL2.out).mono ?_
    rintro e W3 ⟨rfl, rfl⟩
    generalize W2.alloc (.cells #[.int .u8 13] 5 (1, 2)) = W3 at HW3 ⊢
    have hst := HSTR.out W3 (HCC.out.below HW3.out (Nat.le_refl _))
    clear hcv HCL2
    go_wp2_with fail
    go_ret3
    exact ⟨rfl, HW3.out⟩
end Go.Proofs.YtclonnpglikddaaGreatDoor
