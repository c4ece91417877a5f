
/- A message put together: what together of package http does. -/
import Derived.Test.YtclonnpglikddaaGreatDoorHtHds
import Derived.Test.YtclonnpglikddaaGreatDoorHtCat
namespace Go.Proofs.YtclonnpglikddaaGreatDoor
set_option linter.unusedVariables false
set_option linter.unusedSimpArgs false
open Go.RowKit Go.BigFrame

theorem check_fit (l : List HdV) (h : checkH l = 0) : l.length ≤ 64 ∧ sizeH l ≤ 8192 := by
  unfold checkH at h
  split at h
  · split at h
    · cases h
    · omega
  · cases h
set_option maxHeartbeats 2000000 in
set_option maxRecDepth 100000 in
theorem together_ok (s : List UInt8) (l : List HdV) (bd : List UInt8) (A : Option Addr) (c : Nat) (B : Option Addr) (cb : Nat) (hs : s.length ≤ 100000) (hc : checkH l = 0) (hb : bd.length ≤ 99999) (w : World) (hA : HdsAt w A l) (hB : BytesAt w B bd) : Calls Tryz.prog 26 #[.string (asS s), .slice A l.length c, .slice B bd.length cb] w fun e w' => ∃ h cap, e = .returned (.tuple #[.slice (some ⟨h, 0, none⟩) (joinM s l bd).length cap, .int .i64 0]) ∧ Own w' w.heap.size h (joinM s l bd).length cap (joinM s l bd) ∧ Below w.heap.size w w' := by
  obtain ⟨hl1, hl2⟩ := check_fit l hc
  have HPR := hid (print9_ok l A c (by omega) (by omega) hc w hA)
  have HBB := hid hB
  have HPL : Hid ((printH l).length = sizeH l) := print_size l
  have HCV := hid (fun W => conv_own W (asS s ++ ⟨#[13, 10]⟩))
  have HTX : Hid (asS s ++ ⟨#[13, 10]⟩ = asS (s ++ [13, 10])) := by
    show _ = _
    rw [show (⟨#[13, 10]⟩ : ByteArray) = asS [13, 10] from rfl, asS_app]
  have hsz : (asS s).size ≤ 100000 := by rw [asS_size]; exact hs
  have HSZ : Hid ((asS s ++ ⟨#[13, 10]⟩).size = (s ++ [13, 10]).length) := by show _ = _; rw [HTX.out, asS_size]
  have HDT : Hid ((asS s ++ ⟨#[13, 10]⟩).data.toList = s ++ [13, 10]) := by show _ = _; rw [HTX.out]; rfl
  have HJ : Hid (joinM s l bd = (s ++ [13, 10]) ++ (printH l ++ bd)) := by show _ = _; unfold joinM; simp
  have HJL : Hid ((joinM s l bd).length = (s ++ [13, 10]).length + (printH l).length + bd.length) := by show _ = _; rw [HJ.out]; simp only [List.length_append]; omega
  have HCC : Hid (∀ A' ca' B' cb' g W, W.heap[g]? = some (.cells #[.slice A' (s ++ [13, 10]).length ca', .slice B' (sizeH l) cb', .slice B bd.length cb] 23 (0, 0)) → BytesAt W A' (s ++ [13, 10]) → BytesAt W B' (printH l) → BytesAt W B bd → Calls Tryz.prog 53 #[.slice (some ⟨g, 0, none⟩) 3 3] W fun e w' => ∃ h cap, e = .returned (.slice (some ⟨h, 0, none⟩) (joinM s l bd).length cap) ∧ Own w' W.heap.size h (joinM s l bd).length cap (joinM s l bd) ∧ Below W.heap.size W w') := fun A' ca' B' cb' g W h1 h2 h3 h4 => by
    have := concat_any (s ++ [13, 10]) (printH l) bd A' B' B ca' cb' cb g (by simp) (by rw [HPL.out]; simp; omega) W (by rw [HPL.out]; exact h1) h2 h3 h4
    rw [← HJL.out, ← HJ.out] at this
    exact this
  clear hA hB hs hc hb HTX HJ HJL HPL
  generalize joinM s l bd = J at HCC ⊢
  generalize printH l = PR at HPR HCC
  generalize hsh : sizeH l = sh at HPR HCC hl2
  generalize hst : s ++ [13, 10] = ST at HSZ HDT HCC
  generalize hsl : ST.length = sl at HSZ HCC
  have HSL := hid hsl
  generalize l.length = ln at HPR ⊢
  generalize bd.length = n at HCC ⊢
  generalize asS s = S at HCV HSZ HDT hsz ⊢
  have HST := hid hst
  clear hst hsl hsh
  go_enter Tryz.func26, Tryz.ntmps26
  go_wp2_with fail
  refine HPR.out.mono ?_
  rintro e W1 ⟨g1, cap1, rfl, hown, hb1⟩
  obtain ⟨cap2, W2, hcv, hown2, hb2⟩ := HCV.out W1
  have HB1 := hid hb1
  have HO1 := hid (hown.below hb2 (Nat.le_refl _))
  have HB2 := hid (hb1.trans (hb2.mono hb1.size))
  rw [HSZ.out, HDT.out] at hown2
  have HO2 := hid hown2
  have hz2 := HSZ.out
  rw [hz2] at hcv
  have HB3 := hid (alloc_below HB2.out HB2.out.size (.cells #[.slice (some ⟨W1.heap.size, 0, none⟩) sl cap2, .slice (some ⟨g1, 0, none⟩) sh cap1, .slice B n cb] 23))
  have HR3 := hid (heap_alloc_new W2 (.cells #[.slice (some ⟨W1.heap.size, 0, none⟩) sl cap2, .slice (some ⟨g1, 0, none⟩) sh cap1, .slice B n cb] 23))
  have HW3 := hid (alloc_below (Below.refl W2.heap.size W2) (Nat.le_refl _) (.cells #[.slice (some ⟨W1.heap.size, 0, none⟩) sl cap2, .slice (some ⟨g1, 0, none⟩) sh cap1, .slice B n cb] 23))
  have HC3 := hid (HCC.out _ cap2 _ cap1 _ _ HR3.out (HO2.out.bytes.below HW3.out (Nat.le_refl _)) (HO1.out.bytes.below HW3.out (Nat.le_refl _)) (HBB.out.below HB3.out (Nat.le_refl _)))
  clear hown hb1 hown2 hb2 hz2 HPR HCV HCC
  go_wp2_with fail
  refine HC3.out.mono ?_
  rintro e W4 ⟨h4, cap4, rfl, hown4, hb4⟩
  have HB4 := hid (HB3.out.trans (hb4.mono HB3.out.size))
  have HO4 := hid (hown4.mono HB3.out.size)
  clear hown4 hb4
  go_wp2_with fail
  go_ret2
  exact ⟨h4, cap4, rfl, HO4.out, HB4.out⟩
end Go.Proofs.YtclonnpglikddaaGreatDoor
