
/- What Lines and Value of package entity do. -/
import Derived.Test.YtkeghpghhmajiaaDoorEnUn
namespace Go.Proofs.YtkeghpghhmajiaaDoor
set_option linter.unusedVariables false
set_option linter.unusedSimpArgs false
open Go.RowKit Go.BigFrame

theorem replace_any (l old new : List UInt8) (hl : l.length ≤ 100000) (h1 : 1 ≤ old.length) (hn : new.length ≤ 1) (hne : old ≠ new) (w : World) (hT : TabE w) : Calls Tryd.prog 27 #[.string (asS l), .string (asS old), .string (asS new)] w fun e w' => e = .returned (.string (asS (repF old new l.length l))) ∧ Below w.heap.size w w' := by
  obtain ⟨m, hm⟩ := hT.max
  have hc := Lib.count_le l old
  have hb : Lib.countB (asS l) (asS old) = Lib.count l old := rfl
  have hmul : Lib.count l old * (asS new).size ≤ Lib.count l old * 1 := Nat.mul_le_mul_left _ (by rw [asS_size]; exact hn)
  refine (Tryd.strings_ReplaceAll (asS l) (asS old) (asS new) m w (by rw [asS_size]; omega) hm (by rw [asS_size]; exact h1) (by rw [hb, asS_size l]; omega)).mono ?_
  rintro e w' ⟨rfl, hb⟩
  rw [asS_data, asS_data, asS_data, replaceAll_rep old new l h1 hne]
  exact ⟨rfl, hb⟩
theorem rep_len1 (x y : UInt8) (l : List UInt8) : repF [x] [y] l.length l = l.map fun c => if c = x then y else c := rep_one x y l.length l (Nat.le_refl _)
theorem repF_len2 : ∀ (f : Nat) (l : List UInt8), (repF [13, 10] [10] f l).length ≤ l.length
  | 0, l => Nat.le_refl _
  | f + 1, [] => Nat.le_refl _
  | f + 1, c :: r => by
    simp only [repF]
    split
    · rename_i h
      have := repF_len2 f ((c :: r).drop [13, 10].length)
      rw [List.length_append]
      simp only [List.length_drop, List.length_cons, List.length_nil] at this ⊢
      have hr : 1 ≤ r.length := by
        cases r with
        | nil => simp [List.isPrefixOf] at h
        | cons d t => simp
      omega
    · have := repF_len2 f r
      simp only [List.length_cons]; omega
set_option maxRecDepth 100000 in
theorem lines_any (l : List UInt8) (hl : l.length ≤ 100000) (w : World) (hT : TabE w) : Calls Tryd.prog 11 #[.string (asS l)] w fun e w' => e = .returned (.string (asS (linE l))) ∧ Below w.heap.size w w' := by
  have h2 := repF_len2 l.length l
  have HA : Hid (∀ W, TabE W → Calls Tryd.prog 27 #[.string (asS l), .string ⟨#[13, 10]⟩, .string ⟨#[10]⟩] W fun e w' => e = .returned (.string (asS (repF [13, 10] [10] l.length l))) ∧ Below W.heap.size W w') := fun W hW => replace_any l [13, 10] [10] hl (by decide) (by decide) (by decide) W hW
  have hrl := rep_lines l.length l.length l (Nat.le_refl _) (Nat.le_refl _)
  generalize repF [13, 10] [10] l.length l = m at HA h2 hrl
  have HC : Hid (∀ W, TabE W → Calls Tryd.prog 27 #[.string (asS m), .string ⟨#[13]⟩, .string ⟨#[10]⟩] W fun e w' => e = .returned (.string (asS (linE l))) ∧ Below W.heap.size W w') := fun W hW => by
    have c := replace_any m [13] [10] (by omega) (by decide) (by decide) (by decide) W hW
    rw [rep_len1, hrl] at c
    exact c
  have hll := linE_len l
  have HCL := hid (fun W => clone8 (asS (linE l)) (by rw [asS_size]; omega) W)
  have HT := hid hT
  clear hrl h2 hll hl hT
  generalize asS (linE l) = R at HC HCL ⊢
  generalize asS m = M at HA HC
  generalize asS l = S at HA ⊢
  go_enter Tryd.func11, Tryd.ntmps11
  go_wp2_with fail
  refine (HA.out _ HT.out).mono ?_
  rintro e W1 ⟨rfl, hb1⟩
  have HB1 := hid hb1
  clear hb1
  go_wp2_with fail
  refine (HC.out _ (HT.out.below HB1.out)).mono ?_
  rintro e W2 ⟨rfl, hb2⟩
  have HB2 := hid (HB1.out.trans (hb2.mono HB1.out.size))
  clear hb2
  go_wp2_with fail
  refine (HCL.out _).mono ?_
  rintro e W3 ⟨rfl, hb3⟩
  have HB3 := hid (HB2.out.trans (hb3.mono HB2.out.size))
  clear hb3
  go_wp2_with fail
  go_ret
  exact ⟨rfl, HB3.out⟩
theorem blank_len (l : List UInt8) : (blankE l).length = l.length := by simp [blankE]
set_option maxRecDepth 100000 in
theorem value_any (l : List UInt8) (hl : l.length ≤ 100000) (w : World) (hT : TabE w) : Calls Tryd.prog 14 #[.string (asS l)] w fun e w' => e = .returned (.tuple #[.string (asS ((unA (blankE (linE l))).getD [])), .int .i64 (unE (unA (blankE (linE l))))]) ∧ Below w.heap.size w w' := by
  have hll := linE_len l
  have HL := hid (fun W hW => lines_any l hl W hW)
  have HU := hid (fun W hW => unescape_any (blankE (linE l)) (by rw [blank_len]; omega) W hW)
  have HA : Hid (∀ W, TabE W → Calls Tryd.prog 27 #[.string (asS (linE l)), .string ⟨#[10]⟩, .string ⟨#[32]⟩] W fun e w' => e = .returned (.string (asS ((linE l).map fun c => if c = 10 then 32 else c))) ∧ Below W.heap.size W w') := fun W hW => by
    have c := replace_any (linE l) [10] [32] (by omega) (by decide) (by decide) (by decide) W hW
    rw [rep_len1] at c
    exact c
  have hml : ((linE l).map fun c => if c = 10 then (32 : UInt8) else c).length = (linE l).length := by simp
  have HC : Hid (∀ W, TabE W → Calls Tryd.prog 27 #[.string (asS ((linE l).map fun c => if c = 10 then 32 else c)), .string ⟨#[9]⟩, .string ⟨#[32]⟩] W fun e w' => e = .returned (.string (asS (blankE (linE l)))) ∧ Below W.heap.size W w') := fun W hW => by
    have c := replace_any ((linE l).map fun c => if c = 10 then 32 else c) [9] [32] (by rw [hml]; omega) (by decide) (by decide) (by decide) W hW
    rw [rep_len1, blank_two] at c
    exact c
  have HT := hid hT
  clear hml hll hl hT
  generalize unE (unA (blankE (linE l))) = E at HU ⊢
  generalize asS ((unA (blankE (linE l))).getD []) = R at HU ⊢
  generalize asS (blankE (linE l)) = N at HU HC
  generalize asS ((linE l).map fun c => if c = 10 then (32 : UInt8) else c) = M at HA HC
  generalize asS (linE l) = K at HL HA
  generalize asS l = S at HL ⊢
  go_enter Tryd.func14, Tryd.ntmps14
  go_wp2_with fail
  refine (HL.out _ HT.out).mono ?_
  rintro e W1 ⟨rfl, hb1⟩
  have HB1 := hid hb1
  clear hb1
  go_wp2_with fail
  refine (HA.out _ (HT.out.below HB1.out)).mono ?_
  rintro e W2 ⟨rfl, hb2⟩
  have HB2 := hid (HB1.out.trans (hb2.mono HB1.out.size))
  clear hb2
  go_wp2_with fail
  refine (HC.out _ (HT.out.below HB2.out)).mono ?_
  rintro e W3 ⟨rfl, hb3⟩
  have HB3 := hid (HB2.out.trans (hb3.mono HB2.out.size))
  clear hb3
  go_wp2_with fail
  refine (HU.out _ (HT.out.below HB3.out)).mono ?_
  rintro e W4 ⟨rfl, hb4⟩
  have HB4 := hid (HB3.out.trans (hb4.mono HB3.out.size))
  clear hb4
  go_wp2_with fail
  go_ret2
  exact ⟨rfl, HB4.out⟩
end Go.Proofs.YtkeghpghhmajiaaDoor
