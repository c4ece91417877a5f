
/- Which responses may be: what MayResponse of the reference does. -/
import Derived.Test.YtclonnpglikddaaGreatDoorHtRMay
import Derived.Deep.DeepCutAuto
namespace Go.Proofs.YtclonnpglikddaaGreatDoor
set_option linter.unusedVariables false
set_option linter.unusedSimpArgs false
open Go.RowKit Go.BigFrame

set_option maxHeartbeats 2000000 in
set_option maxRecDepth 100000 in
theorem refMayRes_any (st : Int) (t : List UInt8) (l : List HdV) (bd : List UInt8) (A : Option Addr) (c : Nat) (B : Option Addr) (cb : Nat) (ht : t.length ≤ 1000000) (hl : l.length ≤ 100) (hz : sizeH l ≤ 20000) (hn : bd.length ≤ 65535) (w : World) (hA : HdsAt w A l) : Calls Tryz.prog 17 #[.agg #[.int .i64 st, .string (asS t), .slice A l.length c, .slice B bd.length cb]] w fun e w' => e = .returned (.bool (mayResp ⟨st, t, l, bd⟩)) ∧ Below w.heap.size w w' := by
  have HA := hid hA
  have HBW := hid (fun W => between_any t 32 126 32 126 rfl rfl (by omega) W)
  have HBA := hid (fun W => refBare_any st W)
  have HFI := hid (fun W hW => refFits_any l bd (!bareM st) A c B cb hl hz hn W hW)
  have HMA : Hid (mayResp ⟨st, t, l, bd⟩ = (decide (200 ≤ st) && (decide (st ≤ 599) && (decide (t.length ≤ 128) && (btw 32 126 t && (!(bareM st && decide (0 < bd.length)) && fitsM l bd (!bareM st))))))) := by
    show _ = _
    unfold mayResp
    simp only [Bool.decide_and, Bool.and_assoc]
  have hts := asS_size t
  have HB0 := hid (alloc_below (Below.refl w.heap.size w) (Nat.le_refl _) (.cells #[.int .i64 st, .string (asS t), .slice A l.length c, .slice B bd.length cb] 40))
  have HR0 := hid (heap_alloc_new w (.cells #[.int .i64 st, .string (asS t), .slice A l.length c, .slice B bd.length cb] 40))
  clear hA ht hl hz hn
  generalize mayResp ⟨st, t, l, bd⟩ = R at HMA ⊢
  generalize fitsM l bd (!bareM st) = fb at HFI HMA
  generalize btw 32 126 t = tb at HBW HMA
  generalize bareM st = bb at HBA HMA HFI
  generalize t.length = tl at hts HMA
  generalize asS t = T at HBW HB0 HR0 hts ⊢
  generalize l.length = ln at HFI HB0 HR0 ⊢
  generalize bd.length = n at HFI HB0 HR0 HMA ⊢
  by_cases hs1 : st < 200
  · rw [decide_eq_false (show ¬ 200 ≤ st by omega)] at HMA
    go_enter Tryz.func17, Tryz.ntmps17
    go_wp2_with fail
    go_ret
    exact ⟨by rw [HMA.out]; rfl, HB0.out⟩
  rw [decide_eq_true (show 200 ≤ st by omega), Bool.true_and] at HMA
  by_cases hs2 : 599 < st
  · rw [decide_eq_false (show ¬ st ≤ 599 by omega)] at HMA
    go_enter Tryz.func17, Tryz.ntmps17
    go_wp2_with fail
    go_ret
    exact ⟨by rw [HMA.out]; rfl, HB0.out⟩
  rw [decide_eq_true (show st ≤ 599 by omega), Bool.true_and] at HMA
  by_cases hs3 : 128 < tl
  · rw [decide_eq_false (show ¬ tl ≤ 128 by omega)] at HMA
    have h3i : (128 : Int) < (T.size : Int) := by rw [hts]; omega
    clear hs3 hts
    go_enter Tryz.func17, Tryz.ntmps17
    go_wp2_with fail
    go_ret
    exact ⟨by rw [HMA.out]; rfl, HB0.out⟩
  rw [decide_eq_true (show tl ≤ 128 by omega), Bool.true_and] at HMA
  have h3i : ¬ (128 : Int) < (T.size : Int) := by rw [hts]; omega
  clear hs3 hts
  go_enter Tryz.func17, Tryz.ntmps17
  go_wp2_with fail
  refine (HBW.out _).mono ?_
  rintro e W1 ⟨rfl, rfl⟩
  cases tb
  · go_wp2_with fail
    go_ret
    exact ⟨by rw [HMA.out]; rfl, HB0.out⟩
  obtain ⟨V1, hV1⟩ : ∃ V1, V1 = w.alloc (.cells #[.int .i64 st, .string T, .slice A ln c, .slice B n cb] 40) := ⟨_, rfl⟩
  rw [← hV1] at HB0 HR0 ⊢
  have c0 : V1.cell? ⟨w.heap.size, 0, none⟩ = some (.int .i64 st) := by rw [cell_of_row _ _ _ _ _ _ HR0.out]; rfl
  have c2 : V1.cell? ⟨w.heap.size, 2, none⟩ = some (.slice A ln c) := by rw [cell_of_row _ _ _ _ _ _ HR0.out]; rfl
  have c3 : V1.cell? ⟨w.heap.size, 3, none⟩ = some (.slice B n cb) := by rw [cell_of_row _ _ _ _ _ _ HR0.out]; rfl
  clear hV1
  go_wp2_with fail
  refine (HBA.out _).mono ?_
  rintro e W1 ⟨rfl, rfl⟩
  by_cases hno : bb = true ∧ 0 < n
  · rw [hno.1, decide_eq_true hno.2] at HMA
    have h0i : (0 : Int) < (n : Int) := by omega
    obtain rfl : bb = true := hno.1
    clear hno
    go_wp2_with fail
    go_ret
    exact ⟨by rw [HMA.out]; rfl, HB0.out⟩
  have HM3 : Hid (R = fb) := by
    show _ = _
    rw [HMA.out]
    cases bb
    · rfl
    · have h0 : ¬ 0 < n := fun h => hno ⟨rfl, h⟩
      rw [decide_eq_false h0]; rfl
  clear HMA
  have hpass : bb = false ∨ (bb = true ∧ ¬ (0 : Int) < (n : Int)) := by
    cases bb
    · exact .inl rfl
    · exact .inr ⟨rfl, fun h => hno ⟨rfl, by omega⟩⟩
  clear hno
  have HBd : Hid (Below w.heap.size w W1.drew) := HB0.out.drew
  have HF2 := hid (HFI.out W1.drew (HA.out.below HBd.out (Nat.le_refl _)))
  clear HFI
  rcases hpass with hp | ⟨hp, h0i⟩
  all_goals
    subst hp
    go_wp2_with fail
    first
      | (go_region_with ((first
        | (go_at_call 21; refine (HBA.out _).mono ?_; rintro e w1 ⟨rfl, rfl⟩)
        | (go_at_call 30; refine HF2.out.mono ?_; rintro e w2 ⟨rfl, hb2⟩; have HB2' := hid (HBd.out.trans (hb2.mono HBd.out.size)); clear hb2))))
      | fail
    all_goals
      go_wp2_with fail
      go_ret
      exact ⟨by rw [HM3.out]; rfl, HB2'.out⟩
end Go.Proofs.YtclonnpglikddaaGreatDoor
