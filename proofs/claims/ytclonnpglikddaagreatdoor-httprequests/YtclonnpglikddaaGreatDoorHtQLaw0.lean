
/- Which requests may be, how they are put together, and that they are read back: the statement's walk. -/
import Derived.Test.YtclonnpglikddaaGreatDoorHtPQ
import Derived.Test.YtclonnpglikddaaGreatDoorHtRReq
import Derived.Test.YtclonnpglikddaaGreatDoorHtSame
import Derived.Test.YtclonnpglikddaaGreatDoorHtAw
import Derived.OpenShut
namespace Go.Proofs.YtclonnpglikddaaGreatDoor
set_option linter.unusedVariables false
set_option linter.unusedSimpArgs false
open Go.RowKit Go.BigFrame
attribute [local go_sem ↓] load25_eq

def lightM (l : List HdV) (n : Nat) : Bool := lightH l && decide (n ≤ 40000)
theorem light11_any (l : List HdV) (A : Option Addr) (c : Nat) (B : Option Addr) (n cb : Nat) (hf : FitH l) (w : World) (hA : HdsAt w A l) : Calls Tryz.prog 7 #[.slice A l.length c, .slice B n cb] w fun e w' => e = .returned (.bool (lightM l n)) ∧ Below w.heap.size w w' := by
  have HR : Hid (lightM l n = (decide (l.length ≤ 100) && decide (sizeH l ≤ 20000) && decide (n ≤ 40000))) := rfl
  by_cases h1 : l.length ≤ 100
  · have HS := hid (refSize_any l A c (by omega) hf w hA)
    have h1i : (l.length : Int) ≤ 100 := by omega
    rw [decide_eq_true h1] at HR
    clear hf hA h1
    generalize lightM l n = R at HR ⊢
    generalize sizeH l = sz at HS HR
    generalize l.length = ln at h1i HS ⊢
    by_cases h2 : sz ≤ 20000
    · have h2i : (sz : Int) ≤ 20000 := by omega
      rw [decide_eq_true h2] at HR
      clear h2
      by_cases h3 : n ≤ 40000
      · have h3i : (n : Int) ≤ 40000 := by omega
        rw [decide_eq_true h3] at HR
        clear h3
        go_enter Tryz.func7, Tryz.ntmps7
        go_wp2_with fail
        refine HS.out.mono ?_
        rintro e W ⟨rfl, hb⟩
        have HB := hid hb
        clear hb
        go_wp2_with fail
        go_ret
        exact ⟨by rw [HR.out]; first | rfl | simp [h3i], HB.out⟩
      · have h3i : ¬ (n : Int) ≤ 40000 := by omega
        rw [decide_eq_false h3] at HR
        clear h3
        go_enter Tryz.func7, Tryz.ntmps7
        go_wp2_with fail
        refine HS.out.mono ?_
        rintro e W ⟨rfl, hb⟩
        have HB := hid hb
        clear hb
        go_wp2_with fail
        go_ret
        exact ⟨by rw [HR.out]; first | rfl | simp <;> omega, HB.out⟩
    · have h2i : ¬ (sz : Int) ≤ 20000 := by omega
      rw [decide_eq_false h2] at HR
      clear h2
      go_enter Tryz.func7, Tryz.ntmps7
      go_wp2_with fail
      refine HS.out.mono ?_
      rintro e W ⟨rfl, hb⟩
      have HB := hid hb
      clear hb
      go_wp2_with fail
      go_ret
      exact ⟨by rw [HR.out]; first | rfl | simp <;> omega, HB.out⟩
  · have h1i : ¬ (l.length : Int) ≤ 100 := by omega
    rw [decide_eq_false h1] at HR
    clear hf hA h1
    generalize lightM l n = R at HR ⊢
    generalize l.length = ln at h1i ⊢
    go_enter Tryz.func7, Tryz.ntmps7
    go_wp2_with fail
    go_ret
    exact ⟨by rw [HR.out]; first | rfl | simp <;> omega, Below.refl _ _⟩
theorem req_len (m t : List UInt8) (l : List HdV) (bd : List UInt8) (h : mayReq ⟨m, t, l, bd⟩ = true) : (printReq ⟨m, t, l, bd⟩).length ≤ m.length + t.length + 50000 := by
  obtain ⟨hck, _⟩ := may_own _ h
  obtain ⟨_, h2⟩ := check_fit _ hck
  have h3 : bd.length ≤ 32768 := by
    unfold mayReq at h
    rw [Bool.and_eq_true] at h
    exact (fits_parts _ _ _ h.2).2.2.1
  have h4 := print_size (ownReq ⟨m, t, l, bd⟩)
  unfold printReq joinM lineReq
  simp only [List.length_append, List.length_cons, verM, List.length_nil]
  omega
end Go.Proofs.YtclonnpglikddaaGreatDoor
