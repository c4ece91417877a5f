
/- Are values alike? The reference's answer. -/
import Derived.Test.YtlgkbdebpnbndaaGreatDoorJsSize
import Derived.Test.YtlgkbdebpnbndaaGreatDoorJsGet
import Derived.Test.YtlgkbdebpnbndaaGreatDoorJsObj
import Derived.BigQuiet
namespace Go.Proofs.YtlgkbdebpnbndaaGreatDoor
set_option linter.unusedVariables false
set_option linter.unusedSimpArgs false
open Go.RowKit Go.BigFrame

theorem vj_eq : ∀ (d : Nat) (a b : VJ d), a = b ↔ labJ d a = labJ d b ∧ kidsJ d a = kidsJ d b
  | 0, a, b => ⟨fun h => ⟨by rw [h], by rw [h]⟩, fun h => h.1⟩
  | _ + 1, a, b => ⟨fun h => ⟨by rw [h], by rw [h]⟩, fun h => Prod.ext h.1 h.2⟩
/-- Are they alike? -/
def eqJ : (d : Nat) → VJ d → VJ d → Bool
  | 0, a, b => decide (labJ 0 a = labJ 0 b)
  | d + 1, a, b => decide (a.1 = b.1) && (decide (a.2.length = b.2.length) && (a.2.zip b.2).all fun p => eqJ d p.1 p.2)
theorem eqJ_iff : ∀ (d : Nat) (a b : VJ d), eqJ d a b = true ↔ a = b
  | 0, a, b => by
    show decide (labJ 0 a = labJ 0 b) = true ↔ _
    rw [decide_eq_true_iff]
    exact Iff.rfl
  | d + 1, a, b => by
    have hl : ∀ (x y : List (VJ d)), x.length = y.length → ((x.zip y).all (fun p => eqJ d p.1 p.2) = true ↔ x = y) := fun x => by
      induction x with
      | nil => intro y h; cases y with
        | nil => simp
        | cons b r => simp at h
      | cons a x ih =>
        intro y h
        cases y with
        | nil => simp at h
        | cons b y =>
          rw [List.zip_cons_cons, List.all_cons, Bool.and_eq_true, ih y (by simpa using h), List.cons.injEq, eqJ_iff d a b]
    show (decide (a.1 = b.1) && (decide (a.2.length = b.2.length) && _)) = true ↔ _
    rw [Bool.and_eq_true, Bool.and_eq_true, decide_eq_true_iff, decide_eq_true_iff]
    constructor
    · rintro ⟨h1, h2, h3⟩
      exact Prod.ext h1 ((hl _ _ h2).1 h3)
    · rintro rfl
      exact ⟨rfl, rfl, (hl _ _ rfl).2 rfl⟩
theorem eqJ_yes {d : Nat} {a b : VJ d} (h : a = b) : eqJ d a b = true := (eqJ_iff d a b).2 h
theorem eqJ_no {d : Nat} {a b : VJ d} (h : ¬ a = b) : eqJ d a b = false := by
  cases he : eqJ d a b with
  | true => exact absurd ((eqJ_iff d a b).1 he) h
  | false => rfl
theorem getD_atJ {α : Type} {l : List α} {z : α} {j : Nat} (h : j < l.length) : l.getD j z = l[j] := by rw [List.getD_eq_getElem?_getD, List.getElem?_eq_getElem h]; rfl
theorem drop_eqJ {α : Type} {x y : List α} {k : Nat} {z : α} (h1 : k < x.length) (h2 : k < y.length) : x.drop k = y.drop k ↔ x.getD k z = y.getD k z ∧ x.drop (k + 1) = y.drop (k + 1) := by
  rw [List.drop_eq_getElem_cons h1, List.drop_eq_getElem_cons h2, List.cons.injEq, getD_atJ h1, getD_atJ h2]
theorem map_injJ : ∀ {l l' : List (List UInt8)}, l.map asS = l'.map asS → l = l'
  | [], [], _ => rfl
  | [], _ :: _, h => by simp at h
  | _ :: _, [], h => by simp at h
  | a :: l, b :: l', h => by
    rw [List.map_cons, List.map_cons, List.cons.injEq] at h
    rw [asS_eqJ.1 h.1, map_injJ h.2]
set_option maxHeartbeats 2000000 in
theorem texts_any {P P' : Nat → Prop} (l l' : List (List UInt8)) (hl : l.length ≤ 1000000) (hl' : l'.length ≤ 1000000) (A B : Option Addr) (c c' : Nat) (w : World) (hA : NmsP P w A l) (hB : NmsP P' w B l') : Calls Tryz.prog 37 #[.slice A l.length c, .slice B l'.length c'] w fun x w' => x = .returned (.bool (decide (l = l'))) ∧ Below w.heap.size w w' := by
  by_cases hne : l.length = l'.length
  · have HA := hid hA
    have HB := hid hB
    clear hA hB
    generalize hn : l.length = n at hl hne ⊢
    rw [← hne]
    have HN := hid hn
    have HN' := hid hne.symm
    have hnn : ((n : Int) != (n : Int)) = false := by simp
    clear hn hne hl'
    have HEQ : Hid ((l = l') ↔ l.drop 0 = l'.drop 0) := by show _ ↔ _; rw [List.drop_zero, List.drop_zero]
    go_enter Tryz.func37, Tryz.ntmps37
    go_wp2_with fail
    go_loopw [5] (fun i wr => ∃ k : Nat, k ≤ n ∧ i = .int .i64 (k : Int) ∧ Hid ((l = l') ↔ l.drop k = l'.drop k) ∧ Hid (Below w.heap.size w wr)) (fun i wr => n - (intOf i).toNat)
    case atStart => exact ⟨0, Nat.zero_le _, rfl, HEQ, Below.refl _ _⟩
    case round =>
      obtain ⟨k, hk2, rfl, HK, HBL⟩ := hrel
      by_cases hlt : k < n
      · have hi : (k : Int) < (n : Int) := by omega
        have hkl : k < l.length := by have := HN.out; omega
        have hkl' : k < l'.length := by have := HN'.out; omega
        obtain ⟨q, o, hq, _, hql, hc⟩ := HA.out (by omega)
        obtain ⟨q', o', hq', _, hql', hc'⟩ := HB.out (by omega)
        have k1 := (HBL.out.cell (p := ⟨q, o + k, none⟩) hql).trans (hc k hkl)
        have k2 := (HBL.out.cell (p := ⟨q', o' + k, none⟩) hql').trans (hc' k hkl')
        have HD := hid (drop_eqJ (z := ([] : List UInt8)) hkl hkl')
        clear hc hc' hkl hkl' hql hql'
        subst hq hq'
        by_cases he : l.getD k [] = l'.getD k []
        · have HK2 : Hid ((l = l') ↔ l.drop (k + 1) = l'.drop (k + 1)) := HK.out.trans (HD.out.trans ⟨fun h => h.2, fun h => ⟨he, h⟩⟩)
          rw [← he] at k2
          clear he HD HK
          generalize asS (l.getD k []) = X at k1 k2
          have hxx : (X.toList == X.toList) = true := by simp
          go_wp2_with fail
          go_quiet (fail)
          go_wp2_with fail
          go_roundw
          case rel => exact ⟨k + 1, by omega, by go_num, HK2, HBL.out.trans ((below_drewN _ _ _).mono HBL.out.size)⟩
          case measure => simp [intOf]; omega
        · have HR : Hid (decide (l = l') = false) := decide_eq_false fun h => he ((HD.out.1 (HK.out.1 h)).1)
          have hxx : ((asS (l.getD k [])).toList == (asS (l'.getD k [])).toList) = false := by
            rw [tl_two]
            exact decide_eq_false he
          clear he HD HK
          generalize asS (l.getD k []) = X at k1 hxx
          generalize asS (l'.getD k []) = Y at k2 hxx
          go_wp2_with fail
          go_quiet (fail)
          go_wp2_with fail
          go_ret
          exact ⟨by rw [HR.out]; rfl, HBL.out.trans ((below_drewN _ _ _).mono HBL.out.size)⟩
      · have hi : ¬ (k : Int) < (n : Int) := by omega
        have HR : Hid (decide (l = l') = true) := decide_eq_true (HK.out.2 (by rw [List.drop_of_length_le (by have := HN.out; omega), List.drop_of_length_le (by have := HN'.out; omega)]))
        go_wp2_with fail
        go_ret
        exact ⟨by rw [HR.out]; rfl, HBL.out⟩
  · have HR : Hid (decide (l = l') = false) := decide_eq_false fun h => hne (by rw [h])
    have hnn : (((l.length : Nat) : Int) != ((l'.length : Nat) : Int)) = true := by
      rw [bne_iff_ne]
      omega
    clear hA hB
    generalize l.length = n at hnn hne hl ⊢
    generalize l'.length = n' at hnn hne hl' ⊢
    go_enter Tryz.func37, Tryz.ntmps37
    go_wp2_with fail
    go_ret
    exact ⟨by rw [HR.out]; rfl, Below.refl _ _⟩
theorem equal_any {P P' : Nat → Prop} (l l' : List (List UInt8)) (hl : l.length ≤ 1000000) (hl' : l'.length ≤ 1000000) (A B : Option Addr) (c c' : Nat) (w : World) (hA : NmsP P w A l) (hB : NmsP P' w B l') : Calls Tryz.prog 66 #[.slice A l.length c, .slice B l'.length c'] w fun x w' => x = .returned (.bool (decide (l = l'))) ∧ ∃ q, w' = w.drewN q := by
  by_cases hne : l.length = l'.length
  · by_cases h0 : l.length = 0
    · have e1 := List.length_eq_zero_iff.1 h0
      have e2 := List.length_eq_zero_iff.1 (hne.symm.trans h0)
      subst e1 e2
      exact (Tryz.slices_Equal_string_empty A B c 0 c' w (by omega)).mono fun x w' hh => ⟨hh.1, 0, by rw [hh.2]; rfl⟩
    · obtain ⟨q, o, rfl, _, _, hc⟩ := hA (by omega)
      obtain ⟨q', o', rfl, _, _, hc'⟩ := hB (by omega)
      refine (Tryz.slices_Equal_string q o l.length c q' o' l'.length c' (l.map asS) (l'.map asS) w (by simp) (by simp) (by omega) (by omega) (fun j hj => ?_) (fun j hj => ?_)).mono fun x w' hh => ⟨?_, hh.2⟩
      · rw [List.length_map] at hj
        rw [hc j hj]
        simp [List.getD_eq_getElem?_getD, hj]
      · rw [List.length_map] at hj
        rw [hc' j hj]
        simp [List.getD_eq_getElem?_getD, hj]
      · rw [hh.1]
        congr 2
        rw [List.take_of_length_le (by simp), List.take_of_length_le (by simp)]
        rw [decide_eq_decide]
        exact ⟨fun h => map_injJ h, fun h => by rw [h]⟩
  · have HR : decide (l = l') = false := decide_eq_false fun h => hne (by rw [h])
    rw [HR]
    exact (Tryz.slices_Equal_string_lens A B l.length c l'.length c' w hne).mono fun x w' hh => ⟨hh.1, 0, by rw [hh.2]; rfl⟩
end Go.Proofs.YtlgkbdebpnbndaaGreatDoor
