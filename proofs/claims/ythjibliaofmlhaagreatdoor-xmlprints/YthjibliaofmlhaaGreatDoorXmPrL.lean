
/- The law XmlPrints, but for the law itself: the reference's Check, and what a light node's size says. -/
import Derived.Test.YthjibliaofmlhaaGreatDoorXmRMay
namespace Go.Proofs.YthjibliaofmlhaaGreatDoor
set_option linter.unusedVariables false
set_option linter.unusedSimpArgs false
open Go.RowKit Go.BigFrame
attribute [local go_sem ↓] loadN_eq

theorem many_wt : ∀ (d : Nat) (t : Tr d), manyT d t ≤ wtT d t := by
  have step : ∀ (d : Nat) (t : Tr d), ((kidsT d t).map (manyT (d - 1))).sum ≤ ((kidsT d t).map (wtT (d - 1))).sum → manyT d t ≤ wtT d t := by
    intro d t h
    rw [many_eq, wt_eq]
    have := attW_len (lab d t).2.1
    split <;> omega
  intro d
  induction d with
  | zero => intro t; exact step 0 t (Nat.le_refl _)
  | succ d ih =>
    intro t
    refine step (d + 1) t ?_
    show ((kidsT (d + 1) t).map (manyT d)).sum ≤ ((kidsT (d + 1) t).map (wtT d)).sum
    generalize kidsT (d + 1) t = l
    induction l with
    | nil => exact Nat.le_refl _
    | cons a r ih2 =>
      have := ih a
      simp only [List.map_cons, List.sum_cons]
      omega
theorem fit_kids (N : Nat) : ∀ (d : Nat) (t : Tr d), FitN N d t → KidsFit N d t
  | 0, t, _ => trivial
  | d + 1, t, h => ⟨h.2.1, fun k hk => fit_kids N d k (h.2.2 k hk)⟩
theorem list_wt (N : Nat) : ∀ (d k : Nat) (t : Tr d), wtT d t ≤ N → (∀ x ∈ listT d k t, wtT x.2.1 x.2.2 ≤ N) ∧ (listT d k t).length ≤ wtT d t
  | 0, k, t, h => by
    refine ⟨fun x hx => ?_, ?_⟩
    · have : x = (k, ⟨0, t⟩) := by simpa [listT] using hx
      subst this
      exact h
    · have : (listT 0 k t).length = 1 := rfl
      rw [this, wt_eq]
      omega
  | d + 1, k, t, h => by
    have hkd : ∀ y ∈ t.2, wtT d y ≤ N := (wt_parts h).2.2.2.2.2
    have hsum : (t.2.map (wtT d)).sum + 1 ≤ wtT (d + 1) t := by
      show (t.2.map (wtT d)).sum + 1 ≤ 1 + t.1.1.length + t.1.2.2.length + attW t.1.2.1 + (t.2.map (wtT d)).sum
      omega
    have e : listT (d + 1) k t = (k, (⟨d + 1, t⟩ : Sigma Tr)) :: (if t.1.1.isEmpty then [] else t.2.flatMap (listT d (k + 1))) := rfl
    rw [e]
    refine ⟨fun x hx => ?_, ?_⟩
    · rcases List.mem_cons.1 hx with rfl | hx
      · exact h
      · split at hx
        · cases hx
        · obtain ⟨y, hy, hxy⟩ := List.mem_flatMap.1 hx
          exact (list_wt N d (k + 1) y (hkd y hy)).1 x hxy
    · rw [List.length_cons]
      split
      · simp; omega
      · have : (t.2.flatMap (listT d (k + 1))).length ≤ (t.2.map (wtT d)).sum := by
          clear hsum e h
          generalize t.2 = l at hkd
          induction l with
          | nil => exact Nat.le_refl _
          | cons a r ih =>
            have h1 := (list_wt N d (k + 1) a (hkd a (by simp))).2
            have h2 := ih (fun y hy => hkd y (by simp [hy]))
            rw [List.flatMap_cons, List.length_append, List.map_cons, List.sum_cons]
            omega
        omega
theorem cnt_sum (l : List Nd) (N : Nat) (h : ∀ x ∈ l, cntN x ≤ N) : (l.map cntN).sum ≤ l.length * N := by
  induction l with
  | nil => simp
  | cons a r ih =>
    have h1 := h a (by simp)
    have h2 := ih (fun x hx => h x (by simp [hx]))
    rw [List.map_cons, List.sum_cons, List.length_cons, Nat.add_mul]
    omega
/-- What a light node keeps to. -/
theorem wt_print {d : Nat} {t : Tr d} (h : wtT d t ≤ 12000) : (listT d 1 t).length ≤ 100000 ∧ (∀ x ∈ listT d 1 t, TopC x.2.1 x.2.2) ∧ ((listT d 1 t).map cntN).sum ≤ 1000000000000 ∧ FitN 1000000 d t ∧ LeT 65536 d t ∧ KidsFit 1000000 d t ∧ manyT d t ≤ 12000 := by
  obtain ⟨h1, h2⟩ := list_wt 12000 d 1 t h
  have hf := wt_fit d t 1000000 (by omega)
  have hl := wt_fit d t 65536 (by omega)
  have hm := many_wt d t
  refine ⟨by omega, fun x hx => ?_, ?_, hf.1, hl.2, fit_kids _ d t hf.1, by omega⟩
  · obtain ⟨a, b, c, e, f, _⟩ := wt_parts (h1 x hx)
    exact ⟨by omega, by omega, fun y hy => by have := (e y hy).1; omega, by omega⟩
  · have hc := cnt_sum (listT d 1 t) 12001 (fun x hx => by
      have := (wt_parts (h1 x hx)).2.2.1
      unfold cntN
      omega)
    have : (listT d 1 t).length * 12001 ≤ 12000 * 12001 := Nat.mul_le_mul_right _ (by omega)
    omega
set_option maxHeartbeats 1000000 in
set_option maxRecDepth 100000 in
theorem refCheck13_any (P : Nat → Prop) (t : Tr 40) (hw : wtT 40 t ≤ 12000) (cs : Array Value) (w : World) (h : NdAt P 40 w cs t) : Calls Tryz.prog 11 #[.agg cs] w fun e w' => e = .returned (.int .i64 (checkT 40 t : Nat)) ∧ Below w.heap.size w w' := by
  obtain ⟨_, _, _, _, _, hkf, hmn⟩ := wt_print hw
  have HMY : Hid (∀ W, Below w.heap.size w W → Calls Tryz.prog 29 #[.agg cs] W fun e w' => e = .returned (.bool (mayT 40 t)) ∧ Below W.heap.size W w') := fun W hb => refMay_any P 40 t hw cs W (h.below hb (Nat.le_refl _))
  have HDP : Hid (∀ W, Below w.heap.size w W → Calls Tryz.prog 24 #[.agg cs] W fun e w' => e = .returned (.int .i64 (deepT 40 t)) ∧ Below W.heap.size W w') := fun W hb => refDeep_any P 40 t (by omega) hkf cs W (h.below hb (Nat.le_refl _))
  have HMN : Hid (∀ W, Below w.heap.size w W → Calls Tryz.prog 25 #[.agg cs] W fun e w' => e = .returned (.int .i64 (manyT 40 t)) ∧ Below W.heap.size W w') := fun W hb => refMany_any P 40 t (by omega) hkf cs W (h.below hb (Nat.le_refl _))
  have hdl := deep_le 40 t
  obtain ⟨aA, ac, kA, kc, hcs, _, _, _⟩ := h.parts
  subst hcs
  unfold ndcs at HMY HDP HMN ⊢
  have HD : Hid (checkT 40 t = if (nmT 40 t).isEmpty || !mayT 40 t then 1 else if 16 < deepT 40 t then 9 else if 4096 < manyT 40 t then 3 else 0) := rfl
  have hq : ((asS (lab 40 t).1).toList == []) = (nmT 40 t).isEmpty := str_nil9 _
  clear h hw hkf
  generalize checkT 40 t = R at HD ⊢
  generalize mayT 40 t = my at HD HMY
  generalize deepT 40 t = dp at HD HDP hdl
  generalize manyT 40 t = mn at HD HMN hmn
  generalize (nmT 40 t).isEmpty = z at HD hq
  generalize asS (lab 40 t).1 = NM at *
  generalize asS (lab 40 t).2.2 = TX at *
  generalize (lab 40 t).2.1.length = m at *
  generalize (kidsT 40 t).length = n at *
  have HROW := hid (heap_alloc_new w (.cells #[.string NM, .slice aA m ac, .string TX, .slice kA n kc] 25))
  have HB0 := hid ((Below.refl w.heap.size w).alloc (Nat.le_refl _) (.cells #[.string NM, .slice aA m ac, .string TX, .slice kA n kc] 25))
  obtain ⟨W0, hW0⟩ : ∃ W0, w.alloc (.cells #[.string NM, .slice aA m ac, .string TX, .slice kA n kc] 25) = W0 := ⟨_, rfl⟩
  rw [hW0] at HB0 HROW
  have c0 : W0.cell? ⟨w.heap.size, 0, none⟩ = some (.string NM) := cell_of_row _ _ _ _ _ _ HROW.out
  have hld0 := loadN_run HROW.out rfl
  have HMY0 := hid (HMY.out W0 HB0.out)
  cases z
  · cases my
    · have HR : Hid (R = 1) := by show _ = _; rw [HD.out]; rfl
      go_enter Tryz.func11, Tryz.ntmps11
      go_wp2_with fail
      refine HMY0.out.mono ?_
      rintro e W1 ⟨rfl, hb1⟩
      have HB1 := hid (HB0.out.trans (hb1.mono HB0.out.size))
      clear hb1
      go_wp2_with fail
      go_ret
      exact ⟨by rw [HR.out]; rfl, HB1.out⟩
    · simp only [Bool.not_true, Bool.or_self, Bool.false_eq_true, if_false] at HD
      go_enter Tryz.func11, Tryz.ntmps11
      go_wp2_with fail
      refine HMY0.out.mono ?_
      rintro e W1 ⟨rfl, hb1⟩
      have HB1 := hid (HB0.out.trans (hb1.mono HB0.out.size))
      have HR1 := hid (row_keep hb1 HROW.out)
      have hld1 := loadN_run HR1.out rfl
      have HDP1 := hid (HDP.out W1 HB1.out)
      clear hb1 c0 hld0
      by_cases h1 : 16 < dp
      · have h1' : (16 : Int) < (dp : Int) := by omega
        have HR : Hid (R = 9) := by show _ = _; rw [HD.out, if_pos h1]
        go_wp2_with fail
        refine HDP1.out.mono ?_
        rintro e W2 ⟨rfl, hb2⟩
        have HB2 := hid (HB1.out.trans (hb2.mono HB1.out.size))
        clear hb2
        go_wp2_with fail
        go_ret
        exact ⟨by rw [HR.out]; rfl, HB2.out⟩
      · have h1' : ¬ (16 : Int) < (dp : Int) := by omega
        rw [if_neg h1] at HD
        go_wp2_with fail
        refine HDP1.out.mono ?_
        rintro e W2 ⟨rfl, hb2⟩
        have HB2 := hid (HB1.out.trans (hb2.mono HB1.out.size))
        have hld2 := loadN_run (row_keep hb2 HR1.out) rfl
        have HMN2 := hid (HMN.out W2 HB2.out)
        clear hb2 hld1
        by_cases h2 : 4096 < mn
        · have h2' : (4096 : Int) < (mn : Int) := by omega
          have HR : Hid (R = 3) := by show _ = _; rw [HD.out, if_pos h2]
          go_wp2_with fail
          refine HMN2.out.mono ?_
          rintro e W3 ⟨rfl, hb3⟩
          have HB3 := hid (HB2.out.trans (hb3.mono HB2.out.size))
          clear hb3
          go_wp2_with fail
          go_ret
          exact ⟨by rw [HR.out]; rfl, HB3.out⟩
        · have h2' : ¬ (4096 : Int) < (mn : Int) := by omega
          have HR : Hid (R = 0) := by show _ = _; rw [HD.out, if_neg h2]
          go_wp2_with fail
          refine HMN2.out.mono ?_
          rintro e W3 ⟨rfl, hb3⟩
          have HB3 := hid (HB2.out.trans (hb3.mono HB2.out.size))
          clear hb3
          go_wp2_with fail
          go_ret
          exact ⟨by rw [HR.out]; rfl, HB3.out⟩
  · have HR : Hid (R = 1) := by show _ = _; rw [HD.out]; rfl
    go_enter Tryz.func11, Tryz.ntmps11
    go_wp2_with fail
    go_ret
    exact ⟨by rw [HR.out]; rfl, HB0.out⟩
end Go.Proofs.YthjibliaofmlhaaGreatDoor
