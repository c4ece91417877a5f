
/- May a node be: what the reference's May and Check do. -/
import Derived.Test.YthjibliaofmlhaaGreatDoorXmSize
import Derived.Test.YthjibliaofmlhaaGreatDoorXmRErr
import Derived.Test.YthjibliaofmlhaaGreatDoorXmPar
import Derived.BigQuiet
namespace Go.Proofs.YthjibliaofmlhaaGreatDoor
set_option linter.unusedVariables false
set_option linter.unusedSimpArgs false
open Go.RowKit Go.BigFrame
attribute [local go_sem ↓] loadN_eq

set_option maxRecDepth 100000 in
theorem refText13 (l : List UInt8) (hl : l.length ≤ 1000000) (w : World) : Calls Tryz.prog 49 #[.string (asS l)] w fun e w' => e = .returned (.bool (X l)) ∧ Below w.heap.size w w' := by
  have HE := hid (refErr13 l hl w)
  rw [X_err]
  by_cases h : errX l = 0
  · rw [decide_eq_true h]
    rw [h] at HE
    generalize asS l = S at HE ⊢
    clear h
    go_enter Tryz.func49, Tryz.ntmps49
    go_wp2_with fail
    refine HE.out.mono ?_
    rintro e W2 ⟨rfl, hb2⟩
    have HB2 := hid hb2
    clear hb2
    go_wp2_with fail
    go_ret
    exact ⟨rfl, HB2.out⟩
  · rw [decide_eq_false h]
    generalize asS l = S at HE ⊢
    generalize errX l = E at h HE
    have h' : ((E : Int) == 0) = false := by rw [beq_eq_false_iff_ne]; omega
    go_enter Tryz.func49, Tryz.ntmps49
    go_wp2_with fail
    refine HE.out.mono ?_
    rintro e W2 ⟨rfl, hb2⟩
    have HB2 := hid hb2
    clear hb2
    go_wp2_with fail
    go_ret
    exact ⟨rfl, HB2.out⟩
theorem attW_mem : ∀ {al : List HdV} {a : HdV}, a ∈ al → 1 + a.name.length + a.value.length ≤ attW al
  | b :: r, a, h => by
    have e : attW (b :: r) = 1 + b.name.length + b.value.length + attW r := by simp [attW]
    rcases List.mem_cons.1 h with rfl | h
    · omega
    · have := attW_mem h
      omega
theorem attW_len : ∀ (al : List HdV), al.length ≤ attW al
  | [] => Nat.zero_le _
  | b :: r => by
    have e : attW (b :: r) = 1 + b.name.length + b.value.length + attW r := by simp [attW]
    have := attW_len r
    rw [List.length_cons]
    omega
theorem wt_parts {d : Nat} {t : Tr d} {N : Nat} (h : wtT d t ≤ N) : (lab d t).1.length ≤ N ∧ (lab d t).2.2.length ≤ N ∧ (lab d t).2.1.length ≤ N ∧ (∀ a ∈ (lab d t).2.1, a.name.length ≤ N ∧ a.value.length ≤ N) ∧ (kidsT d t).length ≤ N ∧ ∀ k ∈ kidsT d t, wtT (d - 1) k ≤ N := by
  rw [wt_eq] at h
  have e1 : (nmT d t).length = (lab d t).1.length := rfl
  have e2 : (txT d t).length = (lab d t).2.2.length := rfl
  have a1 := attW_len (lab d t).2.1
  have a3 : (kidsT d t).length ≤ ((kidsT d t).map (wtT (d - 1))).sum := by
    clear h
    generalize kidsT d t = l
    induction l with
    | nil => exact Nat.zero_le _
    | cons a r ih =>
      have : 1 ≤ wtT (d - 1) a := by rw [wt_eq]; omega
      rw [List.map_cons, List.sum_cons, List.length_cons]
      omega
  refine ⟨by omega, by omega, by omega, fun a ha => ?_, by omega, fun k hk => ?_⟩
  · have := attW_mem ha
    omega
  · have := sum_mem (wtT (d - 1)) hk
    omega
theorem atts_snoc9 (l : List HdV) (a : HdV) : attsOk (l ++ [a]) = (attsOk l && !(l.map (·.name)).contains a.name && nameX a.name && X a.value) := by
  unfold attsOk
  rw [List.all_append, List.map_append, List.map_cons, List.map_nil, distN_snoc, List.all_cons, List.all_nil]
  cases l.all (fun a => nameX a.name && X a.value) <;> cases distN (l.map (·.name)) <;> cases (l.map (·.name)).contains a.name <;> cases nameX a.name <;> cases X a.value <;> rfl
theorem atts_take (l : List HdV) (k : Nat) (h : attsOk l = true) : attsOk (l.take k) = true := by
  have e : l = l.take k ++ l.drop k := (List.take_append_drop k l).symm
  have aux : ∀ (r p : List HdV), attsOk (p ++ r) = true → attsOk p = true := by
    intro r
    induction r with
    | nil => intro p h; simpa using h
    | cons a r ih =>
      intro p h
      have h2 := ih (p ++ [a]) (by simpa using h)
      rw [atts_snoc9] at h2
      simp only [Bool.and_eq_true] at h2
      exact h2.1.1.1
  exact aux _ _ (e ▸ h)
theorem atts_step (l : List HdV) (k : Nat) (hk : k < l.length) (h : attsOk (l.take k) = true) : attsOk (l.take (k + 1)) = (!((l.take k).map (·.name)).contains (l.getD k zeroH).name && nameX (l.getD k zeroH).name && X (l.getD k zeroH).value) := by
  rw [take_getD l zeroH k hk, atts_snoc9, h, Bool.true_and]
theorem atts_dup (l : List HdV) (k p : Nat) (hk : k < l.length) (hp : p < k) (h : attsOk (l.take k) = true) (he : (l.getD p zeroH).name = (l.getD k zeroH).name) : attsOk l = false := by
  cases ha : attsOk l with
  | false => rfl
  | true =>
    have h2 := atts_take l (k + 1) ha
    rw [atts_step l k hk h] at h2
    have : ((l.take k).map (·.name)).contains (l.getD k zeroH).name = true := by
      rw [List.contains_iff_mem, ← he]
      refine List.mem_map.2 ⟨l.getD p zeroH, ?_, rfl⟩
      have hpt : p < (l.take k).length := by rw [List.length_take]; omega
      have : (l.take k).getD p zeroH = l.getD p zeroH := by
        rw [List.getD_eq_getElem?_getD, List.getD_eq_getElem?_getD, List.getElem?_take_of_lt hp]
      rw [← this]
      exact getD_mem9 hpt
    rw [this] at h2
    simp at h2
theorem atts_next (l : List HdV) (k : Nat) (hk : k < l.length) (h : attsOk (l.take k) = true) (hno : ∀ p, p < k → (l.getD p zeroH).name ≠ (l.getD k zeroH).name) : attsOk (l.take (k + 1)) = (nameX (l.getD k zeroH).name && X (l.getD k zeroH).value) := by
  rw [atts_step l k hk h]
  have : ((l.take k).map (·.name)).contains (l.getD k zeroH).name = false := by
    cases hc : ((l.take k).map (·.name)).contains (l.getD k zeroH).name with
    | false => rfl
    | true =>
      rw [List.contains_iff_mem] at hc
      obtain ⟨a, ha, he⟩ := List.mem_map.1 hc
      obtain ⟨p, hp, rfl⟩ := mem_getD zeroH ha
      rw [List.length_take] at hp
      refine absurd ?_ (hno p (by omega))
      rw [← he]
      rw [List.getD_eq_getElem?_getD, List.getD_eq_getElem?_getD, List.getElem?_take_of_lt (by omega)]
  rw [this]
  simp
theorem atts_no (l : List HdV) (k : Nat) (h : attsOk (l.take (k + 1)) = false) : attsOk l = false := by
  cases ha : attsOk l with
  | false => rfl
  | true => rw [atts_take l (k + 1) ha] at h; cases h
theorem map_getD9 {α : Type} (f : α → Bool) (z : α) (l : List α) (j : Nat) (h : j < l.length) : (l.map f).getD j false = f (l.getD j z) := by
  rw [List.getD_eq_getElem?_getD, List.getD_eq_getElem?_getD, List.getElem?_map, List.getElem?_eq_getElem h]
  rfl
theorem kids_ok {e : Nat} (ks : List (Tr e)) (h1 : ∀ j, j < ks.length → mayT e (ks.getD j (zeroT e)) = true) (h2 : ∀ j, j + 1 < ks.length → ((nmT e (ks.getD j (zeroT e))).isEmpty && (nmT e (ks.getD (j + 1) (zeroT e))).isEmpty) = false) : (ks.all (mayT e) && noAdj (ks.map fun k => (nmT e k).isEmpty)) = true := by
  rw [Bool.and_eq_true]
  refine ⟨List.all_eq_true.2 fun k hk => ?_, adj_all _ fun j hj => ?_⟩
  · obtain ⟨i, hi, rfl⟩ := mem_getD (zeroT e) hk
    exact h1 i hi
  · rw [List.length_map] at hj
    rw [map_getD9 _ (zeroT e) ks j (by omega), map_getD9 _ (zeroT e) ks (j + 1) hj]
    exact h2 j hj
theorem kids_no1 {e : Nat} (ks : List (Tr e)) (k : Nat) (hk : k < ks.length) (h : mayT e (ks.getD k (zeroT e)) = false) : (ks.all (mayT e) && noAdj (ks.map fun k => (nmT e k).isEmpty)) = false := by
  have : ks.all (mayT e) = false := by
    cases ha : ks.all (mayT e) with
    | false => rfl
    | true => rw [List.all_eq_true.1 ha _ (getD_mem9 hk)] at h; cases h
  rw [this]
  rfl
theorem kids_no2 {e : Nat} (ks : List (Tr e)) (k : Nat) (hk : k + 1 < ks.length) (h1 : (nmT e (ks.getD k (zeroT e))).isEmpty = true) (h2 : (nmT e (ks.getD (k + 1) (zeroT e))).isEmpty = true) : (ks.all (mayT e) && noAdj (ks.map fun k => (nmT e k).isEmpty)) = false := by
  rw [adj_no _ k (by rw [List.length_map]; exact hk) (by rw [map_getD9 _ (zeroT e) ks k (by omega), map_getD9 _ (zeroT e) ks (k + 1) hk, h1, h2]; rfl), Bool.and_false]
def MayOk (P : Nat → Prop) (d : Nat) (t : Tr d) : Prop := ∀ (cs : Array Value) (w : World), NdAt P d w cs t → Calls Tryz.prog 29 #[.agg cs] w fun e w' => e = .returned (.bool (mayT d t)) ∧ Below w.heap.size w w'
set_option maxHeartbeats 4000000 in
set_option maxRecDepth 100000 in
theorem may_of (d : Nat) (t : Tr d) (P : Nat → Prop) (hw : wtT d t ≤ 12000) (IH : ∀ j, j < (kidsT d t).length → MayOk P (d - 1) ((kidsT d t).getD j (zeroT (d - 1)))) : MayOk P d t := by
  intro cs w hnd
  obtain ⟨aA, ac, kA, kc, rfl, hats, hks, _⟩ := hnd.parts
  unfold ndcs
  obtain ⟨w1, w2, w3, w4, w5, _⟩ := wt_parts hw
  have HIH := hid IH
  unfold MayOk at HIH
  have HKS := hid hks
  have HA := hid hats.1
  have HD := hid (may_eqN d t)
  unfold mayTop at HD
  have HNM := hid (refName_any (lab d t).1 (by omega))
  have HTX := hid (refText13 (lab d t).2.2 (by omega))
  have HAN : Hid (∀ j, j < (lab d t).2.1.length → ∀ W, Calls Tryz.prog 50 #[.string (asS ((lab d t).2.1.getD j zeroH).name)] W fun e w' => e = .returned (.bool (nameX ((lab d t).2.1.getD j zeroH).name)) ∧ w' = W) := fun j hj W => refName_any _ (by have := (w4 _ (getD_mem9 (z := zeroH) hj)).1; omega) W
  have HAV : Hid (∀ j, j < (lab d t).2.1.length → ∀ W, Calls Tryz.prog 49 #[.string (asS ((lab d t).2.1.getD j zeroH).value)] W fun e w' => e = .returned (.bool (X ((lab d t).2.1.getD j zeroH).value)) ∧ Below W.heap.size W w') := fun j hj W => refText13 _ (by have := (w4 _ (getD_mem9 (z := zeroH) hj)).2; omega) W
  have hq := str_nil9 (lab d t).1
  have hqt := str_nil9 (lab d t).2.2
  clear IH hks hats hnd w1 w2 w4 hw
  generalize mayT d t = R at HD ⊢
  generalize (lab d t).1.isEmpty = z at hq HD
  generalize nameX (lab d t).1 = zn at HNM HD
  generalize X (lab d t).2.2 = zx at HTX HD
  generalize (lab d t).2.2.isEmpty = zt at hqt HD
  generalize asS (lab d t).1 = NM at HNM hq ⊢
  generalize asS (lab d t).2.2 = TX at HTX hqt ⊢
  generalize (lab d t).2.1 = al at HD HA HAN HAV w3 ⊢
  generalize kidsT d t = ks at HD HIH HKS w5 ⊢
  have HAE : Hid (al.isEmpty = (al.length == 0)) := by cases al <;> rfl
  have HKE : Hid (ks.isEmpty = (ks.length == 0)) := by cases ks <;> rfl
  rw [HAE.out, HKE.out] at HD
  generalize hn : ks.length = n at HIH HD w5 ⊢
  generalize hm : al.length = m at HAN HAV HD w3 ⊢
  have HN := hid hn
  have HM := hid hm
  clear hn hm HAE HKE
  have HROW := hid (heap_alloc_new w (.cells #[.string NM, .slice aA m ac, .string TX, .slice kA n kc] 25))
  have c0 : (w.alloc (.cells #[.string NM, .slice aA m ac, .string TX, .slice kA n kc] 25)).cell? ⟨w.heap.size, 0, none⟩ = some (.string NM) := cell_of_row _ _ _ _ _ _ HROW.out
  have c1 : (w.alloc (.cells #[.string NM, .slice aA m ac, .string TX, .slice kA n kc] 25)).cell? ⟨w.heap.size, 1, none⟩ = some (.slice aA m ac) := cell_of_row _ _ _ _ _ _ HROW.out
  have c2 : (w.alloc (.cells #[.string NM, .slice aA m ac, .string TX, .slice kA n kc] 25)).cell? ⟨w.heap.size, 2, none⟩ = some (.string TX) := cell_of_row _ _ _ _ _ _ HROW.out
  have c3 : (w.alloc (.cells #[.string NM, .slice aA m ac, .string TX, .slice kA n kc] 25)).cell? ⟨w.heap.size, 3, none⟩ = some (.slice kA n kc) := cell_of_row _ _ _ _ _ _ HROW.out
  have HB0 := hid ((Below.refl w.heap.size w).alloc (Nat.le_refl _) (.cells #[.string NM, .slice aA m ac, .string TX, .slice kA n kc] 25))
  obtain ⟨W0, hW0⟩ : ∃ W0, w.alloc (.cells #[.string NM, .slice aA m ac, .string TX, .slice kA n kc] 25) = W0 := ⟨_, rfl⟩
  rw [hW0] at HROW HB0 c0 c1 c2 c3
  cases z
  · simp only [Bool.false_eq_true, if_false] at HD
    cases zn
    · have HNM0 := hid (HNM.out W0)
      have HR : Hid (R = false) := by show _ = _; rw [HD.out]; rfl
      go_enter Tryz.func29, Tryz.ntmps29
      go_wp2_with fail
      refine HNM0.out.mono ?_
      rintro e W2 ⟨rfl, rfl⟩
      go_wp2_with fail
      go_ret
      exact ⟨by rw [HR.out]; rfl, HB0.out⟩
    · have HNM0 := hid (HNM.out W0)
      cases zt
      · have HR : Hid (R = false) := by show _ = _; rw [HD.out]; simp
        go_enter Tryz.func29, Tryz.ntmps29
        go_wp2_with fail
        refine HNM0.out.mono ?_
        rintro e W2 ⟨rfl, rfl⟩
        go_wp2_with fail
        go_ret
        exact ⟨by rw [HR.out]; rfl, HB0.out⟩
      · simp only [Bool.true_and] at HD
        go_enter Tryz.func29, Tryz.ntmps29
        go_wp2_with fail
        refine HNM0.out.mono ?_
        rintro e W2 ⟨rfl, hWW⟩
        rw [hWW]
        clear hWW
        go_wp2_with fail
        clear c0 c1 c2 c3 HNM HNM0 HTX hq hqt hW0
        go_loopw [3] (fun i wr => ∃ k : Nat, k ≤ m ∧ i = .int .i64 (k : Int) ∧ Hid (attsOk (al.take k) = true) ∧ Hid (Below W0.heap.size W0 wr)) (fun i wr => m - (intOf i).toNat)
        case atStart => exact ⟨0, Nat.zero_le _, rfl, rfl, Below.refl _ _⟩
        case round =>
          obtain ⟨k, hk2, rfl, HG, HB⟩ := hrel
          have HRW := hid (row_keep HB.out HROW.out)
          have c1 : wr.cell? ⟨w.heap.size, 1, none⟩ = some (.slice aA m ac) := cell_of_row _ _ _ _ _ _ HRW.out
          have hbw : Hid (Below w.heap.size w wr) := HB0.out.trans (HB.out.mono HB0.out.size)
          by_cases hlt : k < m
          · have hi : (k : Int) < (m : Int) := by omega
            have hal : k < al.length := by have := HM.out; omega
            go_wp2_with fail
            clear c1
            obtain ⟨W1, hW1⟩ : ∃ W1, W1 = wr := ⟨_, rfl⟩
            subst hW1
            go_loopw [4] (fun j w2 => ∃ p : Nat, p ≤ k ∧ j = .int .i64 (p : Int) ∧ Hid (∀ x, x < p → (al.getD x zeroH).name ≠ (al.getD k zeroH).name) ∧ Hid (Below W1.heap.size W1 w2)) (fun j w2 => k - (intOf j).toNat)
            case atStart => exact ⟨0, Nat.zero_le _, rfl, (fun x hx => by omega), Below.refl _ _⟩
            case round =>
              obtain ⟨p, hp2, rfl, HNO, HBJ⟩ := hrel
              have HRJ := hid (row_keep HBJ.out HRW.out)
              have c1 : wr.cell? ⟨w.heap.size, 1, none⟩ = some (.slice aA m ac) := cell_of_row _ _ _ _ _ _ HRJ.out
              have hbj : Hid (Below w.heap.size w wr) := hbw.out.trans (HBJ.out.mono hbw.out.size)
              have HBW : Hid (Below W0.heap.size W0 wr) := HB.out.trans (HBJ.out.mono HB.out.size)
              obtain ⟨q, o, hq, hqs, hcs⟩ := HA.out (by omega)
              subst hq
              have hc := hcs k hal
              have k1 := (hbj.out.cell (p := ⟨q, o + k * 2, none⟩) hqs).trans hc.1
              have k2 := (hbj.out.cell (p := ⟨q, o + k * 2 + 1, none⟩) hqs).trans hc.2
              by_cases hpk : p < k
              · have hpi : (p : Int) < (k : Int) := by omega
                have hpm : (p : Int) < (m : Int) := by omega
                have hpl : p < al.length := by omega
                have k3 := (hbj.out.cell (p := ⟨q, o + p * 2, none⟩) hqs).trans (hcs p hpl).1
                have heq := tl_two (al.getD p zeroH).name (al.getD k zeroH).name
                by_cases he : (al.getD p zeroH).name = (al.getD k zeroH).name
                · rw [decide_eq_true he] at heq
                  have HR : Hid (R = false) := by show _ = _; rw [HD.out, atts_dup al k p hal hpk HG.out he]; rfl
                  clear he hcs hc hqs hpl hal k2
                  generalize asS (al.getD p zeroH).name = A1 at k3 heq
                  generalize asS (al.getD k zeroH).name = A2 at k1 heq
                  go_wp2_with fail
                  go_quiet (fail)
                  go_wp2_with fail
                  go_ret
                  exact ⟨by rw [HR.out]; rfl, hbj.out.trans ((below_drewN _ _ _).mono hbj.out.size)⟩
                · rw [decide_eq_false he] at heq
                  have HST : Hid (∀ x, x < p + 1 → (al.getD x zeroH).name ≠ (al.getD k zeroH).name) := step_no (P := fun x => (al.getD x zeroH).name ≠ (al.getD k zeroH).name) HNO.out he
                  clear he hcs hc hqs hpl hal k2
                  generalize asS (al.getD p zeroH).name = A1 at k3 heq
                  generalize asS (al.getD k zeroH).name = A2 at k1 heq
                  go_wp2_with fail
                  go_quiet (fail)
                  go_wp2_with fail
                  go_roundw
                  case rel => exact ⟨p + 1, by omega, by go_num, HST.out, HBJ.out.trans ((below_drewN _ _ _).mono HBJ.out.size)⟩
                  case measure => simp [intOf]; omega
              · have hpi : ¬ (p : Int) < (k : Int) := by omega
                have HNX := hid (atts_next al k hal HG.out (fun x hx => HNO.out x (by omega)))
                have HNF := hid (atts_no al k)
                have HN1 := hid (HAN.out k hlt wr)
                have HV1 := hid (HAV.out k hlt)
                clear hcs hc hqs hal
                generalize asS (al.getD k zeroH).name = A1 at k1 HN1
                generalize asS (al.getD k zeroH).value = A2 at k2 HV1
                generalize nameX (al.getD k zeroH).name = yn at HN1 HNX
                generalize X (al.getD k zeroH).value = yx at HV1 HNX
                cases yn
                · have HR : Hid (R = false) := by show _ = _; rw [HD.out, HNF.out HNX.out]; rfl
                  go_wp2_with fail
                  refine HN1.out.mono ?_
                  rintro e W2 ⟨rfl, rfl⟩
                  go_wp2_with fail
                  go_ret
                  exact ⟨by rw [HR.out]; rfl, hbj.out⟩
                · go_wp2_with fail
                  refine HN1.out.mono ?_
                  rintro e W2 ⟨rfl, rfl⟩
                  go_wp2_with fail
                  refine (HV1.out _).mono ?_
                  rintro e W3 ⟨rfl, hb3⟩
                  have HB3 := hid (HBW.out.trans (hb3.mono HBW.out.size))
                  have HB3w := hid (hbj.out.trans (hb3.mono hbj.out.size))
                  clear hb3
                  cases yx
                  · have HR : Hid (R = false) := by show _ = _; rw [HD.out, HNF.out HNX.out]; rfl
                    go_wp2_with fail
                    go_ret
                    exact ⟨by rw [HR.out]; rfl, HB3w.out⟩
                  · go_wp2_with fail
                    go_roundw
                    case rel => exact ⟨k + 1, by omega, by go_num, HNX.out, HB3.out⟩
                    case measure => simp [intOf]; omega
          · have hi : ¬ (k : Int) < (m : Int) := by omega
            have HAT : Hid (attsOk al = true) := by
              have := HG.out
              rw [List.take_of_length_le (by have := HM.out; omega)] at this
              exact this
            rw [HAT.out, Bool.true_and] at HD
            obtain ⟨W1, hW1⟩ : ∃ W1, W1 = wr := ⟨_, rfl⟩
            subst hW1
            clear HA HAN HAV HM HG HAT
            go_wp2_with fail
            clear c1
            have HKO := hid (kids_ok ks)
            have HK1 := hid (kids_no1 ks)
            have HK2 := hid (kids_no2 ks)
            go_loopw [5] (fun i wr => ∃ k : Nat, k ≤ n ∧ i = .int .i64 (k : Int) ∧ Hid (∀ j, j < k → mayT (d - 1) (ks.getD j (zeroT (d - 1))) = true) ∧ Hid (∀ j, j + 1 < k → ((nmT (d - 1) (ks.getD j (zeroT (d - 1)))).isEmpty && (nmT (d - 1) (ks.getD (j + 1) (zeroT (d - 1)))).isEmpty) = false) ∧ Hid (Below W1.heap.size W1 wr)) (fun i wr => n - (intOf i).toNat)
            case atStart => exact ⟨0, Nat.zero_le _, rfl, (fun j hj => by omega), (fun j hj => by omega), Below.refl _ _⟩
            case round =>
              obtain ⟨k, hk2, rfl, HM1, HM2, HBJ⟩ := hrel
              have c3 : wr.cell? ⟨w.heap.size, 3, none⟩ = some (.slice kA n kc) := cell_of_row _ _ _ _ _ _ (row_keep HBJ.out HRW.out)
              have hbj : Hid (Below w.heap.size w wr) := hbw.out.trans (HBJ.out.mono hbw.out.size)
              by_cases hlt : k < n
              · have hi2 : (k : Int) < (n : Int) := by omega
                have hkl : k < ks.length := by have := HN.out; omega
                have HKW := hid (HKS.out.below hbj.out (Nat.le_refl _))
                obtain ⟨q, o, aA2, ac2, kA2, kc2, rfl, hql, k1, k2, k3, k4, hnd⟩ := HKW.out.at2 k hkl
                have hldq := loadN_mid k1 k2 k3 k4
                have HC := hid (HIH.out k hlt _ wr hnd)
                unfold ndcs at HC
                have hnmq : Hid (((asS (nmT (d - 1) (ks.getD k (zeroT (d - 1))))).toList == []) = (nmT (d - 1) (ks.getD k (zeroT (d - 1)))).isEmpty) := str_nil9 _
                have e1 : (lab (d - 1) (ks.getD k (zeroT (d - 1)))).1 = nmT (d - 1) (ks.getD k (zeroT (d - 1))) := rfl
                have e2 : (lab (d - 1) (ks.getD k (zeroT (d - 1)))).2.2 = txT (d - 1) (ks.getD k (zeroT (d - 1))) := rfl
                rw [e1, e2] at HC
                have HF1 := hid (HK1.out k hkl)
                have HS1 : Hid (mayT (d - 1) (ks.getD k (zeroT (d - 1))) = true → ∀ j, j < k + 1 → mayT (d - 1) (ks.getD j (zeroT (d - 1))) = true) := fun h => step_no (P := fun j => mayT (d - 1) (ks.getD j (zeroT (d - 1))) = true) HM1.out h
                clear k2 k3 k4 hnd e1 e2
                generalize asS (txT (d - 1) (ks.getD k (zeroT (d - 1)))) = KT at HC hldq
                generalize (lab (d - 1) (ks.getD k (zeroT (d - 1)))).2.1.length = ln1 at HC hldq
                generalize (kidsT (d - 1) (ks.getD k (zeroT (d - 1)))).length = ln2 at HC hldq
                cases hmy : mayT (d - 1) (ks.getD k (zeroT (d - 1)))
                · have HR : Hid (R = false) := by show _ = _; rw [HD.out, HF1.out hmy]
                  rw [hmy] at HC
                  clear hmy
                  generalize asS (nmT (d - 1) (ks.getD k (zeroT (d - 1)))) = KN at HC hldq k1
                  go_wp2_with fail
                  refine HC.out.mono ?_
                  rintro e W2 ⟨rfl, hb2⟩
                  have HB2 := hid (hbj.out.trans (hb2.mono hbj.out.size))
                  clear hb2
                  go_wp2_with fail
                  go_ret
                  exact ⟨by rw [HR.out]; rfl, HB2.out⟩
                · have HS2 := hid (HS1.out hmy)
                  rw [hmy] at HC
                  clear hmy
                  rcases Nat.eq_zero_or_pos k with h0 | h0
                  · have hk0 : ¬ (0 : Int) < (k : Int) := by omega
                    have H0 := hid h0
                    clear h0
                    generalize asS (nmT (d - 1) (ks.getD k (zeroT (d - 1)))) = KN at HC hldq k1
                    clear hnmq
                    go_wp2_with fail
                    refine HC.out.mono ?_
                    rintro e W2 ⟨rfl, hb2⟩
                    have HB2 := hid (HBJ.out.trans (hb2.mono HBJ.out.size))
                    clear hb2
                    go_wp2_with fail
                    go_roundw
                    case rel => exact ⟨k + 1, by omega, by go_num, HS2.out, (fun j hj => by have := H0.out; omega), HB2.out⟩
                    case measure => simp [intOf]; omega
                  · obtain ⟨k', rfl⟩ : ∃ k', k = k' + 1 := ⟨k - 1, by omega⟩
                    have hpos : (0 : Int) < ((k' + 1 : Nat) : Int) := by omega
                    obtain ⟨q', o', _, _, _, _, hqo, _, j1, _⟩ := HKW.out.at2 k' (by omega)
                    cases hqo
                    have hnmp : Hid (((asS (nmT (d - 1) (ks.getD k' (zeroT (d - 1))))).toList == []) = (nmT (d - 1) (ks.getD k' (zeroT (d - 1)))).isEmpty) := str_nil9 _
                    have HF2 := hid (HK2.out k' hkl)
                    have HS3 : Hid (((nmT (d - 1) (ks.getD k' (zeroT (d - 1)))).isEmpty && (nmT (d - 1) (ks.getD (k' + 1) (zeroT (d - 1)))).isEmpty) = false → ∀ j, j + 1 < k' + 1 + 1 → ((nmT (d - 1) (ks.getD j (zeroT (d - 1)))).isEmpty && (nmT (d - 1) (ks.getD (j + 1) (zeroT (d - 1)))).isEmpty) = false) := fun h j hj => by
                      rcases Nat.lt_or_ge (j + 1) (k' + 1) with h1 | h1
                      · exact HM2.out j h1
                      · obtain rfl : j = k' := by omega
                        exact h
                    generalize (nmT (d - 1) (ks.getD (k' + 1) (zeroT (d - 1)))).isEmpty = b1 at hnmq HF2 HS3
                    generalize (nmT (d - 1) (ks.getD k' (zeroT (d - 1)))).isEmpty = b2 at hnmp HF2 HS3
                    generalize asS (nmT (d - 1) (ks.getD (k' + 1) (zeroT (d - 1)))) = KN at HC hldq k1 hnmq
                    generalize asS (nmT (d - 1) (ks.getD k' (zeroT (d - 1)))) = KP at j1 hnmp
                    have hcell : ∀ W2, Below wr.heap.size wr W2 → W2.cell? ⟨q, o + (k' + 1) * 4, none⟩ = some (.string KN) ∧ W2.cell? ⟨q, o + k' * 4, none⟩ = some (.string KP) ∧ W2.cell? ⟨w.heap.size, 3, none⟩ = some (.slice (some ⟨q, o, none⟩) n kc) := fun W2 hb => ⟨(hb.cell (p := ⟨q, o + (k' + 1) * 4, none⟩) hql).trans k1, (hb.cell (p := ⟨q, o + k' * 4, none⟩) hql).trans j1, cell_of_row _ _ _ _ _ _ (row_keep hb (row_keep HBJ.out HRW.out))⟩
                    have HCE := hid hcell
                    clear hcell
                    have hkn : ((k' + 1 : Nat) : Int) ≤ 12000 := by omega
                    have hkm : (k' : Int) < (n : Int) := by omega
                    have hw1 : IntKind.i64.wrap (((k' + 1 : Nat) : Int) - 1) = (k' : Int) := by rw [IntKind.wrap_i64]; omega
                    cases b1
                    · have HS4 := hid (HS3.out (by simp))
                      have hx := hnmq.out
                      clear j1 hnmp
                      go_wp2_with fail
                      refine HC.out.mono ?_
                      rintro e W2 ⟨rfl, hb2⟩
                      obtain ⟨z1, z2, z3⟩ := HCE.out W2 hb2
                      have HB2 := hid (HBJ.out.trans (hb2.mono HBJ.out.size))
                      clear hb2 k1 c3 hldq
                      go_wp2_with fail
                      go_roundw
                      case rel => exact ⟨k' + 1 + 1, by omega, by go_num, HS2.out, HS4.out, HB2.out⟩
                      case measure => simp [intOf]; omega
                    · have hx := hnmq.out
                      have hy := hnmp.out
                      cases b2
                      · have HS4 := hid (HS3.out (by simp))
                        go_wp2_with fail
                        refine HC.out.mono ?_
                        rintro e W2 ⟨rfl, hb2⟩
                        obtain ⟨z1, z2, z3⟩ := HCE.out W2 hb2
                        have HB2 := hid (HBJ.out.trans (hb2.mono HBJ.out.size))
                        clear hb2 k1 c3 hldq j1
                        go_wp2_with fail
                        go_roundw
                        case rel => exact ⟨k' + 1 + 1, by omega, by go_num, HS2.out, HS4.out, HB2.out⟩
                        case measure => simp [intOf]; omega
                      · have HR : Hid (R = false) := by show _ = _; rw [HD.out, HF2.out rfl rfl]
                        go_wp2_with fail
                        refine HC.out.mono ?_
                        rintro e W2 ⟨rfl, hb2⟩
                        obtain ⟨z1, z2, z3⟩ := HCE.out W2 hb2
                        have HB2 := hid (hbj.out.trans (hb2.mono hbj.out.size))
                        clear hb2 k1 c3 hldq j1
                        go_wp2_with fail
                        go_ret
                        exact ⟨by rw [HR.out]; rfl, HB2.out⟩
              · have hi2 : ¬ (k : Int) < (n : Int) := by omega
                have HR : Hid (R = true) := by
                  show _ = _
                  rw [HD.out]
                  have hnl := HN.out
                  exact HKO.out (fun j hj => HM1.out j (by omega)) (fun j hj => HM2.out j (by omega))
                go_wp2_with fail
                go_ret
                exact ⟨by rw [HR.out]; rfl, hbj.out⟩
  · simp only [if_true] at HD
    cases zt
    · by_cases h1 : m = 0
      · by_cases h2 : n = 0
        · have h1' : ((m : Int) == 0) = true := by rw [beq_iff_eq]; omega
          have h2' : ((n : Int) == 0) = true := by rw [beq_iff_eq]; omega
          have HTX0 := hid (HTX.out W0)
          have HR : Hid (R = zx) := by show _ = _; rw [HD.out, h1, h2]; simp
          clear h1 h2
          go_enter Tryz.func29, Tryz.ntmps29
          go_wp2_with fail
          refine HTX0.out.mono ?_
          rintro e W2 ⟨rfl, hb2⟩
          have HB2 := hid (HB0.out.trans (hb2.mono HB0.out.size))
          clear hb2
          go_wp2_with fail
          go_ret
          exact ⟨by rw [HR.out]; rfl, HB2.out⟩
        · have h1' : ((m : Int) == 0) = true := by rw [beq_iff_eq]; omega
          have h2' : ((n : Int) == 0) = false := by rw [beq_eq_false_iff_ne]; omega
          have HR : Hid (R = false) := by show _ = _; rw [HD.out]; simp [h2]
          clear h1 h2
          go_enter Tryz.func29, Tryz.ntmps29
          go_wp2_with fail
          go_ret
          exact ⟨by rw [HR.out]; rfl, HB0.out⟩
      · have h1' : ((m : Int) == 0) = false := by rw [beq_eq_false_iff_ne]; omega
        have HR : Hid (R = false) := by show _ = _; rw [HD.out]; simp [h1]
        clear h1
        go_enter Tryz.func29, Tryz.ntmps29
        go_wp2_with fail
        go_ret
        exact ⟨by rw [HR.out]; rfl, HB0.out⟩
    · have HR : Hid (R = false) := by show _ = _; rw [HD.out]; rfl
      go_enter Tryz.func29, Tryz.ntmps29
      go_wp2_with fail
      go_ret
      exact ⟨by rw [HR.out]; rfl, HB0.out⟩
theorem refMay_any (P : Nat → Prop) : ∀ (d : Nat) (t : Tr d), wtT d t ≤ 12000 → MayOk P d t
  | 0, t, h => may_of 0 t P h (fun j hj => absurd hj (Nat.not_lt_zero _))
  | d + 1, t, h => may_of (d + 1) t P h (fun j hj => refMay_any P d _ ((wt_parts h).2.2.2.2.2 _ (getD_mem9 hj)))
end Go.Proofs.YthjibliaofmlhaaGreatDoor
