
/- How deep a node is, how many nodes there are, all its texts: what the reference's Deep, Many and Text do. -/
import Derived.Test.YthjibliaofmlhaaGreatDoorXmMem
import Derived.Test.YthjibliaofmlhaaGreatDoorXmInner
import Derived.Test.YthjibliaofmlhaaGreatDoorXmBook
namespace Go.Proofs.YthjibliaofmlhaaGreatDoor
set_option linter.unusedVariables false
set_option linter.unusedSimpArgs false
open Go.RowKit Go.BigFrame
attribute [local go_sem ↓] loadN_eq

theorem maxL_snoc (l : List Nat) (x : Nat) : maxL (l ++ [x]) = max (maxL l) x := by
  unfold maxL
  induction l with
  | nil => simp
  | cons a l ih =>
    simp only [List.cons_append, List.foldr_cons, ih]
    show max a (max _ x) = max (max a _) x
    omega
theorem take_getD {α : Type} (l : List α) (z : α) (k : Nat) (h : k < l.length) : l.take (k + 1) = l.take k ++ [l.getD k z] := by
  rw [List.take_succ_eq_append_getElem h, List.getD_eq_getElem?_getD, List.getElem?_eq_getElem h]; rfl
theorem deep_eq : ∀ (d : Nat) (t : Tr d), deepT d t = if (nmT d t).isEmpty then 0 else maxL ((kidsT d t).map (deepT (d - 1))) + 1
  | 0, t => rfl
  | _ + 1, t => rfl
theorem many_eq : ∀ (d : Nat) (t : Tr d), manyT d t = 1 + (if (nmT d t).isEmpty then 0 else (lab d t).2.1.length) + ((kidsT d t).map (manyT (d - 1))).sum
  | 0, t => rfl
  | _ + 1, t => rfl
theorem text_eq : ∀ (d : Nat) (t : Tr d), textT d t = if (nmT d t).isEmpty then txT d t else (kidsT d t).flatMap (textT (d - 1))
  | 0, t => rfl
  | _ + 1, t => rfl
theorem deep_le : ∀ (d : Nat) (t : Tr d), deepT d t ≤ d + 1
  | 0, t => by
    rw [deep_eq]
    split
    · omega
    · show maxL [] + 1 ≤ _
      decide
  | d + 1, t => by
    rw [deep_eq]
    split
    · omega
    · have : maxL ((kidsT (d + 1) t).map (deepT d)) ≤ d + 1 := max_le (fun y hy => by
        obtain ⟨k, _, rfl⟩ := List.mem_map.1 hy
        exact deep_le d k)
      exact Nat.succ_le_succ this
set_option maxHeartbeats 1000000 in
set_option maxRecDepth 100000 in
theorem deep_of (d : Nat) (t : Tr d) (P : Nat → Prop) (hd : d ≤ 1000) (hk : (kidsT d t).length ≤ 1000000)
    (IH : ∀ j, j < (kidsT d t).length → ∀ W cs, NdAt P (d - 1) W cs ((kidsT d t).getD j (zeroT (d - 1))) → Calls Tryz.prog 24 #[.agg cs] W fun e w' => e = .returned (.int .i64 (deepT (d - 1) ((kidsT d t).getD j (zeroT (d - 1))))) ∧ Below W.heap.size W w')
    (cs : Array Value) (w : World) (hnd : NdAt P d w cs t) : Calls Tryz.prog 24 #[.agg cs] w fun e w' => e = .returned (.int .i64 (deepT d t)) ∧ Below w.heap.size w w' := by
  obtain ⟨aA, ac, kA, kc, rfl, _, hks, _⟩ := hnd.parts
  unfold ndcs
  have HIH := hid IH
  have HKS := hid hks
  have HD := hid (deep_eq d t)
  have HTK := hid (take_getD (kidsT d t) (zeroT (d - 1)))
  have hq := str_nil9 (lab d t).1
  have hnm : (nmT d t).isEmpty = (lab d t).1.isEmpty := rfl
  rw [hnm] at HD
  clear IH hks hnd hnm
  have HLE : Hid (∀ k, maxL (((kidsT d t).take k).map (deepT (d - 1))) ≤ 2000) := fun k => max_le (fun y hy => by
    obtain ⟨a, _, rfl⟩ := List.mem_map.1 hy
    have := deep_le (d - 1) a
    omega)
  generalize (lab d t).1.isEmpty = z at hq HD
  generalize asS (lab d t).1 = NM at hq ⊢
  generalize asS (lab d t).2.2 = TX
  generalize (lab d t).2.1.length = an
  generalize deepT d t = R at HD ⊢
  generalize hkl : kidsT d t = ks at hk HIH HKS HD HTK HLE ⊢
  generalize hn : ks.length = n at hk HIH HTK ⊢
  have HN := hid hn
  clear hkl hn hd
  have HROW := hid (heap_alloc_new w (.cells #[.string NM, .slice aA an ac, .string TX, .slice kA n kc] 25))
  have c0 : (w.alloc (.cells #[.string NM, .slice aA an ac, .string TX, .slice kA n kc] 25)).cell? ⟨w.heap.size, 0, none⟩ = some (.string NM) := cell_of_row _ _ _ _ _ _ HROW.out
  have HB0 := hid ((Below.refl w.heap.size w).alloc (Nat.le_refl _) (.cells #[.string NM, .slice aA an ac, .string TX, .slice kA n kc] 25))
  cases z
  · rw [if_neg (by simp)] at HD
    go_enter Tryz.func24, Tryz.ntmps24
    go_wp2_with fail
    obtain ⟨W0, hW0⟩ : ∃ W0, w.alloc (.cells #[.string NM, .slice aA an ac, .string TX, .slice kA n kc] 25) = W0 := ⟨_, rfl⟩
    rw [hW0] at HROW HB0 ⊢
    clear hW0 c0
    go_loopw [3, 4] (fun x3 i wr => ∃ k : Nat, k ≤ n ∧ i = .int .i64 (k : Int) ∧ x3 = .int .i64 (maxL ((ks.take k).map (deepT (d - 1))) : Nat) ∧ Hid (Below W0.heap.size W0 wr)) (fun x3 i wr => n - (intOf i).toNat)
    case atStart => exact ⟨0, Nat.zero_le _, rfl, rfl, Below.refl _ _⟩
    case round =>
      obtain ⟨k, hk2, rfl, rfl, HB⟩ := hrel
      have hrw := row_keep HB.out HROW.out
      have c3 : wr.cell? ⟨w.heap.size, 3, none⟩ = some (.slice kA n kc) := cell_of_row _ _ _ _ _ _ hrw
      clear hrw
      by_cases hlt : k < n
      · have hi : (k : Int) < (n : Int) := by omega
        have hkl : k < ks.length := by have := HN.out; omega
        have hbw : Below w.heap.size w wr := HB0.out.trans (HB.out.mono HB0.out.size)
        obtain ⟨q, o, a, b, c, e, rfl, hql, k1, k2, k3, k4, hnd⟩ := (HKS.out.below hbw (Nat.le_refl _)).at k hkl
        have hldq := loadN_mid k1 k2 k3 k4
        have HC := hid (HIH.out k hlt wr _ hnd)
        have hle1 := HLE.out k
        have hst : maxL ((ks.take (k + 1)).map (deepT (d - 1))) = max (maxL ((ks.take k).map (deepT (d - 1)))) (deepT (d - 1) (ks.getD k (zeroT (d - 1)))) := by rw [HTK.out k hlt, List.map_append]; exact maxL_snoc _ _
        have hle2 := HLE.out (k + 1)
        rw [hst] at hle2
        have HST := hid hst
        clear k1 k2 k3 k4 hnd hbw hkl hst hql
        generalize maxL ((ks.take k).map (deepT (d - 1))) = M at hle1 hle2 HST
        generalize deepT (d - 1) (ks.getD k (zeroT (d - 1))) = X at HC hle2 HST
        by_cases hx : M < X
        · have hx' : (M : Int) < (X : Int) := by omega
          have HR : Hid (max M X = X) := by show _ = _; omega
          clear hx hle1 hle2
          go_wp2_with fail
          refine HC.out.mono ?_
          rintro e W2 ⟨rfl, hb2⟩
          have HB2 := hid (HB.out.trans (hb2.mono HB.out.size))
          clear hb2
          go_wp2_with fail
          go_roundw
          case rel => exact ⟨k + 1, by omega, by go_num, by rw [HST.out, HR.out], HB2.out⟩
          case measure => simp [intOf]; omega
        · have hx' : ¬ (M : Int) < (X : Int) := by omega
          have HR : Hid (max M X = M) := by show _ = _; omega
          clear hx hle1 hle2
          go_wp2_with fail
          refine HC.out.mono ?_
          rintro e W2 ⟨rfl, hb2⟩
          have HB2 := hid (HB.out.trans (hb2.mono HB.out.size))
          clear hb2
          go_wp2_with fail
          go_roundw
          case rel => exact ⟨k + 1, by omega, by go_num, by rw [HST.out, HR.out], HB2.out⟩
          case measure => simp [intOf]; omega
      · have hi : ¬ (k : Int) < (n : Int) := by omega
        have hle1 := HLE.out k
        have HR : Hid (R = maxL ((ks.take k).map (deepT (d - 1))) + 1) := by
          show _ = _
          rw [HD.out, List.take_of_length_le (by have := HN.out; omega)]
        generalize maxL ((ks.take k).map (deepT (d - 1))) = M at hle1 HR
        go_wp2_with fail
        go_ret
        exact ⟨by rw [HR.out]; rfl, HB0.out.trans (HB.out.mono HB0.out.size)⟩
  · rw [if_pos rfl] at HD
    go_enter Tryz.func24, Tryz.ntmps24
    go_wp2_with fail
    go_ret
    exact ⟨by rw [HD.out]; rfl, HB0.out⟩
theorem sum_snoc (l : List Nat) (x : Nat) : (l ++ [x]).sum = l.sum + x := by simp
theorem sum_take (l : List Nat) : ∀ k, (l.take k).sum ≤ l.sum := fun k => by
  have := congrArg List.sum (List.take_append_drop k l)
  rw [List.sum_append] at this
  omega
set_option maxHeartbeats 1000000 in
set_option maxRecDepth 100000 in
theorem many_of (d : Nat) (t : Tr d) (P : Nat → Prop) (hm : manyT d t ≤ 1000000)
    (IH : ∀ j, j < (kidsT d t).length → ∀ W cs, NdAt P (d - 1) W cs ((kidsT d t).getD j (zeroT (d - 1))) → Calls Tryz.prog 25 #[.agg cs] W fun e w' => e = .returned (.int .i64 (manyT (d - 1) ((kidsT d t).getD j (zeroT (d - 1))))) ∧ Below W.heap.size W w')
    (hk : (kidsT d t).length ≤ 1000000) (cs : Array Value) (w : World) (hnd : NdAt P d w cs t) : Calls Tryz.prog 25 #[.agg cs] w fun e w' => e = .returned (.int .i64 (manyT d t)) ∧ Below w.heap.size w w' := by
  obtain ⟨aA, ac, kA, kc, rfl, _, hks, _⟩ := hnd.parts
  unfold ndcs
  have HIH := hid IH
  have HKS := hid hks
  have HD := hid (many_eq d t)
  have HTK := hid (take_getD (kidsT d t) (zeroT (d - 1)))
  have hq := str_nil9 (lab d t).1
  have hnm : (nmT d t).isEmpty = (lab d t).1.isEmpty := rfl
  rw [hnm] at HD
  have HLE : Hid (∀ k, 1 + (if (lab d t).1.isEmpty then 0 else (lab d t).2.1.length) + (((kidsT d t).take k).map (manyT (d - 1))).sum ≤ 1000000) := fun k => by
    have h1 := HD.out
    have h2 := sum_take ((kidsT d t).map (manyT (d - 1))) k
    rw [← List.map_take] at h2
    show _ ≤ _
    omega
  clear IH hks hnd hnm hm
  generalize asS (lab d t).2.2 = TX
  generalize (lab d t).2.1.length = an at HD HLE ⊢
  generalize (lab d t).1.isEmpty = z at hq HD HLE
  generalize asS (lab d t).1 = NM at hq ⊢
  generalize manyT d t = R at HD ⊢
  generalize hkl : kidsT d t = ks at hk HIH HKS HD HTK HLE ⊢
  generalize hn : ks.length = n at hk HIH HTK ⊢
  have HN := hid hn
  clear hkl hn
  have HROW := hid (heap_alloc_new w (.cells #[.string NM, .slice aA an ac, .string TX, .slice kA n kc] 25))
  have c0 : (w.alloc (.cells #[.string NM, .slice aA an ac, .string TX, .slice kA n kc] 25)).cell? ⟨w.heap.size, 0, none⟩ = some (.string NM) := cell_of_row _ _ _ _ _ _ HROW.out
  have c1 : (w.alloc (.cells #[.string NM, .slice aA an ac, .string TX, .slice kA n kc] 25)).cell? ⟨w.heap.size, 1, none⟩ = some (.slice aA an ac) := cell_of_row _ _ _ _ _ _ HROW.out
  have HB0 := hid ((Below.refl w.heap.size w).alloc (Nat.le_refl _) (.cells #[.string NM, .slice aA an ac, .string TX, .slice kA n kc] 25))
  cases z
  · simp only [Bool.false_eq_true, if_false] at HD HLE
    have hz0 : 1 + an ≤ 1000000 := by have := HLE.out 0; simp at this; omega
    go_enter Tryz.func25, Tryz.ntmps25
    go_wp2_with fail
    obtain ⟨W0, hW0⟩ : ∃ W0, w.alloc (.cells #[.string NM, .slice aA an ac, .string TX, .slice kA n kc] 25) = W0 := ⟨_, rfl⟩
    rw [hW0] at HROW HB0 ⊢
    clear hW0 c0 c1 hz0
    go_loopw [3, 4] (fun x3 i wr => ∃ k : Nat, k ≤ n ∧ i = .int .i64 (k : Int) ∧ x3 = .int .i64 (1 + an + ((ks.take k).map (manyT (d - 1))).sum : Nat) ∧ Hid (Below W0.heap.size W0 wr)) (fun x3 i wr => n - (intOf i).toNat)
    case atStart => exact ⟨0, Nat.zero_le _, rfl, by simp, Below.refl _ _⟩
    case round =>
      obtain ⟨k, hk2, rfl, rfl, HB⟩ := hrel
      have hrw := row_keep HB.out HROW.out
      have c3 : wr.cell? ⟨w.heap.size, 3, none⟩ = some (.slice kA n kc) := cell_of_row _ _ _ _ _ _ hrw
      clear hrw
      by_cases hlt : k < n
      · have hi : (k : Int) < (n : Int) := by omega
        have hkl : k < ks.length := by have := HN.out; omega
        have hbw : Below w.heap.size w wr := HB0.out.trans (HB.out.mono HB0.out.size)
        obtain ⟨q, o, a, b, c, e, rfl, hql, k1, k2, k3, k4, hnd⟩ := (HKS.out.below hbw (Nat.le_refl _)).at k hkl
        have hldq := loadN_mid k1 k2 k3 k4
        have HC := hid (HIH.out k hlt wr _ hnd)
        have hle1 := HLE.out k
        have hst : ((ks.take (k + 1)).map (manyT (d - 1))).sum = ((ks.take k).map (manyT (d - 1))).sum + manyT (d - 1) (ks.getD k (zeroT (d - 1))) := by rw [HTK.out k hlt, List.map_append]; exact sum_snoc _ _
        have hle2 := HLE.out (k + 1)
        rw [hst] at hle2
        have HST := hid hst
        clear k1 k2 k3 k4 hnd hbw hkl hst hql
        generalize ((ks.take k).map (manyT (d - 1))).sum = M at hle1 hle2 HST
        generalize manyT (d - 1) (ks.getD k (zeroT (d - 1))) = X at HC hle2 HST
        generalize hMM : 1 + an + M = MM
        have hle3 : MM + X ≤ 1000000 := by omega
        have HMM := hid hMM
        clear hMM hle1 hle2
        go_wp2_with fail
        refine HC.out.mono ?_
        rintro e W2 ⟨rfl, hb2⟩
        have HB2 := hid (HB.out.trans (hb2.mono HB.out.size))
        clear hb2
        go_wp2_with fail
        go_roundw
        case rel =>
          refine ⟨k + 1, by omega, by go_num, ?_, HB2.out⟩
          rw [HST.out]
          exact congrArg (Value.int IntKind.i64) (by have := HMM.out; omega)
        case measure => simp [intOf]; omega
      · have hi : ¬ (k : Int) < (n : Int) := by omega
        have HR : Hid (R = 1 + an + ((ks.take k).map (manyT (d - 1))).sum) := by
          show _ = _
          rw [HD.out, List.take_of_length_le (by have := HN.out; omega)]
        generalize 1 + an + ((ks.take k).map (manyT (d - 1))).sum = M at HR
        go_wp2_with fail
        go_ret
        exact ⟨by rw [HR.out]; rfl, HB0.out.trans (HB.out.mono HB0.out.size)⟩
  · simp only [if_true] at HD HLE
    have hz0 : True := trivial
    go_enter Tryz.func25, Tryz.ntmps25
    go_wp2_with fail
    obtain ⟨W0, hW0⟩ : ∃ W0, w.alloc (.cells #[.string NM, .slice aA an ac, .string TX, .slice kA n kc] 25) = W0 := ⟨_, rfl⟩
    rw [hW0] at HROW HB0 ⊢
    clear hW0 c0 c1 hz0
    go_loopw [3, 4] (fun x3 i wr => ∃ k : Nat, k ≤ n ∧ i = .int .i64 (k : Int) ∧ x3 = .int .i64 (1 + 0 + ((ks.take k).map (manyT (d - 1))).sum : Nat) ∧ Hid (Below W0.heap.size W0 wr)) (fun x3 i wr => n - (intOf i).toNat)
    case atStart => exact ⟨0, Nat.zero_le _, rfl, by simp, Below.refl _ _⟩
    case round =>
      obtain ⟨k, hk2, rfl, rfl, HB⟩ := hrel
      have hrw := row_keep HB.out HROW.out
      have c3 : wr.cell? ⟨w.heap.size, 3, none⟩ = some (.slice kA n kc) := cell_of_row _ _ _ _ _ _ hrw
      clear hrw
      by_cases hlt : k < n
      · have hi : (k : Int) < (n : Int) := by omega
        have hkl : k < ks.length := by have := HN.out; omega
        have hbw : Below w.heap.size w wr := HB0.out.trans (HB.out.mono HB0.out.size)
        obtain ⟨q, o, a, b, c, e, rfl, hql, k1, k2, k3, k4, hnd⟩ := (HKS.out.below hbw (Nat.le_refl _)).at k hkl
        have hldq := loadN_mid k1 k2 k3 k4
        have HC := hid (HIH.out k hlt wr _ hnd)
        have hle1 := HLE.out k
        have hst : ((ks.take (k + 1)).map (manyT (d - 1))).sum = ((ks.take k).map (manyT (d - 1))).sum + manyT (d - 1) (ks.getD k (zeroT (d - 1))) := by rw [HTK.out k hlt, List.map_append]; exact sum_snoc _ _
        have hle2 := HLE.out (k + 1)
        rw [hst] at hle2
        have HST := hid hst
        clear k1 k2 k3 k4 hnd hbw hkl hst hql
        generalize ((ks.take k).map (manyT (d - 1))).sum = M at hle1 hle2 HST
        generalize manyT (d - 1) (ks.getD k (zeroT (d - 1))) = X at HC hle2 HST
        generalize hMM : 1 + 0 + M = MM
        have hle3 : MM + X ≤ 1000000 := by omega
        have HMM := hid hMM
        clear hMM hle1 hle2
        go_wp2_with fail
        refine HC.out.mono ?_
        rintro e W2 ⟨rfl, hb2⟩
        have HB2 := hid (HB.out.trans (hb2.mono HB.out.size))
        clear hb2
        go_wp2_with fail
        go_roundw
        case rel =>
          refine ⟨k + 1, by omega, by go_num, ?_, HB2.out⟩
          rw [HST.out]
          exact congrArg (Value.int IntKind.i64) (by have := HMM.out; omega)
        case measure => simp [intOf]; omega
      · have hi : ¬ (k : Int) < (n : Int) := by omega
        have HR : Hid (R = 1 + 0 + ((ks.take k).map (manyT (d - 1))).sum) := by
          show _ = _
          rw [HD.out, List.take_of_length_le (by have := HN.out; omega)]
        generalize 1 + 0 + ((ks.take k).map (manyT (d - 1))).sum = M at HR
        go_wp2_with fail
        go_ret
        exact ⟨by rw [HR.out]; rfl, HB0.out.trans (HB.out.mono HB0.out.size)⟩

/-- No node of the tree has too many kids. -/
def KidsFit (N : Nat) : (d : Nat) → Tr d → Prop
  | 0, _ => True
  | d + 1, t => t.2.length ≤ N ∧ ∀ k ∈ t.2, KidsFit N d k
theorem getD_mem9 {α : Type} {l : List α} {z : α} {j : Nat} (h : j < l.length) : l.getD j z ∈ l := by
  rw [List.getD_eq_getElem?_getD, List.getElem?_eq_getElem h]
  exact List.getElem_mem h
theorem refDeep_any (P : Nat → Prop) : ∀ (d : Nat) (t : Tr d), d ≤ 1000 → KidsFit 1000000 d t → ∀ (cs : Array Value) (w : World), NdAt P d w cs t → Calls Tryz.prog 24 #[.agg cs] w fun e w' => e = .returned (.int .i64 (deepT d t)) ∧ Below w.heap.size w w'
  | 0, t, hd, _, cs, w, h => deep_of 0 t P hd (Nat.zero_le _) (fun j hj => absurd hj (Nat.not_lt_zero _)) cs w h
  | d + 1, t, hd, hf, cs, w, h => deep_of (d + 1) t P hd hf.1 (fun j hj W cs' h' => refDeep_any P d _ (by omega) (hf.2 _ (getD_mem9 hj)) cs' W h') cs w h
theorem refMany_any (P : Nat → Prop) : ∀ (d : Nat) (t : Tr d), manyT d t ≤ 1000000 → KidsFit 1000000 d t → ∀ (cs : Array Value) (w : World), NdAt P d w cs t → Calls Tryz.prog 25 #[.agg cs] w fun e w' => e = .returned (.int .i64 (manyT d t)) ∧ Below w.heap.size w w'
  | 0, t, hm, _, cs, w, h => many_of 0 t P hm (fun j hj => absurd hj (Nat.not_lt_zero _)) (Nat.zero_le _) cs w h
  | d + 1, t, hm, hf, cs, w, h => many_of (d + 1) t P hm (fun j hj W cs' h' => refMany_any P d _ (by
      have h1 : manyT (d + 1) t = 1 + (if (nmT (d + 1) t).isEmpty then 0 else (lab (d + 1) t).2.1.length) + (t.2.map (manyT d)).sum := many_eq (d + 1) t
      have h2 : manyT d (t.2.getD j (zeroT d)) ≤ (t.2.map (manyT d)).sum := sum_mem (manyT d) (getD_mem9 hj)
      show manyT d (t.2.getD j (zeroT d)) ≤ 1000000
      omega) (hf.2 _ (getD_mem9 hj)) cs' W h') hf.1 cs w h
end Go.Proofs.YthjibliaofmlhaaGreatDoor
