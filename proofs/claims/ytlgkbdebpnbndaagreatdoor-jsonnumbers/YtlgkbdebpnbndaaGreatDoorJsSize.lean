
/- How great a value is: what size of the law does. -/
import Derived.Test.YtlgkbdebpnbndaaGreatDoorJsSz
import Derived.Test.YtlgkbdebpnbndaaGreatDoorJsRnB
namespace Go.Proofs.YtlgkbdebpnbndaaGreatDoor
set_option linter.unusedVariables false
set_option linter.unusedSimpArgs false
open Go.RowKit Go.BigFrame
attribute [local go_sem ↓] loadV_eq

/-- No text of a value is longer than so many bytes. -/
def TopJ (N : Nat) (l : LabJ) : Prop := l.2.2.1.length ≤ N ∧ ∀ s ∈ l.2.2.2, s.length ≤ N
def StrJ (N : Nat) : (d : Nat) → VJ d → Prop
  | 0, t => TopJ N t
  | d + 1, t => TopJ N t.1 ∧ ∀ k ∈ t.2, StrJ N d k
theorem nmF_le : ∀ (al : List (List UInt8)) (L : Int), nmF al L ≤ L
  | [], L => Int.le_refl _
  | a :: r, L => by
    unfold nmF
    split
    · have := nmF_le r (L - 1 - a.length)
      omega
    · exact Int.le_refl _
theorem nmF_ge (M : Nat) : ∀ (al : List (List UInt8)) (L : Int), (∀ h ∈ al, h.length ≤ M) → -(2 * (M : Int)) ≤ L → -(2 * (M : Int)) ≤ nmF al L
  | [], L, _, h => h
  | a :: r, L, ha, h => by
    unfold nmF
    split
    · have h1 := ha a (by simp)
      exact nmF_ge M r _ (fun x hx => ha x (by simp [hx])) (by omega)
    · exact h
theorem kdF_rng {α : Type} (f : α → Int → Int) (B : Int) : ∀ (l : List α) (L : Int), (∀ k ∈ l, ∀ L, 0 < L → B ≤ f k L ∧ f k L ≤ L - 1) → B ≤ L → B ≤ kdF f l L ∧ kdF f l L ≤ L
  | [], L, _, h => ⟨h, Int.le_refl _⟩
  | a :: r, L, hf, h => by
    unfold kdF
    split
    · rename_i hL
      have h1 := hf a (by simp) L hL
      have h2 := kdF_rng f B r (f a L) (fun k hk => hf k (by simp [hk])) h1.1
      exact ⟨h2.1, by omega⟩
    · exact ⟨h, Int.le_refl _⟩
theorem StrJ.top {N : Nat} : {d : Nat} → {t : VJ d} → StrJ N d t → TopJ N (labJ d t) ∧ ∀ k ∈ kidsJ d t, StrJ N (d - 1) k
  | 0, t, h => ⟨h, fun k hk => by cases hk⟩
  | _ + 1, t, h => h
/-- Between what bounds its answer lies. -/
theorem sz_rng : ∀ (d : Nat) (t : VJ d) (deep L : Int), StrJ 140737488355328 d t → 0 < L → -281474976710656 ≤ szJ d t deep L ∧ szJ d t deep L ≤ L - 1 := by
  intro d
  induction d with
  | zero =>
    intro t deep L hs hL
    obtain ⟨⟨h1, h2⟩, _⟩ := hs.top
    rw [sz_eq]
    split
    · omega
    · show -281474976710656 ≤ nmF _ _ ∧ nmF _ _ ≤ _
      have := nmF_ge 140737488355328 (labJ 0 t).2.2.2 (L - 1 - (labJ 0 t).2.2.1.length) h2 (by omega)
      have := nmF_le (labJ 0 t).2.2.2 (L - 1 - (labJ 0 t).2.2.1.length)
      omega
  | succ d ih =>
    intro t deep L hs hL
    obtain ⟨⟨h1, h2⟩, hk⟩ := hs.top
    rw [sz_eq]
    split
    · omega
    · have a1 := nmF_ge 140737488355328 (labJ (d + 1) t).2.2.2 (L - 1 - (labJ (d + 1) t).2.2.1.length) h2 (by omega)
      have a2 := nmF_le (labJ (d + 1) t).2.2.2 (L - 1 - (labJ (d + 1) t).2.2.1.length)
      have := kdF_rng (fun (k : VJ d) L => szJ d k (deep + 1) L) (-281474976710656) (kidsJ (d + 1) t) (nmF (labJ (d + 1) t).2.2.2 (L - 1 - (labJ (d + 1) t).2.2.1.length)) (fun k hk' L hL => ih k (deep + 1) L (hk k hk') hL) (by omega)
      refine ⟨this.1, Int.le_trans this.2 (by omega)⟩
theorem nmF_drop (al : List (List UInt8)) (k : Nat) (L : Int) (hk : k < al.length) (hL : 0 < L) : nmF (al.drop k) L = nmF (al.drop (k + 1)) (L - 1 - (al.getD k []).length) := by
  rw [List.drop_eq_getElem_cons hk]
  have : al.getD k [] = al[k] := by rw [List.getD_eq_getElem?_getD, List.getElem?_eq_getElem hk]; rfl
  rw [this, nmF, if_pos hL]
theorem nmF_stop (al : List (List UInt8)) (k : Nat) (L : Int) (h : ¬ (k < al.length ∧ 0 < L)) : nmF (al.drop k) L = L := by
  by_cases hk : k < al.length
  · rw [List.drop_eq_getElem_cons hk, nmF, if_neg (fun hL => h ⟨hk, hL⟩)]
  · rw [List.drop_of_length_le (by omega)]; rfl
theorem kdF_drop {α : Type} (f : α → Int → Int) (z : α) (l : List α) (k : Nat) (L : Int) (hk : k < l.length) (hL : 0 < L) : kdF f (l.drop k) L = kdF f (l.drop (k + 1)) (f (l.getD k z) L) := by
  rw [List.drop_eq_getElem_cons hk]
  have : l.getD k z = l[k] := by rw [List.getD_eq_getElem?_getD, List.getElem?_eq_getElem hk]; rfl
  rw [this, kdF, if_pos hL]
theorem kdF_stop {α : Type} (f : α → Int → Int) (l : List α) (k : Nat) (L : Int) (h : ¬ (k < l.length ∧ 0 < L)) : kdF f (l.drop k) L = L := by
  by_cases hk : k < l.length
  · rw [List.drop_eq_getElem_cons hk, kdF, if_neg (fun hL => h ⟨hk, hL⟩)]
  · rw [List.drop_of_length_le (by omega)]; rfl
set_option maxHeartbeats 4000000 in
set_option maxRecDepth 100000 in
theorem size_of (d : Nat) (t : VJ d) (P : Nat → Prop) (hs : StrJ 140737488355328 d t)
    (IH : ∀ j, j < (kidsJ d t).length → ∀ (deep : Nat) (L : Int) W cs, deep ≤ 41 → 0 < L → L ≤ 8000 → VAt P (d - 1) W cs ((kidsJ d t).getD j (zeroJ (d - 1))) → Calls Tryz.prog 22 #[.agg cs, .int .i64 (deep : Int), .int .i64 L] W fun e w' => e = .returned (.int .i64 (szJ (d - 1) ((kidsJ d t).getD j (zeroJ (d - 1))) deep L)) ∧ Below W.heap.size W w')
    (deep : Nat) (L : Int) (cs : Array Value) (w : World) (hd : deep ≤ 41) (hL : 0 < L) (hL2 : L ≤ 8000) (hnd : VAt P d w cs t) : Calls Tryz.prog 22 #[.agg cs, .int .i64 (deep : Int), .int .i64 L] w fun e w' => e = .returned (.int .i64 (szJ d t deep L)) ∧ Below w.heap.size w w' := by
  obtain ⟨kA, kc, nA, nc, rfl, hats, hks, _⟩ := hnd.parts
  unfold vcs
  have HIH := hid IH
  have HKS := hid hks
  have HA := hid hats
  have HD := hid (sz_eq d t deep L)
  obtain ⟨⟨hs1, hs3⟩, hs4⟩ := hs.top
  have HS3 : Hid (∀ j, j < (labJ d t).2.2.2.length → ((labJ d t).2.2.2.getD j []).length ≤ 140737488355328) := fun j hj => hs3 _ (getD_mem9 hj)
  have HSK : Hid (∀ j, j < (kidsJ d t).length → ∀ L : Int, 0 < L → -281474976710656 ≤ szJ (d - 1) ((kidsJ d t).getD j (zeroJ (d - 1))) ((deep : Int) + 1) L ∧ szJ (d - 1) ((kidsJ d t).getD j (zeroJ (d - 1))) ((deep : Int) + 1) L ≤ L - 1) := fun j hj L hL => sz_rng _ _ _ _ (hs4 _ (getD_mem9 hj)) hL
  have HKD := hid (kdF_drop (fun k L => szJ (d - 1) k ((deep : Int) + 1) L) (zeroJ (d - 1)) (kidsJ d t))
  have HKT := hid (kdF_stop (fun k L => szJ (d - 1) k ((deep : Int) + 1) L) (kidsJ d t))
  have HAD := hid (nmF_drop (labJ d t).2.2.2)
  have HAT := hid (nmF_stop (labJ d t).2.2.2)
  have z2 : (asS (labJ d t).2.2.1).size = (labJ d t).2.2.1.length := asS_size _
  clear IH hks hats hnd hs hs3 hs4
  generalize szJ d t deep L = R at HD ⊢
  generalize asS (labJ d t).2.2.1 = TX at z2 ⊢
  generalize (labJ d t).2.2.1.length = n2 at HD z2 hs1
  generalize (labJ d t).1 = KI
  generalize (labJ d t).2.1 = NU
  generalize hal : (labJ d t).2.2.2 = al at HD HAD HAT HA HS3 ⊢
  generalize hkl : kidsJ d t = ks at HD HIH HKS HSK HKD HKT ⊢
  generalize hn : ks.length = n at HIH HSK HKD HKT ⊢
  generalize hm : al.length = m at HAD HAT HS3 ⊢
  have HN := hid hn
  have HM := hid hm
  clear hkl hn hm hal
  have HROW := hid (heap_alloc_new w (.cells #[.int .i64 KI, .int .i64 NU, .string TX, .slice kA n kc, .slice nA m nc] 25))
  have c2 : (w.alloc (.cells #[.int .i64 KI, .int .i64 NU, .string TX, .slice kA n kc, .slice nA m nc] 25)).cell? ⟨w.heap.size, 2, none⟩ = some (.string TX) := cell_of_row _ _ _ _ _ _ HROW.out
  have HB0 := hid ((Below.refl w.heap.size w).alloc (Nat.le_refl _) (.cells #[.int .i64 KI, .int .i64 NU, .string TX, .slice kA n kc, .slice nA m nc] 25))
  by_cases hdp : 40 < deep
  · rw [if_pos (by omega)] at HD
    have hdp' : (40 : Int) < (deep : Int) := by omega
    go_enter Tryz.func22, Tryz.ntmps22
    go_wp2_with fail
    go_ret
    exact ⟨by rw [HD.out]; rfl, HB0.out⟩
  · rw [if_neg (by omega)] at HD
    have hdp' : ¬ (40 : Int) < (deep : Int) := by omega
    go_enter Tryz.func22, Tryz.ntmps22
    go_wp2_with fail
    obtain ⟨W0, hW0⟩ : ∃ W0, w.alloc (.cells #[.int .i64 KI, .int .i64 NU, .string TX, .slice kA n kc, .slice nA m nc] 25) = W0 := ⟨_, rfl⟩
    rw [hW0] at HROW HB0 ⊢
    clear hW0 c2
    generalize hL0 : L - 1 - (n2 : Int) = L0 at HD
    have hb1 : -281474976710656 ≤ L0 := by omega
    have hb2 : L0 ≤ 8000 := by omega
    go_loopw [2, 7] (fun x2 i wr => ∃ (k : Nat) (Lk : Int), k ≤ m ∧ i = .int .i64 (k : Int) ∧ x2 = .int .i64 Lk ∧ Lk + (k : Int) ≤ 8000 ∧ -281474976710656 ≤ Lk ∧ Hid (nmF al L0 = nmF (al.drop k) Lk) ∧ Hid (Below W0.heap.size W0 wr)) (fun x2 i wr => m - (intOf i).toNat)
    case atStart => exact ⟨0, L0, Nat.zero_le _, rfl, rfl, by omega, hb1, rfl, Below.refl _ _⟩
    case round =>
      obtain ⟨k, Lk, hk2, rfl, rfl, hub, hlb, HT, HB⟩ := hrel
      have HRW := hid (row_keep HB.out HROW.out)
      have c1 : wr.cell? ⟨w.heap.size, 4, none⟩ = some (.slice nA m nc) := cell_of_row _ _ _ _ _ _ HRW.out
      have hbw : Hid (Below w.heap.size w wr) := HB0.out.trans (HB.out.mono HB0.out.size)
      by_cases hlt : k < m
      · have hi : (k : Int) < (m : Int) := by omega
        by_cases hpos : 0 < Lk
        · have hal2 : k < al.length := by have := HM.out; omega
          obtain ⟨q, o, hq, _, hqs, hcs⟩ := HA.out (by omega)
          subst hq
          have k1 := (hbw.out.cell (p := ⟨q, o + k, none⟩) hqs).trans (hcs k hal2)
          have hst := HAD.out k Lk hlt hpos
          have hln := HS3.out k hlt
          have y1 : (asS (al.getD k [])).size = (al.getD k []).length := asS_size _
          have HST : Hid (nmF al L0 = nmF (al.drop (k + 1)) (Lk - 1 - (al.getD k []).length)) := HT.out.trans hst
          clear hcs hqs hal2 hst
          generalize asS (al.getD k []) = A1 at k1 y1
          generalize (al.getD k []).length = l1 at y1 hln HST
          go_wp2_with fail
          go_roundw
          case rel => exact ⟨k + 1, Lk - 1 - (l1 : Int), by omega, by go_num, rfl, by omega, by omega, HST.out, HB.out⟩
          case measure => simp [intOf]; omega
        · have hX : Hid (R = kdF (fun k L => szJ (d - 1) k ((deep : Int) + 1) L) ks Lk) := by
            show _ = _
            rw [HD.out, HT.out, HAT.out k Lk (by omega)]
          have HRWx := hid (row_keep HB.out HROW.out)
          have HBx : Hid (Below w.heap.size w wr) := hbw
          have hLk : Lk ≤ 8000 := by omega
          obtain ⟨W1, hW1⟩ : ∃ W1, W1 = wr := ⟨_, rfl⟩
          subst hW1
          clear HD HT HAT HAD HS3 HA HM HB HROW HB0 hbw hub HRW
          go_wp2_with fail
          clear c1
          go_loopw [2, 8] (fun x2 i w2 => ∃ (j : Nat) (Lj : Int), j ≤ n ∧ i = .int .i64 (j : Int) ∧ x2 = .int .i64 Lj ∧ Lj + (j : Int) ≤ 8000 ∧ -281474976710656 ≤ Lj ∧ Hid (R = kdF (fun k L => szJ (d - 1) k ((deep : Int) + 1) L) (ks.drop j) Lj) ∧ Hid (Below W1.heap.size W1 w2)) (fun x2 i w2 => n - (intOf i).toNat)
          case atStart => exact ⟨0, Lk, Nat.zero_le _, rfl, rfl, by omega, hlb, hX, Below.refl _ _⟩
          case round =>
            obtain ⟨j, Lj, hj2, rfl, rfl, hub, hlbj, HT, HB⟩ := hrel
            have c3 : wr.cell? ⟨w.heap.size, 3, none⟩ = some (.slice kA n kc) := cell_of_row _ _ _ _ _ _ (row_keep HB.out HRWx.out)
            have hbw : Hid (Below w.heap.size w wr) := HBx.out.trans (HB.out.mono HBx.out.size)
            by_cases hltj : j < n
            · have hij : (j : Int) < (n : Int) := by omega
              by_cases hpj : 0 < Lj
              · have hkl : j < ks.length := by have := HN.out; omega
                obtain ⟨q, o, a, b, c, e, f, rfl, hql, k1, k2, k3, k4, k5, hnd⟩ := (HKS.out.below hbw.out (Nat.le_refl _)).at j hkl
                have hldq := loadV_mid k1 k2 k3 k4 k5
                have HC := hid (HIH.out j hltj (deep + 1) Lj wr _ (by omega) hpj (by omega) hnd)
                have hcast : (((deep + 1 : Nat) : Nat) : Int) = (deep : Int) + 1 := by omega
                rw [hcast] at HC
                have hrg := HSK.out j hltj Lj hpj
                have HST := hid (HT.out.trans (HKD.out j Lj hltj hpj))
                clear k1 k2 k3 k4 k5 hnd hkl hql hcast
                generalize szJ (d - 1) (ks.getD j (zeroJ (d - 1))) ((deep : Int) + 1) Lj = X at HC hrg HST
                obtain ⟨hr1, hr2⟩ := hrg
                go_wp2_with fail
                refine HC.out.mono ?_
                rintro e W2 ⟨rfl, hb2⟩
                have HB2 := hid (HB.out.trans (hb2.mono HB.out.size))
                clear hb2
                go_wp2_with fail
                go_roundw
                case rel => exact ⟨j + 1, X, by omega, by go_num, rfl, by omega, hr1, HST.out, HB2.out⟩
                case measure => simp [intOf]; omega
              · have HR := hid (HT.out.trans (HKT.out j Lj (by omega)))
                go_wp2_with fail
                go_ret
                exact ⟨by rw [HR.out]; rfl, hbw.out⟩
            · have hij : ¬ (j : Int) < (n : Int) := by omega
              have HR := hid (HT.out.trans (HKT.out j Lj (by omega)))
              go_wp2_with fail
              go_ret
              exact ⟨by rw [HR.out]; rfl, hbw.out⟩
      · have hi : ¬ (k : Int) < (m : Int) := by omega
        have hX : Hid (R = kdF (fun k L => szJ (d - 1) k ((deep : Int) + 1) L) ks Lk) := by
          show _ = _
          rw [HD.out, HT.out, HAT.out k Lk (by omega)]
        have HRWx := hid (row_keep HB.out HROW.out)
        have HBx : Hid (Below w.heap.size w wr) := hbw
        have hLk : Lk ≤ 8000 := by omega
        obtain ⟨W1, hW1⟩ : ∃ W1, W1 = wr := ⟨_, rfl⟩
        subst hW1
        clear HD HT HAT HAD HS3 HA HM HB HROW HB0 hbw hub HRW
        go_wp2_with fail
        clear c1
        go_loopw [2, 8] (fun x2 i w2 => ∃ (j : Nat) (Lj : Int), j ≤ n ∧ i = .int .i64 (j : Int) ∧ x2 = .int .i64 Lj ∧ Lj + (j : Int) ≤ 8000 ∧ -281474976710656 ≤ Lj ∧ Hid (R = kdF (fun k L => szJ (d - 1) k ((deep : Int) + 1) L) (ks.drop j) Lj) ∧ Hid (Below W1.heap.size W1 w2)) (fun x2 i w2 => n - (intOf i).toNat)
        case atStart => exact ⟨0, Lk, Nat.zero_le _, rfl, rfl, by omega, hlb, hX, Below.refl _ _⟩
        case round =>
          obtain ⟨j, Lj, hj2, rfl, rfl, hub, hlbj, HT, HB⟩ := hrel
          have c3 : wr.cell? ⟨w.heap.size, 3, none⟩ = some (.slice kA n kc) := cell_of_row _ _ _ _ _ _ (row_keep HB.out HRWx.out)
          have hbw : Hid (Below w.heap.size w wr) := HBx.out.trans (HB.out.mono HBx.out.size)
          by_cases hltj : j < n
          · have hij : (j : Int) < (n : Int) := by omega
            by_cases hpj : 0 < Lj
            · have hkl : j < ks.length := by have := HN.out; omega
              obtain ⟨q, o, a, b, c, e, f, rfl, hql, k1, k2, k3, k4, k5, hnd⟩ := (HKS.out.below hbw.out (Nat.le_refl _)).at j hkl
              have hldq := loadV_mid k1 k2 k3 k4 k5
              have HC := hid (HIH.out j hltj (deep + 1) Lj wr _ (by omega) hpj (by omega) hnd)
              have hcast : (((deep + 1 : Nat) : Nat) : Int) = (deep : Int) + 1 := by omega
              rw [hcast] at HC
              have hrg := HSK.out j hltj Lj hpj
              have HST := hid (HT.out.trans (HKD.out j Lj hltj hpj))
              clear k1 k2 k3 k4 k5 hnd hkl hql hcast
              generalize szJ (d - 1) (ks.getD j (zeroJ (d - 1))) ((deep : Int) + 1) Lj = X at HC hrg HST
              obtain ⟨hr1, hr2⟩ := hrg
              go_wp2_with fail
              refine HC.out.mono ?_
              rintro e W2 ⟨rfl, hb2⟩
              have HB2 := hid (HB.out.trans (hb2.mono HB.out.size))
              clear hb2
              go_wp2_with fail
              go_roundw
              case rel => exact ⟨j + 1, X, by omega, by go_num, rfl, by omega, hr1, HST.out, HB2.out⟩
              case measure => simp [intOf]; omega
            · have HR := hid (HT.out.trans (HKT.out j Lj (by omega)))
              go_wp2_with fail
              go_ret
              exact ⟨by rw [HR.out]; rfl, hbw.out⟩
          · have hij : ¬ (j : Int) < (n : Int) := by omega
            have HR := hid (HT.out.trans (HKT.out j Lj (by omega)))
            go_wp2_with fail
            go_ret
            exact ⟨by rw [HR.out]; rfl, hbw.out⟩
theorem size_any (P : Nat → Prop) : ∀ (d : Nat) (t : VJ d), StrJ 140737488355328 d t → ∀ (deep : Nat) (L : Int) (cs : Array Value) (w : World), deep ≤ 41 → 0 < L → L ≤ 8000 → VAt P d w cs t → Calls Tryz.prog 22 #[.agg cs, .int .i64 (deep : Int), .int .i64 L] w fun e w' => e = .returned (.int .i64 (szJ d t deep L)) ∧ Below w.heap.size w w'
  | 0, t, hs, deep, L, cs, w, h1, h2, h3, h => size_of 0 t P hs (fun j hj => absurd hj (Nat.not_lt_zero _)) deep L cs w h1 h2 h3 h
  | d + 1, t, hs, deep, L, cs, w, h1, h2, h3, h => size_of (d + 1) t P hs (fun j hj deep L W cs' k1 k2 k3 h' => size_any P d _ (hs.2 _ (getD_mem9 hj)) deep L cs' W k1 k2 k3 h') deep L cs w h1 h2 h3 h
set_option maxRecDepth 100000 in
theorem light_any (P : Nat → Prop) (d : Nat) (t : VJ d) (hs : StrJ 140737488355328 d t) (cs : Array Value) (w : World) (h : VAt P d w cs t) : Calls Tryz.prog 8 #[.agg cs] w fun e w' => e = .returned (.bool (decide (0 < szJ d t 0 8000))) ∧ Below w.heap.size w w' := by
  have HC : Hid (∀ W, Below w.heap.size w W → Calls Tryz.prog 22 #[.agg cs, .int .i64 0, .int .i64 8000] W fun e w' => e = .returned (.int .i64 (szJ d t 0 8000)) ∧ Below W.heap.size W w') := fun W hb => size_any P d t hs 0 8000 cs W (by omega) (by omega) (by omega) (h.below hb (Nat.le_refl _))
  obtain ⟨kA, kc, nA, nc, hcs, _, _, _⟩ := h.parts
  subst hcs
  unfold vcs at HC ⊢
  have hr := sz_rng d t 0 8000 hs (by omega)
  clear h hs
  generalize szJ d t 0 8000 = X at HC hr ⊢
  generalize asS (labJ d t).2.2.1 = TX at HC ⊢
  generalize (labJ d t).1 = KI at HC ⊢
  generalize (labJ d t).2.1 = NU at HC ⊢
  generalize (labJ d t).2.2.2.length = m at HC ⊢
  generalize (kidsJ d t).length = n at HC ⊢
  have HROW := hid (heap_alloc_new w (.cells #[.int .i64 KI, .int .i64 NU, .string TX, .slice kA n kc, .slice nA m nc] 25))
  have hld := loadV_run HROW.out rfl
  have HB0 := hid ((Below.refl w.heap.size w).alloc (Nat.le_refl _) (.cells #[.int .i64 KI, .int .i64 NU, .string TX, .slice kA n kc, .slice nA m nc] 25))
  obtain ⟨W0, hW0⟩ : ∃ W0, w.alloc (.cells #[.int .i64 KI, .int .i64 NU, .string TX, .slice kA n kc, .slice nA m nc] 25) = W0 := ⟨_, rfl⟩
  rw [hW0] at HB0 hld
  have HC1 := hid (HC.out W0 HB0.out)
  clear HC HROW
  obtain ⟨hr1, hr2⟩ := hr
  by_cases hx : 0 < X
  · rw [decide_eq_true hx]
    go_enter Tryz.func8, Tryz.ntmps8
    go_wp2_with fail
    refine HC1.out.mono ?_
    rintro e W2 ⟨rfl, hb2⟩
    have HB2 := hid (HB0.out.trans (hb2.mono HB0.out.size))
    clear hb2
    go_wp2_with fail
    go_ret
    exact ⟨rfl, HB2.out⟩
  · rw [decide_eq_false hx]
    go_enter Tryz.func8, Tryz.ntmps8
    go_wp2_with fail
    refine HC1.out.mono ?_
    rintro e W2 ⟨rfl, hb2⟩
    have HB2 := hid (HB0.out.trans (hb2.mono HB0.out.size))
    clear hb2
    go_wp2_with fail
    go_ret
    exact ⟨show Ending.returned (.bool (decide (0 < X))) = _ by rw [decide_eq_false (by omega)], HB2.out⟩
end Go.Proofs.YtlgkbdebpnbndaaGreatDoor
