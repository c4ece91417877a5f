
/- How great a node is: what size of the law does. -/
import Derived.Test.YthjibliaofmlhaaGreatDoorXmArg
import Derived.BigQuiet
namespace Go.Proofs.YthjibliaofmlhaaGreatDoor
set_option linter.unusedVariables false
set_option linter.unusedSimpArgs false
open Go.RowKit Go.BigFrame
attribute [local go_sem ↓] loadN_eq

theorem atF_le : ∀ (al : List HdV) (L : Int), atF al L ≤ L
  | [], L => Int.le_refl _
  | a :: r, L => by
    unfold atF
    split
    · have := atF_le r (L - 1 - a.name.length - a.value.length)
      omega
    · exact Int.le_refl _
theorem atF_ge (M : Nat) : ∀ (al : List HdV) (L : Int), (∀ h ∈ al, h.name.length ≤ M ∧ h.value.length ≤ M) → -(2 * (M : Int)) ≤ L → -(2 * (M : Int)) ≤ atF al L
  | [], L, _, h => h
  | a :: r, L, ha, h => by
    unfold atF
    split
    · have h1 := ha a (by simp)
      exact atF_ge M r _ (fun x hx => ha x (by simp [hx])) (by omega)
    · exact h
theorem kdF_rng {α : Type} (f : α → Int → Int) (B : Int) : ∀ (l : List α) (L : Int), (∀ k ∈ l, ∀ L, 0 < L → B ≤ f k L ∧ f k L ≤ L - 1) → B ≤ L → B ≤ kdF f l L ∧ kdF f l L ≤ L
  | [], L, _, h => ⟨h, Int.le_refl _⟩
  | a :: r, L, hf, h => by
    unfold kdF
    split
    · rename_i hL
      have h1 := hf a (by simp) L hL
      have h2 := kdF_rng f B r (f a L) (fun k hk => hf k (by simp [hk])) h1.1
      exact ⟨h2.1, by omega⟩
    · exact ⟨h, Int.le_refl _⟩
theorem StrB.top {N : Nat} : {d : Nat} → {t : Tr d} → StrB N d t → TopS N (lab d t) ∧ ∀ k ∈ kidsT d t, StrB N (d - 1) k
  | 0, t, h => ⟨h, fun k hk => by cases hk⟩
  | _ + 1, t, h => h
/-- Between what bounds its answer lies. -/
theorem sz_rng : ∀ (d : Nat) (t : Tr d) (deep L : Int), StrB 140737488355328 d t → 0 < L → -281474976710656 ≤ szT d t deep L ∧ szT d t deep L ≤ L - 1 := by
  intro d
  induction d with
  | zero =>
    intro t deep L hs hL
    obtain ⟨⟨h1, h2, h3⟩, _⟩ := hs.top
    rw [sz_eq]
    split
    · omega
    · show -281474976710656 ≤ atF _ _ ∧ atF _ _ ≤ _
      have e1 : (nmT 0 t).length = (lab 0 t).1.length := rfl
      have e2 : (txT 0 t).length = (lab 0 t).2.2.length := rfl
      have := atF_ge 140737488355328 (lab 0 t).2.1 (L - 1 - (nmT 0 t).length - (txT 0 t).length) h3 (by omega)
      have := atF_le (lab 0 t).2.1 (L - 1 - (nmT 0 t).length - (txT 0 t).length)
      omega
  | succ d ih =>
    intro t deep L hs hL
    obtain ⟨⟨h1, h2, h3⟩, hk⟩ := hs.top
    rw [sz_eq]
    split
    · omega
    · have e1 : (nmT (d + 1) t).length = (lab (d + 1) t).1.length := rfl
      have e2 : (txT (d + 1) t).length = (lab (d + 1) t).2.2.length := rfl
      have a1 := atF_ge 140737488355328 (lab (d + 1) t).2.1 (L - 1 - (nmT (d + 1) t).length - (txT (d + 1) t).length) h3 (by omega)
      have a2 := atF_le (lab (d + 1) t).2.1 (L - 1 - (nmT (d + 1) t).length - (txT (d + 1) t).length)
      have := kdF_rng (fun (k : Tr d) L => szT d k (deep + 1) L) (-281474976710656) (kidsT (d + 1) t) (atF (lab (d + 1) t).2.1 (L - 1 - (nmT (d + 1) t).length - (txT (d + 1) t).length)) (fun k hk' L hL => ih k (deep + 1) L (hk k hk') hL) (by omega)
      refine ⟨this.1, Int.le_trans this.2 (by omega)⟩
theorem atF_drop (al : List HdV) (k : Nat) (L : Int) (hk : k < al.length) (hL : 0 < L) : atF (al.drop k) L = atF (al.drop (k + 1)) (L - 1 - (al.getD k zeroH).name.length - (al.getD k zeroH).value.length) := by
  rw [List.drop_eq_getElem_cons hk]
  have : al.getD k zeroH = al[k] := by rw [List.getD_eq_getElem?_getD, List.getElem?_eq_getElem hk]; rfl
  rw [this, atF, if_pos hL]
theorem atF_stop (al : List HdV) (k : Nat) (L : Int) (h : ¬ (k < al.length ∧ 0 < L)) : atF (al.drop k) L = L := by
  by_cases hk : k < al.length
  · rw [List.drop_eq_getElem_cons hk, atF, if_neg (fun hL => h ⟨hk, hL⟩)]
  · rw [List.drop_of_length_le (by omega)]; rfl
theorem kdF_drop {α : Type} (f : α → Int → Int) (z : α) (l : List α) (k : Nat) (L : Int) (hk : k < l.length) (hL : 0 < L) : kdF f (l.drop k) L = kdF f (l.drop (k + 1)) (f (l.getD k z) L) := by
  rw [List.drop_eq_getElem_cons hk]
  have : l.getD k z = l[k] := by rw [List.getD_eq_getElem?_getD, List.getElem?_eq_getElem hk]; rfl
  rw [this, kdF, if_pos hL]
theorem kdF_stop {α : Type} (f : α → Int → Int) (l : List α) (k : Nat) (L : Int) (h : ¬ (k < l.length ∧ 0 < L)) : kdF f (l.drop k) L = L := by
  by_cases hk : k < l.length
  · rw [List.drop_eq_getElem_cons hk, kdF, if_neg (fun hL => h ⟨hk, hL⟩)]
  · rw [List.drop_of_length_le (by omega)]; rfl
set_option maxHeartbeats 2000000 in
set_option maxRecDepth 100000 in
theorem size_of (d : Nat) (t : Tr d) (P : Nat → Prop) (hs : StrB 140737488355328 d t)
    (IH : ∀ j, j < (kidsT d t).length → ∀ (deep : Nat) (L : Int) W cs, deep ≤ 41 → 0 < L → L ≤ 12000 → NdAt P (d - 1) W cs ((kidsT d t).getD j (zeroT (d - 1))) → Calls Tryz.prog 26 #[.agg cs, .int .i64 (deep : Int), .int .i64 L] W fun e w' => e = .returned (.int .i64 (szT (d - 1) ((kidsT d t).getD j (zeroT (d - 1))) deep L)) ∧ Below W.heap.size W w')
    (deep : Nat) (L : Int) (cs : Array Value) (w : World) (hd : deep ≤ 41) (hL : 0 < L) (hL2 : L ≤ 12000) (hnd : NdAt P d w cs t) : Calls Tryz.prog 26 #[.agg cs, .int .i64 (deep : Int), .int .i64 L] w fun e w' => e = .returned (.int .i64 (szT d t deep L)) ∧ Below w.heap.size w w' := by
  obtain ⟨aA, ac, kA, kc, rfl, hats, hks, _⟩ := hnd.parts
  unfold ndcs
  have HIH := hid IH
  have HKS := hid hks
  have HA := hid hats.1
  have HD := hid (sz_eq d t deep L)
  obtain ⟨⟨hs1, hs2, hs3⟩, hs4⟩ := hs.top
  have HS3 : Hid (∀ j, j < (lab d t).2.1.length → ((lab d t).2.1.getD j zeroH).name.length ≤ 140737488355328 ∧ ((lab d t).2.1.getD j zeroH).value.length ≤ 140737488355328) := fun j hj => hs3 _ (getD_mem9 hj)
  have HSK : Hid (∀ j, j < (kidsT d t).length → ∀ L : Int, 0 < L → -281474976710656 ≤ szT (d - 1) ((kidsT d t).getD j (zeroT (d - 1))) ((deep : Int) + 1) L ∧ szT (d - 1) ((kidsT d t).getD j (zeroT (d - 1))) ((deep : Int) + 1) L ≤ L - 1) := fun j hj L hL => sz_rng _ _ _ _ (hs4 _ (getD_mem9 hj)) hL
  have HKD := hid (kdF_drop (fun k L => szT (d - 1) k ((deep : Int) + 1) L) (zeroT (d - 1)) (kidsT d t))
  have HKT := hid (kdF_stop (fun k L => szT (d - 1) k ((deep : Int) + 1) L) (kidsT d t))
  have HAD := hid (atF_drop (lab d t).2.1)
  have HAT := hid (atF_stop (lab d t).2.1)
  have e1 : (nmT d t).length = (lab d t).1.length := rfl
  have e2 : (txT d t).length = (lab d t).2.2.length := rfl
  rw [e1, e2] at HD
  have z1 : (asS (lab d t).1).size = (lab d t).1.length := asS_size _
  have z2 : (asS (lab d t).2.2).size = (lab d t).2.2.length := asS_size _
  clear IH hks hats hnd hs hs3 hs4 e1 e2
  generalize szT d t deep L = R at HD ⊢
  generalize asS (lab d t).1 = NM at z1 ⊢
  generalize asS (lab d t).2.2 = TX at z2 ⊢
  generalize (lab d t).1.length = n1 at HD z1 hs1
  generalize (lab d t).2.2.length = n2 at HD z2 hs2
  generalize hal : (lab d t).2.1 = al at HD HAD HAT HA HS3 ⊢
  generalize hkl : kidsT d t = ks at HD HIH HKS HSK HKD HKT ⊢
  generalize hn : ks.length = n at HIH HSK HKD HKT ⊢
  generalize hm : al.length = m at HAD HAT HS3 ⊢
  have HN := hid hn
  have HM := hid hm
  clear hkl hn hm hal
  have HROW := hid (heap_alloc_new w (.cells #[.string NM, .slice aA m ac, .string TX, .slice kA n kc] 25))
  have c0 : (w.alloc (.cells #[.string NM, .slice aA m ac, .string TX, .slice kA n kc] 25)).cell? ⟨w.heap.size, 0, none⟩ = some (.string NM) := cell_of_row _ _ _ _ _ _ HROW.out
  have c2 : (w.alloc (.cells #[.string NM, .slice aA m ac, .string TX, .slice kA n kc] 25)).cell? ⟨w.heap.size, 2, none⟩ = some (.string TX) := cell_of_row _ _ _ _ _ _ HROW.out
  have HB0 := hid ((Below.refl w.heap.size w).alloc (Nat.le_refl _) (.cells #[.string NM, .slice aA m ac, .string TX, .slice kA n kc] 25))
  by_cases hdp : 40 < deep
  · rw [if_pos (by omega)] at HD
    have hdp' : (40 : Int) < (deep : Int) := by omega
    go_enter Tryz.func26, Tryz.ntmps26
    go_wp2_with fail
    go_ret
    exact ⟨by rw [HD.out]; rfl, HB0.out⟩
  · rw [if_neg (by omega)] at HD
    have hdp' : ¬ (40 : Int) < (deep : Int) := by omega
    go_enter Tryz.func26, Tryz.ntmps26
    go_wp2_with fail
    obtain ⟨W0, hW0⟩ : ∃ W0, w.alloc (.cells #[.string NM, .slice aA m ac, .string TX, .slice kA n kc] 25) = W0 := ⟨_, rfl⟩
    rw [hW0] at HROW HB0 ⊢
    clear hW0 c0 c2
    have HL0 : Hid (L - 1 - (n1 : Int) - (n2 : Int) = L - 1 - (n1 : Int) - (n2 : Int)) := rfl
    generalize hL0 : L - 1 - (n1 : Int) - (n2 : Int) = L0 at HD
    have hb1 : -281474976710656 ≤ L0 := by omega
    have hb2 : L0 ≤ 12000 := by omega
    clear HL0
    go_loopw [2, 7] (fun x2 i wr => ∃ (k : Nat) (Lk : Int), k ≤ m ∧ i = .int .i64 (k : Int) ∧ x2 = .int .i64 Lk ∧ Lk + (k : Int) ≤ 12000 ∧ -281474976710656 ≤ Lk ∧ Hid (atF al L0 = atF (al.drop k) Lk) ∧ Hid (Below W0.heap.size W0 wr)) (fun x2 i wr => m - (intOf i).toNat)
    case atStart => exact ⟨0, L0, Nat.zero_le _, rfl, rfl, by omega, hb1, rfl, Below.refl _ _⟩
    case round =>
      obtain ⟨k, Lk, hk2, rfl, rfl, hub, hlb, HT, HB⟩ := hrel
      have HRW := hid (row_keep HB.out HROW.out)
      have c1 : wr.cell? ⟨w.heap.size, 1, none⟩ = some (.slice aA m ac) := cell_of_row _ _ _ _ _ _ HRW.out
      have hbw : Hid (Below w.heap.size w wr) := HB0.out.trans (HB.out.mono HB0.out.size)
      by_cases hlt : k < m
      · have hi : (k : Int) < (m : Int) := by omega
        by_cases hpos : 0 < Lk
        · have hal2 : k < al.length := by have := HM.out; omega
          obtain ⟨q, o, hq, hqs, hcs⟩ := HA.out (by omega)
          subst hq
          have hc := hcs k hal2
          have k1 := (hbw.out.cell (p := ⟨q, o + k * 2, none⟩) hqs).trans hc.1
          have k2 := (hbw.out.cell (p := ⟨q, o + k * 2 + 1, none⟩) hqs).trans hc.2
          have hst := HAD.out k Lk hlt hpos
          have hln := HS3.out k hlt
          have y1 : (asS (al.getD k zeroH).name).size = (al.getD k zeroH).name.length := asS_size _
          have y2 : (asS (al.getD k zeroH).value).size = (al.getD k zeroH).value.length := asS_size _
          have HST : Hid (atF al L0 = atF (al.drop (k + 1)) (Lk - 1 - (al.getD k zeroH).name.length - (al.getD k zeroH).value.length)) := HT.out.trans hst
          clear hcs hc hqs hal2 hst
          generalize asS (al.getD k zeroH).name = A1 at k1 y1
          generalize asS (al.getD k zeroH).value = A2 at k2 y2
          generalize (al.getD k zeroH).name.length = l1 at y1 hln HST
          generalize (al.getD k zeroH).value.length = l2 at y2 hln HST
          obtain ⟨hl1, hl2⟩ := hln
          go_wp2_with fail
          go_quiet (fail)
          go_wp2_with fail
          go_roundw
          case rel => exact ⟨k + 1, Lk - 1 - (l1 : Int) - (l2 : Int), by omega, by go_num, rfl, by omega, by omega, HST.out, HB.out.trans ((below_drewN _ _ _).mono HB.out.size)⟩
          case measure => simp [intOf]; omega
        · have hX : Hid (R = kdF (fun k L => szT (d - 1) k ((deep : Int) + 1) L) ks Lk) := by
            show _ = _
            rw [HD.out, HT.out, HAT.out k Lk (by omega)]
          have HRWx := hid (row_keep HB.out HROW.out)
          have HBx : Hid (Below w.heap.size w wr) := hbw
          have hLk : Lk ≤ 12000 := by omega
          obtain ⟨W1, hW1⟩ : ∃ W1, W1 = wr := ⟨_, rfl⟩
          subst hW1
          clear HD HT HAT HAD HS3 HA HM HB HROW HB0 hbw hub HRW
          go_wp2_with fail
          clear c1
          go_loopw [2, 8] (fun x2 i w2 => ∃ (j : Nat) (Lj : Int), j ≤ n ∧ i = .int .i64 (j : Int) ∧ x2 = .int .i64 Lj ∧ Lj + (j : Int) ≤ 12000 ∧ -281474976710656 ≤ Lj ∧ Hid (R = kdF (fun k L => szT (d - 1) k ((deep : Int) + 1) L) (ks.drop j) Lj) ∧ Hid (Below W1.heap.size W1 w2)) (fun x2 i w2 => n - (intOf i).toNat)
          case atStart => exact ⟨0, Lk, Nat.zero_le _, rfl, rfl, by omega, hlb, hX, Below.refl _ _⟩
          case round =>
            obtain ⟨j, Lj, hj2, rfl, rfl, hub, hlbj, HT, HB⟩ := hrel
            have c3 : wr.cell? ⟨w.heap.size, 3, none⟩ = some (.slice kA n kc) := cell_of_row _ _ _ _ _ _ (row_keep HB.out HRWx.out)
            have hbw : Hid (Below w.heap.size w wr) := HBx.out.trans (HB.out.mono HBx.out.size)
            by_cases hltj : j < n
            · have hij : (j : Int) < (n : Int) := by omega
              by_cases hpj : 0 < Lj
              · have hkl : j < ks.length := by have := HN.out; omega
                obtain ⟨q, o, a, b, c, e, rfl, hql, k1, k2, k3, k4, hnd⟩ := (HKS.out.below hbw.out (Nat.le_refl _)).at j hkl
                have hldq := loadN_mid k1 k2 k3 k4
                have HC := hid (HIH.out j hltj (deep + 1) Lj wr _ (by omega) hpj (by omega) hnd)
                have hcast : (((deep + 1 : Nat) : Nat) : Int) = (deep : Int) + 1 := by omega
                rw [hcast] at HC
                have hrg := HSK.out j hltj Lj hpj
                have HST := hid (HT.out.trans (HKD.out j Lj hltj hpj))
                clear k1 k2 k3 k4 hnd hkl hql hcast
                generalize szT (d - 1) (ks.getD j (zeroT (d - 1))) ((deep : Int) + 1) Lj = X at HC hrg HST
                obtain ⟨hr1, hr2⟩ := hrg
                go_wp2_with fail
                refine HC.out.mono ?_
                rintro e W2 ⟨rfl, hb2⟩
                have HB2 := hid (HB.out.trans (hb2.mono HB.out.size))
                clear hb2
                go_wp2_with fail
                go_roundw
                case rel => exact ⟨j + 1, X, by omega, by go_num, rfl, by omega, hr1, HST.out, HB2.out⟩
                case measure => simp [intOf]; omega
              · have HR := hid (HT.out.trans (HKT.out j Lj (by omega)))
                go_wp2_with fail
                go_ret
                exact ⟨by rw [HR.out]; rfl, hbw.out⟩
            · have hij : ¬ (j : Int) < (n : Int) := by omega
              have HR := hid (HT.out.trans (HKT.out j Lj (by omega)))
              go_wp2_with fail
              go_ret
              exact ⟨by rw [HR.out]; rfl, hbw.out⟩
      · have hi : ¬ (k : Int) < (m : Int) := by omega
        have hX : Hid (R = kdF (fun k L => szT (d - 1) k ((deep : Int) + 1) L) ks Lk) := by
          show _ = _
          rw [HD.out, HT.out, HAT.out k Lk (by omega)]
        have HRWx := hid (row_keep HB.out HROW.out)
        have HBx : Hid (Below w.heap.size w wr) := hbw
        have hLk : Lk ≤ 12000 := by omega
        obtain ⟨W1, hW1⟩ : ∃ W1, W1 = wr := ⟨_, rfl⟩
        subst hW1
        clear HD HT HAT HAD HS3 HA HM HB HROW HB0 hbw hub HRW
        go_wp2_with fail
        clear c1
        go_loopw [2, 8] (fun x2 i w2 => ∃ (j : Nat) (Lj : Int), j ≤ n ∧ i = .int .i64 (j : Int) ∧ x2 = .int .i64 Lj ∧ Lj + (j : Int) ≤ 12000 ∧ -281474976710656 ≤ Lj ∧ Hid (R = kdF (fun k L => szT (d - 1) k ((deep : Int) + 1) L) (ks.drop j) Lj) ∧ Hid (Below W1.heap.size W1 w2)) (fun x2 i w2 => n - (intOf i).toNat)
        case atStart => exact ⟨0, Lk, Nat.zero_le _, rfl, rfl, by omega, hlb, hX, Below.refl _ _⟩
        case round =>
          obtain ⟨j, Lj, hj2, rfl, rfl, hub, hlbj, HT, HB⟩ := hrel
          have c3 : wr.cell? ⟨w.heap.size, 3, none⟩ = some (.slice kA n kc) := cell_of_row _ _ _ _ _ _ (row_keep HB.out HRWx.out)
          have hbw : Hid (Below w.heap.size w wr) := HBx.out.trans (HB.out.mono HBx.out.size)
          by_cases hltj : j < n
          · have hij : (j : Int) < (n : Int) := by omega
            by_cases hpj : 0 < Lj
            · have hkl : j < ks.length := by have := HN.out; omega
              obtain ⟨q, o, a, b, c, e, rfl, hql, k1, k2, k3, k4, hnd⟩ := (HKS.out.below hbw.out (Nat.le_refl _)).at j hkl
              have hldq := loadN_mid k1 k2 k3 k4
              have HC := hid (HIH.out j hltj (deep + 1) Lj wr _ (by omega) hpj (by omega) hnd)
              have hcast : (((deep + 1 : Nat) : Nat) : Int) = (deep : Int) + 1 := by omega
              rw [hcast] at HC
              have hrg := HSK.out j hltj Lj hpj
              have HST := hid (HT.out.trans (HKD.out j Lj hltj hpj))
              clear k1 k2 k3 k4 hnd hkl hql hcast
              generalize szT (d - 1) (ks.getD j (zeroT (d - 1))) ((deep : Int) + 1) Lj = X at HC hrg HST
              obtain ⟨hr1, hr2⟩ := hrg
              go_wp2_with fail
              refine HC.out.mono ?_
              rintro e W2 ⟨rfl, hb2⟩
              have HB2 := hid (HB.out.trans (hb2.mono HB.out.size))
              clear hb2
              go_wp2_with fail
              go_roundw
              case rel => exact ⟨j + 1, X, by omega, by go_num, rfl, by omega, hr1, HST.out, HB2.out⟩
              case measure => simp [intOf]; omega
            · have HR := hid (HT.out.trans (HKT.out j Lj (by omega)))
              go_wp2_with fail
              go_ret
              exact ⟨by rw [HR.out]; rfl, hbw.out⟩
          · have hij : ¬ (j : Int) < (n : Int) := by omega
            have HR := hid (HT.out.trans (HKT.out j Lj (by omega)))
            go_wp2_with fail
            go_ret
            exact ⟨by rw [HR.out]; rfl, hbw.out⟩
theorem size_any13 (P : Nat → Prop) : ∀ (d : Nat) (t : Tr d), StrB 140737488355328 d t → ∀ (deep : Nat) (L : Int) (cs : Array Value) (w : World), deep ≤ 41 → 0 < L → L ≤ 12000 → NdAt P d w cs t → Calls Tryz.prog 26 #[.agg cs, .int .i64 (deep : Int), .int .i64 L] w fun e w' => e = .returned (.int .i64 (szT d t deep L)) ∧ Below w.heap.size w w'
  | 0, t, hs, deep, L, cs, w, h1, h2, h3, h => size_of 0 t P hs (fun j hj => absurd hj (Nat.not_lt_zero _)) deep L cs w h1 h2 h3 h
  | d + 1, t, hs, deep, L, cs, w, h1, h2, h3, h => size_of (d + 1) t P hs (fun j hj deep L W cs' k1 k2 k3 h' => size_any13 P d _ (hs.2 _ (getD_mem9 hj)) deep L cs' W k1 k2 k3 h') deep L cs w h1 h2 h3 h
set_option maxRecDepth 100000 in
theorem light_any (P : Nat → Prop) (d : Nat) (t : Tr d) (hs : StrB 140737488355328 d t) (cs : Array Value) (w : World) (h : NdAt P d w cs t) : Calls Tryz.prog 8 #[.agg cs] w fun e w' => e = .returned (.bool (decide (0 < szT d t 0 12000))) ∧ Below w.heap.size w w' := by
  have HC : Hid (∀ W, Below w.heap.size w W → Calls Tryz.prog 26 #[.agg cs, .int .i64 0, .int .i64 12000] W fun e w' => e = .returned (.int .i64 (szT d t 0 12000)) ∧ Below W.heap.size W w') := fun W hb => size_any13 P d t hs 0 12000 cs W (by omega) (by omega) (by omega) (h.below hb (Nat.le_refl _))
  obtain ⟨aA, ac, kA, kc, hcs, _, _, _⟩ := h.parts
  subst hcs
  unfold ndcs at HC ⊢
  have hr := sz_rng d t 0 12000 hs (by omega)
  clear h hs
  generalize szT d t 0 12000 = X at HC hr ⊢
  generalize asS (lab d t).1 = NM at HC ⊢
  generalize asS (lab d t).2.2 = TX at HC ⊢
  generalize (lab d t).2.1.length = m at HC ⊢
  generalize (kidsT d t).length = n at HC ⊢
  have HROW := hid (heap_alloc_new w (.cells #[.string NM, .slice aA m ac, .string TX, .slice kA n kc] 25))
  have hld := loadN_run HROW.out rfl
  have HB0 := hid ((Below.refl w.heap.size w).alloc (Nat.le_refl _) (.cells #[.string NM, .slice aA m ac, .string TX, .slice kA n kc] 25))
  obtain ⟨W0, hW0⟩ : ∃ W0, w.alloc (.cells #[.string NM, .slice aA m ac, .string TX, .slice kA n kc] 25) = W0 := ⟨_, rfl⟩
  rw [hW0] at HB0 hld
  have HC1 := hid (HC.out W0 HB0.out)
  clear HC HROW
  obtain ⟨hr1, hr2⟩ := hr
  by_cases hx : 0 < X
  · rw [decide_eq_true hx]
    go_enter Tryz.func8, Tryz.ntmps8
    go_wp2_with fail
    refine HC1.out.mono ?_
    rintro e W2 ⟨rfl, hb2⟩
    have HB2 := hid (HB0.out.trans (hb2.mono HB0.out.size))
    clear hb2
    go_wp2_with fail
    go_ret
    exact ⟨rfl, HB2.out⟩
  · rw [decide_eq_false hx]
    go_enter Tryz.func8, Tryz.ntmps8
    go_wp2_with fail
    refine HC1.out.mono ?_
    rintro e W2 ⟨rfl, hb2⟩
    have HB2 := hid (HB0.out.trans (hb2.mono HB0.out.size))
    clear hb2
    go_wp2_with fail
    go_ret
    exact ⟨show Ending.returned (.bool (decide (0 < X))) = _ by rw [decide_eq_false (by omega)], HB2.out⟩
end Go.Proofs.YthjibliaofmlhaaGreatDoor
