
/- Nodes that are the same tree are told alike: what the reference's Same and Sames do. -/
import Derived.Test.YthjibliaofmlhaaGreatDoorXmRFold
import Derived.Test.YthjibliaofmlhaaGreatDoorXmStep
namespace Go.Proofs.YthjibliaofmlhaaGreatDoor
set_option linter.unusedVariables false
set_option linter.unusedSimpArgs false
open Go.RowKit Go.BigFrame
attribute [local go_sem ↓] loadN_eq

/-- No node of a tree has more than N attributes or kids. -/
def FitN (N : Nat) : (d : Nat) → Tr d → Prop
  | 0, t => (lab 0 t).2.1.length ≤ N
  | d + 1, t => (lab (d + 1) t).2.1.length ≤ N ∧ t.2.length ≤ N ∧ ∀ k ∈ t.2, FitN N d k
theorem FitN.top {N : Nat} : {d : Nat} → {t : Tr d} → FitN N d t → (lab d t).2.1.length ≤ N ∧ (kidsT d t).length ≤ N
  | 0, t, h => ⟨h, Nat.zero_le _⟩
  | _ + 1, t, h => ⟨h.1, h.2.1⟩
/-- Same tells the same tree of that many levels alike. -/
def SameOk (d : Nat) (t : Tr d) : Prop := ∀ (P P' : Nat → Prop) (cs ds : Array Value) (w : World), NdAt P d w cs t → NdAt P' d w ds t → Calls Tryz.prog 15 #[.agg cs, .agg ds] w fun x w' => x = .returned (.bool true) ∧ Below w.heap.size w w'
set_option maxHeartbeats 1000000 in
set_option maxRecDepth 100000 in
theorem sames_of (d : Nat) (ks : List (Tr d)) (hk : ks.length ≤ 1000000) (IH : ∀ k ∈ ks, SameOk d k) (P P' : Nat → Prop) (A B : Option Addr) (c c' : Nat) (w : World) (hA : NdsAt P d w A ks) (hB : NdsAt P' d w B ks) : Calls Tryz.prog 21 #[.slice A ks.length c, .slice B ks.length c'] w fun x w' => x = .returned (.bool true) ∧ Below w.heap.size w w' := by
  have HIH : Hid (∀ j (hj : j < ks.length), SameOk d (ks.getD j (zeroT d))) := fun j hj => IH _ (getD_mem9 hj)
  have HA := hid hA
  have HB := hid hB
  clear hA hB IH
  generalize hn : ks.length = n at hk HIH ⊢
  have HN := hid hn
  clear hn
  have hnn : ((n : Int) != (n : Int)) = false := by simp
  go_enter Tryz.func21, Tryz.ntmps21
  go_wp2_with fail
  go_loopw [5] (fun i wr => ∃ k : Nat, k ≤ n ∧ i = .int .i64 (k : Int) ∧ Hid (Below w.heap.size w wr)) (fun i wr => n - (intOf i).toNat)
  case atStart => exact ⟨0, Nat.zero_le _, rfl, Below.refl _ _⟩
  case round =>
    obtain ⟨k, hk2, rfl, HBL⟩ := hrel
    by_cases hlt : k < n
    · have hi : (k : Int) < (n : Int) := by omega
      have hkl : k < ks.length := by have := HN.out; omega
      obtain ⟨q, o, a, b, c1, e, hq, hql, k1, k2, k3, k4, hnd⟩ := (HA.out.below HBL.out (Nat.le_refl _)).at k hkl
      obtain ⟨q', o', a', b', c2, e', hq', hql', k1', k2', k3', k4', hnd'⟩ := (HB.out.below HBL.out (Nat.le_refl _)).at k hkl
      have hldA := loadN_mid (w := wr.drew) k1 k2 k3 k4
      have hldB := loadN_mid (w := wr.drew) k1' k2' k3' k4'
      have hldA2 := loadN_mid k1 k2 k3 k4
      have hldB2 := loadN_mid k1' k2' k3' k4'
      have HC : Hid (Calls Tryz.prog 15 #[.agg #[a, b, c1, e], .agg #[a', b', c2, e']] wr.drew fun x w' => ∃ v, x = .returned v ∧ (v = .bool true ∧ Below wr.heap.size wr.drew w')) := (HIH.out k hlt P P' _ _ wr.drew (hnd.below ((Below.refl _ _).drew) (Nat.le_refl _)) (hnd'.below ((Below.refl _ _).drew) (Nat.le_refl _))).mono fun x w' hp => ⟨_, hp.1, rfl, hp.2⟩
      clear k1 k2 k3 k4 k1' k2' k3' k4' hnd hnd' hkl hql hql'
      subst hq hq'
      have HEN := hid (enters_of Tryz.func15 (by kernel_rfl) rfl)
      go_wp2_with fail
      go_region_law ((first
        | (refine step_call2 (by rfl) 15 _ _ _ (by rfl) HEN.out (.agg #[a, b, c1, e]) (.agg #[a', b', c2, e']) (by rfl) (by rfl) HC.out ?_; intro v1 w1 ha; obtain ⟨hv1, hb1⟩ := ha; subst hv1; have HB1 : Hid (Below wr.heap.size wr w1) := ((Below.refl _ _).drew).trans hb1; clear hb1)
        | fail))
      all_goals
        go_simp
        go_wp2_with fail
        go_roundw
        case rel => exact ⟨k + 1, by omega, by go_num, HBL.out.trans (HB1.out.mono HBL.out.size)⟩
        case measure => simp [intOf]; omega
    · have hi : ¬ (k : Int) < (n : Int) := by omega
      go_wp2_with fail
      go_ret
      exact ⟨rfl, HBL.out⟩
theorem str_self (x : ByteArray) : (x.toList == x.toList) = true := by simp
set_option maxHeartbeats 1000000 in
set_option maxRecDepth 100000 in
theorem same_of (d : Nat) (t : Tr d) (hf : FitN 1000000 d t) (IH : ∀ k ∈ kidsT d t, SameOk (d - 1) k) : SameOk d t := by
  intro P P' cs ds w h h'
  obtain ⟨aA, ac, kA, kc, rfl, hh, hks, _⟩ := h.parts
  obtain ⟨bA, bc, lA, lc, rfl, hh', hks', _⟩ := h'.parts
  obtain ⟨hf1, hf2⟩ := hf.top
  unfold ndcs
  have HS := hid (sames_of (d - 1) (kidsT d t) hf2 IH P P' kA lA kc lc)
  have HH := hid (same_any (lab d t).2.1 (lab d t).2.1 aA bA ac bc hf1)
  rw [same_refl] at HH
  have HA := hid hh.1
  have HA' := hid hh'.1
  have HK := hid hks
  have HK' := hid hks'
  have e1 := str_self (asS (lab d t).1)
  have e2 := str_self (asS (lab d t).2.2)
  clear h h' hf hf1 hf2 IH hh hh' hks hks'
  generalize asS (lab d t).1 = NM at e1 ⊢
  generalize asS (lab d t).2.2 = TX at e2 ⊢
  generalize hal : (lab d t).2.1 = al at *
  generalize hksv : kidsT d t = ks at *
  clear hal hksv
  generalize hna : al.length = na at HH ⊢
  generalize hnk : ks.length = nk at HS ⊢
  clear hna hnk
  have b2 : ∀ o1 o2, Below w.heap.size w ((w.alloc o1).alloc o2) := fun o1 o2 => ((Below.refl _ _).alloc (Nat.le_refl _) _).alloc (by simp) _
  have HB2 := hid b2
  clear b2
  have HC1 := hid (heap_first w (.cells #[.string NM, .slice aA na ac, .string TX, .slice kA nk kc] 25) (.cells #[.string NM, .slice bA na bc, .string TX, .slice lA nk lc] 25))
  have HC2 := hid (heap_second w (.cells #[.string NM, .slice aA na ac, .string TX, .slice kA nk kc] 25) (.cells #[.string NM, .slice bA na bc, .string TX, .slice lA nk lc] 25))
  go_enter Tryz.func15, Tryz.ntmps15
  go_wp2_with fail
  refine Calls.mono (HH.out _ (HA.out.below (HB2.out _ _) (Nat.le_refl _)) (HA'.out.below (HB2.out _ _) (Nat.le_refl _))) ?_
  rintro x W1 ⟨rfl, hb⟩
  have hbw : Below w.heap.size w W1 := (HB2.out _ _).trans (hb.mono (by simp; omega))
  have r1 := row_keep hb HC1.out
  have r2 := row_keep hb HC2.out
  have c1 : W1.cell? ⟨w.heap.size, 3, none⟩ = some (.slice kA nk kc) := cell_of_row _ _ _ _ _ _ r1
  have c2 : W1.cell? ⟨w.heap.size + 1, 3, none⟩ = some (.slice lA nk lc) := cell_of_row _ _ _ _ _ _ r2
  have HBW := hid hbw
  clear hb hbw r1 r2
  go_wp2_with fail
  refine Calls.mono (HS.out _ (HK.out.below HBW.out (Nat.le_refl _)) (HK'.out.below HBW.out (Nat.le_refl _))) ?_
  rintro x W2 ⟨rfl, hb⟩
  have HB3 := hid (HBW.out.trans (hb.mono HBW.out.size))
  clear hb
  go_wp2_with fail
  go_ret
  exact ⟨rfl, HB3.out⟩
theorem same_all : ∀ (d : Nat) (t : Tr d), FitN 1000000 d t → SameOk d t
  | 0, t, hf => same_of 0 t hf (fun k hk => by cases hk)
  | d + 1, t, hf => same_of (d + 1) t hf (fun k hk => same_all d k (hf.2.2 k hk))
end Go.Proofs.YthjibliaofmlhaaGreatDoor
