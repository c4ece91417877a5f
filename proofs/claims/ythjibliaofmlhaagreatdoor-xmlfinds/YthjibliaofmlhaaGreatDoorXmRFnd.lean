
/- The reference's Find, walked. -/
import Derived.Test.YthjibliaofmlhaaGreatDoorXmRFind
namespace Go.Proofs.YthjibliaofmlhaaGreatDoor
set_option linter.unusedVariables false
set_option linter.unusedSimpArgs false
open Go.RowKit Go.BigFrame
attribute [local go_sem ↓] loadN_eq

/-- The kids of a name. -/
def fndP (nm : List UInt8) (d : Nat) (k : Tr d) : Bool := decide (nmT d k = nm) && !nm.isEmpty
def fndT (nm : List UInt8) (d : Nat) (l : List (Tr d)) : List (Tr d) := l.filter (fndP nm d)
theorem fnd_take (nm : List UInt8) (d : Nat) (l : List (Tr d)) (k : Nat) (hk : k < l.length) : fndT nm d (l.take (k + 1)) = fndT nm d (l.take k) ++ (if fndP nm d (l.getD k (zeroT d)) then [l.getD k (zeroT d)] else []) := by
  unfold fndT
  rw [take_getD l (zeroT d) k hk, List.filter_append]
  congr 1
  rw [List.filter_cons, List.filter_nil]
theorem fnd_len (nm : List UInt8) (d : Nat) (l : List (Tr d)) : (fndT nm d l).length ≤ l.length := List.length_filter_le _ _
theorem own_empty {w : World} {d g : Nat} (h : w.heap[g]? = some (.cells #[] 25 (0, 0))) : OwnN (fun _ => True) w d (.slice (some ⟨g, 0, none⟩) 0 0) [] :=
  .inr ⟨g, 0, [], rfl, trivial, rfl, ⟨Nat.zero_le _, rfl, [], h, rfl, Nat.le_refl _⟩, (fun c hc => by cases hc), fun j hj => absurd hj (by simp)⟩
set_option maxHeartbeats 1000000 in
set_option maxRecDepth 100000 in
theorem refFind_any (nm : List UInt8) (d : Nat) (t : Tr d) (hk : (kidsT d t).length ≤ 100000) (cs : Array Value) (w : World) (hnd : NdAt (fun q => q < w.heap.size) d w cs t) : Calls Tryz.prog 23 #[.agg cs, .string (asS nm)] w fun e w' => Below w.heap.size w w' ∧ ∃ A c, e = .returned (.slice A (fndT nm (d - 1) (kidsT d t)).length c) ∧ NdsAt (fun _ => True) (d - 1) w' A (fndT nm (d - 1) (kidsT d t)) := by
  obtain ⟨aA, ac, kA, kc, rfl, _, hks, _⟩ := hnd.parts
  unfold ndcs
  have HKS := hid hks
  have HTK := hid (fnd_take nm (d - 1) (kidsT d t))
  have hqn : ((asS nm).toList == []) = nm.isEmpty := str_nil9 nm
  have HEQ : Hid (∀ x : List UInt8, ((asS x).toList == (asS nm).toList) = decide (x = nm)) := fun x => tl_two x nm
  clear hks hnd
  generalize asS (lab d t).2.2 = TX
  generalize asS (lab d t).1 = NM
  generalize (lab d t).2.1.length = an
  generalize kidsT d t = ks at HKS HTK hk ⊢
  have HFL : Hid (∀ k, (fndT nm (d - 1) (ks.take k)).length ≤ 100000) := fun k => by
    have := fnd_len nm (d - 1) (ks.take k)
    rw [List.length_take] at this
    show _ ≤ _
    omega
  generalize hn : ks.length = n at hk HTK ⊢
  have HN := hid hn
  clear hn
  have HROW := hid (heap_alloc_new w (.cells #[.string NM, .slice aA an ac, .string TX, .slice kA n kc] 25))
  have HB0 := hid ((Below.refl w.heap.size w).alloc (Nat.le_refl _) (.cells #[.string NM, .slice aA an ac, .string TX, .slice kA n kc] 25))
  have HSZ : Hid ((w.alloc (.cells #[.string NM, .slice aA an ac, .string TX, .slice kA n kc] 25)).heap.size = w.heap.size + 1) := Array.size_push _
  obtain ⟨W0, hW0⟩ : ∃ W0, w.alloc (.cells #[.string NM, .slice aA an ac, .string TX, .slice kA n kc] 25) = W0 := ⟨_, rfl⟩
  rw [hW0] at HB0 HROW HSZ
  go_enter Tryz.func23, Tryz.ntmps23
  go_wp2_with fail
  go_loopw [5, 6] (fun v i wr => ∃ (k : Nat) (o : List (Tr (d - 1))), k ≤ n ∧ i = .int .i64 (k : Int) ∧ Hid (o = fndT nm (d - 1) (ks.take k)) ∧ Hid (OwnN (fun _ => True) wr (d - 1) v o) ∧ Hid (∀ g, blk v = some g → w.heap.size < g) ∧ Hid (Below W0.heap.size W0 wr)) (fun v i wr => n - (intOf i).toNat)
  case atStart => exact ⟨0, [], Nat.zero_le _, rfl, rfl, own_empty (heap_alloc_new W0 _), (fun g hg => by have h1 := HSZ.out; have h2 : W0.heap.size = g := (by injection hg); omega), (Below.refl _ _).alloc (Nat.le_refl _) _⟩
  case round =>
    obtain ⟨k, o, hk2, rfl, HO, HOW, HG, HB⟩ := hrel
    obtain ⟨vA, vc, hv, _, hvN⟩ := HOW.out.shape
    subst hv
    have HVN := hid hvN
    clear hvN
    have hrw := row_keep HB.out HROW.out
    have c3 : wr.cell? ⟨w.heap.size, 3, none⟩ = some (.slice kA n kc) := cell_of_row _ _ _ _ _ _ hrw
    clear hrw
    have hbw : Hid (Below w.heap.size w wr) := HB0.out.trans (HB.out.mono HB0.out.size)
    by_cases hlt : k < n
    · have hi : (k : Int) < (n : Int) := by omega
      have hkl : k < ks.length := by have := HN.out; omega
      obtain ⟨q, o', aA2, ac2, kA2, kc2, rfl, hql, k1, k2, k3, k4, hnd⟩ := (HKS.out.below hbw.out (Nat.le_refl _)).at2 k hkl
      have hldq := loadN_mid k1 k2 k3 k4
      unfold ndcs at hnd
      have e1 : (lab (d - 1) (ks.getD k (zeroT (d - 1)))).1 = nmT (d - 1) (ks.getD k (zeroT (d - 1))) := rfl
      have e2 : (lab (d - 1) (ks.getD k (zeroT (d - 1)))).2.2 = txT (d - 1) (ks.getD k (zeroT (d - 1))) := rfl
      rw [e1, e2] at hnd
      have HND := hid hnd
      have HST := hid (HTK.out k hlt)
      rw [← HO.out] at HST
      have heq := HEQ.out (nmT (d - 1) (ks.getD k (zeroT (d - 1))))
      have HLE := hid (HFL.out k)
      rw [← HO.out] at HLE
      clear e1 e2 k2 k3 k4 hnd hkl hql
      unfold fndP at HST
      generalize (lab (d - 1) (ks.getD k (zeroT (d - 1)))).2.1.length = ln1 at hldq HND
      generalize (kidsT (d - 1) (ks.getD k (zeroT (d - 1)))).length = ln2 at hldq HND
      generalize asS (txT (d - 1) (ks.getD k (zeroT (d - 1)))) = KT at hldq HND
      by_cases he : nmT (d - 1) (ks.getD k (zeroT (d - 1))) = nm
      · rw [decide_eq_true he] at heq HST
        clear he
        generalize asS (nmT (d - 1) (ks.getD k (zeroT (d - 1)))) = KN at hldq HND k1 heq
        generalize ks.getD k (zeroT (d - 1)) = kid at HST HND
        generalize asS nm = NS at heq hqn ⊢
        cases hz : nm.isEmpty
        · rw [hz] at hqn HST
          have HS2 : Hid (fndT nm (d - 1) (ks.take (k + 1)) = o ++ [kid]) := HST.out
          clear hz HST
          go_wp2_with (first
            | (refine wpList_nd rfl _ _ rfl (fun _ => True) (d - 1) _ _ o _ kid rfl rfl (HOW.out.below ((Below.refl _ _).alloc (Nat.le_refl _) _)) (src_nd (HND.out.below ((Below.refl wr.heap.size wr).alloc (Nat.le_refl _) _) (Nat.le_refl _)) wr.heap.size 1 (heap_alloc_new wr _)) rfl ((HND.out.below ((Below.refl wr.heap.size wr).alloc (Nat.le_refl _) _) (Nat.le_refl _)).mono fun q hq _ => ⟨trivial, fun e => by have h1 := HG.out q e; have h2 : q < w.heap.size := hq; omega⟩) (by have := HLE.out; omega) trivial ?_)
            | fail)
          intro v' w' j1 j2 j3
          have J1 := hid j1
          have hbA : Below W0.heap.size W0 (wr.alloc (.cells #[.string KN, .slice aA2 ln1 ac2, .string KT, .slice kA2 ln2 kc2] 25 (0, 0))) := HB.out.trans (((Below.refl wr.heap.size wr).alloc (Nat.le_refl _) _).mono HB.out.size)
          have HBN : Hid (Below W0.heap.size W0 w') := hbA.trans ⟨j2.os, j2.tape, j2.output, j2.size, fun x hx => j2.block x (Nat.lt_of_lt_of_le hx hbA.size) (fun e => by have h1 := HG.out x e.symm; have h2 := HSZ.out; omega)⟩
          have HGN : Hid (∀ g, blk v' = some g → w.heap.size < g) := fun g hg => by
            rcases j3 with j3 | j3
            · exact HG.out g (j3 ▸ hg)
            · rw [j3] at hg
              have h2 := HSZ.out
              injection hg with hg
              have h1 : W0.heap.size ≤ wr.heap.size := HB.out.size
              omega
          clear j1 j2 j3 hbA
          go_wp2_with fail
          go_roundw
          case rel => exact ⟨k + 1, o ++ [kid], by omega, by go_num, HS2.out.symm, J1.out, HGN.out, HBN.out⟩
          case measure => simp [intOf]; omega
        · rw [hz] at hqn HST
          have HS2 : Hid (fndT nm (d - 1) (ks.take (k + 1)) = o) := by
            show _ = _
            rw [HST.out]
            simp
          clear hz HST
          go_wp2_with fail
          go_roundw
          case rel => exact ⟨k + 1, o, by omega, by go_num, HS2.out.symm, HOW.out, HG.out, HB.out⟩
          case measure => simp [intOf]; omega
      · rw [decide_eq_false he] at heq HST
        have HS2 : Hid (fndT nm (d - 1) (ks.take (k + 1)) = o) := by
          show _ = _
          rw [HST.out]
          simp
        clear he HST
        generalize asS (nmT (d - 1) (ks.getD k (zeroT (d - 1)))) = KN at hldq HND k1 heq
        generalize asS nm = NS at heq hqn ⊢
        go_wp2_with fail
        go_roundw
        case rel => exact ⟨k + 1, o, by omega, by go_num, HS2.out.symm, HOW.out, HG.out, HB.out⟩
        case measure => simp [intOf]; omega
    · have hi : ¬ (k : Int) < (n : Int) := by omega
      have HFN : Hid (o = fndT nm (d - 1) ks) := by
        have := HO.out
        rw [List.take_of_length_le (by have := HN.out; omega)] at this
        exact this
      go_wp2_with fail
      go_ret
      refine ⟨hbw.out, ?_⟩
      rw [← HFN.out]
      exact ⟨vA, ⟨vc, rfl⟩, HVN.out⟩
end Go.Proofs.YthjibliaofmlhaaGreatDoor
