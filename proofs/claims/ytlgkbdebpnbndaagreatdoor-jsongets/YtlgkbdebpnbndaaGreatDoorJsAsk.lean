
/- An object's texts and numbers by their names: own, asked. -/
import Derived.Test.YtlgkbdebpnbndaaGreatDoorJsGet
import Derived.Test.YtlgkbdebpnbndaaGreatDoorJsCaught
namespace Go.Proofs.YtlgkbdebpnbndaaGreatDoor
set_option linter.unusedVariables false
set_option linter.unusedSimpArgs false
open Go.RowKit Go.BigFrame
attribute [local go_sem ↓] mkB mkS mkI mkV mkO mkErr

/-- What one of Go's own values is when a text is asked for, when a number is. -/
def As9 (x : Value) (b : Bool) (v : Value) : Prop := ∀ W, (Instr.typeAssert x 20 9 true).run Tryz.prog W = .ok (.tuple #[v, .bool b]) W
def As2 (x : Value) (b : Bool) (v : Value) : Prop := ∀ W, (Instr.typeAssert x 20 2 true).run Tryz.prog W = .ok (.tuple #[v, .bool b]) W
set_option maxHeartbeats 4000000 in
set_option maxRecDepth 100000 in
theorem own_any (KI NU : Int) (TX : ByteArray) (kA nA : Option Addr) (n kc m nc : Nat) (w : World) : Calls Tryz.prog 54 #[.agg #[.int .i64 KI, .int .i64 NU, .string TX, .slice kA n kc, .slice nA m nc]] w fun e w' => Below w.heap.size w w' ∧ ((e = dieJ 1 ∧ KI ≠ 2 ∧ KI ≠ 3) ∨ ∃ x, e = .returned x ∧ (KI = 3 → As9 x true (.string TX)) ∧ (KI ≠ 3 → As9 x false (.string ⟨#[]⟩)) ∧ (KI = 2 → As2 x true (.int .i64 NU)) ∧ (KI ≠ 2 → As2 x false (.int .i64 0))) := by
  have HB := hid ((Below.refl w.heap.size w).alloc (Nat.le_refl _) (.cells #[.int .i64 KI, .int .i64 NU, .string TX, .slice kA n kc, .slice nA m nc] 25))
  have HROW := hid (heap_alloc_new w (.cells #[.int .i64 KI, .int .i64 NU, .string TX, .slice kA n kc, .slice nA m nc] 25 (0, 0)))
  have N9 : ∀ (u : TypeId) (v : Value), u ≠ 9 → As9 (.iface u v) false (.string ⟨#[]⟩) := fun u v hu W => run_assert_not 9 u v _ W (by kernel_rfl) hu Tryz.zeroValue9
  have N2 : ∀ (u : TypeId) (v : Value), u ≠ 2 → As2 (.iface u v) false (.int .i64 0) := fun u v hu W => run_assert_not 2 u v _ W (by kernel_rfl) hu Tryz.zeroValue2
  have HN9 := hid N9
  have HN2 := hid N2
  clear N9 N2
  obtain ⟨W0, hW0⟩ : ∃ W0, w.alloc (.cells #[.int .i64 KI, .int .i64 NU, .string TX, .slice kA n kc, .slice nA m nc] 25) = W0 := ⟨_, rfl⟩
  rw [hW0] at HB HROW
  have c0 : W0.cell? ⟨w.heap.size, 0, none⟩ = some (.int .i64 KI) := cell_of_row _ _ _ _ _ _ HROW.out
  have c1 : W0.cell? ⟨w.heap.size, 1, none⟩ = some (.int .i64 NU) := cell_of_row _ _ _ _ _ _ HROW.out
  have c2 : W0.cell? ⟨w.heap.size, 2, none⟩ = some (.string TX) := cell_of_row _ _ _ _ _ _ HROW.out
  have c3 : W0.cell? ⟨w.heap.size, 3, none⟩ = some (.slice kA n kc) := cell_of_row _ _ _ _ _ _ HROW.out
  have c4 : W0.cell? ⟨w.heap.size, 4, none⟩ = some (.slice nA m nc) := cell_of_row _ _ _ _ _ _ HROW.out
  clear HROW
  by_cases h0 : KI = 0
  · subst h0
    go_enter Tryz.func54, Tryz.ntmps54
    go_wp2_with fail
    go_ret
    exact ⟨HB.out, .inr ⟨_, rfl, (fun h => by cases h), (fun _ W => run_assert_nil 9 _ W (by kernel_rfl) Tryz.zeroValue9), (fun h => by cases h), (fun _ W => run_assert_nil 2 _ W (by kernel_rfl) Tryz.zeroValue2)⟩⟩
  have e0 : (KI == 0) = false := by simpa using h0
  by_cases h1 : KI = 1
  · subst h1
    obtain ⟨b, hb⟩ : ∃ b : Bool, (NU == 1) = b := ⟨_, rfl⟩
    go_enter Tryz.func54, Tryz.ntmps54
    go_wp2_with fail
    go_ret
    exact ⟨HB.out, .inr ⟨_, rfl, (fun h => by cases h), (fun _ => HN9.out _ _ (by decide)), (fun h => by cases h), (fun _ => HN2.out _ _ (by decide))⟩⟩
  have e1 : (KI == 1) = false := by simpa using h1
  by_cases h2 : KI = 2
  · subst h2
    go_enter Tryz.func54, Tryz.ntmps54
    go_wp2_with fail
    go_ret
    exact ⟨HB.out, .inr ⟨_, rfl, (fun h => by cases h), (fun _ => HN9.out _ _ (by decide)), (fun _ W => run_assert_is 2 _ true W (by kernel_rfl)), (fun h => absurd rfl h)⟩⟩
  have e2 : (KI == 2) = false := by simpa using h2
  by_cases h3 : KI = 3
  · subst h3
    go_enter Tryz.func54, Tryz.ntmps54
    go_wp2_with fail
    go_ret
    exact ⟨HB.out, .inr ⟨_, rfl, (fun _ W => run_assert_is 9 _ true W (by kernel_rfl)), (fun h => absurd rfl h), (fun h => by cases h), (fun _ => HN2.out _ _ (by decide))⟩⟩
  have e3 : (KI == 3) = false := by simpa using h3
  by_cases h4 : KI = 4
  · subst h4
    go_enter Tryz.func54, Tryz.ntmps54
    go_wp2_with fail
    go_ret
    exact ⟨HB.out, .inr ⟨_, rfl, (fun h => by cases h), (fun _ => HN9.out _ _ (by decide)), (fun h => by cases h), (fun _ => HN2.out _ _ (by decide))⟩⟩
  have e4 : (KI == 4) = false := by simpa using h4
  by_cases h5 : KI = 5
  · subst h5
    go_enter Tryz.func54, Tryz.ntmps54
    go_wp2_with fail
    go_ret
    exact ⟨HB.out, .inr ⟨_, rfl, (fun h => by cases h), (fun _ => HN9.out _ _ (by decide)), (fun h => by cases h), (fun _ => HN2.out _ _ (by decide))⟩⟩
  have e5 : (KI == 5) = false := by simpa using h5
  go_enter Tryz.func54, Tryz.ntmps54
  go_wp2_with fail
  exact ⟨rfl, HB.out, .inl ⟨rfl, h2, h3⟩⟩
attribute [local go_sem ↓] loadV_eq
set_option maxHeartbeats 4000000 in
set_option maxRecDepth 100000 in
theorem askS_any_no {P : Nat → Prop} {d : Nat} {w : World} {cs : Array Value} {t : VJ d} (h : VAt P d w cs t) (hw : wtJ d t ≤ 100000) (nm : List UInt8) (hp : placeJ d t nm = none) : Calls Tryz.prog 47 #[.agg cs, .string (asS nm)] w fun e w' =>
    e = dieJ 4 ∧ Below w.heap.size w w' := by
  have HPL := hid (fun W (hb : Below w.heap.size w W) => place_any (h.below hb (Nat.le_refl _)) hw nm)
  obtain ⟨kA, kc, nA, nc, rfl, _, hks, hkc⟩ := h.parts
  obtain ⟨_, _, _, w4, _⟩ := wtJ_parts hw
  unfold vcs at HPL ⊢
  clear h hw
  generalize asS (labJ d t).2.2.1 = TX at HPL ⊢
  generalize (labJ d t).1 = KI at HPL ⊢
  generalize (labJ d t).2.1 = NU at HPL ⊢
  generalize (labJ d t).2.2.2.length = m at HPL ⊢
  have HB := hid ((Below.refl w.heap.size w).alloc (Nat.le_refl _) (.cells #[.int .i64 KI, .int .i64 NU, .string TX, .slice kA (kidsJ d t).length kc, .slice nA m nc] 25))
  have HX := hid (heap_alloc_new w (.cells #[.int .i64 KI, .int .i64 NU, .string TX, .slice kA (kidsJ d t).length kc, .slice nA m nc] 25 (0, 0)))
  have HP2 : Hid (Calls Tryz.prog 43 #[.agg #[.int .i64 KI, .int .i64 NU, .string TX, .slice kA (kidsJ d t).length kc, .slice nA m nc], .string (asS nm)] (w.alloc (.cells #[.int .i64 KI, .int .i64 NU, .string TX, .slice kA (kidsJ d t).length kc, .slice nA m nc] 25)) fun e w' => e = .returned (.int .i64 (-1)) ∧ Below (w.alloc (.cells #[.int .i64 KI, .int .i64 NU, .string TX, .slice kA (kidsJ d t).length kc, .slice nA m nc] 25)).heap.size (w.alloc (.cells #[.int .i64 KI, .int .i64 NU, .string TX, .slice kA (kidsJ d t).length kc, .slice nA m nc] 25)) w') := (HPL.out _ HB.out).mono fun e w' hh => ⟨hh.2.1 hp, hh.2.2⟩
  clear HPL hks
  generalize (kidsJ d t).length = n at *
  generalize asS nm = NM at *
  have hld := loadV_run HX.out rfl
  go_enter Tryz.func47, Tryz.ntmps47
  go_wp2_with fail
  refine HP2.out.mono ?_
  rintro e W ⟨rfl, hb⟩
  have HB2 := hid (HB.out.trans (hb.mono HB.out.size))
  clear hb hld HP2
  go_wp2_with fail
  exact ⟨rfl, rfl, HB2.out⟩
set_option maxHeartbeats 4000000 in
set_option maxRecDepth 100000 in
theorem askS_any_at {P : Nat → Prop} {d : Nat} {w : World} {cs : Array Value} {t : VJ d} (h : VAt P d w cs t) (hw : wtJ d t ≤ 100000) (nm : List UInt8) (i : Nat) (hp : placeJ d t nm = some i) : Calls Tryz.prog 47 #[.agg cs, .string (asS nm)] w fun e w' =>
    ((labJ (d - 1) ((kidsJ d t).getD i (zeroJ (d - 1)))).1 = 3 → e = .returned (.string (asS (labJ (d - 1) ((kidsJ d t).getD i (zeroJ (d - 1)))).2.2.1))) ∧ ((labJ (d - 1) ((kidsJ d t).getD i (zeroJ (d - 1)))).1 ≠ 3 → e = dieJ 1) ∧ Below w.heap.size w w' := by
  have HPL := hid (fun W (hb : Below w.heap.size w W) => place_any (h.below hb (Nat.le_refl _)) hw nm)
  obtain ⟨kA, kc, nA, nc, rfl, _, hks, hkc⟩ := h.parts
  obtain ⟨_, _, _, w4, _⟩ := wtJ_parts hw
  have hin : ∀ i, placeJ d t nm = some i → i < (kidsJ d t).length := fun i hp => by
    unfold placeJ at hp
    split at hp
    · rename_i h3
      injection hp with hp
      omega
    · cases hp
  unfold vcs at HPL ⊢
  clear h hw
  generalize asS (labJ d t).2.2.1 = TX at HPL ⊢
  generalize (labJ d t).1 = KI at HPL ⊢
  generalize (labJ d t).2.1 = NU at HPL ⊢
  generalize (labJ d t).2.2.2.length = m at HPL ⊢
  have HB := hid ((Below.refl w.heap.size w).alloc (Nat.le_refl _) (.cells #[.int .i64 KI, .int .i64 NU, .string TX, .slice kA (kidsJ d t).length kc, .slice nA m nc] 25))
  have HX := hid (heap_alloc_new w (.cells #[.int .i64 KI, .int .i64 NU, .string TX, .slice kA (kidsJ d t).length kc, .slice nA m nc] 25 (0, 0)))
  have hi := hin i hp
  have HP2 : Hid (Calls Tryz.prog 43 #[.agg #[.int .i64 KI, .int .i64 NU, .string TX, .slice kA (kidsJ d t).length kc, .slice nA m nc], .string (asS nm)] (w.alloc (.cells #[.int .i64 KI, .int .i64 NU, .string TX, .slice kA (kidsJ d t).length kc, .slice nA m nc] 25)) fun e w' => e = .returned (.int .i64 i) ∧ Below (w.alloc (.cells #[.int .i64 KI, .int .i64 NU, .string TX, .slice kA (kidsJ d t).length kc, .slice nA m nc] 25)).heap.size (w.alloc (.cells #[.int .i64 KI, .int .i64 NU, .string TX, .slice kA (kidsJ d t).length kc, .slice nA m nc] 25)) w') := (HPL.out _ HB.out).mono fun e w' hh => ⟨hh.1 i hp, hh.2.2⟩
  obtain ⟨q, o, a, b, c, e0, f, rfl, hq, k1, k2, k3, k4, k5, hv⟩ := hks.at i hi
  obtain ⟨kB, kd, nB, nd, hcs, _⟩ := hv.parts
  unfold vcs at hcs
  injection hcs with hcs
  simp only [List.cons.injEq, and_true] at hcs
  obtain ⟨rfl, rfl, rfl, rfl, rfl⟩ := hcs
  generalize (kidsJ d t).getD i (zeroJ (d - 1)) = y at *
  clear HPL hin hks hv hp
  generalize asS (labJ (d - 1) y).2.2.1 = TY at *
  generalize (labJ (d - 1) y).1 = KJ at *
  generalize (labJ (d - 1) y).2.1 = NV at *
  generalize (labJ (d - 1) y).2.2.2.length = m2 at *
  generalize (kidsJ (d - 1) y).length = n2 at *
  generalize (kidsJ d t).length = n at *
  generalize asS nm = NM at *
  have HOW := hid (own_any KJ NV TY kB nB n2 kd m2 nd)
  have HKC : Hid (∀ W, Below w.heap.size w W → W.cell? ⟨q, o + i * 5, none⟩ = some (.int .i64 KJ) ∧ W.cell? ⟨q, o + i * 5 + 1, none⟩ = some (.int .i64 NV) ∧ W.cell? ⟨q, o + i * 5 + 2, none⟩ = some (.string TY) ∧ W.cell? ⟨q, o + i * 5 + 3, none⟩ = some (.slice kB n2 kd) ∧ W.cell? ⟨q, o + i * 5 + 4, none⟩ = some (.slice nB m2 nd)) := fun W hb => ⟨(hb.cell (p := ⟨q, _, none⟩) hq).trans k1, (hb.cell (p := ⟨q, _, none⟩) hq).trans k2, (hb.cell (p := ⟨q, _, none⟩) hq).trans k3, (hb.cell (p := ⟨q, _, none⟩) hq).trans k4, (hb.cell (p := ⟨q, _, none⟩) hq).trans k5⟩
  have hneg : ¬ ((i : Int) < 0) := by omega
  have hii : (i : Int) < (n : Int) := by omega
  have hld := loadV_run HX.out rfl
  clear k1 k2 k3 k4 k5
  go_enter Tryz.func47, Tryz.ntmps47
  go_wp2_with fail
  refine HP2.out.mono ?_
  rintro e W ⟨rfl, hb⟩
  have HB2 := hid (HB.out.trans (hb.mono HB.out.size))
  have HX2 := hid (row_keep hb HX.out)
  obtain ⟨k1, k2, k3, k4, k5⟩ := HKC.out W HB2.out
  have hldq := loadV_mid k1 k2 k3 k4 k5
  have c3 : W.cell? ⟨w.heap.size, 3, none⟩ = some (.slice (some ⟨q, o, none⟩) n kc) := cell_of_row _ _ _ _ _ _ HX2.out
  clear hb hld HP2 HKC k1 k2 k3 k4 k5 HX HX2 HB
  go_wp2_with fail
  refine (HOW.out W).mono ?_
  rintro e W3 ⟨hb3, ⟨rfl, hk2, hk3⟩ | ⟨x, rfl, hx1, hx2, hx3, hx4⟩⟩
  · have HB3 := hid (HB2.out.trans (hb3.mono HB2.out.size))
    exact ⟨rfl, (fun hk => absurd hk hk3), (fun _ => rfl), HB3.out⟩
  · have HB3 := hid (HB2.out.trans (hb3.mono HB2.out.size))
    by_cases hk : KJ = 3
    · have hta := hx1 hk
      unfold As9 at hta
      clear hx1 hx2 hx3 hx4 hb3 hldq c3
      go_wp2_with fail
      go_ret
      exact ⟨(fun _ => rfl), (fun h9 => absurd hk h9), HB3.out⟩
    · have hta := hx2 hk
      unfold As9 at hta
      clear hx1 hx2 hx3 hx4 hb3 hldq c3
      go_wp2_with fail
      exact ⟨rfl, (fun h9 => absurd h9 hk), (fun _ => rfl), HB3.out⟩
set_option maxHeartbeats 4000000 in
set_option maxRecDepth 100000 in
theorem askI_any_no {P : Nat → Prop} {d : Nat} {w : World} {cs : Array Value} {t : VJ d} (h : VAt P d w cs t) (hw : wtJ d t ≤ 100000) (nm : List UInt8) (hp : placeJ d t nm = none) : Calls Tryz.prog 49 #[.agg cs, .string (asS nm)] w fun e w' =>
    e = dieJ 4 ∧ Below w.heap.size w w' := by
  have HPL := hid (fun W (hb : Below w.heap.size w W) => place_any (h.below hb (Nat.le_refl _)) hw nm)
  obtain ⟨kA, kc, nA, nc, rfl, _, hks, hkc⟩ := h.parts
  obtain ⟨_, _, _, w4, _⟩ := wtJ_parts hw
  unfold vcs at HPL ⊢
  clear h hw
  generalize asS (labJ d t).2.2.1 = TX at HPL ⊢
  generalize (labJ d t).1 = KI at HPL ⊢
  generalize (labJ d t).2.1 = NU at HPL ⊢
  generalize (labJ d t).2.2.2.length = m at HPL ⊢
  have HB := hid ((Below.refl w.heap.size w).alloc (Nat.le_refl _) (.cells #[.int .i64 KI, .int .i64 NU, .string TX, .slice kA (kidsJ d t).length kc, .slice nA m nc] 25))
  have HX := hid (heap_alloc_new w (.cells #[.int .i64 KI, .int .i64 NU, .string TX, .slice kA (kidsJ d t).length kc, .slice nA m nc] 25 (0, 0)))
  have HP2 : Hid (Calls Tryz.prog 43 #[.agg #[.int .i64 KI, .int .i64 NU, .string TX, .slice kA (kidsJ d t).length kc, .slice nA m nc], .string (asS nm)] (w.alloc (.cells #[.int .i64 KI, .int .i64 NU, .string TX, .slice kA (kidsJ d t).length kc, .slice nA m nc] 25)) fun e w' => e = .returned (.int .i64 (-1)) ∧ Below (w.alloc (.cells #[.int .i64 KI, .int .i64 NU, .string TX, .slice kA (kidsJ d t).length kc, .slice nA m nc] 25)).heap.size (w.alloc (.cells #[.int .i64 KI, .int .i64 NU, .string TX, .slice kA (kidsJ d t).length kc, .slice nA m nc] 25)) w') := (HPL.out _ HB.out).mono fun e w' hh => ⟨hh.2.1 hp, hh.2.2⟩
  clear HPL hks
  generalize (kidsJ d t).length = n at *
  generalize asS nm = NM at *
  have hld := loadV_run HX.out rfl
  go_enter Tryz.func49, Tryz.ntmps49
  go_wp2_with fail
  refine HP2.out.mono ?_
  rintro e W ⟨rfl, hb⟩
  have HB2 := hid (HB.out.trans (hb.mono HB.out.size))
  clear hb hld HP2
  go_wp2_with fail
  exact ⟨rfl, rfl, HB2.out⟩
set_option maxHeartbeats 4000000 in
set_option maxRecDepth 100000 in
theorem askI_any_at {P : Nat → Prop} {d : Nat} {w : World} {cs : Array Value} {t : VJ d} (h : VAt P d w cs t) (hw : wtJ d t ≤ 100000) (nm : List UInt8) (i : Nat) (hp : placeJ d t nm = some i) : Calls Tryz.prog 49 #[.agg cs, .string (asS nm)] w fun e w' =>
    ((labJ (d - 1) ((kidsJ d t).getD i (zeroJ (d - 1)))).1 = 2 → e = .returned (.int .i64 (labJ (d - 1) ((kidsJ d t).getD i (zeroJ (d - 1)))).2.1)) ∧ ((labJ (d - 1) ((kidsJ d t).getD i (zeroJ (d - 1)))).1 ≠ 2 → e = dieJ 1) ∧ Below w.heap.size w w' := by
  have HPL := hid (fun W (hb : Below w.heap.size w W) => place_any (h.below hb (Nat.le_refl _)) hw nm)
  obtain ⟨kA, kc, nA, nc, rfl, _, hks, hkc⟩ := h.parts
  obtain ⟨_, _, _, w4, _⟩ := wtJ_parts hw
  have hin : ∀ i, placeJ d t nm = some i → i < (kidsJ d t).length := fun i hp => by
    unfold placeJ at hp
    split at hp
    · rename_i h3
      injection hp with hp
      omega
    · cases hp
  unfold vcs at HPL ⊢
  clear h hw
  generalize asS (labJ d t).2.2.1 = TX at HPL ⊢
  generalize (labJ d t).1 = KI at HPL ⊢
  generalize (labJ d t).2.1 = NU at HPL ⊢
  generalize (labJ d t).2.2.2.length = m at HPL ⊢
  have HB := hid ((Below.refl w.heap.size w).alloc (Nat.le_refl _) (.cells #[.int .i64 KI, .int .i64 NU, .string TX, .slice kA (kidsJ d t).length kc, .slice nA m nc] 25))
  have HX := hid (heap_alloc_new w (.cells #[.int .i64 KI, .int .i64 NU, .string TX, .slice kA (kidsJ d t).length kc, .slice nA m nc] 25 (0, 0)))
  have hi := hin i hp
  have HP2 : Hid (Calls Tryz.prog 43 #[.agg #[.int .i64 KI, .int .i64 NU, .string TX, .slice kA (kidsJ d t).length kc, .slice nA m nc], .string (asS nm)] (w.alloc (.cells #[.int .i64 KI, .int .i64 NU, .string TX, .slice kA (kidsJ d t).length kc, .slice nA m nc] 25)) fun e w' => e = .returned (.int .i64 i) ∧ Below (w.alloc (.cells #[.int .i64 KI, .int .i64 NU, .string TX, .slice kA (kidsJ d t).length kc, .slice nA m nc] 25)).heap.size (w.alloc (.cells #[.int .i64 KI, .int .i64 NU, .string TX, .slice kA (kidsJ d t).length kc, .slice nA m nc] 25)) w') := (HPL.out _ HB.out).mono fun e w' hh => ⟨hh.1 i hp, hh.2.2⟩
  obtain ⟨q, o, a, b, c, e0, f, rfl, hq, k1, k2, k3, k4, k5, hv⟩ := hks.at i hi
  obtain ⟨kB, kd, nB, nd, hcs, _⟩ := hv.parts
  unfold vcs at hcs
  injection hcs with hcs
  simp only [List.cons.injEq, and_true] at hcs
  obtain ⟨rfl, rfl, rfl, rfl, rfl⟩ := hcs
  generalize (kidsJ d t).getD i (zeroJ (d - 1)) = y at *
  clear HPL hin hks hv hp
  generalize asS (labJ (d - 1) y).2.2.1 = TY at *
  generalize (labJ (d - 1) y).1 = KJ at *
  generalize (labJ (d - 1) y).2.1 = NV at *
  generalize (labJ (d - 1) y).2.2.2.length = m2 at *
  generalize (kidsJ (d - 1) y).length = n2 at *
  generalize (kidsJ d t).length = n at *
  generalize asS nm = NM at *
  have HOW := hid (own_any KJ NV TY kB nB n2 kd m2 nd)
  have HKC : Hid (∀ W, Below w.heap.size w W → W.cell? ⟨q, o + i * 5, none⟩ = some (.int .i64 KJ) ∧ W.cell? ⟨q, o + i * 5 + 1, none⟩ = some (.int .i64 NV) ∧ W.cell? ⟨q, o + i * 5 + 2, none⟩ = some (.string TY) ∧ W.cell? ⟨q, o + i * 5 + 3, none⟩ = some (.slice kB n2 kd) ∧ W.cell? ⟨q, o + i * 5 + 4, none⟩ = some (.slice nB m2 nd)) := fun W hb => ⟨(hb.cell (p := ⟨q, _, none⟩) hq).trans k1, (hb.cell (p := ⟨q, _, none⟩) hq).trans k2, (hb.cell (p := ⟨q, _, none⟩) hq).trans k3, (hb.cell (p := ⟨q, _, none⟩) hq).trans k4, (hb.cell (p := ⟨q, _, none⟩) hq).trans k5⟩
  have hneg : ¬ ((i : Int) < 0) := by omega
  have hii : (i : Int) < (n : Int) := by omega
  have hld := loadV_run HX.out rfl
  clear k1 k2 k3 k4 k5
  go_enter Tryz.func49, Tryz.ntmps49
  go_wp2_with fail
  refine HP2.out.mono ?_
  rintro e W ⟨rfl, hb⟩
  have HB2 := hid (HB.out.trans (hb.mono HB.out.size))
  have HX2 := hid (row_keep hb HX.out)
  obtain ⟨k1, k2, k3, k4, k5⟩ := HKC.out W HB2.out
  have hldq := loadV_mid k1 k2 k3 k4 k5
  have c3 : W.cell? ⟨w.heap.size, 3, none⟩ = some (.slice (some ⟨q, o, none⟩) n kc) := cell_of_row _ _ _ _ _ _ HX2.out
  clear hb hld HP2 HKC k1 k2 k3 k4 k5 HX HX2 HB
  go_wp2_with fail
  refine (HOW.out W).mono ?_
  rintro e W3 ⟨hb3, ⟨rfl, hk2, hk3⟩ | ⟨x, rfl, hx1, hx2, hx3, hx4⟩⟩
  · have HB3 := hid (HB2.out.trans (hb3.mono HB2.out.size))
    exact ⟨rfl, (fun hk => absurd hk hk2), (fun _ => rfl), HB3.out⟩
  · have HB3 := hid (HB2.out.trans (hb3.mono HB2.out.size))
    by_cases hk : KJ = 2
    · have hta := hx3 hk
      unfold As2 at hta
      clear hx1 hx2 hx3 hx4 hb3 hldq c3
      go_wp2_with fail
      go_ret
      exact ⟨(fun _ => rfl), (fun h9 => absurd hk h9), HB3.out⟩
    · have hta := hx4 hk
      unfold As2 at hta
      clear hx1 hx2 hx3 hx4 hb3 hldq c3
      go_wp2_with fail
      exact ⟨rfl, (fun h9 => absurd h9 hk), (fun _ => rfl), HB3.out⟩
end Go.Proofs.YtlgkbdebpnbndaaGreatDoor
