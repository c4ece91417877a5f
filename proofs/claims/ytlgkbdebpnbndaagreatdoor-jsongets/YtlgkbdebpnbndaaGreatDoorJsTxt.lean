
/- An object's texts and numbers by their names: Text, Number. -/
import Derived.Test.YtlgkbdebpnbndaaGreatDoorJsAsk
namespace Go.Proofs.YtlgkbdebpnbndaaGreatDoor
set_option linter.unusedVariables false
set_option linter.unusedSimpArgs false
open Go.RowKit Go.BigFrame
attribute [local go_sem ↓] loadV_eq

/-- The value of a name. -/
def kidAt (d : Nat) (t : VJ d) (i : Nat) : VJ (d - 1) := (kidsJ d t).getD i (zeroJ (d - 1))
/-- Why an object has none of that kind. -/
def errJ (k : Int) (d : Nat) (t : VJ d) (nm : List UInt8) : Nat := match placeJ d t nm with
  | none => 4
  | some i => if (labJ (d - 1) (kidAt d t i)).1 = k then 0 else 1
def txtJ (d : Nat) (t : VJ d) (nm : List UInt8) : List UInt8 := match placeJ d t nm with
  | none => []
  | some i => if (labJ (d - 1) (kidAt d t i)).1 = 3 then (labJ (d - 1) (kidAt d t i)).2.2.1 else []
def numberJ (d : Nat) (t : VJ d) (nm : List UInt8) : Int := match placeJ d t nm with
  | none => 0
  | some i => if (labJ (d - 1) (kidAt d t i)).1 = 2 then (labJ (d - 1) (kidAt d t i)).2.1 else 0
theorem askS_two {P : Nat → Prop} {d : Nat} {w : World} {cs : Array Value} {t : VJ d} (h : VAt P d w cs t) (hw : wtJ d t ≤ 100000) (nm : List UInt8) : Calls Tryz.prog 47 #[.agg cs, .string (asS nm)] w fun e w' =>
    (errJ 3 d t nm = 0 → e = .returned (.string (asS (txtJ d t nm)))) ∧ (errJ 3 d t nm ≠ 0 → e = dieJ (errJ 3 d t nm)) ∧ Below w.heap.size w w' := by
  cases hp : placeJ d t nm with
  | none =>
    have e1 : errJ 3 d t nm = 4 := by unfold errJ; rw [hp]
    rw [e1]
    exact (askS_any_no h hw nm hp).mono fun e w' hh => ⟨fun h => absurd h (by decide), fun _ => hh.1, hh.2⟩
  | some i =>
    have e1 : errJ 3 d t nm = if (labJ (d - 1) (kidAt d t i)).1 = 3 then 0 else 1 := by unfold errJ; rw [hp]
    refine (askS_any_at h hw nm i hp).mono fun e w' hh => ?_
    by_cases hk : (labJ (d - 1) (kidAt d t i)).1 = 3
    · have e2 : txtJ d t nm = (labJ (d - 1) (kidAt d t i)).2.2.1 := by unfold txtJ; rw [hp]; exact if_pos hk
      rw [e1, e2, if_pos hk]
      exact ⟨fun _ => hh.1 hk, fun h => absurd rfl h, hh.2.2⟩
    · rw [e1, if_neg hk]
      exact ⟨fun h => absurd h (by decide), fun _ => hh.2.1 hk, hh.2.2⟩
theorem askI_two {P : Nat → Prop} {d : Nat} {w : World} {cs : Array Value} {t : VJ d} (h : VAt P d w cs t) (hw : wtJ d t ≤ 100000) (nm : List UInt8) : Calls Tryz.prog 49 #[.agg cs, .string (asS nm)] w fun e w' =>
    (errJ 2 d t nm = 0 → e = .returned (.int .i64 (numberJ d t nm))) ∧ (errJ 2 d t nm ≠ 0 → e = dieJ (errJ 2 d t nm)) ∧ Below w.heap.size w w' := by
  cases hp : placeJ d t nm with
  | none =>
    have e1 : errJ 2 d t nm = 4 := by unfold errJ; rw [hp]
    rw [e1]
    exact (askI_any_no h hw nm hp).mono fun e w' hh => ⟨fun h => absurd h (by decide), fun _ => hh.1, hh.2⟩
  | some i =>
    have e1 : errJ 2 d t nm = if (labJ (d - 1) (kidAt d t i)).1 = 2 then 0 else 1 := by unfold errJ; rw [hp]
    refine (askI_any_at h hw nm i hp).mono fun e w' hh => ?_
    by_cases hk : (labJ (d - 1) (kidAt d t i)).1 = 2
    · have e2 : numberJ d t nm = (labJ (d - 1) (kidAt d t i)).2.1 := by unfold numberJ; rw [hp]; exact if_pos hk
      rw [e1, e2, if_pos hk]
      exact ⟨fun _ => hh.1 hk, fun h => absurd rfl h, hh.2.2⟩
    · rw [e1, if_neg hk]
      exact ⟨fun h => absurd h (by decide), fun _ => hh.2.1 hk, hh.2.2⟩
theorem txt_len {d : Nat} {t : VJ d} {nm : List UInt8} (hw : wtJ d t ≤ 100000) : (txtJ d t nm).length ≤ 100000 := by
  unfold txtJ
  cases hp : placeJ d t nm with
  | none => simp
  | some i =>
    by_cases hk : (labJ (d - 1) (kidAt d t i)).1 = 3
    · simp only [if_pos hk]
      unfold placeJ at hp
      split at hp
      · rename_i h3
        injection hp with hp
        have hin : i < (kidsJ d t).length := by omega
        exact (wtJ_parts ((wtJ_parts hw).2.2.2.2 _ (getD_mem9 (z := zeroJ (d - 1)) hin))).1
      · cases hp
    · simp only [if_neg hk]
      simp
theorem below_three (w : World) (a b c : _) : Below w.heap.size w (((w.alloc a).alloc b).alloc c) := by
  have h1 := (Below.refl w.heap.size w).alloc (Nat.le_refl _) a
  have h2 := h1.alloc h1.size b
  exact h2.alloc h2.size c
theorem info2j : (Tryz.prog.info? 2).map (·.size) = some 1 := by kernel_rfl
set_option maxHeartbeats 4000000 in
set_option maxRecDepth 100000 in
theorem textC_any {P : Nat → Prop} {d : Nat} {t : VJ d} (hw : wtJ d t ≤ 100000) (nm : List UInt8) (cs : Array Value) (b1 b2 S : Nat) (w : World) (h : VAt P d w cs t) (h1 : w.heap[b1]? = some (.cells cs 25 (0, 0))) (h2 : w.cell? ⟨b2, 0, none⟩ = some (.string (asS nm))) (h3 : w.heap[S]? = some (.cells #[.string ⟨#[]⟩] 9 (0, 0))) :
    Calls Tryz.prog 45 #[.pointer (some ⟨b1, 0, none⟩), .pointer (some ⟨b2, 0, none⟩), .pointer (some ⟨S, 0, none⟩)] w fun e w' => (errJ 3 d t nm = 0 → e = .returned (.tuple #[]) ∧ w'.heap[S]? = some (.cells #[.string (asS (txtJ d t nm))] 9 (0, 0))) ∧ (errJ 3 d t nm ≠ 0 → e = dieJ (errJ 3 d t nm) ∧ w'.heap[S]? = some (.cells #[.string ⟨#[]⟩] 9 (0, 0))) ∧ w.grownBy w' (some S) := by
  have HAS := hid (askS_two h hw nm)
  have hld := loadV_run h1 h.size
  have hSl : S < w.heap.size := (Array.getElem?_eq_some_iff.1 h3).1
  have H3 := hid h3
  have HCL := hid (clone8 (asS (txtJ d t nm)) (by rw [asS_size]; have := txt_len (nm := nm) hw; omega))
  obtain ⟨a0, a1, a2, a3, a4, hcs⟩ : ∃ a b c e f, cs = #[a, b, c, e, f] := by
    obtain ⟨kA, kc, nA, nc, e1, _⟩ := h.parts
    exact ⟨_, _, _, _, _, e1⟩
  subst hcs
  clear h h1 h3 hw
  generalize asS nm = NM at *
  generalize hE : errJ 3 d t nm = E at *
  generalize asS (txtJ d t nm) = V at *
  by_cases h0 : E = 0
  · have HA2 : Hid (Calls Tryz.prog 47 #[.agg #[a0, a1, a2, a3, a4], .string NM] w fun e w' => e = .returned (.string V) ∧ Below w.heap.size w w') := HAS.out.mono fun e w' hh => ⟨hh.1 h0, hh.2.2⟩
    suffices HQ : Calls Tryz.prog 45 #[.pointer (some ⟨b1, 0, none⟩), .pointer (some ⟨b2, 0, none⟩), .pointer (some ⟨S, 0, none⟩)] w fun e w' => e = .returned (.tuple #[]) ∧ w'.heap[S]? = some (.cells #[.string V] 9 (0, 0)) ∧ w.grownBy w' (some S) from HQ.mono fun e w' hh => ⟨fun _ => ⟨hh.1, hh.2.1⟩, fun h => absurd h0 h, hh.2.2⟩
    clear HAS hE h0
    go_enter Tryz.func45, Tryz.ntmps45
    go_wp2_with fail
    refine HA2.out.mono ?_
    rintro e W ⟨rfl, hb⟩
    have HB := hid hb
    have HS := hid (row_keep hb H3.out)
    clear hb hld HA2
    go_wp2_with fail
    refine (HCL.out W).mono ?_
    rintro e W2 ⟨rfl, hb⟩
    have HB := hid (HB.out.trans (hb.mono HB.out.size))
    have HS := hid (row_keep hb HS.out)
    clear hb
    go_wp2_with (first
      | (refine store_part rfl 9 _ _ rfl S 0 (.string V) _ #[.string ⟨#[]⟩] #[.string V] rfl rfl info9j (by simp) rfl rfl HS.out rfl ?_; intro W9 ho hr; have HO := hid ho; have HR := hid hr; clear ho hr)
      | fail)
    exact ⟨by simp, _, results_none rfl _ _ _, rfl, HR.out, (to_below HB.out).trans (to_only HO.out)⟩
  · have HA2 : Hid (Calls Tryz.prog 47 #[.agg #[a0, a1, a2, a3, a4], .string NM] w fun e w' => e = dieJ E ∧ Below w.heap.size w w') := HAS.out.mono fun e w' hh => ⟨hh.2.1 h0, hh.2.2⟩
    suffices HQ : Calls Tryz.prog 45 #[.pointer (some ⟨b1, 0, none⟩), .pointer (some ⟨b2, 0, none⟩), .pointer (some ⟨S, 0, none⟩)] w fun e w' => e = dieJ E ∧ w'.heap[S]? = some (.cells #[.string ⟨#[]⟩] 9 (0, 0)) ∧ w.grownBy w' (some S) from HQ.mono fun e w' hh => ⟨fun h => absurd h h0, fun _ => ⟨hh.1, hh.2.1⟩, hh.2.2⟩
    clear HAS hE h0
    go_enter Tryz.func45, Tryz.ntmps45
    go_wp2_with fail
    refine HA2.out.mono ?_
    rintro e W ⟨rfl, hb⟩
    exact ⟨rfl, rfl, row_keep hb H3.out, to_below hb⟩
set_option maxHeartbeats 4000000 in
set_option maxRecDepth 100000 in
theorem text_any {P : Nat → Prop} {d : Nat} {t : VJ d} (hw : wtJ d t ≤ 100000) (nm : List UInt8) (cs : Array Value) (w : World) (h : VAt P d w cs t) : Calls Tryz.prog 20 #[.agg cs, .string (asS nm)] w fun e w' => e = .returned (.tuple #[.string (asS (txtJ d t nm)), .int .i64 (errJ 3 d t nm : Nat)]) ∧ Below w.heap.size w w' := by
  have hmf : ∀ (fn : Fn) (first cap : Array Value) (w : World), (Instr.makeFunc fn first cap).run Tryz.prog w = .ok (.func fn first cap) w := fun _ _ _ _ => rfl
  have HCC := hid (fun (W : World) (b1 b2 S : Nat) (hb : Below w.heap.size w W) => textC_any (P := P) hw nm cs b1 b2 S W (h.below hb (Nat.le_refl _)))
  have HEN := hid (enters_of Tryz.func45 (by kernel_rfl) rfl)
  have hz := h.size
  obtain ⟨a0, a1, a2, a3, a4, hcs⟩ : ∃ a b c e f, cs = #[a, b, c, e, f] := by
    obtain ⟨kA, kc, nA, nc, e1, _⟩ := h.parts
    exact ⟨_, _, _, _, _, e1⟩
  subst hcs
  have HZ : Hid (errJ 3 d t nm ≠ 0 → asS (txtJ d t nm) = ⟨#[]⟩) := fun h0 => by
    unfold errJ at h0
    unfold txtJ
    cases hp : placeJ d t nm with
    | none => rfl
    | some i =>
      rw [hp] at h0
      simp only at h0 ⊢
      by_cases hk : (labJ (d - 1) (kidAt d t i)).1 = 3
      · rw [if_pos hk] at h0
        exact absurd rfl h0
      · rw [if_neg hk]
        rfl
  clear h hw
  generalize asS nm = NM at *
  generalize hE : errJ 3 d t nm = E at *
  generalize asS (txtJ d t nm) = V at *
  obtain ⟨W0, hW0⟩ : ∃ W0, ((w.alloc (.cells #[a0, a1, a2, a3, a4] 25)).alloc (.cells #[.string NM] 9)).alloc (.cells #[.string ⟨#[]⟩] 9) = W0 := ⟨_, rfl⟩
  have HB0 : Hid (Below w.heap.size w W0) := by rw [← hW0]; exact below_three _ _ _ _
  have hs0 : W0.heap.size = w.heap.size + 3 := by rw [← hW0]; simp
  have H1 : Hid (W0.heap[w.heap.size]? = some (.cells #[a0, a1, a2, a3, a4] 25 (0, 0))) := by show _ = _; rw [← hW0]; exact (Below.heap_alloc _ _ _ (by simp; omega)).trans (heap_first w _ _)
  have H2 : Hid (W0.heap[w.heap.size + 1]? = some (.cells #[.string NM] 9 (0, 0))) := by show _ = _; rw [← hW0]; exact (Below.heap_alloc _ _ _ (by simp)).trans (heap_second w _ _)
  have H3 : Hid (W0.heap[w.heap.size + 2]? = some (.cells #[.string ⟨#[]⟩] 9 (0, 0))) := by
    show _ = _
    rw [← hW0]
    have := heap_alloc_new ((w.alloc (.cells #[a0, a1, a2, a3, a4] 25)).alloc (.cells #[.string NM] 9)) (.cells #[.string ⟨#[]⟩] 9 (0, 0))
    rwa [show ((w.alloc (.cells #[a0, a1, a2, a3, a4] 25)).alloc (.cells #[.string NM] 9)).heap.size = w.heap.size + 2 from by simp] at this
  have HBE := hid ((Below.refl W0.heap.size W0).alloc (Nat.le_refl _) (.cells #[.int .i64 0] 28))
  have HNE := hid (heap_alloc_new W0 (.cells #[.int .i64 0] 28 (0, 0)))
  have HBW := hid (HB0.out.trans (HBE.out.mono HB0.out.size))
  have HC := hid (HCC.out (W0.alloc (.cells #[.int .i64 0] 28)) w.heap.size (w.heap.size + 1) (w.heap.size + 2) HBW.out (row_keep HBE.out H1.out) (cell_of_row _ _ _ _ _ _ (row_keep HBE.out H2.out)) (row_keep HBE.out H3.out))
  clear HCC H1 H2 H3
  by_cases h0 : E = 0
  · subst h0
    have HCA : Hid (Calls Tryz.prog 23 #[.func (.func 45) #[] #[.pointer (some ⟨w.heap.size, 0, none⟩), .pointer (some ⟨w.heap.size + 1, 0, none⟩), .pointer (some ⟨w.heap.size + 2, 0, none⟩)]] W0 fun e w' => e = .returned (.int .i64 0) ∧ ∃ w1, (w1.heap[w.heap.size + 2]? = some (.cells #[.string V] 9 (0, 0)) ∧ (W0.alloc (.cells #[.int .i64 0] 28)).grownBy w1 (some (w.heap.size + 2))) ∧ Only W0.heap.size w1 w') :=
      caught_fine _ _ W0 HEN.out (HC.out.mono fun e w' hh => ⟨(hh.1 rfl).1, (hh.1 rfl).2, hh.2.2⟩) (fun w' hr => to_row hr.2 HNE.out (by omega))
    clear HC
    go_enter Tryz.func20, Tryz.ntmps20
    go_wp2_with fail
    refine HCA.out.mono ?_
    rintro e W5 ⟨rfl, w1, ⟨hv1, hg1⟩, ho⟩
    have c0 : W5.cell? ⟨w.heap.size + 2, 0, none⟩ = some (.string V) := cell_of_row _ _ _ _ _ _ ((ho.block (w.heap.size + 2) (by omega)).trans hv1)
    have HB5 := hid ((HBW.out.trans ((to_cut hg1 (by have := HBE.out.size; omega) (Nat.le_refl _)).mono (by omega : w.heap.size ≤ w.heap.size + 2))).trans (ho.below (by omega)))
    clear hv1 hg1 ho HCA
    go_wp2_with fail
    go_ret2
    exact ⟨rfl, HB5.out⟩
  · have HCA : Hid (Calls Tryz.prog 23 #[.func (.func 45) #[] #[.pointer (some ⟨w.heap.size, 0, none⟩), .pointer (some ⟨w.heap.size + 1, 0, none⟩), .pointer (some ⟨w.heap.size + 2, 0, none⟩)]] W0 fun e w' => e = .returned (.int .i64 E) ∧ ∃ w1, (w1.heap[w.heap.size + 2]? = some (.cells #[.string ⟨#[]⟩] 9 (0, 0)) ∧ (W0.alloc (.cells #[.int .i64 0] 28)).grownBy w1 (some (w.heap.size + 2))) ∧ Only W0.heap.size w1 w') :=
      caught_died _ _ E W0 HEN.out (HC.out.mono fun e w' hh => ⟨(hh.2.1 h0).1, (hh.2.1 h0).2, hh.2.2⟩) (fun w' hr => to_row hr.2 HNE.out (by omega))
    have HZ2 := hid (HZ.out h0)
    clear HC
    go_enter Tryz.func20, Tryz.ntmps20
    go_wp2_with fail
    refine HCA.out.mono ?_
    rintro e W5 ⟨rfl, w1, ⟨hv1, hg1⟩, ho⟩
    have c0 : W5.cell? ⟨w.heap.size + 2, 0, none⟩ = some (.string ⟨#[]⟩) := cell_of_row _ _ _ _ _ _ ((ho.block (w.heap.size + 2) (by omega)).trans hv1)
    have HB5 := hid ((HBW.out.trans ((to_cut hg1 (by have := HBE.out.size; omega) (Nat.le_refl _)).mono (by omega : w.heap.size ≤ w.heap.size + 2))).trans (ho.below (by omega)))
    clear hv1 hg1 ho HCA
    go_wp2_with fail
    go_ret2
    exact ⟨by rw [HZ2.out]; rfl, HB5.out⟩
set_option maxHeartbeats 4000000 in
set_option maxRecDepth 100000 in
theorem numbC_any {P : Nat → Prop} {d : Nat} {t : VJ d} (hw : wtJ d t ≤ 100000) (nm : List UInt8) (cs : Array Value) (b1 b2 S : Nat) (w : World) (h : VAt P d w cs t) (h1 : w.heap[b1]? = some (.cells cs 25 (0, 0))) (h2 : w.cell? ⟨b2, 0, none⟩ = some (.string (asS nm))) (h3 : w.heap[S]? = some (.cells #[.int .i64 0] 2 (0, 0))) :
    Calls Tryz.prog 48 #[.pointer (some ⟨b1, 0, none⟩), .pointer (some ⟨b2, 0, none⟩), .pointer (some ⟨S, 0, none⟩)] w fun e w' => (errJ 2 d t nm = 0 → e = .returned (.tuple #[]) ∧ w'.heap[S]? = some (.cells #[.int .i64 (numberJ d t nm)] 2 (0, 0))) ∧ (errJ 2 d t nm ≠ 0 → e = dieJ (errJ 2 d t nm) ∧ w'.heap[S]? = some (.cells #[.int .i64 0] 2 (0, 0))) ∧ w.grownBy w' (some S) := by
  have HAS := hid (askI_two h hw nm)
  have hld := loadV_run h1 h.size
  have hSl : S < w.heap.size := (Array.getElem?_eq_some_iff.1 h3).1
  have H3 := hid h3
  obtain ⟨a0, a1, a2, a3, a4, hcs⟩ : ∃ a b c e f, cs = #[a, b, c, e, f] := by
    obtain ⟨kA, kc, nA, nc, e1, _⟩ := h.parts
    exact ⟨_, _, _, _, _, e1⟩
  subst hcs
  clear h h1 h3 hw
  generalize asS nm = NM at *
  generalize hE : errJ 2 d t nm = E at *
  generalize numberJ d t nm = V at *
  by_cases h0 : E = 0
  · have HA2 : Hid (Calls Tryz.prog 49 #[.agg #[a0, a1, a2, a3, a4], .string NM] w fun e w' => e = .returned (.int .i64 V) ∧ Below w.heap.size w w') := HAS.out.mono fun e w' hh => ⟨hh.1 h0, hh.2.2⟩
    suffices HQ : Calls Tryz.prog 48 #[.pointer (some ⟨b1, 0, none⟩), .pointer (some ⟨b2, 0, none⟩), .pointer (some ⟨S, 0, none⟩)] w fun e w' => e = .returned (.tuple #[]) ∧ w'.heap[S]? = some (.cells #[.int .i64 V] 2 (0, 0)) ∧ w.grownBy w' (some S) from HQ.mono fun e w' hh => ⟨fun _ => ⟨hh.1, hh.2.1⟩, fun h => absurd h0 h, hh.2.2⟩
    clear HAS hE h0
    go_enter Tryz.func48, Tryz.ntmps48
    go_wp2_with fail
    refine HA2.out.mono ?_
    rintro e W ⟨rfl, hb⟩
    have HB := hid hb
    have HS := hid (row_keep hb H3.out)
    clear hb hld HA2
    go_wp2_with (first
      | (refine store_part rfl 2 _ _ rfl S 0 (.int .i64 V) _ #[.int .i64 0] #[.int .i64 V] rfl rfl info2j (by simp) rfl rfl HS.out rfl ?_; intro W9 ho hr; have HO := hid ho; have HR := hid hr; clear ho hr)
      | fail)
    exact ⟨by simp, _, results_none rfl _ _ _, rfl, HR.out, (to_below HB.out).trans (to_only HO.out)⟩
  · have HA2 : Hid (Calls Tryz.prog 49 #[.agg #[a0, a1, a2, a3, a4], .string NM] w fun e w' => e = dieJ E ∧ Below w.heap.size w w') := HAS.out.mono fun e w' hh => ⟨hh.2.1 h0, hh.2.2⟩
    suffices HQ : Calls Tryz.prog 48 #[.pointer (some ⟨b1, 0, none⟩), .pointer (some ⟨b2, 0, none⟩), .pointer (some ⟨S, 0, none⟩)] w fun e w' => e = dieJ E ∧ w'.heap[S]? = some (.cells #[.int .i64 0] 2 (0, 0)) ∧ w.grownBy w' (some S) from HQ.mono fun e w' hh => ⟨fun h => absurd h h0, fun _ => ⟨hh.1, hh.2.1⟩, hh.2.2⟩
    clear HAS hE h0
    go_enter Tryz.func48, Tryz.ntmps48
    go_wp2_with fail
    refine HA2.out.mono ?_
    rintro e W ⟨rfl, hb⟩
    exact ⟨rfl, rfl, row_keep hb H3.out, to_below hb⟩
set_option maxHeartbeats 4000000 in
set_option maxRecDepth 100000 in
theorem numb_any {P : Nat → Prop} {d : Nat} {t : VJ d} (hw : wtJ d t ≤ 100000) (nm : List UInt8) (cs : Array Value) (w : World) (h : VAt P d w cs t) : Calls Tryz.prog 21 #[.agg cs, .string (asS nm)] w fun e w' => e = .returned (.tuple #[.int .i64 (numberJ d t nm), .int .i64 (errJ 2 d t nm : Nat)]) ∧ Below w.heap.size w w' := by
  have hmf : ∀ (fn : Fn) (first cap : Array Value) (w : World), (Instr.makeFunc fn first cap).run Tryz.prog w = .ok (.func fn first cap) w := fun _ _ _ _ => rfl
  have HCC := hid (fun (W : World) (b1 b2 S : Nat) (hb : Below w.heap.size w W) => numbC_any (P := P) hw nm cs b1 b2 S W (h.below hb (Nat.le_refl _)))
  have HEN := hid (enters_of Tryz.func48 (by kernel_rfl) rfl)
  have hz := h.size
  obtain ⟨a0, a1, a2, a3, a4, hcs⟩ : ∃ a b c e f, cs = #[a, b, c, e, f] := by
    obtain ⟨kA, kc, nA, nc, e1, _⟩ := h.parts
    exact ⟨_, _, _, _, _, e1⟩
  subst hcs
  have HZ : Hid (errJ 2 d t nm ≠ 0 → numberJ d t nm = 0) := fun h0 => by
    unfold errJ at h0
    unfold numberJ
    cases hp : placeJ d t nm with
    | none => rfl
    | some i =>
      rw [hp] at h0
      simp only at h0 ⊢
      by_cases hk : (labJ (d - 1) (kidAt d t i)).1 = 2
      · rw [if_pos hk] at h0
        exact absurd rfl h0
      · rw [if_neg hk]
  clear h hw
  generalize asS nm = NM at *
  generalize hE : errJ 2 d t nm = E at *
  generalize numberJ d t nm = V at *
  obtain ⟨W0, hW0⟩ : ∃ W0, ((w.alloc (.cells #[a0, a1, a2, a3, a4] 25)).alloc (.cells #[.string NM] 9)).alloc (.cells #[.int .i64 0] 2) = W0 := ⟨_, rfl⟩
  have HB0 : Hid (Below w.heap.size w W0) := by rw [← hW0]; exact below_three _ _ _ _
  have hs0 : W0.heap.size = w.heap.size + 3 := by rw [← hW0]; simp
  have H1 : Hid (W0.heap[w.heap.size]? = some (.cells #[a0, a1, a2, a3, a4] 25 (0, 0))) := by show _ = _; rw [← hW0]; exact (Below.heap_alloc _ _ _ (by simp; omega)).trans (heap_first w _ _)
  have H2 : Hid (W0.heap[w.heap.size + 1]? = some (.cells #[.string NM] 9 (0, 0))) := by show _ = _; rw [← hW0]; exact (Below.heap_alloc _ _ _ (by simp)).trans (heap_second w _ _)
  have H3 : Hid (W0.heap[w.heap.size + 2]? = some (.cells #[.int .i64 0] 2 (0, 0))) := by
    show _ = _
    rw [← hW0]
    have := heap_alloc_new ((w.alloc (.cells #[a0, a1, a2, a3, a4] 25)).alloc (.cells #[.string NM] 9)) (.cells #[.int .i64 0] 2 (0, 0))
    rwa [show ((w.alloc (.cells #[a0, a1, a2, a3, a4] 25)).alloc (.cells #[.string NM] 9)).heap.size = w.heap.size + 2 from by simp] at this
  have HBE := hid ((Below.refl W0.heap.size W0).alloc (Nat.le_refl _) (.cells #[.int .i64 0] 28))
  have HNE := hid (heap_alloc_new W0 (.cells #[.int .i64 0] 28 (0, 0)))
  have HBW := hid (HB0.out.trans (HBE.out.mono HB0.out.size))
  have HC := hid (HCC.out (W0.alloc (.cells #[.int .i64 0] 28)) w.heap.size (w.heap.size + 1) (w.heap.size + 2) HBW.out (row_keep HBE.out H1.out) (cell_of_row _ _ _ _ _ _ (row_keep HBE.out H2.out)) (row_keep HBE.out H3.out))
  clear HCC H1 H2 H3
  by_cases h0 : E = 0
  · subst h0
    have HCA : Hid (Calls Tryz.prog 23 #[.func (.func 48) #[] #[.pointer (some ⟨w.heap.size, 0, none⟩), .pointer (some ⟨w.heap.size + 1, 0, none⟩), .pointer (some ⟨w.heap.size + 2, 0, none⟩)]] W0 fun e w' => e = .returned (.int .i64 0) ∧ ∃ w1, (w1.heap[w.heap.size + 2]? = some (.cells #[.int .i64 V] 2 (0, 0)) ∧ (W0.alloc (.cells #[.int .i64 0] 28)).grownBy w1 (some (w.heap.size + 2))) ∧ Only W0.heap.size w1 w') :=
      caught_fine _ _ W0 HEN.out (HC.out.mono fun e w' hh => ⟨(hh.1 rfl).1, (hh.1 rfl).2, hh.2.2⟩) (fun w' hr => to_row hr.2 HNE.out (by omega))
    clear HC
    go_enter Tryz.func21, Tryz.ntmps21
    go_wp2_with fail
    refine HCA.out.mono ?_
    rintro e W5 ⟨rfl, w1, ⟨hv1, hg1⟩, ho⟩
    have c0 : W5.cell? ⟨w.heap.size + 2, 0, none⟩ = some (.int .i64 V) := cell_of_row _ _ _ _ _ _ ((ho.block (w.heap.size + 2) (by omega)).trans hv1)
    have HB5 := hid ((HBW.out.trans ((to_cut hg1 (by have := HBE.out.size; omega) (Nat.le_refl _)).mono (by omega : w.heap.size ≤ w.heap.size + 2))).trans (ho.below (by omega)))
    clear hv1 hg1 ho HCA
    go_wp2_with fail
    go_ret2
    exact ⟨rfl, HB5.out⟩
  · have HCA : Hid (Calls Tryz.prog 23 #[.func (.func 48) #[] #[.pointer (some ⟨w.heap.size, 0, none⟩), .pointer (some ⟨w.heap.size + 1, 0, none⟩), .pointer (some ⟨w.heap.size + 2, 0, none⟩)]] W0 fun e w' => e = .returned (.int .i64 E) ∧ ∃ w1, (w1.heap[w.heap.size + 2]? = some (.cells #[.int .i64 0] 2 (0, 0)) ∧ (W0.alloc (.cells #[.int .i64 0] 28)).grownBy w1 (some (w.heap.size + 2))) ∧ Only W0.heap.size w1 w') :=
      caught_died _ _ E W0 HEN.out (HC.out.mono fun e w' hh => ⟨(hh.2.1 h0).1, (hh.2.1 h0).2, hh.2.2⟩) (fun w' hr => to_row hr.2 HNE.out (by omega))
    have HZ2 := hid (HZ.out h0)
    clear HC
    go_enter Tryz.func21, Tryz.ntmps21
    go_wp2_with fail
    refine HCA.out.mono ?_
    rintro e W5 ⟨rfl, w1, ⟨hv1, hg1⟩, ho⟩
    have c0 : W5.cell? ⟨w.heap.size + 2, 0, none⟩ = some (.int .i64 0) := cell_of_row _ _ _ _ _ _ ((ho.block (w.heap.size + 2) (by omega)).trans hv1)
    have HB5 := hid ((HBW.out.trans ((to_cut hg1 (by have := HBE.out.size; omega) (Nat.le_refl _)).mono (by omega : w.heap.size ≤ w.heap.size + 2))).trans (ho.below (by omega)))
    clear hv1 hg1 ho HCA
    go_wp2_with fail
    go_ret2
    exact ⟨by rw [HZ2.out]; rfl, HB5.out⟩
end Go.Proofs.YtlgkbdebpnbndaaGreatDoor
