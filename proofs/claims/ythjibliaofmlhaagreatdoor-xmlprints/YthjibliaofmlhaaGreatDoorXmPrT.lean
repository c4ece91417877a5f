
/- A tree put together: what Print of package xml does. -/
import Derived.Test.YthjibliaofmlhaaGreatDoorXmPrN
import Derived.Test.YthjibliaofmlhaaGreatDoorXmCheck
namespace Go.Proofs.YthjibliaofmlhaaGreatDoor
set_option linter.unusedVariables false
set_option linter.unusedSimpArgs false
open Go.RowKit Go.BigFrame
attribute [local go_sem ↓] loadN_eq

/-- What is told of a tree put together. -/
def PrPost (d : Nat) (t : Tr d) (w : World) (e : Ending) (w' : World) : Prop := Below w.heap.size w w' ∧
  ((checkT d t ≠ 0 ∧ e = .returned (.tuple #[.string ⟨#[]⟩, .int .i64 (checkT d t : Nat)])) ∨
   (checkT d t = 0 ∧ (printT d t).length ≤ 65536 ∧ e = .returned (.tuple #[.string (asS (printT d t)), .int .i64 0])) ∨
   (checkT d t = 0 ∧ 65536 < (printT d t).length ∧ e = .returned (.tuple #[.string ⟨#[]⟩, .int .i64 3])))
theorem check_zero {d : Nat} {t : Tr d} (h : checkT d t = 0) : (nmT d t).isEmpty = false ∧ mayT d t = true := by
  unfold checkT at h
  split at h
  · cases h
  · rename_i h1
    simp at h1
    exact ⟨by simpa using h1.1, h1.2⟩
theorem print_ne {d : Nat} {t : Tr d} (h : (nmT d t).isEmpty = false) : printT d t ≠ [] := by
  rw [print_eq, if_neg (by rw [h]; simp)]
  split <;> simp [opP]
set_option maxHeartbeats 1000000 in
set_option maxRecDepth 100000 in
theorem print13_any (d : Nat) (t : Tr d) (cs : Array Value) (w : World) (h8 : 8 ≤ w.heap.size) (hT : TabE w) (hnd : NdAt (fun q => q < w.heap.size) d w cs t) (hN : (listT d 1 t).length ≤ 100000) (hC : ∀ x ∈ listT d 1 t, TopC x.2.1 x.2.2) (hS : ((listT d 1 t).map cntN).sum ≤ 1000000000000) (hF : FitN 1000000 d t) : Calls Tryz.prog 10 #[.agg cs] w (PrPost d t w) := by
  obtain ⟨A, B, C, D, rfl, o1, o2, o3, o4⟩ := nd_four hnd
  have hb0 : Below w.heap.size w (w.alloc (.cells #[A, B, C, D] 25 (0, 0))) := (Below.refl _ _).alloc (Nat.le_refl _) _
  have HB0 := hid hb0
  have HR0 := hid (heap_alloc_new w (.cells #[A, B, C, D] 25 (0, 0)))
  have hld0 := loadN_run HR0.out rfl
  have HCK := hid (check13_any d t #[A, B, C, D] (w.alloc (.cells #[A, B, C, D] 25 (0, 0))) ((hnd.below hb0 (Nat.le_refl _)).mono fun q hq _ => Nat.lt_of_lt_of_le hq hb0.size) hN hC hS)
  have HND := hid hnd
  have HT := hid hT
  have H8 := hid h8
  have HNO := hid (fun hm => node_all d t hm hF)
  have HCZ := hid (fun h => check_zero (d := d) (t := t) h)
  have HPN := hid (fun h => print_ne (d := d) (t := t) h)
  clear hnd hN hC hS hF hT h8 hb0
  unfold PrPost
  generalize hck : checkT d t = ck at *
  have hcn : ((ck : Int) != 0) = decide (ck ≠ 0) := by
    by_cases h : ck = 0
    · simp [h]
    · have : ¬ (ck : Int) = 0 := by omega
      simp [h, this]
  clear hck
  by_cases h0 : ck = 0
  · rw [decide_eq_false (by simpa using h0)] at hcn
    obtain ⟨hz1, hz2⟩ := HCZ.out h0
    have HNK := hid (HNO.out hz2)
    unfold NodeOk at HNK
    have HNE := hid (HPN.out hz1)
    have H0 := hid h0
    clear h0 hz1 hz2 HCZ HPN HNO
    generalize hpt : printT d t = PT at *
    clear hpt
    go_enter Tryz.func10, Tryz.ntmps10
    go_wp2_with fail
    refine Calls.mono HCK.out ?_
    rintro e W1 ⟨rfl, hb1⟩
    have hbw := HB0.out.trans (hb1.mono HB0.out.size)
    have HB1 := hid hbw
    have hr1 := row_keep hb1 HR0.out
    have HR1 := hid hr1
    clear hb1
    have hb2 : Below W1.heap.size W1 (W1.alloc (.cells #[.pointer none, .slice none 0 0, .bool false] 51 (0, 0))) := (Below.refl _ _).alloc (Nat.le_refl _) _
    have hld1 := loadN_run (row_keep hb2 hr1) rfl
    have HB2 := hid hb2
    have HQ2 : Hid (PrQ (W1.alloc (.cells #[.pointer none, .slice none 0 0, .bool false] 51 (0, 0))) W1.heap.size (some [])) := ⟨⟨_, _, heap_alloc_new W1 _, .inl rfl, Wd.nil _ _⟩, by simp⟩
    have HNC := hid (HNK.out #[A, B, C, D] (W1.alloc (.cells #[.pointer none, .slice none 0 0, .bool false] 51 (0, 0))) W1.heap.size (some []) (((HND.out.below hbw (Nat.le_refl _)).below hb2 (Nat.le_refl _)).mono fun q hq _ => Nat.lt_of_lt_of_le hq hbw.size) (by have := H8.out; have := hbw.size; omega) ((HT.out.below hbw).below hb2) HQ2.out)
    clear hbw hr1 hb2 hld0
    have HBP : Hid (∀ W, Kp W1.heap.size (W1.alloc (.cells #[.pointer none, .slice none 0 0, .bool false] 51 (0, 0))) W → Below w.heap.size w W) := fun W hk => (HB1.out.trans (HB2.out.mono HB1.out.size)).trans (hk.low.mono HB1.out.size)
    by_cases hl : PT.length ≤ 65536
    · have hadd : addP (some []) PT = some PT := by unfold addP; simp [hl]
      rw [hadd] at HNC
      have HL := hid hl
      clear hl hadd
      go_wp2_with fail
      refine Calls.mono HNC.out ?_
      rintro e W3 ⟨⟨v3, rfl⟩, hq3, hk3⟩
      have HB3 := hid (HBP.out W3 hk3)
      obtain ⟨hs3, _⟩ := hq3
      obtain ⟨a3, v3', hr3, c3, _⟩ := hs3.full
      have HST := hid (prString_any W1.heap.size PT false HNE.out (by have := HL.out; omega) W3 hs3)
      clear hk3 hs3 hr3
      go_wp2_with fail
      refine Calls.mono HST.out ?_
      rintro e W4 ⟨rfl, hb4⟩
      have HB4 := hid (HB3.out.trans (hb4.mono HB1.out.size))
      clear hb4
      go_wp2_with fail
      go_ret2
      exact ⟨HB4.out, .inr (.inl ⟨H0.out, HL.out, rfl⟩)⟩
    · have hadd : addP (some []) PT = none := by unfold addP; simp; omega
      rw [hadd] at HNC
      have HL : Hid (65536 < PT.length) := by show _ < _; omega
      clear hl hadd
      go_wp2_with fail
      refine Calls.mono HNC.out ?_
      rintro e W3 ⟨⟨v3, rfl⟩, hq3, hk3⟩
      have HB3 := hid (HBP.out W3 hk3)
      obtain ⟨o3', hs3, _⟩ := hq3
      obtain ⟨a3, v3', hr3, c3, _⟩ := hs3.full
      clear hk3 hs3 hr3
      go_wp2_with fail
      go_ret2
      exact ⟨HB3.out, .inr (.inr ⟨H0.out, HL.out, rfl⟩)⟩
  · rw [decide_eq_true (by simpa using h0)] at hcn
    have H0 := hid h0
    clear h0 HCZ HPN HNO
    go_enter Tryz.func10, Tryz.ntmps10
    go_wp2_with fail
    refine Calls.mono HCK.out ?_
    rintro e W1 ⟨rfl, hb1⟩
    have HB1 := hid (HB0.out.trans (hb1.mono HB0.out.size))
    clear hb1
    go_wp2_with fail
    go_ret2
    exact ⟨HB1.out, .inl ⟨H0.out, rfl⟩⟩
end Go.Proofs.YthjibliaofmlhaaGreatDoor
