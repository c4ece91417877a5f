
/- What ip.Print does with an IPv6. -/
import Derived.Test.YtocdjgehjiolhaaGreatDoorIpSho
import Derived.Test.YtocdjgehjiolhaaGreatDoorIpHex
import Derived.Test.YtocdjgehjiolhaaGreatDoorIpRefE
namespace Go.Proofs.YtocdjgehjiolhaaGreatDoor
open Go.RowKit

theorem mapped_is (B : List UInt8) (hB : B.length = 16) : isH mapH true B = mappedB B := by
  rw [isH_take mapH rfl true B hB]
  unfold mappedB
  simp
  rfl
theorem alloc_tabP {w : World} (h : TabP w) (o : Obj) : TabP (w.alloc o) := h.below (alloc_below (Below.refl _ w) (Nat.le_refl _) o)
theorem toG_lt' (B : List UInt8) (hB : B.length = 16) (j : Nat) (hj : j < 8) : (toG B).getD j 0 < 65536 := by
  have hl : j < (toG B).length := by rw [toG_len, hB]; omega
  rw [List.getD_eq_getElem?_getD, List.getElem?_eq_getElem hl]
  exact toG_lt B _ (List.getElem_mem hl)
set_option maxRecDepth 100000 in
set_option maxHeartbeats 2000000 in
theorem print6_any (B : List UInt8) (hB : B.length = 16) (w : World) (hT : TabP w) : Calls Tryz.prog 10 #[.agg (acs true B)] w fun e w' => e = .returned (.tuple #[.string (asS (printA true B)), .int .i64 0]) ∧ Below w.heap.size w w' := by
  obtain ⟨t, ht⟩ : ∃ t, t = mappedB B := ⟨_, rfl⟩
  have HU := hid (fun W => unmap_any true B hB W)
  have hp : printA true B = if t then FFFF ++ lastB B else shortB (toG B) (best (toG B)).1 (best (toG B)).2 := by
    unfold printA
    rw [← ht, if_neg (by simp)]
  rw [hp]
  unfold unmV unmB at HU
  rw [mapped_is B hB, ← ht] at HU
  clear ht hp
  have HC := hid (fun W => check_six B W)
  have HD := hid (fun W h => dotted_any false (lastL B) (lastL_len B) W h)
  rw [show lastB (lastL B) = lastB B from rfl] at HD
  have HG := hid (fun W => groups_any true B hB W)
  have HSH := hid (fun W h => short_any (toG B) (by rw [toG_len, hB]) (toG_lt' B hB) W h)
  generalize shortB (toG B) (best (toG B)).1 (best (toG B)).2 = SB at HSH ⊢
  generalize gcs (toG B) = GC at HG HSH
  have q1 := fun W => eqV false true (lastL B) B (lastL_len B) hB false (by simp) W
  have q2 := fun W => eqV true true B B hB hB true (by simp) W
  have hg := guardA
  have HLL := hid (lastL_len B)
  have HLB : Hid ((lastB B).length ≤ 100) := by
    have h1 := joinL_len 46 20 (dotsTo B 4) (fun x hx => by obtain ⟨j, _, rfl⟩ := List.mem_map.1 hx; exact digs_short 10 _)
    rw [dotsTo_len, dotsTo_four] at h1
    exact Nat.le_trans h1 (by omega)
  generalize lastB B = DB at HD HLB ⊢
  generalize lastL B = LB at HU HD HLL q1
  have c0 := acs_zero true B
  have HTA : Hid (∀ o, TabP (w.alloc o)) := fun o => alloc_tabP hT o
  clear hT
  go_enter Tryz.func10, Tryz.ntmps10
  go_wp2_with (first
    | (refine load_addr rfl _ rfl w.heap.size true B hB rfl (0, 0) (heap_alloc_new w _) ?_)
    | fail)
  refine (HC.out _).mono ?_
  rintro e W1 ⟨rfl, hb1⟩
  obtain ⟨hr, hb, hz⟩ := row1 hb1
  have HR := hid hr; have HB := hid hb
  have HT1 : Hid (TabP W1) := (HTA.out _).below hb1
  have c1 : W1.cell? ⟨w.heap.size, 0, none⟩ = some (.bool true) := by rw [cell_of_row _ _ _ _ _ _ hr]; exact c0
  clear hr hb hb1
  go_wp2_with (first
    | (refine load_addr rfl _ rfl w.heap.size true B hB rfl (0, 0) HR.out ?_)
    | fail)
  refine (HU.out _).mono ?_
  rintro e W2 ⟨rfl, hb2⟩
  have HR2 : Hid (W2.heap[w.heap.size]? = some (.cells (acs true B) 24 (0, 0))) := (hb2.block _ (by omega)).trans HR.out
  have HT2 : Hid (TabP W2) := HT1.out.below hb2
  have HB2 : Hid (Below w.heap.size w W2) := HB.out.trans (hb2.mono (by omega))
  have hz2 := hb2.size
  clear hb2 c1
  cases t
  · simp only [Bool.false_eq_true, if_false]
    go_wp2_with (first
      | (refine store_addr rfl _ _ rfl W2.heap.size true B hB rfl rfl _ (heap_alloc_new W2 _) rfl ?_)
      | fail)
    intro V hO hW
    have HRV : Hid (V.heap[w.heap.size]? = some (.cells (acs true B) 24 (0, 0))) := (hO.block _ (by omega)).trans ((Below.heap_alloc _ _ _ (by omega)).trans HR2.out)
    have HV := hid hW
    have HTV : Hid (TabP V) := HT2.out.below ((alloc_below (Below.refl _ W2) (Nat.le_refl _) _).trans (hO.below (Nat.le_refl _)))
    have HBV : Hid (Below w.heap.size w V) := (alloc_below HB2.out HB2.out.size _).trans (hO.below HB2.out.size)
    clear hO hW
    go_wp2_with (first
      | (refine load_addr rfl _ rfl W2.heap.size true B hB rfl (0, 0) HV.out ?_)
      | (refine load_addr rfl _ rfl w.heap.size true B hB rfl (0, 0) HRV.out ?_)
      | fail)
    refine (HG.out _).mono ?_
    rintro e W4 ⟨rfl, hb4⟩
    have HB4 : Hid (Below w.heap.size w W4) := HBV.out.trans (hb4.mono HBV.out.size)
    have HT4 : Hid (TabP W4) := HTV.out.below hb4
    clear hb4
    go_wp2_with fail
    refine (HSH.out _ HT4.out).mono ?_
    rintro e W5 ⟨rfl, hb5⟩
    go_wp2_with fail
    go_ret2
    exact ⟨rfl, HB4.out.trans (hb5.mono HB4.out.size)⟩
  · simp only [if_true]
    have a1 : (⟨#[58, 58, 102, 102, 102, 102, 58]⟩ : ByteArray) ++ asS DB = asS (FFFF ++ DB) := asS_app [58, 58, 102, 102, 102, 102, 58] DB
    have s1 : (asS DB).size ≤ 100 := by rw [asS_size]; exact HLB.out
    go_wp2_with (first
      | (refine store_addr rfl _ _ rfl W2.heap.size false LB HLL.out rfl rfl _ (heap_alloc_new W2 _) rfl ?_)
      | fail)
    intro V hO hW
    have HRV : Hid (V.heap[w.heap.size]? = some (.cells (acs true B) 24 (0, 0))) := (hO.block _ (by omega)).trans ((Below.heap_alloc _ _ _ (by omega)).trans HR2.out)
    have HV := hid hW
    have HTV : Hid (TabP V) := HT2.out.below ((alloc_below (Below.refl _ W2) (Nat.le_refl _) _).trans (hO.below (Nat.le_refl _)))
    have HBV : Hid (Below w.heap.size w V) := (alloc_below HB2.out HB2.out.size _).trans (hO.below HB2.out.size)
    clear hO hW
    go_wp2_with (first
      | (refine load_addr rfl _ rfl W2.heap.size false LB HLL.out rfl (0, 0) HV.out ?_)
      | (refine load_addr rfl _ rfl w.heap.size true B hB rfl (0, 0) HRV.out ?_)
      | fail)
    refine (HD.out _ HTV.out.tab).mono ?_
    rintro e W4 ⟨rfl, hb4⟩
    go_wp2_with fail
    go_ret2
    exact ⟨rfl, HBV.out.trans (hb4.mono HBV.out.size)⟩
end Go.Proofs.YtocdjgehjiolhaaGreatDoor
