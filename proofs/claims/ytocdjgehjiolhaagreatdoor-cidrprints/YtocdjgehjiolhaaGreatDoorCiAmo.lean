
/- What the library's ContainsFunc at nets does, and cidr.among. -/
import Derived.Test.YtocdjgehjiolhaaGreatDoorCiFun
namespace Go.Proofs.YtocdjgehjiolhaaGreatDoor
open Go.RowKit Go.BigFrame
attribute [local go_sem ↓] loadA_eq loadN_eq

theorem okNet {l : List NetV} (h : ∀ n ∈ l, n.B.length = 16 ∧ mayV n = true) : ∀ n ∈ l, n.B.length = 16 ∧ 0 ≤ n.k ∧ n.k ≤ 128 := fun n hn => by
  obtain ⟨h1, h2⟩ := h n hn
  have := mayN_parts h2
  have := tot_le n.v
  exact ⟨h1, by omega, by omega⟩
set_option maxHeartbeats 1000000 in
theorem containsN_any (g : Nat) (lb : Array Value) (p : NetV → Bool) (l : List NetV) (eg : ∀ args w, (callFunc g args).run Tryz.prog w = .ok (.enter g args) w) (hl : l.length ≤ 1000000) (hl16 : ∀ n ∈ l, n.B.length = 16) (s : Value) (w : World) (hs : NetsAt w s l) (hp : PredN g lb p l w) :
    Calls Tryz.prog 36 #[s, .func (.func g) #[] lb] w fun e w' => e = .returned (.bool (l.any p)) ∧ Below w.heap.size w w' := by
  have HI : Hid (∀ W, W = w → Calls Tryz.prog 57 #[s, .func (.func g) #[] lb] W fun e w' => e = .returned (.int .i64 (idxN p l)) ∧ Below W.heap.size W w') := fun W hW => by
    subst hW
    rcases hs with ⟨rfl, P, c, rfl⟩ | ⟨b, off, c, rfl, h2, h3⟩
    · exact index_nil g lb p P c W
    · exact index_any g lb p l eg hl hl16 b off c W h2 h3 hp
  have hi := idxN_any p l
  generalize idxN p l = R at HI hi
  generalize l.any p = t at hi ⊢
  clear eg hs hp hl hl16
  go_enter Tryz.func36, Tryz.ntmps36
  go_wp2_with fail
  refine (HI.out _ rfl).mono ?_
  rintro e W1 ⟨rfl, hb1⟩
  go_wp2_with fail
  go_ret
  exact ⟨rfl, hb1⟩

set_option maxHeartbeats 1000000 in
theorem closure_any (n : NetV) (hB : n.B.length = 16) (h0 : 0 ≤ n.k) (h1 : n.k ≤ 128) (u : Bool) (C : List UInt8) (hC : C.length = 16) (B : Nat) (w : World) (hw : w.heap[B]? = some (.cells (acs u C) 24 (0, 0))) : Calls Tryz.prog 58 #[.agg (ncs n), .pointer (some ⟨B, 0, none⟩)] w fun e w' => e = .returned (.bool (holdV n u C)) ∧ Below w.heap.size w w' := by
  have HH := hid (fun W => holds_any n hB h0 h1 u C hC W)
  have HLN : Hid (∀ {W : World} {g : Nat}, W.heap[g]? = some (.cells (ncs n) 26 (0, 0)) → (loadI 26 (.pointer (some ⟨g, 0, none⟩))).run Tryz.prog W = .ok (.agg (ncs n)) W) := fun h => loadN_row hB h
  have HLA : Hid (∀ {W : World} {g : Nat}, W.heap[g]? = some (.cells (acs u C) 24 (0, 0)) → (loadI 24 (.pointer (some ⟨g, 0, none⟩))).run Tryz.prog W = .ok (.agg (acs u C)) W) := fun h => loadA_row hC h
  have HW := hid hw
  clear hw
  generalize holdV n u C = t at HH ⊢
  generalize ncs n = X at HH HLN ⊢
  generalize acs u C = AX at HH HLA HW
  have l1 : (loadI 26 (.pointer (some ⟨w.heap.size, 0, none⟩))).run Tryz.prog (w.alloc (.cells X 26)) = .ok (.agg X) (w.alloc (.cells X 26)) := HLN.out (heap_alloc_new w _)
  have l2 : (loadI 24 (.pointer (some ⟨B, 0, none⟩))).run Tryz.prog (w.alloc (.cells X 26)) = .ok (.agg AX) (w.alloc (.cells X 26)) := HLA.out ((Below.heap_alloc _ _ _ (Array.getElem?_eq_some_iff.1 HW.out).1).trans HW.out)
  go_enter Tryz.func58, Tryz.ntmps58
  go_wp2_with fail
  refine (HH.out _).mono ?_
  rintro e W1 ⟨rfl, hb1⟩
  have HB := hid (row1 hb1).2.1
  clear hb1 l1 l2
  go_wp2_with fail
  go_ret
  exact ⟨rfl, HB.out⟩

theorem enters_closure : ∀ args w, (callFunc 58 args).run Tryz.prog w = .ok (.enter 58 args) w := enters_of Tryz.func58 (by kernel_rfl) rfl
theorem enters_mayNot : ∀ args w, (callFunc 37 args).run Tryz.prog w = .ok (.enter 37 args) w := enters_of Tryz.func37 (by kernel_rfl) rfl
set_option maxHeartbeats 1000000 in
theorem among_any (l : List NetV) (hl : l.length ≤ 1000000) (hok : ∀ n ∈ l, n.B.length = 16 ∧ mayV n = true) (u : Bool) (C : List UInt8) (hC : C.length = 16) (hm : mayB u C = true) (s : Value) (w : World) (hs : NetsAt w s l) :
    Calls Tryz.prog 38 #[s, .agg (acs u C)] w fun e w' => e = .returned (.bool (inV l u C)) ∧ Below w.heap.size w w' := by
  rw [← among_in l hok u C hC hm]
  have HCO : Hid (∀ V, V = w.alloc (.cells (acs u C) 24) → Calls Tryz.prog 36 #[s, .func (.func 58) #[] #[.pointer (some ⟨w.heap.size, 0, none⟩)]] V fun e w' => e = .returned (.bool (l.any fun n => holdV n u C)) ∧ Below V.heap.size V w') := fun V hV => by
    refine containsN_any 58 #[.pointer (some ⟨w.heap.size, 0, none⟩)] _ l enters_closure hl (fun n hn => (hok n hn).1) s V (by rw [hV]; exact hs.below (alloc_below (Below.refl _ w) (Nat.le_refl _) _) (Nat.le_refl _)) ?_
    intro n hn W hW
    have h3 := okNet hok n hn
    refine closure_any n h3.1 h3.2.1 h3.2.2 u C hC w.heap.size W ?_
    have : V.heap[w.heap.size]? = some (.cells (acs u C) 24 (0, 0)) := by rw [hV]; exact heap_alloc_new w _
    exact (hW.block _ (Array.getElem?_eq_some_iff.1 this).1).trans this
  generalize (l.any fun n => holdV n u C) = t at HCO ⊢
  generalize acs u C = AX at HCO ⊢
  clear hs hok
  go_enter Tryz.func38, Tryz.ntmps38
  go_wp2_with fail
  refine (HCO.out _ rfl).mono ?_
  rintro e W1 ⟨rfl, hb1⟩
  have HB := hid (row1 hb1).2.1
  clear hb1
  go_wp2_with fail
  go_ret
  exact ⟨rfl, HB.out⟩
theorem denied_any (l : List NetV) (hl : l.length ≤ 1000000) (hok : ∀ n ∈ l, n.B.length = 16) (s : Value) (w : World) (hs : NetsAt w s l) : Calls Tryz.prog 36 #[s, .func (.func 37) #[] #[]] w fun e w' => e = .returned (.bool (l.any fun n => !mayV n)) ∧ Below w.heap.size w w' :=
  containsN_any 37 #[] _ l enters_mayNot hl hok s w hs fun n hn W _ => mayNot_any n (hok n hn) W
end Go.Proofs.YtocdjgehjiolhaaGreatDoor
