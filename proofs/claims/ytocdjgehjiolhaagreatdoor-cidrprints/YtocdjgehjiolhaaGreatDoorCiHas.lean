
/- What cidr.holds, Has, mayNotBe, among and the library's IndexFunc and ContainsFunc at nets do. -/
import Derived.Test.YtocdjgehjiolhaaGreatDoorCiChk
namespace Go.Proofs.YtocdjgehjiolhaaGreatDoor
open Go.RowKit Go.BigFrame
attribute [local go_sem ↓] loadA_eq

set_option maxHeartbeats 1000000 in
theorem holds_any (n : NetV) (hB : n.B.length = 16) (h0 : 0 ≤ n.k) (h1 : n.k ≤ 128) (u : Bool) (C : List UInt8) (hC : C.length = 16) (w : World) : Calls Tryz.prog 59 #[.agg (ncs n), .agg (acs u C)] w fun e w' => e = .returned (.bool (holdV n u C)) ∧ Below w.heap.size w w' := by
  have HF : Hid (∀ W, Calls Tryz.prog 17 #[.agg (acs u C), .int .i64 n.k] W fun e w' => e = .returned (.agg (acs u (firstB C (offB u + n.k.toNat)))) ∧ Below W.heap.size W w') := fun W => by
    have := first_any u C hC n.k.toNat (by omega) W
    rwa [Int.toNat_of_nonneg h0] at this
  have q1 := fun W => eqV u n.v (firstB C (offB u + n.k.toNat)) n.B (firstB_len _ _) hB (holdV n u C) rfl W
  have hg := guardA
  have HLN : Hid (∀ {W : World} {g : Nat}, W.heap[g]? = some (.cells (ncs n) 26 (0, 0)) → LDA W g (acs n.v n.B)) := fun h => loadNA_re hB h
  have HLA : Hid (∀ {W : World} {g : Nat}, W.heap[g]? = some (.cells (acs u C) 24 (0, 0)) → LDA W g (acs u C)) := fun h d os => loadA_re hC h d os
  have HBI := hid (ncs_bits n hB)
  generalize acs u (firstB C (offB u + n.k.toNat)) = FX at HF q1
  generalize acs n.v n.B = NX at q1 HLN
  generalize acs u C = AX at HF HLA ⊢
  generalize holdV n u C = t at q1 ⊢
  generalize ncs n = X at HLN HBI ⊢
  generalize n.k = k at HF HBI
  go_enter Tryz.func59, Tryz.ntmps59
  go_wp2_with fail
  obtain ⟨V, hV⟩ : ∃ V, V = (w.alloc (Obj.cells X 26)).alloc (Obj.cells AX 24) := ⟨_, rfl⟩
  have HR : Hid (V.heap[w.heap.size]? = some (.cells X 26 (0, 0))) := by rw [hV]; exact (Below.heap_alloc _ _ _ (by simp)).trans (heap_alloc_new w _)
  have HR2 : Hid (V.heap[w.heap.size + 1]? = some (.cells AX 24 (0, 0))) := by rw [hV, ← sz_alloc w (Obj.cells X 26)]; exact heap_alloc_new _ _
  have HB : Hid (Below w.heap.size w V) := by rw [hV]; exact alloc_below (alloc_below (Below.refl _ w) (Nat.le_refl _) _) (by simp) _
  have hz : w.heap.size < V.heap.size := by rw [hV]; simp; omega
  rw [← hV]
  clear hV
  have k0 := cell_regrown (w := V) (a := ⟨w.heap.size, 17, none⟩) (v := .int .i64 k) (by rw [cell_of_row _ _ _ _ _ _ HR.out]; exact HBI.out)
  have k1 := HLN.out HR.out
  have k2 := HLA.out HR2.out
  have c1 : REG 17 #[.agg AX, .int .i64 k] V (.agg FX) := fun d os => Calls.regrown_of (HF.out _)
  refine wp_region_quiet_below (by kernel_rfl) (by kernel_rfl) ?_
  repeat (go_big_quiet_step (first | (go_at_call 17; exact c1 _ _)))
  refine wpQuiet_nil ?_
  rintro W9 ⟨⟨dq, osq⟩, hw⟩
  have HB9 : Hid (Below V.heap.size V W9) := by rw [hw]; exact below_regrown V dq osq
  clear hw k0 k1 k2 c1 q1 hg
  go_wp2_with fail
  go_ret
  exact ⟨rfl, HB.out.trans (HB9.out.mono (by omega))⟩

set_option maxHeartbeats 1000000 in
theorem mayNot_any (n : NetV) (hB : n.B.length = 16) (w : World) : Calls Tryz.prog 37 #[.agg (ncs n)] w fun e w' => e = .returned (.bool (!mayV n)) ∧ Below w.heap.size w w' := by
  have HC := hid (fun W => check_net n hB W)
  have HLD : Hid (∀ {W : World} {ops : Array Oper} {rest : List Oper} {op : Oper} {a : Act} {Q : Exit → Act → World → Prop}, op.guard = none → ∀ (x : Operand), op.op = .load 26 x → ∀ b, a.eval x = .pointer (some ⟨b, 0, none⟩) → W.heap[b]? = some (.cells (ncs n) 26 (0, 0)) → wpList Tryz.prog ops Q rest (a.put op.dst (.agg (ncs n))) W → wpList Tryz.prog ops Q (op :: rest) a W) := fun h1 x h2 b h3 h4 h5 => load_net h1 x h2 b n hB h3 (0, 0) h4 h5
  generalize ncs n = X at HC HLD ⊢
  generalize mayV n = m at HC ⊢
  go_enter Tryz.func37, Tryz.ntmps37
  go_wp2_with (first
    | (refine HLD.out rfl _ rfl w.heap.size rfl (heap_alloc_new w _) ?_)
    | fail)
  refine (HC.out _).mono ?_
  rintro e W1 ⟨rfl, hb1⟩
  have HB := hid (row1 hb1).2.1
  clear hb1
  cases m
  · go_wp2_with fail
    go_ret
    exact ⟨rfl, HB.out⟩
  · go_wp2_with fail
    go_ret
    exact ⟨rfl, HB.out⟩

/-- The nets of a slice. -/
def NetsAt (w : World) (s : Value) (l : List NetV) : Prop := (l = [] ∧ ∃ P c, s = .slice P 0 c) ∨ ∃ b off c, s = .slice (some ⟨b, off, none⟩) l.length c ∧ b < w.heap.size ∧ ∀ j n, l[j]? = some n → w.rangeAt b (off + j * 18) (nvs n)
theorem NetsAt.below {w w' : World} {s : Value} {l : List NetV} {B : Nat} (h : NetsAt w s l) (hb : Below B w w') (hB : w.heap.size ≤ B) : NetsAt w' s l := by
  rcases h with h | ⟨b, off, c, h1, h2, h3⟩
  · exact .inl h
  · exact .inr ⟨b, off, c, h1, Nat.lt_of_lt_of_le h2 hb.size, fun j n hn i v hv => (hb.cell (p := ⟨b, off + j * 18 + i, none⟩) (Nat.lt_of_lt_of_le h2 hB)).trans (h3 j n hn i v hv)⟩
/-- What is asked of a test of nets: its value, at every net of a list, wherever what was there stands. -/
def PredN (f : Nat) (lb : Array Value) (p : NetV → Bool) (l : List NetV) (V : World) : Prop := ∀ n ∈ l, ∀ W, Below V.heap.size V W → Calls Tryz.prog f (#[.agg (ncs n)] ++ lb) W fun e w' => e = .returned (.bool (p n)) ∧ Below W.heap.size W w'
end Go.Proofs.YtocdjgehjiolhaaGreatDoor
