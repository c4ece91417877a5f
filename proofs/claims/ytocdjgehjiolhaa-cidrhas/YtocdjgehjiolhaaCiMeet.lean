
/- What cidr.Meet does. -/
import Derived.Test.YtocdjgehjiolhaaCiAwake
namespace Go.Proofs.Ytocdjgehjiolhaa
open Go.RowKit Go.BigFrame
attribute [local go_sem ↓] loadA_eq loadN_eq

theorem meet_lt (a b : NetV) (h : ¬ b.k < a.k) : meetV a b = (mayV b && hasR a b.v b.B) := meet_le a b (by omega)
theorem meet_gt (a b : NetV) (h : b.k < a.k) : meetV a b = (mayV a && hasR b a.v a.B) := by rw [meet_sym]; exact meet_le b a (by omega)
set_option maxHeartbeats 2000000 in
theorem meet_any (a b : NetV) (ha : a.B.length = 16) (hb : b.B.length = 16) (w : World) : Calls Try.prog 10 #[.agg (ncs a), .agg (ncs b)] w fun e w' => e = .returned (.bool (meetV a b)) ∧ Below w.heap.size w w' := by
  have HCA := hid (fun W => check_net a ha W)
  have HCB := hid (fun W => check_net b hb W)
  have HHA := hid (fun W => has_any a ha b.v b.B hb W)
  have HHB := hid (fun W => has_any b hb a.v a.B ha W)
  have HM1 : Hid (¬ b.k < a.k → meetV a b = (mayV b && hasR a b.v b.B)) := meet_lt a b
  have HM2 : Hid (b.k < a.k → meetV a b = (mayV a && hasR b a.v a.B)) := meet_gt a b
  have HIA := hid (ncs_bits a ha)
  have HIB := hid (ncs_bits b hb)
  have HLA : Hid (∀ {W : World} {g : Nat}, W.heap[g]? = some (.cells (ncs a) 26 (0, 0)) → (loadI 26 (.pointer (some ⟨g, 0, none⟩))).run Try.prog W = .ok (.agg (ncs a)) W ∧ (loadI 24 (.pointer (some ⟨g, 0, none⟩))).run Try.prog W = .ok (.agg (acs a.v a.B)) W) := fun h => ⟨loadN_row ha h, loadNA_row ha h⟩
  have HLB : Hid (∀ {W : World} {g : Nat}, W.heap[g]? = some (.cells (ncs b) 26 (0, 0)) → (loadI 26 (.pointer (some ⟨g, 0, none⟩))).run Try.prog W = .ok (.agg (ncs b)) W ∧ (loadI 24 (.pointer (some ⟨g, 0, none⟩))).run Try.prog W = .ok (.agg (acs b.v b.B)) W) := fun h => ⟨loadN_row hb h, loadNA_row hb h⟩
  have HSA : Hid (∀ {W : World} {ops : Array Oper} {rest : List Oper} {op : Oper} {c : Act} {Q : Exit → Act → World → Prop}, op.guard = none → ∀ (x y : Operand), op.op = .store 26 x y → ∀ g, c.eval x = .pointer (some ⟨g, 0, none⟩) → c.eval y = .agg (ncs a) → W.heap[g]? = some (.cells (ncs b) 26 (0, 0)) → (∀ W', Only g W W' → W'.heap[g]? = some (.cells (ncs a) 26 (0, 0)) → wpList Try.prog ops Q rest (c.put op.dst undef) W') → wpList Try.prog ops Q (op :: rest) c W) := fun h1 x y h2 g h3 h4 h5 h6 => store_net h1 x y h2 g a ha h3 h4 _ h5 (ncs_size b hb) h6
  have HSB : Hid (∀ {W : World} {ops : Array Oper} {rest : List Oper} {op : Oper} {c : Act} {Q : Exit → Act → World → Prop}, op.guard = none → ∀ (x y : Operand), op.op = .store 26 x y → ∀ g, c.eval x = .pointer (some ⟨g, 0, none⟩) → c.eval y = .agg (ncs b) → W.heap[g]? = some (.cells (ncs a) 26 (0, 0)) → (∀ W', Only g W W' → W'.heap[g]? = some (.cells (ncs b) 26 (0, 0)) → wpList Try.prog ops Q rest (c.put op.dst undef) W') → wpList Try.prog ops Q (op :: rest) c W) := fun h1 x y h2 g h3 h4 h5 h6 => store_net h1 x y h2 g b hb h3 h4 _ h5 (ncs_size a ha) h6
  generalize meetV a b = R at HM1 HM2 ⊢
  generalize mayV a = ma at HCA HM2
  generalize mayV b = mb at HCB HM1
  generalize hasR a b.v b.B = t1 at HHA HM1
  generalize hasR b a.v a.B = t2 at HHB HM2
  generalize acs a.v a.B = AA at HHB HLA
  generalize acs b.v b.B = AB at HHA HLB
  generalize ncs a = X at HCA HHA HIA HLA HSA HSB ⊢
  generalize ncs b = Y at HCB HHB HIB HLB HSA HSB ⊢
  generalize a.k = ka at HM1 HM2 HIA
  generalize b.k = kb at HM1 HM2 HIB
  go_enter Try.func10, Try.ntmps10
  have x17 := HIA.out
  have y17 := HIB.out
  obtain ⟨V, hV⟩ : ∃ V, V = (w.alloc (Obj.cells X 26)).alloc (Obj.cells Y 26) := ⟨_, rfl⟩
  have HR : Hid (V.heap[w.heap.size]? = some (.cells X 26 (0, 0))) := by rw [hV]; exact (Below.heap_alloc _ _ _ (by simp)).trans (heap_alloc_new w _)
  have HR2 : Hid (V.heap[w.heap.size + 1]? = some (.cells Y 26 (0, 0))) := by rw [hV, ← sz_alloc w (Obj.cells X 26)]; exact heap_alloc_new _ _
  have HB : Hid (Below w.heap.size w V) := by rw [hV]; exact alloc_below (alloc_below (Below.refl _ w) (Nat.le_refl _) _) (by simp) _
  have hz : w.heap.size + 1 < V.heap.size := by rw [hV]; simp
  by_cases hlt : kb < ka
  · have HM := hid (HM2.out hlt)
    have hlx := (HLA.out HR.out).1
    have hly := (HLB.out HR2.out).1
    rw [hV] at hlx hly
    go_wp2_with (first
      | (refine HSB.out rfl _ _ rfl w.heap.size rfl rfl (by rw [← hV]; exact HR.out) ?_)
      | fail)
    intro W1 hO1 hW1
    rw [← hV] at hO1
    have HW1 := hid hW1
    have HW1' : Hid (W1.heap[w.heap.size + 1]? = some (.cells Y 26 (0, 0))) := (hO1.block _ (by omega)).trans HR2.out
    have HB1 : Hid (Below w.heap.size w W1) := HB.out.trans (hO1.below (Nat.le_refl _))
    have z1 : w.heap.size + 1 < W1.heap.size := by rw [hO1.size]; exact hz
    clear hO1 hW1 hlx hly hV x17 y17
    go_wp2_with (first
      | (refine HSA.out rfl _ _ rfl (w.heap.size + 1) rfl rfl HW1'.out ?_)
      | fail)
    intro W2 hO2 hW2
    have HX2 := hid hW2
    have HY2 : Hid (W2.heap[w.heap.size]? = some (.cells Y 26 (0, 0))) := (hO2.block _ (by omega)).trans HW1.out
    have HB2 : Hid (Below w.heap.size w W2) := HB1.out.trans (hO2.below (by omega))
    have z2 : w.heap.size + 1 < W2.heap.size := by rw [hO2.size]; exact z1
    clear hO2 hW2
    have l1 := (HLA.out HX2.out).1
    go_wp2_with fail
    refine (HCA.out _).mono ?_
    rintro e W3 ⟨rfl, hb3⟩
    have HB3 : Hid (Below w.heap.size w W3) := HB2.out.trans (hb3.mono HB2.out.size)
    cases ma
    · have HQ : Hid (R = false) := by show _ = _; rw [HM.out]; rfl
      clear l1
      go_wp2_with fail
      go_ret
      exact ⟨by rw [HQ.out]; rfl, HB3.out⟩
    · have HQ : Hid (R = t2) := by show _ = _; rw [HM.out]; rfl
      have l2 := (HLB.out ((hb3.block _ (by omega)).trans HY2.out)).1
      have l3 := (HLA.out ((hb3.block _ z2).trans HX2.out)).2
      clear hb3 l1
      go_wp2_with fail
      refine (HHB.out _).mono ?_
      rintro e W4 ⟨rfl, hb4⟩
      clear l2 l3
      go_wp2_with fail
      go_ret
      exact ⟨by rw [HQ.out]; rfl, HB3.out.trans (hb4.mono HB3.out.size)⟩
  · have HM := hid (HM1.out hlt)
    have l1 := (HLB.out HR2.out).1
    rw [hV] at l1
    go_wp2_with fail
    refine (HCB.out _).mono ?_
    rintro e W3 ⟨rfl, hb3⟩
    rw [← hV] at hb3
    have HB3 : Hid (Below w.heap.size w W3) := HB.out.trans (hb3.mono HB.out.size)
    cases mb
    · have HQ : Hid (R = false) := by show _ = _; rw [HM.out]; rfl
      clear l1
      go_wp2_with fail
      go_ret
      exact ⟨by rw [HQ.out]; rfl, HB3.out⟩
    · have HQ : Hid (R = t1) := by show _ = _; rw [HM.out]; rfl
      have l2 := (HLA.out ((hb3.block _ (by omega)).trans HR.out)).1
      have l3 := (HLB.out ((hb3.block _ hz).trans HR2.out)).2
      clear hb3 l1
      go_wp2_with fail
      refine (HHA.out _).mono ?_
      rintro e W4 ⟨rfl, hb4⟩
      clear l2 l3
      go_wp2_with fail
      go_ret
      exact ⟨by rw [HQ.out]; rfl, HB3.out.trans (hb4.mono HB3.out.size)⟩
end Go.Proofs.Ytocdjgehjiolhaa
