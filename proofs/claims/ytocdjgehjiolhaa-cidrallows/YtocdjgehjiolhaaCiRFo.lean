
/- What the reference's Forbidden of layer 6 does. -/
import Derived.Test.YtocdjgehjiolhaaCiFor
import Derived.Test.YtocdjgehjiolhaaIpRefLo
import Derived.Test.YtocdjgehjiolhaaCiV6
namespace Go.Proofs.Ytocdjgehjiolhaa
open Go.RowKit Go.BigFrame
set_option maxRecDepth 100000
set_option linter.unusedVariables false

def buildI (t : TypeId) (ps : Array (Nat × Value)) := Instr.build t ps
theorem buildN_eq (ps : Array (Nat × Value)) : Instr.build 26 ps = buildI 26 ps := rfl
theorem run_buildN (v : Bool) (B : List UInt8) (k : Int) (h : B.length = 16) (W : World) : (buildI 26 #[(0, .agg (acs v B)), (1, .int .i64 k)]).run Try.prog W = .ok (.agg (ncs ⟨v, B, k⟩)) W := run_build W _ _ _ (built_net v B k h)
def bsI (t : TypeId) (n : Nat) (ps : Array (Nat × Value)) := Instr.buildSlice t n ps
theorem bsN_eq (ps : Array (Nat × Value)) : Instr.buildSlice 33 1 ps = bsI 33 1 ps := rfl
theorem run_bsN (n : NetV) (h : n.B.length = 16) (W : World) : (bsI 33 1 #[(0, .agg (ncs n))]).run Try.prog W = .ok (.slice (some ⟨W.heap.size, 0, none⟩) 1 1) (W.alloc (.cells (ncs n) 26)) := by
  obtain ⟨i, hi, hz0, hz1, hz2⟩ := info_parts (show (Try.prog.info? 26).map (fun i => (i.zero, i.size, i.bytes)) = some (some (.agg (ncs ⟨false, zer 16, 0⟩)), 18, 32) by kernel_rfl)
  refine run_buildSlice W 33 26 1 #[(0, .agg (ncs n))] (ncs n) i _ Try.underlying33 hi hz0 (by rw [hz1]; decide) (by rw [hz1]; decide) ?_
  rw [hz1]
  have := nets_fill [n] (fun m hm => by rw [List.mem_singleton] at hm; rw [hm]; exact h) ((Array.range (1 * 18)).map ((Value.agg (ncs ⟨false, zer 16, 0⟩)).cells[· % (Value.agg (ncs ⟨false, zer 16, 0⟩)).cells.size]!)) (by simp)
  simpa [ncs] using this
def appI (ts : Array TypeId) (t : TypeId) (xs : Array Value) := Builtin.append_ ts t xs
theorem appN_eq (t : TypeId) (xs : Array Value) : Builtin.append_ #[33, 33] t xs = appI #[33, 33] t xs := rfl
theorem loadNF_eq (x : Value) : Instr.loadAt 26 x = loadI 26 x := rfl
attribute [local go_sem ↓] buildN_eq bsN_eq appN_eq loadNF_eq

def fourL : List (Nat × Int) := [(0, 8), (167772160, 8), (1681915904, 10), (2130706432, 8), (2851995648, 16), (2886729728, 12), (3221225472, 24), (3221225984, 24), (3227017984, 24), (3232235520, 16), (3323068416, 15), (3325256704, 24), (3405803776, 24), (3758096384, 4), (4026531840, 4)]
def fourC : List Value := fourL.flatMap fun p => [.int .i64 (p.1 : Int), .int .i64 p.2]
theorem four_forb0 : ∀ k : Fin 15, ((forbL[k.val]?).map fun n => (n.v, n.B, n.k)) = some (false, v4B (fourL.getD k.val (0, 0)).1, (fourL.getD k.val (0, 0)).2) := by decide +kernel
theorem four_forb (k : Fin 15) : forbL[k.val]? = some ⟨false, v4B (fourL.getD k.val (0, 0)).1, (fourL.getD k.val (0, 0)).2⟩ := net_of_map _ _ _ _ (four_forb0 k)
theorem four_at : ∀ k : Fin 15, ∃ n : Nat, ∃ b : Int, fourC[2 * k.val]? = some (.int .i64 (n : Int)) ∧ fourC[2 * k.val + 1]? = some (.int .i64 b) ∧ n < 4294967296 ∧ forbL[k.val]? = some ⟨false, v4B n, b⟩ := by
  intro k
  match k with
  | ⟨0, _⟩ => exact ⟨0, 8, rfl, rfl, by decide, four_forb ⟨0, by omega⟩⟩
  | ⟨1, _⟩ => exact ⟨167772160, 8, rfl, rfl, by decide, four_forb ⟨1, by omega⟩⟩
  | ⟨2, _⟩ => exact ⟨1681915904, 10, rfl, rfl, by decide, four_forb ⟨2, by omega⟩⟩
  | ⟨3, _⟩ => exact ⟨2130706432, 8, rfl, rfl, by decide, four_forb ⟨3, by omega⟩⟩
  | ⟨4, _⟩ => exact ⟨2851995648, 16, rfl, rfl, by decide, four_forb ⟨4, by omega⟩⟩
  | ⟨5, _⟩ => exact ⟨2886729728, 12, rfl, rfl, by decide, four_forb ⟨5, by omega⟩⟩
  | ⟨6, _⟩ => exact ⟨3221225472, 24, rfl, rfl, by decide, four_forb ⟨6, by omega⟩⟩
  | ⟨7, _⟩ => exact ⟨3221225984, 24, rfl, rfl, by decide, four_forb ⟨7, by omega⟩⟩
  | ⟨8, _⟩ => exact ⟨3227017984, 24, rfl, rfl, by decide, four_forb ⟨8, by omega⟩⟩
  | ⟨9, _⟩ => exact ⟨3232235520, 16, rfl, rfl, by decide, four_forb ⟨9, by omega⟩⟩
  | ⟨10, _⟩ => exact ⟨3323068416, 15, rfl, rfl, by decide, four_forb ⟨10, by omega⟩⟩
  | ⟨11, _⟩ => exact ⟨3325256704, 24, rfl, rfl, by decide, four_forb ⟨11, by omega⟩⟩
  | ⟨12, _⟩ => exact ⟨3405803776, 24, rfl, rfl, by decide, four_forb ⟨12, by omega⟩⟩
  | ⟨13, _⟩ => exact ⟨3758096384, 4, rfl, rfl, by decide, four_forb ⟨13, by omega⟩⟩
  | ⟨14, _⟩ => exact ⟨4026531840, 4, rfl, rfl, by decide, four_forb ⟨14, by omega⟩⟩
/-- The first k forbidden nets' cells. -/
def fC (k : Nat) : List Value := (forbL.take k).flatMap nvs
theorem fC_succ (k : Nat) (n : NetV) (hn : forbL[k]? = some n) : fC (k + 1) = fC k ++ nvs n := by
  have hk : k < forbL.length := (List.getElem?_eq_some_iff.1 hn).1
  unfold fC
  rw [List.take_succ_eq_append_getElem hk, List.flatMap_append, (List.getElem?_eq_some_iff.1 hn).2]
  simp
theorem fC_end : fC 26 = forbCells := rfl
theorem drew_below0 {V W : World} (h : Below V.drew.heap.size V.drew W) : Below V.heap.size V W := ((Below.refl V.heap.size V).drew).trans h
theorem ncs_set (n : NetV) (j : Nat) (x : UInt8) (hj : j < n.B.length) : (ncs n).setIfInBounds (j + 1) (.int .u8 x.toNat) = ncs { n with B := n.B.set j x } := by
  unfold ncs nvs bvs
  rw [List.setIfInBounds_toArray, List.set_cons_succ, List.set_append_left _ _ (by simpa using hj)]
  congr 3
  rw [List.map_set]
/-- A byte goes into a net's address. -/
theorem store_byteN {ops : Array Oper} {rest : List Oper} {op : Oper} {a : Act} {w : World} {Q : Exit → Act → World → Prop} (hgd : op.guard = none) (x y : Operand) (ho : op.op = .store 5 x y)
    (b o j : Nat) (n : NetV) (hj : j < n.B.length) (y8 : UInt8) (z : Int) (hx : a.eval x = .pointer (some ⟨b, o, none⟩)) (hoj : o = j + 1) (hy : a.eval y = .int .u8 z) (hz : z = (y8.toNat : Int))
    (hrow : w.heap[b]? = some (.cells (ncs n) 26 (0, 0)))
    (h : ∀ W, Only b w W → W.heap[b]? = some (.cells (ncs { n with B := n.B.set j y8 }) 26 (0, 0)) → wpList Try.prog ops Q rest (a.put op.dst undef) W) : wpList Try.prog ops Q (op :: rest) a w :=
  wpList_plain hgd fun _ hK => by
    have hs : (ncs n).size = n.B.length + 2 := by simp [ncs, nvs, bvs]
    have ht := there_row hrow o 1 (by rw [hs]; omega)
    unfold Oper.wp execOp
    simp only [ho, hx, hy, Instr.storeAt, Instr.sureAddr, Sem.run_bind, Sem.run_pure, Result.andThen_ok, run_store_byte w b o z ht]
    refine hK _ _ (h _ (only_setCells b _ o w) ?_)
    rw [setCells_heap b 26 _ o w _ hrow]
    simp only [over]
    rw [hz, hoj, ncs_set n j y8 hj]
def sixL : List (List Nat × Nat × Int) := [([0, 0, 0], 0, 128), ([0, 0, 0], 1, 128), ([100, 65435, 1], 0, 48), ([256, 0, 0], 0, 64), ([8193, 0, 0], 0, 23), ([8193, 3512, 0], 0, 32), ([16383, 0, 0], 0, 20), ([24320, 0, 0], 0, 16), ([64512, 0, 0], 0, 7), ([65152, 0, 0], 0, 10), ([65280, 0, 0], 0, 8)]
def sixC : List Value := sixL.flatMap fun p => (p.1.map fun x : Nat => Value.int .i64 (x : Int)) ++ [.int .i64 (p.2.1 : Int), .int .i64 p.2.2]
theorem six_forb0 : ∀ k : Fin 11, ((forbL[15 + k.val]?).map fun n => (n.v, n.B, n.k)) = some (true, (v6L (sixL.getD k.val ([], 0, 0)).1).set 15 (UInt8.ofNat (sixL.getD k.val ([], 0, 0)).2.1), (sixL.getD k.val ([], 0, 0)).2.2) ∧ (sixL.getD k.val ([], 0, 0)).1.length = 3 ∧ (∀ x ∈ (sixL.getD k.val ([], 0, 0)).1, x < 65536) ∧ (sixL.getD k.val ([], 0, 0)).2.1 < 256 := by decide +kernel
theorem six_forb (k : Fin 11) : forbL[15 + k.val]? = some ⟨true, (v6L (sixL.getD k.val ([], 0, 0)).1).set 15 (UInt8.ofNat (sixL.getD k.val ([], 0, 0)).2.1), (sixL.getD k.val ([], 0, 0)).2.2⟩ ∧ (sixL.getD k.val ([], 0, 0)).1.length = 3 ∧ (∀ x ∈ (sixL.getD k.val ([], 0, 0)).1, x < 65536) ∧ (sixL.getD k.val ([], 0, 0)).2.1 < 256 := ⟨net_of_map _ _ _ _ (six_forb0 k).1, (six_forb0 k).2⟩
theorem six_cells (k : Nat) (hk : k < 11) : ∀ j, j < 3 → sixC[k * 5 + j]? = ((sixL.getD k ([], 0, 0)).1[j]?).map (fun x : Nat => Value.int .i64 (x : Int)) := by
  intro j hj
  rcases (show k = 0 ∨ k = 1 ∨ k = 2 ∨ k = 3 ∨ k = 4 ∨ k = 5 ∨ k = 6 ∨ k = 7 ∨ k = 8 ∨ k = 9 ∨ k = 10 by omega) with rfl | rfl | rfl | rfl | rfl | rfl | rfl | rfl | rfl | rfl | rfl <;> rcases (show j = 0 ∨ j = 1 ∨ j = 2 by omega) with rfl | rfl | rfl <;> rfl
theorem six_cells3 (k : Nat) (hk : k < 11) : sixC[k * 5 + 3]? = some (.int .i64 ((sixL.getD k ([], 0, 0)).2.1 : Int)) ∧ sixC[k * 5 + 4]? = some (.int .i64 (sixL.getD k ([], 0, 0)).2.2) := by
  rcases (show k = 0 ∨ k = 1 ∨ k = 2 ∨ k = 3 ∨ k = 4 ∨ k = 5 ∨ k = 6 ∨ k = 7 ∨ k = 8 ∨ k = 9 ∨ k = 10 by omega) with rfl | rfl | rfl | rfl | rfl | rfl | rfl | rfl | rfl | rfl | rfl <;> exact ⟨rfl, rfl⟩
/-- One net more. -/
theorem app_one {w : World} {b g k cap : Nat} {n : NetV} (hn : forbL[k]? = some n) (h16 : n.B.length = 16) (hk : k ≤ 26) (h : OwnK w 18 26 b g k cap (fC k)) (hb : b ≤ w.heap.size) (ty : TypeId) (W : World) (hW : W = w.alloc (.cells (ncs n) 26)) (g0 : Nat) (hg0 : g0 = w.heap.size) :
    ∃ g' cap' w', (appI #[33, 33] ty #[.slice (some ⟨g, 0, none⟩) k cap, .slice (some ⟨g0, 0, none⟩) 1 1]).run Try.prog W = .ok (.slice (some ⟨g', 0, none⟩) (k + 1) cap') w' ∧ OwnK w' 18 26 b g' (k + 1) cap' (fC (k + 1)) ∧ W.grownBy w' (some g) ∧ (g' = g ∨ g' = W.heap.size) := by
  subst hW hg0
  have hs : Src Try.prog 18 33 (.slice (some ⟨w.heap.size, 0, none⟩) 1 1) 1 (nvs n) (w.alloc (.cells (ncs n) 26)) :=
    src_litK cellN _ w.heap.size 1 1 (nvs n) (by rw [nvs_len n h16]) (heap_alloc_new w _) (nvs_one n)
  obtain ⟨g', cap', w', h1, h2, h3, h4⟩ := (h.alloc (.cells (ncs n) 26)).run_app cellN ty _ hs (by omega) (by simp; omega)
  rw [← fC_succ k n hn] at h2
  exact ⟨g', cap', w', h1, h2, h3, h4⟩
set_option maxHeartbeats 8000000 in
theorem refForb_any (w : World) : Calls Try.prog 16 #[] w fun e w' => ∃ b c, e = .returned (.slice (some ⟨b, 0, none⟩) 26 c) ∧ w.heap.size ≤ b ∧ (∃ rest, w'.heap[b]? = some (.cells (forbCells ++ rest).toArray 26 (0, 0))) ∧ Below w.heap.size w w' := by
  have H4 := hid refV4_any
  have H4A := hid four_at
  have HBD := hid run_buildN
  have HBS := hid run_bsN
  go_enter Try.func16, Try.ntmps16
  go_wp2_with fail
  obtain ⟨V, hV⟩ : ∃ V, V = (w.alloc (Obj.cells #[] 26)).alloc (Obj.cells fourC.toArray 53) := ⟨_, rfl⟩
  have HO : Hid (OwnK V 18 26 w.heap.size w.heap.size 0 0 (fC 0)) := by rw [hV]; exact (OwnK.zero w 18 _ _ (Nat.le_refl _)).alloc _
  have HR : Hid (V.heap[w.heap.size + 1]? = some (.cells fourC.toArray 53 (0, 0))) := by rw [hV, ← sz_alloc w (Obj.cells #[] 26)]; exact heap_alloc_new _ _
  have HB : Hid (Below w.heap.size w V) := by rw [hV]; exact alloc_below (alloc_below (Below.refl _ w) (Nat.le_refl _) _) (by simp) _
  have hz : w.heap.size + 1 < V.heap.size := by rw [hV]; simp
  have e4 : (w.alloc (Obj.cells #[] 26)).alloc (Obj.cells #[.int .i64 0, .int .i64 8, .int .i64 167772160, .int .i64 8, .int .i64 1681915904, .int .i64 10, .int .i64 2130706432, .int .i64 8, .int .i64 2851995648, .int .i64 16, .int .i64 2886729728, .int .i64 12, .int .i64 3221225472, .int .i64 24, .int .i64 3221225984, .int .i64 24, .int .i64 3227017984, .int .i64 24, .int .i64 3232235520, .int .i64 16, .int .i64 3323068416, .int .i64 15, .int .i64 3325256704, .int .i64 24, .int .i64 3405803776, .int .i64 24, .int .i64 3758096384, .int .i64 4, .int .i64 4026531840, .int .i64 4] 53) = V := by rw [hV]; rfl
  rw [e4]
  clear e4 hV
  generalize Value.agg #[Value.int IntKind.i64 0, Value.int IntKind.i64 8] = z0
  generalize Value.agg #[Value.int IntKind.i64 167772160, Value.int IntKind.i64 8] = z1
  generalize Value.agg #[Value.int IntKind.i64 1681915904, Value.int IntKind.i64 10] = z2
  generalize Value.agg #[Value.int IntKind.i64 2130706432, Value.int IntKind.i64 8] = z3
  generalize Value.agg #[Value.int IntKind.i64 2851995648, Value.int IntKind.i64 16] = z4
  generalize Value.agg #[Value.int IntKind.i64 2886729728, Value.int IntKind.i64 12] = z5
  generalize Value.agg #[Value.int IntKind.i64 3221225472, Value.int IntKind.i64 24] = z6
  generalize Value.agg #[Value.int IntKind.i64 3221225984, Value.int IntKind.i64 24] = z7
  generalize Value.agg #[Value.int IntKind.i64 3227017984, Value.int IntKind.i64 24] = z8
  generalize Value.agg #[Value.int IntKind.i64 3232235520, Value.int IntKind.i64 16] = z9
  generalize Value.agg #[Value.int IntKind.i64 3323068416, Value.int IntKind.i64 15] = z10
  generalize Value.agg #[Value.int IntKind.i64 3325256704, Value.int IntKind.i64 24] = z11
  generalize Value.agg #[Value.int IntKind.i64 3405803776, Value.int IntKind.i64 24] = z12
  generalize Value.agg #[Value.int IntKind.i64 3758096384, Value.int IntKind.i64 4] = z13
  generalize Value.agg #[Value.int IntKind.i64 4026531840, Value.int IntKind.i64 4] = z14
  go_loopw [1, 3] (fun ov iv wr => ∃ (k g cap : Nat), k ≤ 15 ∧ iv = .int .i64 (k : Int) ∧ ov = .slice (some ⟨g, 0, none⟩) k cap ∧ g ≠ w.heap.size + 1 ∧ w.heap.size + 1 < wr.heap.size ∧ Hid (OwnK wr 18 26 w.heap.size g k cap (fC k)) ∧ Hid (wr.heap[w.heap.size + 1]? = some (.cells fourC.toArray 53 (0, 0))) ∧ Hid (Below w.heap.size w wr)) (fun _ i _ => 15 - (intOf i).toNat)
  case atStart => exact ⟨0, w.heap.size, 0, by omega, rfl, rfl, by omega, hz, HO, HR, HB⟩
  case round =>
    obtain ⟨k, g, cap, hk, rfl, rfl, hgn, hzr, HOr, HRr, HBr⟩ := hrel
    by_cases hk15 : (k : Int) < 15
    · obtain ⟨n, bt, hc1, hc2, hn, hnet⟩ := H4A.out ⟨k, by omega⟩
      have c1 : ∀ W : World, W.heap[w.heap.size + 1]? = some (.cells fourC.toArray 53 (0, 0)) → W.cell? ⟨w.heap.size + 1, k * 2, none⟩ = some (.int .i64 (n : Int)) ∧ W.cell? ⟨w.heap.size + 1, k * 2 + 1, none⟩ = some (.int .i64 bt) := fun W hW => by
        constructor
        · rw [cell_of_row _ _ _ _ _ _ hW, List.getElem?_toArray, Nat.mul_comm]; exact hc1
        · rw [cell_of_row _ _ _ _ _ _ hW, List.getElem?_toArray, Nat.mul_comm]; exact hc2
      have HC := hid c1
      obtain ⟨d1, d2⟩ := c1 wr HRr.out
      clear c1 hc1 hc2
      have HNT := hid hnet
      have HV4 := hid (fun W => H4.out n (by omega) W)
      have hbd := fun W => HBD.out false (v4B n) bt (v4B_len n) W
      have hbs := fun W => HBS.out ⟨false, v4B n, bt⟩ (v4B_len n) W
      have HAPP : Hid (∀ (W : World), Below wr.heap.size wr W → ∀ ty, ∃ g' cap' w', (appI #[33, 33] ty #[.slice (some ⟨g, 0, none⟩) k cap, .slice (some ⟨W.heap.size, 0, none⟩) 1 1]).run Try.prog (W.alloc (.cells (ncs ⟨false, v4B n, bt⟩) 26)) = .ok (.slice (some ⟨g', 0, none⟩) (k + 1) cap') w' ∧ OwnK w' 18 26 w.heap.size g' (k + 1) cap' (fC (k + 1)) ∧ w'.heap[w.heap.size + 1]? = some (.cells fourC.toArray 53 (0, 0)) ∧ Below w.heap.size w w' ∧ g' ≠ w.heap.size + 1 ∧ w.heap.size + 1 < w'.heap.size) := fun W hW ty => by
        have hOW := HOr.out.below hW (Nat.le_refl _)
        have hbW : Below w.heap.size w W := HBr.out.trans (hW.mono HBr.out.size)
        have hsz := hW.size
        obtain ⟨g', cap', w', h1, h2, h3, h4⟩ := app_one HNT.out (v4B_len n) (by omega) hOW hbW.size ty _ rfl _ rfl
        have hzz : (W.alloc (.cells (ncs ⟨false, v4B n, bt⟩) 26)).heap.size = W.heap.size + 1 := sz_alloc _ _
        refine ⟨g', cap', w', h1, h2, ?_, ?_, ?_, ?_⟩
        · rw [h3.block (w.heap.size + 1) (by rw [hzz]; omega) (fun e => hgn (by injection e with e; exact e.symm)), Below.heap_alloc W _ _ (by omega), hW.block _ hzr]
          exact HRr.out
        · exact (hOW.alloc _).grown (alloc_below hbW hbW.size _) (by rw [hzz]; have := hbW.size; omega) h3
        · rcases h4 with h4 | h4
          · rw [h4]; exact hgn
          · rw [h4, hzz]; omega
        · have := h3.size
          rw [hzz] at this
          omega
      have hnw : IntKind.u64.wrap (n : Int) = (n : Int) := by rw [IntKind.wrap_u64]; omega
      clear hnet
      generalize acs false (v4B n) = A4 at HV4 hbd
      generalize ncs ⟨false, v4B n, bt⟩ = NN at hbd hbs HAPP
      go_wp2_with fail
      have HSK : Hid (∀ W : World, W.heap[w.heap.size + 1]? = some (.cells fourC.toArray 53 (0, 0)) → W.cell? ⟨w.heap.size + 1, k * 2, none⟩ = some (.int .i64 (n : Int)) ∧ W.cell? ⟨w.heap.size + 1, k * 2 + 1, none⟩ = some (.int .i64 bt) ∧ Hid (W.heap[w.heap.size + 1]? = some (.cells fourC.toArray 53 (0, 0)))) := fun W h => ⟨(HC.out W h).1, (HC.out W h).2, h⟩
      go_region_held3 (fun W => W.cell? ⟨w.heap.size + 1, k * 2, none⟩ = some (.int .i64 (n : Int)) ∧ W.cell? ⟨w.heap.size + 1, k * 2 + 1, none⟩ = some (.int .i64 bt) ∧ Hid (W.heap[w.heap.size + 1]? = some (.cells fourC.toArray 53 (0, 0))))
        (first
          | exact HSK.out _ HRr.out
          | exact HSK.out _ HRR.out
          | exact HSK.out _ ((Below.heap_alloc _ _ _ (Nat.lt_of_lt_of_le hzr HB1.out.size)).trans ((HB1.out.block _ hzr).trans HRr.out))
          | exact HSK.out _ ((HB1.out.block _ hzr).trans HRr.out))
        ((first
          | (go_at_call 34; refine (HV4.out _).mono ?_; rintro e w1 ⟨rfl, hb⟩; have HB1 := hid (drew_below0 hb); obtain ⟨g', cap', w', ha, ho, hr, hb', hg', hz'⟩ := HAPP.out w1 HB1.out 33; have HOO := hid ho; have HRR := hid hr; have HBB := hid hb'; clear hb ho hr hb')
          | fail))
      all_goals
        clear d1 d2 hbd hbs
        go_wp2_with fail
        go_roundw
        case rel => exact ⟨k + 1, g', cap', by omega, by go_num, rfl, hg', hz', HOO, HRR, HBB⟩
        case measure => simp [intOf]; omega
    · have hk' : k = 15 := by omega
      subst hk'
      clear HRr hzr hgn HR HO hz
      go_wp2_with fail
      obtain ⟨W0, hW0⟩ : ∃ W0, W0 = wr.alloc (Obj.cells sixC.toArray 57) := ⟨_, rfl⟩
      have hs : W0.heap.size = wr.heap.size + 1 := by rw [hW0]; exact sz_alloc _ _
      have hgl := HOr.out.lt
      have HO2 : Hid (OwnK W0 18 26 w.heap.size g 15 cap (fC 15)) := by rw [hW0]; exact HOr.out.alloc _
      have HR2 : Hid (W0.heap[wr.heap.size]? = some (.cells sixC.toArray 57 (0, 0))) := by rw [hW0]; exact heap_alloc_new _ _
      have HB2 : Hid (Below w.heap.size w W0) := by rw [hW0]; exact alloc_below HBr.out HBr.out.size _
      have e6 : wr.alloc (Obj.cells #[.int .i64 0, .int .i64 0, .int .i64 0, .int .i64 0, .int .i64 128, .int .i64 0, .int .i64 0, .int .i64 0, .int .i64 1, .int .i64 128, .int .i64 100, .int .i64 65435, .int .i64 1, .int .i64 0, .int .i64 48, .int .i64 256, .int .i64 0, .int .i64 0, .int .i64 0, .int .i64 64, .int .i64 8193, .int .i64 0, .int .i64 0, .int .i64 0, .int .i64 23, .int .i64 8193, .int .i64 3512, .int .i64 0, .int .i64 0, .int .i64 32, .int .i64 16383, .int .i64 0, .int .i64 0, .int .i64 0, .int .i64 20, .int .i64 24320, .int .i64 0, .int .i64 0, .int .i64 0, .int .i64 16, .int .i64 64512, .int .i64 0, .int .i64 0, .int .i64 0, .int .i64 7, .int .i64 65152, .int .i64 0, .int .i64 0, .int .i64 0, .int .i64 10, .int .i64 65280, .int .i64 0, .int .i64 0, .int .i64 0, .int .i64 8] 57) = W0 := by rw [hW0]; rfl
      rw [e6]
      clear e6 hW0 HOr
      obtain ⟨D, hD⟩ : ∃ D, D = wr.heap.size := ⟨_, rfl⟩
      rw [← hD] at hs hgl HR2 ⊢
      have hwD : w.heap.size ≤ D := by rw [hD]; exact HBr.out.size
      clear hD HBr
      generalize Value.agg #[Value.int IntKind.i64 0, Value.int IntKind.i64 0, Value.int IntKind.i64 0, Value.int IntKind.i64 0, Value.int IntKind.i64 128] = y0
      generalize Value.agg #[Value.int IntKind.i64 0, Value.int IntKind.i64 0, Value.int IntKind.i64 0, Value.int IntKind.i64 1, Value.int IntKind.i64 128] = y1
      generalize Value.agg #[Value.int IntKind.i64 100, Value.int IntKind.i64 65435, Value.int IntKind.i64 1, Value.int IntKind.i64 0, Value.int IntKind.i64 48] = y2
      generalize Value.agg #[Value.int IntKind.i64 256, Value.int IntKind.i64 0, Value.int IntKind.i64 0, Value.int IntKind.i64 0, Value.int IntKind.i64 64] = y3
      generalize Value.agg #[Value.int IntKind.i64 8193, Value.int IntKind.i64 0, Value.int IntKind.i64 0, Value.int IntKind.i64 0, Value.int IntKind.i64 23] = y4
      generalize Value.agg #[Value.int IntKind.i64 8193, Value.int IntKind.i64 3512, Value.int IntKind.i64 0, Value.int IntKind.i64 0, Value.int IntKind.i64 32] = y5
      generalize Value.agg #[Value.int IntKind.i64 16383, Value.int IntKind.i64 0, Value.int IntKind.i64 0, Value.int IntKind.i64 0, Value.int IntKind.i64 20] = y6
      generalize Value.agg #[Value.int IntKind.i64 24320, Value.int IntKind.i64 0, Value.int IntKind.i64 0, Value.int IntKind.i64 0, Value.int IntKind.i64 16] = y7
      generalize Value.agg #[Value.int IntKind.i64 64512, Value.int IntKind.i64 0, Value.int IntKind.i64 0, Value.int IntKind.i64 0, Value.int IntKind.i64 7] = y8
      generalize Value.agg #[Value.int IntKind.i64 65152, Value.int IntKind.i64 0, Value.int IntKind.i64 0, Value.int IntKind.i64 0, Value.int IntKind.i64 10] = y9
      generalize Value.agg #[Value.int IntKind.i64 65280, Value.int IntKind.i64 0, Value.int IntKind.i64 0, Value.int IntKind.i64 0, Value.int IntKind.i64 8] = y10
      have HAPI : Hid (∀ (k g cap : Nat) (W : World) (n : NetV), forbL[k]? = some n → n.B.length = 16 → k ≤ 26 → OwnK W 18 26 w.heap.size g k cap (fC k) → w.heap.size ≤ W.heap.size → ∀ ty, ∃ g' cap' w', (appI #[33, 33] ty #[.slice (some ⟨g, 0, none⟩) k cap, .slice (some ⟨W.heap.size, 0, none⟩) 1 1]).run Try.prog (W.alloc (.cells (ncs n) 26)) = .ok (.slice (some ⟨g', 0, none⟩) (k + 1) cap') w' ∧ OwnK w' 18 26 w.heap.size g' (k + 1) cap' (fC (k + 1)) ∧ (W.alloc (.cells (ncs n) 26)).grownBy w' (some g) ∧ (g' = g ∨ g' = (W.alloc (.cells (ncs n) 26)).heap.size)) := fun k g cap W n h1 h2 h3 h4 h5 ty => app_one h1 h2 h3 h4 h5 ty _ rfl _ rfl
      have HSX := hid six_forb
      have HSC := hid six_cells
      have HSD := hid six_cells3
      have HNX := hid v6L_next
      go_loopw [1, 5, 6, 7] (fun ov iv _ _ wx => ∃ (i g cap : Nat), i ≤ 11 ∧ iv = .int .i64 (i : Int) ∧ ov = .slice (some ⟨g, 0, none⟩) ((15 + i : Nat)) cap ∧ g ≠ D ∧ D < wx.heap.size ∧ Hid (OwnK wx 18 26 w.heap.size g (15 + i) cap (fC (15 + i))) ∧ Hid (wx.heap[D]? = some (.cells sixC.toArray 57 (0, 0))) ∧ Hid (Below w.heap.size w wx)) (fun _ i _ _ _ => 11 - (intOf i).toNat)
      case atStart => exact ⟨0, g, cap, by omega, rfl, rfl, by omega, by omega, HO2, HR2, HB2⟩
      case round =>
        obtain ⟨i, g2, cap2, hi, rfl, rfl, hg2, hzx, HOx, HRx, HBx⟩ := hrel
        obtain ⟨U1, hU1⟩ : ∃ U1, U1 = wr := ⟨_, rfl⟩
        subst hU1
        by_cases hi11 : (i : Int) < 11
        · obtain ⟨hf, hg3, hgl3, hl⟩ := HSX.out ⟨i, by omega⟩
          have hcj := HSC.out i (by omega)
          obtain ⟨hc3, hc4⟩ := HSD.out i (by omega)
          simp only at hf hg3 hgl3 hl
          generalize (sixL.getD i ([], 0, 0)).1 = gs at hf hg3 hgl3 hcj
          generalize (sixL.getD i ([], 0, 0)).2.1 = ll at hf hl hc3
          generalize (sixL.getD i ([], 0, 0)).2.2 = bb at hf hc4
          have HF := hid hf
          have HCJ : Hid (∀ W : World, W.heap[D]? = some (.cells sixC.toArray 57 (0, 0)) → ∀ j, j < 3 → ∃ x : Nat, gs[j]? = some x ∧ x < 65536 ∧ W.cell? ⟨D, i * 5 + j, none⟩ = some (.int .i64 (x : Int))) := fun W hW j hj => by
            have hx : gs[j]? = some gs[j] := List.getElem?_eq_getElem (by omega)
            refine ⟨gs[j], hx, hgl3 _ (List.getElem_mem _), ?_⟩
            rw [cell_of_row _ _ _ _ _ _ hW, List.getElem?_toArray, hcj j hj, hx]; rfl
          have HC3 : Hid (∀ W : World, W.heap[D]? = some (.cells sixC.toArray 57 (0, 0)) → W.cell? ⟨D, i * 5 + 3, none⟩ = some (.int .i64 (ll : Int)) ∧ W.cell? ⟨D, i * 5 + 4, none⟩ = some (.int .i64 bb)) := fun W hW => by
            rw [cell_of_row _ _ _ _ _ _ hW, cell_of_row _ _ _ _ _ _ hW, List.getElem?_toArray, List.getElem?_toArray]; exact ⟨hc3, hc4⟩
          clear hf hcj hc3 hc4 hgl3
          have hx4 := (HC3.out _ HRx.out).2
          have HBU := hid built_v6
          have HBN := hid (built_net true (zer 16) bb rfl)
          have HZL : Hid ((⟨true, zer 16, bb⟩ : NetV).B.length = 16) := rfl
          generalize acs true (zer 16) = AZ at HBU HBN
          go_wp2_with (first
            | (refine wpList_built rfl 24 _ rfl AZ HBU.out ?_)
            | (refine wpList_built rfl 26 _ rfl (ncs ⟨true, zer 16, bb⟩) HBN.out ?_)
            | (refine store_net rfl _ _ rfl U1.heap.size ⟨true, zer 16, bb⟩ rfl rfl rfl _ (heap_alloc_new U1 _) rfl ?_)
            | fail)
          intro W2 hO2 hW2
          have z2 : W2.heap.size = U1.heap.size + 1 := by rw [hO2.size]; simp
          have HK2 : Hid (∀ b, b < U1.heap.size → W2.heap[b]? = U1.heap[b]?) := fun b hb => (hO2.block b (by omega)).trans (Below.heap_alloc _ _ _ hb)
          have HO2' : Hid (OwnK W2 18 26 w.heap.size g2 (15 + i) cap2 (fC (15 + i))) := HOx.out.kept (HK2.out _ HOx.out.lt)
          have HR2' : Hid (W2.heap[D]? = some (.cells sixC.toArray 57 (0, 0))) := (HK2.out _ hzx).trans HRx.out
          have HB2' : Hid (Below w.heap.size w W2) := (alloc_below HBx.out HBx.out.size _).trans (hO2.below HBx.out.size)
          have HN2 : Hid (W2.heap[U1.heap.size]? = some (.cells (ncs ⟨true, v6L (gs.take 0), bb⟩) 26 (0, 0))) := by show _ = _; rw [v6L_take0]; exact hW2
          have hgl2 := HOx.out.lt
          have hwM := HBx.out.size
          obtain ⟨M, hM⟩ : ∃ M, M = U1.heap.size := ⟨_, rfl⟩
          rw [← hM] at z2 HN2 hgl2 hzx hwM ⊢
          clear hM hO2 hW2 HK2 HOx HRx HBx hx4 HBU HBN HZL
          go_wp2_with fail
          go_loopw [7] (fun kv wy => ∃ k : Nat, k ≤ 3 ∧ kv = .int .i64 (k : Int) ∧ M < wy.heap.size ∧ Hid (wy.heap[M]? = some (.cells (ncs ⟨true, v6L (gs.take k), bb⟩) 26 (0, 0))) ∧ Hid (OwnK wy 18 26 w.heap.size g2 (15 + i) cap2 (fC (15 + i))) ∧ Hid (wy.heap[D]? = some (.cells sixC.toArray 57 (0, 0))) ∧ Hid (Below w.heap.size w wy)) (fun k _ => 3 - (intOf k).toNat)
          case atStart => exact ⟨0, by omega, rfl, by omega, HN2, HO2', HR2', HB2'⟩
          case round =>
            obtain ⟨k, hk, rfl, hzy, HNy, HOy, HRy, HBy⟩ := hrel
            by_cases hk3 : (k : Int) < 3
            · obtain ⟨x, hx, hxl, hcx⟩ := HCJ.out wr HRy.out k (by omega)
              have HNN := hid (HNX.out gs k x hx)
              clear hx
              have E1 : Hid ((x : Int) / 256 = ((UInt8.ofNat (x / 256)).toNat : Int)) := by show _ = _; rw [ofNat_wrap, IntKind.wrap_u8]; omega
              have E2 : Hid ((x : Int) % 256 = ((UInt8.ofNat x).toNat : Int)) := by show _ = _; rw [ofNat_wrap, IntKind.wrap_u8]
              have HL : Hid ((⟨true, v6L (gs.take k), bb⟩ : NetV).B.length = 16) := v6L_len _
              generalize UInt8.ofNat (x / 256) = y1 at E1 HNN
              generalize UInt8.ofNat x = y2 at E2 HNN
              go_wp2_with (first
                | (refine store_byteN rfl _ _ rfl M _ (2 * k) ⟨true, v6L (gs.take k), bb⟩ (by rw [HL.out]; omega) y1 _ rfl (by omega) rfl E1.out HNy.out ?_)
                | fail)
              intro W3 hO3 hW3
              have HN3 := hid hW3
              have HR3 : Hid (W3.heap[D]? = some (.cells sixC.toArray 57 (0, 0))) := (hO3.block _ (by omega)).trans HRy.out
              have HO3 : Hid (OwnK W3 18 26 w.heap.size g2 (15 + i) cap2 (fC (15 + i))) := HOy.out.kept (hO3.block _ (by omega))
              have HB3 : Hid (Below w.heap.size w W3) := HBy.out.trans (hO3.below hwM)
              have z3 : M < W3.heap.size := by rw [hO3.size]; exact hzy
              have hc3 : W3.cell? ⟨D, i * 5 + k, none⟩ = some (.int .i64 (x : Int)) := by
                rw [← hcx, cell_of_row _ _ _ _ _ _ HR3.out, cell_of_row _ _ _ _ _ _ HRy.out]
              have HL2 : Hid ((⟨true, (v6L (gs.take k)).set (2 * k) y1, bb⟩ : NetV).B.length = 16) := by show ((v6L (gs.take k)).set (2 * k) y1).length = 16; rw [List.length_set]; exact v6L_len _
              clear hcx hW3 hO3 HNy HOy HRy HBy
              go_wp2_with (first
                | (refine store_byteN rfl _ _ rfl M _ (2 * k + 1) ⟨true, (v6L (gs.take k)).set (2 * k) y1, bb⟩ (by rw [HL2.out]; omega) y2 _ rfl (by omega) rfl E2.out HN3.out ?_)
                | fail)
              intro W4 hO4 hW4
              have HN4 : Hid (W4.heap[M]? = some (.cells (ncs ⟨true, v6L (gs.take (k + 1)), bb⟩) 26 (0, 0))) := by show _ = _; rw [← HNN.out]; exact hW4
              have HR4 : Hid (W4.heap[D]? = some (.cells sixC.toArray 57 (0, 0))) := (hO4.block _ (by omega)).trans HR3.out
              have HO4 : Hid (OwnK W4 18 26 w.heap.size g2 (15 + i) cap2 (fC (15 + i))) := HO3.out.kept (hO4.block _ (by omega))
              have HB4 : Hid (Below w.heap.size w W4) := HB3.out.trans (hO4.below hwM)
              have z4 : M < W4.heap.size := by rw [hO4.size]; exact z3
              clear hW4 hO4 hc3
              go_wp2_with fail
              go_roundw
              case rel => exact ⟨k + 1, by omega, by go_num, z4, HN4, HO4, HR4, HB4⟩
              case measure => simp [intOf]; omega
            · have hk' : k = 3 := by omega
              subst hk'
              have HT3 : Hid (gs.take 3 = gs) := List.take_of_length_le (by omega)
              rw [HT3.out] at HNy
              have hc3 := (HC3.out wr HRy.out).1
              have E3 : Hid ((ll : Int) = ((UInt8.ofNat ll).toNat : Int)) := by show _ = _; rw [ofNat_wrap, IntKind.wrap_u8]; omega
              have HL : Hid ((⟨true, v6L gs, bb⟩ : NetV).B.length = 16) := v6L_len _
              have hlw : IntKind.u8.wrap (ll : Int) = (ll : Int) := by rw [IntKind.wrap_u8]; omega
              generalize UInt8.ofNat ll = y3 at E3 HF
              go_wp2_with (first
                | (refine store_byteN rfl _ _ rfl M _ 15 ⟨true, v6L gs, bb⟩ (by rw [HL.out]; omega) y3 _ rfl (by omega) rfl E3.out HNy.out ?_)
                | fail)
              intro W5 hO5 hW5
              have HN5 : Hid (W5.heap[M]? = some (.cells (ncs ⟨true, (v6L gs).set 15 y3, bb⟩) 26 (0, 0))) := hW5
              have HR5 : Hid (W5.heap[D]? = some (.cells sixC.toArray 57 (0, 0))) := (hO5.block _ (by omega)).trans HRy.out
              have HO5 : Hid (OwnK W5 18 26 w.heap.size g2 (15 + i) cap2 (fC (15 + i))) := HOy.out.kept (hO5.block _ (by omega))
              have HB5 : Hid (Below w.heap.size w W5) := HBy.out.trans (hO5.below hwM)
              have z5 : M < W5.heap.size := by rw [hO5.size]; exact hzy
              have HL5 : Hid ((⟨true, (v6L gs).set 15 y3, bb⟩ : NetV).B.length = 16) := by show ((v6L gs).set 15 y3).length = 16; rw [List.length_set]; exact v6L_len _
              obtain ⟨g', cap', w', ha, ho, hgr, hg'⟩ := HAPI.out (15 + i) g2 cap2 W5 _ HF.out HL5.out (by omega) HO5.out HB5.out.size 33
              have hbs := fun W => HBS.out ⟨true, (v6L gs).set 15 y3, bb⟩ HL5.out W
              have hzz : (W5.alloc (.cells (ncs ⟨true, (v6L gs).set 15 y3, bb⟩) 26)).heap.size = W5.heap.size + 1 := sz_alloc _ _
              have HOO := hid ho
              have HRR : Hid (w'.heap[D]? = some (.cells sixC.toArray 57 (0, 0))) := by
                show _ = _
                rw [hgr.block D (by rw [hzz]; omega) (fun e => hg2 (by injection e with e; exact e.symm)), Below.heap_alloc W5 _ _ (by omega)]
                exact HR5.out
              have HBB : Hid (Below w.heap.size w w') := (HO5.out.alloc _).grown (alloc_below HB5.out HB5.out.size _) (by rw [hzz]; have := HB5.out.size; omega) hgr
              have hgD : g' ≠ D := by
                rcases hg' with h4 | h4
                · rw [h4]; exact hg2
                · rw [h4, hzz]; omega
              have hzD : D < w'.heap.size := by have := hgr.size; rw [hzz] at this; omega
              have l5 := loadN_row HL5.out HN5.out
              clear hW5 hO5 hc3 ho hgr hg' hzz HF
              generalize ncs ⟨true, (v6L gs).set 15 y3, bb⟩ = NF at ha hbs l5 HN5
              go_wp2_with fail
              go_roundw
              case rel => exact ⟨i + 1, g', cap', by omega, by go_num, rfl, hgD, hzD, HOO, HRR, HBB⟩
              case measure => simp [intOf]; omega
        · have hi' : i = 11 := by omega
          subst hi'
          go_wp2_with fail
          go_ret
          obtain ⟨rest, hrow, _, _⟩ := HOx.out.row
          exact ⟨g2, ⟨cap2, rfl⟩, HOx.out.ge, ⟨rest, hrow⟩, HBx.out⟩
end Go.Proofs.Ytocdjgehjiolhaa
