
/- Nets as values of eighteen cells: their parts, and when two are equal. -/
import Derived.Test.YtocdjgehjiolhaaGreatDoorAddr
import Derived.Test.YtocdjgehjiolhaaGreatDoorIpBook
namespace Go.Proofs.YtocdjgehjiolhaaGreatDoor
open Go.RowKit
set_option linter.unusedSimpArgs false

/-- The cells of a net. -/
def nvs (n : NetV) : List Value := Value.bool n.v :: (bvs n.B ++ [.int .i64 n.k])
def ncs (n : NetV) : Array Value := (nvs n).toArray
theorem bvs_length (B : List UInt8) : (bvs B).length = B.length := by simp [bvs]
theorem nvs_len (n : NetV) (h : n.B.length = 16) : (nvs n).length = 18 := by simp [nvs, bvs_length, h]
theorem ncs_size (n : NetV) (h : n.B.length = 16) : (ncs n).size = 18 := by simpa [ncs] using nvs_len n h
theorem ncs_info (n : NetV) (h : n.B.length = 16) : (Tryz.prog.info? 26).map (·.size) = some (ncs n).size := by rw [ncs_size n h]; kernel_rfl
theorem nvs_one (n : NetV) : ∀ u ∈ nvs n, u.oneCell' = true := fun u hu => by
  unfold nvs at hu
  rw [List.mem_cons, List.mem_append, List.mem_singleton] at hu
  rcases hu with rfl | hu | rfl
  · rfl
  · exact bvs_one' n.B u hu
  · rfl
theorem ncs_one (n : NetV) : (ncs n).all (·.oneCell') = true := by
  simp only [ncs, List.all_toArray, List.all_eq_true]
  exact nvs_one n
theorem ncs_addr (n : NetV) (h : n.B.length = 16) : (ncs n).extract 0 17 = acs n.v n.B := by
  unfold ncs acs nvs
  rw [List.extract_toArray]
  refine congrArg List.toArray ?_
  show List.take 17 (Value.bool n.v :: (bvs n.B ++ [Value.int IntKind.i64 n.k])) = _
  rw [List.take_succ_cons, List.take_append_of_le_length (by rw [bvs_length]; omega), List.take_of_length_le (by rw [bvs_length]; omega)]
theorem ncs_bits (n : NetV) (h : n.B.length = 16) : (ncs n)[17]? = some (.int .i64 n.k) := by
  unfold ncs nvs
  rw [List.getElem?_toArray, List.getElem?_cons_succ, List.getElem?_append_right (by rw [bvs_length]; omega), bvs_length, h]
  rfl
theorem ncs_zero (n : NetV) : (ncs n)[0]? = some (.bool n.v) := by simp [ncs, nvs]
theorem ncs_at (n : NetV) (j : Nat) (hj : j < n.B.length) : (ncs n)[j + 1]? = some (.int .u8 (n.B.getD j 0).toNat) := by
  have := bcs_at n.B j hj
  unfold ncs nvs
  rw [List.getElem?_toArray, List.getElem?_cons_succ, List.getElem?_append_left (by rw [bvs_length]; omega)]
  simpa [bcs, bvs] using this
theorem nvs_eq (n : NetV) : nvs n = (acs n.v n.B).toList ++ [.int .i64 n.k] := by simp [nvs, acs]
theorem built_netZ : Tryz.prog.built 26 [] = some (ncs ⟨false, zer 16, 0⟩) := by kernel_rfl
theorem built_net (v : Bool) (B : List UInt8) (k : Int) (h : B.length = 16) : Tryz.prog.built 26 [(0, .agg (acs v B)), (1, .int .i64 k)] = some (ncs ⟨v, B, k⟩) := by
  obtain ⟨_, _, _, _, _, _, _, _, _, _, _, _, _, _, _, _, rfl⟩ := letters B h
  kernel_rfl

theorem part_Addr (n : NetV) (h : n.B.length = 16) (w : World) : (part 24 (ncs n) 0).run Tryz.prog w = .ok (.agg (acs n.v n.B)) w := by
  have e := ncs_addr n h
  simp [part, Tryz.isAgg24, Tryz.sizeOf24, e]
theorem part_Bits (n : NetV) (h : n.B.length = 16) (w : World) : (part 3 (ncs n) 17).run Tryz.prog w = .ok (.int .i64 n.k) w := by
  have e := ncs_bits n h
  simp [part, Tryz.isAgg3, e]
theorem eqNF (a b : NetV) (ha : a.B.length = 16) (hb : b.B.length = 16) (d : Nat) (f g : Field) (hf : f.name ≠ "_" ∧ f.type = 24 ∧ f.offset = 0) (hg : g.name ≠ "_" ∧ g.type = 3 ∧ g.offset = 17) (w : World) : (Op.eqFields (d + 1 + 1 + 1) (ncs a) (ncs b) [f, g]).run Tryz.prog w = .ok (eqNV a b) w := by
  have hi := fun w => run_equalIn_int (P := Tryz.prog) w (d + 1 + 1) 3 .i64 .i64 a.k b.k Tryz.underlying3
  have h1 := part_Addr a ha
  have h2 := part_Addr b hb
  have h3 := part_Bits a ha
  have h4 := part_Bits b hb
  have h5 := eqA' a.v b.v a.B b.B ha hb d
  simp only [Op.eqFields, Sem.run_bind, Sem.run_ite, if_pos hf.1, if_pos hg.1, hf.2.1, hf.2.2, hg.2.1, hg.2.2, h1, h2, h3, h4, h5, hi, Result.andThen_ok, Sem.run_pure]
  unfold eqNV
  by_cases hv : a.v = b.v ∧ a.B = b.B
  · by_cases hk : a.k = b.k
    · simp [decide_eq_true hv, hk, hv]
    · simp [decide_eq_true hv, hk, hv]
  · simp [decide_eq_false hv, hv]
theorem eqN (a b : NetV) (ha : a.B.length = 16) (hb : b.B.length = 16) (w : World) : (Op.equalIn 10000 26 (.agg (ncs a)) (.agg (ncs b))).run Tryz.prog w = .ok (eqNV a b) w := by
  obtain ⟨f, g, hf, h1, h2⟩ : ∃ f g : Field, Tryz.prog.fieldsOf 26 = #[f, g] ∧ (f.name ≠ "_" ∧ f.type = 24 ∧ f.offset = 0) ∧ (g.name ≠ "_" ∧ g.type = 3 ∧ g.offset = 17) :=
    ⟨{ name := "Addr", type := 24, offset := 0, embedded := false, tag := "", pkgPath := "", byteOffset := 0 }, { name := "Bits", type := 3, offset := 17, embedded := false, tag := "", pkgPath := "", byteOffset := 24 }, by kernel_rfl, ⟨by decide, rfl, rfl⟩, ⟨by decide, rfl, rfl⟩⟩
  have hs : Tryz.prog.underlying 26 = some (.struct (Tryz.prog.fieldsOf 26)) := by kernel_rfl
  rw [show (10000 : Nat) = 9996 + 1 + 1 + 1 + 1 from rfl, run_equalIn_struct w (9996 + 1 + 1 + 1) 26 _ _ hs (by kernel_rfl), hf]
  exact eqNF a b ha hb 9996 f g h1 h2 w
theorem store_net {ops : Array Oper} {rest : List Oper} {op : Oper} {a : Act} {w : World} {Q : Exit → Act → World → Prop} (hgd : op.guard = none) (x y : Operand) (ho : op.op = .store 26 x y)
    (b : Nat) (n : NetV) (hB : n.B.length = 16) (hx : a.eval x = .pointer (some ⟨b, 0, none⟩)) (hy : a.eval y = .agg (ncs n))
    (cs : Array Value) (hrow : w.heap[b]? = some (.cells cs 26 (0, 0))) (hcs : cs.size = 18)
    (h : ∀ W, Only b w W → W.heap[b]? = some (.cells (ncs n) 26 (0, 0)) → wpList Tryz.prog ops Q rest (a.put op.dst undef) W) : wpList Tryz.prog ops Q (op :: rest) a w :=
  wpList_store_abs hgd 26 x y ho b 0 (ncs n) hx hy 26 cs hrow (by rw [ncs_size n hB, hcs]; exact Nat.le_refl _) (ncs_info n hB) (ncs_one n)
    (fun W h1 h2 => h W h1 (by rw [h2, over_whole cs (ncs n) (by rw [ncs_size n hB, hcs])]))
theorem load_net {ops : Array Oper} {rest : List Oper} {op : Oper} {a : Act} {w : World} {Q : Exit → Act → World → Prop} (hgd : op.guard = none) (x : Operand) (ho : op.op = .load 26 x)
    (b : Nat) (n : NetV) (hB : n.B.length = 16) (hx : a.eval x = .pointer (some ⟨b, 0, none⟩)) (fr : Nat × Nat) (hrow : w.heap[b]? = some (.cells (ncs n) 26 fr))
    (h : wpList Tryz.prog ops Q rest (a.put op.dst (.agg (ncs n))) w) : wpList Tryz.prog ops Q (op :: rest) a w :=
  wpList_load_row hgd 26 x ho b hx 26 (ncs n) fr _ hrow Tryz.underlying26 rfl (ncs_info n hB) h
theorem ret_net2 {fn : Func} {p q : Tmp} (h : fn.results = #[.cell p 26, .tmp q]) (tmps : Array Value) (w : World) (b : Nat) (n : NetV) (hB : n.B.length = 16) (fr : Nat × Nat) (u : Value) (hp : tmps[p]? = some (.pointer (some ⟨b, 0, none⟩))) (hq : tmps[q]? = some u) (hrow : w.heap[b]? = some (.cells (ncs n) 26 fr)) :
    (results fn tmps).run Tryz.prog w = .ok (.tuple #[.agg (ncs n), u]) w :=
  results_row_tmp h tmps w b 26 (ncs n) fr _ u hp hq hrow Tryz.underlying26 rfl (ncs_info n hB)
/-- The address of a net is loaded. -/
theorem loadNA_row {w : World} {g : Nat} {n : NetV} {fr : Nat × Nat} (hB : n.B.length = 16) (h : w.heap[g]? = some (.cells (ncs n) 26 fr)) : (loadI 24 (.pointer (some ⟨g, 0, none⟩))).run Tryz.prog w = .ok (.agg (acs n.v n.B)) w :=
  run_loadAt_mid w g 0 24 (acs n.v n.B).toList _ (range_row (a := []) (b := (acs n.v n.B).toList) (c := [.int .i64 n.k]) (t := 26) (fr := fr) (by rw [List.nil_append, ← nvs_eq]; exact h) 0 rfl) Tryz.underlying24 rfl (by rw [acs_info n.v n.B hB]; simp)
theorem loadN_eq (x : Value) : Instr.loadAt 26 x = loadI 26 x := rfl
theorem loadN_row {w : World} {g : Nat} {n : NetV} {fr : Nat × Nat} (hB : n.B.length = 16) (h : w.heap[g]? = some (.cells (ncs n) 26 fr)) : (loadI 26 (.pointer (some ⟨g, 0, none⟩))).run Tryz.prog w = .ok (.agg (ncs n)) w :=
  run_loadAt_mid w g 0 26 (ncs n).toList _ (row_range h) Tryz.underlying26 rfl (by rw [ncs_info n hB]; simp)
end Go.Proofs.YtocdjgehjiolhaaGreatDoor
