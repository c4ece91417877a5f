
/- URLs as values of twelve cells: their parts, and when two are equal. -/
import Derived.Test.YtlblefcmilfjdaaGreatDoorAddr
import Derived.Test.YtlblefcmilfjdaaGreatDoorIpFour
import Derived.Test.YtlblefcmilfjdaaGreatDoorUrCode
namespace Go.Proofs.YtlblefcmilfjdaaGreatDoor
open Go.RowKit
set_option linter.unusedSimpArgs false
set_option linter.unusedVariables false

/-- The cells of a URL. -/
def uvs (u : UrlV) : List Value := [.string (asS u.scheme), .string (asS u.user), .bool u.hasUser, .string (asS u.host), .string (asS u.port), .bool u.hasPort, .bool u.hasAuth, .string (asS u.path), .string (asS u.query), .bool u.hasQuery, .string (asS u.frag), .bool u.hasFrag]
def ucs (u : UrlV) : Array Value := (uvs u).toArray
theorem ucs_size (u : UrlV) : (ucs u).size = 12 := rfl
theorem url_size : (Tryz.prog.info? 26).map (·.size) = some 12 := by kernel_rfl
theorem ucs_info (u : UrlV) : (Tryz.prog.info? 26).map (·.size) = some (ucs u).size := url_size
theorem ucs_one (u : UrlV) : (ucs u).all (·.oneCell') = true := by
  simp only [ucs, List.all_toArray]
  rfl
theorem built_urlZ : Tryz.prog.built 26 [] = some (ucs zeroU) := by kernel_rfl
theorem strU (a b : List UInt8) : ((asS a).toList == (asS b).toList) = decide (a = b) := str_same a b
/-- Are two the same? -/
def eqUV (a b : UrlV) : Bool := decide (a.scheme = b.scheme) && (decide (a.user = b.user) && (decide (a.hasUser = b.hasUser) && (decide (a.host = b.host) && (decide (a.port = b.port) && (decide (a.hasPort = b.hasPort) && (decide (a.hasAuth = b.hasAuth) && (decide (a.path = b.path) && (decide (a.query = b.query) && (decide (a.hasQuery = b.hasQuery) && (decide (a.frag = b.frag) && decide (a.hasFrag = b.hasFrag)))))))))))
theorem eqUV_iff (a b : UrlV) : eqUV a b = true ↔ a = b := by
  unfold eqUV
  constructor
  · intro h
    simp only [Bool.and_eq_true, decide_eq_true_iff] at h
    obtain ⟨h1, h2, h3, h4, h5, h6, h7, h8, h9, h10, h11, h12⟩ := h
    obtain ⟨a1, a2, a3, a4, a5, a6, a7, a8, a9, a10, a11, a12⟩ := a
    obtain ⟨b1, b2, b3, b4, b5, b6, b7, b8, b9, b10, b11, b12⟩ := b
    simp only at h1 h2 h3 h4 h5 h6 h7 h8 h9 h10 h11 h12
    subst h1; subst h2; subst h3; subst h4; subst h5; subst h6; subst h7; subst h8; subst h9; subst h10; subst h11; subst h12
    rfl
  · rintro rfl
    simp
theorem eqUV_self (a : UrlV) : eqUV a a = true := (eqUV_iff a a).2 rfl
theorem eqUV_ne {a b : UrlV} (h : a ≠ b) : eqUV a b = false := by
  cases hb : eqUV a b with
  | false => rfl
  | true => exact absurd ((eqUV_iff a b).1 hb) h
theorem eqF_str (d : Nat) (cs ds : Array Value) (f : Field) (rest : List Field) (hf : f.name ≠ "_") (ht : f.type = 9) (x y : List UInt8) (hx : cs[f.offset]? = some (.string (asS x))) (hy : ds[f.offset]? = some (.string (asS y))) (w : World) (r : Bool)
    (hr : (Op.eqFields (d + 1) cs ds rest).run Tryz.prog w = .ok r w) : (Op.eqFields (d + 1) cs ds (f :: rest)).run Tryz.prog w = .ok (decide (x = y) && r) w := by
  have h1 : (part 9 cs f.offset).run Tryz.prog w = .ok (.string (asS x)) w := by simp [part, Tryz.isAgg9, hx]
  have h2 : (part 9 ds f.offset).run Tryz.prog w = .ok (.string (asS y)) w := by simp [part, Tryz.isAgg9, hy]
  have h3 := run_equalIn_string (P := Tryz.prog) w d 9 (asS x) (asS y) Tryz.underlying9
  rw [strU] at h3
  simp only [Op.eqFields, Sem.run_bind, Sem.run_ite, if_pos hf, ht, h1, h2, h3, Result.andThen_ok, Sem.run_pure]
  cases decide (x = y) with
  | true => simp [hr]
  | false => simp
theorem eqF_bool (d : Nat) (cs ds : Array Value) (f : Field) (rest : List Field) (hf : f.name ≠ "_") (ht : f.type = 4) (x y : Bool) (hx : cs[f.offset]? = some (.bool x)) (hy : ds[f.offset]? = some (.bool y)) (w : World) (r : Bool)
    (hr : (Op.eqFields (d + 1) cs ds rest).run Tryz.prog w = .ok r w) : (Op.eqFields (d + 1) cs ds (f :: rest)).run Tryz.prog w = .ok (decide (x = y) && r) w := by
  have h1 : (part 4 cs f.offset).run Tryz.prog w = .ok (.bool x) w := by simp [part, Tryz.isAgg4, hx]
  have h2 : (part 4 ds f.offset).run Tryz.prog w = .ok (.bool y) w := by simp [part, Tryz.isAgg4, hy]
  have h3 := run_equalIn_bool' (P := Tryz.prog) w d 4 x y Tryz.underlying4
  have e : (x == y) = decide (x = y) := by cases x <;> cases y <;> rfl
  rw [e] at h3
  simp only [Op.eqFields, Sem.run_bind, Sem.run_ite, if_pos hf, ht, h1, h2, h3, Result.andThen_ok, Sem.run_pure]
  cases decide (x = y) with
  | true => simp [hr]
  | false => simp
def fldU (n : String) (t : TypeId) (o bo : Nat) : Field := { name := n, type := t, offset := o, embedded := false, tag := "", pkgPath := "", byteOffset := bo }
theorem fieldsU : Tryz.prog.fieldsOf 26 = #[fldU "Scheme" 9 0 0, fldU "User" 9 1 16, fldU "HasUser" 4 2 32, fldU "Host" 9 3 40, fldU "Port" 9 4 56, fldU "HasPort" 4 5 72, fldU "HasAuth" 4 6 73, fldU "Path" 9 7 80, fldU "Query" 9 8 96, fldU "HasQuery" 4 9 112, fldU "Frag" 9 10 120, fldU "HasFrag" 4 11 136] := by kernel_rfl
theorem eqFnil (d : Nat) (cs ds : Array Value) (w : World) : (Op.eqFields (d + 1) cs ds []).run Tryz.prog w = .ok true w := by simp [Op.eqFields]
theorem eqU (a b : UrlV) (w : World) : (Op.equalIn 10000 26 (.agg (ucs a)) (.agg (ucs b))).run Tryz.prog w = .ok (eqUV a b) w := by
  have hs : Tryz.prog.underlying 26 = some (.struct (Tryz.prog.fieldsOf 26)) := by kernel_rfl
  rw [show (10000 : Nat) = 9998 + 1 + 1 from rfl, run_equalIn_struct w (9998 + 1) 26 _ _ hs (by kernel_rfl), fieldsU]
  unfold eqUV
  refine eqF_str 9998 _ _ _ _ (by decide) rfl a.scheme b.scheme rfl rfl w _ ?_
  refine eqF_str 9998 _ _ _ _ (by decide) rfl a.user b.user rfl rfl w _ ?_
  refine eqF_bool 9998 _ _ _ _ (by decide) rfl a.hasUser b.hasUser rfl rfl w _ ?_
  refine eqF_str 9998 _ _ _ _ (by decide) rfl a.host b.host rfl rfl w _ ?_
  refine eqF_str 9998 _ _ _ _ (by decide) rfl a.port b.port rfl rfl w _ ?_
  refine eqF_bool 9998 _ _ _ _ (by decide) rfl a.hasPort b.hasPort rfl rfl w _ ?_
  refine eqF_bool 9998 _ _ _ _ (by decide) rfl a.hasAuth b.hasAuth rfl rfl w _ ?_
  refine eqF_str 9998 _ _ _ _ (by decide) rfl a.path b.path rfl rfl w _ ?_
  refine eqF_str 9998 _ _ _ _ (by decide) rfl a.query b.query rfl rfl w _ ?_
  refine eqF_bool 9998 _ _ _ _ (by decide) rfl a.hasQuery b.hasQuery rfl rfl w _ ?_
  refine eqF_str 9998 _ _ _ _ (by decide) rfl a.frag b.frag rfl rfl w _ ?_
  have := eqF_bool 9998 (ucs a) (ucs b) (fldU "HasFrag" 4 11 136) [] (by decide) rfl a.hasFrag b.hasFrag rfl rfl w true (eqFnil 9998 _ _ w)
  rw [Bool.and_true] at this
  exact this
theorem guardU : Tryz.prog.eqGuardType Tryz.prog.depth 26 = false := by kernel_rfl
theorem store_url {ops : Array Oper} {rest : List Oper} {op : Oper} {a : Act} {w : World} {Q : Exit → Act → World → Prop} (hgd : op.guard = none) (x y : Operand) (ho : op.op = .store 26 x y)
    (b : Nat) (u : UrlV) (hx : a.eval x = .pointer (some ⟨b, 0, none⟩)) (hy : a.eval y = .agg (ucs u))
    (cs : Array Value) (hrow : w.heap[b]? = some (.cells cs 26 (0, 0))) (hcs : cs.size = 12)
    (h : ∀ W, Only b w W → W.heap[b]? = some (.cells (ucs u) 26 (0, 0)) → wpList Tryz.prog ops Q rest (a.put op.dst undef) W) : wpList Tryz.prog ops Q (op :: rest) a w :=
  wpList_store_abs hgd 26 x y ho b 0 (ucs u) hx hy 26 cs hrow (by rw [ucs_size, hcs]; exact Nat.le_refl _) (ucs_info u) (ucs_one u)
    (fun W h1 h2 => h W h1 (by rw [h2, over_whole cs (ucs u) (by rw [ucs_size, hcs])]))
theorem load_url {ops : Array Oper} {rest : List Oper} {op : Oper} {a : Act} {w : World} {Q : Exit → Act → World → Prop} (hgd : op.guard = none) (x : Operand) (ho : op.op = .load 26 x)
    (b : Nat) (u : UrlV) (hx : a.eval x = .pointer (some ⟨b, 0, none⟩)) (fr : Nat × Nat) (hrow : w.heap[b]? = some (.cells (ucs u) 26 fr))
    (h : wpList Tryz.prog ops Q rest (a.put op.dst (.agg (ucs u))) w) : wpList Tryz.prog ops Q (op :: rest) a w :=
  wpList_load_row hgd 26 x ho b hx 26 (ucs u) fr _ hrow Tryz.underlying26 rfl (ucs_info u) h
theorem ret_url2 {fn : Func} {p q : Tmp} (h : fn.results = #[.cell p 26, .tmp q]) (tmps : Array Value) (w : World) (b : Nat) (u : UrlV) (fr : Nat × Nat) (v : Value) (hp : tmps[p]? = some (.pointer (some ⟨b, 0, none⟩))) (hq : tmps[q]? = some v) (hrow : w.heap[b]? = some (.cells (ucs u) 26 fr)) :
    (results fn tmps).run Tryz.prog w = .ok (.tuple #[.agg (ucs u), v]) w :=
  results_row_tmp h tmps w b 26 (ucs u) fr _ v hp hq hrow Tryz.underlying26 rfl (ucs_info u)
theorem loadU_eq (x : Value) : Instr.loadAt 26 x = loadI 26 x := rfl
theorem loadU_row {w : World} {g : Nat} {u : UrlV} {fr : Nat × Nat} (h : w.heap[g]? = some (.cells (ucs u) 26 fr)) : (loadI 26 (.pointer (some ⟨g, 0, none⟩))).run Tryz.prog w = .ok (.agg (ucs u)) w :=
  run_loadAt_mid w g 0 26 (ucs u).toList _ (row_range h) Tryz.underlying26 rfl (by rw [ucs_info u]; simp)
theorem info9 : (Tryz.prog.info? 9).map (·.size) = some 1 := by kernel_rfl
theorem info4 : (Tryz.prog.info? 4).map (·.size) = some 1 := by kernel_rfl
theorem run_store_one (w : World) (t b o : Nat) (v : Value) (hv : v.oneCell' = true) (hc : v.cells = #[v]) (hi : (Tryz.prog.info? t).map (·.size) = some 1) (ht : w.there b o 1) : (storeVar t ⟨b, o, none⟩ v).run Tryz.prog w = .ok () (w.setCells b o [v]) := by
  have := run_storeCells_cells (P := Tryz.prog) b o [v] 0 w (fun j hj => by simpa using (ht j (by simpa using hj)).1) (fun j hj => by simpa using (ht j (by simpa using hj)).2) (fun v' hv' => by simp at hv'; subst hv'; exact hv)
  obtain ⟨i, hi1, hi2⟩ := Option.map_eq_some_iff.1 hi
  simp only [Nat.add_zero] at this
  simp [storeVar, sizeOf, typeInfo, hi1, hc, hi2, this]
/-- A part goes into a URL. -/
theorem store_fld {ops : Array Oper} {rest : List Oper} {op : Oper} {a : Act} {w : World} {Q : Exit → Act → World → Prop} (hgd : op.guard = none) (t : TypeId) (x y : Operand) (ho : op.op = .store t x y)
    (b j : Nat) (v : Value) (u u' : UrlV) (hv : v.oneCell' = true) (hc : v.cells = #[v]) (hi : (Tryz.prog.info? t).map (·.size) = some 1) (hj : j < 12) (hx : a.eval x = .pointer (some ⟨b, j, none⟩)) (hy : a.eval y = v)
    (hrow : w.heap[b]? = some (.cells (ucs u) 26 (0, 0))) (hset : (ucs u).setIfInBounds j v = ucs u')
    (h : ∀ W, Only b w W → W.heap[b]? = some (.cells (ucs u') 26 (0, 0)) → wpList Tryz.prog ops Q rest (a.put op.dst undef) W) : wpList Tryz.prog ops Q (op :: rest) a w :=
  wpList_plain hgd fun _ hK => by
    have ht := there_row hrow j 1 (by rw [ucs_size]; omega)
    unfold Oper.wp execOp
    simp only [ho, hx, hy, Instr.storeAt, Instr.sureAddr, Sem.run_bind, Sem.run_pure, Result.andThen_ok, run_store_one w t b j v hv hc hi ht]
    refine hK _ _ (h _ (only_setCells b _ j w) ?_)
    rw [setCells_heap b 26 _ j w _ hrow]
    simp only [over]
    rw [hset]
theorem cellU {w : World} {b : Nat} {u : UrlV} {fr : Nat × Nat} (h : w.heap[b]? = some (.cells (ucs u) 26 fr)) (j : Nat) (v : Value) (hv : (ucs u)[j]? = some v) : w.cell? ⟨b, j, none⟩ = some v := by
  rw [cell_of_row _ _ _ _ _ _ h]; exact hv
end Go.Proofs.YtlblefcmilfjdaaGreatDoor
