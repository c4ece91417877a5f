
/- A printer in memory, and the builder within it: what copyCheck, Len, WriteString and String do there. -/
import Derived.Test.YthjibliaofmlhaaGreatDoorXmREl
import Derived.Lib.Builder
import Derived.Lib.UnsafeStr
import Derived.Lib.OthersKept
import Derived.Laws.Externs
namespace Go.Proofs.YthjibliaofmlhaaGreatDoor
set_option linter.unusedVariables false
set_option linter.unusedSimpArgs false
open Go.RowKit Go.BigFrame

/-- A printer at block p: what was written, and whether it found no room. -/
def PrS (w : World) (p : Nat) (o : List UInt8) (f : Bool) : Prop := ∃ a v, w.heap[p]? = some (.cells #[a, v, .bool f] 51 (0, 0)) ∧ (a = .pointer none ∨ a = .pointer (some ⟨p, 0, none⟩)) ∧ Wd w (p + 1) v o
/-- Below p all is as it was, and so is all above that is no row of bytes. -/
structure Kp (p : Nat) (w w' : World) : Prop where
  low : Below p w w'
  oth : Lib.OthersKept 5 (some p) w w'
theorem Kp.refl (p : Nat) (w : World) : Kp p w w := ⟨Below.refl _ _, Lib.OthersKept.refl _ _ _⟩
theorem Kp.trans {p : Nat} {a b c : World} (h : Kp p a b) (k : Kp p b c) : Kp p a c := ⟨h.low.trans k.low, h.oth.trans k.oth⟩
theorem Kp.of_below {p : Nat} {w w' : World} (h : Below w.heap.size w w') (hp : p ≤ w.heap.size) : Kp p w w' := ⟨h.mono hp, fun k o hk _ _ => (h.block k (Array.getElem?_eq_some_iff.1 hk).1).trans hk⟩
theorem Kp.of_only {p : Nat} {w w' : World} (h : Only p w w') : Kp p w w' := ⟨h.below (Nat.le_refl _), fun k o hk hne _ => (h.block k (fun e => hne (by rw [e]))).trans hk⟩
theorem Kp.row {p : Nat} {w w' : World} (h : Kp p w w') {k : Nat} {cs : Array Value} {t : TypeId} {fr : Nat × Nat} (hk : w.heap[k]? = some (.cells cs t fr)) (hne : k ≠ p) (ht : t ≠ 5) : w'.heap[k]? = some (.cells cs t fr) :=
  h.oth k _ hk (fun e => hne (by injection e)) (fun c fz e => by injection e with _ e _; exact ht e)
theorem PrS.lt {w : World} {p : Nat} {o : List UInt8} {f : Bool} (h : PrS w p o f) : p < w.heap.size := by
  obtain ⟨a, v, hr, _⟩ := h
  exact (Array.getElem?_eq_some_iff.1 hr).1
theorem PrS.below {w w' : World} {p : Nat} {o : List UInt8} {f : Bool} (h : PrS w p o f) (hb : Below w.heap.size w w') : PrS w' p o f := by
  obtain ⟨a, v, hr, ha, hv⟩ := h
  exact ⟨a, v, row_keep hb hr, ha, hv.frame fun q _ hl => hb.block q hl⟩
theorem sizeBd : (Tryz.prog.info? 49).map (·.size) = some 2 := by kernel_rfl
theorem liesBd : liesAt Tryz.prog Tryz.prog.depth 51 (3 / Tryz.prog.cellsOf 51) 0 49 1 = true := by kernel_rfl
/-- The builder's address, turned to a pointer of no type and back: it stays. -/
theorem conv_up (p : Nat) (w : World) (hsh : w.shape? p = some (51, 3)) : (convert 46 117 (.pointer (some ⟨p, 0, none⟩))).run Tryz.prog w = .ok (.pointer (some ⟨p, 0, none⟩)) w := by
  obtain ⟨j, hj, hjs⟩ := Option.map_eq_some_iff.1 sizeBd
  have h0 : j.size ≠ 0 := by rw [hjs]; decide
  simp [convert, run_underlying Tryz.underlying46, run_underlying Tryz.underlying117, Conv.unsafePointer, Conv.seenAt, viewAt, cellsIn, hsh, sizeOf, typeInfo, hj, h0]
theorem conv_down (p : Nat) (w : World) (hsh : w.shape? p = some (51, 3)) : (convert 117 46 (.pointer (some ⟨p, 0, none⟩))).run Tryz.prog w = .ok (.pointer (some ⟨p, 0, none⟩)) w := by
  obtain ⟨j, hj, _⟩ := Option.map_eq_some_iff.1 sizeBd
  have hl := liesBd
  simp [convert, run_underlying Tryz.underlying46, run_underlying Tryz.underlying117, Conv.unsafePointer, Conv.seenAt, viewAt, variablesAt, hsh, hl, sizeOf, typeInfo, hj]
set_option maxHeartbeats 1000000 in
set_option maxRecDepth 100000 in
theorem copyUsed (p : Nat) (w : World) (h0 : w.cell? ⟨p, 0, none⟩ = some (.pointer (some ⟨p, 0, none⟩))) : Calls Tryz.prog 72 #[.pointer (some ⟨p, 0, none⟩)] w fun e w' => (∃ v, e = .returned v) ∧ w' = w := by
  obtain ⟨j, hj, _⟩ := Option.map_eq_some_iff.1 sizeBd
  go_enter Tryz.func72, Tryz.ntmps72
  go_wp2
  rw [Lib.run_neq_ptr_same w _ Tryz.underlying46 hj]
  go_wp2
  go_end0
  exact ⟨⟨_, rfl⟩, rfl⟩
set_option maxHeartbeats 1000000 in
set_option maxRecDepth 100000 in
theorem copyFresh (p : Nat) (v : Value) (f : Bool) (w : World) (hr : w.heap[p]? = some (.cells #[.pointer none, v, .bool f] 51 (0, 0))) : Calls Tryz.prog 72 #[.pointer (some ⟨p, 0, none⟩)] w fun e w' => (∃ u, e = .returned u) ∧ w' = w.setCell ⟨p, 0, none⟩ (.pointer (some ⟨p, 0, none⟩)) := by
  obtain ⟨j, hj, hjs⟩ := Option.map_eq_some_iff.1 sizeBd
  have h0 : w.cell? ⟨p, 0, none⟩ = some (.pointer none) := cell_of_row _ _ _ _ _ _ hr
  have hfz : w.frozen? ⟨p, 0, none⟩ = false := free_row hr
  have hsh : w.shape? p = some (51, 3) := by simp [World.shape?, hr]
  clear hr
  go_enter Tryz.func72, Tryz.ntmps72
  go_wp2
  rw [conv_up p w hsh]
  simp only [Result.andThen]
  rw [Oper.upon_value]
  go_wp2
  rw [run_callFunc_extern Tryz.func94 (by kernel_rfl) (by kernel_rfl) (by kernel_rfl) (e := Extern.AbiNoEscape.same) (by kernel_rfl)]
  rw [Lib.run_noEscape]
  simp only [Result.andThen]
  rw [Oper.upon_value]
  go_wp2
  rw [conv_down p w hsh]
  simp only [Result.andThen]
  rw [Oper.upon_value]
  go_wp2
  go_end0
  exact ⟨⟨_, rfl⟩, rfl⟩
theorem copyCheck_any (p : Nat) (a v : Value) (f : Bool) (w : World) (hr : w.heap[p]? = some (.cells #[a, v, .bool f] 51 (0, 0))) (ha : a = .pointer none ∨ a = .pointer (some ⟨p, 0, none⟩)) : Calls Tryz.prog 72 #[.pointer (some ⟨p, 0, none⟩)] w fun e w' => (∃ u, e = .returned u) ∧ Only p w w' ∧ w'.heap[p]? = some (.cells #[.pointer (some ⟨p, 0, none⟩), v, .bool f] 51 (0, 0)) := by
  rcases ha with rfl | rfl
  · refine (copyFresh p v f w hr).mono ?_
    rintro e w' ⟨he, rfl⟩
    have := setCell_row (j := 0) (.pointer (some ⟨p, 0, none⟩)) hr
    exact ⟨he, this.1, this.2⟩
  · refine (copyUsed p w (cell_of_row _ _ _ _ _ _ hr)).mono ?_
    rintro e w' ⟨he, rfl⟩
    exact ⟨he, ⟨rfl, rfl, rfl, rfl, fun _ _ => rfl⟩, hr⟩
theorem prLen_any (p : Nat) (o : List UInt8) (f : Bool) (w : World) (h : PrS w p o f) : Calls Tryz.prog 74 #[.pointer (some ⟨p, 0, none⟩)] w fun e w' => e = .returned (.int .i64 o.length) ∧ w' = w := by
  obtain ⟨a, v, hr, ha, hv⟩ := h
  obtain ⟨A, c, hvs, _, _⟩ := hv.shape
  rw [hvs] at hr
  have c1 : w.cell? ⟨p, 1, none⟩ = some (.slice A o.length c) := cell_of_row _ _ _ _ _ _ hr
  clear hr ha hv hvs
  go_enter Tryz.func74, Tryz.ntmps74
  go_wp2_with fail
  go_ret
  exact ⟨rfl, rfl⟩
theorem info47 : (Tryz.prog.info? 47).map (·.size) = some 1 := by kernel_rfl
set_option maxHeartbeats 1000000 in
set_option maxRecDepth 100000 in
theorem prWrite_any (p : Nat) (o s : List UInt8) (f : Bool) (hn : o.length + s.length ≤ 1000000) (w : World) (h : PrS w p o f) : Calls Tryz.prog 44 #[.pointer (some ⟨p, 0, none⟩), .string (asS s)] w fun e w' => (∃ u, e = .returned u) ∧ PrS w' p (o ++ s) f ∧ Kp p w w' := by
  have hlt := h.lt
  obtain ⟨a, v, hr, ha, hv⟩ := h
  have HC := hid (copyCheck_any p a v f w hr ha)
  have HV := hid hv
  have HN := hid hn
  have HLT := hid hlt
  have HB : Hid (∀ q, blk v = some q → p + 1 ≤ q) := fun q hq => (hv.blk_ge q hq).1
  have HT5 : Hid (∀ q W, blk v = some q → Wd W (p + 1) v o → ∃ cs fr, W.heap[q]? = some (.cells cs 5 fr)) := fun q W hq hW => by
    rcases hW with ⟨rfl, _⟩ | ⟨g, cap, rfl, h2⟩
    · cases hq
    · have : g = q := by simpa [blk] using hq
      subst this
      obtain ⟨r, fr, h3, _⟩ := h2.row
      exact ⟨_, _, h3⟩
  clear hr ha hv hn hlt
  go_enter Tryz.func44, Tryz.ntmps44
  go_wp2_with fail
  refine Calls.mono HC.out ?_
  rintro e W1 ⟨⟨u, rfl⟩, ho, hr⟩
  have HO1 := hid ho
  have HR1 := hid hr
  have c1 : W1.cell? ⟨p, 1, none⟩ = some v := cell_of_row _ _ _ _ _ _ hr
  have HV1 : Hid (Wd W1 (p + 1) v o) := HV.out.frame fun q hq _ => ho.block q (by have := HB.out q hq; omega)
  have HZ1 : Hid (p + 1 ≤ W1.heap.size) := by show _ ≤ _; rw [ho.size]; exact HLT.out
  clear ho hr
  go_wp2_with (first
    | (refine wpList_wd rfl _ _ rfl (p + 1) v o s rfl rfl HV1.out HN.out HZ1.out ?_)
    | fail)
  intro v' W2 hv2 hg2 hbl
  have HV2 := hid hv2
  have HG2 := hid hg2
  have HBL := hid hbl
  have HR2 : Hid (W2.heap[p]? = some (.cells #[.pointer (some ⟨p, 0, none⟩), v, .bool f] 51 (0, 0))) := (hg2.block p (by have := HZ1.out; omega) (fun e => by have := HB.out p e.symm; omega)).trans HR1.out
  obtain ⟨A, c, hvs, _, _⟩ := hv2.shape
  generalize hos : (o ++ s).length = nn at hvs
  clear hos
  subst hvs
  clear hv2 hg2 hbl
  go_wp2_with (first
    | (refine store_part rfl 47 _ _ rfl p 1 (.slice A nn c) _ _ #[.pointer (some ⟨p, 0, none⟩), .slice A nn c, .bool f] rfl rfl info47 (by simp) rfl rfl HR2.out rfl ?_)
    | fail)
  intro W3 ho hr
  have HO3 := hid ho
  have HR3 := hid hr
  clear ho hr
  go_wp2_with fail
  go_ret2
  refine ⟨⟨_, rfl⟩, ⟨_, _, HR3.out, .inr rfl, HV2.out.frame fun q hq _ => HO3.out.block q (fun e => by subst e; have := HV2.out.blk_ge q hq; omega)⟩, ?_⟩
  refine ((Kp.of_only HO1.out).trans ⟨?_, ?_⟩).trans (Kp.of_only HO3.out)
  · exact ⟨HG2.out.os, HG2.out.tape, HG2.out.output, HG2.out.size, fun k hk => HG2.out.block k (by have := HZ1.out; omega) (fun e => by have := HB.out k e.symm; omega)⟩
  · intro k o' hk hne hc
    refine (HG2.out.block k (Array.getElem?_eq_some_iff.1 hk).1 (fun e => ?_)).trans hk
    obtain ⟨cs, fr, h5⟩ := HT5.out k W1 e.symm HV1.out
    rw [hk] at h5
    injection h5 with h5
    exact hc cs fr h5
set_option maxHeartbeats 1000000 in
set_option maxRecDepth 100000 in
theorem prString_any (p : Nat) (o : List UInt8) (f : Bool) (h0 : o ≠ []) (hn : o.length ≤ 1000000) (w : World) (h : PrS w p o f) : Calls Tryz.prog 28 #[.pointer (some ⟨p, 0, none⟩)] w fun e w' => e = .returned (.string (asS o)) ∧ Below p w w' := by
  obtain ⟨a, v, hr, ha, hv⟩ := h
  have hl0 : o.length ≠ 0 := by simpa using h0
  rcases hv with ⟨_, hz⟩ | ⟨g, cap, rfl, hw⟩
  · exact absurd hz h0
  have c1 : w.drew.cell? ⟨p, 1, none⟩ = some (.slice (some ⟨g, 0, none⟩) o.length cap) := cell_of_row (w := w.drew) _ _ _ _ _ hr
  have hle := hw.le
  have hSD : (Builtin.unsafeSliceData_ #[47] 79 #[.slice (some ⟨g, 0, none⟩) o.length cap]).run Tryz.prog w.drew = .ok (.pointer (some ⟨g, 0, none⟩)) w.drew := Lib.run_unsafeSliceData_row _ _ _ _ _ _ (by omega)
  have hUS : (Builtin.unsafeString_ #[79, 3] 9 #[.pointer (some ⟨g, 0, none⟩), .int .i64 o.length]).run Tryz.prog w.drew = .ok (.string (asS o)) (w.drew.freeze ⟨g, 0, none⟩ o.length) := by
    obtain ⟨r, fz, h1, h2, h3⟩ := hw.row
    have h1' : w.drew.heap[g]? = some (.cells (bvs o ++ r).toArray 5 fz) := h1
    have hbl : (bvs o).length = o.length := by simp [bvs]
    refine Lib.run_unsafeString_row w.drew 79 3 9 5 Tryz.underlying79 (by kernel_rfl) g (bvs o ++ r).toArray.size (by simp [World.shape?, h1']) o h0 (by simp [hbl]) (by omega) ?_
    intro j x hx
    have hj : j < o.length := (List.getElem?_eq_some_iff.1 hx).1
    have e1 : ((⟨g, 0, none⟩ : Addr).add j) = ⟨g, j, none⟩ := by unfold Addr.add; by_cases hj0 : j = 0 <;> simp [hj0]
    rw [e1]
    obtain ⟨q, o', e2, _, hc⟩ := hw.bytes (by omega)
    injection e2 with e2
    injection e2 with e3 e4 _
    subst e3 e4
    have := hc j hj
    rw [Nat.zero_add] at this
    rw [List.getD_eq_getElem?_getD, hx] at this
    exact this
  have mixed : Tryz.prog.follows Departure.mixedOrders = true := by kernel_rfl
  have HG : Hid (p + 1 ≤ g) := hw.ge
  clear hr ha hw h0 hn hl0 hle
  generalize asS o = S at hUS ⊢
  go_enter Tryz.func28, Tryz.ntmps28
  go_wp2
  go_region_o
  all_goals (go_wp2; go_ret; exact ⟨rfl, Lib.below_freeze (Below.drew (Below.refl p w)) (p := ⟨g, 0, none⟩) (by have := HG.out; show p ≤ g; omega) _⟩)
end Go.Proofs.YthjibliaofmlhaaGreatDoor
