
/- Pairs of rows that wait to be compared. No walk in it. -/
import Derived.Test.YtlgkbdebpnbndaaGreatDoorJsSamR
import Derived.Test.YtlgkbdebpnbndaaGreatDoorJsRnT
namespace Go.Proofs.YtlgkbdebpnbndaaGreatDoor
set_option linter.unusedVariables false
set_option linter.unusedSimpArgs false
open Go.RowKit Go.BigFrame

/-- A pair of rows: how deep their values may be, where they lie, the values. -/
abbrev Pq : Type := (d : Nat) × (Option Addr × Nat) × (Option Addr × Nat) × List (VJ d) × List (VJ d)
def Pq.u (p : Pq) : Value := .slice p.2.1.1 p.2.2.2.1.length p.2.1.2
def Pq.v (p : Pq) : Value := .slice p.2.2.1.1 p.2.2.2.2.length p.2.2.1.2
def pvs (ps : List Pq) : List Value := ps.flatMap fun p => [p.u, p.v]
theorem pvs_app (a b : List Pq) : pvs (a ++ b) = pvs a ++ pvs b := by simp [pvs]
theorem pvs_len : ∀ ps : List Pq, (pvs ps).length = ps.length * 2
  | [] => rfl
  | p :: r => by
    have := pvs_len r
    show (_ :: _ :: pvs r).length = _
    simp only [List.length_cons, this]
    omega
/-- The rows lie in the elder memory. -/
def Pq.Ok (n0 : Nat) (w : World) (p : Pq) : Prop := VsAt (fun q => q < n0) p.1 w p.2.1.1 p.2.2.2.1 ∧ VsAt (fun q => q < n0) p.1 w p.2.2.1.1 p.2.2.2.2 ∧ p.2.2.2.1.length = p.2.2.2.2.length ∧ (∀ t ∈ p.2.2.2.1, wtJ p.1 t ≤ 100000) ∧ ∀ t ∈ p.2.2.2.2, wtJ p.1 t ≤ 100000
theorem Pq.Ok.below {n0 : Nat} {w W : World} {p : Pq} (h : Pq.Ok n0 w p) (hb : Below n0 w W) : Pq.Ok n0 W p := by
  obtain ⟨h1, h2, h3, h4, h5⟩ := h
  exact ⟨h1.frame hb.size fun q hq hl => ⟨hb.block q hq, hq⟩, h2.frame hb.size fun q hq hl => ⟨hb.block q hq, hq⟩, h3, h4, h5⟩
def Pq.same (p : Pq) : Prop := p.2.2.2.1 = p.2.2.2.2
def szPq (ps : List Pq) : Nat := (ps.map fun p => szR p.1 p.2.2.2.1).foldr (· + ·) 0
theorem szPq_cons (p : Pq) (ps : List Pq) : szPq (p :: ps) = szR p.1 p.2.2.2.1 + szPq ps := rfl
theorem szPq_app (ps qs : List Pq) : szPq (ps ++ qs) = szPq ps + szPq qs := by
  induction ps with
  | nil => show szPq qs = 0 + szPq qs; omega
  | cons p ps ih => rw [List.cons_append, szPq_cons, szPq_cons, ih]; omega
theorem szPq_len (ps : List Pq) : ps.length ≤ szPq ps := by
  induction ps with
  | nil => exact Nat.le_refl _
  | cons p ps ih => rw [szPq_cons, List.length_cons, szR_eq]; omega
theorem szPq_one (p : Pq) : szPq [p] = szR p.1 p.2.2.2.1 := by show szR _ _ + 0 = _; omega
theorem pqK : KCells Tryz.prog 2 65 64 := ⟨Tryz.underlying65, by
  obtain ⟨i, h1, h2, h3, h4⟩ := info_parts (show (Tryz.prog.info? 64).map (fun i => (i.zero, i.size, i.bytes)) = some (some (.agg #[.slice none 0 0, .slice none 0 0]), 2, 48) from by kernel_rfl)
  exact ⟨i, _, h1, h2, h3, by omega, rfl⟩⟩
theorem OwnK.cut2 {w : World} {e b g n cap : Nat} {ys : List Value} {u v : Value} (h : OwnK w 2 e b g (n + 1) cap (ys ++ [u, v])) : OwnK w 2 e b g n cap ys := by
  obtain ⟨r, h1, h2, h3⟩ := h.row
  have hl := h.len
  rw [List.length_append] at hl
  have e2 : ([u, v] : List Value).length = 2 := rfl
  rw [e2] at hl
  exact ⟨h.ge, by omega, u :: v :: r, by rw [h1]; simp, by simp only [List.length_cons]; omega, by omega⟩
theorem step_pq {ops : Array Oper} {o : Oper} {a : Act} {w : World} {K : Act → World → Prop} {Q : Exit → Act → World → Prop} {E : Prop} (hgd : o.guard = none) (s x : Operand)
    (ho : o.op = .call { callee := .builtin .append, args := #[s, x], argTypes := #[65, 65] })
    (b g n cap : Nat) (ys : List Value) (xv u v : Value) (hs : a.eval s = .slice (some ⟨g, 0, none⟩) n cap) (hx : a.eval x = xv) (hown : OwnK w 2 64 b g n cap ys)
    (hA : Src Tryz.prog 2 65 xv 1 [u, v] w) (hn : n ≤ 1000000) (hb : b ≤ w.heap.size)
    (h : ∀ g' cap' w', OwnK w' 2 64 b g' (n + 1) cap' (ys ++ [u, v]) → w.grownBy w' (some g) → (g' = g ∨ g' = w.heap.size) → K (a.put o.dst (.slice (some ⟨g', 0, none⟩) (n + 1) cap')) w') :
    if Region.wanted o (yielded ops a.tmps) = true then Oper.wp Tryz.prog o a w K Q else E := by
  have hw : Region.wanted o (yielded ops a.tmps) = true := by simp [Region.wanted, hgd]
  rw [if_pos hw]
  obtain ⟨g', cap', w', hr, h2, h3, h4⟩ := hown.run_app pqK o.type xv hA (by omega) hb
  unfold Oper.wp
  simp [execOp, ho, resolve, invoke, builtin, hs, hx, hr, Result.andThen]
  exact h g' cap' w' h2 h3 h4
theorem infoPq : (Tryz.prog.info? 64).map (·.size) = some 2 := by kernel_rfl
theorem loadP_eq (x : Value) : Instr.loadAt 64 x = loadI 64 x := rfl
theorem loadP_mid {w : World} {q o : Nat} {a b : Value} (h1 : w.cell? ⟨q, o, none⟩ = some a) (h2 : w.cell? ⟨q, o + 1, none⟩ = some b) : (loadI 64 (.pointer (some ⟨q, o, none⟩))).run Tryz.prog w = .ok (.agg #[a, b]) w :=
  run_loadAt_mid w q o 64 [a, b] _ (fun j v hv => by
    match j, hv with
    | 0, hv => simp at hv; subst hv; exact h1
    | 1, hv => simp at hv; subst hv; exact h2
    | n + 2, hv => simp at hv) Tryz.underlying64 rfl infoPq
/-- Between two pairs. -/
structure SS (n0 : Nat) (RES : Bool) (w0 : World) (m B cap : Nat) (ps : List Pq) (wr : World) : Prop where
  own : OwnK wr 2 64 n0 B ps.length cap (pvs ps)
  ok : ∀ p ∈ ps, Pq.Ok n0 wr p
  iff : RES = true ↔ ∀ p ∈ ps, Pq.same p
  few : szPq ps = m
  low : Below n0 w0 wr
/-- Between two values of a pair. -/
structure SI (n0 : Nat) (RES : Bool) (w0 : World) (m : Nat) (d : Nat) (la lb : List (VJ d)) (B cap k : Nat) (ps : List Pq) (wr : World) : Prop where
  own : OwnK wr 2 64 n0 B ps.length cap (pvs ps)
  ok : ∀ p ∈ ps, Pq.Ok n0 wr p
  iff : RES = true ↔ (∀ p ∈ ps, Pq.same p) ∧ la.drop k = lb.drop k
  few : szPq ps + sumN d (la.drop k) + 1 ≤ m
  low : Below n0 w0 wr
theorem SS.take {n0 : Nat} {RES : Bool} {w0 : World} {m B cap : Nat} {ps : List Pq} {p : Pq} {wr : World} (h : SS n0 RES w0 m B cap (ps ++ [p]) wr) : SI n0 RES w0 m p.1 p.2.2.2.1 p.2.2.2.2 B cap 0 ps wr ∧ Pq.Ok n0 wr p := by
  refine ⟨⟨?_, fun x hx => h.ok x (List.mem_append_left _ hx), ?_, ?_, h.low⟩, h.ok p (by simp)⟩
  · have ho := h.own
    rw [pvs_app, List.length_append] at ho
    exact ho.cut2
  · rw [h.iff, List.drop_zero, List.drop_zero]
    exact ⟨fun hh => ⟨fun x hx => hh x (List.mem_append_left _ hx), hh p (by simp)⟩, fun hh x hx => by
      rcases List.mem_append.1 hx with hx | hx
      · exact hh.1 x hx
      · rw [List.mem_singleton.1 hx]; exact hh.2⟩
  · have := h.few
    rw [szPq_app, szPq_one, szR_eq] at this
    rw [List.drop_zero]
    have e : szPq ps + (1 + sumN p.1 p.2.2.2.1) = m := this
    omega
theorem SI.done {n0 : Nat} {RES : Bool} {w0 : World} {m d : Nat} {la lb : List (VJ d)} {B cap k : Nat} {ps : List Pq} {wr : World} (h : SI n0 RES w0 m d la lb B cap k ps wr) (h1 : la.length ≤ k) (h2 : lb.length ≤ k) : SS n0 RES w0 (szPq ps) B cap ps wr ∧ szPq ps < m :=
  ⟨⟨h.own, h.ok, by rw [h.iff, List.drop_of_length_le h1, List.drop_of_length_le h2]; exact ⟨fun hh => hh.1, fun hh => ⟨hh, rfl⟩⟩, rfl, h.low⟩, by have := h.few; omega⟩
theorem SI.below {n0 : Nat} {RES : Bool} {w0 : World} {m d : Nat} {la lb : List (VJ d)} {B cap k : Nat} {ps : List Pq} {wr W : World} (h : SI n0 RES w0 m d la lb B cap k ps wr) (hb : Below wr.heap.size wr W) (hn : n0 ≤ wr.heap.size) : SI n0 RES w0 m d la lb B cap k ps W :=
  ⟨h.own.below hb (Nat.le_refl _), fun p hp => (h.ok p hp).below (hb.mono hn), h.iff, h.few, h.low.trans (hb.mono hn)⟩
/-- The two differ here. -/
theorem SI.no {n0 : Nat} {RES : Bool} {w0 : World} {m d : Nat} {la lb : List (VJ d)} {B cap k : Nat} {ps : List Pq} {wr : World} (h : SI n0 RES w0 m d la lb B cap k ps wr) (h1 : k < la.length) (h2 : k < lb.length) (hne : ¬ (labJ d (la.getD k (zeroJ d)) = labJ d (lb.getD k (zeroJ d)) ∧ (kidsJ d (la.getD k (zeroJ d))).length = (kidsJ d (lb.getD k (zeroJ d))).length)) : RES = false := by
  cases hr : RES with
  | false => rfl
  | true =>
    have := ((drop_eqJ (z := zeroJ d) h1 h2).1 (h.iff.1 hr).2).1
    exact absurd ⟨by rw [this], by rw [this]⟩ hne
theorem nil_of {α : Type} {x y : List α} (h : x.length = y.length) (h0 : x.length = 0) : x = y := by
  rw [List.length_eq_zero_iff.1 h0, List.length_eq_zero_iff.1 (h.symm.trans h0)]
/-- Alike here, and nothing within. -/
theorem SI.next {n0 : Nat} {RES : Bool} {w0 : World} {m d : Nat} {la lb : List (VJ d)} {B cap k : Nat} {ps : List Pq} {wr : World} (h : SI n0 RES w0 m d la lb B cap k ps wr) (h1 : k < la.length) (h2 : k < lb.length) (hl : labJ d (la.getD k (zeroJ d)) = labJ d (lb.getD k (zeroJ d))) (hk : (kidsJ d (la.getD k (zeroJ d))).length = (kidsJ d (lb.getD k (zeroJ d))).length) (h0 : (kidsJ d (la.getD k (zeroJ d))).length = 0) : SI n0 RES w0 m d la lb B cap (k + 1) ps wr := by
  have he : la.getD k (zeroJ d) = lb.getD k (zeroJ d) := (vj_eq d _ _).2 ⟨hl, nil_of hk h0⟩
  refine ⟨h.own, h.ok, ?_, ?_, h.low⟩
  · rw [h.iff, drop_eqJ (z := zeroJ d) h1 h2]
    exact ⟨fun hh => ⟨hh.1, hh.2.2⟩, fun hh => ⟨hh.1, he, hh.2⟩⟩
  · have := h.few
    rw [sum_drop d la k h1] at this
    omega
/-- Alike here, and those within wait. -/
theorem SI.push {n0 : Nat} {RES : Bool} {w0 : World} {m d : Nat} {la lb : List (VJ d)} {B cap k : Nat} {ps : List Pq} {wr W : World} (h : SI n0 RES w0 m d la lb B cap k ps wr) (h1 : k < la.length) (h2 : k < lb.length) (hl : labJ d (la.getD k (zeroJ d)) = labJ d (lb.getD k (zeroJ d))) (h0 : (kidsJ d (la.getD k (zeroJ d))).length ≠ 0)
    (A A' : Option Addr) (c c' : Nat) (hok : Pq.Ok n0 wr ⟨d - 1, (A, c), (A', c'), kidsJ d (la.getD k (zeroJ d)), kidsJ d (lb.getD k (zeroJ d))⟩) {B' cap' : Nat}
    (hown : OwnK W 2 64 n0 B' (ps.length + 1) cap' (pvs ps ++ [.slice A (kidsJ d (la.getD k (zeroJ d))).length c, .slice A' (kidsJ d (lb.getD k (zeroJ d))).length c'])) (hb : Below n0 wr W) :
    SI n0 RES w0 m d la lb B' cap' (k + 1) (ps ++ [⟨d - 1, (A, c), (A', c'), kidsJ d (la.getD k (zeroJ d)), kidsJ d (lb.getD k (zeroJ d))⟩]) W := by
  refine ⟨?_, fun p hp => ?_, ?_, ?_, h.low.trans hb⟩
  · rw [pvs_app, List.length_append]
    exact hown
  · rcases List.mem_append.1 hp with hp | hp
    · exact (h.ok p hp).below hb
    · rw [List.mem_singleton.1 hp]; exact hok.below hb
  · rw [h.iff, drop_eqJ (z := zeroJ d) h1 h2, vj_eq]
    constructor
    · rintro ⟨g1, ⟨_, g3⟩, g4⟩
      refine ⟨fun p hp => ?_, g4⟩
      rcases List.mem_append.1 hp with hp | hp
      · exact g1 p hp
      · rw [List.mem_singleton.1 hp]; exact g3
    · rintro ⟨g1, g4⟩
      exact ⟨fun p hp => g1 p (List.mem_append_left _ hp), ⟨hl, g1 _ (List.mem_append_right _ (List.mem_singleton.2 rfl))⟩, g4⟩
  · have h9 := h.few
    rw [sum_drop d la k h1] at h9
    have h8 := szN_kids d (la.getD k (zeroJ d)) h0
    rw [szPq_app, szPq_one]
    show szPq ps + szR (d - 1) (kidsJ d (la.getD k (zeroJ d))) + sumN d (la.drop (k + 1)) + 1 ≤ m
    omega
end Go.Proofs.YtlgkbdebpnbndaaGreatDoor
