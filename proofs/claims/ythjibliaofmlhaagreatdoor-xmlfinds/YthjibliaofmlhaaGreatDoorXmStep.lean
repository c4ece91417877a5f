
/- A call of a Go function in a region whose order is drawn; an element behind the texts ahead of it. -/
import Derived.Test.YthjibliaofmlhaaGreatDoorXmReader
import Derived.Test.YthjibliaofmlhaaGreatDoorXmRange
import Derived.Shelf.Abstract
namespace Go.Proofs.YthjibliaofmlhaaGreatDoor
set_option linter.unusedVariables false
set_option linter.unusedSimpArgs false
open Go.RowKit Go.BigFrame

theorem step_call {ops : Array Oper} {o : Oper} {a : Act} {w : World} {K : Act → World → Prop} {Q : Exit → Act → World → Prop} {E : Prop} (hgd : o.guard = none) (f : FuncId) (xs : Array Operand) (ts : Array TypeId)
    (ho : o.op = .call { callee := .value (.func f), args := xs, argTypes := ts }) (eg : ∀ args w, (callFunc f args).run Tryz.prog w = .ok (.enter f args) w) (vals : Array Value) (hv : xs.map a.eval = vals)
    {R : Value → World → Prop} (hc : Calls Tryz.prog f vals w fun e w' => ∃ v, e = .returned v ∧ R v w') (h : ∀ v w', R v w' → K (a.put o.dst v) w') :
    if Region.wanted o (yielded ops a.tmps) = true then Oper.wp Tryz.prog o a w K Q else E := by
  have hw : Region.wanted o (yielded ops a.tmps) = true := by simp [Region.wanted, hgd]
  rw [if_pos hw]
  unfold Oper.wp
  have hrun : (execOp a.eval o).run Tryz.prog w = .ok (.enter f vals) w := by
    simp [execOp, ho, resolve, invoke, hv, eg, Result.andThen, go_sem, Deferred.ofValue]
  rw [hrun, Oper.upon_enter]
  refine hc.mono fun e w'' hh => ?_
  obtain ⟨v, rfl, hr⟩ := hh
  exact h v w'' hr
theorem step_call2 {ops : Array Oper} {o : Oper} {a : Act} {w : World} {K : Act → World → Prop} {Q : Exit → Act → World → Prop} {E : Prop} (hgd : o.guard = none) (f : FuncId) (x y : Operand) (ts : Array TypeId)
    (ho : o.op = .call { callee := .value (.func f), args := #[x, y], argTypes := ts }) (eg : ∀ args w, (callFunc f args).run Tryz.prog w = .ok (.enter f args) w) (xv yv : Value) (hx : a.eval x = xv) (hy : a.eval y = yv)
    {R : Value → World → Prop} (hc : Calls Tryz.prog f #[xv, yv] w fun e w' => ∃ v, e = .returned v ∧ R v w') (h : ∀ v w', R v w' → K (a.put o.dst v) w') :
    if Region.wanted o (yielded ops a.tmps) = true then Oper.wp Tryz.prog o a w K Q else E :=
  step_call hgd f #[x, y] ts ho eg #[xv, yv] (by simp [hx, hy]) hc h
/-- Behind the texts: the kids, the new one in its own cells. -/
structure Aft (P : Nat → Prop) (R d : Nat) (w : World) (g0 : Nat) (cs : Array Value) (t : Tr d) (ks : List (Tr d)) (l2 : List UInt8) (m2 : Nat) (v1 : Value) (X : World) : Prop where
  own : OwnN P X d v1 ks
  nd : NdAt (fun q => P q ∧ blk v1 ≠ some q) d X cs t
  kid : X.heap[g0]? = some (.cells cs 25 (0, 0))
  rd : Rd X R l2 m2
  to : w.grownBy X (some R)
theorem Aft.below {P : Nat → Prop} {R d : Nat} {w : World} {g0 : Nat} {cs : Array Value} {t : Tr d} {ks : List (Tr d)} {l2 : List UInt8} {m2 : Nat} {v1 : Value} {X Y : World} (h : Aft P R d w g0 cs t ks l2 m2 v1 X) (hb : Below X.heap.size X Y) : Aft P R d w g0 cs t ks l2 m2 v1 Y :=
  ⟨h.own.below hb, h.nd.below hb (Nat.le_refl _), row_keep hb h.kid, h.rd.below hb, h.to.trans (to_below hb)⟩
theorem KS.flush {d lev : Nat} {V : Except Nat (List (Tr d) × List UInt8 × Nat)} {R : Nat} {l : List UInt8} {w : World} {kv wv : Value} {kd : List (Tr d)} {ws l' : List UInt8} {m' : Nat} {wr : World} (h : KS d lev V R l w kv wv kd ws l' m' wr) (hR : R < w.heap.size) (hn : kd.length ≤ 1000000)
    {W2 W3 : World} {cs : Array Value} {t : Tr d} {l2 : List UInt8} {m2 : Nat} (hg : wr.grownBy W2 (some R)) (hnd : NdAt (fun q => wr.heap.size ≤ q) d W2 cs t) (hr : Rd W2 R l2 m2) (b3 : Below W2.heap.size W2 W3) (hk : W3.heap[W2.heap.size]? = some (.cells cs 25 (0, 0)))
    (X : World) (hX : Below W3.heap.size W3 X) : Calls Tryz.prog 108 #[kv, wv] X fun e w1 => ∃ v1, e = .returned v1 ∧ Aft (fun q => w.heap.size ≤ q ∧ blk wv ≠ some q) R d w W2.heap.size cs t (kd ++ pend d ws) l2 m2 v1 w1 ∧ X.grownBy w1 (blk kv) ∧ (∀ g o, X.heap[g]? = some o → blk kv ≠ some g → w1.heap[g]? = some o) := by
  have b2 : Below W2.heap.size W2 X := b3.trans (hX.mono b3.size)
  obtain ⟨h1, h2, h3⟩ := h.call hR hg
  have o1 : OwnN (fun q => w.heap.size ≤ q ∧ blk wv ≠ some q) X d kv kd := h1.below b2
  have w1' : Wd X w.heap.size wv ws := h2.frame fun q hq hl => b2.block q hl
  have hbk : ∀ q, blk kv = some q → w.heap.size ≤ q ∧ q < wr.heap.size := fun q hq => ⟨(h.own.blk_P q hq).1.1, (h.own.blk_P q hq).2⟩
  have hbw : ∀ q, blk wv = some q → q < wr.heap.size := fun q hq => (h.wd.blk_ge q hq).2
  have s1 := hg.size
  have s2 := b2.size
  have s0 := h.to.size
  refine (appendText_any (P := fun q => w.heap.size ≤ q ∧ blk wv ≠ some q) d w.heap.size kv wv kd ws X o1 w1' hn (fun q hq => ⟨by omega, fun e => by have := hbw q e; omega⟩)).mono ?_
  rintro e w1 ⟨v1, rfl, k1, k2, k3⟩
  have hkeep : ∀ g o, X.heap[g]? = some o → blk kv ≠ some g → w1.heap[g]? = some o := fun g o hg hne => (k2.block g (Array.getElem?_eq_some_iff.1 hg).1 (fun e => hne e.symm)).trans hg
  refine ⟨v1, rfl, ⟨k1, ?_, ?_, ?_, ?_⟩, k2, hkeep⟩
  · have n1 : NdAt (fun q => wr.heap.size ≤ q ∧ q < W2.heap.size) d W2 cs t := hnd.mono fun q hq hl => ⟨hq, hl⟩
    have n2 := n1.below b2 (Nat.le_refl _)
    refine n2.frame k2.size fun q hq hl => ⟨k2.block q hl fun e => ?_, ⟨by omega, fun e => ?_⟩, fun e => ?_⟩
    · have := (hbk q e.symm).2
      omega
    · have := hbw q e
      omega
    · rcases k3 with k3 | ⟨q', k3, k4⟩
      · rw [k3] at e
        have := (hbk q e).2
        omega
      · rw [k3] at e
        injection e with e
        omega
  · refine hkeep _ _ (row_keep hX hk) fun e => ?_
    have := (hbk _ e).2
    omega
  · have hRX : Rd X R l2 m2 := hr.below b2
    refine rd_own hRX k2 fun e => ?_
    have := (hbk _ e).1
    omega
  · exact grown_own (h3.trans (to_below b2)) k2 fun q hq => (hbk q hq).1
theorem KS.next {d lev : Nat} {V : Except Nat (List (Tr d) × List UInt8 × Nat)} {R : Nat} {l : List UInt8} {w : World} {wv : Value} {ks : List (Tr d)} {g0 : Nat} {cs : Array Value} {t : Tr d} {l2 : List UInt8} {m2 : Nat} {v1 v4 : Value} {X W4 : World} (h : Aft (fun q => w.heap.size ≤ q ∧ blk wv ≠ some q) R d w g0 cs t ks l2 m2 v1 X) (hR : R < w.heap.size)
    (hnx : kidW d (elX d lev) ((ks ++ [t]) ++ pend d []) l2 m2 = V ∧ l2 <:+ l ∧ m2 ≤ 4096 ∧ (ks ++ [t]).length + ([] : List UInt8).length + l2.length ≤ l.length ∧ lastB d (ks ++ [t]) = false)
    (h1 : OwnN (fun q => w.heap.size ≤ q ∧ blk wv ≠ some q) W4 d v4 (ks ++ [t])) (h2 : X.grownBy W4 (blk v1)) : KS d lev V R l w v4 (.slice none 0 0) (ks ++ [t]) [] l2 m2 W4 := by
  have hb : ∀ q, blk v1 = some q → w.heap.size ≤ q := fun q hq => (h.own.blk_P q hq).1.1
  refine ⟨h1.frame (Nat.le_refl _) fun q hq _ => ⟨rfl, hq.1, fun e => by cases e⟩, Wd.nil _ _, hnx.2.2.2.2, hnx.1, hnx.2.1, hnx.2.2.1, hnx.2.2.2.1, rd_own h.rd h2 fun e => ?_, grown_own h.to h2 hb⟩
  have := hb R e
  omega
end Go.Proofs.YthjibliaofmlhaaGreatDoor
