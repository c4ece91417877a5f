import Derived.Test.YtgoiafndapemjaaGreatDoorQ01
import Derived.RangeFuncNested
import Derived.RangeFuncBound
import Derived.RangeFuncCalls
import Derived.RangeFuncLeaves
import Derived.Test.YtgoiafndapemjaaGreatDoorQ15
import Derived.Shelf.Abstract
import Derived.Test.YtgoiafndapemjaaGreatDoorQ11
import Derived.Test.YtgoiafndapemjaaGreatDoorQ03
import Derived.Test.YtgoiafndapemjaaGreatDoorQ13
import Derived.Test.YtgoiafndapemjaaGreatDoorQ05
import Derived.Test.YtgoiafndapemjaaGreatDoorQ14
import Derived.BigQuiet
import Derived.Lib.QuietBelow
set_option linter.unusedVariables false
set_option linter.unusedSimpArgs false
set_option maxHeartbeats 1000000
namespace Go.Proofs.YtgoiafndapemjaaGreatDoor
open Go.RowKit
structure Turn (e : TypeId) (B : Nat) (A C : World) : Prop where
 low : Below B A C
 keep : ∀ k cs ty fr, B ≤ k → A.heap[k]? = some (.cells cs ty fr) → ty ≠ e → C.heap[k]? = A.heap[k]?
theorem Turn.of_below {e : TypeId} {B : Nat} {A C : World} (h : Below A.heap.size A C) (hB : B ≤ A.heap.size) : Turn e B A C := ⟨h.mono hB, fun k cs ty fr _ hk _ => h.block k (Array.getElem?_eq_some_iff.1 hk).1⟩
theorem Turn.down {e : TypeId} {B B' : Nat} {A C : World} (h : Turn e B A C) (hB : B' ≤ B) : Turn e B' A C := ⟨h.low.mono hB, fun k cs ty fr hk hc hne => by
 rcases Nat.lt_or_ge k B with h1 | h1
 ·exact h.low.block k h1
 ·exact h.keep k cs ty fr h1 hc hne⟩
theorem Turn.of_row {e : TypeId} {B g : Nat} {A C : World} (hg : A.grownBy C (some g)) (hB : B ≤ g) (hs : B ≤ A.heap.size) (hr : ∃ cs fr, A.heap[g]? = some (.cells cs e fr)) : Turn e B A C :=
 ⟨⟨hg.os, hg.tape, hg.output, hg.size, fun k hk => hg.block k (by omega) (fun e => by injection e with e; omega)⟩, fun k cs ty fr hk hc hne => hg.block k (Array.getElem?_eq_some_iff.1 hc).1 (fun e' => by
  injection e' with e'
  subst e'
  obtain ⟨cs', fr', h'⟩ := hr
  rw [hc] at h'
  injection h' with h'
  injection h' with _ h' _
  exact hne h')⟩
theorem Turn.trans {e : TypeId} {B : Nat} {A C D : World} (h : Turn e B A C) (k : Turn e B C D) : Turn e B A D := ⟨h.low.trans k.low, fun q cs ty fr hq hc hne => by
 have h1 := h.keep q cs ty fr hq hc hne
 rw [k.keep q cs ty fr hq (h1.trans hc) hne, h1]⟩
def Low (e : TypeId) (B : Nat) (I : World → Prop) : Prop := ∀ A C, I A → Turn e B A C → I C
structure Keeps (e2 : TypeId) (n0 B : Nat) (A C : World) : Prop where
 low : Below n0 A C
 high : ∀ k, B ≤ k → k < A.heap.size → (∀ cs fr, A.heap[k]? ≠ some (.cells cs e2 fr)) → C.heap[k]? = A.heap[k]?
theorem Keeps.refl (e2 : TypeId) (n0 B : Nat) (A : World) : Keeps e2 n0 B A A := ⟨Below.refl _ _, fun _ _ _ _ => rfl⟩
theorem Keeps.trans {e2 : TypeId} {n0 B : Nat} {A C E : World} (h : Keeps e2 n0 B A C) (k : Keeps e2 n0 B C E) : Keeps e2 n0 B A E :=
 ⟨h.low.trans k.low, fun i h1 h2 h3 => by
  have h4 := h.high i h1 h2 h3
  rw [k.high i h1 (Nat.lt_of_lt_of_le h2 h.low.size) (fun cs fr => by rw [h4]; exact h3 cs fr), h4]⟩
theorem Keeps.of_below {e2 : TypeId} {n0 B : Nat} {A C : World} (h : Below A.heap.size A C) (hn : n0 ≤ A.heap.size) : Keeps e2 n0 B A C := ⟨h.mono hn, fun k _ hk _ => h.block k hk⟩
theorem Keeps.of_only {e2 : TypeId} {n0 B g : Nat} {A C : World} (h : Only g A C) (h1 : n0 ≤ g) (h2 : g < B) : Keeps e2 n0 B A C := ⟨h.below h1, fun k hk _ _ => h.block k (by omega)⟩
def Gives {α : Type} (e e2 : TypeId) (F : Fence) (n : Nat) (P : Program) (gf : Nat) (lb : Array Value) (enc : α → Array Value → Prop) (n0 : Nat) (xs : List α) (w : World) : Prop :=
 ∀ (l B : Nat) (J Jx : List α → World → Prop) (W : World), Below w.heap.size w W → n0 ≤ B → B ≤ W.heap.size → (∀ pre, Low e W.heap.size (J pre)) → (∀ pre, Low e W.heap.size (Jx pre)) →
  (∀ pre x vs W1, J pre W1 → (pre ++ [x]) <+: xs → enc x vs → YieldAt F (n - 1) P l vs W1 fun e W' =>
   (e = .returned (.bool true) ∧ J (pre ++ [x]) W' ∧ Keeps e2 n0 B W1 W') ∨ (e = .returned (.bool false) ∧ Jx (pre ++ [x]) W')) →
  J [] W →
  CallsIn F n P gf (#[.func (.yield l) #[] #[]] ++ lb) W fun e W' => (∃ v, e = .returned v) ∧ (J xs W' ∨ ∃ pre, pre <+: xs ∧ Jx pre W')
def LeftBy {α : Type} (e2 : TypeId) (n0 B : Nat) (I Ix : List α → World → Prop) (xs : List α) (W : World) : Exit → Act → World → Prop
 | .normal, _, W' => Keeps e2 n0 B W W' ∧ I xs W'
 | .ret, _, W' => Keeps e2 n0 B W W' ∧ Ix xs W'
 | _, _, _ => False
theorem put_turn {e : TypeId} {B : Nat} {W : World} {l : Nat} {o o' : Obj} (hl : B ≤ l) (h : W.heap[l]? = some o) (ho : ∀ cs ty fr, o ≠ .cells cs ty fr) : Turn e B W (W.putObj l o') :=
 ⟨⟨rfl, rfl, rfl, by simp, fun k hk => World.putObj_heap_other (by omega)⟩, fun k cs ty fr _ hc _ => World.putObj_heap_other (fun e => by subst e; rw [h] at hc; injection hc with hc; exact ho _ _ _ hc)⟩
theorem put_low {n0 : Nat} {W : World} {l : Nat} {o : Obj} (h : n0 ≤ l) : Below n0 W (W.putObj l o) := ⟨rfl, rfl, rfl, by simp, fun k hk => World.putObj_heap_other (by omega)⟩
theorem range_law {e e2 : TypeId} {F : Fence} {n : Nat} {P : Program} {α : Type} {g : Operand} {ps : Array Tmp} {assign body : Code} {Q : Exit → Act → World → Prop} {a : Act} {w : World}
  (hro : F.round = none) (h1 : 1 ≤ n) {gf : Nat} {lb : Array Value} (hg : a.eval g = .func (.func gf) #[] lb) (hFg : F.fn gf) (eg : ∀ args w, (callFunc gf args).run P w = .ok (.enter gf args) w)
  {enc : α → Array Value → Prop} {n0 : Nat} {xs : List α} (hseq : Gives e e2 F (n - 1) P gf lb enc n0 xs w) (hn0 : n0 ≤ w.heap.size) (hps : ∀ x vs, enc x vs → vs.size = ps.size)
  (I Ix : List α → World → Prop) (hI : ∀ pre, Low e w.heap.size (I pre)) (hIx : ∀ pre, Low e w.heap.size (Ix pre)) (h0 : I [] w) (A : Array Value → World → Act × World) (hA : ∀ vs W, Below W.heap.size W (A vs W).2)
  (hassign : ∀ (l : Nat) (x : α) (vs : Array Value) (W : World) (K : Act → World → Prop), enc x vs → K (A vs W).1 (A vs W).2 →
   assign.wpIn (F.inRound l) (n - 1 - 1) P (Exit.then K (fun _ _ _ => False)) { tmps := (ps.zip vs).foldl (fun t (p, v) => t.setIfInBounds p v) a.tmps, defers := [] } W)
  (hbody : ∀ (l : Nat) (pre : List α) (x : α) (vs : Array Value) (W V : World), I pre V → w.heap.size + 2 ≤ W.heap.size → (∀ k, k ≠ w.heap.size + 1 → V.heap[k]? = (A vs W).2.heap[k]?) → V.heap.size = (A vs W).2.heap.size → (pre ++ [x]) <+: xs → enc x vs → body.wpIn (F.inRound l) (n - 1 - 1) P (LeftBy e2 n0 w.heap.size I Ix (pre ++ [x]) V) (A vs W).1 V)
  (hdone : ∀ (D : Nat) (W : World), w.heap.size ≤ D → I xs W → W.heap[D]? = some (.deferred (some [])) → Q .normal { a with defers := { target := .collected D, args := #[] } :: a.defers } W)
  (hstop : ∀ (D : Nat) (pre : List α) (W : World), w.heap.size ≤ D → pre <+: xs → Ix pre W → W.heap[D]? = some (.deferred (some [])) → Code.ret.wpIn F n P Q { a with defers := { target := .collected D, args := #[] } :: a.defers } W) :
  (Code.rangeFunc g ps assign body).wpIn F n P Q a w := by
 refine wpIn_rangeFunc fun fn hfn => ?_
 rw [hro]
 obtain ⟨lp, hlp⟩ : ∃ lp : LoopState → Option Code → Obj, lp = fun st pe => .loop { state := st, pending := pe, fn, tmps := a.tmps, params := ps, assign, body, defers := w.heap.size } := ⟨_, rfl⟩
 obtain ⟨W1, hW1⟩ : ∃ W1, (w.alloc (.deferred (some []))).alloc (lp .ready none) = W1 := ⟨_, rfl⟩
 have b1 : Below w.heap.size w W1 := by
  rw [← hW1]; exact ((Below.refl _ w).alloc (Nat.le_refl _) _).alloc (by simp) _
 have s1 : W1.heap.size = w.heap.size + 2 := by rw [← hW1]; simp
 have r1 : W1.heap[w.heap.size + 1]? = some (lp .ready none) := by
  rw [← hW1]
  have := World.alloc_heap_new (w.alloc (.deferred (some []))) (lp .ready none)
  rwa [World.size_alloc] at this
 have d1 : W1.heap[w.heap.size]? = some (.deferred (some [])) := by
  rw [← hW1]; exact (Below.heap_alloc _ _ _ (by simp)).trans (World.alloc_heap_new w _)
 refine ⟨w.heap.size + 1, [{ target := .collected w.heap.size, args := #[] }], W1, { target := .fn (.func gf) lb, args := #[.func (.yield (w.heap.size + 1)) #[] #[]] }, W1, gf, #[.func (.yield (w.heap.size + 1)) #[] #[]] ++ lb, W1, ?_, ?_, ?_, ?_, fun _ => h1, ?_⟩
 ·rw [← hW1, hlp]; exact run_enterLoop_outer _ _ _ _ _
 ·simp only [resolve, hg]
  simp [go_sem]
 ·intro f' hf'; simp [Target.leads] at hf'; subst hf'; exact hFg
 ·simp [invoke, go_sem, eg]
 ·-- what stands between two rounds, and behind the last
  have keep : ∀ {A C : World} {k : Nat} {o : Obj}, A.heap[k]? = some o → k < W1.heap.size → Below W1.heap.size A C → C.heap[k]? = some o := fun ha hk hb => (hb.block _ hk).trans ha
  refine (hseq (w.heap.size + 1) w.heap.size
   (fun pre W => I pre W ∧ W.heap[w.heap.size + 1]? = some (lp .ready none) ∧ W.heap[w.heap.size]? = some (.deferred (some [])))
   (fun pre W => Ix pre W ∧ W.heap[w.heap.size + 1]? = some (lp .done (some .ret)) ∧ W.heap[w.heap.size]? = some (.deferred (some [])))
   W1 b1 hn0 (by omega)
   (fun pre A C hs hb => ⟨hI pre A C hs.1 (hb.down (by omega)), keep hs.2.1 (by omega) hb.low, keep hs.2.2 (by omega) hb.low⟩)
   (fun pre A C hs hb => ⟨hIx pre A C hs.1 (hb.down (by omega)), keep hs.2.1 (by omega) hb.low, keep hs.2.2 (by omega) hb.low⟩)
   ?_ ⟨hI [] w W1 h0 (Turn.of_below b1 (Nat.le_refl _)), r1, d1⟩).mono ?_
  ·rintro pre x vs W ⟨hi, hl, hk⟩ hpre henc
   have hlt : w.heap.size + 1 < W.heap.size := (Array.getElem?_eq_some_iff.1 hl).1
   have hl' := hl
   rw [hlp] at hl'
   have hy := run_yield (P := P) (args := vs) hl' (hps x vs henc)
   have hAW := hA vs W
   have hl2 : (A vs W).2.heap[w.heap.size + 1]? = some (lp .ready none) := (hAW.block _ hlt).trans hl
   have hl2' := hl2
   rw [hlp] at hl2'
   have hbr := run_beginRound (P := P) hl2' rfl
   refine ⟨fn, _, assign, body, hy, roundIn_of_wpIn hfn (hassign _ x vs W _ henc ⟨_, hbr, ?_⟩)⟩
   obtain ⟨V, hV⟩ : ∃ V, (A vs W).2.putObj (w.heap.size + 1) (lp .busy none) = V := ⟨_, rfl⟩
   have hV' := hV
   rw [hlp] at hV'
   simp only at hV' ⊢
   rw [hV']
   have hlt2 : w.heap.size + 1 < (A vs W).2.heap.size := Nat.lt_of_lt_of_le hlt hAW.size
   have v1 : Turn e w.heap.size W V := by rw [← hV]; exact (Turn.of_below hAW (by omega)).trans (put_turn (by omega) hl2 (by rw [hlp]; intro cs ty fr hh; cases hh))
   have vs1 : V.heap.size = (A vs W).2.heap.size := by rw [← hV]; simp
   have vl : V.heap[w.heap.size + 1]? = some (lp .busy none) := by rw [← hV]; exact World.putObj_heap_same hlt2
   have vo2 : ∀ k, k ≠ w.heap.size + 1 → V.heap[k]? = (A vs W).2.heap[k]? := fun k hk => by rw [← hV]; exact World.putObj_heap_other hk
   have vd : V.heap[w.heap.size]? = some (.deferred (some [])) := by rw [vo2 _ (by omega), hAW.block _ (by omega)]; exact hk
   have vo : ∀ k, k ≠ w.heap.size + 1 → k < W.heap.size → V.heap[k]? = W.heap[k]? := fun k hk hl => by rw [vo2 k hk, hAW.block k hl]
   have vz : W.heap.size ≤ V.heap.size := by rw [vs1]; exact hAW.size
   refine wpIn_mono (hbody _ pre x vs W V (hI pre W V hi v1) (by omega) vo2 vs1 hpre henc) ?_
   rintro ex a3 W3 hp
   -- behind the body: the loop's record is ready, or done
   have fin : Keeps e2 n0 w.heap.size V W3 → ∀ (jump : Option Code), ∃ W4, (Instr.endRound (w.heap.size + 1) jump).run P W3 = .ok (.bool jump.isNone) W4 ∧ Turn e w.heap.size W3 W4 ∧ W4.heap[w.heap.size + 1]? = some (lp (if jump.isNone then .ready else .done) jump) ∧ W4.heap[w.heap.size]? = some (.deferred (some [])) ∧ (jump = none → Keeps e2 n0 w.heap.size W W4) := fun hk3 jump => by
    have z3 : W.heap.size ≤ W3.heap.size := Nat.le_trans vz hk3.low.size
    have l3 := (hk3.high (w.heap.size + 1) (by omega) (by omega) (fun cs fr hh => by rw [vl, hlp] at hh; cases hh)).trans vl
    have dd3 := (hk3.high w.heap.size (Nat.le_refl _) (by omega) (fun cs fr hh => by rw [vd] at hh; cases hh)).trans vd
    have l3' := l3
    rw [hlp] at l3'
    have he := run_endRound (P := P) jump l3'
    refine ⟨_, he, put_turn (by omega) l3' (by intro cs ty fr hh; cases hh), ?_, (World.putObj_heap_other (by omega)).trans dd3, fun hj => ?_⟩
    ·rw [hlp]
     exact World.putObj_heap_same (by omega)
    ·subst hj
     refine ⟨(v1.low.mono hn0).trans (hk3.low.trans (put_low (by omega))), fun k h1 h2 h3 => ?_⟩
     by_cases hk : k = w.heap.size + 1
     ·subst hk
      rw [World.putObj_heap_same (by omega), hl, hlp]
      rfl
     ·rw [World.putObj_heap_other hk, hk3.high k h1 (by omega) (fun cs fr => by rw [vo k hk h2]; exact h3 cs fr), vo k hk h2]
   cases ex with
   | normal =>
    obtain ⟨W4, f1, f2, f3, f4, f5⟩ := fin hp.1 none
    exact ⟨_, W4, f1, .inl ⟨rfl, ⟨hI _ W3 W4 hp.2 f2, f3, f4⟩, f5 rfl⟩⟩
   | ret =>
    obtain ⟨W4, f1, f2, f3, f4, f5⟩ := fin hp.1 (some .ret)
    exact ⟨_, W4, f1, .inr ⟨rfl, hIx _ W3 W4 hp.2 f2, f3, f4⟩⟩
   | exit id => exact hp.elim
   | goto t => exact hp.elim
   | panic ch => exact hp.elim
   | outgrown => exact hp.elim
  ·rintro e W2 ⟨⟨v, rfl⟩, (⟨hi, hl, hk⟩ | ⟨pre, hpre, hi, hl, hk⟩)⟩
   ·rw [hlp] at hl
    refine ⟨none, _, run_endLoop (P := P) hl (by simp), ?_⟩
    exact hdone _ _ (Nat.le_refl _) (hI _ W2 _ hi (put_turn (by omega) hl (by intro cs ty fr hh; cases hh))) ((World.putObj_heap_other (by omega)).trans hk)
   ·rw [hlp] at hl
    refine ⟨some .ret, _, run_endLoop (P := P) hl (by simp), ?_⟩
    exact hstop _ pre _ (Nat.le_refl _) hpre (hIx _ W2 _ hi (put_turn (by omega) hl (by intro cs ty fr hh; cases hh))) ((World.putObj_heap_other (by omega)).trans hk)
end Go.Proofs.YtgoiafndapemjaaGreatDoor
namespace Go.Proofs.YtgoiafndapemjaaGreatDoor
open Go.RowKit Go.BigFrame
theorem step_call {ops : Array Oper} {o : Oper} {a : Act} {w : World} {K : Act → World → Prop} {Q : Exit → Act → World → Prop} {E : Prop} (hgd : o.guard = none) (f : FuncId) (xs : Array Operand) (ts : Array TypeId)
  (ho : o.op = .call { callee := .value (.func f), args := xs, argTypes := ts }) (eg : ∀ args w, (callFunc f args).run Tryz.prog w = .ok (.enter f args) w) (vals : Array Value) (hv : xs.map a.eval = vals)
  {R : Value → World → Prop} (hc : Calls Tryz.prog f vals w fun e w' => ∃ v, e = .returned v ∧ R v w') (h : ∀ v w', R v w' → K (a.put o.dst v) w') :
  if Region.wanted o (yielded ops a.tmps) = true then Oper.wp Tryz.prog o a w K Q else E := by
 have hw : Region.wanted o (yielded ops a.tmps) = true := by simp [Region.wanted, hgd]
 rw [if_pos hw]
 unfold Oper.wp
 have hrun : (execOp a.eval o).run Tryz.prog w = .ok (.enter f vals) w := by
  simp [execOp, ho, resolve, invoke, hv, eg, Result.andThen, go_sem, Deferred.ofValue]
 rw [hrun, Oper.upon_enter]
 refine hc.mono fun e w'' hh => ?_
 obtain ⟨v, rfl, hr⟩ := hh
 exact h v w'' hr
theorem step_call2 {ops : Array Oper} {o : Oper} {a : Act} {w : World} {K : Act → World → Prop} {Q : Exit → Act → World → Prop} {E : Prop} (hgd : o.guard = none) (f : FuncId) (x y : Operand) (ts : Array TypeId)
  (ho : o.op = .call { callee := .value (.func f), args := #[x, y], argTypes := ts }) (eg : ∀ args w, (callFunc f args).run Tryz.prog w = .ok (.enter f args) w) (xv yv : Value) (hx : a.eval x = xv) (hy : a.eval y = yv)
  {R : Value → World → Prop} (hc : Calls Tryz.prog f #[xv, yv] w fun e w' => ∃ v, e = .returned v ∧ R v w') (h : ∀ v w', R v w' → K (a.put o.dst v) w') :
  if Region.wanted o (yielded ops a.tmps) = true then Oper.wp Tryz.prog o a w K Q else E :=
 step_call hgd f #[x, y] ts ho eg #[xv, yv] (by simp [hx, hy]) hc h
structure Aft (P : Nat → Prop) (R d : Nat) (w : World) (g0 : Nat) (cs : Array Value) (t : Tr d) (ks : List (Tr d)) (l2 : List UInt8) (m2 : Nat) (v1 : Value) (X : World) : Prop where
 own : OwnN P X d v1 ks
 nd : NdAt (fun q => P q ∧ blk v1 ≠ some q) d X cs t
 kid : X.heap[g0]? = some (.cells cs 25 (0, 0))
 rd : Rd X R l2 m2
 gto : w.grownBy X (some R)
theorem Aft.to {P : Nat → Prop} {R d : Nat} {w : World} {g0 : Nat} {cs : Array Value} {t : Tr d} {ks : List (Tr d)} {l2 : List UInt8} {m2 : Nat} {v1 : Value} {X : World} (h : Aft P R d w g0 cs t ks l2 m2 v1 X) : w.grownBy X (some R) := h.gto
theorem Aft.below {P : Nat → Prop} {R d : Nat} {w : World} {g0 : Nat} {cs : Array Value} {t : Tr d} {ks : List (Tr d)} {l2 : List UInt8} {m2 : Nat} {v1 : Value} {X Y : World} (h : Aft P R d w g0 cs t ks l2 m2 v1 X) (hb : Below X.heap.size X Y) : Aft P R d w g0 cs t ks l2 m2 v1 Y :=
 ⟨h.own.below hb, h.nd.below hb (Nat.le_refl _), row_keep hb h.kid, h.rd.below hb, h.to.trans (to_below hb)⟩
theorem KS.flush {d lev : Nat} {V : Except Nat (List (Tr d) × List UInt8 × Nat)} {R : Nat} {l : List UInt8} {w : World} {kv wv : Value} {kd : List (Tr d)} {ws l' : List UInt8} {m' : Nat} {wr : World} (h : KS d lev V R l w kv wv kd ws l' m' wr) (hR : R < w.heap.size) (hn : kd.length ≤ 1000000)
  {W2 W3 : World} {cs : Array Value} {t : Tr d} {l2 : List UInt8} {m2 : Nat} (hg : wr.grownBy W2 (some R)) (hnd : NdAt (fun q => wr.heap.size ≤ q) d W2 cs t) (hr : Rd W2 R l2 m2) (b3 : Below W2.heap.size W2 W3) (hk : W3.heap[W2.heap.size]? = some (.cells cs 25 (0, 0)))
  (X : World) (hX : Below W3.heap.size W3 X) : Calls Tryz.prog 164 #[kv, wv] X fun e w1 => ∃ v1, e = .returned v1 ∧ Aft (fun q => w.heap.size ≤ q ∧ blk wv ≠ some q) R d w W2.heap.size cs t (kd ++ pend d ws) l2 m2 v1 w1 ∧ X.grownBy w1 (blk kv) ∧ (∀ g o, X.heap[g]? = some o → blk kv ≠ some g → w1.heap[g]? = some o) := by
 have b2 : Below W2.heap.size W2 X := b3.trans (hX.mono b3.size)
 obtain ⟨h1, h2, h3⟩ := h.call hR hg
 have o1 : OwnN (fun q => w.heap.size ≤ q ∧ blk wv ≠ some q) X d kv kd := h1.below b2
 have w1' : Wd X w.heap.size wv ws := h2.frame fun q hq hl => b2.block q hl
 have hbk : ∀ q, blk kv = some q → w.heap.size ≤ q ∧ q < wr.heap.size := fun q hq => ⟨(h.own.blk_P q hq).1.1, (h.own.blk_P q hq).2⟩
 have hbw : ∀ q, blk wv = some q → q < wr.heap.size := fun q hq => (h.wd.blk_ge q hq).2
 have s1 := hg.size
 have s2 := b2.size
 have s0 := h.to.size
 refine (appendText_any (P := fun q => w.heap.size ≤ q ∧ blk wv ≠ some q) d w.heap.size kv wv kd ws X o1 w1' hn (fun q hq => ⟨by omega, fun e => by have := hbw q e; omega⟩)).mono ?_
 rintro e w1 ⟨v1, rfl, k1, k2, k3⟩
 have hkeep : ∀ g o, X.heap[g]? = some o → blk kv ≠ some g → w1.heap[g]? = some o := fun g o hg hne => (k2.block g (Array.getElem?_eq_some_iff.1 hg).1 (fun e => hne e.symm)).trans hg
 refine ⟨v1, rfl, ⟨k1, ?_, ?_, ?_, ?_⟩, k2, hkeep⟩
 ·have n1 : NdAt (fun q => wr.heap.size ≤ q ∧ q < W2.heap.size) d W2 cs t := hnd.mono fun q hq hl => ⟨hq, hl⟩
  have n2 := n1.below b2 (Nat.le_refl _)
  refine n2.frame k2.size fun q hq hl => ⟨k2.block q hl fun e => ?_, ⟨by omega, fun e => ?_⟩, fun e => ?_⟩
  ·have := (hbk q e.symm).2
   omega
  ·have := hbw q e
   omega
  ·rcases k3 with k3 | ⟨q', k3, k4⟩
   ·rw [k3] at e
    have := (hbk q e).2
    omega
   ·rw [k3] at e
    injection e with e
    omega
 ·refine hkeep _ _ (row_keep hX hk) fun e => ?_
  have := (hbk _ e).2
  omega
 ·have hRX : Rd X R l2 m2 := hr.below b2
  refine rd_own hRX k2 fun e => ?_
  have := (hbk _ e).1
  omega
 ·exact grown_own (h3.trans (to_below b2)) k2 fun q hq => (hbk q hq).1
theorem KS.next {d lev : Nat} {V : Except Nat (List (Tr d) × List UInt8 × Nat)} {R : Nat} {l : List UInt8} {w : World} {wv : Value} {ks : List (Tr d)} {g0 : Nat} {cs : Array Value} {t : Tr d} {l2 : List UInt8} {m2 : Nat} {v1 v4 : Value} {X W4 : World} (h : Aft (fun q => w.heap.size ≤ q ∧ blk wv ≠ some q) R d w g0 cs t ks l2 m2 v1 X) (hR : R < w.heap.size)
  (hnx : kidW d (elX d lev) ((ks ++ [t]) ++ pend d []) l2 m2 = V ∧ l2 <:+ l ∧ m2 ≤ 4096 ∧ (ks ++ [t]).length + ([] : List UInt8).length + l2.length ≤ l.length ∧ lastB d (ks ++ [t]) = false)
  (h1 : OwnN (fun q => w.heap.size ≤ q ∧ blk wv ≠ some q) W4 d v4 (ks ++ [t])) (h2 : X.grownBy W4 (blk v1)) : KS d lev V R l w v4 (.slice none 0 0) (ks ++ [t]) [] l2 m2 W4 := by
 have hb : ∀ q, blk v1 = some q → w.heap.size ≤ q := fun q hq => (h.own.blk_P q hq).1.1
 refine ⟨h1.frame (Nat.le_refl _) fun q hq _ => ⟨rfl, hq.1, fun e => by cases e⟩, Wd.nil _ _, hnx.2.2.2.2, hnx.1, hnx.2.1, hnx.2.2.1, hnx.2.2.2.1, rd_own h.rd h2 fun e => ?_, grown_own h.to h2 hb⟩
 have := hb R e
 omega
end Go.Proofs.YtgoiafndapemjaaGreatDoor
namespace Go.Proofs.YtgoiafndapemjaaGreatDoor
open Go.RowKit Go.BigFrame
end Go.Proofs.YtgoiafndapemjaaGreatDoor
namespace Go.Proofs.YtgoiafndapemjaaGreatDoor
open Go.RowKit Go.BigFrame
end Go.Proofs.YtgoiafndapemjaaGreatDoor
namespace Go.Proofs.YtgoiafndapemjaaGreatDoor
open Go.RowKit Go.BigFrame
end Go.Proofs.YtgoiafndapemjaaGreatDoor
namespace Go.Proofs.YtgoiafndapemjaaGreatDoor
open Go.RowKit Go.BigFrame
end Go.Proofs.YtgoiafndapemjaaGreatDoor
namespace Go.Proofs.YtgoiafndapemjaaGreatDoor
open Go.RowKit Go.BigFrame
end Go.Proofs.YtgoiafndapemjaaGreatDoor
namespace Go.Proofs.YtgoiafndapemjaaGreatDoor
open Go.RowKit Go.BigFrame
theorem step_call1 {ops : Array Oper} {o : Oper} {a : Act} {w : World} {K : Act → World → Prop} {Q : Exit → Act → World → Prop} {E : Prop} (hgd : o.guard = none) (f : FuncId) (x : Operand) (ts : Array TypeId)
  (ho : o.op = .call { callee := .value (.func f), args := #[x], argTypes := ts }) (eg : ∀ args w, (callFunc f args).run Tryz.prog w = .ok (.enter f args) w) (xv : Value) (hx : a.eval x = xv)
  {R : Value → World → Prop} (hc : Calls Tryz.prog f #[xv] w fun e w' => ∃ v, e = .returned v ∧ R v w') (h : ∀ v w', R v w' → K (a.put o.dst v) w') :
  if Region.wanted o (yielded ops a.tmps) = true then Oper.wp Tryz.prog o a w K Q else E :=
 step_call hgd f #[x] ts ho eg #[xv] (by simp [hx]) hc h
end Go.Proofs.YtgoiafndapemjaaGreatDoor
namespace Go.Proofs.YtgoiafndapemjaaGreatDoor
open Go.RowKit Go.BigFrame
def atC : Nat → List HdV → List UInt8 → Nat → Except Nat (List HdV × List UInt8 × Nat)
 | 0, _, _, _ => .error 99
 | f + 1, al, l, m =>
  if (l.dropWhile whX).length = l.length ∨ nmX (l.dropWhile whX) = [] then .ok (al, l.dropWhile whX, m)
  else (match attX al (l.dropWhile whX) m with
   | .error e => .error e
   | .ok (a, l2, m2) => atC f (al ++ [a]) l2 m2)
def atW (l : List UInt8) (m : Nat) := atC (l.length + 1) [] l m
theorem lat_slash : latX 47 = false ∧ latX 62 = false ∧ whX 47 = false ∧ whX 62 = false := by decide
theorem nm_none {c : UInt8} {r : List UInt8} (h : latX c = false) : nmX (c :: r) = [] := by
 rw [nm_eq]
 have : (c :: r).takeWhile latX = [] := by simp [List.takeWhile, h]
 rw [this]
 rfl
theorem ats_at : ∀ (f : Nat) (al : List HdV) (l : List UInt8) (m : Nat), atsX f al l m = (match atC f al l m with
  | .error e => .error e
  | .ok (as2, r, m2) => if preX [47, 62] r then .ok (as2, true, r.drop 2, m2) else if preX [62] r then .ok (as2, false, r.drop 1, m2) else .error 5)
 | 0, al, l, m => rfl
 | f + 1, al, l, m => by
  rw [atsX, atC]
  by_cases hn : (l.dropWhile whX).length = l.length ∨ nmX (l.dropWhile whX) = []
  ·rw [if_pos hn]
   simp only
   by_cases h1 : preX [47, 62] (l.dropWhile whX) = true
   ·rw [if_pos h1, if_pos h1]
   ·rw [if_neg h1, if_neg h1]
    by_cases h2 : preX [62] (l.dropWhile whX) = true
    ·rw [if_pos h2, if_pos h2]
    ·rw [if_neg h2, if_neg h2]
     by_cases h3 : (l.dropWhile whX).length = l.length
     ·rw [if_pos h3]
     ·rw [if_neg h3]
      have hn := hn.resolve_left h3
      have : attX al (l.dropWhile whX) m = .error 5 := by
       unfold attX
       have hx : nameX ((l.dropWhile whX).takeWhile latX) = false := by
        cases hx : nameX ((l.dropWhile whX).takeWhile latX) with
        | false => rfl
        | true =>
         rw [nm_eq, hx, if_pos rfl] at hn
         exact absurd hn (name_ne hx)
       rw [hx]
       rfl
      rw [this]
  ·rw [if_neg hn]
   rw [not_or] at hn
   obtain ⟨h3, hn⟩ := hn
   have h1 : preX [47, 62] (l.dropWhile whX) = false := by
    cases h : preX [47, 62] (l.dropWhile whX) with
    | false => rfl
    | true =>
     obtain ⟨r, e, _⟩ := pre_cons h
     rw [e] at hn
     exact absurd (nm_none lat_slash.1) hn
   have h2 : preX [62] (l.dropWhile whX) = false := by
    cases h : preX [62] (l.dropWhile whX) with
    | false => rfl
    | true =>
     obtain ⟨r, e, _⟩ := pre_cons h
     rw [e] at hn
     exact absurd (nm_none lat_slash.2.1) hn
   rw [h1, h2]
   simp only [Bool.false_eq_true, if_false]
   rw [if_neg h3]
   cases ha : attX al (l.dropWhile whX) m with
   | error e => rfl
   | ok q =>
    obtain ⟨a, l2, m2⟩ := q
    exact ats_at f _ _ _
def AtPost (l : List UInt8) (m R : Nat) (w : World) (e : Ending) (w' : World) : Prop := w.grownBy w' (some R) ∧
 ((∃ al r m2 A c, atW l m = .ok (al, r, m2) ∧ e = .returned (.tuple #[.slice A al.length c, .int .i64 0]) ∧ HdsP (fun q => w.heap.size ≤ q) w' A al ∧ Rd w' R r m2 ∧ r <:+ l ∧ m2 ≤ 4096) ∨
  (∃ er : Nat, atW l m = .error er ∧ (er = 3 ∨ er = 5) ∧ e = .returned (.tuple #[.slice none 0 0, .int .i64 er])))
def AtOk : Prop := ∀ (l : List UInt8) (m R : Nat) (w : World), l.length ≤ 65536 → (13 : UInt8) ∉ l → m ≤ 4096 → 7 < R → TabE w → Rd w R l m →
 Calls Tryz.prog 140 #[.pointer (some ⟨R, 0, none⟩)] w (AtPost l m R w)
theorem el_a {d lev : Nat} {l : List UInt8} {m : Nat} (h : preX [60] l = false) : elX d lev l m = .error 5 := by
 apply el_err
 unfold opX
 split
 ·rename_i r; simp [preX] at h
 ·rfl
theorem el_b' {d lev : Nat} {r : List UInt8} {m : Nat} (h : nmX r = []) : elX d lev (60 :: r) m = .error 5 := by
 apply el_err
 unfold opX
 have hx : nameX (r.takeWhile latX) = false := by
  cases hx : nameX (r.takeWhile latX) with
  | false => rfl
  | true => rw [nm_eq, hx, if_pos rfl] at h; exact absurd h (name_ne hx)
 simp [hx]
theorem nm_some {r : List UInt8} (h : nmX r ≠ []) : nameX (r.takeWhile latX) = true ∧ nmX r = r.takeWhile latX ∧ nrX r = r.dropWhile latX := by
 rw [nm_eq] at h
 cases hx : nameX (r.takeWhile latX) with
 | false => rw [hx] at h; simp at h
 | true => rw [nm_eq, nr_eq, hx]; exact ⟨rfl, rfl, rfl⟩
theorem el_c {d : Nat} {r : List UInt8} {m : Nat} (h : nmX r ≠ []) : elX d 0 (60 :: r) m = .error 9 := by
 apply el_err
 unfold opX
 simp [(nm_some h).1]
theorem el_d {d lev : Nat} {r : List UInt8} {m : Nat} (h : nmX r ≠ []) (hl : lev ≠ 0) (hm : ¬ m + 1 ≤ 4096) : elX d lev (60 :: r) m = .error 3 := by
 apply el_err
 unfold opX
 simp [(nm_some h).1, hl]
 omega
theorem op_at {lev : Nat} {r : List UInt8} {m : Nat} (h : nmX r ≠ []) (hl : lev ≠ 0) (hm : m + 1 ≤ 4096) : opX lev (60 :: r) m = (match atW (nrX r) (m + 1) with
  | .error e => .error e
  | .ok (as2, r2, m2) => if preX [47, 62] r2 then .ok (nmX r, as2, true, r2.drop 2, m2) else if preX [62] r2 then .ok (nmX r, as2, false, r2.drop 1, m2) else .error 5) := by
 obtain ⟨h1, h2, h3⟩ := nm_some h
 unfold opX
 simp only [h1, Bool.not_true, Bool.false_eq_true, if_false]
 rw [if_neg hl, if_neg (by omega), ats_at, ← h3, ← h2]
 unfold atW
 cases atC ((nrX r).length + 1) [] (nrX r) (m + 1) with
 | error e => rfl
 | ok q =>
  obtain ⟨as2, r2, m2⟩ := q
  simp only
  split
  ·rename_i h
   split at h
   ·cases h
   ·split at h
    ·cases h
    ·injection h with h; subst h
     rename_i h4 h5
     rw [if_neg h4, if_neg h5]
  ·rename_i h
   split at h
   ·rename_i h4
    rw [if_pos h4]
    injection h with h
    injection h with e1 e2
    injection e2 with e2 e3
    injection e3 with e3 e4
    subst e1 e2 e3 e4
    rfl
   ·rename_i h4
    rw [if_neg h4]
    split at h
    ·rename_i h5
     rw [if_pos h5]
     injection h with h
     injection h with e1 e2
     injection e2 with e2 e3
     injection e3 with e3 e4
     subst e1 e2 e3 e4
     rfl
    ·cases h
theorem el_e {d lev : Nat} {r : List UInt8} {m er : Nat} (h : nmX r ≠ []) (hl : lev ≠ 0) (hm : m + 1 ≤ 4096) (ha : atW (nrX r) (m + 1) = .error er) : elX d lev (60 :: r) m = .error er := by
 apply el_err
 rw [op_at h hl hm, ha]
theorem el_f {d lev : Nat} {r : List UInt8} {m : Nat} {al : List HdV} {r2 : List UInt8} {m2 : Nat} (h : nmX r ≠ []) (hl : lev ≠ 0) (hm : m + 1 ≤ 4096) (ha : atW (nrX r) (m + 1) = .ok (al, r2, m2)) (hp : preX [47, 62] r2 = true) : elX d lev (60 :: r) m = .ok (leaf d (nmX r, al, []), r2.drop 2, m2) := by
 have ho := op_at h hl hm
 rw [ha] at ho
 simp only at ho
 rw [if_pos hp] at ho
 cases d with
 | zero => unfold elX; rw [ho]; rfl
 | succ d => unfold elX; rw [ho]; rfl
theorem el_g {d lev : Nat} {r : List UInt8} {m : Nat} {al : List HdV} {r2 : List UInt8} {m2 : Nat} (h : nmX r ≠ []) (hl : lev ≠ 0) (hm : m + 1 ≤ 4096) (ha : atW (nrX r) (m + 1) = .ok (al, r2, m2)) (hp : preX [47, 62] r2 = false) (hq : preX [62] r2 = false) : elX d lev (60 :: r) m = .error 5 := by
 apply el_err
 rw [op_at h hl hm, ha]
 simp only
 rw [hp, hq]
 rfl
theorem el_h {d lev : Nat} {r : List UInt8} {m : Nat} {al : List HdV} {r2 : List UInt8} {m2 : Nat} (h : nmX r ≠ []) (hl : lev ≠ 0) (hm : m + 1 ≤ 4096) (ha : atW (nrX r) (m + 1) = .ok (al, r2, m2)) (hp : preX [47, 62] r2 = false) (hq : preX [62] r2 = true) : elX (d + 1) lev (60 :: r) m = (match kidW d (elX d (lev - 1)) [] (r2.drop 1) m2 with
  | .error e => .error e
  | .ok (ks, l3, m3) => (match endX (nmX r) l3 with
   | none => .error 5
   | some b => .ok (((nmX r, al, []), ks), b, m3))) := by
 have ho := op_at h hl hm
 rw [ha] at ho
 simp only at ho
 rw [if_neg (by rw [hp]; simp), if_pos hq] at ho
 have hm3 := (op_sh ho).2.2.1
 unfold elX
 rw [ho]
 simp only
 have e : kidX d (elX d (lev - 1)) ((r2.drop 1).length + 1) [] (r2.drop 1) m2 = kidW d (elX d (lev - 1)) [] (r2.drop 1) m2 := rfl
 rw [e]
 cases hk : kidW d (elX d (lev - 1)) [] (r2.drop 1) m2 with
 | error e => rfl
 | ok q =>
  obtain ⟨ks, l3, m3⟩ := q
  have hp3 := (kid_sh (el_sh d (lev - 1)) _ _ _ _ _ _ _ hm3 hk).2.2
  have hnm : nameX (nmX r) = true := by rw [(nm_some h).2.1]; exact (nm_some h).1
  simp only
  rw [end_cl _ _ hnm hp3]
  cases clX (nmX r) l3 <;> rfl
structure ES (R g4 g6 : Nat) (w : World) (cs4 cs6 : Array Value) (l : List UInt8) (m : Nat) (X : World) : Prop where
 rd : Rd X R l m
 gto : w.grownBy X (some R)
 r4 : X.heap[g4]? = some (.cells cs4 25 (0, 0))
 r6 : X.heap[g6]? = some (.cells cs6 25 (0, 0))
theorem ES.to {R g4 g6 : Nat} {w : World} {cs4 cs6 : Array Value} {l : List UInt8} {m : Nat} {X : World} (h : ES R g4 g6 w cs4 cs6 l m X) : w.grownBy X (some R) := h.gto
theorem ES.call {R g4 g6 : Nat} {w : World} {cs4 cs6 : Array Value} {l l2 : List UInt8} {m m2 : Nat} {X Y : World} (h : ES R g4 g6 w cs4 cs6 l m X) (h4 : R ≠ g4) (h6 : R ≠ g6) (hg : X.grownBy Y (some R)) (hr : Rd Y R l2 m2) : ES R g4 g6 w cs4 cs6 l2 m2 Y :=
 ⟨hr, h.to.trans hg, to_row hg h.r4 (Ne.symm h4), to_row hg h.r6 (Ne.symm h6)⟩
theorem ES.put6 {R g4 g6 : Nat} {w : World} {cs4 cs6 cs6' : Array Value} {l : List UInt8} {m : Nat} {X Y : World} (h : ES R g4 g6 w cs4 cs6 l m X) (h6 : R ≠ g6) (h46 : g4 ≠ g6) (hw : w.heap.size ≤ g6) (ho : Only g6 X Y) (hr : Y.heap[g6]? = some (.cells cs6' 25 (0, 0))) : ES R g4 g6 w cs4 cs6' l m Y :=
 ⟨(ho.block R h6).trans h.rd, grown_own h.to (to_only ho) (fun q hq => by injection hq with hq; omega), (ho.block g4 h46).trans h.r4, hr⟩
theorem atC_sh : ∀ (f : Nat) (al : List HdV) (l : List UInt8) (m : Nat) (as2 : List HdV) (r : List UInt8) (m2 : Nat), atC f al l m = .ok (as2, r, m2) → m ≤ 4096 → r <:+ l ∧ m2 ≤ 4096
 | 0, al, l, m, as2, r, m2, h, _ => by simp [atC] at h
 | f + 1, al, l, m, as2, r, m2, h, hm => by
  rw [atC] at h
  split at h
  ·injection h with h
   injection h with h1 h2
   injection h2 with h2 h3
   subst h2 h3
   exact ⟨dw_suf _ _, hm⟩
  ·split at h
   ·cases h
   ·rename_i a la ma ha
    obtain ⟨h1, rfl, h3⟩ := att_sh ha
    obtain ⟨k1, k2⟩ := atC_sh f _ _ _ _ _ _ h h3
    exact ⟨k1.trans (h1.1.trans (dw_suf _ _)), k2⟩
theorem at_sh {l : List UInt8} {m : Nat} {al : List HdV} {r : List UInt8} {m2 : Nat} (h : atW l m = .ok (al, r, m2)) (hm : m ≤ 4096) : r <:+ l ∧ m2 ≤ 4096 := atC_sh _ _ _ _ _ _ _ h hm
end Go.Proofs.YtgoiafndapemjaaGreatDoor
