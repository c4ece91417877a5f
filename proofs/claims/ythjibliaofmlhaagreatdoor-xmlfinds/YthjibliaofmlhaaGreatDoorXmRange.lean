
/- A range over a function that keeps rows of its own between the rounds (no program in it): what the function owes, what the loop's body owes, what then holds. -/
import Derived.Test.YthjibliaofmlhaaGreatDoorXmBase
import Derived.RangeFuncNested
import Derived.RangeFuncBound
import Derived.RangeFuncCalls
import Derived.RangeFuncLeaves
namespace Go.Proofs.YthjibliaofmlhaaGreatDoor
set_option linter.unusedVariables false
set_option linter.unusedSimpArgs false
open Go.RowKit

/-- What the function that gives may do: new blocks, and its own rows of elements of type e, at or above B. -/
structure Turn (e : TypeId) (B : Nat) (A C : World) : Prop where
  low : Below B A C
  keep : ∀ k cs ty fr, B ≤ k → A.heap[k]? = some (.cells cs ty fr) → ty ≠ e → C.heap[k]? = A.heap[k]?
theorem Turn.of_below {e : TypeId} {B : Nat} {A C : World} (h : Below A.heap.size A C) (hB : B ≤ A.heap.size) : Turn e B A C := ⟨h.mono hB, fun k cs ty fr _ hk _ => h.block k (Array.getElem?_eq_some_iff.1 hk).1⟩
theorem Turn.down {e : TypeId} {B B' : Nat} {A C : World} (h : Turn e B A C) (hB : B' ≤ B) : Turn e B' A C := ⟨h.low.mono hB, fun k cs ty fr hk hc hne => by
  rcases Nat.lt_or_ge k B with h1 | h1
  · exact h.low.block k h1
  · exact h.keep k cs ty fr h1 hc hne⟩
/-- A row of such elements turns. -/
theorem Turn.of_row {e : TypeId} {B g : Nat} {A C : World} (hg : A.grownBy C (some g)) (hB : B ≤ g) (hs : B ≤ A.heap.size) (hr : ∃ cs fr, A.heap[g]? = some (.cells cs e fr)) : Turn e B A C :=
  ⟨⟨hg.os, hg.tape, hg.output, hg.size, fun k hk => hg.block k (by omega) (fun e => by injection e with e; omega)⟩, fun k cs ty fr hk hc hne => hg.block k (Array.getElem?_eq_some_iff.1 hc).1 (fun e' => by
    injection e' with e'
    subst e'
    obtain ⟨cs', fr', h'⟩ := hr
    rw [hc] at h'
    injection h' with h'
    injection h' with _ h' _
    exact hne h')⟩
theorem Turn.trans {e : TypeId} {B : Nat} {A C D : World} (h : Turn e B A C) (k : Turn e B C D) : Turn e B A D := ⟨h.low.trans k.low, fun q cs ty fr hq hc hne => by
  have h1 := h.keep q cs ty fr hq hc hne
  rw [k.keep q cs ty fr hq (h1.trans hc) hne, h1]⟩
/-- It hangs on nothing of that. -/
def Low (e : TypeId) (B : Nat) (I : World → Prop) : Prop := ∀ A C, I A → Turn e B A C → I C
/-- What a round keeps: what lay below n0, and all that was laid since the loop began, but rows of elements of type e2. -/
structure Keeps (e2 : TypeId) (n0 B : Nat) (A C : World) : Prop where
  low : Below n0 A C
  high : ∀ k, B ≤ k → k < A.heap.size → (∀ cs fr, A.heap[k]? ≠ some (.cells cs e2 fr)) → C.heap[k]? = A.heap[k]?
theorem Keeps.refl (e2 : TypeId) (n0 B : Nat) (A : World) : Keeps e2 n0 B A A := ⟨Below.refl _ _, fun _ _ _ _ => rfl⟩
theorem Keeps.trans {e2 : TypeId} {n0 B : Nat} {A C E : World} (h : Keeps e2 n0 B A C) (k : Keeps e2 n0 B C E) : Keeps e2 n0 B A E :=
  ⟨h.low.trans k.low, fun i h1 h2 h3 => by
    have h4 := h.high i h1 h2 h3
    rw [k.high i h1 (Nat.lt_of_lt_of_le h2 h.low.size) (fun cs fr => by rw [h4]; exact h3 cs fr), h4]⟩
theorem Keeps.of_below {e2 : TypeId} {n0 B : Nat} {A C : World} (h : Below A.heap.size A C) (hn : n0 ≤ A.heap.size) : Keeps e2 n0 B A C := ⟨h.mono hn, fun k _ hk _ => h.block k hk⟩
/-- The function gf gives xs, one by one, to whatever body keeps that. -/
def Gives {α : Type} (e e2 : TypeId) (F : Fence) (n : Nat) (P : Program) (gf : Nat) (lb : Array Value) (enc : α → Array Value → Prop) (n0 : Nat) (xs : List α) (w : World) : Prop :=
  ∀ (l B : Nat) (J Jx : List α → World → Prop) (W : World), Below w.heap.size w W → n0 ≤ B → B ≤ W.heap.size → (∀ pre, Low e W.heap.size (J pre)) → (∀ pre, Low e W.heap.size (Jx pre)) →
    (∀ pre x vs W1, J pre W1 → (pre ++ [x]) <+: xs → enc x vs → YieldAt F (n - 1) P l vs W1 fun e W' =>
      (e = .returned (.bool true) ∧ J (pre ++ [x]) W' ∧ Keeps e2 n0 B W1 W') ∨ (e = .returned (.bool false) ∧ Jx (pre ++ [x]) W')) →
    J [] W →
    CallsIn F n P gf (#[.func (.yield l) #[] #[]] ++ lb) W fun e W' => (∃ v, e = .returned v) ∧ (J xs W' ∨ ∃ pre, pre <+: xs ∧ Jx pre W')
/-- How a body may be left: off its end, or by a return. -/
def LeftBy {α : Type} (e2 : TypeId) (n0 B : Nat) (I Ix : List α → World → Prop) (xs : List α) (W : World) : Exit → Act → World → Prop
  | .normal, _, W' => Keeps e2 n0 B W W' ∧ I xs W'
  | .ret, _, W' => Keeps e2 n0 B W W' ∧ Ix xs W'
  | _, _, _ => False
theorem put_turn {e : TypeId} {B : Nat} {W : World} {l : Nat} {o o' : Obj} (hl : B ≤ l) (h : W.heap[l]? = some o) (ho : ∀ cs ty fr, o ≠ .cells cs ty fr) : Turn e B W (W.putObj l o') :=
  ⟨⟨rfl, rfl, rfl, by simp, fun k hk => World.putObj_heap_other (by omega)⟩, fun k cs ty fr _ hc _ => World.putObj_heap_other (fun e => by subst e; rw [h] at hc; injection hc with hc; exact ho _ _ _ hc)⟩
theorem put_low {n0 : Nat} {W : World} {l : Nat} {o : Obj} (h : n0 ≤ l) : Below n0 W (W.putObj l o) := ⟨rfl, rfl, rfl, by simp, fun k hk => World.putObj_heap_other (by omega)⟩
theorem range_law {e e2 : TypeId} {F : Fence} {n : Nat} {P : Program} {α : Type} {g : Operand} {ps : Array Tmp} {assign body : Code} {Q : Exit → Act → World → Prop} {a : Act} {w : World}
    (hro : F.round = none) (h1 : 1 ≤ n) {gf : Nat} {lb : Array Value} (hg : a.eval g = .func (.func gf) #[] lb) (hFg : F.fn gf) (eg : ∀ args w, (callFunc gf args).run P w = .ok (.enter gf args) w)
    {enc : α → Array Value → Prop} {n0 : Nat} {xs : List α} (hseq : Gives e e2 F (n - 1) P gf lb enc n0 xs w) (hn0 : n0 ≤ w.heap.size) (hps : ∀ x vs, enc x vs → vs.size = ps.size)
    (I Ix : List α → World → Prop) (hI : ∀ pre, Low e w.heap.size (I pre)) (hIx : ∀ pre, Low e w.heap.size (Ix pre)) (h0 : I [] w) (A : Array Value → World → Act × World) (hA : ∀ vs W, Below W.heap.size W (A vs W).2)
    (hassign : ∀ (l : Nat) (x : α) (vs : Array Value) (W : World) (K : Act → World → Prop), enc x vs → K (A vs W).1 (A vs W).2 →
      assign.wpIn (F.inRound l) (n - 1 - 1) P (Exit.then K (fun _ _ _ => False)) { tmps := (ps.zip vs).foldl (fun t (p, v) => t.setIfInBounds p v) a.tmps, defers := [] } W)
    (hbody : ∀ (l : Nat) (pre : List α) (x : α) (vs : Array Value) (W V : World), I pre V → w.heap.size + 2 ≤ W.heap.size → (∀ k, k ≠ w.heap.size + 1 → V.heap[k]? = (A vs W).2.heap[k]?) → V.heap.size = (A vs W).2.heap.size → (pre ++ [x]) <+: xs → enc x vs → body.wpIn (F.inRound l) (n - 1 - 1) P (LeftBy e2 n0 w.heap.size I Ix (pre ++ [x]) V) (A vs W).1 V)
    (hdone : ∀ (D : Nat) (W : World), w.heap.size ≤ D → I xs W → W.heap[D]? = some (.deferred (some [])) → Q .normal { a with defers := { target := .collected D, args := #[] } :: a.defers } W)
    (hstop : ∀ (D : Nat) (pre : List α) (W : World), w.heap.size ≤ D → pre <+: xs → Ix pre W → W.heap[D]? = some (.deferred (some [])) → Code.ret.wpIn F n P Q { a with defers := { target := .collected D, args := #[] } :: a.defers } W) :
    (Code.rangeFunc g ps assign body).wpIn F n P Q a w := by
  refine wpIn_rangeFunc fun fn hfn => ?_
  rw [hro]
  obtain ⟨lp, hlp⟩ : ∃ lp : LoopState → Option Code → Obj, lp = fun st pe => .loop { state := st, pending := pe, fn, tmps := a.tmps, params := ps, assign, body, defers := w.heap.size } := ⟨_, rfl⟩
  obtain ⟨W1, hW1⟩ : ∃ W1, (w.alloc (.deferred (some []))).alloc (lp .ready none) = W1 := ⟨_, rfl⟩
  have b1 : Below w.heap.size w W1 := by
    rw [← hW1]; exact ((Below.refl _ w).alloc (Nat.le_refl _) _).alloc (by simp) _
  have s1 : W1.heap.size = w.heap.size + 2 := by rw [← hW1]; simp
  have r1 : W1.heap[w.heap.size + 1]? = some (lp .ready none) := by
    rw [← hW1]
    have := World.alloc_heap_new (w.alloc (.deferred (some []))) (lp .ready none)
    rwa [World.size_alloc] at this
  have d1 : W1.heap[w.heap.size]? = some (.deferred (some [])) := by
    rw [← hW1]; exact (Below.heap_alloc _ _ _ (by simp)).trans (World.alloc_heap_new w _)
  refine ⟨w.heap.size + 1, [{ target := .collected w.heap.size, args := #[] }], W1, { target := .fn (.func gf) lb, args := #[.func (.yield (w.heap.size + 1)) #[] #[]] }, W1, gf, #[.func (.yield (w.heap.size + 1)) #[] #[]] ++ lb, W1, ?_, ?_, ?_, ?_, fun _ => h1, ?_⟩
  · rw [← hW1, hlp]; exact run_enterLoop_outer _ _ _ _ _
  · simp only [resolve, hg]
    simp [go_sem]
  · intro f' hf'; simp [Target.leads] at hf'; subst hf'; exact hFg
  · simp [invoke, go_sem, eg]
  · -- what stands between two rounds, and behind the last
    have keep : ∀ {A C : World} {k : Nat} {o : Obj}, A.heap[k]? = some o → k < W1.heap.size → Below W1.heap.size A C → C.heap[k]? = some o := fun ha hk hb => (hb.block _ hk).trans ha
    refine (hseq (w.heap.size + 1) w.heap.size
      (fun pre W => I pre W ∧ W.heap[w.heap.size + 1]? = some (lp .ready none) ∧ W.heap[w.heap.size]? = some (.deferred (some [])))
      (fun pre W => Ix pre W ∧ W.heap[w.heap.size + 1]? = some (lp .done (some .ret)) ∧ W.heap[w.heap.size]? = some (.deferred (some [])))
      W1 b1 hn0 (by omega)
      (fun pre A C hs hb => ⟨hI pre A C hs.1 (hb.down (by omega)), keep hs.2.1 (by omega) hb.low, keep hs.2.2 (by omega) hb.low⟩)
      (fun pre A C hs hb => ⟨hIx pre A C hs.1 (hb.down (by omega)), keep hs.2.1 (by omega) hb.low, keep hs.2.2 (by omega) hb.low⟩)
      ?_ ⟨hI [] w W1 h0 (Turn.of_below b1 (Nat.le_refl _)), r1, d1⟩).mono ?_
    · rintro pre x vs W ⟨hi, hl, hk⟩ hpre henc
      have hlt : w.heap.size + 1 < W.heap.size := (Array.getElem?_eq_some_iff.1 hl).1
      have hl' := hl
      rw [hlp] at hl'
      have hy := run_yield (P := P) (args := vs) hl' (hps x vs henc)
      have hAW := hA vs W
      have hl2 : (A vs W).2.heap[w.heap.size + 1]? = some (lp .ready none) := (hAW.block _ hlt).trans hl
      have hl2' := hl2
      rw [hlp] at hl2'
      have hbr := run_beginRound (P := P) hl2' rfl
      refine ⟨fn, _, assign, body, hy, roundIn_of_wpIn hfn (hassign _ x vs W _ henc ⟨_, hbr, ?_⟩)⟩
      obtain ⟨V, hV⟩ : ∃ V, (A vs W).2.putObj (w.heap.size + 1) (lp .busy none) = V := ⟨_, rfl⟩
      have hV' := hV
      rw [hlp] at hV'
      simp only at hV' ⊢
      rw [hV']
      have hlt2 : w.heap.size + 1 < (A vs W).2.heap.size := Nat.lt_of_lt_of_le hlt hAW.size
      have v1 : Turn e w.heap.size W V := by rw [← hV]; exact (Turn.of_below hAW (by omega)).trans (put_turn (by omega) hl2 (by rw [hlp]; intro cs ty fr hh; cases hh))
      have vs1 : V.heap.size = (A vs W).2.heap.size := by rw [← hV]; simp
      have vl : V.heap[w.heap.size + 1]? = some (lp .busy none) := by rw [← hV]; exact World.putObj_heap_same hlt2
      have vo2 : ∀ k, k ≠ w.heap.size + 1 → V.heap[k]? = (A vs W).2.heap[k]? := fun k hk => by rw [← hV]; exact World.putObj_heap_other hk
      have vd : V.heap[w.heap.size]? = some (.deferred (some [])) := by rw [vo2 _ (by omega), hAW.block _ (by omega)]; exact hk
      have vo : ∀ k, k ≠ w.heap.size + 1 → k < W.heap.size → V.heap[k]? = W.heap[k]? := fun k hk hl => by rw [vo2 k hk, hAW.block k hl]
      have vz : W.heap.size ≤ V.heap.size := by rw [vs1]; exact hAW.size
      refine wpIn_mono (hbody _ pre x vs W V (hI pre W V hi v1) (by omega) vo2 vs1 hpre henc) ?_
      rintro ex a3 W3 hp
      -- behind the body: the loop's record is ready, or done
      have fin : Keeps e2 n0 w.heap.size V W3 → ∀ (jump : Option Code), ∃ W4, (Instr.endRound (w.heap.size + 1) jump).run P W3 = .ok (.bool jump.isNone) W4 ∧ Turn e w.heap.size W3 W4 ∧ W4.heap[w.heap.size + 1]? = some (lp (if jump.isNone then .ready else .done) jump) ∧ W4.heap[w.heap.size]? = some (.deferred (some [])) ∧ (jump = none → Keeps e2 n0 w.heap.size W W4) := fun hk3 jump => by
        have z3 : W.heap.size ≤ W3.heap.size := Nat.le_trans vz hk3.low.size
        have l3 := (hk3.high (w.heap.size + 1) (by omega) (by omega) (fun cs fr hh => by rw [vl, hlp] at hh; cases hh)).trans vl
        have dd3 := (hk3.high w.heap.size (Nat.le_refl _) (by omega) (fun cs fr hh => by rw [vd] at hh; cases hh)).trans vd
        have l3' := l3
        rw [hlp] at l3'
        have he := run_endRound (P := P) jump l3'
        refine ⟨_, he, put_turn (by omega) l3' (by intro cs ty fr hh; cases hh), ?_, (World.putObj_heap_other (by omega)).trans dd3, fun hj => ?_⟩
        · rw [hlp]
          exact World.putObj_heap_same (by omega)
        · subst hj
          refine ⟨(v1.low.mono hn0).trans (hk3.low.trans (put_low (by omega))), fun k h1 h2 h3 => ?_⟩
          by_cases hk : k = w.heap.size + 1
          · subst hk
            rw [World.putObj_heap_same (by omega), hl, hlp]
            rfl
          · rw [World.putObj_heap_other hk, hk3.high k h1 (by omega) (fun cs fr => by rw [vo k hk h2]; exact h3 cs fr), vo k hk h2]
      cases ex with
      | normal =>
        obtain ⟨W4, f1, f2, f3, f4, f5⟩ := fin hp.1 none
        exact ⟨_, W4, f1, .inl ⟨rfl, ⟨hI _ W3 W4 hp.2 f2, f3, f4⟩, f5 rfl⟩⟩
      | ret =>
        obtain ⟨W4, f1, f2, f3, f4, f5⟩ := fin hp.1 (some .ret)
        exact ⟨_, W4, f1, .inr ⟨rfl, hIx _ W3 W4 hp.2 f2, f3, f4⟩⟩
      | exit id => exact hp.elim
      | goto t => exact hp.elim
      | panic ch => exact hp.elim
      | outgrown => exact hp.elim
    · rintro e W2 ⟨⟨v, rfl⟩, (⟨hi, hl, hk⟩ | ⟨pre, hpre, hi, hl, hk⟩)⟩
      · rw [hlp] at hl
        refine ⟨none, _, run_endLoop (P := P) hl (by simp), ?_⟩
        exact hdone _ _ (Nat.le_refl _) (hI _ W2 _ hi (put_turn (by omega) hl (by intro cs ty fr hh; cases hh))) ((World.putObj_heap_other (by omega)).trans hk)
      · rw [hlp] at hl
        refine ⟨some .ret, _, run_endLoop (P := P) hl (by simp), ?_⟩
        exact hstop _ pre _ (Nat.le_refl _) hpre (hIx _ W2 _ hi (put_turn (by omega) hl (by intro cs ty fr hh; cases hh))) ((World.putObj_heap_other (by omega)).trans hk)
end Go.Proofs.YthjibliaofmlhaaGreatDoor
