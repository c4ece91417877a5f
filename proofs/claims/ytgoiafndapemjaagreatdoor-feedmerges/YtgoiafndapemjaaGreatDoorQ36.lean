import Derived.Test.YtgoiafndapemjaaGreatDoorQ11
import Derived.Test.YtgoiafndapemjaaGreatDoorQ35
import Derived.Test.YtgoiafndapemjaaGreatDoorQ17
set_option linter.unusedVariables false
set_option linter.unusedSimpArgs false
set_option maxHeartbeats 1000000
namespace Go.Proofs.YtgoiafndapemjaaGreatDoor
open Go.RowKit Go.BigFrame
def RowO (n0 : Nat) (w : World) (d g cap : Nat) (l : List (Tr d)) : Prop :=
 ∃ css : List (Array Value), css.length = l.length ∧ OwnK w 4 25 n0 g l.length cap (ndvs css) ∧ (∀ c ∈ css, c.size = 4) ∧ ∀ j, j < l.length → NdAt (fun q => q < n0) d w (css.getD j #[]) (l.getD j (zeroT d))
abbrev Pn : Type := (d : Nat) × Nat × Nat × List (Tr d)
def Pn.g (p : Pn) : Nat := p.2.1
def Pn.Row (n0 : Nat) (w : World) (p : Pn) : Prop := RowO n0 w p.1 p.2.1 p.2.2.1 p.2.2.2
def Pn.val (p : Pn) : Value := .slice (some ⟨p.2.1, 0, none⟩) p.2.2.2.length p.2.2.1
def RootN (w : World) (G : List Nat) (ps : List Pn) (D g0 : Nat) (L : List (Tr D)) : Prop :=
 ∀ W : World, w.heap.size ≤ W.heap.size → (∀ q, q < w.heap.size → q ∉ G → W.heap[q]? = w.heap[q]?) → (∀ p ∈ ps, NdsAt (fun _ => True) p.1 W (some ⟨p.2.1, 0, none⟩) p.2.2.2) → NdsAt (fun _ => True) D W (some ⟨g0, 0, none⟩) L
theorem RootN.step {w w1 : World} {G : List Nat} {ps : List Pn} {D g0 : Nat} {L : List (Tr D)} (h : RootN w G ps D g0 L) (hs : w.heap.size ≤ w1.heap.size) (hk : ∀ q, q < w.heap.size → q ∉ G → w1.heap[q]? = w.heap[q]?) : RootN w1 G ps D g0 L :=
 fun W h1 h2 h3 => h W (Nat.le_trans hs h1) (fun q hq hg => (h2 q (Nat.lt_of_lt_of_le hq hs) hg).trans (hk q hq hg)) h3
theorem RootN.push {w : World} {G : List Nat} {ps : List Pn} {D g0 : Nat} {L : List (Tr D)} (h : RootN w G ps D g0 L) (p : Pn) (g : Nat) (w1 : World) (hs : w.heap.size ≤ w1.heap.size) (hk : ∀ q, q < w.heap.size → q ∉ G → w1.heap[q]? = w.heap[q]?) (hg : w.heap.size ≤ g) : RootN w1 (g :: G) (p :: ps) D g0 L :=
 fun W h1 h2 h3 => h W (Nat.le_trans hs h1) (fun q hq hn => (h2 q (Nat.lt_of_lt_of_le hq hs) (by
  intro hm
  rcases List.mem_cons.1 hm with e | hm
  ·omega
  ·exact hn hm)).trans (hk q hq hn)) (fun p' hp' => h3 p' (List.mem_cons_of_mem _ hp'))
theorem RootN.perm {w : World} {G G' : List Nat} {ps ps' : List Pn} {D g0 : Nat} {L : List (Tr D)} (h : RootN w G ps D g0 L) (hG : ∀ q, q ∈ G → q ∈ G') (hG' : ∀ q, q ∈ G' → q ∈ G) (hp : ∀ p, p ∈ ps → p ∈ ps') : RootN w G' ps' D g0 L :=
 fun W h1 h2 h3 => h W h1 (fun q hq hn => h2 q hq (fun hm => hn (hG' q hm))) (fun p hm => h3 p (hp p hm))
def DoneN (w : World) (G : List Nat) (ps : List Pn) (d : Nat) (cs : Array Value) (t : Tr d) : Prop :=
 ∃ aA ac kA kc, cs = ndcs (lab d t) aA ac kA (kidsT d t).length kc ∧ HdsP (fun q => q ∉ G) w aA (lab d t).2.1 ∧ (kidsT d t).length ≤ kc ∧ ((kidsT d t).length = 0 ∨ ∃ g cap, kA = some ⟨g, 0, none⟩ ∧ (⟨d - 1, g, cap, kidsT d t⟩ : Pn) ∈ ps)
theorem DoneN.step {w w1 : World} {G G1 : List Nat} {ps ps1 : List Pn} {d : Nat} {cs : Array Value} {t : Tr d} (h : DoneN w G ps d cs t) (hs : w.heap.size ≤ w1.heap.size) (hk : ∀ q, q < w.heap.size → q ∉ G → w1.heap[q]? = w.heap[q]?) (hG : ∀ q, q ∈ G1 → q < w.heap.size → q ∈ G) (hp : ∀ p, p ∈ ps → p ∈ ps1) : DoneN w1 G1 ps1 d cs t := by
 obtain ⟨aA, ac, kA, kc, h1, h2, h3, h4⟩ := h
 refine ⟨aA, ac, kA, kc, h1, h2.frame hs (fun q hq hl => ⟨hk q hl hq, fun hm => hq (hG q hm hl)⟩), h3, ?_⟩
 rcases h4 with h4 | ⟨g, cap, h4, h5⟩
 ·exact .inl h4
 ·exact .inr ⟨g, cap, h4, hp _ h5⟩
theorem DoneN.node {w W : World} {G : List Nat} {ps : List Pn} {d : Nat} {cs : Array Value} {t : Tr d} (h : DoneN w G ps d cs t) (hs : w.heap.size ≤ W.heap.size) (hk : ∀ q, q < w.heap.size → q ∉ G → W.heap[q]? = w.heap[q]?) (hp : ∀ p ∈ ps, NdsAt (fun _ => True) p.1 W (some ⟨p.2.1, 0, none⟩) p.2.2.2) : NdAt (fun _ => True) d W cs t := by
 obtain ⟨aA, ac, kA, kc, rfl, h2, h3, h4⟩ := h
 have hh : HdsP (fun _ => True) W aA (lab d t).2.1 := h2.frame hs (fun q hq hl => ⟨hk q hl hq, trivial⟩)
 have hkk : NdsAt (fun _ => True) (d - 1) W kA (kidsT d t) := by
  rcases h4 with h4 | ⟨g, cap, rfl, h5⟩
  ·rw [List.length_eq_zero_iff.1 h4]; exact NdsAt.nil _ _ _ _
  ·exact hp _ h5
 cases d with
 | zero => exact ⟨aA, ac, kA, kc, rfl, hh⟩
 | succ d => exact ⟨aA, ac, kA, kc, rfl, hh, hkk, h3⟩
theorem row_nds {P : Nat → Prop} {w : World} {d b g cap : Nat} {l : List (Tr d)} {css : List (Array Value)} (hl : css.length = l.length) (ho : OwnK w 4 25 b g l.length cap (ndvs css)) (hz : ∀ c ∈ css, c.size = 4) (hP : P g) (hn : ∀ j, j < l.length → NdAt P d w (css.getD j #[]) (l.getD j (zeroT d))) : NdsAt P d w (some ⟨g, 0, none⟩) l := fun _ => ⟨g, 0, rfl, hP, ho.lt, fun j hj => by
 have hat := fun i (hi : i < 4) => ndvs_at css j i hz (by omega) hi
 have h6j := hn j hj
 obtain ⟨a, b, c, e, he⟩ : ∃ a b c e, css.getD j #[] = #[a, b, c, e] := by
  obtain ⟨aA, ac, kA, kc, e1, _⟩ := h6j.parts
  exact ⟨_, _, _, _, e1⟩
 rw [he] at h6j hat
 refine ⟨a, b, c, e, ?_, ?_, ?_, ?_, h6j⟩
 ·rw [Nat.zero_add]; exact ho.at _ _ (hat 0 (by decide))
 ·rw [Nat.zero_add]; exact ho.at _ _ (hat 1 (by decide))
 ·rw [Nat.zero_add]; exact ho.at _ _ (hat 2 (by decide))
 ·rw [Nat.zero_add]; exact ho.at _ _ (hat 3 (by decide))⟩
theorem RootN.pop {w : World} {G : List Nat} {ps : List Pn} {D g0 : Nat} {L : List (Tr D)} {b d g cap : Nat} {l : List (Tr d)} {css : List (Array Value)} (h : RootN w (g :: G) (⟨d, g, cap, l⟩ :: ps) D g0 L) (hg : g ∉ G) (hl : css.length = l.length) (ho : OwnK w 4 25 b g l.length cap (ndvs css)) (hz : ∀ c ∈ css, c.size = 4) (hd : ∀ j, j < l.length → DoneN w (g :: G) ps d (css.getD j #[]) (l.getD j (zeroT d))) : RootN w G ps D g0 L := by
 intro W h1 h2 h3
 have h2' : ∀ q, q < w.heap.size → q ∉ g :: G → W.heap[q]? = w.heap[q]? := fun q hq hn => h2 q hq (fun hm => hn (List.mem_cons_of_mem _ hm))
 refine h W h1 h2' (fun p hp => ?_)
 rcases List.mem_cons.1 hp with rfl | hp
 ·exact row_nds hl (ho.kept (h2 g ho.lt hg)) hz trivial fun j hj => (hd j hj).node h1 h2' h3
 ·exact h3 p hp
def szN : (d : Nat) → Tr d → Nat
 | 0, _ => 2
 | d + 1, t => 2 + (t.2.map (szN d)).foldr (· + ·) 0
def szR (d : Nat) (l : List (Tr d)) : Nat := 1 + (l.map (szN d)).foldr (· + ·) 0
def szQ (ps : List Pn) : Nat := (ps.map fun p => szR p.1 p.2.2.2).foldr (· + ·) 0
theorem szN_kids : ∀ (d : Nat) (t : Tr d), (kidsT d t).length ≠ 0 → szR (d - 1) (kidsT d t) + 1 ≤ szN d t
 | 0, t, h => absurd rfl h
 | d + 1, t, _ => by
  show 1 + (t.2.map (szN d)).foldr (· + ·) 0 + 1 ≤ 2 + (t.2.map (szN d)).foldr (· + ·) 0
  omega
theorem szN_pos : ∀ (d : Nat) (t : Tr d), 2 ≤ szN d t
 | 0, _ => Nat.le_refl _
 | d + 1, t => by
  show 2 ≤ 2 + _
  omega
theorem szQ_cons (p : Pn) (ps : List Pn) : szQ (p :: ps) = szR p.1 p.2.2.2 + szQ ps := rfl
def KidsO (n0 b : Nat) (w : World) (d : Nat) (kv : Value) (l : List (Tr d)) : Prop := (l.length = 0 ∧ kv = .slice none 0 0) ∨ ∃ g cap, kv = .slice (some ⟨g, 0, none⟩) l.length cap ∧ b ≤ g ∧ 0 < l.length ∧ RowO n0 w d g cap l
theorem RowO.keep {n0 d g cap : Nat} {w W : World} {l : List (Tr d)} (h : RowO n0 w d g cap l) (hs : w.heap.size ≤ W.heap.size) (hg : W.heap[g]? = w.heap[g]?) (hk : ∀ q, q < n0 → q < w.heap.size → W.heap[q]? = w.heap[q]?) : RowO n0 W d g cap l := by
 obtain ⟨css, h1, h2, h3, h4⟩ := h
 exact ⟨css, h1, h2.kept hg, h3, fun j hj => (h4 j hj).frame hs fun q hq hl => ⟨hk q hq hl, hq⟩⟩
theorem RowO.lt {n0 d g cap : Nat} {w : World} {l : List (Tr d)} (h : RowO n0 w d g cap l) : g < w.heap.size ∧ n0 ≤ g ∧ l.length ≤ cap := by
 obtain ⟨css, h1, h2, h3, h4⟩ := h
 exact ⟨h2.lt, h2.ge, h2.le⟩
theorem KidsO.below {n0 b d : Nat} {w W : World} {kv : Value} {l : List (Tr d)} (h : KidsO n0 b w d kv l) (hb : Below w.heap.size w W) : KidsO n0 b W d kv l := by
 rcases h with h | ⟨g, cap, h1, h2, h3, h4⟩
 ·exact .inl h
 ·exact .inr ⟨g, cap, h1, h2, h3, h4.keep hb.size (hb.block g h4.lt.1) (fun q _ hl => hb.block q hl)⟩
theorem run_rowO (ty : TypeId) {n0 b d : Nat} {w : World} {v x : Value} {l : List (Tr d)} {cs : Array Value} {t : Tr d} (h : KidsO n0 b w d v l) (hs : Src Tryz.prog 4 23 x 1 cs.toList w) (hz : cs.size = 4) (hnd : NdAt (fun q => q < n0) d w cs t) (hn : l.length ≤ 1000000) (h0 : n0 ≤ b) (hb : b ≤ w.heap.size) :
  ∃ v' w', (Builtin.append_ #[23, 23] ty #[v, x]).run Tryz.prog w = .ok v' w' ∧ KidsO n0 b w' d v' (l ++ [t]) ∧ Below b w w' := by
 have hlen : (l ++ [t]).length = l.length + 1 := by simp
 rcases h with ⟨hl, rfl⟩ | ⟨g, cap, rfl, hg, hpos, css, h3, h4, h5, h6⟩
 ·have hl' : l = [] := List.length_eq_zero_iff.1 hl
  subst hl'
  obtain ⟨cap, w', k1, k2, k3⟩ := run_nilK ndK (b := n0) ty x hs (by decide) (by decide) (Nat.le_trans h0 hb)
  refine ⟨_, w', k1, .inr ⟨_, cap, rfl, hb, Nat.zero_lt_one, [cs], rfl, ?_, ?_, ?_⟩, k3.mono hb⟩
  ·show OwnK w' 4 _ n0 _ 1 cap (ndvs [cs])
   rw [show ndvs [cs] = cs.toList from by simp [ndvs]]
   exact k2
  ·intro c hc; rw [List.mem_singleton.1 hc]; exact hz
  ·intro j hj
   obtain rfl : j = 0 := by simpa using hj
   exact hnd.frame k3.size fun q hq hl => ⟨k3.block q hl, hq⟩
 ·have h4' : OwnK w 4 25 b g l.length cap (ndvs css) := ⟨hg, h4.len, h4.row⟩
  obtain ⟨g', cap', w', k1, k2, k3, k4⟩ := h4'.run_app ndK ty x hs (by omega) hb
  have hfr : ∀ q, q < n0 → q < w.heap.size → w'.heap[q]? = w.heap[q]? := fun q hq hl => k3.block q hl (fun e => by injection e with e; omega)
  refine ⟨_, w', k1, .inr ⟨g', cap', by rw [hlen], k2.ge, by rw [hlen]; omega, css ++ [cs], by rw [List.length_append, h3, hlen]; rfl, ?_, ?_, ?_⟩, h4'.grown (Below.refl _ _) hb k3⟩
  ·rw [hlen, ndvs_app, show ndvs [cs] = cs.toList from by simp [ndvs]]
   exact ⟨Nat.le_trans h0 k2.ge, k2.len, k2.row⟩
  ·intro c hc
   rcases List.mem_append.1 hc with hc | hc
   ·exact h5 c hc
   ·rw [List.mem_singleton.1 hc]; exact hz
  ·intro j hj
   rw [getD_snoc l t _ j hj, getD_snoc css cs _ j (by rw [List.length_append, h3]; simpa using hj), h3]
   by_cases hjl : j < l.length
   ·rw [if_pos hjl, if_pos hjl]
    exact (h6 j hjl).frame k3.size fun q hq hl => ⟨hfr q hq hl, hq⟩
   ·rw [if_neg hjl, if_neg hjl]
    exact hnd.frame k3.size fun q hq hl => ⟨hfr q hq hl, hq⟩
theorem wpList_rowO {ops : Array Oper} {rest : List Oper} {o : Oper} {a : Act} {w : World} {Q : Exit → Act → World → Prop} (hgd : o.guard = none) (s x : Operand)
  (ho : o.op = .call { callee := .builtin .append, args := #[s, x], argTypes := #[23, 23] })
  (n0 b d : Nat) (v xv : Value) (l : List (Tr d)) (cs : Array Value) (t : Tr d) (hs : a.eval s = v) (hx : a.eval x = xv) (hown : KidsO n0 b w d v l)
  (hA : Src Tryz.prog 4 23 xv 1 cs.toList w) (hz : cs.size = 4) (hnd : NdAt (fun q => q < n0) d w cs t) (hn : l.length ≤ 1000000) (h0 : n0 ≤ b) (hb : b ≤ w.heap.size)
  (h : ∀ v' w', KidsO n0 b w' d v' (l ++ [t]) → Below b w w' → wpList Tryz.prog ops Q rest (a.put o.dst v') w') : wpList Tryz.prog ops Q (o :: rest) a w := by
 refine wpList_plain hgd fun _ hK => ?_
 obtain ⟨v', w', hr, h2, h3⟩ := run_rowO o.type hown hA hz hnd hn h0 hb
 unfold Oper.wp execOp
 simp only [ho, resolve, invoke, builtin, Sem.run_bind, Sem.run_pure, Result.andThen_ok, List.map_toArray, List.map_cons, List.map_nil, hs, hx, hr]
 exact hK _ _ (h v' w' h2 h3)
theorem run_nil0 (ty : TypeId) (A : Option Addr) (c : Nat) (w : World) : (Builtin.append_ #[23, 23] ty #[.slice none 0 0, .slice A 0 c]).run Tryz.prog w = .ok (.slice none 0 0) w := by
 obtain ⟨i0, z, hi, hz0, hz1, hz2, hzc⟩ := ndK.info
 cases A <;> simp [Builtin.append_, run_underlying ndK.sl, sizeOf, typeInfo, hi, Builtin.firstCells, Builtin.lenOf, loadCells, loadCellsFrom]
attribute [local go_sem ↓] loadN_eq storeN_eq
theorem step_nilN {ops : Array Oper} {o : Oper} {a : Act} {w : World} {K : Act → World → Prop} {Q : Exit → Act → World → Prop} {E : Prop} (hgd : o.guard = none) (s x : Operand)
  (ho : o.op = .call { callee := .builtin .append, args := #[s, x], argTypes := #[23, 23] })
  (xv : Value) (n : Nat) (ys : List Value) (hs : a.eval s = .slice none 0 0) (hx : a.eval x = xv)
  (hA : Src Tryz.prog 4 23 xv n ys w) (h0 : 0 < n) (hn : n ≤ 1000000) (b : Nat) (hb : b ≤ w.heap.size)
  (h : ∀ cap w', OwnK w' 4 25 b w.heap.size n cap ys → Below w.heap.size w w' → K (a.put o.dst (.slice (some ⟨w.heap.size, 0, none⟩) n cap)) w') :
  if Region.wanted o (yielded ops a.tmps) = true then Oper.wp Tryz.prog o a w K Q else E := by
 have hw : Region.wanted o (yielded ops a.tmps) = true := by simp [Region.wanted, hgd]
 rw [if_pos hw]
 obtain ⟨cap, w', hr, h2, h3⟩ := run_nilK ndK (b := b) o.type xv hA h0 (by omega) hb
 unfold Oper.wp
 simp [execOp, ho, resolve, invoke, builtin, hs, hx, hr, Result.andThen]
 exact h cap w' h2 h3
theorem step_nil0 {ops : Array Oper} {o : Oper} {a : Act} {w : World} {K : Act → World → Prop} {Q : Exit → Act → World → Prop} {E : Prop} (hgd : o.guard = none) (s x : Operand)
  (ho : o.op = .call { callee := .builtin .append, args := #[s, x], argTypes := #[23, 23] })
  (A : Option Addr) (c : Nat) (hs : a.eval s = .slice none 0 0) (hx : a.eval x = .slice A 0 c)
  (h : K (a.put o.dst (.slice none 0 0)) w) :
  if Region.wanted o (yielded ops a.tmps) = true then Oper.wp Tryz.prog o a w K Q else E := by
 have hw : Region.wanted o (yielded ops a.tmps) = true := by simp [Region.wanted, hgd]
 rw [if_pos hw]
 unfold Oper.wp
 simp [execOp, ho, resolve, invoke, builtin, hs, hx, run_nil0, Result.andThen]
 exact h
theorem step_kids {ops : Array Oper} {o : Oper} {a : Act} {w : World} {K : Act → World → Prop} {Q : Exit → Act → World → Prop} {E : Prop} (hgd : o.guard = none) (s x : Operand)
  (ho : o.op = .call { callee := .builtin .append, args := #[s, x], argTypes := #[23, 23] })
  (n0 d : Nat) (A : Option Addr) (c : Nat) (l : List (Tr d)) (n : Nat) (hl : l.length = n) (hs : a.eval s = .slice none 0 0) (hx : a.eval x = .slice A n c)
  (hk : NdsAt (fun q => q < n0) d w A l) (h0 : 0 < n) (hn : n ≤ 1000000) (hb : n0 ≤ w.heap.size) (w0 : World) (hw0 : Below w0.heap.size w0 w)
  (h : ∀ cap g w', w0.heap.size ≤ g → RowO n0 w' d g cap l → Below w0.heap.size w0 w' → K (a.put o.dst (.slice (some ⟨g, 0, none⟩) n cap)) w') :
  if Region.wanted o (yielded ops a.tmps) = true then Oper.wp Tryz.prog o a w K Q else E := by
 subst hl
 obtain ⟨css, q1, q2, q3, q4⟩ := kids_src hk h0 c
 refine step_nilN hgd s x ho _ l.length (ndvs css) hs hx q4 h0 hn n0 hb fun cap w' j1 j2 => ?_
 exact h cap _ w' hw0.size ⟨css, q1, j1, q2, fun j hj => (q3 j hj).frame j2.size fun q hq hl => ⟨j2.block q hl, hq⟩⟩ (hw0.trans (j2.mono hw0.size))
theorem RowO.below {n0 d g cap : Nat} {w W : World} {l : List (Tr d)} (h : RowO n0 w d g cap l) (hb : Below w.heap.size w W) : RowO n0 W d g cap l := h.keep hb.size (hb.block g h.lt.1) (fun q _ hl => hb.block q hl)
theorem OwnH.base {w : World} {b b' : Nat} {v : Value} {l : List HdV} (h : OwnH w b v l) (hb : b' ≤ b) : OwnH w b' v l := by
 rcases h with h | ⟨q, cap, h1, h2⟩
 ·exact .inl h
 ·exact .inr ⟨q, cap, h1, Nat.le_trans hb h2.ge, h2.len, h2.row⟩
theorem OwnH.only {w W : World} {b g : Nat} {v : Value} {l : List HdV} (h : OwnH w b v l) (ho : Only g w W) (hg : g < b) : OwnH W b v l := by
 rcases h with h | ⟨q, cap, h1, h2⟩
 ·exact .inl h
 ·exact .inr ⟨q, cap, h1, h2.kept (ho.block q (by have := h2.ge; omega))⟩
theorem OwnH.slice {w : World} {b : Nat} {v : Value} {l : List HdV} (h : OwnH w b v l) : ∃ A c, v = .slice A l.length c := by
 rcases h with ⟨rfl, rfl⟩ | ⟨g, cap, rfl, _⟩
 ·exact ⟨none, 0, rfl⟩
 ·exact ⟨_, cap, rfl⟩
set_option maxRecDepth 100000 in
theorem renewed_any (n0 d : Nat) (t : Tr d) (hw : wtT d t ≤ 12000) (cs : Array Value) (w : World) (hn0 : n0 ≤ w.heap.size) (hnd : NdAt (fun q => q < n0) d w cs t) : Calls Tryz.prog 91 #[.agg cs] w fun e w' => Below w.heap.size w w' ∧ ∃ v kv, e = .returned (.agg #[.string (asS (nmT d t)), v, .string (asS (txT d t)), kv]) ∧ OwnH w' w.heap.size v (lab d t).2.1 ∧ KidsO n0 w.heap.size w' (d - 1) kv (kidsT d t) := by
 obtain ⟨aA, ac, kA, kc, rfl, hats, hks, _⟩ := hnd.parts
 unfold ndcs
 obtain ⟨w1, w2, w3, w4, w5, _⟩ := wt_parts hw
 have HA := hid hats.1
 have HKS := hid hks
 have HCN : Hid (∀ j, j < (lab d t).2.1.length → ∀ W, Calls Tryz.prog 78 #[.string (asS ((lab d t).2.1.getD j zeroH).name)] W fun e w' => e = .returned (.string (asS ((lab d t).2.1.getD j zeroH).name)) ∧ Below W.heap.size W w') := fun j hj W => clone8 _ (by rw [asS_size]; have := (w4 _ (getD_mem9 (z := zeroH) hj)).1; omega) W
 have HCV : Hid (∀ j, j < (lab d t).2.1.length → ∀ W, Calls Tryz.prog 78 #[.string (asS ((lab d t).2.1.getD j zeroH).value)] W fun e w' => e = .returned (.string (asS ((lab d t).2.1.getD j zeroH).value)) ∧ Below W.heap.size W w') := fun j hj W => clone8 _ (by rw [asS_size]; have := (w4 _ (getD_mem9 (z := zeroH) hj)).2; omega) W
 have HCM := hid (clone8 (asS (lab d t).1) (by rw [asS_size]; omega))
 have HCT := hid (clone8 (asS (lab d t).2.2) (by rw [asS_size]; omega))
 have HEN := hid (enters_of Tryz.func78 (by kernel_rfl) rfl)
 have e1 : asS (nmT d t) = asS (lab d t).1 := rfl
 have e2 : asS (txT d t) = asS (lab d t).2.2 := rfl
 rw [e1, e2]
 clear hats hks hnd w1 w2 w4 hw e1 e2
 generalize asS (lab d t).1 = NM at HCM ⊢
 generalize asS (lab d t).2.2 = TX at HCT ⊢
 generalize (lab d t).2.1 = al at HA HCN HCV w3 ⊢
 generalize kidsT d t = ks at HKS w5 ⊢
 have HAD := hid (take_getD al zeroH)
 generalize hn : ks.length = n at w5 ⊢
 generalize hm : al.length = m at HCN HCV HAD w3 ⊢
 have HN := hid hn
 have HM := hid hm
 clear hn hm
 have HROW := hid (heap_alloc_new w (.cells #[.string NM, .slice aA m ac, .string TX, .slice kA n kc] 25))
 have HB0 := hid ((Below.refl w.heap.size w).alloc (Nat.le_refl _) (.cells #[.string NM, .slice aA m ac, .string TX, .slice kA n kc] 25))
 have HSZ : Hid ((w.alloc (.cells #[.string NM, .slice aA m ac, .string TX, .slice kA n kc] 25)).heap.size = w.heap.size + 1) := Array.size_push _
 obtain ⟨W0, hW0⟩ : ∃ W0, w.alloc (.cells #[.string NM, .slice aA m ac, .string TX, .slice kA n kc] 25) = W0 := ⟨_, rfl⟩
 rw [hW0] at HB0 HROW HSZ
 have HR0 := hid (heap_alloc_new W0 (.cells #[.string ⟨#[]⟩, .slice none 0 0, .string ⟨#[]⟩, .slice none 0 0] 25 (0, 0)))
 have HB1 := hid ((Below.refl W0.heap.size W0).alloc (Nat.le_refl _) (.cells #[.string ⟨#[]⟩, .slice none 0 0, .string ⟨#[]⟩, .slice none 0 0] 25 (0, 0)))
 obtain ⟨W1, hW1⟩ : ∃ W1, W0.alloc (.cells #[.string ⟨#[]⟩, .slice none 0 0, .string ⟨#[]⟩, .slice none 0 0] 25 (0, 0)) = W1 := ⟨_, rfl⟩
 rw [hW1] at HR0 HB1
 have HRW := hid (row_keep HB1.out HROW.out)
 have c1 : W1.cell? ⟨w.heap.size, 1, none⟩ = some (.slice aA m ac) := cell_of_row _ _ _ _ _ _ HRW.out
 go_enter Tryz.func91, Tryz.ntmps91
 go_wp2_with fail
 clear c1
 go_loopw [3, 9] (fun v i wr => ∃ (k : Nat), k ≤ m ∧ i = .int .i64 (k : Int) ∧ Hid (OwnH wr W1.heap.size v (al.take k)) ∧ Hid (Below W1.heap.size W1 wr)) (fun v i wr => m - (intOf i).toNat)
 case atStart => exact ⟨0, Nat.zero_le _, rfl, .inl ⟨rfl, rfl⟩, Below.refl _ _⟩
 case round =>
  obtain ⟨k, hk2, rfl, HOW, HB⟩ := hrel
  have hbw : Hid (Below w.heap.size w wr) := (HB0.out.trans (HB1.out.mono HB0.out.size)).trans (HB.out.mono (HB0.out.trans (HB1.out.mono HB0.out.size)).size)
  by_cases hlt : k < m
  ·have hi : (k : Int) < (m : Int) := by omega
   have hal : k < al.length := by have := HM.out; omega
   obtain ⟨q, o, hq, hqs, hcs⟩ := HA.out (by omega)
   subst hq
   have hc := hcs k hal
   have k1 := (hbw.out.cell (p := ⟨q, o + k * 2, none⟩) hqs).trans hc.1
   have k2 := (hbw.out.cell (p := ⟨q, o + k * 2 + 1, none⟩) hqs).trans hc.2
   have HC1 := hid (HCN.out k hlt)
   have HC2 := hid (HCV.out k hlt)
   have HST := hid (HAD.out k hlt)
   clear hcs hc hqs hal
   obtain ⟨hdv, hhd⟩ : ∃ x, al.getD k zeroH = x := ⟨_, rfl⟩
   rw [hhd] at k1 k2 HC1 HC2 HST
   clear hhd
   obtain ⟨A1, hA1⟩ : ∃ x, asS hdv.name = x := ⟨_, rfl⟩
   obtain ⟨A2, hA2⟩ : ∃ x, asS hdv.value = x := ⟨_, rfl⟩
   rw [hA1] at k1 HC1
   rw [hA2] at k2 HC2
   have HA1 := hid hA1
   have HA2 := hid hA2
   clear hA1 hA2
   obtain ⟨V, hV⟩ : ∃ V, wr.alloc (.cells #[.string A1, .string A2] 56) = V := ⟨_, rfl⟩
   have HVR := hid (heap_alloc_new wr (.cells #[.string A1, .string A2] 56))
   have hbV : Below wr.heap.size wr (wr.alloc (.cells #[.string A1, .string A2] 56)) := (Below.refl _ _).alloc (Nat.le_refl _) _
   rw [hV] at HVR hbV
   have HBV := hid hbV
   have HOV := hid (HOW.out.below hbV)
   clear hbV
   have HCA : Hid (∀ W, Below V.heap.size V W → Calls Tryz.prog 78 #[.string A1] W fun x w' => ∃ v, x = .returned v ∧ (v = .string A1 ∧ Below V.heap.size V w')) := fun W hW => (HC1.out W).mono fun x w' hh => ⟨_, hh.1, rfl, hW.trans (hh.2.mono hW.size)⟩
   have HCB : Hid (∀ W, Below V.heap.size V W → Calls Tryz.prog 78 #[.string A2] W fun x w' => ∃ v, x = .returned v ∧ (v = .string A2 ∧ Below V.heap.size V w')) := fun W hW => (HC2.out W).mono fun x w' hh => ⟨_, hh.1, rfl, hW.trans (hh.2.mono hW.size)⟩
   have f0 : V.cell? ⟨wr.heap.size, 0, none⟩ = some (.string A1) := cell_of_row _ _ _ _ _ _ HVR.out
   have f1 : V.cell? ⟨wr.heap.size, 1, none⟩ = some (.string A2) := cell_of_row _ _ _ _ _ _ HVR.out
   go_wp2_with fail
   have HLK : Hid ((al.take k).length + [hdv].length ≤ 1000000) := by show _ ≤ _; rw [List.length_take]; simp; omega
   have HCL : Hid (∀ W, Below V.heap.size V W → W.cell? ⟨wr.heap.size, 0, none⟩ = some (.string A1) ∧ W.cell? ⟨wr.heap.size, 1, none⟩ = some (.string A2)) := fun W hW => ⟨cell_of_row _ _ _ _ _ _ (row_keep hW HVR.out), cell_of_row _ _ _ _ _ _ (row_keep hW HVR.out)⟩
   have HBx : Hid (Below V.heap.size V V) := Below.refl _ _
   have HWV : Hid (W1.heap.size ≤ V.heap.size) := Nat.le_trans HB.out.size HBV.out.size
   go_region_law ((first
    | (refine step_call1 (by rfl) 78 _ _ (by rfl) HEN.out (.string A1) (by rfl) (HCA.out _ (by first | exact HBx.out | exact HBx.out.drew | exact below_drewN _ _ _ | exact (below_drewN _ _ _).drew | exact HBx.out.trans ((below_drewN _ _ _).mono HBx.out.size))) ?_; intro v1 w1 ha; have hv1 := ha.1; subst hv1; have HBx := hid ha.2; clear ha; obtain ⟨g0, g1⟩ := HCL.out w1 HBx.out)
    | (refine step_call1 (by rfl) 78 _ _ (by rfl) HEN.out (.string A2) (by rfl) (HCB.out _ (by first | exact HBx.out | exact HBx.out.drew | exact below_drewN _ _ _ | exact (below_drewN _ _ _).drew | exact HBx.out.trans ((below_drewN _ _ _).mono HBx.out.size))) ?_; intro v1 w1 ha; have hv1 := ha.1; subst hv1; have HBx := hid ha.2; clear ha; obtain ⟨g0, g1⟩ := HCL.out w1 HBx.out)
    | (refine step_hd (by rfl) _ _ (by rfl) W1.heap.size _ _ (al.take k) [hdv] (by rfl) (by rfl) (HOV.out.below (HBx.out.trans (((Below.refl _ _).alloc (Nat.le_refl _) _).mono HBx.out.size))) (src_hd _ hdv A1 A2 HA1.out.symm HA2.out.symm 1) (by simp) HLK.out (Nat.le_trans (Nat.le_trans HWV.out HBx.out.size) ((Below.refl 0 _).alloc (Nat.zero_le _) _).size) ?_; intro v' w' j1 j2; have J1 := hid j1; have HBN : Hid (Below W1.heap.size W1 w') := HB.out.trans ((HBV.out.mono HB.out.size).trans ((HBx.out.mono HWV.out).trans ((((Below.refl _ _).alloc (Nat.le_refl _) _).mono (Nat.le_trans HWV.out HBx.out.size)).trans j2))); clear j1 j2)
    | fail))
   all_goals
    go_simp
    go_wp2_with fail
    go_roundw
    case rel => exact ⟨k + 1, by omega, by go_num, by show OwnH _ _ _ _; rw [HST.out]; exact J1.out, HBN.out⟩
    case measure => simp [intOf]; omega
  ·have hkm : k = m := by omega
   have HAL : Hid (al.take k = al) := List.take_of_length_le (by have := HM.out; omega)
   have hV := HOW.out
   rw [HAL.out] at hV
   obtain ⟨vA, vc, hvs⟩ := hV.slice
   rw [HM.out] at hvs
   subst hvs
   have HV := hid hV
   have hrw := row_keep HB.out HRW.out
   have hr0 := row_keep HB.out HR0.out
   have HLV : Hid (al.length = m) := HM
   have HCL : Hid (∀ W, Below wr.heap.size wr W → W.cell? ⟨w.heap.size, 0, none⟩ = some (.string NM) ∧ W.cell? ⟨w.heap.size, 2, none⟩ = some (.string TX) ∧ W.cell? ⟨w.heap.size, 3, none⟩ = some (.slice kA n kc)) := fun W hW => ⟨cell_of_row _ _ _ _ _ _ (row_keep hW hrw), cell_of_row _ _ _ _ _ _ (row_keep hW hrw), cell_of_row _ _ _ _ _ _ (row_keep hW hrw)⟩
   have HSTO : Hid (∀ W, Below wr.heap.size wr W → ∀ A k' c, (storeI 25 (.pointer (some ⟨W0.heap.size, 0, none⟩)) (.agg #[.string NM, .slice vA m vc, .string TX, .slice A k' c])).run Tryz.prog W = .ok () (putM W W0.heap.size #[.string NM, .slice vA m vc, .string TX, .slice A k' c])) := fun W hW A k' c => storeM_row infoN _ _ _ _ rfl rfl rfl rfl (row_keep hW hr0) rfl
   have HCA : Hid (∀ W, Below wr.heap.size wr W → Calls Tryz.prog 78 #[.string NM] W fun x w' => ∃ v, x = .returned v ∧ (v = .string NM ∧ Below wr.heap.size wr w' ∧ Below W.heap.size W w')) := fun W hW => (HCM.out W).mono fun x w' hh => ⟨_, hh.1, rfl, hW.trans (hh.2.mono hW.size), hh.2⟩
   have HCB : Hid (∀ W, Below wr.heap.size wr W → Calls Tryz.prog 78 #[.string TX] W fun x w' => ∃ v, x = .returned v ∧ (v = .string TX ∧ Below wr.heap.size wr w' ∧ Below W.heap.size W w')) := fun W hW => (HCT.out W).mono fun x w' hh => ⟨_, hh.1, rfl, hW.trans (hh.2.mono hW.size), hh.2⟩
   have HBx : Hid (Below wr.heap.size wr wr) := Below.refl _ _
   have hi : ¬ (k : Int) < (m : Int) := by omega
   have HRX := hid hr0
   have HWR : Hid (w.heap.size < W0.heap.size ∧ W0.heap.size < W1.heap.size ∧ W1.heap.size ≤ wr.heap.size) := ⟨by have := HSZ.out; omega, by rw [← hW1]; simp, HB.out.size⟩
   have HFIN : Hid (∀ W, Below wr.heap.size wr W → ∀ cs', Below w.heap.size w (putM W W0.heap.size cs') ∧ OwnH (putM W W0.heap.size cs') w.heap.size (.slice vA m vc) al) := fun W hW cs' => ⟨(hbw.out.trans (hW.mono hbw.out.size)).trans ((putM_only W W0.heap.size cs').below (by have := HWR.out; omega)), ((HV.out.below hW).only (putM_only W W0.heap.size cs') HWR.out.2.1).base (by have := HWR.out; omega)⟩
   have HKW : Hid (∀ W, Below wr.heap.size wr W → NdsAt (fun q => q < n0) (d - 1) W kA ks) := fun W hW => HKS.out.below (hbw.out.trans (hW.mono hbw.out.size)) (Nat.le_refl _)
   have HSW : Hid (∀ W, Below wr.heap.size wr W → n0 ≤ W.heap.size) := fun W hW => by have := hW.size; have := HWR.out; show _ ≤ _; omega
   have HROF : Hid (∀ W G cap, RowO n0 W (d - 1) G cap ks → wr.heap.size ≤ G → 0 < n → ∀ cs', KidsO n0 w.heap.size (putM W W0.heap.size cs') (d - 1) (.slice (some ⟨G, 0, none⟩) n cap) ks) := fun W G cap h hG hn1 cs' => by
    have hh := HWR.out
    have ho := putM_only W W0.heap.size cs'
    have hp : 0 < ks.length := by have := HN.out; omega
    exact .inr ⟨G, cap, by rw [HN.out], by omega, hp, h.keep (by rw [ho.size]; exact Nat.le_refl _) (ho.block G (by omega)) (fun q hq _ => ho.block q (by omega))⟩
   clear hrw hr0 hV HOW HCN HCV HAD hn0
   by_cases hz : n = 0
   ·have hkl : ks.length = 0 := HN.out.trans hz
    subst hz
    have HKL := hid hkl
    clear hkl
    go_wp2_with fail
    obtain ⟨g0, g2, g3⟩ := HCL.out wr HBx.out
    go_region_law ((first
     | (refine step_call1 (by rfl) 78 _ _ (by rfl) HEN.out (.string NM) (by rfl) (HCA.out _ (by first | exact HBx.out | exact HBx.out.drew | exact below_drewN _ _ _ | exact (below_drewN _ _ _).drew | exact HBx.out.trans ((below_drewN _ _ _).mono HBx.out.size))) ?_; intro v1 w1 ha; have hv1 := ha.1; subst hv1; have HBx := hid ha.2.1; first | (have HRO := hid (HRO.out.below ha.2.2)) | skip; clear ha; obtain ⟨g0, g2, g3⟩ := HCL.out w1 HBx.out; have hst := HSTO.out w1 HBx.out)
     | (refine step_call1 (by rfl) 78 _ _ (by rfl) HEN.out (.string TX) (by rfl) (HCB.out _ (by first | exact HBx.out | exact HBx.out.drew | exact below_drewN _ _ _ | exact (below_drewN _ _ _).drew | exact HBx.out.trans ((below_drewN _ _ _).mono HBx.out.size))) ?_; intro v1 w1 ha; have hv1 := ha.1; subst hv1; have HBx := hid ha.2.1; first | (have HRO := hid (HRO.out.below ha.2.2)) | skip; clear ha; obtain ⟨g0, g2, g3⟩ := HCL.out w1 HBx.out; have hst := HSTO.out w1 HBx.out)
     | (refine step_nil0 (by rfl) _ _ (by rfl) kA kc (by rfl) (by rfl) ?_)
     | fail))
    all_goals
     go_simp
     go_wp2_with fail
     have hfin := HFIN.out w1 HBx.out
     exact bodyPost_ret (ret_nd1 Tryz.results91 _ _ W0.heap.size _ rfl (0, 0) rfl (putM_row (row_keep HBx.out HRX.out) rfl)) rfl ⟨(hfin _).1, _, _, rfl, (hfin _).2, .inl ⟨HKL.out, rfl⟩⟩
   ·have hnp : 0 < n := by omega
    have hn6 : n ≤ 1000000 := by omega
    clear hz
    go_wp2_with fail
    obtain ⟨g0, g2, g3⟩ := HCL.out wr HBx.out
    go_region_law ((first
     | (refine step_call1 (by rfl) 78 _ _ (by rfl) HEN.out (.string NM) (by rfl) (HCA.out _ (by first | exact HBx.out | exact HBx.out.drew | exact below_drewN _ _ _ | exact (below_drewN _ _ _).drew | exact HBx.out.trans ((below_drewN _ _ _).mono HBx.out.size))) ?_; intro v1 w1 ha; have hv1 := ha.1; subst hv1; have HBx := hid ha.2.1; first | (have HRO := hid (HRO.out.below ha.2.2)) | skip; clear ha; obtain ⟨g0, g2, g3⟩ := HCL.out w1 HBx.out; have hst := HSTO.out w1 HBx.out)
     | (refine step_call1 (by rfl) 78 _ _ (by rfl) HEN.out (.string TX) (by rfl) (HCB.out _ (by first | exact HBx.out | exact HBx.out.drew | exact below_drewN _ _ _ | exact (below_drewN _ _ _).drew | exact HBx.out.trans ((below_drewN _ _ _).mono HBx.out.size))) ?_; intro v1 w1 ha; have hv1 := ha.1; subst hv1; have HBx := hid ha.2.1; first | (have HRO := hid (HRO.out.below ha.2.2)) | skip; clear ha; obtain ⟨g0, g2, g3⟩ := HCL.out w1 HBx.out; have hst := HSTO.out w1 HBx.out)
     | (refine step_kids (by rfl) _ _ (by rfl) n0 (d - 1) kA kc ks n HN.out (by rfl) (by rfl) (HKW.out _ (by first | exact HBx.out | exact HBx.out.drew | exact below_drewN _ _ _ | exact (below_drewN _ _ _).drew | exact HBx.out.trans ((below_drewN _ _ _).mono HBx.out.size))) hnp hn6 (HSW.out _ (by first | exact HBx.out | exact HBx.out.drew | exact below_drewN _ _ _ | exact (below_drewN _ _ _).drew | exact HBx.out.trans ((below_drewN _ _ _).mono HBx.out.size))) wr (by first | exact HBx.out | exact HBx.out.drew | exact below_drewN _ _ _ | exact (below_drewN _ _ _).drew | exact HBx.out.trans ((below_drewN _ _ _).mono HBx.out.size)) ?_; intro cap gK w1 hge j1 j2; have HRO := hid j1; have HGE := hid hge; have HBx := hid j2; clear j1 j2 hge; obtain ⟨g0, g2, g3⟩ := HCL.out w1 HBx.out; have hst := HSTO.out w1 HBx.out)
     | fail))
    all_goals
     go_simp
     go_wp2_with fail
     have hfin := HFIN.out w1 HBx.out
     exact bodyPost_ret (ret_nd1 Tryz.results91 _ _ W0.heap.size _ rfl (0, 0) rfl (putM_row (row_keep HBx.out HRX.out) rfl)) rfl ⟨(hfin _).1, _, _, rfl, (hfin _).2, HROF.out _ _ _ HRO.out HGE.out hnp _⟩
end Go.Proofs.YtgoiafndapemjaaGreatDoor
