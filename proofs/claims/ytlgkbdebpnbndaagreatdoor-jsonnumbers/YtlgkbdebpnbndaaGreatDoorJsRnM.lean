
/- Rows of values that are made anew, row by row: what holds between the rows. No walk in it. -/
import Derived.Test.YtlgkbdebpnbndaaGreatDoorJsParse
namespace Go.Proofs.YtlgkbdebpnbndaaGreatDoor
set_option linter.unusedVariables false
set_option linter.unusedSimpArgs false
open Go.RowKit Go.BigFrame

/-- A row of nodes of one's own, each of which leads to the elder memory alone. -/
def RowO (n0 : Nat) (w : World) (d g cap : Nat) (l : List (VJ d)) : Prop :=
  ∃ css : List (Array Value), css.length = l.length ∧ OwnK w 5 25 n0 g l.length cap (vjvs css) ∧ (∀ c ∈ css, c.size = 5) ∧ ∀ j, j < l.length → VAt (fun q => q < n0) d w (css.getD j #[]) (l.getD j (zeroJ d))
/-- A row that waits: how deep its nodes may be, its block, its capacity, its nodes. -/
abbrev Pn : Type := (d : Nat) × Nat × Nat × List (VJ d)
def Pn.g (p : Pn) : Nat := p.2.1
def Pn.Row (n0 : Nat) (w : World) (p : Pn) : Prop := RowO n0 w p.1 p.2.1 p.2.2.1 p.2.2.2
def Pn.val (p : Pn) : Value := .slice (some ⟨p.2.1, 0, none⟩) p.2.2.2.length p.2.2.1
/-- Whatever the rows that wait will be, so long as they are these nodes, the first row is L. -/
def RootN (n0 : Nat) (w : World) (G : List Nat) (ps : List Pn) (D g0 : Nat) (L : List (VJ D)) : Prop :=
  ∀ W : World, w.heap.size ≤ W.heap.size → (∀ q, q < w.heap.size → q ∉ G → W.heap[q]? = w.heap[q]?) → (∀ p ∈ ps, VsAt (fun q => n0 ≤ q) p.1 W (some ⟨p.2.1, 0, none⟩) p.2.2.2) → VsAt (fun q => n0 ≤ q) D W (some ⟨g0, 0, none⟩) L
theorem RootN.first (n0 : Nat) (w : World) (D g0 cap : Nat) (L : List (VJ D)) : RootN n0 w [g0] [⟨D, g0, cap, L⟩] D g0 L := fun W _ _ h => h ⟨D, g0, cap, L⟩ (by simp)
theorem RootN.last {n0 : Nat} {w : World} {D g0 : Nat} {L : List (VJ D)} (h : RootN n0 w [] [] D g0 L) : VsAt (fun q => n0 ≤ q) D w (some ⟨g0, 0, none⟩) L := h w (Nat.le_refl _) (fun _ _ _ => rfl) (fun p hp => by cases hp)
theorem RootN.step {n0 : Nat} {w w1 : World} {G : List Nat} {ps : List Pn} {D g0 : Nat} {L : List (VJ D)} (h : RootN n0 w G ps D g0 L) (hs : w.heap.size ≤ w1.heap.size) (hk : ∀ q, q < w.heap.size → q ∉ G → w1.heap[q]? = w.heap[q]?) : RootN n0 w1 G ps D g0 L :=
  fun W h1 h2 h3 => h W (Nat.le_trans hs h1) (fun q hq hg => (h2 q (Nat.lt_of_lt_of_le hq hs) hg).trans (hk q hq hg)) h3
theorem RootN.push {n0 : Nat} {w : World} {G : List Nat} {ps : List Pn} {D g0 : Nat} {L : List (VJ D)} (h : RootN n0 w G ps D g0 L) (p : Pn) (g : Nat) (w1 : World) (hs : w.heap.size ≤ w1.heap.size) (hk : ∀ q, q < w.heap.size → q ∉ G → w1.heap[q]? = w.heap[q]?) (hg : w.heap.size ≤ g) : RootN n0 w1 (g :: G) (p :: ps) D g0 L :=
  fun W h1 h2 h3 => h W (Nat.le_trans hs h1) (fun q hq hn => (h2 q (Nat.lt_of_lt_of_le hq hs) (by
    intro hm
    rcases List.mem_cons.1 hm with e | hm
    · omega
    · exact hn hm)).trans (hk q hq hn)) (fun p' hp' => h3 p' (List.mem_cons_of_mem _ hp'))
theorem RootN.perm {n0 : Nat} {w : World} {G G' : List Nat} {ps ps' : List Pn} {D g0 : Nat} {L : List (VJ D)} (h : RootN n0 w G ps D g0 L) (hG : ∀ q, q ∈ G → q ∈ G') (hG' : ∀ q, q ∈ G' → q ∈ G) (hp : ∀ p, p ∈ ps → p ∈ ps') : RootN n0 w G' ps' D g0 L :=
  fun W h1 h2 h3 => h W h1 (fun q hq hn => h2 q hq (fun hm => hn (hG' q hm))) (fun p hm => h3 p (hp p hm))
/-- A value that has been made anew: its names in a block that nobody writes any more, those within a row that waits. -/
def DoneN (n0 : Nat) (w : World) (G : List Nat) (ps : List Pn) (d : Nat) (cs : Array Value) (t : VJ d) : Prop :=
  ∃ kA kc nA nc, cs = vcs (labJ d t) kA (kidsJ d t).length kc nA nc ∧ NmsP (fun q => q ∉ G ∧ n0 ≤ q) w nA (labJ d t).2.2.2 ∧ (kidsJ d t).length ≤ kc ∧ ((kidsJ d t).length = 0 ∨ ∃ g cap, kA = some ⟨g, 0, none⟩ ∧ (⟨d - 1, g, cap, kidsJ d t⟩ : Pn) ∈ ps)
theorem DoneN.step {n0 : Nat} {w w1 : World} {G G1 : List Nat} {ps ps1 : List Pn} {d : Nat} {cs : Array Value} {t : VJ d} (h : DoneN n0 w G ps d cs t) (hs : w.heap.size ≤ w1.heap.size) (hk : ∀ q, q < w.heap.size → q ∉ G → w1.heap[q]? = w.heap[q]?) (hG : ∀ q, q ∈ G1 → q < w.heap.size → q ∈ G) (hp : ∀ p, p ∈ ps → p ∈ ps1) : DoneN n0 w1 G1 ps1 d cs t := by
  obtain ⟨kA, kc, nA, nc, h1, h2, h3, h4⟩ := h
  refine ⟨kA, kc, nA, nc, h1, h2.frame hs (fun q hq hl => ⟨hk q hl hq.1, fun hm => hq.1 (hG q hm hl), hq.2⟩), h3, ?_⟩
  rcases h4 with h4 | ⟨g, cap, h4, h5⟩
  · exact .inl h4
  · exact .inr ⟨g, cap, h4, hp _ h5⟩
/-- Such a value is the value, in every world in which the rows that wait are. -/
theorem DoneN.node {n0 : Nat} {w W : World} {G : List Nat} {ps : List Pn} {d : Nat} {cs : Array Value} {t : VJ d} (h : DoneN n0 w G ps d cs t) (hs : w.heap.size ≤ W.heap.size) (hk : ∀ q, q < w.heap.size → q ∉ G → W.heap[q]? = w.heap[q]?) (hp : ∀ p ∈ ps, VsAt (fun q => n0 ≤ q) p.1 W (some ⟨p.2.1, 0, none⟩) p.2.2.2) : VAt (fun q => n0 ≤ q) d W cs t := by
  obtain ⟨kA, kc, nA, nc, rfl, h2, h3, h4⟩ := h
  have hh : NmsP (fun q => n0 ≤ q) W nA (labJ d t).2.2.2 := h2.frame hs (fun q hq hl => ⟨hk q hl hq.1, hq.2⟩)
  have hkk : VsAt (fun q => n0 ≤ q) (d - 1) W kA (kidsJ d t) := by
    rcases h4 with h4 | ⟨g, cap, rfl, h5⟩
    · rw [List.length_eq_zero_iff.1 h4]; exact VsAt.nil _ _ _ _
    · exact hp _ h5
  cases d with
  | zero => exact ⟨kA, kc, nA, nc, rfl, hh⟩
  | succ d => exact ⟨kA, kc, nA, nc, rfl, hh, hkk, h3⟩
theorem row_nds {P : Nat → Prop} {w : World} {d b g cap : Nat} {l : List (VJ d)} {css : List (Array Value)} (hl : css.length = l.length) (ho : OwnK w 5 25 b g l.length cap (vjvs css)) (hz : ∀ c ∈ css, c.size = 5) (hP : P g) (hn : ∀ j, j < l.length → VAt P d w (css.getD j #[]) (l.getD j (zeroJ d))) : VsAt P d w (some ⟨g, 0, none⟩) l := fun _ => ⟨g, 0, rfl, hP, ho.lt, fun j hj => by
  have hat := fun i (hi : i < 5) => vjvs_at css j i hz (by omega) hi
  have h6j := hn j hj
  obtain ⟨a, b, c, e, f, he⟩ : ∃ a b c e f, css.getD j #[] = #[a, b, c, e, f] := by
    obtain ⟨kA, kc, nA, nc, e1, _⟩ := h6j.parts
    exact ⟨_, _, _, _, _, e1⟩
  rw [he] at h6j hat
  refine ⟨a, b, c, e, f, ?_, ?_, ?_, ?_, ?_, h6j⟩
  · rw [Nat.zero_add]; exact ho.at _ _ (hat 0 (by decide))
  · rw [Nat.zero_add]; exact ho.at _ _ (hat 1 (by decide))
  · rw [Nat.zero_add]; exact ho.at _ _ (hat 2 (by decide))
  · rw [Nat.zero_add]; exact ho.at _ _ (hat 3 (by decide))
  · rw [Nat.zero_add]; exact ho.at _ _ (hat 4 (by decide))⟩
/-- A row whose nodes have all been made anew: it is done. -/
theorem RootN.pop {n0 : Nat} {w : World} {G : List Nat} {ps : List Pn} {D g0 : Nat} {L : List (VJ D)} {d g cap : Nat} {l : List (VJ d)} {css : List (Array Value)} (h : RootN n0 w (g :: G) (⟨d, g, cap, l⟩ :: ps) D g0 L) (hg : g ∉ G) (hl : css.length = l.length) (ho : OwnK w 5 25 n0 g l.length cap (vjvs css)) (hz : ∀ c ∈ css, c.size = 5) (hd : ∀ j, j < l.length → DoneN n0 w (g :: G) ps d (css.getD j #[]) (l.getD j (zeroJ d))) : RootN n0 w G ps D g0 L := by
  intro W h1 h2 h3
  have h2' : ∀ q, q < w.heap.size → q ∉ g :: G → W.heap[q]? = w.heap[q]? := fun q hq hn => h2 q hq (fun hm => hn (List.mem_cons_of_mem _ hm))
  refine h W h1 h2' (fun p hp => ?_)
  rcases List.mem_cons.1 hp with rfl | hp
  · exact row_nds hl (ho.kept (h2 g ho.lt hg)) hz ho.ge fun j hj => (hd j hj).node h1 h2' h3
  · exact h3 p hp
/-! How much is left to be done. -/
def szN : (d : Nat) → VJ d → Nat
  | 0, _ => 2
  | d + 1, t => 2 + (t.2.map (szN d)).foldr (· + ·) 0
def szR (d : Nat) (l : List (VJ d)) : Nat := 1 + (l.map (szN d)).foldr (· + ·) 0
def szQ (ps : List Pn) : Nat := (ps.map fun p => szR p.1 p.2.2.2).foldr (· + ·) 0
theorem szN_kids : ∀ (d : Nat) (t : VJ d), (kidsJ d t).length ≠ 0 → szR (d - 1) (kidsJ d t) + 1 ≤ szN d t
  | 0, t, h => absurd rfl h
  | d + 1, t, _ => by
    show 1 + (t.2.map (szN d)).foldr (· + ·) 0 + 1 ≤ 2 + (t.2.map (szN d)).foldr (· + ·) 0
    omega
theorem szN_pos : ∀ (d : Nat) (t : VJ d), 2 ≤ szN d t
  | 0, _ => Nat.le_refl _
  | d + 1, t => by
    show 2 ≤ 2 + _
    omega
theorem szQ_cons (p : Pn) (ps : List Pn) : szQ (p :: ps) = szR p.1 p.2.2.2 + szQ ps := rfl
/-! A row that grows. -/
/-- None, or a row of one's own whose nodes lead to the elder memory alone. -/
def KidsO (n0 b : Nat) (w : World) (d : Nat) (kv : Value) (l : List (VJ d)) : Prop := (l.length = 0 ∧ kv = .slice none 0 0) ∨ ∃ g cap, kv = .slice (some ⟨g, 0, none⟩) l.length cap ∧ b ≤ g ∧ 0 < l.length ∧ RowO n0 w d g cap l
theorem RowO.keep {n0 d g cap : Nat} {w W : World} {l : List (VJ d)} (h : RowO n0 w d g cap l) (hs : w.heap.size ≤ W.heap.size) (hg : W.heap[g]? = w.heap[g]?) (hk : ∀ q, q < n0 → q < w.heap.size → W.heap[q]? = w.heap[q]?) : RowO n0 W d g cap l := by
  obtain ⟨css, h1, h2, h3, h4⟩ := h
  exact ⟨css, h1, h2.kept hg, h3, fun j hj => (h4 j hj).frame hs fun q hq hl => ⟨hk q hq hl, hq⟩⟩
theorem RowO.lt {n0 d g cap : Nat} {w : World} {l : List (VJ d)} (h : RowO n0 w d g cap l) : g < w.heap.size ∧ n0 ≤ g ∧ l.length ≤ cap := by
  obtain ⟨css, h1, h2, h3, h4⟩ := h
  exact ⟨h2.lt, h2.ge, h2.le⟩
theorem KidsO.below {n0 b d : Nat} {w W : World} {kv : Value} {l : List (VJ d)} (h : KidsO n0 b w d kv l) (hb : Below w.heap.size w W) : KidsO n0 b W d kv l := by
  rcases h with h | ⟨g, cap, h1, h2, h3, h4⟩
  · exact .inl h
  · exact .inr ⟨g, cap, h1, h2, h3, h4.keep hb.size (hb.block g h4.lt.1) (fun q _ hl => hb.block q hl)⟩
theorem run_rowO (ty : TypeId) {n0 b d : Nat} {w : World} {v x : Value} {l : List (VJ d)} {cs : Array Value} {t : VJ d} (h : KidsO n0 b w d v l) (hs : Src Tryz.prog 5 22 x 1 cs.toList w) (hz : cs.size = 5) (hnd : VAt (fun q => q < n0) d w cs t) (hn : l.length ≤ 1000000) (h0 : n0 ≤ b) (hb : b ≤ w.heap.size) :
    ∃ v' w', (Builtin.append_ #[22, 22] ty #[v, x]).run Tryz.prog w = .ok v' w' ∧ KidsO n0 b w' d v' (l ++ [t]) ∧ Below b w w' := by
  have hlen : (l ++ [t]).length = l.length + 1 := by simp
  rcases h with ⟨hl, rfl⟩ | ⟨g, cap, rfl, hg, hpos, css, h3, h4, h5, h6⟩
  · have hl' : l = [] := List.length_eq_zero_iff.1 hl
    subst hl'
    obtain ⟨cap, w', k1, k2, k3⟩ := run_nilK vjK (b := n0) ty x hs (by decide) (by decide) (Nat.le_trans h0 hb)
    refine ⟨_, w', k1, .inr ⟨_, cap, rfl, hb, Nat.zero_lt_one, [cs], rfl, ?_, ?_, ?_⟩, k3.mono hb⟩
    · show OwnK w' 5 _ n0 _ 1 cap (vjvs [cs])
      rw [show vjvs [cs] = cs.toList from by simp [vjvs]]
      exact k2
    · intro c hc; rw [List.mem_singleton.1 hc]; exact hz
    · intro j hj
      obtain rfl : j = 0 := by simpa using hj
      exact hnd.frame k3.size fun q hq hl => ⟨k3.block q hl, hq⟩
  · have h4' : OwnK w 5 25 b g l.length cap (vjvs css) := ⟨hg, h4.len, h4.row⟩
    obtain ⟨g', cap', w', k1, k2, k3, k4⟩ := h4'.run_app vjK ty x hs (by omega) hb
    have hfr : ∀ q, q < n0 → q < w.heap.size → w'.heap[q]? = w.heap[q]? := fun q hq hl => k3.block q hl (fun e => by injection e with e; omega)
    refine ⟨_, w', k1, .inr ⟨g', cap', by rw [hlen], k2.ge, by rw [hlen]; omega, css ++ [cs], by rw [List.length_append, h3, hlen]; rfl, ?_, ?_, ?_⟩, h4'.grown (Below.refl _ _) hb k3⟩
    · rw [hlen, vjvs_app, show vjvs [cs] = cs.toList from by simp [vjvs]]
      exact ⟨Nat.le_trans h0 k2.ge, k2.len, k2.row⟩
    · intro c hc
      rcases List.mem_append.1 hc with hc | hc
      · exact h5 c hc
      · rw [List.mem_singleton.1 hc]; exact hz
    · intro j hj
      rw [getD_snoc l t _ j hj, getD_snoc css cs _ j (by rw [List.length_append, h3]; simpa using hj), h3]
      by_cases hjl : j < l.length
      · rw [if_pos hjl, if_pos hjl]
        exact (h6 j hjl).frame k3.size fun q hq hl => ⟨hfr q hq hl, hq⟩
      · rw [if_neg hjl, if_neg hjl]
        exact hnd.frame k3.size fun q hq hl => ⟨hfr q hq hl, hq⟩
theorem wpList_rowO {ops : Array Oper} {rest : List Oper} {o : Oper} {a : Act} {w : World} {Q : Exit → Act → World → Prop} (hgd : o.guard = none) (s x : Operand)
    (ho : o.op = .call { callee := .builtin .append, args := #[s, x], argTypes := #[22, 22] })
    (n0 b d : Nat) (v xv : Value) (l : List (VJ d)) (cs : Array Value) (t : VJ d) (hs : a.eval s = v) (hx : a.eval x = xv) (hown : KidsO n0 b w d v l)
    (hA : Src Tryz.prog 5 22 xv 1 cs.toList w) (hz : cs.size = 5) (hnd : VAt (fun q => q < n0) d w cs t) (hn : l.length ≤ 1000000) (h0 : n0 ≤ b) (hb : b ≤ w.heap.size)
    (h : ∀ v' w', KidsO n0 b w' d v' (l ++ [t]) → Below b w w' → wpList Tryz.prog ops Q rest (a.put o.dst v') w') : wpList Tryz.prog ops Q (o :: rest) a w := by
  refine wpList_plain hgd fun _ hK => ?_
  obtain ⟨v', w', hr, h2, h3⟩ := run_rowO o.type hown hA hz hnd hn h0 hb
  unfold Oper.wp execOp
  simp only [ho, resolve, invoke, builtin, Sem.run_bind, Sem.run_pure, Result.andThen_ok, List.map_toArray, List.map_cons, List.map_nil, hs, hx, hr]
  exact hK _ _ (h v' w' h2 h3)
end Go.Proofs.YtlgkbdebpnbndaaGreatDoor
