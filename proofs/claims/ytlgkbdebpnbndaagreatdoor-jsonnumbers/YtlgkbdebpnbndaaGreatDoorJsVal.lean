
/- How values of JSON lie in memory: five cells each, those within and the names in rows; what keeps them; rows of one's own. -/
import Derived.Test.YtlgkbdebpnbndaaGreatDoorJsText
import Derived.Test.YtlgkbdebpnbndaaGreatDoorXmMem
namespace Go.Proofs.YtlgkbdebpnbndaaGreatDoor
set_option linter.unusedVariables false
set_option linter.unusedSimpArgs false
open Go.RowKit Go.BigFrame

/-- The five cells of a value. -/
def vcs (l : LabJ) (kA : Option Addr) (kn kc : Nat) (nA : Option Addr) (nc : Nat) : Array Value := #[.int .i64 l.1, .int .i64 l.2.1, .string (asS l.2.2.1), .slice kA kn kc, .slice nA l.2.2.2.length nc]
/-- A row of elements of five cells, in a block for which P. -/
def RowV (P : Nat → Prop) (w : World) (A : Option Addr) (n : Nat) (R : Nat → Array Value → Prop) : Prop :=
  0 < n → ∃ q o, A = some ⟨q, o, none⟩ ∧ P q ∧ q < w.heap.size ∧ ∀ j, j < n → ∃ a b c e f, w.cell? ⟨q, o + j * 5, none⟩ = some a ∧ w.cell? ⟨q, o + j * 5 + 1, none⟩ = some b ∧ w.cell? ⟨q, o + j * 5 + 2, none⟩ = some c ∧ w.cell? ⟨q, o + j * 5 + 3, none⟩ = some e ∧ w.cell? ⟨q, o + j * 5 + 4, none⟩ = some f ∧ R j #[a, b, c, e, f]
/-- A row of texts. -/
def NmsP (P : Nat → Prop) (w : World) (A : Option Addr) (l : List (List UInt8)) : Prop :=
  0 < l.length → ∃ q o, A = some ⟨q, o, none⟩ ∧ P q ∧ q < w.heap.size ∧ ∀ j, j < l.length → w.cell? ⟨q, o + j, none⟩ = some (.string (asS (l.getD j [])))
/-- These cells are the value t; all that it leads to lies in blocks for which P. -/
def VAt (P : Nat → Prop) : (d : Nat) → World → Array Value → VJ d → Prop
  | 0, w, cs, t => ∃ kA kc nA nc, cs = vcs t kA 0 kc nA nc ∧ NmsP P w nA t.2.2.2
  | d + 1, w, cs, t => ∃ kA kc nA nc, cs = vcs t.1 kA t.2.length kc nA nc ∧ NmsP P w nA t.1.2.2.2 ∧ RowV P w kA t.2.length (fun j cs => VAt P d w cs (t.2.getD j (zeroJ d))) ∧ t.2.length ≤ kc
def VsAt (P : Nat → Prop) (d : Nat) (w : World) (A : Option Addr) (l : List (VJ d)) : Prop := RowV P w A l.length (fun j cs => VAt P d w cs (l.getD j (zeroJ d)))
theorem NmsP.nil (P : Nat → Prop) (w : World) (A : Option Addr) : NmsP P w A [] := fun h => absurd h (by simp)
theorem VsAt.nil (P : Nat → Prop) (d : Nat) (w : World) (A : Option Addr) : VsAt P d w A [] := fun h => absurd h (by simp)
theorem VAt.parts {P : Nat → Prop} : {d : Nat} → {w : World} → {cs : Array Value} → {t : VJ d} → VAt P d w cs t →
    ∃ kA kc nA nc, cs = vcs (labJ d t) kA (kidsJ d t).length kc nA nc ∧ NmsP P w nA (labJ d t).2.2.2 ∧ VsAt P (d - 1) w kA (kidsJ d t) ∧ (kidsJ d t).length ≤ kc
  | 0, w, cs, t, ⟨kA, kc, nA, nc, h1, h2⟩ => ⟨kA, kc, nA, nc, h1, h2, VsAt.nil _ _ _ _, Nat.zero_le _⟩
  | _ + 1, w, cs, t, ⟨kA, kc, nA, nc, h1, h2, h3⟩ => ⟨kA, kc, nA, nc, h1, h2, h3⟩
theorem VAt.mk0 {P : Nat → Prop} {d : Nat} {w : World} {l : LabJ} {kA : Option Addr} {kc : Nat} {nA : Option Addr} {nc : Nat} (h : NmsP P w nA l.2.2.2) : VAt P d w (vcs l kA 0 kc nA nc) (leafJ d l) := by
  cases d with
  | zero => exact ⟨kA, kc, nA, nc, rfl, h⟩
  | succ d => exact ⟨kA, kc, nA, nc, rfl, h, VsAt.nil _ _ _ _, Nat.zero_le _⟩
theorem VAt.mk {P : Nat → Prop} {d : Nat} {w : World} {l : LabJ} {ks : List (VJ d)} {kA : Option Addr} {kc : Nat} {nA : Option Addr} {nc : Nat} (h : NmsP P w nA l.2.2.2) (hk : VsAt P d w kA ks) (hc : ks.length ≤ kc) : VAt P (d + 1) w (vcs l kA ks.length kc nA nc) (l, ks) := ⟨kA, kc, nA, nc, rfl, h, hk, hc⟩
theorem VAt.size {P : Nat → Prop} {d : Nat} {w : World} {cs : Array Value} {t : VJ d} (h : VAt P d w cs t) : cs.size = 5 := by
  obtain ⟨kA, kc, nA, nc, rfl, _⟩ := h.parts
  rfl
theorem NmsP.frame {P P' : Nat → Prop} {w W : World} {A : Option Addr} {l : List (List UInt8)} (h : NmsP P w A l) (hs : w.heap.size ≤ W.heap.size) (hP : ∀ q, P q → q < w.heap.size → W.heap[q]? = w.heap[q]? ∧ P' q) : NmsP P' W A l := fun h0 => by
  obtain ⟨q, o, e, hp, hq, hc⟩ := h h0
  have h2 := hP q hp hq
  exact ⟨q, o, e, h2.2, Nat.lt_of_lt_of_le hq hs, fun j hj => by rw [cell_same h2.1]; exact hc j hj⟩
theorem RowV.frame {P P' : Nat → Prop} {w W : World} {A : Option Addr} {n : Nat} {R R' : Nat → Array Value → Prop} (h : RowV P w A n R) (hs : w.heap.size ≤ W.heap.size) (hP : ∀ q, P q → q < w.heap.size → W.heap[q]? = w.heap[q]? ∧ P' q) (hR : ∀ j cs, j < n → R j cs → R' j cs) : RowV P' W A n R' := fun h0 => by
  obtain ⟨q, o, e, hp, hq, hc⟩ := h h0
  have h2 := hP q hp hq
  refine ⟨q, o, e, h2.2, Nat.lt_of_lt_of_le hq hs, fun j hj => ?_⟩
  obtain ⟨a, b, c, e, f, k1, k2, k3, k4, k5, k6⟩ := hc j hj
  exact ⟨a, b, c, e, f, by rw [cell_same h2.1]; exact k1, by rw [cell_same h2.1]; exact k2, by rw [cell_same h2.1]; exact k3, by rw [cell_same h2.1]; exact k4, by rw [cell_same h2.1]; exact k5, hR j _ hj k6⟩
/-- What the blocks that it lies in hold, keeps a value. -/
theorem VAt.frame {P P' : Nat → Prop} {w W : World} (hs : w.heap.size ≤ W.heap.size) (hP : ∀ q, P q → q < w.heap.size → W.heap[q]? = w.heap[q]? ∧ P' q) : {d : Nat} → {cs : Array Value} → {t : VJ d} → VAt P d w cs t → VAt P' d W cs t
  | 0, _, _, ⟨kA, kc, nA, nc, h1, h2⟩ => ⟨kA, kc, nA, nc, h1, h2.frame hs hP⟩
  | d + 1, _, t, ⟨kA, kc, nA, nc, h1, h2, h3, h4⟩ => ⟨kA, kc, nA, nc, h1, h2.frame hs hP, h3.frame hs hP fun j cs _ hr => VAt.frame (d := d) hs hP hr, h4⟩
theorem VsAt.frame {P P' : Nat → Prop} {w W : World} {d : Nat} {A : Option Addr} {l : List (VJ d)} (h : VsAt P d w A l) (hs : w.heap.size ≤ W.heap.size) (hP : ∀ q, P q → q < w.heap.size → W.heap[q]? = w.heap[q]? ∧ P' q) : VsAt P' d W A l :=
  RowV.frame h hs hP fun j cs _ hr => VAt.frame hs hP hr
theorem VAt.below {P : Nat → Prop} {w W : World} {d B : Nat} {cs : Array Value} {t : VJ d} (h : VAt P d w cs t) (hb : Below B w W) (hB : w.heap.size ≤ B) : VAt P d W cs t :=
  h.frame hb.size fun q hq hl => ⟨hb.block q (Nat.lt_of_lt_of_le hl hB), hq⟩
theorem VsAt.below {P : Nat → Prop} {w W : World} {d B : Nat} {A : Option Addr} {l : List (VJ d)} (h : VsAt P d w A l) (hb : Below B w W) (hB : w.heap.size ≤ B) : VsAt P d W A l :=
  h.frame hb.size fun q hq hl => ⟨hb.block q (Nat.lt_of_lt_of_le hl hB), hq⟩
theorem VAt.to {P : Nat → Prop} {w W : World} {d R : Nat} {cs : Array Value} {t : VJ d} (h : VAt P d w cs t) (hg : w.grownBy W (some R)) (hP : ∀ q, P q → q ≠ R) : VAt P d W cs t :=
  h.frame hg.size fun q hq hl => ⟨hg.block q hl (fun e => hP q hq (by injection e)), hq⟩
theorem VAt.mono {P P' : Nat → Prop} {w : World} {d : Nat} {cs : Array Value} {t : VJ d} (h : VAt P d w cs t) (hp : ∀ q, P q → q < w.heap.size → P' q) : VAt P' d w cs t :=
  h.frame (Nat.le_refl _) fun q hq hl => ⟨rfl, hp q hq hl⟩
theorem VsAt.mono {P P' : Nat → Prop} {w : World} {d : Nat} {A : Option Addr} {l : List (VJ d)} (h : VsAt P d w A l) (hp : ∀ q, P q → q < w.heap.size → P' q) : VsAt P' d w A l :=
  h.frame (Nat.le_refl _) fun q hq hl => ⟨rfl, hp q hq hl⟩
theorem VsAt.at {P : Nat → Prop} {w : World} {d : Nat} {A : Option Addr} {l : List (VJ d)} (h : VsAt P d w A l) (j : Nat) (hj : j < l.length) :
    ∃ q o a b c e f, A = some ⟨q, o, none⟩ ∧ q < w.heap.size ∧ w.cell? ⟨q, o + j * 5, none⟩ = some a ∧ w.cell? ⟨q, o + j * 5 + 1, none⟩ = some b ∧ w.cell? ⟨q, o + j * 5 + 2, none⟩ = some c ∧ w.cell? ⟨q, o + j * 5 + 3, none⟩ = some e ∧ w.cell? ⟨q, o + j * 5 + 4, none⟩ = some f ∧ VAt P d w #[a, b, c, e, f] (l.getD j (zeroJ d)) := by
  obtain ⟨q, o, e, hp, hq, hc⟩ := h (by omega)
  obtain ⟨a, b, c, e', f, k1, k2, k3, k4, k5, k6⟩ := hc j hj
  exact ⟨q, o, a, b, c, e', f, e, hq, k1, k2, k3, k4, k5, k6⟩
def vjvs (css : List (Array Value)) : List Value := css.flatMap (·.toList)
theorem vjvs_len : ∀ css : List (Array Value), (∀ c ∈ css, c.size = 5) → (vjvs css).length = css.length * 5
  | [], _ => rfl
  | c :: r, h => by
    have h1 := h c List.mem_cons_self
    have h2 := vjvs_len r (fun x hx => h x (List.mem_cons_of_mem _ hx))
    show (c.toList ++ vjvs r).length = _
    rw [List.length_append, h2, Array.length_toList, h1, List.length_cons]
    omega
theorem vjvs_at : ∀ (css : List (Array Value)) (j i : Nat), (∀ c ∈ css, c.size = 5) → j < css.length → i < 5 → (vjvs css)[j * 5 + i]? = (css.getD j #[])[i]?
  | [], j, i, _, h, _ => by simp at h
  | c :: r, 0, i, hc, _, hi => by
    have h1 := hc c List.mem_cons_self
    show (c.toList ++ vjvs r)[0 * 5 + i]? = _
    rw [Nat.zero_mul, Nat.zero_add, List.getElem?_append_left (by rw [Array.length_toList, h1]; exact hi)]
    simp
  | c :: r, j + 1, i, hc, hj, hi => by
    have h1 := hc c List.mem_cons_self
    have ih := vjvs_at r j i (fun x hx => hc x (List.mem_cons_of_mem _ hx)) (by simpa using hj) hi
    show (c.toList ++ vjvs r)[(j + 1) * 5 + i]? = _
    rw [List.getElem?_append_right (by rw [Array.length_toList, h1]; omega), Array.length_toList, h1, show (j + 1) * 5 + i - 5 = j * 5 + i from by omega, ih]
    simp
theorem vjvs_app (a b : List (Array Value)) : vjvs (a ++ b) = vjvs a ++ vjvs b := by simp [vjvs]
theorem vjK : KCells Tryz.prog 5 22 25 := ⟨Tryz.underlying22, by
  obtain ⟨i, h1, h2, h3, h4⟩ := info_parts (show (Tryz.prog.info? 25).map (fun i => (i.zero, i.size, i.bytes)) = some (some (.agg #[.int .i64 0, .int .i64 0, .string ⟨#[]⟩, .slice none 0 0, .slice none 0 0]), 5, 80) from by kernel_rfl)
  exact ⟨i, _, h1, h2, h3, by omega, rfl⟩⟩
/-- A row of nodes of one's own, or none yet; all of it lies in blocks for which P. -/
def OwnVj (P : Nat → Prop) (w : World) (d : Nat) (v : Value) (l : List (VJ d)) : Prop := (v = .slice none 0 0 ∧ l = []) ∨
  ∃ g cap css, v = .slice (some ⟨g, 0, none⟩) l.length cap ∧ P g ∧ css.length = l.length ∧ OwnK w 5 25 0 g l.length cap (vjvs css) ∧ (∀ c ∈ css, c.size = 5) ∧ ∀ j, j < l.length → VAt (fun q => P q ∧ q ≠ g) d w (css.getD j #[]) (l.getD j (zeroJ d))
theorem OwnVj.nil (P : Nat → Prop) (w : World) (d : Nat) : OwnVj P w d (.slice none 0 0) [] := .inl ⟨rfl, rfl⟩
theorem OwnVj.frame {P P' : Nat → Prop} {w W : World} {d : Nat} {v : Value} {l : List (VJ d)} (h : OwnVj P w d v l) (hs : w.heap.size ≤ W.heap.size) (hP : ∀ q, P q → q < w.heap.size → W.heap[q]? = w.heap[q]? ∧ P' q) : OwnVj P' W d v l := by
  rcases h with h | ⟨g, cap, css, h1, h2, h3, h4, h5, h6⟩
  · exact .inl h
  · have hg := hP g h2 h4.lt
    exact .inr ⟨g, cap, css, h1, hg.2, h3, h4.kept hg.1, h5, fun j hj => (h6 j hj).frame hs fun q hq hl => ⟨(hP q hq.1 hl).1, (hP q hq.1 hl).2, hq.2⟩⟩
theorem OwnVj.to {P : Nat → Prop} {w W : World} {d R : Nat} {v : Value} {l : List (VJ d)} (h : OwnVj P w d v l) (hg : w.grownBy W (some R)) (hP : ∀ q, P q → q ≠ R) : OwnVj P W d v l :=
  h.frame hg.size fun q hq hl => ⟨hg.block q hl (fun e => hP q hq (by injection e)), hq⟩
theorem OwnVj.below {P : Nat → Prop} {w W : World} {d : Nat} {v : Value} {l : List (VJ d)} (h : OwnVj P w d v l) (hb : Below w.heap.size w W) : OwnVj P W d v l :=
  h.frame hb.size fun q hq hl => ⟨hb.block q hl, hq⟩
theorem OwnVj.shape {P : Nat → Prop} {w : World} {d : Nat} {v : Value} {l : List (VJ d)} (h : OwnVj P w d v l) : ∃ A c, v = .slice A l.length c ∧ (∀ a, A = some a → P a.block ∧ a.block < w.heap.size) ∧ VsAt P d w A l := by
  rcases h with ⟨rfl, rfl⟩ | ⟨g, cap, css, rfl, h2, h3, h4, h5, h6⟩
  · exact ⟨none, 0, rfl, (fun a e => by cases e), VsAt.nil _ _ _ _⟩
  · refine ⟨_, cap, rfl, (fun a e => by cases e; exact ⟨h2, h4.lt⟩), fun _ => ⟨g, 0, rfl, h2, h4.lt, fun j hj => ?_⟩⟩
    have hz : (css.getD j #[]).size = 5 := by
      rw [List.getD_eq_getElem?_getD, List.getElem?_eq_getElem (by omega)]
      exact h5 _ (List.getElem_mem _)
    have hat := fun i (hi : i < 5) => vjvs_at css j i h5 (by omega) hi
    obtain ⟨a, b, c, e, f, he⟩ : ∃ a b c e f, css.getD j #[] = #[a, b, c, e, f] := by
      have h6j := h6 j hj
      obtain ⟨aA, ac, kA, kc, e1, _⟩ := h6j.parts
      exact ⟨_, _, _, _, _, e1⟩
    have h6j := h6 j hj
    rw [he] at h6j hat
    refine ⟨a, b, c, e, f, ?_, ?_, ?_, ?_, ?_, h6j.mono fun q hq _ => hq.1⟩
    · rw [Nat.zero_add]; exact h4.at _ _ (hat 0 (by decide))
    · rw [Nat.zero_add]; exact h4.at _ _ (hat 1 (by decide))
    · rw [Nat.zero_add]; exact h4.at _ _ (hat 2 (by decide))
    · rw [Nat.zero_add]; exact h4.at _ _ (hat 3 (by decide))
    · rw [Nat.zero_add]; exact h4.at _ _ (hat 4 (by decide))
theorem OwnVj.cap {P : Nat → Prop} {w : World} {d : Nat} {A : Option Addr} {n c : Nat} {l : List (VJ d)} (h : OwnVj P w d (.slice A n c) l) : n ≤ c := by
  rcases h with ⟨h, _⟩ | ⟨g, cap, css, h1, h2, h3, h4, h5, h6⟩
  · cases h; exact Nat.le_refl _
  · cases h1; exact h4.le
/-- append(nodes of one's own or none, another). -/
theorem run_vj (ty : TypeId) {P : Nat → Prop} {w : World} {d : Nat} {v x : Value} {l : List (VJ d)} {cs : Array Value} {t : VJ d} (h : OwnVj P w d v l) (hs : Src Tryz.prog 5 22 x 1 cs.toList w) (hz : cs.size = 5) (hnd : VAt (fun q => P q ∧ blk v ≠ some q) d w cs t) (hn : l.length ≤ 1000000) (hP : P w.heap.size) :
    ∃ v' w', (Builtin.append_ #[22, 22] ty #[v, x]).run Tryz.prog w = .ok v' w' ∧ OwnVj P w' d v' (l ++ [t]) ∧ w.grownBy w' (blk v) ∧ (blk v' = blk v ∨ blk v' = some w.heap.size) := by
  rcases h with ⟨rfl, rfl⟩ | ⟨g, cap, css, rfl, h2, h3, h4, h5, h6⟩
  · obtain ⟨cap, w', k1, k2, k3⟩ := run_nilK vjK (b := 0) ty x hs (by decide) (by decide) (Nat.zero_le _)
    refine ⟨_, w', k1, .inr ⟨_, cap, [cs], rfl, hP, rfl, ?_, ?_, ?_⟩, ⟨k3.os, k3.tape, k3.output, k3.size, fun k hk _ => k3.block k hk⟩, .inr rfl⟩
    · show OwnK w' 5 _ 0 _ 1 cap (vjvs [cs])
      rw [show vjvs [cs] = cs.toList from by simp [vjvs]]
      exact k2
    · intro c hc; rw [List.mem_singleton.1 hc]; exact hz
    · intro j hj
      obtain rfl : j = 0 := by simpa using hj
      exact hnd.frame k3.size fun q hq hl => ⟨k3.block q hl, hq.1, by omega⟩
  · obtain ⟨g', cap', w', k1, k2, k3, k4⟩ := h4.run_app vjK ty x hs (by omega) (Nat.zero_le _)
    have hlen : (l ++ [t]).length = l.length + 1 := by simp
    have hfr : ∀ q, q ≠ g → q < w.heap.size → w'.heap[q]? = w.heap[q]? := fun q hq hl => k3.block q hl (fun e => hq (by injection e))
    refine ⟨_, w', k1, .inr ⟨g', cap', css ++ [cs], by rw [hlen], ?_, by rw [List.length_append, h3, hlen]; rfl, ?_, ?_, ?_⟩, k3, ?_⟩
    · rcases k4 with rfl | rfl
      · exact h2
      · exact hP
    · rw [hlen, vjvs_app, show vjvs [cs] = cs.toList from by simp [vjvs]]
      exact k2
    · intro c hc
      rcases List.mem_append.1 hc with hc | hc
      · exact h5 c hc
      · rw [List.mem_singleton.1 hc]; exact hz
    · intro j hj
      rw [getD_snoc l t _ j hj, getD_snoc css cs _ j (by rw [List.length_append, h3]; simpa using hj), h3]
      have hne : ∀ q, q ≠ g → q < w.heap.size → q ≠ g' := fun q hq hl => by rcases k4 with rfl | rfl <;> omega
      by_cases hjl : j < l.length
      · rw [if_pos hjl, if_pos hjl]
        exact (h6 j hjl).frame k3.size fun q hq hl => ⟨hfr q hq.2 hl, hq.1, hne q hq.2 hl⟩
      · rw [if_neg hjl, if_neg hjl]
        refine hnd.frame k3.size fun q hq hl => ?_
        have hqg : q ≠ g := fun e => hq.2 (by rw [e]; rfl)
        exact ⟨hfr q hqg hl, hq.1, hne q hqg hl⟩
    · rcases k4 with rfl | rfl
      · exact .inl rfl
      · exact .inr rfl
theorem wpList_vj {ops : Array Oper} {rest : List Oper} {o : Oper} {a : Act} {w : World} {Q : Exit → Act → World → Prop} (hgd : o.guard = none) (s x : Operand)
    (ho : o.op = .call { callee := .builtin .append, args := #[s, x], argTypes := #[22, 22] })
    (P : Nat → Prop) (d : Nat) (v xv : Value) (l : List (VJ d)) (cs : Array Value) (t : VJ d) (hs : a.eval s = v) (hx : a.eval x = xv) (hown : OwnVj P w d v l)
    (hA : Src Tryz.prog 5 22 xv 1 cs.toList w) (hz : cs.size = 5) (hnd : VAt (fun q => P q ∧ blk v ≠ some q) d w cs t) (hn : l.length ≤ 1000000) (hP : P w.heap.size)
    (h : ∀ v' w', OwnVj P w' d v' (l ++ [t]) → w.grownBy w' (blk v) → (blk v' = blk v ∨ blk v' = some w.heap.size) → wpList Tryz.prog ops Q rest (a.put o.dst v') w') : wpList Tryz.prog ops Q (o :: rest) a w := by
  refine wpList_plain hgd fun _ hK => ?_
  obtain ⟨v', w', hr, h2, h3, h4⟩ := run_vj o.type hown hA hz hnd hn hP
  unfold Oper.wp execOp
  simp only [ho, resolve, invoke, builtin, Sem.run_bind, Sem.run_pure, Result.andThen_ok, List.map_toArray, List.map_cons, List.map_nil, hs, hx, hr]
  exact hK _ _ (h v' w' h2 h3 h4)
theorem step_vj {ops : Array Oper} {o : Oper} {a : Act} {w : World} {K : Act → World → Prop} {Q : Exit → Act → World → Prop} {E : Prop} (hgd : o.guard = none) (s x : Operand)
    (ho : o.op = .call { callee := .builtin .append, args := #[s, x], argTypes := #[22, 22] })
    (P : Nat → Prop) (d : Nat) (v xv : Value) (l : List (VJ d)) (cs : Array Value) (t : VJ d) (hs : a.eval s = v) (hx : a.eval x = xv) (hown : OwnVj P w d v l)
    (hA : Src Tryz.prog 5 22 xv 1 cs.toList w) (hz : cs.size = 5) (hnd : VAt (fun q => P q ∧ blk v ≠ some q) d w cs t) (hn : l.length ≤ 1000000) (hP : P w.heap.size)
    (h : ∀ v' w', OwnVj P w' d v' (l ++ [t]) → w.grownBy w' (blk v) → (blk v' = blk v ∨ blk v' = some w.heap.size) → K (a.put o.dst v') w') :
    if Region.wanted o (yielded ops a.tmps) = true then Oper.wp Tryz.prog o a w K Q else E := by
  have hw : Region.wanted o (yielded ops a.tmps) = true := by simp [Region.wanted, hgd]
  rw [if_pos hw]
  obtain ⟨v', w', hr, h2, h3, h4⟩ := run_vj o.type hown hA hz hnd hn hP
  unfold Oper.wp
  simp [execOp, ho, resolve, invoke, builtin, hs, hx, hr, Result.andThen]
  exact h v' w' h2 h3 h4
theorem vj_one {P : Nat → Prop} {d : Nat} {w : World} {cs : Array Value} {t : VJ d} (h : VAt P d w cs t) : ∀ u ∈ cs.toList, u.oneCell' = true := by
  obtain ⟨aA, ac, kA, kc, rfl, _⟩ := h.parts
  intro u hu
  simp only [vcs, List.mem_cons, List.not_mem_nil, or_false] at hu
  rcases hu with rfl | rfl | rfl | rfl | rfl <;> rfl
theorem src_vj {P : Nat → Prop} {d : Nat} {w : World} {cs : Array Value} {t : VJ d} (h : VAt P d w cs t) (g c : Nat) (hg : w.heap[g]? = some (.cells cs 25 (0, 0))) : Src Tryz.prog 5 22 (.slice (some ⟨g, 0, none⟩) 1 c) 1 cs.toList w :=
  src_litK vjK w g 1 c cs.toList (by rw [Array.length_toList, h.size]) hg (vj_one h)
end Go.Proofs.YtlgkbdebpnbndaaGreatDoor
