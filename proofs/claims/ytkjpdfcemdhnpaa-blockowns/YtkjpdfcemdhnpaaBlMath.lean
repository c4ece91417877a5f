
/- Blocks as mathematics: bytes put at a place, writes done in their order, what a crash leaves of them. -/
import Derived.Below
namespace Go.Proofs.Ytkjpdfcemdhnpaa
set_option linter.unusedVariables false
set_option linter.unusedSimpArgs false

/-- Bytes with some others at a place. -/
def putB (b : List UInt8) (o : Nat) (d : List UInt8) : List UInt8 := b.take o ++ (d ++ b.drop (o + d.length))
theorem putB_len {b d : List UInt8} {o : Nat} (h : o + d.length ≤ b.length) : (putB b o d).length = b.length := by
  unfold putB
  simp only [List.length_append, List.length_take, List.length_drop]
  omega
theorem putB_get {b d : List UInt8} {o : Nat} (h : o + d.length ≤ b.length) (i : Nat) : (putB b o d)[i]? = if o ≤ i ∧ i < o + d.length then d[i - o]? else b[i]? := by
  unfold putB
  by_cases h1 : i < o
  · rw [List.getElem?_append_left (by rw [List.length_take]; omega), List.getElem?_take_of_lt h1, if_neg (by omega)]
  · rw [List.getElem?_append_right (by rw [List.length_take]; omega), List.length_take, Nat.min_eq_left (by omega)]
    by_cases h2 : i < o + d.length
    · rw [List.getElem?_append_left (by omega), if_pos ⟨by omega, h2⟩]
    · rw [List.getElem?_append_right (by omega), List.getElem?_drop, if_neg (by omega)]
      congr 1
      omega
/-- A write: which block, and its bytes. -/
abbrev WrB := Nat × List UInt8
def foldB (b : List UInt8) (l : List WrB) : List UInt8 := l.foldl (fun b q => putB b (64 * q.1) q.2) b
/-- Writes to blocks that there are, of so many bytes at most. -/
def OkB (n : Nat) (l : List WrB) : Prop := ∀ q ∈ l, q.1 < n ∧ q.2.length ≤ 64
def FullB (n : Nat) (l : List WrB) : Prop := ∀ q ∈ l, q.1 < n ∧ q.2.length = 64
theorem FullB.ok {n : Nat} {l : List WrB} (h : FullB n l) : OkB n l := fun q hq => ⟨(h q hq).1, Nat.le_of_eq (h q hq).2⟩
theorem foldB_nil (b : List UInt8) : foldB b [] = b := rfl
theorem foldB_snoc (b : List UInt8) (l : List WrB) (q : WrB) : foldB b (l ++ [q]) = putB (foldB b l) (64 * q.1) q.2 := by
  unfold foldB
  rw [List.foldl_append]
  rfl
theorem foldB_cons (b : List UInt8) (l : List WrB) (q : WrB) : foldB b (q :: l) = foldB (putB b (64 * q.1) q.2) l := rfl
theorem foldB_len {n : Nat} : ∀ (l : List WrB) (b : List UInt8), b.length = 64 * n → OkB n l → (foldB b l).length = 64 * n
  | [], b, hb, _ => hb
  | q :: l, b, hb, h => by
    have hq := h q List.mem_cons_self
    rw [foldB_cons]
    exact foldB_len l _ ((putB_len (by omega)).trans hb) (fun x hx => h x (List.mem_cons_of_mem _ hx))
theorem foldB_get {n : Nat} : ∀ (l : List WrB) (b : List UInt8) (i : Nat), b.length = 64 * n → OkB n l → (∀ q ∈ l, q.1 ≠ i / 64) → (foldB b l)[i]? = b[i]?
  | [], b, i, hb, _, _ => rfl
  | q :: l, b, i, hb, h, hi => by
    have hq := h q List.mem_cons_self
    have hne := hi q List.mem_cons_self
    rw [foldB_cons, foldB_get l _ i ((putB_len (by omega)).trans hb) (fun x hx => h x (List.mem_cons_of_mem _ hx)) (fun x hx => hi x (List.mem_cons_of_mem _ hx)), putB_get (by omega), if_neg (by omega)]
/-- A block's bytes. -/
def blkB (b : List UInt8) (j : Nat) : List UInt8 := (b.drop (64 * j)).take 64
theorem blkB_len {b : List UInt8} {n j : Nat} (hb : b.length = 64 * n) (hj : j < n) : (blkB b j).length = 64 := by
  unfold blkB
  rw [List.length_take, List.length_drop]
  omega
/-- Blocks set back to what lasts. -/
def resB (now last : List UInt8) (P : List Nat) : List UInt8 := P.foldl (fun x a => putB x (64 * a) (blkB last a)) now
theorem resB_snoc (now last : List UInt8) (P : List Nat) (a : Nat) : resB now last (P ++ [a]) = putB (resB now last P) (64 * a) (blkB last a) := by
  unfold resB
  rw [List.foldl_append]
  rfl
theorem resB_len {n : Nat} {last : List UInt8} (hl : last.length = 64 * n) : ∀ (P : List Nat) (now : List UInt8), now.length = 64 * n → (∀ a ∈ P, a < n) → (resB now last P).length = 64 * n
  | [], now, hb, _ => hb
  | a :: P, now, hb, h => by
    have ha := h a List.mem_cons_self
    have hk := blkB_len hl ha
    show (resB (putB now (64 * a) (blkB last a)) last P).length = _
    exact resB_len hl P _ ((putB_len (by omega)).trans hb) (fun x hx => h x (List.mem_cons_of_mem _ hx))
theorem resB_eq {n : Nat} {last : List UInt8} (hl : last.length = 64 * n) : ∀ (P : List Nat) (now : List UInt8), now.length = 64 * n → (∀ a ∈ P, a < n) → (∀ i, (∀ a ∈ P, a ≠ i / 64) → now[i]? = last[i]?) → resB now last P = last
  | [], now, hb, _, he => List.ext_getElem? fun i => he i (fun a ha => by cases ha)
  | a :: P, now, hb, h, he => by
    have ha := h a List.mem_cons_self
    have hk := blkB_len hl ha
    show resB (putB now (64 * a) (blkB last a)) last P = last
    refine resB_eq hl P _ ((putB_len (by omega)).trans hb) (fun x hx => h x (List.mem_cons_of_mem _ hx)) fun i hi => ?_
    rw [putB_get (by omega)]
    by_cases h2 : i / 64 = a
    · rw [if_pos (by omega)]
      unfold blkB
      rw [List.getElem?_take_of_lt (by omega), List.getElem?_drop]
      congr 1
      omega
    · rw [if_neg (by omega)]
      refine he i fun x hx => ?_
      rcases List.mem_cons.1 hx with rfl | hx
      · exact fun e => h2 e.symm
      · exact hi x hx
/-- What is read is what lasts, when the writes that did not last are set back. -/
theorem settle_now {n : Nat} {b : List UInt8} (hb : b.length = 64 * n) {W l : List WrB} (hW : OkB n W) (hl : OkB n l) (hs : ∀ q ∈ l, ∃ p ∈ W, p.1 = q.1) : resB (foldB b W) (foldB b l) (W.map (·.1)) = foldB b l := by
  refine resB_eq (foldB_len l b hb hl) _ _ (foldB_len W b hb hW) (fun a ha => ?_) fun i hi => ?_
  · obtain ⟨q, hq, rfl⟩ := List.mem_map.1 ha
    exact (hW q hq).1
  · have h1 : ∀ q ∈ W, q.1 ≠ i / 64 := fun q hq => hi _ (List.mem_map_of_mem hq)
    rw [foldB_get W b i hb hW h1, foldB_get l b i hb hl fun q hq => ?_]
    obtain ⟨p, hp, e⟩ := hs q hq
    rw [← e]
    exact h1 p hp
/-- How many bytes of a torn write last. -/
def cutB (t : Int) : Nat := if t < 0 then 0 else if 64 < t then 64 else t.toNat
theorem cutB_le (t : Int) : cutB t ≤ 64 := by unfold cutB; split <;> (try split) <;> omega
/-- What comes through a crash. -/
def thrB (W : List WrB) (k : Nat) (t : Int) : List WrB := W.take k ++ (match W[k]? with | none => [] | some q => [(q.1, q.2.take (cutB t))])
theorem thrB_ge {W : List WrB} {k : Nat} (t : Int) (h : W.length ≤ k) : thrB W k t = W := by
  unfold thrB
  rw [List.getElem?_eq_none h, List.take_of_length_le h, List.append_nil]
theorem thrB_lt {W : List WrB} {k : Nat} (t : Int) (h : k < W.length) : thrB W k t = W.take k ++ [((W.getD k (0, [])).1, (W.getD k (0, [])).2.take (cutB t))] := by
  unfold thrB
  rw [List.getElem?_eq_getElem h, List.getD_eq_getElem?_getD, List.getElem?_eq_getElem h]
  rfl
theorem thrB_mem {W : List WrB} {k : Nat} {t : Int} {q : WrB} (h : q ∈ thrB W k t) : ∃ p ∈ W, p.1 = q.1 ∧ q.2.length ≤ p.2.length := by
  by_cases hk : k < W.length
  · rw [thrB_lt t hk] at h
    rcases List.mem_append.1 h with h | h
    · exact ⟨q, List.mem_of_mem_take h, rfl, Nat.le_refl _⟩
    · rw [List.mem_singleton] at h
      subst h
      refine ⟨W.getD k (0, []), ?_, rfl, ?_⟩
      · rw [List.getD_eq_getElem?_getD, List.getElem?_eq_getElem hk]
        exact List.getElem_mem _
      · rw [List.length_take]; exact Nat.min_le_right _ _
  · rw [thrB_ge t (by omega)] at h
    exact ⟨q, h, rfl, Nat.le_refl _⟩
theorem thrB_ok {n : Nat} {W : List WrB} (h : OkB n W) (k : Nat) (t : Int) : OkB n (thrB W k t) := fun q hq => by
  obtain ⟨p, h1, h2, h3⟩ := thrB_mem hq
  have := h p h1
  exact ⟨h2 ▸ this.1, Nat.le_trans h3 this.2⟩
end Go.Proofs.Ytkjpdfcemdhnpaa
