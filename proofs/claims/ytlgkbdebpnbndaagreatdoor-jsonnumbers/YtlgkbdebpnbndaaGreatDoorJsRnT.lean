
/- The stack of rows that wait to be made anew. No walk in it. -/
import Derived.Test.YtlgkbdebpnbndaaGreatDoorJsRnS
namespace Go.Proofs.YtlgkbdebpnbndaaGreatDoor
set_option linter.unusedVariables false
set_option linter.unusedSimpArgs false
open Go.RowKit Go.BigFrame

theorem cellN : OneCell Tryz.prog 103 22 := ⟨Tryz.underlying103, by
  obtain ⟨i, h1, h2, h3, h4⟩ := info_parts (show (Tryz.prog.info? 22).map (fun i => (i.zero, i.size, i.bytes)) = some (some (.slice none 0 0), 1, 24) from by kernel_rfl)
  exact ⟨i, _, h1, h2, h3, by omega, rfl⟩⟩
theorem OwnV.cut {w : World} {e b g n cap : Nat} {ys : List Value} {v : Value} (h : OwnV w e b g (n + 1) cap (ys ++ [v])) : OwnV w e b g n cap ys := by
  obtain ⟨r, h1, h2⟩ := h.row
  have hl := h.len
  rw [List.length_append, List.length_singleton] at hl
  exact ⟨h.ge, by omega, v :: r, by rw [h1]; simp, by simp only [List.length_cons]; omega⟩
def sumN (d : Nat) (l : List (VJ d)) : Nat := (l.map (szN d)).foldr (· + ·) 0
theorem szR_eq (d : Nat) (l : List (VJ d)) : szR d l = 1 + sumN d l := rfl
theorem sum_drop (d : Nat) (l : List (VJ d)) (k : Nat) (h : k < l.length) : sumN d (l.drop k) = szN d (l.getD k (zeroJ d)) + sumN d (l.drop (k + 1)) := by
  rw [List.drop_eq_getElem_cons h, List.getD_eq_getElem?_getD, List.getElem?_eq_getElem h]
  rfl
theorem szQ_app (ps qs : List Pn) : szQ (ps ++ qs) = szQ ps + szQ qs := by
  induction ps with
  | nil => show szQ qs = 0 + szQ qs; omega
  | cons p ps ih => rw [List.cons_append, szQ_cons, szQ_cons, ih]; omega
theorem szQ_len (ps : List Pn) : ps.length ≤ szQ ps := by
  induction ps with
  | nil => exact Nat.le_refl _
  | cons p ps ih => rw [szQ_cons, List.length_cons, szR_eq]; omega
theorem szQ_one (p : Pn) : szQ [p] = szR p.1 p.2.2.2 := rfl
/-- Between two rows. -/
structure OutN (n0 D g0 : Nat) (L : List (VJ D)) (w0 : World) (m : Nat) (Bs : List Nat) (B cap : Nat) (ps : List Pn) (wr : World) : Prop where
  own : OwnV wr 22 n0 B ps.length cap (ps.map Pn.val)
  inB : B ∈ Bs
  root : RootN n0 wr (volN Bs ps) ps D g0 L
  rows : ∀ p ∈ ps, Pn.Row n0 wr p ∧ 0 < p.2.2.2.length
  nod : (ps.map Pn.g).Nodup
  sep : ∀ b ∈ Bs, n0 ≤ b ∧ b < wr.heap.size ∧ b ∉ ps.map Pn.g
  light : ∀ p ∈ ps, ∀ t ∈ p.2.2.2, wtJ p.1 t ≤ 100000
  few : szQ ps = m
  low : Below n0 w0 wr
theorem sum_len (d : Nat) : ∀ l : List (VJ d), l.length ≤ sumN d l
  | [] => Nat.le_refl _
  | t :: l => by
    have h1 := sum_len d l
    have h2 := szN_pos d t
    show l.length + 1 ≤ szN d t + sumN d l
    omega
/-- Between two nodes of a row. -/
structure InN (n0 D g0 : Nat) (L : List (VJ D)) (w0 : World) (m : Nat) (d g c : Nat) (l : List (VJ d)) (Bs : List Nat) (B cap : Nat) (k : Nat) (ps : List Pn) (wr : World) : Prop where
  own : OwnV wr 22 n0 B ps.length cap (ps.map Pn.val)
  inB : B ∈ Bs
  mid : MidN n0 D g0 L d g c l Bs k ps wr
  nod : (g :: ps.map Pn.g).Nodup
  sep : ∀ b ∈ Bs, n0 ≤ b ∧ b < wr.heap.size ∧ b ≠ g ∧ b ∉ ps.map Pn.g
  light : ∀ p ∈ ps, ∀ t ∈ p.2.2.2, wtJ p.1 t ≤ 100000
  few : szQ ps + sumN d (l.drop k) + 1 ≤ m
  low : Below n0 w0 wr
theorem OutN.take {n0 D g0 : Nat} {L : List (VJ D)} {w0 : World} {m : Nat} {Bs : List Nat} {B cap : Nat} {ps : List Pn} {d g c : Nat} {l : List (VJ d)} {wr : World} (h : OutN n0 D g0 L w0 m Bs B cap (ps ++ [⟨d, g, c, l⟩]) wr) : InN n0 D g0 L w0 m d g c l Bs B cap 0 ps wr := by
  have hn := h.nod
  rw [List.map_append, List.map_singleton] at hn
  have hn2 := List.nodup_append.1 hn
  have hgn : g ∉ ps.map Pn.g := fun hm => hn2.2.2 g hm g (by simp [Pn.g]) rfl
  have hsep : ∀ b ∈ Bs, n0 ≤ b ∧ b < wr.heap.size ∧ b ≠ g ∧ b ∉ ps.map Pn.g := fun b hb => by
    obtain ⟨h1, h2, h3⟩ := h.sep b hb
    rw [List.map_append] at h3
    exact ⟨h1, h2, fun e => h3 (List.mem_append_right _ (by rw [e]; simp [Pn.g])), fun hm => h3 (List.mem_append_left _ hm)⟩
  refine ⟨?_, h.inB, MidN.start h.root h.rows (fun hm => ?_), List.nodup_cons.2 ⟨hgn, hn2.1⟩, hsep, fun p hp => h.light p (List.mem_append_left _ hp), ?_, h.low⟩
  · have ho := h.own
    rw [List.map_append, List.map_singleton, List.length_append] at ho
    exact ho.cut
  · rcases List.mem_append.1 hm with hm | hm
    · exact (hsep g hm).2.2.1 rfl
    · exact hgn hm
  · have := h.few
    rw [szQ_app, szQ_one, szR_eq] at this
    rw [List.drop_zero]
    show _ + sumN d l + 1 ≤ m
    have e : szQ ps + (1 + sumN d l) = m := this
    omega
theorem InN.done {n0 D g0 : Nat} {L : List (VJ D)} {w0 : World} {m : Nat} {d g c : Nat} {l : List (VJ d)} {Bs : List Nat} {B cap k : Nat} {ps : List Pn} {wr : World} (h : InN n0 D g0 L w0 m d g c l Bs B cap k ps wr) (hk : l.length ≤ k) : OutN n0 D g0 L w0 (szQ ps) Bs B cap ps wr ∧ szQ ps < m :=
  ⟨⟨h.own, h.inB, h.mid.done hk, h.mid.rows, (List.nodup_cons.1 h.nod).2, fun b hb => ⟨(h.sep b hb).1, (h.sep b hb).2.1, (h.sep b hb).2.2.2⟩, h.light, rfl, h.low⟩, by have := h.few; omega⟩
/-- The next node was made anew: it had no kids. -/
theorem InN.next {n0 D g0 : Nat} {L : List (VJ D)} {w0 : World} {m : Nat} {d g c : Nat} {l : List (VJ d)} {Bs : List Nat} {B cap k : Nat} {ps : List Pn} {w w1 w2 : World} (h : InN n0 D g0 L w0 m d g c l Bs B cap k ps w) (hk : k < l.length) (hn0 : n0 ≤ w.heap.size) (hb1 : Below w.heap.size w w1) (ho : Only g w1 w2) (hm : MidN n0 D g0 L d g c l Bs (k + 1) ps w2) : InN n0 D g0 L w0 m d g c l Bs B cap (k + 1) ps w2 := by
  have hgl : n0 ≤ g := by
    obtain ⟨css, _, c2, _⟩ := h.mid.row
    exact c2.ge
  have hBg := (h.sep B h.inB).2.2.1
  have hs : w.heap.size ≤ w2.heap.size := by rw [ho.size]; exact hb1.size
  refine ⟨(h.own.below hb1 (Nat.le_refl _)).kept (ho.block B hBg), h.inB, hm, h.nod, fun b hb => ⟨(h.sep b hb).1, Nat.lt_of_lt_of_le (h.sep b hb).2.1 hs, (h.sep b hb).2.2⟩, h.light, ?_, (h.low.trans (hb1.mono hn0)).trans (ho.below hgl)⟩
  have := h.few
  rw [sum_drop d l k hk] at this
  omega
/-- The next node was made anew, and its kids' row waits behind the others. -/
theorem InN.push {n0 D g0 : Nat} {L : List (VJ D)} {w0 : World} {m : Nat} {d g c : Nat} {l : List (VJ d)} {Bs : List Nat} {B cap k : Nat} {ps : List Pn} {w w1 w2 w3 : World} {gK cK : Nat} {t : VJ d} (h : InN n0 D g0 L w0 m d g c l Bs B cap k ps w) (hk : k < l.length) (ht : l.getD k (zeroJ d) = t) (hwt : ∀ t' ∈ kidsJ d t, wtJ (d - 1) t' ≤ 100000) (hn0 : n0 ≤ w.heap.size) (hb1 : Below w.heap.size w w1) (ho : Only g w1 w2) (hge : w.heap.size ≤ gK) (hpos : 0 < (kidsJ d t).length) (hm : MidN n0 D g0 L d g c l Bs (k + 1) (ps ++ [⟨d - 1, gK, cK, kidsJ d t⟩]) w2)
    {B' cap' : Nat} (hown : OwnV w3 22 n0 B' (ps.length + 1) cap' (ps.map Pn.val ++ [.slice (some ⟨gK, 0, none⟩) (kidsJ d t).length cK])) (hs3 : w2.heap.size ≤ w3.heap.size) (hk3 : ∀ q, q < w2.heap.size → q ≠ B → w3.heap[q]? = w2.heap[q]?) (hB' : B' = B ∨ w2.heap.size ≤ B') (hlow : Below n0 w2 w3) :
    InN n0 D g0 L w0 m d g c l (B' :: Bs) B' cap' (k + 1) (ps ++ [⟨d - 1, gK, cK, kidsJ d t⟩]) w3 := by
  have hgl : n0 ≤ g := by
    obtain ⟨css, _, c2, _⟩ := h.mid.row
    exact c2.ge
  have hs : w.heap.size ≤ w2.heap.size := by rw [ho.size]; exact hb1.size
  have hmem : ∀ q, q ∈ (ps ++ [(⟨d - 1, gK, cK, kidsJ d t⟩ : Pn)]).map Pn.g → q ∈ ps.map Pn.g ∨ q = gK := fun q hq => by
    rw [List.map_append] at hq
    rcases List.mem_append.1 hq with hq | hq
    · exact .inl hq
    · exact .inr (List.mem_singleton.1 hq)
  have hgK : gK ≠ g := by
    obtain ⟨css, _, c2, _⟩ := h.mid.row
    have := c2.lt; omega
  have hpl : ∀ q ∈ ps.map Pn.g, q < w.heap.size := fun q hq => by
    obtain ⟨p, hp, rfl⟩ := List.mem_map.1 hq
    exact (h.mid.rows p hp).1.lt.1
  have hrl : ∀ q ∈ (ps ++ [(⟨d - 1, gK, cK, kidsJ d t⟩ : Pn)]).map Pn.g, q < w2.heap.size := fun q hq => by
    obtain ⟨p, hp, rfl⟩ := List.mem_map.1 hq
    exact (hm.rows p hp).1.lt.1
  have hg2 : g < w2.heap.size := by
    obtain ⟨css, _, c2, _⟩ := hm.row
    exact c2.lt
  have hsepB : ∀ b ∈ Bs, n0 ≤ b ∧ b ≠ g ∧ b ∉ (ps ++ [(⟨d - 1, gK, cK, kidsJ d t⟩ : Pn)]).map Pn.g := fun b hb => by
    obtain ⟨h1, h2, h3, h4⟩ := h.sep b hb
    refine ⟨h1, h3, fun hq => ?_⟩
    rcases hmem b hq with hq | hq
    · exact h4 hq
    · omega
  refine ⟨?_, List.mem_cons_self, hm.grow hs3 B' (fun q hl hq => hk3 q hl (fun e => hq (by rw [e]; exact h.inB))) hsepB (hB'.imp (fun e => by rw [e]; exact h.inB) id), ?_, fun b hb => ?_, fun p hp => ?_, ?_, ((h.low.trans (hb1.mono hn0)).trans (ho.below hgl)).trans hlow⟩
  · rw [List.length_append, List.map_append]
    exact hown
  · rw [List.map_append, ← List.cons_append]
    refine List.nodup_append.2 ⟨h.nod, by simp, fun a ha b hb e => ?_⟩
    have hb' : b = gK := List.mem_singleton.1 hb
    rcases List.mem_cons.1 ha with ha | ha
    · omega
    · have := hpl a ha; omega
  · rcases List.mem_cons.1 hb with rfl | hb
    · rcases hB' with e | hge'
      · subst e
        obtain ⟨h1, h2, h3⟩ := hsepB _ h.inB
        exact ⟨h1, Nat.lt_of_lt_of_le (Nat.lt_of_lt_of_le (h.sep _ h.inB).2.1 hs) hs3, h2, h3⟩
      · exact ⟨hown.ge, hown.lt, by omega, fun hq => by have := hrl _ hq; omega⟩
    · obtain ⟨h1, h2, h3⟩ := hsepB b hb
      exact ⟨h1, Nat.lt_of_lt_of_le (Nat.lt_of_lt_of_le (h.sep b hb).2.1 hs) hs3, h2, h3⟩
  · rcases List.mem_append.1 hp with hp | hp
    · exact h.light p hp
    · rw [List.mem_singleton.1 hp]; exact hwt
  · have h1 := h.few
    rw [sum_drop d l k hk, ht] at h1
    have h2 := szN_kids d t (by omega)
    rw [szQ_app, szQ_one]
    show szQ ps + szR (d - 1) (kidsJ d t) + sumN d (l.drop (k + 1)) + 1 ≤ m
    omega
end Go.Proofs.YtlgkbdebpnbndaaGreatDoor
