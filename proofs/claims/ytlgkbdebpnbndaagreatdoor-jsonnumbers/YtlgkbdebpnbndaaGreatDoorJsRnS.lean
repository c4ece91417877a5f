
/- How things stand between two nodes while rows are made anew. No walk in it. -/
import Derived.Test.YtlgkbdebpnbndaaGreatDoorJsRnB
namespace Go.Proofs.YtlgkbdebpnbndaaGreatDoor
set_option linter.unusedVariables false
set_option linter.unusedSimpArgs false
open Go.RowKit Go.BigFrame

/-- The blocks that may yet be written: the stack's, and the rows' that wait. -/
def volN (Bs : List Nat) (ps : List Pn) : List Nat := Bs ++ ps.map Pn.g
structure MidN (n0 D g0 : Nat) (L : List (VJ D)) (d g cap : Nat) (l : List (VJ d)) (Bs : List Nat) (k : Nat) (ps : List Pn) (wr : World) : Prop where
  row : ∃ css : List (Array Value), css.length = l.length ∧ OwnK wr 5 25 n0 g l.length cap (vjvs css) ∧ (∀ c ∈ css, c.size = 5) ∧ (∀ j, k ≤ j → j < l.length → VAt (fun q => q < n0) d wr (css.getD j #[]) (l.getD j (zeroJ d))) ∧ (∀ j, j < k → j < l.length → DoneN n0 wr (g :: volN Bs ps) ps d (css.getD j #[]) (l.getD j (zeroJ d)))
  root : RootN n0 wr (g :: volN Bs ps) (⟨d, g, cap, l⟩ :: ps) D g0 L
  rows : ∀ p ∈ ps, Pn.Row n0 wr p ∧ 0 < p.2.2.2.length
  fresh : g ∉ volN Bs ps
/-- Only the stack was written. -/
theorem MidN.grow {n0 D g0 d g cap k : Nat} {L : List (VJ D)} {l : List (VJ d)} {Bs : List Nat} {ps : List Pn} {w w' : World} (h : MidN n0 D g0 L d g cap l Bs k ps w) (hs : w.heap.size ≤ w'.heap.size) (B' : Nat) (hk : ∀ q, q < w.heap.size → q ∉ Bs → w'.heap[q]? = w.heap[q]?) (hB : ∀ b ∈ Bs, n0 ≤ b ∧ b ≠ g ∧ b ∉ ps.map Pn.g) (hB' : B' ∈ Bs ∨ w.heap.size ≤ B') : MidN n0 D g0 L d g cap l (B' :: Bs) k ps w' := by
  obtain ⟨css, c1, c2, c3, c4, c5⟩ := h.row
  have hold : ∀ q, q < n0 → q < w.heap.size → w'.heap[q]? = w.heap[q]? := fun q hq hl => hk q hl (fun hm => by have := (hB q hm).1; omega)
  have hg : w'.heap[g]? = w.heap[g]? := hk g c2.lt (fun hm => (hB g hm).2.1 rfl)
  have hvol : ∀ q, q < w.heap.size → q ∉ g :: volN Bs ps → w'.heap[q]? = w.heap[q]? := fun q hl hn => hk q hl (fun hm => hn (List.mem_cons_of_mem _ (List.mem_append_left _ hm)))
  have hsub : ∀ q, q ∈ g :: volN (B' :: Bs) ps → q < w.heap.size → q ∈ g :: volN Bs ps := fun q hm hl => by
    rcases List.mem_cons.1 hm with rfl | hm
    · exact List.mem_cons_self
    · rcases List.mem_append.1 hm with hm | hm
      · rcases List.mem_cons.1 hm with rfl | hm
        · rcases hB' with hb | hb
          · exact List.mem_cons_of_mem _ (List.mem_append_left _ hb)
          · omega
        · exact List.mem_cons_of_mem _ (List.mem_append_left _ hm)
      · exact List.mem_cons_of_mem _ (List.mem_append_right _ hm)
  refine ⟨⟨css, c1, c2.kept hg, c3, fun j h1 h2 => (c4 j h1 h2).frame hs fun q hq hl => ⟨hold q hq hl, hq⟩, fun j h1 h2 => (c5 j h1 h2).step hs hvol hsub (fun p hp => hp)⟩, ?_, fun p hp => ⟨?_, (h.rows p hp).2⟩, ?_⟩
  · intro W a1 a2 a3
    refine h.root W (Nat.le_trans hs a1) (fun q hq hn => ?_) a3
    have hn' : q ∉ g :: volN (B' :: Bs) ps := fun hm => hn (hsub q hm hq)
    exact (a2 q (Nat.lt_of_lt_of_le hq hs) hn').trans (hvol q hq hn)
  · have hr := (h.rows p hp).1
    exact hr.keep hs (hk _ hr.lt.1 (fun hm => (hB _ hm).2.2 (List.mem_map_of_mem hp))) hold
  · intro hm
    rcases List.mem_append.1 hm with hm | hm
    · rcases List.mem_cons.1 hm with e | hm
      · rcases hB' with hb | hb
        · exact (hB B' hb).2.1 e.symm
        · have := c2.lt; omega
      · exact h.fresh (List.mem_append_left _ hm)
    · exact h.fresh (List.mem_append_right _ hm)
/-- The next value, as it lies. -/
theorem MidN.load {n0 D g0 d g cap k : Nat} {L : List (VJ D)} {l : List (VJ d)} {Bs : List Nat} {ps : List Pn} {w : World} (h : MidN n0 D g0 L d g cap l Bs k ps w) (hk : k < l.length) : ∃ a b c e f, w.cell? ⟨g, k * 5, none⟩ = some a ∧ w.cell? ⟨g, k * 5 + 1, none⟩ = some b ∧ w.cell? ⟨g, k * 5 + 2, none⟩ = some c ∧ w.cell? ⟨g, k * 5 + 3, none⟩ = some e ∧ w.cell? ⟨g, k * 5 + 4, none⟩ = some f ∧ VAt (fun q => q < n0) d w #[a, b, c, e, f] (l.getD k (zeroJ d)) := by
  obtain ⟨css, c1, c2, c3, c4, c5⟩ := h.row
  have hn := c4 k (Nat.le_refl _) hk
  have hat := fun i (hi : i < 5) => vjvs_at css k i c3 (by omega) hi
  obtain ⟨a, b, c, e, f, he⟩ : ∃ a b c e f, css.getD k #[] = #[a, b, c, e, f] := by
    obtain ⟨aA, ac, kA, kc, e1, _⟩ := hn.parts
    exact ⟨_, _, _, _, _, e1⟩
  rw [he] at hn hat
  exact ⟨a, b, c, e, f, c2.at _ _ (hat 0 (by decide)), c2.at _ _ (hat 1 (by decide)), c2.at _ _ (hat 2 (by decide)), c2.at _ _ (hat 3 (by decide)), c2.at _ _ (hat 4 (by decide)), hn⟩
/-- All nodes of the row are done: so is the row. -/
theorem MidN.done {n0 D g0 d g cap k : Nat} {L : List (VJ D)} {l : List (VJ d)} {Bs : List Nat} {ps : List Pn} {w : World} (h : MidN n0 D g0 L d g cap l Bs k ps w) (hk : l.length ≤ k) : RootN n0 w (volN Bs ps) ps D g0 L := by
  obtain ⟨css, c1, c2, c3, c4, c5⟩ := h.row
  exact h.root.pop h.fresh c1 c2 c3 fun j hj => c5 j (by omega) hj
/-- A row that waited is taken. -/
theorem MidN.start {n0 D g0 d g cap : Nat} {L : List (VJ D)} {l : List (VJ d)} {Bs : List Nat} {ps : List Pn} {w : World} (hroot : RootN n0 w (volN Bs (ps ++ [⟨d, g, cap, l⟩])) (ps ++ [⟨d, g, cap, l⟩]) D g0 L) (hrows : ∀ p ∈ ps ++ [(⟨d, g, cap, l⟩ : Pn)], Pn.Row n0 w p ∧ 0 < p.2.2.2.length) (hfresh : g ∉ volN Bs ps) : MidN n0 D g0 L d g cap l Bs 0 ps w := by
  obtain ⟨css, c1, c2, c3, c4⟩ := (hrows ⟨d, g, cap, l⟩ (by simp)).1
  refine ⟨⟨css, c1, c2, c3, fun j _ hj => c4 j hj, fun j hj _ => by omega⟩, ?_, fun p hp => hrows p (List.mem_append_left _ hp), hfresh⟩
  refine hroot.perm (fun q hq => ?_) (fun q hq => ?_) (fun p hp => ?_)
  · unfold volN at hq
    rw [List.map_append] at hq
    rcases List.mem_append.1 hq with hq | hq
    · exact List.mem_cons_of_mem _ (List.mem_append_left _ hq)
    · rcases List.mem_append.1 hq with hq | hq
      · exact List.mem_cons_of_mem _ (List.mem_append_right _ hq)
      · rw [List.map_singleton, List.mem_singleton] at hq
        rw [hq]; exact List.mem_cons_self
  · unfold volN
    rw [List.map_append]
    rcases List.mem_cons.1 hq with rfl | hq
    · exact List.mem_append_right _ (List.mem_append_right _ (by simp [Pn.g]))
    · rcases List.mem_append.1 hq with hq | hq
      · exact List.mem_append_left _ hq
      · exact List.mem_append_right _ (List.mem_append_left _ hq)
  · rcases List.mem_append.1 hp with hp | hp
    · exact List.mem_cons_of_mem _ hp
    · rw [List.mem_singleton.1 hp]; exact List.mem_cons_self
theorem vjvs_set (css : List (Array Value)) (k : Nat) (x : Array Value) (rest : List Value) (hk : k < css.length) (hz : ∀ c ∈ css, c.size = 5) (hx : x.size = 5) : over (vjvs css ++ rest).toArray (k * 5) x.toList = (vjvs (css.set k x) ++ rest).toArray := by
  have e1 : css = css.take k ++ css[k] :: css.drop (k + 1) := by rw [← List.drop_eq_getElem_cons hk, List.take_append_drop]
  have e2 : css.set k x = css.take k ++ x :: css.drop (k + 1) := List.set_eq_take_append_cons_drop.trans (if_pos hk)
  have hl : (vjvs (css.take k)).length = k * 5 := by
    rw [vjvs_len _ (fun c hc => hz c (List.mem_of_mem_take hc)), List.length_take, Nat.min_eq_left (by omega)]
  have n1 : vjvs css ++ rest = vjvs (css.take k) ++ (css[k].toList ++ (vjvs (css.drop (k + 1)) ++ rest)) := by
    conv => lhs; rw [e1]
    rw [vjvs_app]
    unfold vjvs
    rw [List.flatMap_cons]
    simp only [List.append_assoc]
  have n2 : vjvs (css.set k x) ++ rest = vjvs (css.take k) ++ (x.toList ++ (vjvs (css.drop (k + 1)) ++ rest)) := by
    rw [e2, vjvs_app]
    unfold vjvs
    rw [List.flatMap_cons]
    simp only [List.append_assoc]
  rw [n1, n2, ← hl]
  exact over_mid _ _ _ _ (by rw [Array.length_toList, Array.length_toList, hx, hz _ (List.getElem_mem hk)])
theorem getD_set8 (css : List (Array Value)) (k j : Nat) (x : Array Value) (hk : k < css.length) : (css.set k x).getD j #[] = if j = k then x else css.getD j #[] := by
  rw [List.getD_eq_getElem?_getD, List.getD_eq_getElem?_getD, List.getElem?_set]
  by_cases h : k = j
  · subst h
    rw [if_pos rfl, if_pos hk, if_pos rfl]; rfl
  · rw [if_neg h, if_neg (fun e => h e.symm)]
/-- The next node was made anew and put in its place. -/
theorem MidN.renew {n0 D g0 d g cap k : Nat} {L : List (VJ D)} {l : List (VJ d)} {Bs : List Nat} {ps : List Pn} {w w1 w2 : World} {t : VJ d} {v kv : Value} (h : MidN n0 D g0 L d g cap l Bs k ps w) (hk : k < l.length) (ht : l.getD k (zeroJ d) = t) (hn0 : n0 ≤ w.heap.size) (hBs : ∀ b ∈ Bs, b < w.heap.size)
    (hb1 : Below w.heap.size w w1) (hv : OwnNm (fun q => w.heap.size ≤ q) w1 v (labJ d t).2.2.2) (hkv : KidsO n0 w.heap.size w1 (d - 1) kv (kidsJ d t)) (ho : Only g w1 w2)
    (hst : ∀ rc, w1.heap[g]? = some (.cells rc 25 (0, 0)) → w2.heap[g]? = some (.cells (over rc (k * 5) #[.int .i64 (labJ d t).1, .int .i64 (labJ d t).2.1, .string (asS (labJ d t).2.2.1), kv, v].toList) 25 (0, 0))) :
    w2.cell? ⟨g, k * 5 + 3, none⟩ = some kv ∧ ((((kidsJ d t).length = 0 ∧ kv = .slice none 0 0) ∧ MidN n0 D g0 L d g cap l Bs (k + 1) ps w2) ∨ ∃ gK cK, kv = .slice (some ⟨gK, 0, none⟩) (kidsJ d t).length cK ∧ 0 < (kidsJ d t).length ∧ w.heap.size ≤ gK ∧ MidN n0 D g0 L d g cap l Bs (k + 1) (ps ++ [⟨d - 1, gK, cK, kidsJ d t⟩]) w2) := by
  obtain ⟨css, c1, c2, c3, c4, c5⟩ := h.row
  have hgl := c2.lt
  have hs12 : w1.heap.size ≤ w2.heap.size := by rw [ho.size]; exact Nat.le_refl _
  have hs : w.heap.size ≤ w2.heap.size := Nat.le_trans hb1.size hs12
  have hkc : k < css.length := by omega
  have hk2 : ∀ q, q < w.heap.size → q ≠ g → w2.heap[q]? = w.heap[q]? := fun q hl hq => (ho.block q hq).trans (hb1.block q hl)
  have hgn : n0 ≤ g := c2.ge
  have hold : ∀ q, q < n0 → q < w.heap.size → w2.heap[q]? = w.heap[q]? := fun q hq hl => hk2 q hl (by omega)
  obtain ⟨aA, ac, hva, _⟩ := hv.shape
  have hz' : (#[.int .i64 (labJ d t).1, .int .i64 (labJ d t).2.1, .string (asS (labJ d t).2.2.1), kv, v] : Array Value).size = 5 := rfl
  have hrow2 : OwnK w2 5 25 n0 g l.length cap (vjvs (css.set k #[.int .i64 (labJ d t).1, .int .i64 (labJ d t).2.1, .string (asS (labJ d t).2.2.1), kv, v])) := by
    obtain ⟨rest, r1, r2, r3⟩ := (c2.kept (hb1.block g hgl)).row
    refine ⟨c2.ge, ?_, rest, ?_, r2, r3⟩
    · rw [vjvs_len _ (fun c hc => ?_), List.length_set, c1]
      rcases List.mem_or_eq_of_mem_set hc with hc | rfl
      · exact c3 c hc
      · rfl
    · rw [hst _ r1, vjvs_set css k _ rest hkc c3 hz']
  have hsz : ∀ c ∈ css.set k #[.int .i64 (labJ d t).1, .int .i64 (labJ d t).2.1, .string (asS (labJ d t).2.2.1), kv, v], c.size = 5 := fun c hc => by
    rcases List.mem_or_eq_of_mem_set hc with hc | rfl
    · exact c3 c hc
    · rfl
  have hcell : w2.cell? ⟨g, k * 5 + 3, none⟩ = some kv := by
    refine hrow2.at _ _ ?_
    rw [vjvs_at _ k 3 hsz (by rw [List.length_set]; exact hkc) (by decide), getD_set8 css k k _ hkc, if_pos rfl]
    rfl
  have hAt : NmsP (fun q => w.heap.size ≤ q) w2 aA (labJ d t).2.2.2 := by
    obtain ⟨A', c', e', h'⟩ := (hv.only ho hgl).shape
    rw [hva] at e'
    injection e' with e1 e2 e3
    rw [e1]
    exact h'
  have hblk : ∀ x, aA = some x → ∃ rc, w1.heap[x.block]? = some (.cells rc 9 (0, 0)) := fun x hx => by
    rcases hv with ⟨e, _⟩ | ⟨q, cp, e, h2, h3⟩
    · rw [hva] at e
      injection e with e1 e2 e3
      rw [e1] at hx; cases hx
    · rw [hva] at e
      injection e with e1 e2 e3
      rw [e1] at hx
      cases hx
      obtain ⟨rest, r1, _⟩ := h3.row
      exact ⟨_, r1⟩
  have hpl : ∀ p ∈ ps, Pn.g p < w.heap.size := fun p hp => (h.rows p hp).1.lt.1
  have hvl : ∀ q, q ∈ volN Bs ps → q < w.heap.size := fun q hq => by
    rcases List.mem_append.1 hq with hq | hq
    · exact hBs q hq
    · obtain ⟨p, hp, rfl⟩ := List.mem_map.1 hq
      exact hpl p hp
  have hvol : ∀ q, q < w.heap.size → q ∉ g :: volN Bs ps → w2.heap[q]? = w.heap[q]? := fun q hl hn => hk2 q hl (fun e => hn (by rw [e]; exact List.mem_cons_self))
  have hrows : ∀ p ∈ ps, Pn.Row n0 w2 p ∧ 0 < p.2.2.2.length := fun p hp => by
    have hr := (h.rows p hp).1
    refine ⟨hr.keep hs (hk2 _ hr.lt.1 (fun e => h.fresh (List.mem_append_right _ (List.mem_map.2 ⟨p, hp, e⟩)))) hold, (h.rows p hp).2⟩
  refine ⟨hcell, ?_⟩
  rcases hkv with ⟨hk0, hkn⟩ | ⟨gK, cK, hke, hge, hpos, hrowK⟩
  · refine .inl ⟨⟨hk0, hkn⟩, ⟨⟨_, by rw [List.length_set, c1], hrow2, hsz, fun j h1 h2 => ?_, fun j h1 h2 => ?_⟩, h.root.step hs hvol, hrows, h.fresh⟩⟩
    · rw [getD_set8 css k j _ hkc, if_neg (by omega)]
      exact (c4 j (by omega) h2).frame hs fun q hq hl => ⟨hold q hq hl, hq⟩
    · rw [getD_set8 css k j _ hkc]
      by_cases hj : j = k
      · rw [if_pos hj, hj, ht]
        refine ⟨none, 0, aA, ac, ?_, fun h0 => ?_, by omega, .inl hk0⟩
        · rw [hva, hkn]
          unfold vcs
          rw [hk0]
        · obtain ⟨q, o, e, h1, h2, h3⟩ := hAt h0
          refine ⟨q, o, e, ⟨fun hm => ?_, by omega⟩, h2, h3⟩
          rcases List.mem_cons.1 hm with e | hm
          · omega
          · have := hvl _ hm; omega
      · rw [if_neg hj]
        exact (c5 j (by omega) h2).step hs hvol (fun q hq _ => hq) (fun p hp => hp)
  · have hne : ∀ x, aA = some x → x.block ≠ gK := fun x hx e => by
      obtain ⟨rc, h1⟩ := hblk x hx
      obtain ⟨cssK, _, h2, _⟩ := hrowK
      obtain ⟨rest, r1, _⟩ := h2.row
      rw [e, r1] at h1
      cases h1
    have hgK : gK ≠ g := by omega
    have hrowK2 : RowO n0 w2 (d - 1) gK cK (kidsJ d t) := hrowK.keep hs12 (ho.block gK hgK) (fun q hq _ => ho.block q (by omega))
    have hvol2 : volN Bs (ps ++ [⟨d - 1, gK, cK, kidsJ d t⟩]) = volN Bs ps ++ [gK] := by
      unfold volN
      rw [List.map_append, ← List.append_assoc]
      rfl
    have hsub : ∀ q, q ∈ g :: volN Bs (ps ++ [⟨d - 1, gK, cK, kidsJ d t⟩]) → q < w.heap.size → q ∈ g :: volN Bs ps := fun q hm hl => by
      rw [hvol2] at hm
      rcases List.mem_cons.1 hm with rfl | hm
      · exact List.mem_cons_self
      · rcases List.mem_append.1 hm with hm | hm
        · exact List.mem_cons_of_mem _ hm
        · rw [List.mem_singleton.1 hm] at hl; omega
    refine .inr ⟨gK, cK, hke, hpos, hge, ⟨⟨_, by rw [List.length_set, c1], hrow2, hsz, fun j h1 h2 => ?_, fun j h1 h2 => ?_⟩, ?_, fun p hp => ?_, ?_⟩⟩
    · rw [getD_set8 css k j _ hkc, if_neg (by omega)]
      exact (c4 j (by omega) h2).frame hs fun q hq hl => ⟨hold q hq hl, hq⟩
    · rw [getD_set8 css k j _ hkc]
      by_cases hj : j = k
      · rw [if_pos hj, hj, ht]
        refine ⟨some ⟨gK, 0, none⟩, cK, aA, ac, ?_, fun h0 => ?_, hrowK.lt.2.2, .inr ⟨gK, cK, rfl, by simp⟩⟩
        · rw [hva, hke]
          rfl
        · obtain ⟨q, o, e, h1, h2, h3⟩ := hAt h0
          refine ⟨q, o, e, ⟨fun hm => ?_, by omega⟩, h2, h3⟩
          rcases List.mem_cons.1 hm with e2 | hm
          · omega
          · rw [hvol2] at hm
            rcases List.mem_append.1 hm with hm | hm
            · have := hvl _ hm; omega
            · exact hne _ e (List.mem_singleton.1 hm)
      · rw [if_neg hj]
        exact (c5 j (by omega) h2).step hs hvol hsub (fun p hp => List.mem_append_left _ hp)
    · refine (h.root.push ⟨d - 1, gK, cK, kidsJ d t⟩ gK w2 hs hvol hge).perm (fun q hq => ?_) (fun q hq => ?_) (fun p hp => ?_)
      · rw [hvol2]
        rcases List.mem_cons.1 hq with rfl | hq
        · exact List.mem_cons_of_mem _ (List.mem_append_right _ (by simp))
        · rcases List.mem_cons.1 hq with rfl | hq
          · exact List.mem_cons_self
          · exact List.mem_cons_of_mem _ (List.mem_append_left _ hq)
      · rw [hvol2] at hq
        rcases List.mem_cons.1 hq with rfl | hq
        · exact List.mem_cons_of_mem _ List.mem_cons_self
        · rcases List.mem_append.1 hq with hq | hq
          · exact List.mem_cons_of_mem _ (List.mem_cons_of_mem _ hq)
          · rw [List.mem_singleton.1 hq]; exact List.mem_cons_self
      · rcases List.mem_cons.1 hp with rfl | hp
        · simp
        · rcases List.mem_cons.1 hp with rfl | hp
          · exact List.mem_cons_self
          · exact List.mem_cons_of_mem _ (List.mem_append_left _ hp)
    · rcases List.mem_append.1 hp with hp | hp
      · exact hrows p hp
      · rw [List.mem_singleton.1 hp]
        exact ⟨hrowK2, hpos⟩
    · rw [hvol2]
      intro hm
      rcases List.mem_append.1 hm with hm | hm
      · exact h.fresh hm
      · exact hgK (List.mem_singleton.1 hm).symm
end Go.Proofs.YtlgkbdebpnbndaaGreatDoor
