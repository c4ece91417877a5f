import Derived.Test.YtgoiafndapemjaaGreatDoorQ36
set_option linter.unusedVariables false
set_option linter.unusedSimpArgs false
set_option maxHeartbeats 1000000
namespace Go.Proofs.YtgoiafndapemjaaGreatDoor
open Go.RowKit Go.BigFrame
def volN (Bs : List Nat) (ps : List Pn) : List Nat := Bs ++ ps.map Pn.g
structure MidN (n0 D g0 : Nat) (L : List (Tr D)) (d g cap : Nat) (l : List (Tr d)) (Bs : List Nat) (k : Nat) (ps : List Pn) (wr : World) : Prop where
 row : ∃ css : List (Array Value), css.length = l.length ∧ OwnK wr 4 25 n0 g l.length cap (ndvs css) ∧ (∀ c ∈ css, c.size = 4) ∧ (∀ j, k ≤ j → j < l.length → NdAt (fun q => q < n0) d wr (css.getD j #[]) (l.getD j (zeroT d))) ∧ (∀ j, j < k → j < l.length → DoneN wr (g :: volN Bs ps) ps d (css.getD j #[]) (l.getD j (zeroT d)))
 root : RootN wr (g :: volN Bs ps) (⟨d, g, cap, l⟩ :: ps) D g0 L
 rows : ∀ p ∈ ps, Pn.Row n0 wr p ∧ 0 < p.2.2.2.length
 fresh : g ∉ volN Bs ps
theorem MidN.grow {n0 D g0 d g cap k : Nat} {L : List (Tr D)} {l : List (Tr d)} {Bs : List Nat} {ps : List Pn} {w w' : World} (h : MidN n0 D g0 L d g cap l Bs k ps w) (hs : w.heap.size ≤ w'.heap.size) (B' : Nat) (hk : ∀ q, q < w.heap.size → q ∉ Bs → w'.heap[q]? = w.heap[q]?) (hB : ∀ b ∈ Bs, n0 ≤ b ∧ b ≠ g ∧ b ∉ ps.map Pn.g) (hB' : B' ∈ Bs ∨ w.heap.size ≤ B') : MidN n0 D g0 L d g cap l (B' :: Bs) k ps w' := by
 obtain ⟨css, c1, c2, c3, c4, c5⟩ := h.row
 have hold : ∀ q, q < n0 → q < w.heap.size → w'.heap[q]? = w.heap[q]? := fun q hq hl => hk q hl (fun hm => by have := (hB q hm).1; omega)
 have hg : w'.heap[g]? = w.heap[g]? := hk g c2.lt (fun hm => (hB g hm).2.1 rfl)
 have hvol : ∀ q, q < w.heap.size → q ∉ g :: volN Bs ps → w'.heap[q]? = w.heap[q]? := fun q hl hn => hk q hl (fun hm => hn (List.mem_cons_of_mem _ (List.mem_append_left _ hm)))
 have hsub : ∀ q, q ∈ g :: volN (B' :: Bs) ps → q < w.heap.size → q ∈ g :: volN Bs ps := fun q hm hl => by
  rcases List.mem_cons.1 hm with rfl | hm
  ·exact List.mem_cons_self
  ·rcases List.mem_append.1 hm with hm | hm
   ·rcases List.mem_cons.1 hm with rfl | hm
    ·rcases hB' with hb | hb
     ·exact List.mem_cons_of_mem _ (List.mem_append_left _ hb)
     ·omega
    ·exact List.mem_cons_of_mem _ (List.mem_append_left _ hm)
   ·exact List.mem_cons_of_mem _ (List.mem_append_right _ hm)
 refine ⟨⟨css, c1, c2.kept hg, c3, fun j h1 h2 => (c4 j h1 h2).frame hs fun q hq hl => ⟨hold q hq hl, hq⟩, fun j h1 h2 => (c5 j h1 h2).step hs hvol hsub (fun p hp => hp)⟩, ?_, fun p hp => ⟨?_, (h.rows p hp).2⟩, ?_⟩
 ·intro W a1 a2 a3
  refine h.root W (Nat.le_trans hs a1) (fun q hq hn => ?_) a3
  have hn' : q ∉ g :: volN (B' :: Bs) ps := fun hm => hn (hsub q hm hq)
  exact (a2 q (Nat.lt_of_lt_of_le hq hs) hn').trans (hvol q hq hn)
 ·have hr := (h.rows p hp).1
  exact hr.keep hs (hk _ hr.lt.1 (fun hm => (hB _ hm).2.2 (List.mem_map_of_mem hp))) hold
 ·intro hm
  rcases List.mem_append.1 hm with hm | hm
  ·rcases List.mem_cons.1 hm with e | hm
   ·rcases hB' with hb | hb
    ·exact (hB B' hb).2.1 e.symm
    ·have := c2.lt; omega
   ·exact h.fresh (List.mem_append_left _ hm)
  ·exact h.fresh (List.mem_append_right _ hm)
theorem MidN.load {n0 D g0 d g cap k : Nat} {L : List (Tr D)} {l : List (Tr d)} {Bs : List Nat} {ps : List Pn} {w : World} (h : MidN n0 D g0 L d g cap l Bs k ps w) (hk : k < l.length) : ∃ a b c e, w.cell? ⟨g, k * 4, none⟩ = some a ∧ w.cell? ⟨g, k * 4 + 1, none⟩ = some b ∧ w.cell? ⟨g, k * 4 + 2, none⟩ = some c ∧ w.cell? ⟨g, k * 4 + 3, none⟩ = some e ∧ NdAt (fun q => q < n0) d w #[a, b, c, e] (l.getD k (zeroT d)) := by
 obtain ⟨css, c1, c2, c3, c4, c5⟩ := h.row
 have hn := c4 k (Nat.le_refl _) hk
 have hat := fun i (hi : i < 4) => ndvs_at css k i c3 (by omega) hi
 obtain ⟨a, b, c, e, he⟩ : ∃ a b c e, css.getD k #[] = #[a, b, c, e] := by
  obtain ⟨aA, ac, kA, kc, e1, _⟩ := hn.parts
  exact ⟨_, _, _, _, e1⟩
 rw [he] at hn hat
 exact ⟨a, b, c, e, c2.at _ _ (hat 0 (by decide)), c2.at _ _ (hat 1 (by decide)), c2.at _ _ (hat 2 (by decide)), c2.at _ _ (hat 3 (by decide)), hn⟩
theorem MidN.done {n0 D g0 d g cap k : Nat} {L : List (Tr D)} {l : List (Tr d)} {Bs : List Nat} {ps : List Pn} {w : World} (h : MidN n0 D g0 L d g cap l Bs k ps w) (hk : l.length ≤ k) : RootN w (volN Bs ps) ps D g0 L := by
 obtain ⟨css, c1, c2, c3, c4, c5⟩ := h.row
 exact h.root.pop h.fresh c1 c2 c3 fun j hj => c5 j (by omega) hj
theorem MidN.start {n0 D g0 d g cap : Nat} {L : List (Tr D)} {l : List (Tr d)} {Bs : List Nat} {ps : List Pn} {w : World} (hroot : RootN w (volN Bs (ps ++ [⟨d, g, cap, l⟩])) (ps ++ [⟨d, g, cap, l⟩]) D g0 L) (hrows : ∀ p ∈ ps ++ [(⟨d, g, cap, l⟩ : Pn)], Pn.Row n0 w p ∧ 0 < p.2.2.2.length) (hfresh : g ∉ volN Bs ps) : MidN n0 D g0 L d g cap l Bs 0 ps w := by
 obtain ⟨css, c1, c2, c3, c4⟩ := (hrows ⟨d, g, cap, l⟩ (by simp)).1
 refine ⟨⟨css, c1, c2, c3, fun j _ hj => c4 j hj, fun j hj _ => by omega⟩, ?_, fun p hp => hrows p (List.mem_append_left _ hp), hfresh⟩
 refine hroot.perm (fun q hq => ?_) (fun q hq => ?_) (fun p hp => ?_)
 ·unfold volN at hq
  rw [List.map_append] at hq
  rcases List.mem_append.1 hq with hq | hq
  ·exact List.mem_cons_of_mem _ (List.mem_append_left _ hq)
  ·rcases List.mem_append.1 hq with hq | hq
   ·exact List.mem_cons_of_mem _ (List.mem_append_right _ hq)
   ·rw [List.map_singleton, List.mem_singleton] at hq
    rw [hq]; exact List.mem_cons_self
 ·unfold volN
  rw [List.map_append]
  rcases List.mem_cons.1 hq with rfl | hq
  ·exact List.mem_append_right _ (List.mem_append_right _ (by simp [Pn.g]))
  ·rcases List.mem_append.1 hq with hq | hq
   ·exact List.mem_append_left _ hq
   ·exact List.mem_append_right _ (List.mem_append_left _ hq)
 ·rcases List.mem_append.1 hp with hp | hp
  ·exact List.mem_cons_of_mem _ hp
  ·rw [List.mem_singleton.1 hp]; exact List.mem_cons_self
theorem ndvs_set (css : List (Array Value)) (k : Nat) (x : Array Value) (rest : List Value) (hk : k < css.length) (hz : ∀ c ∈ css, c.size = 4) (hx : x.size = 4) : over (ndvs css ++ rest).toArray (k * 4) x.toList = (ndvs (css.set k x) ++ rest).toArray := by
 have e1 : css = css.take k ++ css[k] :: css.drop (k + 1) := by rw [← List.drop_eq_getElem_cons hk, List.take_append_drop]
 have e2 : css.set k x = css.take k ++ x :: css.drop (k + 1) := List.set_eq_take_append_cons_drop.trans (if_pos hk)
 have hl : (ndvs (css.take k)).length = k * 4 := by
  rw [ndvs_len _ (fun c hc => hz c (List.mem_of_mem_take hc)), List.length_take, Nat.min_eq_left (by omega)]
 have n1 : ndvs css ++ rest = ndvs (css.take k) ++ (css[k].toList ++ (ndvs (css.drop (k + 1)) ++ rest)) := by
  conv => lhs; rw [e1]
  rw [ndvs_app]
  unfold ndvs
  rw [List.flatMap_cons]
  simp only [List.append_assoc]
 have n2 : ndvs (css.set k x) ++ rest = ndvs (css.take k) ++ (x.toList ++ (ndvs (css.drop (k + 1)) ++ rest)) := by
  rw [e2, ndvs_app]
  unfold ndvs
  rw [List.flatMap_cons]
  simp only [List.append_assoc]
 rw [n1, n2, ← hl]
 exact over_mid _ _ _ _ (by rw [Array.length_toList, Array.length_toList, hx, hz _ (List.getElem_mem hk)])
theorem getD_set8 (css : List (Array Value)) (k j : Nat) (x : Array Value) (hk : k < css.length) : (css.set k x).getD j #[] = if j = k then x else css.getD j #[] := by
 rw [List.getD_eq_getElem?_getD, List.getD_eq_getElem?_getD, List.getElem?_set]
 by_cases h : k = j
 ·subst h
  rw [if_pos rfl, if_pos hk, if_pos rfl]; rfl
 ·rw [if_neg h, if_neg (fun e => h e.symm)]
theorem MidN.renew {n0 D g0 d g cap k : Nat} {L : List (Tr D)} {l : List (Tr d)} {Bs : List Nat} {ps : List Pn} {w w1 w2 : World} {t : Tr d} {v kv : Value} (h : MidN n0 D g0 L d g cap l Bs k ps w) (hk : k < l.length) (ht : l.getD k (zeroT d) = t) (hn0 : n0 ≤ w.heap.size) (hBs : ∀ b ∈ Bs, b < w.heap.size)
  (hb1 : Below w.heap.size w w1) (hv : OwnH w1 w.heap.size v (lab d t).2.1) (hkv : KidsO n0 w.heap.size w1 (d - 1) kv (kidsT d t)) (ho : Only g w1 w2)
  (hst : ∀ rc, w1.heap[g]? = some (.cells rc 25 (0, 0)) → w2.heap[g]? = some (.cells (over rc (k * 4) #[.string (asS (nmT d t)), v, .string (asS (txT d t)), kv].toList) 25 (0, 0))) :
  w2.cell? ⟨g, k * 4 + 3, none⟩ = some kv ∧ ((((kidsT d t).length = 0 ∧ kv = .slice none 0 0) ∧ MidN n0 D g0 L d g cap l Bs (k + 1) ps w2) ∨ ∃ gK cK, kv = .slice (some ⟨gK, 0, none⟩) (kidsT d t).length cK ∧ 0 < (kidsT d t).length ∧ w.heap.size ≤ gK ∧ MidN n0 D g0 L d g cap l Bs (k + 1) (ps ++ [⟨d - 1, gK, cK, kidsT d t⟩]) w2) := by
 obtain ⟨css, c1, c2, c3, c4, c5⟩ := h.row
 have hgl := c2.lt
 have hs12 : w1.heap.size ≤ w2.heap.size := by rw [ho.size]; exact Nat.le_refl _
 have hs : w.heap.size ≤ w2.heap.size := Nat.le_trans hb1.size hs12
 have hkc : k < css.length := by omega
 have hk2 : ∀ q, q < w.heap.size → q ≠ g → w2.heap[q]? = w.heap[q]? := fun q hl hq => (ho.block q hq).trans (hb1.block q hl)
 have hgn : n0 ≤ g := c2.ge
 have hold : ∀ q, q < n0 → q < w.heap.size → w2.heap[q]? = w.heap[q]? := fun q hq hl => hk2 q hl (by omega)
 obtain ⟨aA, ac, hva⟩ := hv.slice
 have hz' : (#[.string (asS (nmT d t)), v, .string (asS (txT d t)), kv] : Array Value).size = 4 := rfl
 have hrow2 : OwnK w2 4 25 n0 g l.length cap (ndvs (css.set k #[.string (asS (nmT d t)), v, .string (asS (txT d t)), kv])) := by
  obtain ⟨rest, r1, r2, r3⟩ := (c2.kept (hb1.block g hgl)).row
  refine ⟨c2.ge, ?_, rest, ?_, r2, r3⟩
  ·rw [ndvs_len _ (fun c hc => ?_), List.length_set, c1]
   rcases List.mem_or_eq_of_mem_set hc with hc | rfl
   ·exact c3 c hc
   ·rfl
  ·rw [hst _ r1, ndvs_set css k _ rest hkc c3 hz']
 have hsz : ∀ c ∈ css.set k #[.string (asS (nmT d t)), v, .string (asS (txT d t)), kv], c.size = 4 := fun c hc => by
  rcases List.mem_or_eq_of_mem_set hc with hc | rfl
  ·exact c3 c hc
  ·rfl
 have hcell : w2.cell? ⟨g, k * 4 + 3, none⟩ = some kv := by
  refine hrow2.at _ _ ?_
  rw [ndvs_at _ k 3 hsz (by rw [List.length_set]; exact hkc) (by decide), getD_set8 css k k _ hkc, if_pos rfl]
  rfl
 have hH2 : OwnH w2 w.heap.size v (lab d t).2.1 := hv.only ho hgl
 have hAt : HdsAt w2 aA (lab d t).2.1 := by
  obtain ⟨A', c', e', h'⟩ := hH2.hds
  rw [hva] at e'
  cases e'
  exact h'
 have hblk : ∀ x, aA = some x → w.heap.size ≤ x.block ∧ ∃ rc, w1.heap[x.block]? = some (.cells rc 56 (0, 0)) := fun x hx => by
  rcases hv with ⟨e, _⟩ | ⟨q, cp, e, h2⟩
  ·rw [hva] at e
   injection e with e1 e2 e3
   rw [e1] at hx; cases hx
  ·rw [hva] at e
   injection e with e1 e2 e3
   rw [e1] at hx
   cases hx
   obtain ⟨rest, r1, _⟩ := h2.row
   exact ⟨h2.ge, _, r1⟩
 have hpl : ∀ p ∈ ps, Pn.g p < w.heap.size := fun p hp => (h.rows p hp).1.lt.1
 have hvl : ∀ q, q ∈ volN Bs ps → q < w.heap.size := fun q hq => by
  rcases List.mem_append.1 hq with hq | hq
  ·exact hBs q hq
  ·obtain ⟨p, hp, rfl⟩ := List.mem_map.1 hq
   exact hpl p hp
 have hvol : ∀ q, q < w.heap.size → q ∉ g :: volN Bs ps → w2.heap[q]? = w.heap[q]? := fun q hl hn => hk2 q hl (fun e => hn (by rw [e]; exact List.mem_cons_self))
 have hrows : ∀ p ∈ ps, Pn.Row n0 w2 p ∧ 0 < p.2.2.2.length := fun p hp => by
  have hr := (h.rows p hp).1
  refine ⟨hr.keep hs (hk2 _ hr.lt.1 (fun e => h.fresh (List.mem_append_right _ (List.mem_map.2 ⟨p, hp, e⟩)))) hold, (h.rows p hp).2⟩
 refine ⟨hcell, ?_⟩
 rcases hkv with ⟨hk0, hkn⟩ | ⟨gK, cK, hke, hge, hpos, hrowK⟩
 ·refine .inl ⟨⟨hk0, hkn⟩, ⟨⟨_, by rw [List.length_set, c1], hrow2, hsz, fun j h1 h2 => ?_, fun j h1 h2 => ?_⟩, h.root.step hs hvol, hrows, h.fresh⟩⟩
  ·rw [getD_set8 css k j _ hkc, if_neg (by omega)]
   exact (c4 j (by omega) h2).frame hs fun q hq hl => ⟨hold q hq hl, hq⟩
  ·rw [getD_set8 css k j _ hkc]
   by_cases hj : j = k
   ·rw [if_pos hj, hj, ht]
    refine ⟨aA, ac, none, 0, ?_, ⟨hAt, fun _ x hx hm => ?_⟩, by omega, .inl hk0⟩
    ·rw [hva, hkn]
     unfold ndcs
     rw [hk0]
     rfl
    ·have := (hblk x hx).1
     rcases List.mem_cons.1 hm with e | hm
     ·omega
     ·have := hvl _ hm; omega
   ·rw [if_neg hj]
    exact (c5 j (by omega) h2).step hs hvol (fun q hq _ => hq) (fun p hp => hp)
 ·have hne : ∀ x, aA = some x → x.block ≠ gK := fun x hx e => by
   obtain ⟨_, rc, h1⟩ := hblk x hx
   obtain ⟨cssK, _, h2, _⟩ := hrowK
   obtain ⟨rest, r1, _⟩ := h2.row
   rw [e, r1] at h1
   cases h1
  have hgK : gK ≠ g := by omega
  have hrowK2 : RowO n0 w2 (d - 1) gK cK (kidsT d t) := hrowK.keep hs12 (ho.block gK hgK) (fun q hq _ => ho.block q (by omega))
  have hvol2 : volN Bs (ps ++ [⟨d - 1, gK, cK, kidsT d t⟩]) = volN Bs ps ++ [gK] := by
   unfold volN
   rw [List.map_append, ← List.append_assoc]
   rfl
  have hsub : ∀ q, q ∈ g :: volN Bs (ps ++ [⟨d - 1, gK, cK, kidsT d t⟩]) → q < w.heap.size → q ∈ g :: volN Bs ps := fun q hm hl => by
   rw [hvol2] at hm
   rcases List.mem_cons.1 hm with rfl | hm
   ·exact List.mem_cons_self
   ·rcases List.mem_append.1 hm with hm | hm
    ·exact List.mem_cons_of_mem _ hm
    ·rw [List.mem_singleton.1 hm] at hl; omega
  refine .inr ⟨gK, cK, hke, hpos, hge, ⟨⟨_, by rw [List.length_set, c1], hrow2, hsz, fun j h1 h2 => ?_, fun j h1 h2 => ?_⟩, ?_, fun p hp => ?_, ?_⟩⟩
  ·rw [getD_set8 css k j _ hkc, if_neg (by omega)]
   exact (c4 j (by omega) h2).frame hs fun q hq hl => ⟨hold q hq hl, hq⟩
  ·rw [getD_set8 css k j _ hkc]
   by_cases hj : j = k
   ·rw [if_pos hj, hj, ht]
    refine ⟨aA, ac, some ⟨gK, 0, none⟩, cK, ?_, ⟨hAt, fun _ x hx hm => ?_⟩, hrowK.lt.2.2, .inr ⟨gK, cK, rfl, by simp⟩⟩
    ·rw [hva, hke]
     rfl
    ·have h1 := (hblk x hx).1
     rcases List.mem_cons.1 hm with e | hm
     ·omega
     ·rw [hvol2] at hm
      rcases List.mem_append.1 hm with hm | hm
      ·have := hvl _ hm; omega
      ·exact hne x hx (List.mem_singleton.1 hm)
   ·rw [if_neg hj]
    exact (c5 j (by omega) h2).step hs hvol hsub (fun p hp => List.mem_append_left _ hp)
  ·refine (h.root.push ⟨d - 1, gK, cK, kidsT d t⟩ gK w2 hs hvol hge).perm (fun q hq => ?_) (fun q hq => ?_) (fun p hp => ?_)
   ·rw [hvol2]
    rcases List.mem_cons.1 hq with rfl | hq
    ·exact List.mem_cons_of_mem _ (List.mem_append_right _ (by simp))
    ·rcases List.mem_cons.1 hq with rfl | hq
     ·exact List.mem_cons_self
     ·exact List.mem_cons_of_mem _ (List.mem_append_left _ hq)
   ·rw [hvol2] at hq
    rcases List.mem_cons.1 hq with rfl | hq
    ·exact List.mem_cons_of_mem _ List.mem_cons_self
    ·rcases List.mem_append.1 hq with hq | hq
     ·exact List.mem_cons_of_mem _ (List.mem_cons_of_mem _ hq)
     ·rw [List.mem_singleton.1 hq]; exact List.mem_cons_self
   ·rcases List.mem_cons.1 hp with rfl | hp
    ·simp
    ·rcases List.mem_cons.1 hp with rfl | hp
     ·exact List.mem_cons_self
     ·exact List.mem_cons_of_mem _ (List.mem_append_left _ hp)
  ·rcases List.mem_append.1 hp with hp | hp
   ·exact hrows p hp
   ·rw [List.mem_singleton.1 hp]
    exact ⟨hrowK2, hpos⟩
  ·rw [hvol2]
   intro hm
   rcases List.mem_append.1 hm with hm | hm
   ·exact h.fresh hm
   ·exact hgK (List.mem_singleton.1 hm).symm
def sumN (d : Nat) (l : List (Tr d)) : Nat := (l.map (szN d)).foldr (· + ·) 0
theorem szR_eq (d : Nat) (l : List (Tr d)) : szR d l = 1 + sumN d l := rfl
theorem sum_drop (d : Nat) (l : List (Tr d)) (k : Nat) (h : k < l.length) : sumN d (l.drop k) = szN d (l.getD k (zeroT d)) + sumN d (l.drop (k + 1)) := by
 rw [List.drop_eq_getElem_cons h, List.getD_eq_getElem?_getD, List.getElem?_eq_getElem h]
 rfl
theorem szQ_app (ps qs : List Pn) : szQ (ps ++ qs) = szQ ps + szQ qs := by
 induction ps with
 | nil => show szQ qs = 0 + szQ qs; omega
 | cons p ps ih => rw [List.cons_append, szQ_cons, szQ_cons, ih]; omega
theorem szQ_len (ps : List Pn) : ps.length ≤ szQ ps := by
 induction ps with
 | nil => exact Nat.le_refl _
 | cons p ps ih => rw [szQ_cons, List.length_cons, szR_eq]; omega
theorem szQ_one (p : Pn) : szQ [p] = szR p.1 p.2.2.2 := rfl
structure OutN (n0 D g0 : Nat) (L : List (Tr D)) (w0 : World) (m : Nat) (Bs : List Nat) (B cap : Nat) (ps : List Pn) (wr : World) : Prop where
 own : OwnV wr 23 n0 B ps.length cap (ps.map Pn.val)
 inB : B ∈ Bs
 root : RootN wr (volN Bs ps) ps D g0 L
 rows : ∀ p ∈ ps, Pn.Row n0 wr p ∧ 0 < p.2.2.2.length
 nod : (ps.map Pn.g).Nodup
 sep : ∀ b ∈ Bs, n0 ≤ b ∧ b < wr.heap.size ∧ b ∉ ps.map Pn.g
 light : ∀ p ∈ ps, ∀ t ∈ p.2.2.2, wtT p.1 t ≤ 12000
 few : szQ ps = m
 low : Below n0 w0 wr
structure InN (n0 D g0 : Nat) (L : List (Tr D)) (w0 : World) (m : Nat) (d g c : Nat) (l : List (Tr d)) (Bs : List Nat) (B cap : Nat) (k : Nat) (ps : List Pn) (wr : World) : Prop where
 own : OwnV wr 23 n0 B ps.length cap (ps.map Pn.val)
 inB : B ∈ Bs
 mid : MidN n0 D g0 L d g c l Bs k ps wr
 nod : (g :: ps.map Pn.g).Nodup
 sep : ∀ b ∈ Bs, n0 ≤ b ∧ b < wr.heap.size ∧ b ≠ g ∧ b ∉ ps.map Pn.g
 light : ∀ p ∈ ps, ∀ t ∈ p.2.2.2, wtT p.1 t ≤ 12000
 few : szQ ps + sumN d (l.drop k) + 1 ≤ m
 low : Below n0 w0 wr
theorem OutN.take {n0 D g0 : Nat} {L : List (Tr D)} {w0 : World} {m : Nat} {Bs : List Nat} {B cap : Nat} {ps : List Pn} {d g c : Nat} {l : List (Tr d)} {wr : World} (h : OutN n0 D g0 L w0 m Bs B cap (ps ++ [⟨d, g, c, l⟩]) wr) : InN n0 D g0 L w0 m d g c l Bs B cap 0 ps wr := by
 have hn := h.nod
 rw [List.map_append, List.map_singleton] at hn
 have hn2 := List.nodup_append.1 hn
 have hgn : g ∉ ps.map Pn.g := fun hm => hn2.2.2 g hm g (by simp [Pn.g]) rfl
 have hsep : ∀ b ∈ Bs, n0 ≤ b ∧ b < wr.heap.size ∧ b ≠ g ∧ b ∉ ps.map Pn.g := fun b hb => by
  obtain ⟨h1, h2, h3⟩ := h.sep b hb
  rw [List.map_append] at h3
  exact ⟨h1, h2, fun e => h3 (List.mem_append_right _ (by rw [e]; simp [Pn.g])), fun hm => h3 (List.mem_append_left _ hm)⟩
 refine ⟨?_, h.inB, MidN.start h.root h.rows (fun hm => ?_), List.nodup_cons.2 ⟨hgn, hn2.1⟩, hsep, fun p hp => h.light p (List.mem_append_left _ hp), ?_, h.low⟩
 ·have ho := h.own
  rw [List.map_append, List.map_singleton, List.length_append] at ho
  exact ho.cut
 ·rcases List.mem_append.1 hm with hm | hm
  ·exact (hsep g hm).2.2.1 rfl
  ·exact hgn hm
 ·have := h.few
  rw [szQ_app, szQ_one, szR_eq] at this
  rw [List.drop_zero]
  show _ + sumN d l + 1 ≤ m
  have e : szQ ps + (1 + sumN d l) = m := this
  omega
theorem InN.done {n0 D g0 : Nat} {L : List (Tr D)} {w0 : World} {m : Nat} {d g c : Nat} {l : List (Tr d)} {Bs : List Nat} {B cap k : Nat} {ps : List Pn} {wr : World} (h : InN n0 D g0 L w0 m d g c l Bs B cap k ps wr) (hk : l.length ≤ k) : OutN n0 D g0 L w0 (szQ ps) Bs B cap ps wr ∧ szQ ps < m :=
 ⟨⟨h.own, h.inB, h.mid.done hk, h.mid.rows, (List.nodup_cons.1 h.nod).2, fun b hb => ⟨(h.sep b hb).1, (h.sep b hb).2.1, (h.sep b hb).2.2.2⟩, h.light, rfl, h.low⟩, by have := h.few; omega⟩
theorem InN.next {n0 D g0 : Nat} {L : List (Tr D)} {w0 : World} {m : Nat} {d g c : Nat} {l : List (Tr d)} {Bs : List Nat} {B cap k : Nat} {ps : List Pn} {w w1 w2 : World} (h : InN n0 D g0 L w0 m d g c l Bs B cap k ps w) (hk : k < l.length) (hn0 : n0 ≤ w.heap.size) (hb1 : Below w.heap.size w w1) (ho : Only g w1 w2) (hm : MidN n0 D g0 L d g c l Bs (k + 1) ps w2) : InN n0 D g0 L w0 m d g c l Bs B cap (k + 1) ps w2 := by
 have hgl : n0 ≤ g := by
  obtain ⟨css, _, c2, _⟩ := h.mid.row
  exact c2.ge
 have hBg := (h.sep B h.inB).2.2.1
 have hs : w.heap.size ≤ w2.heap.size := by rw [ho.size]; exact hb1.size
 refine ⟨(h.own.below hb1 (Nat.le_refl _)).kept (ho.block B hBg), h.inB, hm, h.nod, fun b hb => ⟨(h.sep b hb).1, Nat.lt_of_lt_of_le (h.sep b hb).2.1 hs, (h.sep b hb).2.2⟩, h.light, ?_, (h.low.trans (hb1.mono hn0)).trans (ho.below hgl)⟩
 have := h.few
 rw [sum_drop d l k hk] at this
 omega
theorem InN.push {n0 D g0 : Nat} {L : List (Tr D)} {w0 : World} {m : Nat} {d g c : Nat} {l : List (Tr d)} {Bs : List Nat} {B cap k : Nat} {ps : List Pn} {w w1 w2 w3 : World} {gK cK : Nat} {t : Tr d} (h : InN n0 D g0 L w0 m d g c l Bs B cap k ps w) (hk : k < l.length) (ht : l.getD k (zeroT d) = t) (hwt : ∀ t' ∈ kidsT d t, wtT (d - 1) t' ≤ 12000) (hn0 : n0 ≤ w.heap.size) (hb1 : Below w.heap.size w w1) (ho : Only g w1 w2) (hge : w.heap.size ≤ gK) (hpos : 0 < (kidsT d t).length) (hm : MidN n0 D g0 L d g c l Bs (k + 1) (ps ++ [⟨d - 1, gK, cK, kidsT d t⟩]) w2)
  {B' cap' : Nat} (hown : OwnV w3 23 n0 B' (ps.length + 1) cap' (ps.map Pn.val ++ [.slice (some ⟨gK, 0, none⟩) (kidsT d t).length cK])) (hs3 : w2.heap.size ≤ w3.heap.size) (hk3 : ∀ q, q < w2.heap.size → q ≠ B → w3.heap[q]? = w2.heap[q]?) (hB' : B' = B ∨ w2.heap.size ≤ B') (hlow : Below n0 w2 w3) :
  InN n0 D g0 L w0 m d g c l (B' :: Bs) B' cap' (k + 1) (ps ++ [⟨d - 1, gK, cK, kidsT d t⟩]) w3 := by
 have hgl : n0 ≤ g := by
  obtain ⟨css, _, c2, _⟩ := h.mid.row
  exact c2.ge
 have hs : w.heap.size ≤ w2.heap.size := by rw [ho.size]; exact hb1.size
 have hmem : ∀ q, q ∈ (ps ++ [(⟨d - 1, gK, cK, kidsT d t⟩ : Pn)]).map Pn.g → q ∈ ps.map Pn.g ∨ q = gK := fun q hq => by
  rw [List.map_append] at hq
  rcases List.mem_append.1 hq with hq | hq
  ·exact .inl hq
  ·exact .inr (List.mem_singleton.1 hq)
 have hgK : gK ≠ g := by
  obtain ⟨css, _, c2, _⟩ := h.mid.row
  have := c2.lt; omega
 have hpl : ∀ q ∈ ps.map Pn.g, q < w.heap.size := fun q hq => by
  obtain ⟨p, hp, rfl⟩ := List.mem_map.1 hq
  exact (h.mid.rows p hp).1.lt.1
 have hrl : ∀ q ∈ (ps ++ [(⟨d - 1, gK, cK, kidsT d t⟩ : Pn)]).map Pn.g, q < w2.heap.size := fun q hq => by
  obtain ⟨p, hp, rfl⟩ := List.mem_map.1 hq
  exact (hm.rows p hp).1.lt.1
 have hg2 : g < w2.heap.size := by
  obtain ⟨css, _, c2, _⟩ := hm.row
  exact c2.lt
 have hsepB : ∀ b ∈ Bs, n0 ≤ b ∧ b ≠ g ∧ b ∉ (ps ++ [(⟨d - 1, gK, cK, kidsT d t⟩ : Pn)]).map Pn.g := fun b hb => by
  obtain ⟨h1, h2, h3, h4⟩ := h.sep b hb
  refine ⟨h1, h3, fun hq => ?_⟩
  rcases hmem b hq with hq | hq
  ·exact h4 hq
  ·omega
 refine ⟨?_, List.mem_cons_self, hm.grow hs3 B' (fun q hl hq => hk3 q hl (fun e => hq (by rw [e]; exact h.inB))) hsepB (hB'.imp (fun e => by rw [e]; exact h.inB) id), ?_, fun b hb => ?_, fun p hp => ?_, ?_, ((h.low.trans (hb1.mono hn0)).trans (ho.below hgl)).trans hlow⟩
 ·rw [List.length_append, List.map_append]
  exact hown
 ·rw [List.map_append, ← List.cons_append]
  refine List.nodup_append.2 ⟨h.nod, by simp, fun a ha b hb e => ?_⟩
  have hb' : b = gK := List.mem_singleton.1 hb
  rcases List.mem_cons.1 ha with ha | ha
  ·omega
  ·have := hpl a ha; omega
 ·rcases List.mem_cons.1 hb with rfl | hb
  ·rcases hB' with e | hge'
   ·subst e
    obtain ⟨h1, h2, h3⟩ := hsepB _ h.inB
    exact ⟨h1, Nat.lt_of_lt_of_le (Nat.lt_of_lt_of_le (h.sep _ h.inB).2.1 hs) hs3, h2, h3⟩
   ·exact ⟨hown.ge, hown.lt, by omega, fun hq => by have := hrl _ hq; omega⟩
  ·obtain ⟨h1, h2, h3⟩ := hsepB b hb
   exact ⟨h1, Nat.lt_of_lt_of_le (Nat.lt_of_lt_of_le (h.sep b hb).2.1 hs) hs3, h2, h3⟩
 ·rcases List.mem_append.1 hp with hp | hp
  ·exact h.light p hp
  ·rw [List.mem_singleton.1 hp]; exact hwt
 ·have h1 := h.few
  rw [sum_drop d l k hk, ht] at h1
  have h2 := szN_kids d t (by omega)
  rw [szQ_app, szQ_one]
  show szQ ps + szR (d - 1) (kidsT d t) + sumN d (l.drop (k + 1)) + 1 ≤ m
  omega
end Go.Proofs.YtgoiafndapemjaaGreatDoor
