import Derived.Test.YtgoiafndapemjaaGreatDoorQ11
import Derived.Test.YtgoiafndapemjaaGreatDoorQ16
import Derived.Shelf.Abstract
import Derived.Shelf.RegionOpen
import Derived.WalkKit
import Derived.OwnWalkIn
import Derived.TacticsInMore
import Derived.LoopNIn
import Derived.LoopIn
import Derived.Test.YtgoiafndapemjaaGreatDoorQ14
set_option linter.unusedVariables false
set_option linter.unusedSimpArgs false
set_option maxHeartbeats 1000000
namespace Go.Proofs.YtgoiafndapemjaaGreatDoor
abbrev Nd := Nat × Sigma Tr
def listT : (d : Nat) → Nat → Tr d → List Nd
 | 0, k, t => [(k, ⟨0, t⟩)]
 | d + 1, k, t => (k, ⟨d + 1, t⟩) :: (if t.1.1.isEmpty then [] else t.2.flatMap (listT d (k + 1)))
theorem list_eq : ∀ (d k : Nat) (t : Tr d), listT d k t = (k, ⟨d, t⟩) :: (if (nmT d t).isEmpty then [] else (kidsT d t).flatMap (listT (d - 1) (k + 1)))
 | 0, k, t => by
  show [(k, (⟨0, t⟩ : Sigma Tr))] = _
  show _ = (k, (⟨0, t⟩ : Sigma Tr)) :: (if _ then [] else [])
  split <;> rfl
 | d + 1, k, t => rfl
abbrev Fr := Sigma fun d => List (Tr d)
def pendR : List Fr → List Nd
 | [] => []
 | f :: rs => (f.2.flatMap (listT f.1 (rs.length + 1))) ++ pendR rs
theorem pend_pop (d : Nat) (rs : List Fr) : pendR (⟨d, []⟩ :: rs) = pendR rs := rfl
theorem pend_take (d : Nat) (t : Tr d) (ts : List (Tr d)) (rs : List Fr) : pendR (⟨d, t :: ts⟩ :: rs) = (rs.length + 1, ⟨d, t⟩) :: (if (nmT d t).isEmpty then pendR (⟨d, ts⟩ :: rs) else pendR (⟨d - 1, kidsT d t⟩ :: ⟨d, ts⟩ :: rs)) := by
 show (listT d (rs.length + 1) t ++ ts.flatMap (listT d (rs.length + 1))) ++ pendR rs = _
 rw [list_eq]
 split
 ·rfl
 ·show ((rs.length + 1, (⟨d, t⟩ : Sigma Tr)) :: _ ++ _) ++ _ = (rs.length + 1, (⟨d, t⟩ : Sigma Tr)) :: ((kidsT d t).flatMap (listT (d - 1) ((⟨d, ts⟩ :: rs : List Fr).length + 1)) ++ (ts.flatMap (listT d (rs.length + 1)) ++ pendR rs))
  simp only [List.cons_append, List.append_assoc, List.length_cons]
theorem least_of {α β : Type} (R : Nat → α → β → Prop) : ∃ f : α → β → Nat, ∀ m a b, R m a b → R (f a b) a b ∧ f a b ≤ m := by
 have h : ∀ a b, ∃ k, ∀ m, R m a b → R k a b ∧ k ≤ m := fun a b => by
  by_cases h : ∃ m, R m a b
  ·obtain ⟨m, hm⟩ := h
   have key : ∀ n, ∀ m, m ≤ n → R m a b → ∃ k, R k a b ∧ ∀ j, R j a b → k ≤ j := by
    intro n
    induction n with
    | zero =>
     intro m hmn hR
     obtain rfl : m = 0 := by omega
     exact ⟨0, hR, fun j _ => Nat.zero_le j⟩
    | succ n ih =>
     intro m hmn hR
     by_cases h2 : ∃ j, j < m ∧ R j a b
     ·obtain ⟨j, h3, h4⟩ := h2
      exact ih j (by omega) h4
     ·exact ⟨m, hR, fun j hj => by
       rcases Nat.lt_or_ge j m with h3 | h3
       ·exact absurd ⟨j, h3, hj⟩ h2
       ·exact h3⟩
   obtain ⟨k, h1, h2⟩ := key m m (Nat.le_refl _) hm
   exact ⟨k, fun j hj => ⟨h1, h2 j hj⟩⟩
  ·exact ⟨0, fun m hm => absurd ⟨m, hm⟩ h⟩
 exact ⟨fun a b => (h a b).choose, fun m a b hm => (h a b).choose_spec m hm⟩
def FrAt (P Q : Nat → Prop) (w0 w : World) (f : Fr) (v : Value) : Prop := ∃ A c, v = .slice A f.2.length c ∧ RowN P w A f.2.length (fun j cs => NdAt Q f.1 w0 cs (f.2.getD j (zeroT f.1))) ∧ f.2.length ≤ c
def FrsAt (P Q : Nat → Prop) (w0 w : World) : List Fr → List Value → Prop
 | [], xs => xs = []
 | f :: rs, xs => ∃ ys v, xs = ys ++ [v] ∧ FrAt P Q w0 w f v ∧ FrsAt P Q w0 w rs ys
theorem FrsAt.len {P Q : Nat → Prop} {w0 w : World} : {rs : List Fr} → {xs : List Value} → FrsAt P Q w0 w rs xs → xs.length = rs.length
 | [], xs, h => by rw [show xs = [] from h]; rfl
 | f :: rs, xs, h => by
  obtain ⟨ys, v, rfl, _, h3⟩ := h
  rw [List.length_append, h3.len]
  rfl
theorem FrAt.frame {P Q : Nat → Prop} {w0 w W : World} {f : Fr} {v : Value} (h : FrAt P Q w0 w f v) (hs : w.heap.size ≤ W.heap.size) (hP : ∀ q, P q → q < w.heap.size → W.heap[q]? = w.heap[q]?) : FrAt P Q w0 W f v := by
 obtain ⟨A, c, h1, h2, h3⟩ := h
 exact ⟨A, c, h1, h2.frame hs (fun q hq hl => ⟨hP q hq hl, hq⟩) fun _ _ _ hr => hr, h3⟩
theorem FrsAt.frame {P Q : Nat → Prop} {w0 w W : World} (hs : w.heap.size ≤ W.heap.size) (hP : ∀ q, P q → q < w.heap.size → W.heap[q]? = w.heap[q]?) : {rs : List Fr} → {xs : List Value} → FrsAt P Q w0 w rs xs → FrsAt P Q w0 W rs xs
 | [], xs, h => h
 | f :: rs, xs, h => by
  obtain ⟨ys, v, e, h2, h3⟩ := h
  exact ⟨ys, v, e, h2.frame hs hP, h3.frame hs hP⟩
theorem FrAt.head {P Q : Nat → Prop} {w0 w : World} {d : Nat} {t : Tr d} {ts : List (Tr d)} {v : Value} (h : FrAt P Q w0 w ⟨d, t :: ts⟩ v) : ∃ q o c a b x e, v = .slice (some ⟨q, o, none⟩) (ts.length + 1) c ∧ q < w.heap.size ∧ P q ∧ ts.length + 1 ≤ c ∧ w.cell? ⟨q, o, none⟩ = some a ∧ w.cell? ⟨q, o + 1, none⟩ = some b ∧ w.cell? ⟨q, o + 2, none⟩ = some x ∧ w.cell? ⟨q, o + 3, none⟩ = some e ∧ NdAt Q d w0 #[a, b, x, e] t ∧
  FrAt P Q w0 w ⟨d, ts⟩ (.slice (some (if c = 1 then ⟨q, o, none⟩ else ⟨q, o + 4, none⟩)) ts.length (c - 1)) := by
 obtain ⟨A, c, rfl, h2, h3⟩ := h
 obtain ⟨q, o, rfl, hp, hq, hcl⟩ := h2 (by simp)
 obtain ⟨a, b, x, e, k1, k2, k3, k4, k5⟩ := hcl 0 (by simp)
 have h3' : ts.length + 1 ≤ c := by simpa using h3
 rw [Nat.zero_mul, Nat.add_zero] at k1 k2 k3 k4
 refine ⟨q, o, c, a, b, x, e, rfl, hq, hp, h3', k1, k2, k3, k4, k5, _, _, rfl, fun h0 => ?_, by show ts.length ≤ _; omega⟩
 have h0' : 0 < ts.length := h0
 have hc1 : c ≠ 1 := by omega
 refine ⟨q, o + 4, by rw [if_neg hc1], hp, hq, fun j hj => ?_⟩
 have hj' : j < ts.length := hj
 obtain ⟨a, b, c', e', k1, k2, k3, k4, k5⟩ := hcl (j + 1) (by simp only [List.length_cons]; omega)
 refine ⟨a, b, c', e', ?_, ?_, ?_, ?_, k5⟩
 ·rw [show o + 4 + j * 4 = o + (j + 1) * 4 from by omega]; exact k1
 ·rw [show o + 4 + j * 4 + 1 = o + (j + 1) * 4 + 1 from by omega]; exact k2
 ·rw [show o + 4 + j * 4 + 2 = o + (j + 1) * 4 + 2 from by omega]; exact k3
 ·rw [show o + 4 + j * 4 + 3 = o + (j + 1) * 4 + 3 from by omega]; exact k4
end Go.Proofs.YtgoiafndapemjaaGreatDoor
namespace Go.Proofs.YtgoiafndapemjaaGreatDoor
open Go.RowKit Go.BigFrame
theorem cellN : OneCell Tryz.prog 114 23 := ⟨Tryz.underlying114, by
 obtain ⟨i, h1, h2, h3, h4⟩ := info_parts (show (Tryz.prog.info? 23).map (fun i => (i.zero, i.size, i.bytes)) = some (some (.slice none 0 0), 1, 24) from by kernel_rfl)
 exact ⟨i, _, h1, h2, h3, by omega, rfl⟩⟩
theorem OwnV.cut {w : World} {e b g n cap : Nat} {ys : List Value} {v : Value} (h : OwnV w e b g (n + 1) cap (ys ++ [v])) : OwnV w e b g n cap ys := by
 obtain ⟨r, h1, h2⟩ := h.row
 have hl := h.len
 rw [List.length_append, List.length_singleton] at hl
 exact ⟨h.ge, by omega, v :: r, by rw [h1]; simp, by simp only [List.length_cons]; omega⟩
theorem OwnV.put {w W : World} {e b g n cap : Nat} {ys : List Value} {v v' : Value} (h : OwnV w e b g (n + 1) cap (ys ++ [v])) (hW : ∀ cs, w.heap[g]? = some (.cells cs e (0, 0)) → W.heap[g]? = some (.cells (cs.setIfInBounds n v') e (0, 0))) : OwnV W e b g (n + 1) cap (ys ++ [v']) := by
 obtain ⟨r, h1, h2⟩ := h.row
 have hl := h.len
 rw [List.length_append, List.length_singleton] at hl
 have hn : ys.length = n := by omega
 refine ⟨h.ge, by rw [List.length_append, List.length_singleton]; omega, r, ?_, h2⟩
 rw [hW _ h1]
 congr 2
 apply Array.ext'
 subst hn
 simp [List.set_append]
section
variable (n0 g1 : Nat) (w0 : World) (tot : List Nd) (J : List Nd → World → Prop)
structure WS (g n cap : Nat) (rs : List Fr) (xs : List Value) (pre : List Nd) (wr : World) : Prop where
 len : n = rs.length
 own : OwnV wr 23 (g1 + 1) g n cap xs
 frs : FrsAt (fun q => q < n0 ∨ q = g1) (fun q => q < n0) w0 wr rs xs
 tot : pre ++ pendR rs = tot
 inv : J pre wr
 few : n ≤ pre.length + 1
 low : Below n0 w0 wr
 top : g1 < wr.heap.size
 box : ∃ cs fr, wr.heap[g1]? = some (.cells cs 25 fr)
end
section
variable {n0 g1 : Nat} {w0 : World} {tot : List Nd} {J : List Nd → World → Prop} {g n cap : Nat} {rs : List Fr} {xs : List Value} {pre : List Nd} {wr : World}
theorem WS.pop {d : Nat} (h : WS n0 g1 w0 tot J g (n + 1) cap (⟨d, []⟩ :: rs) xs pre wr) : ∃ ys, WS n0 g1 w0 tot J g n cap rs ys pre wr := by
 obtain ⟨ys, v, e, h2, h3⟩ := h.frs
 have hl := h.len
 simp only [List.length_cons] at hl
 have ho := h.own
 rw [e] at ho
 exact ⟨ys, by omega, ho.cut, h3, h.tot, h.inv, by have := h.few; omega, h.low, h.top, h.box⟩
theorem WS.take {d : Nat} {t : Tr d} {ts : List (Tr d)} (hn0 : n0 ≤ g1) (hJ : ∀ p, Low 23 g1 (J p)) (h : WS n0 g1 w0 tot J g (n + 1) cap (⟨d, t :: ts⟩ :: rs) xs pre wr) :
  ∃ q o c a b x e, wr.cell? ⟨g, n, none⟩ = some (.slice (some ⟨q, o, none⟩) (ts.length + 1) c) ∧ ts.length + 1 ≤ c ∧ wr.cell? ⟨q, o, none⟩ = some a ∧ wr.cell? ⟨q, o + 1, none⟩ = some b ∧ wr.cell? ⟨q, o + 2, none⟩ = some x ∧ wr.cell? ⟨q, o + 3, none⟩ = some e ∧ NdAt (fun q => q < n0) d w0 #[a, b, x, e] t ∧ q ≠ g ∧ q < wr.heap.size ∧
   ∀ W1 W2, Below wr.heap.size wr W1 → Only g W1 W2 → (∀ cs, W1.heap[g]? = some (.cells cs 23 (0, 0)) → W2.heap[g]? = some (.cells (cs.setIfInBounds n (.slice (some (if c = 1 then ⟨q, o, none⟩ else ⟨q, o + 4, none⟩)) ts.length (c - 1))) 23 (0, 0))) →
    ∃ ys, OwnV W2 23 (g1 + 1) g (n + 1) cap ys ∧ FrsAt (fun q => q < n0 ∨ q = g1) (fun q => q < n0) w0 W2 (⟨d, ts⟩ :: rs) ys ∧ J pre W2 ∧ Below n0 w0 W2 ∧ ∃ cs fr, W2.heap[g1]? = some (.cells cs 25 fr) := by
 obtain ⟨ys, v, e, h2, h3⟩ := h.frs
 have hl := h.len
 simp only [List.length_cons] at hl
 obtain ⟨q, o, c, a, b, x, e', rfl, hq, hp, hc, k1, k2, k3, k4, k5, k6⟩ := h2.head
 have ho := h.own
 rw [e] at ho
 have hyl : ys.length = n := by have := ho.len; rw [List.length_append, List.length_singleton] at this; omega
 have hqg : q ≠ g := by have := ho.ge; rcases hp with hp | hp <;> omega
 refine ⟨q, o, c, a, b, x, e', ?_, hc, k1, k2, k3, k4, k5, hqg, hq, fun W1 W2 b1 o2 hrow => ?_⟩
 ·have := ho.at n (.slice (some ⟨q, o, none⟩) (ts.length + 1) c) (by rw [List.getElem?_append_right (by omega), hyl, Nat.sub_self]; rfl)
  exact this
 ·have ho1 := ho.below b1 (Nat.le_refl _)
  have hge := ho.ge
  have ht := h.top
  have hbl : Below g1 wr W2 := (b1.mono (by omega)).trans (o2.below (by omega))
  have hfr : ∀ q', (q' < n0 ∨ q' = g1) → q' < wr.heap.size → W2.heap[q']? = wr.heap[q']? := fun q' hq' hl' => by
   rw [o2.block q' (by rcases hq' with h | h <;> omega), b1.block q' hl']
  have hs : wr.heap.size ≤ W2.heap.size := by rw [o2.size]; exact b1.size
  refine ⟨ys ++ [_], ho1.put hrow, ⟨ys, _, rfl, k6.frame hs hfr, h3.frame hs hfr⟩, hJ pre wr W2 h.inv ?_, h.low.trans (hbl.mono hn0), ?_⟩
  ·obtain ⟨r, hr1, _⟩ := ho1.row
   exact (Turn.of_below b1 (by omega)).trans (Turn.of_row (grown_of_only o2) (by omega) (by have := b1.size; omega) ⟨_, _, hr1⟩)
  ·obtain ⟨cs, fr, hb⟩ := h.box
   exact ⟨cs, fr, by rw [o2.block g1 (by omega), b1.block g1 ht]; exact hb⟩
end
end Go.Proofs.YtgoiafndapemjaaGreatDoor
namespace Go.Proofs.YtgoiafndapemjaaGreatDoor
open Go.RowKit Go.BigFrame Go.Shelf
def slN (x i : Value) : Sem Value := Instr.sliceAt 23 x (some i) none none
theorem slN_eq (x i : Value) : Instr.sliceAt 23 x (some i) none none = slN x i := rfl
theorem slN_run (q o tn c : Nat) (W : World) : (slN (.slice (some ⟨q, o, none⟩) (tn + 1) c) (.int .i64 1)).run Tryz.prog W = .ok (.slice (some (if c = 1 then ⟨q, o, none⟩ else ⟨q, o + 4, none⟩)) tn (c - 1)) W := by
 unfold slN
 have he : Tryz.prog.elem 23 = 25 := by simp [Program.elem, Tryz.underlying23]
 have hu : Tryz.prog.underlying 23 = some (.slice (Tryz.prog.elem 23)) := by rw [he]; exact Tryz.underlying23
 rw [run_sliceAt_slice W _ _ _ _ _ hu, run_slice_l W 23 (some ⟨q, o, none⟩) (tn + 1) c hu .i64 (1 : Int) (by omega) (by omega), he, Tryz.sizeOf25]
 simp only [Result.andThen_ok, sliced]
 by_cases hck : c = 1
 ·rw [if_pos hck, if_pos (by simpa using hck)]
  rfl
 ·rw [if_neg hck, if_neg (by simpa using hck)]
  rfl
attribute [local go_sem ↓] loadN_eq slN_eq
attribute [local go_sem] Oper.semAt_some
def encN (n0 : Nat) (w : World) (x : Nd) (vs : Array Value) : Prop := ∃ cs, vs = #[.int .i64 (x.1 : Int), .agg cs] ∧ NdAt (fun q => q < n0) x.2.1 w cs x.2.2
def tri : Value → Nat × Nat × Nat
 | .slice (some a) n c => (a.block, n, c)
 | _ => (0, 0, 0)
theorem nd_four {P : Nat → Prop} {d : Nat} {w : World} {cs : Array Value} {t : Tr d} (h : NdAt P d w cs t) : ∃ A B C D : Value, cs = #[A, B, C, D] ∧ A.oneCell' = true ∧ B.oneCell' = true ∧ C.oneCell' = true ∧ D.oneCell' = true := by
 obtain ⟨aA, ac, kA, kc, hcs, _, _⟩ := h.parts
 exact ⟨_, _, _, _, hcs, rfl, rfl, rfl, rfl⟩
theorem str_nil9 (l : List UInt8) : ((asS l).toList == []) = l.isEmpty := by
 have h := str_same l []
 have k : (⟨[].toArray⟩ : ByteArray).toList = [] := by simp
 rw [k] at h
 refine h.trans ?_
 cases l <;> simp
theorem infoNs' : (Tryz.prog.info? 23).map (·.size) = some 1 := by kernel_rfl
set_option maxRecDepth 100000 in
theorem within1_gives (d : Nat) (t : Tr d) (nn Bn n0 : Nat) (cs : Array Value) (w : World) (hnd : NdAt (fun q => q < n0) d w cs t) (hB : w.heap[Bn]? = some (.cells cs 25 (0, 0))) (hn0 : n0 ≤ w.heap.size) (hN : (listT d 1 t).length ≤ 100000) :
  Gives 23 5 Fence.wide nn Tryz.prog 87 #[.pointer (some ⟨Bn, 0, none⟩)] (encN n0 w) n0 (listT d 1 t) w := by
 intro l B J Jx W hW hnB hBW hJ hJx hY h0
 refine callsIn_wide.2 ?_
 show Calls Tryz.prog 87 #[.func (.yield l) #[] #[], .pointer (some ⟨Bn, 0, none⟩)] W _
 obtain ⟨A, Bv, C, D, rfl, o1, o2, o3, o4⟩ := nd_four hnd
 have hld : (loadI 25 (.pointer (some ⟨Bn, 0, none⟩))).run Tryz.prog W = .ok (.agg #[A, Bv, C, D]) W := loadN_run (row_keep hW hB) rfl
 have HST : Hid (WS n0 W.heap.size w (listT d 1 t) J (W.heap.size + 1) 1 1 [⟨d, [t]⟩] [.slice (some ⟨W.heap.size, 0, none⟩) 1 1] [] ((W.alloc (.cells #[A, Bv, C, D] 25)).alloc (.cells #[.slice (some ⟨W.heap.size, 0, none⟩) 1 1] 23))) := by
  have hb : Below W.heap.size W ((W.alloc (.cells #[A, Bv, C, D] 25)).alloc (.cells #[.slice (some ⟨W.heap.size, 0, none⟩) 1 1] 23)) := ((Below.refl _ W).alloc (Nat.le_refl _) _).alloc (by simp) _
  have h1 := heap_first W (.cells #[A, Bv, C, D] 25) (.cells #[.slice (some ⟨W.heap.size, 0, none⟩) 1 1] 23)
  refine ⟨rfl, OwnV.of_row (Nat.le_refl _) (heap_second W _ _), ⟨[], _, rfl, ⟨_, 1, rfl, fun _ => ⟨W.heap.size, 0, rfl, .inr rfl, by simp <;> omega, fun j hj => ?_⟩, Nat.le_refl _⟩, rfl⟩, ?_, hJ [] W _ h0 (Turn.of_below hb (Nat.le_refl _)), by simp, ?_, by simp <;> omega, ⟨_, _, h1⟩⟩
  ·obtain rfl : j = 0 := by simpa using hj
   exact ⟨A, Bv, C, D, cell_of_row _ _ _ _ _ _ h1, cell_of_row _ _ _ _ _ _ h1, cell_of_row _ _ _ _ _ _ h1, cell_of_row _ _ _ _ _ _ h1, hnd⟩
  ·show [] ++ ((listT d 1 t ++ []) ++ []) = _
   simp
  ·exact (hW.mono hn0).trans (hb.mono (by have := hW.size; omega))
 have HNB := hid hnB
 have HBW := hid hBW
 have HJ := hid hJ
 have HJX := hid hJx
 have HY := hid hY
 have HN := hid hN
 have HN0 : Hid (n0 ≤ W.heap.size) := by have := hW.size; show _ ≤ _; omega
 clear hnd hB hn0 hN hW hnB hBW hJ hJx hY h0
 generalize htot : listT d 1 t = tot at HST HY HN ⊢
 clear htot
 obtain ⟨mu, hmu⟩ := least_of (fun m (x : Nat × Nat × Nat) (wr : World) => ∃ rs xs pre, m = 2 * (pendR rs).length + rs.length ∧ WS n0 W.heap.size w tot J x.1 x.2.1 x.2.2 rs xs pre wr)
 have HMU := hid hmu
 clear hmu
 go_enter Tryz.func87, Tryz.ntmps87
 go_wp2_with fail
 go_loopw [3] (fun x3 wr => ∃ g n cap : Nat, x3 = .slice (some ⟨g, 0, none⟩) n cap ∧ Hid (∃ rs xs pre, WS n0 W.heap.size w tot J g n cap rs xs pre wr)) (fun x3 wr => mu (tri x3) wr)
 case atStart => exact ⟨_, _, _, rfl, _, _, _, HST.out⟩
 case round =>
  obtain ⟨g, n, cap, rfl, HW⟩ := hrel
  have hmin : ∃ rs xs pre, mu (g, n, cap) wr = 2 * (pendR rs).length + rs.length ∧ WS n0 W.heap.size w tot J g n cap rs xs pre wr := by
   obtain ⟨rs, xs, pre, h⟩ := HW.out
   exact (HMU.out _ (g, n, cap) wr ⟨rs, xs, pre, rfl, h⟩).1
  obtain ⟨rs, xs, pre, hm, hws⟩ := hmin
  have HM := hid hm
  clear hm
  cases rs with
  | nil =>
   obtain rfl : n = 0 := hws.len
   have HTOT : Hid (J tot wr) := by
    have := hws.tot
    rw [show pendR [] = [] from rfl, List.append_nil] at this
    rw [← this]
    exact hws.inv
   clear hws
   go_wp2_with fail
   go_end0
   exact ⟨⟨_, rfl⟩, .inl HTOT.out⟩
  | cons f rs =>
   obtain ⟨d', l'⟩ := f
   obtain ⟨k, rfl⟩ : ∃ k, n = k + 1 := ⟨rs.length, hws.len⟩
   have hkb : k ≤ 100001 := by
    have h1 := hws.few
    have h2 := congrArg List.length hws.tot
    rw [List.length_append] at h2
    have h3 := HN.out
    omega
   have hcapk : k + 1 ≤ cap := hws.own.le
   cases l' with
   | nil =>
    have hc : wr.cell? ⟨g, k, none⟩ = some (hws.frs.choose_spec.choose) := by
     have h1 := hws.own
     have h2 := hws.frs.choose_spec.choose_spec.1
     have h3 := hws.len
     simp only [List.length_cons] at h3
     rw [h2] at h1
     have h4 := h1.len
     rw [List.length_append, List.length_singleton] at h4
     exact h1.at k _ (by rw [List.getElem?_append_right (by omega), show k - hws.frs.choose.length = 0 from by omega]; rfl)
    obtain ⟨A0, c0, hv0, _, _⟩ := hws.frs.choose_spec.choose_spec.2.1
    rw [hv0] at hc
    have hcell : wr.cell? ⟨g, k, none⟩ = some (.slice A0 0 c0) := hc
    obtain ⟨ys, hws2⟩ := hws.pop
    have HW2 := hid hws2
    clear hc hv0 hws hws2
    go_wp2_with fail
    go_roundw
    case rel => exact ⟨g, k, cap, rfl, _, _, _, HW2.out⟩
    case measure =>
     have h1 := (HMU.out _ (g, k, cap) wr ⟨rs, ys, pre, rfl, HW2.out⟩).2
     have h2 := HM.out
     show mu (g, k, cap) wr < mu (g, k + 1, cap) wr
     rw [h2, pend_pop, List.length_cons]
     omega
   | cons t' ts =>
    obtain ⟨q, o, c, a, b, x, e, hc, hcc, k1, k2, k3, k4, hnd, hqg, hql, hnext⟩ := hws.take HN0.out HJ.out
    obtain ⟨aA, ac, kA, kc, hcs, _, _⟩ := hnd.parts
    have HTK := hid hnext
    have HND := hid hnd
    have HWS := hid hws
    obtain ⟨cs0, hrow0⟩ : ∃ cs0, wr.heap[g]? = some (.cells cs0 23 (0, 0)) := by
     obtain ⟨r, h1, _⟩ := hws.own.row
     exact ⟨_, h1⟩
    have hcsz : k < cs0.size := by
     obtain ⟨r, h1, h2⟩ := hws.own.row
     rw [hrow0] at h1
     injection h1 with h1
     injection h1 with h1
     rw [h1]
     have := hws.own.len
     simp only [List.size_toArray, List.length_append]
     omega
    have HROW := hid hrow0
    have HCSZ := hid hcsz
    have HGL : Hid (g < wr.heap.size) := hws.own.lt
    clear hnext hnd hws hrow0 hcsz
    unfold ndcs at hcs
    injection hcs with hcs
    injection hcs with e1 e2
    injection e2 with e2 e3
    injection e3 with e3 e4
    injection e4 with e4 e5
    subst e1 e2 e3 e4
    generalize hl1 : ts.length = tn at hc hcc HTK
    have HTN := hid hl1
    clear hl1
    have hldq := loadN_mid k1 k2 k3 k4
    clear k1 k2 k3 k4
    obtain ⟨NM, hNM⟩ : ∃ NM, asS (lab d' t').1 = NM := ⟨_, rfl⟩
    obtain ⟨TX, hTX⟩ : ∃ TX, asS (lab d' t').2.2 = TX := ⟨_, rfl⟩
    obtain ⟨an, han⟩ : ∃ an, (lab d' t').2.1.length = an := ⟨_, rfl⟩
    obtain ⟨kn, hkn⟩ : ∃ kn, (kidsT d' t').length = kn := ⟨_, rfl⟩
    rw [hNM, hTX, han, hkn] at hldq HND
    have HNM := hid hNM
    have HKN := hid hkn
    clear hNM hTX han hkn
    have hsl := slN_run q o tn c
    generalize (if c = 1 then (⟨q, o, none⟩ : Addr) else ⟨q, o + 4, none⟩) = AA at hsl HTK
    go_upto_region 7 with ((first
     | (refine store_msg infoN rfl _ _ rfl wr.heap.size _ _ _ _ rfl rfl rfl rfl rfl rfl _ (heap_alloc_new wr _) rfl ?_; intro W1 ho1 hr1; have hb1 := hid (((Below.refl _ wr).alloc (Nat.le_refl _) (.cells #[.string ⟨#[]⟩, .slice none 0 0, .string ⟨#[]⟩, .slice none 0 0] 25)).trans (ho1.below (Nat.le_refl _))); have HR1 := hid hr1; have hc1 : W1.cell? ⟨g, k, none⟩ = some (.slice (some ⟨q, o, none⟩) (tn + 1) c) := ((hb1.out.cell (p := ⟨g, k, none⟩) HGL.out).trans hc); have HG1 := hid ((hb1.out.block g HGL.out).trans HROW.out); clear ho1 hr1)
     | (refine store_part rfl 23 _ _ rfl g k (.slice (some AA) tn (c - 1)) _ _ _ rfl rfl infoNs' HCSZ.out rfl rfl HG1.out rfl ?_; intro W2 ho2 hr2)
     | fail))
    have HO2 := hid ho2
    have HMS := hid (HTK.out W1 W2 hb1.out ho2 (fun cs hcs => by
     rw [HG1.out] at hcs
     injection hcs with hcs
     injection hcs with hcs
     rw [← hcs]
     exact hr2))
    have HRN : Hid (W2.heap[wr.heap.size]? = some (.cells #[.string NM, .slice aA an ac, .string TX, .slice kA kn kc] 25 (0, 0))) := (ho2.block _ (by have := HGL.out; omega)).trans HR1.out
    have hldn := loadN_run HRN.out rfl
    have hkl : k = rs.length := by have := HWS.out.len; simp only [List.length_cons] at this; omega
    have hpre : (pre ++ [((k + 1, ⟨d', t'⟩) : Nd)]) <+: tot := by
     rw [← HWS.out.tot, pend_take, hkl]
     exact ⟨_, by rw [List.append_assoc]; rfl⟩
    obtain ⟨ys, hys1, hys2, hys3, hys4, hys5⟩ := HMS.out
    obtain ⟨fn, tmps, assign, body, hy, hR⟩ := HY.out pre (k + 1, ⟨d', t'⟩) #[.int .i64 ((k : Int) + 1), .agg #[.string NM, .slice aA an ac, .string TX, .slice kA kn kc]] W2 hys3 hpre ⟨_, by simp, HND.out⟩
    have HY1 := hid hys1
    have HY2 := hid hys2
    have HY4 := hid hys4
    have HY5 := hid hys5
    have HRR := hid hR
    have HKL := hid hkl
    have HPRE := hid hpre
    clear ho2 hr2 hkl hpre hys1 hys2 hys3 hys4 hys5 hR hld hldq hsl hc hc1
    refine (wpIn_wide (n := nn)).1 ?_
    gi_wp2
    refine ⟨(fun h => by cases h), HRR.out.mono ?_⟩
    rintro e W3 (⟨rfl, hJ3, hk3⟩ | ⟨rfl, hJx3⟩)
    ·have z1 := HGL.out
     have z2 := HNB.out
     have z3 := HBW.out
     have z4 := HWS.out.top
     have z5 := hb1.out.size
     have z6 := HO2.out.size
     have z7 : wr.heap.size < W2.heap.size := (Array.getElem?_eq_some_iff.1 HRN.out).1
     have z8 := HY1.out.ge
     have hrn3 := (hk3.high wr.heap.size (by omega) z7 (fun cs fr hh => by rw [HRN.out] at hh; injection hh with hh; injection hh with _ hh _; exact absurd hh (by decide))).trans HRN.out
     obtain ⟨bcs5, bfr5, hbx5⟩ := HY5.out
     have hbx3 := (hk3.high W.heap.size (by omega) (Array.getElem?_eq_some_iff.1 hbx5).1 (fun cs fr hh => by rw [hbx5] at hh; injection hh with hh; injection hh with _ hh _; exact absurd hh (by decide))).trans hbx5
     have HBX3 : Hid (∃ cs fr, W3.heap[W.heap.size]? = some (.cells cs 25 fr)) := ⟨_, _, hbx3⟩
     obtain ⟨rr, hrr, _⟩ := HY1.out.row
     have c0 : W3.cell? ⟨wr.heap.size, 0, none⟩ = some (.string NM) := cell_of_row _ _ _ _ _ _ hrn3
     have c3 : W3.cell? ⟨wr.heap.size, 3, none⟩ = some (.slice kA kn kc) := cell_of_row _ _ _ _ _ _ hrn3
     have HOW3 : Hid (OwnV W3 23 (W.heap.size + 1) g (k + 1) cap ys) := HY1.out.kept (hk3.high g (by omega) HY1.out.lt (fun cs fr hh => by rw [hrr] at hh; injection hh with hh; injection hh with _ hh _; exact absurd hh (by decide)))
     have HFR3 : Hid (FrsAt (fun q => q < n0 ∨ q = W.heap.size) (fun q => q < n0) w W3 (⟨d', ts⟩ :: rs) ys) := HY2.out.frame hk3.low.size fun q hq hl => by
      rcases hq with hq | hq
      ·exact hk3.low.block q hq
      ·rw [hq, hbx3, hbx5]
     have HJ3 := hid hJ3
     have HL3 := hid (HY4.out.trans hk3.low)
     have HZ3 : Hid (W.heap.size < W3.heap.size) := by have := hk3.low.size; show _ < _; omega
     have hq := str_nil9 (lab d' t').1
     rw [HNM.out] at hq
     have HTE : Hid ((pre ++ [((k + 1, ⟨d', t'⟩) : Nd)]) ++ (if (nmT d' t').isEmpty then pendR (⟨d', ts⟩ :: rs) else pendR (⟨d' - 1, kidsT d' t'⟩ :: ⟨d', ts⟩ :: rs)) = tot) := by
      show _ = _
      rw [← HWS.out.tot, pend_take, HKL.out, List.append_assoc]
      rfl
     have HMM : Hid (mu (g, k + 1, cap) wr = 2 * ((if (nmT d' t').isEmpty then pendR (⟨d', ts⟩ :: rs) else pendR (⟨d' - 1, kidsT d' t'⟩ :: ⟨d', ts⟩ :: rs)).length + 1) + (rs.length + 1)) := by
      show _ = _
      rw [HM.out, pend_take, List.length_cons, List.length_cons]
     clear hJ3 hk3 hrn3 hbx3 hbx5 hrr z1 z2 z3 z4 z5 z6 z7 z8 hldn hy
     have hnm : (nmT d' t').isEmpty = (lab d' t').1.isEmpty := rfl
     rw [hnm] at HTE HMM
     generalize hz : (lab d' t').1.isEmpty = z at hq HTE HMM
     have HZ := hid hz
     clear hz hnm
     have HFEW : Hid (k + 1 ≤ (pre ++ [((k + 1, ⟨d', t'⟩) : Nd)]).length) := by
      have := HWS.out.few
      show _ ≤ _
      rw [List.length_append, List.length_singleton]
      omega
     cases z
     ·have hq' : (NM.toList != []) = true := by rw [bne, hq]; rfl
      gi_wp2
      go_wp2_with (first
       | (refine wpList_ownV cellN rfl _ _ rfl (W.heap.size + 1) g (k + 1) cap 1 ys [.slice kA kn kc] _ rfl rfl (HOW3.out.alloc _) (src_lit cellN _ W3.heap.size 1 [.slice kA kn kc] (heap_alloc_new W3 _) (fun u hu => by rw [List.mem_singleton.1 hu]; rfl)) (by omega) (by have := HZ3.out; simp <;> omega) ?_)
       | fail)
      intro g' cap' W4 k1 k2 k3
      have HW4 : Hid (WS n0 W.heap.size w tot J g' (k + 1 + 1) cap' (⟨d' - 1, kidsT d' t'⟩ :: ⟨d', ts⟩ :: rs) (ys ++ [.slice kA kn kc]) (pre ++ [((k + 1, ⟨d', t'⟩) : Nd)]) W4) := by
       have z1 := HOW3.out.ge
       have z2 := HZ3.out
       have z3 := HN0.out
       have b4 : Below (W.heap.size + 1) W3 W4 := ⟨k2.os, k2.tape, k2.output, Nat.le_trans (by simp) k2.size, fun q hq => by
        rw [k2.block q (by simp <;> omega) (fun e => by injection e with e; omega)]
        exact Below.heap_alloc W3 _ q (by omega)⟩
       have hfr : ∀ q, (q < n0 ∨ q = W.heap.size) → q < W3.heap.size → W4.heap[q]? = W3.heap[q]? := fun q hq _ => b4.block q (by rcases hq with h | h <;> omega)
       have b40 : Below n0 w W4 := HL3.out.trans (b4.mono (by omega))
       obtain ⟨aA', ac', kA', kc', hcs', _, hks, hkc⟩ := HND.out.parts
       unfold ndcs at hcs'
       injection hcs' with hcs'
       injection hcs' with e1 e2
       injection e2 with e2 e3
       injection e3 with e3 e4
       injection e4 with e4 e5
       injection e4 with e41 e42 e43
       subst e41 e43
       refine ⟨by rw [HKL.out]; rfl, k1, ⟨ys, _, rfl, ⟨kA, kc, by rw [← HKN.out], ?_, hkc⟩, HFR3.out.frame b4.size hfr⟩, HTE.out, HJ.out _ W3 W4 HJ3.out ?_, by have := HFEW.out; omega, b40, Nat.lt_of_lt_of_le z2 b4.size, ?_⟩
       rotate_left
       ·obtain ⟨r5, hr5, _⟩ := (HOW3.out.alloc (.cells #[.slice kA kn kc] 23)).row
        exact (Turn.of_below ((Below.refl _ W3).alloc (Nat.le_refl _) _) (by omega)).trans (Turn.of_row k2 (by omega) (by simp <;> omega) ⟨_, _, hr5⟩)
       ·obtain ⟨cs5, fr5, hb5⟩ := HBX3.out
        exact ⟨cs5, fr5, by rw [b4.block W.heap.size (by omega)]; exact hb5⟩
       intro h0
       obtain ⟨q1, o1', ea, hp1, hq1, hcl⟩ := hks h0
       have hsz : q1 < W4.heap.size := by have := b4.size; omega
       have hbl : W4.heap[q1]? = w.heap[q1]? := b40.block q1 hp1
       refine ⟨q1, o1', ea, .inl hp1, hsz, fun j hj => ?_⟩
       obtain ⟨a', b', c', e', m1, m2, m3, m4, m5⟩ := hcl j hj
       exact ⟨a', b', c', e', by rw [cell_same hbl]; exact m1, by rw [cell_same hbl]; exact m2, by rw [cell_same hbl]; exact m3, by rw [cell_same hbl]; exact m4, m5⟩
      clear k1 k2 k3
      go_wp2_with fail
      go_roundw
      case rel => exact ⟨g', k + 1 + 1, cap', rfl, _, _, _, HW4.out⟩
      case measure =>
       have h1 := (HMU.out _ (g', k + 1 + 1, cap') W4 ⟨_, _, _, rfl, HW4.out⟩).2
       have h2 := HMM.out
       rw [if_neg (by simp)] at h2
       show mu (g', k + 1 + 1, cap') W4 < mu (g, k + 1, cap) wr
       rw [h2]
       simp only [List.length_cons] at h1
       omega
     ·have hq' : (NM.toList != []) = false := by rw [bne, hq]; rfl
      have HW4 : Hid (WS n0 W.heap.size w tot J g (k + 1) cap (⟨d', ts⟩ :: rs) ys (pre ++ [((k + 1, ⟨d', t'⟩) : Nd)]) W3) :=
       ⟨by rw [HKL.out]; rfl, HOW3.out, HFR3.out, HTE.out, HJ3.out, by have := HFEW.out; omega, HL3.out, HZ3.out, HBX3.out⟩
      gi_wp2
      go_wp2_with fail
      go_roundw
      case rel => exact ⟨g, k + 1, cap, rfl, _, _, _, HW4.out⟩
      case measure =>
       have h1 := (HMU.out _ (g, k + 1, cap) W3 ⟨_, _, _, rfl, HW4.out⟩).2
       have h2 := HMM.out
       rw [if_pos trivial] at h2
       show mu (g, k + 1, cap) W3 < mu (g, k + 1, cap) wr
       rw [h2]
       simp only [List.length_cons] at h1
       omega
    ·have HX3 := hid hJx3
     clear hJx3
     gi_wp2
     go_wp2_with fail
     refine bodyPost_ret (results_none rfl _ _ _) rfl ?_
     exact ⟨⟨_, rfl⟩, .inr ⟨_, HPRE.out, HX3.out⟩⟩
end Go.Proofs.YtgoiafndapemjaaGreatDoor
namespace Go.Proofs.YtgoiafndapemjaaGreatDoor
open Go.RowKit Go.BigFrame Go.Shelf
attribute [local go_sem ↓] loadN_eq
attribute [local go_sem] Oper.semAt_some
def textT : (d : Nat) → Tr d → List UInt8
 | 0, t => if t.1.isEmpty then t.2.2 else []
 | d + 1, t => if t.1.1.isEmpty then t.1.2.2 else t.2.flatMap (textT d)
def ownText (x : Nd) : List UInt8 := if (nmT x.2.1 x.2.2).isEmpty then txT x.2.1 x.2.2 else []
theorem flat_flat {α β : Type} (f : α → List Nd) (g : Nd → List β) : ∀ l : List α, (l.flatMap f).flatMap g = l.flatMap fun a => (f a).flatMap g
 | [] => rfl
 | a :: l => by simp [flat_flat f g l]
theorem text_list : ∀ (d k : Nat) (t : Tr d), (listT d k t).flatMap ownText = textT d t
 | 0, k, t => by
  show ownText (k, ⟨0, t⟩) ++ [] = _
  rw [List.append_nil]
  rfl
 | d + 1, k, t => by
  show ownText (k, ⟨d + 1, t⟩) ++ (if t.1.1.isEmpty then [] else t.2.flatMap (listT d (k + 1))).flatMap ownText = _
  unfold textT
  show (if t.1.1.isEmpty then t.1.2.2 else []) ++ _ = _
  cases hz : t.1.1.isEmpty with
  | true => simp
  | false =>
   simp only [Bool.false_eq_true, if_false, List.nil_append]
   rw [flat_flat]
   congr 1
   funext a
   exact text_list d (k + 1) a
theorem within13_any (d : Nat) (cs : Array Value) (hz : ∃ A B C D : Value, cs = #[A, B, C, D] ∧ A.oneCell' = true ∧ B.oneCell' = true ∧ C.oneCell' = true ∧ D.oneCell' = true) (w : World) : Calls Tryz.prog 52 #[.agg cs] w fun e w' => e = .returned (.func (.func 87) #[] #[.pointer (some ⟨w.heap.size, 0, none⟩)]) ∧ w' = w.alloc (.cells cs 25) := by
 obtain ⟨A, B, C, D, rfl, o1, o2, o3, o4⟩ := hz
 go_enter Tryz.func52, Tryz.ntmps52
 go_wp2_with fail
 go_ret
 exact ⟨rfl, rfl⟩
theorem Turn.row {e : TypeId} {B : Nat} {A C : World} (h : Turn e B A C) {k : Nat} {cs : Array Value} {ty : TypeId} {fr : Nat × Nat} (hk : A.heap[k]? = some (.cells cs ty fr)) (hne : ty ≠ e) : C.heap[k]? = some (.cells cs ty fr) := by
 rcases Nat.lt_or_ge k B with h1 | h1
 ·exact (h.low.block k h1).trans hk
 ·exact (h.keep k cs ty fr h1 hk hne).trans hk
theorem Bx.turn {e : TypeId} {B0 B b : Nat} {o : List UInt8} {w w' : World} (h : Bx B b o w) (ht : Turn e B0 w w') (h1 : 130 ≠ e) (h2 : 5 ≠ e) : Bx B b o w' := by
 have own : ∀ {v n xs}, w.ownsRowF B 5 1 v n xs → w'.ownsRowF B 5 1 v n xs := fun hh => by
  obtain ⟨hl, ho⟩ := hh
  refine ⟨hl, ?_⟩
  rcases ho with ho | ⟨g, c, cur, fz, k1, k2, k3, k4⟩
  ·exact .inl ho
  ·exact .inr ⟨g, c, cur, fz, k1, k2, ht.row k3 h2, k4⟩
 rcases h with ⟨k1, v, k2, k3, k4⟩ | ⟨k1, v, k2, k3, k4⟩
 ·exact .inl ⟨k1, v, ht.row k2 h1, own k3, k4⟩
 ·exact .inr ⟨k1, v, ht.row k2 h1, own k3, k4⟩
theorem bstr_k (B b : Nat) (o : List UInt8) (w : World) (h : Bx B b o w) (hB : B ≤ w.heap.size) : Calls Tryz.prog 113 #[.pointer (some ⟨b, 0, none⟩)] w fun e w' => e = .returned (.string (asS o)) ∧ Below B w w' ∧ Lib.OthersKept 5 (some b) w w' := by
 have h2 : Lib.IsBuilderF (Tryz.lays154_ren.t 72) (Tryz.lays154_ren.t 5) B b (Lib.byteCells o) w := h
 refine (Any.Builder_String_any_k (P := Tryz.prog) (ρ := Tryz.lays154_ren) { Tryz.lays154 with } Tryz.Builder_Extra_154 B b o w h2 hB).mono ?_
 rintro e w' ⟨rfl, _, hb, hk⟩
 exact ⟨rfl, hb, hk⟩
def aggOf : Value → Array Value
 | .agg cs => cs
 | _ => #[]
set_option maxRecDepth 100000 in
theorem text_any (d : Nat) (t : Tr d) (cs : Array Value) (w : World) (hnd : NdAt (fun q => q < w.heap.size) d w cs t) (hN : (listT d 1 t).length ≤ 100000) (hL : (textT d t).length ≤ 900000) : Calls Tryz.prog 122 #[.agg cs] w fun e w' => e = .returned (.string (asS (textT d t))) ∧ Below w.heap.size w w' := by
 obtain ⟨A, B, C, D, rfl, o1, o2, o3, o4⟩ := nd_four hnd
 have HWI := hid (within13_any d #[A, B, C, D] ⟨_, _, _, _, rfl, o1, o2, o3, o4⟩)
 have hldb : (loadI 25 (.pointer (some ⟨w.heap.size, 0, none⟩))).run Tryz.prog ((w.alloc (.cells #[A, B, C, D] 25)).alloc (.cells #[.pointer none, .slice none 0 0] 130)) = .ok (.agg #[A, B, C, D]) ((w.alloc (.cells #[A, B, C, D] 25)).alloc (.cells #[.pointer none, .slice none 0 0] 130)) := loadN_run (heap_first w _ _) rfl
 obtain ⟨Wl, hWl⟩ : ∃ Wl, ((w.alloc (.cells #[A, B, C, D] 25)).alloc (.cells #[.pointer none, .slice none 0 0] 130)).alloc (.cells #[A, B, C, D] 25) = Wl := ⟨_, rfl⟩
 have HSL : Hid (Wl.heap.size = w.heap.size + 3) := by show _ = _; rw [← hWl]; simp
 have HBL : Hid (Below w.heap.size w Wl) := by show Below _ _ _; rw [← hWl]; exact (((Below.refl _ w).alloc (Nat.le_refl _) _).alloc (by simp) _).alloc (by simp <;> omega) _
 have HBX : Hid (Bx (w.heap.size + 1) (w.heap.size + 1) [] Wl) := by
  show Bx _ _ _ _
  rw [← hWl]
  have := (Bx.new (w.alloc (.cells #[A, B, C, D] 25))).alloc (.cells #[A, B, C, D] 25)
  simpa using this
 have HRB : Hid (Wl.heap[w.heap.size + 2]? = some (.cells #[A, B, C, D] 25 (0, 0))) := by
  show _ = _
  rw [← hWl]
  have := heap_alloc_new ((w.alloc (.cells #[A, B, C, D] 25)).alloc (.cells #[.pointer none, .slice none 0 0] 130)) (.cells #[A, B, C, D] 25)
  simpa using this
 have HGV := hid (within1_gives d t 4 (w.heap.size + 2) w.heap.size #[A, B, C, D] Wl (hnd.below HBL.out (Nat.le_refl _)) HRB.out HBL.out.size hN)
 have HND := hid hnd
 have HL := hid hL
 have HTL := hid (text_list d 1 t)
 clear hnd hN hL
 generalize textT d t = TT at HL HTL ⊢
 generalize listT d 1 t = tot at HGV HTL
 refine callsIn_wide.1 (callsIn_of_wp_marks (n := 5) Tryz.func122 rfl trivial ?_)
 simp only [Tryz.ntmps122, List.size_toArray, List.length_cons, List.length_nil, Nat.reduceAdd, Nat.reduceSub, Array.replicate_succ, Array.replicate_zero, List.push_toArray, List.append_toArray, List.nil_append, List.cons_append]
 refine wpIn_wide.2 ?_
 go_wp2_with fail
 refine (HWI.out _).mono ?_
 rintro e W0 ⟨rfl, rfl⟩
 go_wp2_with fail
 clear hldb hWl
 refine (wpIn_wide (n := 5)).1 ?_
 refine range_law (e := 23) (e2 := 5) (n0 := w.heap.size) (xs := tot) (enc := encN w.heap.size Wl) rfl (by decide) (gf := 87) (lb := #[.pointer (some ⟨w.heap.size + 2, 0, none⟩)]) rfl trivial (enters_of Tryz.func87 (by kernel_rfl) rfl) HGV.out HBL.out.size ?hps
  (fun pre W => Bx (w.heap.size + 1) (w.heap.size + 1) (pre.flatMap ownText) W ∧ Below w.heap.size w W) (fun _ _ => False) ?hI (fun _ _ _ h _ => h) ⟨HBX.out, HBL.out⟩
  (fun vs W => ({ tmps := #[.agg #[A, B, C, D], .pointer (some ⟨w.heap.size, 0, none⟩), .string ⟨#[]⟩, .pointer (some ⟨w.heap.size + 1, 0, none⟩), undef, .pointer (some ⟨W.heap.size, 0, none⟩), .agg #[A, B, C, D], .func (.func 87) #[] #[.pointer (some ⟨w.heap.size + 1 + 1, 0, none⟩)], vs.getD 0 undef, vs.getD 1 undef, undef, undef, undef, undef, undef, undef, undef], defers := [] }, W.alloc (.cells (aggOf (vs.getD 1 undef)) 25))) (fun vs W => (Below.refl _ W).alloc (Nat.le_refl _) _) ?assign ?body ?done ?stop
 case hps =>
  rintro x vs ⟨cs', rfl, _⟩
  rfl
 case hI =>
  rintro pre A' C' ⟨h1, h2⟩ ht
  exact ⟨h1.turn ht (by decide) (by decide), h2.trans (ht.low.mono HBL.out.size)⟩
 case assign =>
  rintro l x vs W K ⟨cs', rfl, hnd'⟩ hK
  obtain ⟨aA, ac, kA, kc, rfl, _⟩ := hnd'.parts
  unfold ndcs at hK ⊢
  gi_wp2
  exact hK
 case body =>
  rintro l pre x vs W V ⟨hbx, hbl⟩ hsz hV hVs hpre ⟨cs', rfl, hnd'⟩
  obtain ⟨aA, ac, kA, kc, rfl, _⟩ := hnd'.parts
  have hrow : V.heap[W.heap.size]? = some (.cells (ndcs (lab x.2.1 x.2.2) aA ac kA (kidsT x.2.1 x.2.2).length kc) 25 (0, 0)) := by
   rw [hV _ (by omega)]
   exact heap_alloc_new W _
  have c0 : V.cell? ⟨W.heap.size, 0, none⟩ = some (.string (asS (lab x.2.1 x.2.2).1)) := cell_of_row _ _ _ _ _ _ hrow
  have c2 : V.cell? ⟨W.heap.size, 2, none⟩ = some (.string (asS (lab x.2.1 x.2.2).2.2)) := cell_of_row _ _ _ _ _ _ hrow
  have hq := str_nil9 (lab x.2.1 x.2.2).1
  have HOT : Hid (ownText x = if (lab x.2.1 x.2.2).1.isEmpty then (lab x.2.1 x.2.2).2.2 else []) := rfl
  have HFL : Hid ((pre ++ [x]).flatMap ownText = pre.flatMap ownText ++ ownText x) := by show _ = _; simp
  have HLN : Hid ((pre.flatMap ownText).length + (ownText x).length ≤ 900000) := by
   obtain ⟨r, hr⟩ := hpre
   have h1 := congrArg List.length HTL.out
   rw [← hr, List.flatMap_append, HFL.out, List.length_append, List.length_append] at h1
   have h2 := HL.out
   show _ ≤ _
   omega
  have HBXV := hid hbx
  have HBLV := hid hbl
  have HVS : Hid (w.heap.size + 3 ≤ V.heap.size) := by
   have h1 := HSL.out
   have h2 := ((Below.refl _ W).alloc (Nat.le_refl _) (.cells (ndcs (lab x.2.1 x.2.2) aA ac kA (kidsT x.2.1 x.2.2).length kc) 25)).size
   show _ ≤ _
   rw [hVs]
   exact Nat.le_trans (by omega) h2
  clear hbx hbl hV hVs hpre hnd' hrow
  generalize hz : (lab x.2.1 x.2.2).1.isEmpty = z at hq HOT
  clear hz
  generalize asS (lab x.2.1 x.2.2).1 = NM at c0 hq
  cases z
  ·rw [if_neg (by simp)] at HOT
   gi_wp2
   refine ⟨Keeps.refl _ _ _ _, ?_, HBLV.out⟩
   rw [HFL.out, HOT.out, List.append_nil]
   exact HBXV.out
  ·rw [if_pos rfl] at HOT
   have HWR := hid (writeStr_x (w.heap.size + 1) (w.heap.size + 1) (pre.flatMap ownText) (lab x.2.1 x.2.2).2.2 V HBXV.out (by have h1 := HLN.out; rw [HOT.out] at h1; omega) (by have := HVS.out; omega))
   gi_wp2_with (refine ⟨trivial, ?_⟩; gi_at_call 112; refine (CallsIn.inRound l (callsIn_wide.2 HWR.out)).mono ?_; rintro e W2 ⟨⟨v2, rfl⟩, k1, k2, k3⟩)
   refine ⟨⟨k2.mono (by omega), fun k hk hl hne => ?_⟩, ?_, HBLV.out.trans (k2.mono (by omega))⟩
   ·obtain ⟨o, ho⟩ : ∃ o, V.heap[k]? = some o := ⟨_, Array.getElem?_eq_some_iff.2 ⟨hl, rfl⟩⟩
    rw [ho]
    refine k3 k o ho (by have := HSL.out; intro e; injection e with e; omega) (fun cs fz e => hne cs fz (by rw [ho, e]))
   ·rw [HFL.out, HOT.out]
    exact k1
 case done =>
  rintro D' W hD ⟨hbx, hbl⟩ hK
  have HBXW := hid hbx
  have HBLW := hid hbl
  have HST := hid (bstr_k (w.heap.size + 1) (w.heap.size + 1) (tot.flatMap ownText) W hbx (by have h1 := HSL.out; have h2 := (Array.getElem?_eq_some_iff.1 hK).1; omega))
  have HK := hid hK
  have HDD := hid hD
  rw [HTL.out] at HST
  clear hbx hbl hK hD
  gi_wp2
  go_wp2_with fail
  refine HST.out.mono ?_
  rintro e W2 ⟨rfl, k2, k3⟩
  have hK2 : W2.heap[D']? = some (.deferred (some [])) := k3 D' _ HK.out (by have h1 := HSL.out; have h2 := HDD.out; intro e; injection e with e; omega) (fun cs fz e => by cases e)
  have HB2 := hid (HBLW.out.trans (k2.mono (by omega)))
  have HK2 := hid hK2
  clear k2 k3 hK2
  go_wp2_with fail
  refine ⟨by simp, .inl ⟨_, _, rfl, run_takeDeferred HK2.out, ?_⟩⟩
  refine ⟨_, results_tmp rfl _ _ _, rfl, HB2.out.trans (put_low (by have h1 := HSL.out; have h2 := HDD.out; omega))⟩
 case stop =>
  rintro D' pre W _ _ h _
  exact h.elim
end Go.Proofs.YtgoiafndapemjaaGreatDoor
namespace Go.Proofs.YtgoiafndapemjaaGreatDoor
open Go.RowKit Go.BigFrame
def attrV (nm : List UInt8) : List HdV → Option (List UInt8)
 | [] => none
 | h :: r => if h.name = nm then some h.value else attrV nm r
theorem attr_take (nm : List UInt8) : ∀ (l : List HdV) (k : Nat), k < l.length → (∀ j, j < k → (l.getD j zeroH).name ≠ nm) → ((l.getD k zeroH).name = nm → attrV nm l = some (l.getD k zeroH).value)
 | [], k, h, _ => by simp at h
 | h :: r, 0, _, _ => fun e => by
  have e' : h.name = nm := e
  show attrV nm (h :: r) = some h.value
  rw [attrV, if_pos e']
 | h :: r, k + 1, hk, hp => fun e => by
  have h0 : h.name ≠ nm := hp 0 (by omega)
  rw [attrV, if_neg h0]
  exact attr_take nm r k (by simpa using hk) (fun j hj => hp (j + 1) (by omega)) e
theorem attr_none (nm : List UInt8) : ∀ (l : List HdV), (∀ j, j < l.length → (l.getD j zeroH).name ≠ nm) → attrV nm l = none
 | [], _ => rfl
 | h :: r, hp => by
  have h0 : h.name ≠ nm := hp 0 (by simp)
  rw [attrV, if_neg h0]
  exact attr_none nm r (fun j hj => hp (j + 1) (by simpa using hj))
theorem step_no {P : Nat → Prop} {k : Nat} (h : ∀ j, j < k → P j) (hk : P k) : ∀ j, j < k + 1 → P j := fun j hj => by
 rcases Nat.lt_succ_iff_lt_or_eq.1 hj with h1 | rfl
 ·exact h j h1
 ·exact hk
theorem attr_any (nm : List UInt8) (l : List HdV) (n : Nat) (hn : l.length = n) (hl : n ≤ 1000000) (A : Option Addr) (c : Nat) (N T : ByteArray) (kA : Option Addr) (kn kc : Nat) (w : World) (hA : HdsAt w A l) (hv : ∀ j, j < l.length → (l.getD j zeroH).value.length ≤ 1000000) :
  Calls Tryz.prog 96 #[.agg #[.string N, .slice A n c, .string T, .slice kA kn kc], .string (asS nm)] w fun e w' => e = .returned (.tuple #[.string (asS ((attrV nm l).getD [])), .bool (attrV nm l).isSome]) ∧ Below w.heap.size w w' := by
 have HA := hid hA
 have HT := hid (attr_take nm l)
 have HNO := hid (attr_none nm l)
 have HC := hid (fun j (hj : j < l.length) W => clone8 (asS (l.getD j zeroH).value) (by rw [asS_size]; have := hv j hj; omega) W)
 have HN := hid hn
 have HEQ : Hid (∀ x : List UInt8, ((asS x).toList == (asS nm).toList) = decide (x = nm)) := fun x => tl_two x nm
 clear hA hn hv
 generalize attrV nm l = V at HT HNO ⊢
 generalize asS nm = NM at HEQ ⊢
 have c1 : (w.alloc (.cells #[.string N, .slice A n c, .string T, .slice kA kn kc] 25)).cell? ⟨w.heap.size, 1, none⟩ = some (.slice A n c) := cell_of_row _ _ _ _ _ _ (heap_alloc_new w _)
 go_enter Tryz.func96, Tryz.ntmps96
 go_wp2_with fail
 go_loopw [11] (fun i wr => ∃ k : Nat, k ≤ n ∧ i = .int .i64 (k : Int) ∧ Hid (∀ j, j < k → (l.getD j zeroH).name ≠ nm) ∧ Hid (Below w.heap.size w wr)) (fun i wr => n - (intOf i).toNat)
 case atStart => exact ⟨0, Nat.zero_le _, rfl, (fun j hj => by omega), (Below.refl _ w).alloc (Nat.le_refl _) _⟩
 case round =>
  obtain ⟨k, hk, rfl, HP, HB⟩ := hrel
  by_cases hlt : k < n
  ·have hi : (k : Int) < (n : Int) := by omega
   have hkl : k < l.length := by have := HN.out; omega
   obtain ⟨q, o, hq, hqs, hcs⟩ := HA.out (by omega)
   subst hq
   have hc := hcs k hkl
   have k1 := (HB.out.cell (p := ⟨q, o + k * 2, none⟩) hqs).trans hc.1
   have k2 := (HB.out.cell (p := ⟨q, o + k * 2 + 1, none⟩) hqs).trans hc.2
   have HCK := hid (HC.out k hkl)
   have HTK := hid (HT.out k hkl HP.out)
   have heq := HEQ.out (l.getD k zeroH).name
   have HST : Hid ((l.getD k zeroH).name ≠ nm → ∀ j, j < k + 1 → (l.getD j zeroH).name ≠ nm) := fun h => step_no (P := fun j => (l.getD j zeroH).name ≠ nm) HP.out h
   clear hcs hc hqs hkl
   by_cases he : (l.getD k zeroH).name = nm
   ·rw [decide_eq_true he] at heq
    have HV := hid (HTK.out he)
    have HBA := hid (HB.out.trans (((Below.refl _ wr).alloc (Nat.le_refl _) (.cells #[.string (asS (l.getD k zeroH).name), .string (asS (l.getD k zeroH).value)] 56)).mono HB.out.size))
    clear he
    generalize asS (l.getD k zeroH).name = HN' at k1 heq HBA
    obtain ⟨VV, hVV⟩ : ∃ VV, asS (l.getD k zeroH).value = VV := ⟨_, rfl⟩
    have HVV := hid hVV
    rw [hVV] at k2 HCK HBA
    clear hVV
    go_wp2_with fail
    refine (HCK.out _).mono ?_
    rintro e W2 ⟨rfl, hb2⟩
    have HB2 := hid (HBA.out.trans (hb2.mono HBA.out.size))
    clear hb2
    go_wp2_with fail
    go_ret2
    refine ⟨?_, HB2.out⟩
    rw [HV.out]
    show Ending.returned (.tuple #[.string VV, .bool true]) = .returned (.tuple #[.string (asS (l.getD k zeroH).value), .bool true])
    rw [HVV.out]
   ·rw [decide_eq_false he] at heq
    have HST2 := hid (HST.out he)
    clear he
    generalize asS (l.getD k zeroH).name = HN' at k1 heq
    generalize asS (l.getD k zeroH).value = VV at k2
    go_wp2_with fail
    go_roundw
    case rel => exact ⟨k + 1, by omega, by go_num, HST2.out, HB.out.trans (((Below.refl _ wr).alloc (Nat.le_refl _) _).mono HB.out.size)⟩
    case measure => simp [intOf]; omega
  ·have hi : ¬ (k : Int) < (n : Int) := by omega
   have HV := hid (HNO.out (fun j hj => HP.out j (by have := HN.out; omega)))
   go_wp2_with fail
   go_ret2
   refine ⟨?_, HB.out⟩
   rw [HV.out]
   rfl
end Go.Proofs.YtgoiafndapemjaaGreatDoor
