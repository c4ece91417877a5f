
/- Headers and nodes in memory. -/
import Derived.Test.YtlgkbdebpnbndaaGreatDoorTxBase
import Derived.Test.YtlgkbdebpnbndaaGreatDoorXmBook
namespace Go.Proofs.YtlgkbdebpnbndaaGreatDoor
set_option linter.unusedVariables false
set_option linter.unusedSimpArgs false
open Go.RowKit Go.BigFrame

/-- A header's cells. -/
def hcs (h : HdV) : Array Value := #[.string (asS h.name), .string (asS h.value)]
theorem tl_two (x y : List UInt8) : ((asS x).toList == (asS y).toList) = decide (x = y) := by
  rw [show (asS y).toList = y from by rw [ByteArray.toList_eq]; rfl]
  exact tl_eq x y
/-- The headers l lie behind A. -/
def HdsAt (w : World) (A : Option Addr) (l : List HdV) : Prop :=
  0 < l.length → ∃ q o, A = some ⟨q, o, none⟩ ∧ q < w.heap.size ∧ ∀ j, j < l.length → w.cell? ⟨q, o + j * 2, none⟩ = some (.string (asS (l.getD j zeroH).name)) ∧ w.cell? ⟨q, o + j * 2 + 1, none⟩ = some (.string (asS (l.getD j zeroH).value))
theorem HdsAt.below {w w' : World} {A : Option Addr} {l : List HdV} (h : HdsAt w A l) {B : Nat} (hb : Below B w w') (hB : w.heap.size ≤ B) : HdsAt w' A l := fun h0 => by
  obtain ⟨q, o, h1, h2, h3⟩ := h h0
  exact ⟨q, o, h1, Nat.lt_of_lt_of_le h2 hb.size, fun j hj => ⟨(hb.cell (p := ⟨q, o + j * 2, none⟩) (Nat.lt_of_lt_of_le h2 hB)).trans (h3 j hj).1, (hb.cell (p := ⟨q, o + j * 2 + 1, none⟩) (Nat.lt_of_lt_of_le h2 hB)).trans (h3 j hj).2⟩⟩
theorem take_hd (l : List HdV) (k : Nat) (h : k < l.length) : l.take (k + 1) = l.take k ++ [l.getD k zeroH] := by
  rw [List.take_succ_eq_append_getElem h, List.getD_eq_getElem?_getD, List.getElem?_eq_getElem h]; rfl
theorem asS_inj (x y : List UInt8) : asS x = asS y ↔ x = y := by
  constructor
  · intro h
    have := congrArg (fun s => s.data.toList) h
    exact this
  · rintro rfl; rfl
def eqH (a b : HdV) : Bool := decide (a.name = b.name) && decide (a.value = b.value)
theorem eqH_iff (a b : HdV) : eqH a b = true ↔ a = b := by
  unfold eqH
  rw [Bool.and_eq_true, decide_eq_true_iff, decide_eq_true_iff]
  constructor
  · rintro ⟨h1, h2⟩
    cases a; cases b
    simp only at h1 h2
    rw [h1, h2]
  · rintro rfl; exact ⟨rfl, rfl⟩
def fldH (n : String) (o bo : Nat) : Field := { name := n, type := 9, offset := o, embedded := false, tag := "", pkgPath := "", byteOffset := bo }
theorem eqF9 (d : Nat) (cs ds : Array Value) (f : Field) (rest : List Field) (hf : f.name ≠ "_") (ht : f.type = 9) (x y : List UInt8) (hx : cs[f.offset]? = some (.string (asS x))) (hy : ds[f.offset]? = some (.string (asS y))) (w : World) (r : Bool)
    (hr : (Op.eqFields (d + 1) cs ds rest).run Tryz.prog w = .ok r w) : (Op.eqFields (d + 1) cs ds (f :: rest)).run Tryz.prog w = .ok (decide (x = y) && r) w := by
  have h1 : (part 9 cs f.offset).run Tryz.prog w = .ok (.string (asS x)) w := by simp [part, Tryz.isAgg9, hx]
  have h2 : (part 9 ds f.offset).run Tryz.prog w = .ok (.string (asS y)) w := by simp [part, Tryz.isAgg9, hy]
  have h3 := run_equalIn_string (P := Tryz.prog) w d 9 (asS x) (asS y) Tryz.underlying9
  rw [tl_two] at h3
  simp only [Op.eqFields, Sem.run_bind, Sem.run_ite, if_pos hf, ht, h1, h2, h3, Result.andThen_ok, Sem.run_pure]
  cases decide (x = y) with
  | true => simp [hr]
  | false => simp
theorem eqFn9 (d : Nat) (cs ds : Array Value) (w : World) : (Op.eqFields (d + 1) cs ds []).run Tryz.prog w = .ok true w := by simp [Op.eqFields]
def sameH : List HdV → List HdV → Bool
  | [], [] => true
  | a :: r, b :: s => eqH a b && sameH r s
  | _, _ => false
theorem same_refl : ∀ l : List HdV, sameH l l = true
  | [] => rfl
  | a :: r => by rw [sameH, same_refl r, (eqH_iff a a).2 rfl]; rfl
theorem same_len : ∀ (a b : List HdV), a.length ≠ b.length → sameH a b = false
  | [], [], h => absurd rfl h
  | [], _ :: _, _ => rfl
  | _ :: _, [], _ => rfl
  | x :: r, y :: s, h => by rw [sameH, same_len r s (by simpa using h), Bool.and_false]
theorem same_at : ∀ (a b : List HdV), a.length = b.length → (∀ k, k < a.length → eqH (a.getD k zeroH) (b.getD k zeroH) = true) → sameH a b = true
  | [], [], _, _ => rfl
  | [], _ :: _, h, _ => by simp at h
  | _ :: _, [], h, _ => by simp at h
  | x :: r, y :: s, h, he => by
    have h0 : eqH x y = true := he 0 (by simp)
    rw [sameH, h0, same_at r s (by simpa using h) (fun k hk => he (k + 1) (by simpa using hk))]
    rfl
theorem same_not : ∀ (a b : List HdV) (k : Nat), k < a.length → k < b.length → eqH (a.getD k zeroH) (b.getD k zeroH) = false → sameH a b = false
  | [], _, k, h, _, _ => by simp at h
  | _ :: _, [], k, _, h, _ => by simp at h
  | x :: r, y :: s, 0, _, _, he => by
    have h0 : eqH x y = false := he
    rw [sameH, h0]; rfl
  | x :: r, y :: s, k + 1, h1, h2, he => by
    rw [sameH, same_not r s k (by simpa using h1) (by simpa using h2) he, Bool.and_false]
theorem step_eqs (a b : List HdV) (k : Nat) (h : ∀ j, j < k → eqH (a.getD j zeroH) (b.getD j zeroH) = true) (hk : eqH (a.getD k zeroH) (b.getD k zeroH) = true) : ∀ j, j < k + 1 → eqH (a.getD j zeroH) (b.getD j zeroH) = true := fun j hj => by
  rcases Nat.lt_succ_iff_lt_or_eq.1 hj with h1 | rfl
  · exact h j h1
  · exact hk
theorem hcs_size (h : HdV) : (hcs h).size = 2 := rfl
theorem hcs_one (h : HdV) : (hcs h).all (·.oneCell') = true := by
  unfold hcs
  refine all_oneCell_toArray fun v hv => ?_
  simp only [List.mem_cons, List.not_mem_nil, or_false] at hv
  rcases hv with rfl | rfl <;> rfl
theorem hd_cells {w : World} {b : Nat} {u : HdV} {t : TypeId} {fr : Nat × Nat} (h : w.heap[b]? = some (.cells (hcs u) t fr)) : w.cell? ⟨b, 0, none⟩ = some (.string (asS u.name)) ∧ w.cell? ⟨b, 1, none⟩ = some (.string (asS u.value)) := ⟨cell_of_row _ _ _ _ _ _ h, cell_of_row _ _ _ _ _ _ h⟩
def hdvs (l : List HdV) : List Value := l.flatMap fun h => [.string (asS h.name), .string (asS h.value)]
theorem hdvs_len : ∀ l : List HdV, (hdvs l).length = l.length * 2
  | [] => rfl
  | h :: r => by
    have := hdvs_len r
    show (_ :: _ :: hdvs r).length = _
    simp only [List.length_cons, this]
    omega
theorem hdvs_at : ∀ (l : List HdV) (j : Nat), j < l.length → (hdvs l)[j * 2]? = some (.string (asS (l.getD j zeroH).name)) ∧ (hdvs l)[j * 2 + 1]? = some (.string (asS (l.getD j zeroH).value))
  | [], j, h => by simp at h
  | h :: r, 0, _ => ⟨rfl, rfl⟩
  | h :: r, j + 1, hj => by
    have := hdvs_at r j (by simpa using hj)
    rw [show (j + 1) * 2 = j * 2 + 1 + 1 from by omega]
    exact this
theorem hdvs_app (a b : List HdV) : hdvs (a ++ b) = hdvs a ++ hdvs b := by simp [hdvs]
/-- The headers l are answered so, and will be. -/
def HdsV (w : World) (v : Value) (l : List HdV) : Prop := ∃ A c, v = .slice A l.length c ∧ HdsAt w A l
theorem HdsV.below {w w' : World} {v : Value} {l : List HdV} (h : HdsV w v l) (hb : Below w.heap.size w w') : HdsV w' v l := by
  obtain ⟨A, c, h1, h2⟩ := h
  exact ⟨A, c, h1, h2.below hb (Nat.le_refl _)⟩
theorem HdsV.nil (w : World) : HdsV w (.slice none 0 0) [] := ⟨none, 0, rfl, fun h => absurd h (by simp)⟩
/-- append(nil, headers...). -/
theorem run_nilK {P : Program} {k : Nat} {t e : TypeId} (ht : KCells P k t e) {w : World} {b m : Nat} {ys : List Value} (ty : TypeId) (x : Value) (hs : Src P k t x m ys w) (h0 : 0 < m) (hn : m ≤ 1000000000) (hb : b ≤ w.heap.size) :
    ∃ cap w', (Builtin.append_ #[t, t] ty #[.slice none 0 0, x]).run P w = .ok (.slice (some ⟨w.heap.size, 0, none⟩) m cap) w' ∧ OwnK w' k e b w.heap.size m cap ys ∧ Below w.heap.size w w' := by
  obtain ⟨i0, z, hi, hz0, hz1, hz2, hzc⟩ := ht.info
  have hm : ys.length = m * k := hs.newsLen
  have hs' : Src P i0.size t x m ys w := by rw [hz1]; exact hs
  have hold : (Builtin.firstCells i0.size 0 (.slice none 0 0)).run P w.drew = .ok (([] : List Value)).toArray w.drew := by simp [Builtin.firstCells]
  have hr := run_append_grow_src w t t ty e i0 z ht.sl hi hz0 none 0 0 [] hold x m ys hs' (by omega) (by omega) (growslice_fits (by omega) (by
    have : (0 + m) * i0.bytes ≤ 1000000000 * 100 := Nat.mul_le_mul (by omega) hz2
    omega))
  rw [Nat.zero_add] at hr
  have hge := grownCap_ge w m 0 e
  refine ⟨_, _, hr, ⟨hb, hm, (Builtin.zeroCells z.cells (grownCap w m 0 e - m)).toList, ?_, ?_, hge⟩, ((Below.refl _ _).drew).alloc (Nat.le_refl _) _⟩
  · rw [show w.heap.size = w.drew.heap.size from rfl, heap_alloc_new w.drew _]
    refine congrArg (fun a => some (Obj.cells a e (0, 0))) (Array.ext' ?_)
    simp
  · rw [Array.length_toList, size_zeroCells, hzc]
end Go.Proofs.YtlgkbdebpnbndaaGreatDoor
namespace Go.Proofs.YtlgkbdebpnbndaaGreatDoor
set_option linter.unusedVariables false
set_option linter.unusedSimpArgs false
open Go.RowKit

def zeroT : (d : Nat) → Tr d
  | 0 => ([], [], [])
  | _ + 1 => (([], [], []), [])
def kidsT : (d : Nat) → Tr d → List (Tr (d - 1))
  | 0, _ => []
  | _ + 1, t => t.2
/-- The four cells of a node. -/
def ndcs (l : Lab) (aA : Option Addr) (ac : Nat) (kA : Option Addr) (kn kc : Nat) : Array Value := #[.string (asS l.1), .slice aA l.2.1.length ac, .string (asS l.2.2), .slice kA kn kc]
/-- A row of elements of four cells, in a block for which P. -/
def RowN (P : Nat → Prop) (w : World) (A : Option Addr) (n : Nat) (R : Nat → Array Value → Prop) : Prop :=
  0 < n → ∃ q o, A = some ⟨q, o, none⟩ ∧ P q ∧ q < w.heap.size ∧ ∀ j, j < n → ∃ a b c e, w.cell? ⟨q, o + j * 4, none⟩ = some a ∧ w.cell? ⟨q, o + j * 4 + 1, none⟩ = some b ∧ w.cell? ⟨q, o + j * 4 + 2, none⟩ = some c ∧ w.cell? ⟨q, o + j * 4 + 3, none⟩ = some e ∧ R j #[a, b, c, e]
def HdsP (P : Nat → Prop) (w : World) (A : Option Addr) (l : List HdV) : Prop := HdsAt w A l ∧ (0 < l.length → ∀ x, A = some x → P x.block)
/-- These cells are the node t; all that it leads to lies in blocks for which P. -/
def NdAt (P : Nat → Prop) : (d : Nat) → World → Array Value → Tr d → Prop
  | 0, w, cs, t => ∃ aA ac kA kc, cs = ndcs t aA ac kA 0 kc ∧ HdsP P w aA t.2.1
  | d + 1, w, cs, t => ∃ aA ac kA kc, cs = ndcs t.1 aA ac kA t.2.length kc ∧ HdsP P w aA t.1.2.1 ∧ RowN P w kA t.2.length (fun j cs => NdAt P d w cs (t.2.getD j (zeroT d))) ∧ t.2.length ≤ kc
def NdsAt (P : Nat → Prop) (d : Nat) (w : World) (A : Option Addr) (l : List (Tr d)) : Prop := RowN P w A l.length (fun j cs => NdAt P d w cs (l.getD j (zeroT d)))
theorem NdsAt.nil (P : Nat → Prop) (d : Nat) (w : World) (A : Option Addr) : NdsAt P d w A [] := fun h => absurd h (by simp)
theorem NdAt.parts {P : Nat → Prop} : {d : Nat} → {w : World} → {cs : Array Value} → {t : Tr d} → NdAt P d w cs t →
    ∃ aA ac kA kc, cs = ndcs (lab d t) aA ac kA (kidsT d t).length kc ∧ HdsP P w aA (lab d t).2.1 ∧ NdsAt P (d - 1) w kA (kidsT d t) ∧ (kidsT d t).length ≤ kc
  | 0, w, cs, t, ⟨aA, ac, kA, kc, h1, h2⟩ => ⟨aA, ac, kA, kc, h1, h2, NdsAt.nil _ _ _ _, Nat.zero_le _⟩
  | _ + 1, w, cs, t, ⟨aA, ac, kA, kc, h1, h2, h3⟩ => ⟨aA, ac, kA, kc, h1, h2, h3⟩
theorem NdAt.mk0 {P : Nat → Prop} {d : Nat} {w : World} {l : Lab} {aA : Option Addr} {ac : Nat} {kA : Option Addr} {kc : Nat} (h : HdsP P w aA l.2.1) : NdAt P d w (ndcs l aA ac kA 0 kc) (leaf d l) := by
  cases d with
  | zero => exact ⟨aA, ac, kA, kc, rfl, h⟩
  | succ d => exact ⟨aA, ac, kA, kc, rfl, h, NdsAt.nil _ _ _ _, Nat.zero_le _⟩
theorem NdAt.mk {P : Nat → Prop} {d : Nat} {w : World} {l : Lab} {ks : List (Tr d)} {aA : Option Addr} {ac : Nat} {kA : Option Addr} {kc : Nat} (h : HdsP P w aA l.2.1) (hk : NdsAt P d w kA ks) (hc : ks.length ≤ kc) : NdAt P (d + 1) w (ndcs l aA ac kA ks.length kc) (l, ks) := ⟨aA, ac, kA, kc, rfl, h, hk, hc⟩
theorem NdAt.size {P : Nat → Prop} {d : Nat} {w : World} {cs : Array Value} {t : Tr d} (h : NdAt P d w cs t) : cs.size = 4 := by
  obtain ⟨aA, ac, kA, kc, rfl, _⟩ := h.parts
  rfl
theorem cell_same {w W : World} {q : Nat} (h : W.heap[q]? = w.heap[q]?) (i : Nat) : W.cell? ⟨q, i, none⟩ = w.cell? ⟨q, i, none⟩ := by unfold World.cell?; simp only [h]
theorem HdsP.frame {P P' : Nat → Prop} {w W : World} {A : Option Addr} {l : List HdV} (h : HdsP P w A l) (hs : w.heap.size ≤ W.heap.size) (hP : ∀ q, P q → q < w.heap.size → W.heap[q]? = w.heap[q]? ∧ P' q) : HdsP P' W A l := by
  refine ⟨fun h0 => ?_, fun h0 x hx => ?_⟩
  · obtain ⟨q, o, e, hq, hc⟩ := h.1 h0
    have h2 := hP q (h.2 h0 _ e) hq
    refine ⟨q, o, e, Nat.lt_of_lt_of_le hq hs, fun j hj => ?_⟩
    rw [cell_same h2.1, cell_same h2.1]
    exact hc j hj
  · obtain ⟨q, o, e, hq, hc⟩ := h.1 h0
    rw [e] at hx
    cases hx
    exact (hP q (h.2 h0 _ e) hq).2
theorem RowN.frame {P P' : Nat → Prop} {w W : World} {A : Option Addr} {n : Nat} {R R' : Nat → Array Value → Prop} (h : RowN P w A n R) (hs : w.heap.size ≤ W.heap.size) (hP : ∀ q, P q → q < w.heap.size → W.heap[q]? = w.heap[q]? ∧ P' q) (hR : ∀ j cs, j < n → R j cs → R' j cs) : RowN P' W A n R' := fun h0 => by
  obtain ⟨q, o, e, hp, hq, hc⟩ := h h0
  have h2 := hP q hp hq
  refine ⟨q, o, e, h2.2, Nat.lt_of_lt_of_le hq hs, fun j hj => ?_⟩
  obtain ⟨a, b, c, e, k1, k2, k3, k4, k5⟩ := hc j hj
  exact ⟨a, b, c, e, by rw [cell_same h2.1]; exact k1, by rw [cell_same h2.1]; exact k2, by rw [cell_same h2.1]; exact k3, by rw [cell_same h2.1]; exact k4, hR j _ hj k5⟩
/-- What the blocks that it lies in hold, keeps a node. -/
theorem NdAt.frame {P P' : Nat → Prop} {w W : World} (hs : w.heap.size ≤ W.heap.size) (hP : ∀ q, P q → q < w.heap.size → W.heap[q]? = w.heap[q]? ∧ P' q) : {d : Nat} → {cs : Array Value} → {t : Tr d} → NdAt P d w cs t → NdAt P' d W cs t
  | 0, _, _, ⟨aA, ac, kA, kc, h1, h2⟩ => ⟨aA, ac, kA, kc, h1, h2.frame hs hP⟩
  | d + 1, _, t, ⟨aA, ac, kA, kc, h1, h2, h3, h4⟩ => ⟨aA, ac, kA, kc, h1, h2.frame hs hP, h3.frame hs hP fun j cs _ hr => NdAt.frame (d := d) hs hP hr, h4⟩
theorem NdsAt.frame {P P' : Nat → Prop} {w W : World} {d : Nat} {A : Option Addr} {l : List (Tr d)} (h : NdsAt P d w A l) (hs : w.heap.size ≤ W.heap.size) (hP : ∀ q, P q → q < w.heap.size → W.heap[q]? = w.heap[q]? ∧ P' q) : NdsAt P' d W A l :=
  RowN.frame h hs hP fun j cs _ hr => hr.frame hs hP
theorem NdAt.below {P : Nat → Prop} {w W : World} {d B : Nat} {cs : Array Value} {t : Tr d} (h : NdAt P d w cs t) (hb : Below B w W) (hB : w.heap.size ≤ B) : NdAt P d W cs t :=
  h.frame hb.size fun q hq hl => ⟨hb.block q (Nat.lt_of_lt_of_le hl hB), hq⟩
theorem NdsAt.below {P : Nat → Prop} {w W : World} {d B : Nat} {A : Option Addr} {l : List (Tr d)} (h : NdsAt P d w A l) (hb : Below B w W) (hB : w.heap.size ≤ B) : NdsAt P d W A l :=
  h.frame hb.size fun q hq hl => ⟨hb.block q (Nat.lt_of_lt_of_le hl hB), hq⟩
theorem NdAt.mono {P P' : Nat → Prop} {w : World} {d : Nat} {cs : Array Value} {t : Tr d} (h : NdAt P d w cs t) (hp : ∀ q, P q → q < w.heap.size → P' q) : NdAt P' d w cs t :=
  h.frame (Nat.le_refl _) fun q hq hl => ⟨rfl, hp q hq hl⟩
theorem NdsAt.mono {P P' : Nat → Prop} {w : World} {d : Nat} {A : Option Addr} {l : List (Tr d)} (h : NdsAt P d w A l) (hp : ∀ q, P q → q < w.heap.size → P' q) : NdsAt P' d w A l :=
  h.frame (Nat.le_refl _) fun q hq hl => ⟨rfl, hp q hq hl⟩
theorem NdsAt.at {P : Nat → Prop} {w : World} {d : Nat} {A : Option Addr} {l : List (Tr d)} (h : NdsAt P d w A l) (j : Nat) (hj : j < l.length) :
    ∃ q o a b c e, A = some ⟨q, o, none⟩ ∧ q < w.heap.size ∧ w.cell? ⟨q, o + j * 4, none⟩ = some a ∧ w.cell? ⟨q, o + j * 4 + 1, none⟩ = some b ∧ w.cell? ⟨q, o + j * 4 + 2, none⟩ = some c ∧ w.cell? ⟨q, o + j * 4 + 3, none⟩ = some e ∧ NdAt P d w #[a, b, c, e] (l.getD j (zeroT d)) := by
  obtain ⟨q, o, e, hp, hq, hc⟩ := h (by omega)
  obtain ⟨a, b, c, e', k1, k2, k3, k4, k5⟩ := hc j hj
  exact ⟨q, o, a, b, c, e', e, hq, k1, k2, k3, k4, k5⟩
/-- .. written out. -/
theorem NdsAt.at2 {P : Nat → Prop} {w : World} {d : Nat} {A : Option Addr} {l : List (Tr d)} (h : NdsAt P d w A l) (j : Nat) (hj : j < l.length) :
    ∃ q o aA ac kA kc, A = some ⟨q, o, none⟩ ∧ q < w.heap.size ∧ w.cell? ⟨q, o + j * 4, none⟩ = some (.string (asS (nmT d (l.getD j (zeroT d))))) ∧ w.cell? ⟨q, o + j * 4 + 1, none⟩ = some (.slice aA (lab d (l.getD j (zeroT d))).2.1.length ac) ∧ w.cell? ⟨q, o + j * 4 + 2, none⟩ = some (.string (asS (txT d (l.getD j (zeroT d))))) ∧ w.cell? ⟨q, o + j * 4 + 3, none⟩ = some (.slice kA (kidsT d (l.getD j (zeroT d))).length kc) ∧
      NdAt P d w (ndcs (lab d (l.getD j (zeroT d))) aA ac kA (kidsT d (l.getD j (zeroT d))).length kc) (l.getD j (zeroT d)) := by
  obtain ⟨q, o, a, b, c, e, h1, h2, h3, h4, h5, h6, h7⟩ := h.at j hj
  have h8 := h7
  obtain ⟨aA, ac, kA, kc, e1, _, _⟩ := h7.parts
  unfold ndcs at e1
  injection e1 with e1
  injection e1 with e1 e2
  injection e2 with e2 e3
  injection e3 with e3 e4
  injection e4 with e4 e5
  subst e1 e2 e3 e4
  exact ⟨q, o, aA, ac, kA, kc, h1, h2, h3, h4, h5, h6, h8⟩
end Go.Proofs.YtlgkbdebpnbndaaGreatDoor
namespace Go.Proofs.YtlgkbdebpnbndaaGreatDoor
set_option linter.unusedVariables false
set_option linter.unusedSimpArgs false
open Go.RowKit Go.BigFrame

theorem msg_one (A B C D : Value) (h1 : A.oneCell' = true) (h2 : B.oneCell' = true) (h3 : C.oneCell' = true) (h4 : D.oneCell' = true) : (#[A, B, C, D] : Array Value).all (·.oneCell') = true := by
  refine all_oneCell_toArray (cs := [A, B, C, D]) fun v hv => ?_
  simp only [List.mem_cons, List.not_mem_nil, or_false] at hv
  rcases hv with rfl | rfl | rfl | rfl
  · exact h1
  · exact h2
  · exact h3
  · exact h4
theorem store_msg {t : TypeId} (ht : (Tryz.prog.info? t).map (·.size) = some 4) {ops : Array Oper} {rest : List Oper} {op : Oper} {a : Act} {w : World} {Q : Exit → Act → World → Prop} (hgd : op.guard = none) (x y : Operand) (ho : op.op = .store t x y)
    (b : Nat) (A B C D : Value) (h1 : A.oneCell' = true) (h2 : B.oneCell' = true) (h3 : C.oneCell' = true) (h4 : D.oneCell' = true) (hx : a.eval x = .pointer (some ⟨b, 0, none⟩)) (hy : a.eval y = .agg #[A, B, C, D])
    (cs : Array Value) (hrow : w.heap[b]? = some (.cells cs t (0, 0))) (hz : cs.size = 4)
    (h : ∀ W, Only b w W → W.heap[b]? = some (.cells #[A, B, C, D] t (0, 0)) → wpList Tryz.prog ops Q rest (a.put op.dst undef) W) : wpList Tryz.prog ops Q (op :: rest) a w :=
  wpList_store_abs hgd t x y ho b 0 #[A, B, C, D] hx hy t cs hrow (by rw [hz]; exact Nat.le_refl _) ht (msg_one A B C D h1 h2 h3 h4)
    (fun W q1 q2 => h W q1 (by rw [q2, over_whole cs #[A, B, C, D] (by rw [hz]; rfl)]))
theorem load_msg {t : TypeId} {ops : Array Oper} {rest : List Oper} {op : Oper} {a : Act} {w : World} {Q : Exit → Act → World → Prop} (hgd : op.guard = none) (x : Operand) (ho : op.op = .load t x)
    (b : Nat) (cs : Array Value) (hx : a.eval x = .pointer (some ⟨b, 0, none⟩)) (hl : (loadVar t ⟨b, 0, none⟩).run Tryz.prog w = .ok (.agg cs) w)
    (h : wpList Tryz.prog ops Q rest (a.put op.dst (.agg cs)) w) : wpList Tryz.prog ops Q (op :: rest) a w :=
  wpList_plain hgd fun _ hK => by
    unfold Oper.wp execOp
    simp only [ho, hx, Instr.loadAt, Instr.sureAddr, Sem.run_bind, Sem.run_pure, Result.andThen_ok, hl]
    exact hK _ _ h
theorem run_store_one (w : World) (t b o : Nat) (v : Value) (hv : v.oneCell' = true) (hc : v.cells = #[v]) (hi : (Tryz.prog.info? t).map (·.size) = some 1) (ht : w.there b o 1) : (storeVar t ⟨b, o, none⟩ v).run Tryz.prog w = .ok () (w.setCells b o [v]) := by
  have := run_storeCells_cells (P := Tryz.prog) b o [v] 0 w (fun j hj => by simpa using (ht j (by simpa using hj)).1) (fun j hj => by simpa using (ht j (by simpa using hj)).2) (fun v' hv' => by simp at hv'; subst hv'; exact hv)
  obtain ⟨i, hi1, hi2⟩ := Option.map_eq_some_iff.1 hi
  simp only [Nat.add_zero] at this
  simp [storeVar, sizeOf, typeInfo, hi1, hc, hi2, this]
/-- A part goes into a message. -/
theorem store_part {ops : Array Oper} {rest : List Oper} {op : Oper} {a : Act} {w : World} {Q : Exit → Act → World → Prop} (hgd : op.guard = none) (t : TypeId) (x y : Operand) (ho : op.op = .store t x y)
    (b j : Nat) (v : Value) (tr : TypeId) (cs cs' : Array Value) (hv : v.oneCell' = true) (hc : v.cells = #[v]) (hi : (Tryz.prog.info? t).map (·.size) = some 1) (hj : j < cs.size) (hx : a.eval x = .pointer (some ⟨b, j, none⟩)) (hy : a.eval y = v)
    (hrow : w.heap[b]? = some (.cells cs tr (0, 0))) (hset : cs.setIfInBounds j v = cs')
    (h : ∀ W, Only b w W → W.heap[b]? = some (.cells cs' tr (0, 0)) → wpList Tryz.prog ops Q rest (a.put op.dst undef) W) : wpList Tryz.prog ops Q (op :: rest) a w :=
  wpList_plain hgd fun _ hK => by
    have ht := there_row hrow j 1 (by omega)
    unfold Oper.wp execOp
    simp only [ho, hx, hy, Instr.storeAt, Instr.sureAddr, Sem.run_bind, Sem.run_pure, Result.andThen_ok, run_store_one w t b j v hv hc hi ht]
    refine hK _ _ (h _ (only_setCells b _ j w) ?_)
    rw [setCells_heap b tr _ j w _ hrow]
    simp only [over]
    rw [hset]
def putM (w : World) (g : Nat) (cs : Array Value) : World := w.setCells g 0 cs.toList
theorem putM_only (w : World) (g : Nat) (cs : Array Value) : Only g w (putM w g cs) := only_setCells g cs.toList 0 w
theorem putM_row {w : World} {g : Nat} {t : TypeId} {cs cs' : Array Value} (hrow : w.heap[g]? = some (.cells cs t (0, 0))) (h : cs'.size = cs.size) : (putM w g cs').heap[g]? = some (.cells cs' t (0, 0)) := by
  unfold putM
  rw [setCells_heap g t cs'.toList 0 w cs hrow, over_whole cs cs' h]
theorem storeM_row {t : TypeId} (ht : (Tryz.prog.info? t).map (·.size) = some 4) {w : World} {g : Nat} {cs : Array Value} (A B C D : Value) (h1 : A.oneCell' = true) (h2 : B.oneCell' = true) (h3 : C.oneCell' = true) (h4 : D.oneCell' = true) (hrow : w.heap[g]? = some (.cells cs t (0, 0))) (hz : cs.size = 4) : (storeI t (.pointer (some ⟨g, 0, none⟩)) (.agg #[A, B, C, D])).run Tryz.prog w = .ok () (putM w g #[A, B, C, D]) :=
  run_storeAt_mid w g 0 t #[A, B, C, D] (there_row hrow 0 4 (by rw [hz]; exact Nat.le_refl _)) ht (msg_one A B C D h1 h2 h3 h4)
theorem heap_second (w : World) (o1 o2 : Obj) : ((w.alloc o1).alloc o2).heap[w.heap.size + 1]? = some o2 := by
  have := heap_alloc_new (w.alloc o1) o2
  rwa [show (w.alloc o1).heap.size = w.heap.size + 1 from by simp] at this
theorem heap_first (w : World) (o1 o2 : Obj) : ((w.alloc o1).alloc o2).heap[w.heap.size]? = some o1 := (Below.heap_alloc _ _ _ (by simp)).trans (heap_alloc_new w o1)
/-- No address of a block. -/
def NotIn (A : Option Addr) (g : Nat) : Prop := ∀ x, A = some x → x.block ≠ g
theorem Only.kept {w W : World} {g q : Nat} {o : Option Obj} (h : Only g w W) (hq : q ≠ g) (hr : w.heap[q]? = o) : W.heap[q]? = o := by rw [h.block q hq]; exact hr
theorem row_keep {V W : World} {g : Nat} {o : Obj} (h : Below V.heap.size V W) (hr : V.heap[g]? = some o) : W.heap[g]? = some o := (h.block g (Array.getElem?_eq_some_iff.1 hr).1).trans hr
/-- What a method on R does to the world: R turns, new blocks come. -/
theorem to_below {R : Nat} {w w' : World} (h : Below w.heap.size w w') : w.grownBy w' (some R) := ⟨h.os, h.tape, h.output, h.size, fun k hk _ => h.block k hk⟩
theorem to_only {R : Nat} {w w' : World} (h : Only R w w') : w.grownBy w' (some R) := grown_of_only h
theorem to_refl (R : Nat) (w : World) : w.grownBy w (some R) := to_below (Below.refl _ _)
/-- A row that is not R's stands. -/
theorem to_row {R g : Nat} {w w' : World} {o : Obj} (h : w.grownBy w' (some R)) (hg : w.heap[g]? = some o) (hne : g ≠ R) : w'.heap[g]? = some o :=
  (h.block g (Array.getElem?_eq_some_iff.1 hg).1 (fun e => hne (by injection e))).trans hg
theorem to_nd {R d : Nat} {P : Nat → Prop} {w w' : World} {cs : Array Value} {t : Tr d} (h : NdAt P d w cs t) (hg : w.grownBy w' (some R)) (hP : ∀ q, P q → q ≠ R) : NdAt P d w' cs t :=
  h.frame hg.size fun q hq hl => ⟨hg.block q hl (fun e => hP q hq (by injection e)), hq⟩
/-- What lies below, but for R. -/
theorem to_cut {R B : Nat} {w w' : World} (h : w.grownBy w' (some R)) (hB : B ≤ w.heap.size) (hR : B ≤ R) : Below B w w' := ⟨h.os, h.tape, h.output, h.size, fun k hk => h.block k (by omega) (fun e => by injection e with e; omega)⟩
end Go.Proofs.YtlgkbdebpnbndaaGreatDoor
namespace Go.Proofs.YtlgkbdebpnbndaaGreatDoor
set_option linter.unusedVariables false
set_option linter.unusedSimpArgs false
open Go.RowKit Go.BigFrame

/-! append onto nil or a row of one's own. -/
theorem run_nilB (tx ty : TypeId) {w : World} {b m : Nat} {l2 : List UInt8} (x : Value) (hs : Src Tryz.prog 1 tx x m (bvs l2) w) (h0 : 0 < m) (hn : m ≤ 1000000000) (hb : b ≤ w.heap.size) :
    ∃ cap w', (Builtin.append_ #[47, tx] ty #[.slice none 0 0, x]).run Tryz.prog w = .ok (.slice (some ⟨w.heap.size, 0, none⟩) m cap) w' ∧ Own w' b w.heap.size m cap l2 ∧ Below w.heap.size w w' := by
  obtain ⟨i0, hi, hz0, hz1, hz2⟩ := info_parts info5
  have hl : l2.length = m := by have := hs.newsLen; rw [bvs_len, Nat.mul_one] at this; exact this
  have hs' : Src Tryz.prog i0.size tx x m (bvs l2) w := by rw [hz1]; exact hs
  have hold : (Builtin.firstCells i0.size 0 (.slice none 0 0)).run Tryz.prog w.drew = .ok (([] : List Value)).toArray w.drew := by simp [Builtin.firstCells]
  have hr := run_append_grow_src w 47 tx ty 5 i0 (.int .u8 0) Tryz.underlying47 hi hz0 none 0 0 [] hold x m (bvs l2) hs' (by omega) (by omega) (growslice_fits (by omega) (by rw [hz2]; omega))
  rw [Nat.zero_add] at hr
  have hge := grownCap_ge w m 0 5
  refine ⟨_, _, hr, ⟨hb, hl, (Builtin.zeroCells (Value.int .u8 0).cells (grownCap w m 0 5 - m)).toList, (0, 0), ?_, ?_, .inl rfl⟩, ((Below.refl _ _).drew).alloc (Nat.le_refl _) _⟩
  · rw [show w.heap.size = w.drew.heap.size from rfl, heap_alloc_new w.drew _]
    refine congrArg (fun a => some (Obj.cells a 5 (0, 0))) (Array.ext' ?_)
    simp
  · rw [Array.length_toList, size_zeroCells]
    have : (Value.int .u8 0).cells.size = 1 := rfl
    rw [this]; omega
theorem run_down (tx ty : TypeId) {w : World} {b m : Nat} {d x : Value} {o l2 : List UInt8} (h : Down w b d o) (hs : Src Tryz.prog 1 tx x m (bvs l2) w) (h0 : 0 < m) (hn : o.length + m ≤ 1000000000) (hb : b ≤ w.heap.size) :
    ∃ d' w', (Builtin.append_ #[47, tx] ty #[d, x]).run Tryz.prog w = .ok d' w' ∧ Down w' b d' (o ++ l2) ∧ Below b w w' := by
  rcases h with ⟨rfl, rfl⟩ | ⟨g, n, cap, rfl, h2⟩
  · obtain ⟨cap, w', h1, h2, h3⟩ := run_nilB tx ty x hs h0 (by simpa using hn) hb
    exact ⟨_, w', h1, .inr ⟨_, _, cap, rfl, h2⟩, h3.mono hb⟩
  · obtain ⟨g', cap', w', h1, h3, h4, _⟩ := h2.run_app tx ty x hs (by rw [← h2.len]; exact hn) hb
    exact ⟨_, w', h1, .inr ⟨g', _, cap', rfl, h3⟩, h2.grown (Below.refl _ _) hb h4⟩
theorem wpList_down {ops : Array Oper} {rest : List Oper} {o : Oper} {a : Act} {w : World} {Q : Exit → Act → World → Prop} (hgd : o.guard = none) (s x : Operand) (tx : TypeId)
    (ho : o.op = .call { callee := .builtin .append, args := #[s, x], argTypes := #[47, tx] })
    (base m : Nat) (d xv : Value) (l l2 : List UInt8) (hs : a.eval s = d) (hx : a.eval x = xv) (hown : Down w base d l)
    (hA : Src Tryz.prog 1 tx xv m (bvs l2) w) (h0 : 0 < m) (hn : l.length + m ≤ 1000000000) (hbase : base ≤ w.heap.size)
    (h : ∀ d' w', Down w' base d' (l ++ l2) → Below base w w' → wpList Tryz.prog ops Q rest (a.put o.dst d') w') : wpList Tryz.prog ops Q (o :: rest) a w := by
  refine wpList_plain hgd fun _ hK => ?_
  obtain ⟨d', w', hr, h2, h3⟩ := run_down tx o.type hown hA h0 hn hbase
  unfold Oper.wp execOp
  simp only [ho, resolve, invoke, builtin, Sem.run_bind, Sem.run_pure, Result.andThen_ok, List.map_toArray, List.map_cons, List.map_nil, hs, hx, hr]
  exact hK _ _ (h d' w' h2 h3)
theorem Down.shape {w : World} {b : Nat} {d : Value} {o : List UInt8} (h : Down w b d o) : ∃ A c, d = .slice A o.length c := by
  rcases h with ⟨rfl, rfl⟩ | ⟨g, n, cap, rfl, h2⟩
  · exact ⟨none, 0, rfl⟩
  · exact ⟨_, cap, by rw [h2.len]⟩
theorem Down.nil (w : World) (b : Nat) : Down w b (.slice none 0 0) [] := .inl ⟨rfl, rfl⟩

theorem src_two (w : World) : Src Tryz.prog 1 47 (.slice (some ⟨w.heap.size, 0, none⟩) 2 2) 2 (bvs [13, 10]) (w.alloc (.cells #[.int .u8 13, .int .u8 10] 5)) := src_bytes (l := [13, 10]) (BytesAt.of_row (heap_alloc_new w _)) 2 (fun _ => .inr ⟨_, rfl⟩)
theorem src_five (w : World) : Src Tryz.prog 1 47 (.slice (some ⟨w.heap.size, 0, none⟩) 5 5) 5 (bvs endC) (w.alloc (.cells #[.int .u8 48, .int .u8 13, .int .u8 10, .int .u8 13, .int .u8 10] 5)) := src_bytes (l := [48, 13, 10, 13, 10]) (BytesAt.of_row (heap_alloc_new w _)) 5 (fun _ => .inr ⟨_, rfl⟩)
theorem src_str (w : World) (l : List UInt8) (n : Nat) (h : l.length = n) : Src Tryz.prog 1 9 (.string (asS l)) n (bvs l) w := by
  have := src_text w (asS l)
  rw [asS_size, asS_data, h] at this
  exact this
theorem Own.down {w : World} {b g n cap : Nat} {l : List UInt8} (h : Own w b g n cap l) : Down w b (.slice (some ⟨g, 0, none⟩) n cap) l := .inr ⟨g, n, cap, rfl, h⟩
end Go.Proofs.YtlgkbdebpnbndaaGreatDoor
namespace Go.Proofs.YtlgkbdebpnbndaaGreatDoor
set_option linter.unusedVariables false
set_option linter.unusedSimpArgs false
open Go.RowKit Go.BigFrame

def blk : Value → Option Nat
  | .slice (some a) _ _ => some a.block
  | _ => none
def ndvs (css : List (Array Value)) : List Value := css.flatMap (·.toList)
theorem ndvs_len : ∀ css : List (Array Value), (∀ c ∈ css, c.size = 4) → (ndvs css).length = css.length * 4
  | [], _ => rfl
  | c :: r, h => by
    have h1 := h c List.mem_cons_self
    have h2 := ndvs_len r (fun x hx => h x (List.mem_cons_of_mem _ hx))
    show (c.toList ++ ndvs r).length = _
    rw [List.length_append, h2, Array.length_toList, h1, List.length_cons]
    omega
theorem ndvs_at : ∀ (css : List (Array Value)) (j i : Nat), (∀ c ∈ css, c.size = 4) → j < css.length → i < 4 → (ndvs css)[j * 4 + i]? = (css.getD j #[])[i]?
  | [], j, i, _, h, _ => by simp at h
  | c :: r, 0, i, hc, _, hi => by
    have h1 := hc c List.mem_cons_self
    show (c.toList ++ ndvs r)[0 * 4 + i]? = _
    rw [Nat.zero_mul, Nat.zero_add, List.getElem?_append_left (by rw [Array.length_toList, h1]; exact hi)]
    simp
  | c :: r, j + 1, i, hc, hj, hi => by
    have h1 := hc c List.mem_cons_self
    have ih := ndvs_at r j i (fun x hx => hc x (List.mem_cons_of_mem _ hx)) (by simpa using hj) hi
    show (c.toList ++ ndvs r)[(j + 1) * 4 + i]? = _
    rw [List.getElem?_append_right (by rw [Array.length_toList, h1]; omega), Array.length_toList, h1, show (j + 1) * 4 + i - 4 = j * 4 + i from by omega, ih]
    simp
theorem ndvs_app (a b : List (Array Value)) : ndvs (a ++ b) = ndvs a ++ ndvs b := by simp [ndvs]
theorem getD_snoc {α : Type} (l : List α) (x z : α) (j : Nat) (hj : j < (l ++ [x]).length) : (l ++ [x]).getD j z = if j < l.length then l.getD j z else x := by
  rw [List.getD_eq_getElem?_getD, List.getD_eq_getElem?_getD]
  split
  · rename_i h; rw [List.getElem?_append_left h]
  · rename_i h
    rw [List.length_append, List.length_singleton] at hj
    rw [List.getElem?_append_right (by omega), show j - l.length = 0 from by omega]
    rfl
theorem nd_one {P : Nat → Prop} {d : Nat} {w : World} {cs : Array Value} {t : Tr d} (h : NdAt P d w cs t) : ∀ u ∈ cs.toList, u.oneCell' = true := by
  obtain ⟨aA, ac, kA, kc, rfl, _⟩ := h.parts
  intro u hu
  simp only [ndcs, List.mem_cons, List.not_mem_nil, or_false] at hu
  rcases hu with rfl | rfl | rfl | rfl <;> rfl
/-! A text under way. -/
/-- The bytes of a text under way, in a row of one's own, or none yet. -/
def Wd (w : World) (b : Nat) (v : Value) (ws : List UInt8) : Prop := (v = .slice none 0 0 ∧ ws = []) ∨ ∃ g cap, v = .slice (some ⟨g, 0, none⟩) ws.length cap ∧ Own w b g ws.length cap ws
theorem Wd.nil (w : World) (b : Nat) : Wd w b (.slice none 0 0) [] := .inl ⟨rfl, rfl⟩
theorem Wd.frame {w W : World} {b : Nat} {v : Value} {ws : List UInt8} (h : Wd w b v ws) (hf : ∀ q, blk v = some q → q < w.heap.size → W.heap[q]? = w.heap[q]?) : Wd W b v ws := by
  rcases h with h | ⟨g, cap, rfl, h2⟩
  · exact .inl h
  · exact .inr ⟨g, cap, rfl, h2.kept (hf g rfl h2.lt)⟩
theorem Wd.blk_ge {w : World} {b : Nat} {v : Value} {ws : List UInt8} (h : Wd w b v ws) (q : Nat) (hq : blk v = some q) : b ≤ q ∧ q < w.heap.size := by
  rcases h with ⟨rfl, _⟩ | ⟨g, cap, rfl, h2⟩
  · cases hq
  · cases hq
    exact ⟨h2.ge, h2.lt⟩
theorem Wd.shape {w : World} {b : Nat} {v : Value} {ws : List UInt8} (h : Wd w b v ws) : ∃ A c, v = .slice A ws.length c ∧ BytesAt w A ws ∧ (ws.length = 0 → A = none ∧ c = 0 ∨ ∃ x, A = some x) := by
  rcases h with ⟨rfl, rfl⟩ | ⟨g, cap, rfl, h2⟩
  · exact ⟨none, 0, rfl, fun h => absurd h (by simp), fun _ => .inl ⟨rfl, rfl⟩⟩
  · exact ⟨_, cap, rfl, h2.bytes, fun _ => .inr ⟨_, rfl⟩⟩
theorem info5n : ∃ i, Tryz.prog.info? 5 = some i ∧ i.size = 1 := by
  obtain ⟨i0, hi, hz0, hz1, hz2⟩ := info_parts info5
  exact ⟨i0, hi, hz1⟩
theorem run_wd (ty : TypeId) {w : World} {b : Nat} {v : Value} {ws s : List UInt8} (h : Wd w b v ws) (hn : ws.length + s.length ≤ 1000000) (hb : b ≤ w.heap.size) :
    ∃ v' w', (Builtin.append_ #[47, 9] ty #[v, .string (asS s)]).run Tryz.prog w = .ok v' w' ∧ Wd w' b v' (ws ++ s) ∧ w.grownBy w' (blk v) ∧ (blk v' = blk v ∨ blk v' = some w.heap.size) := by
  rcases h with ⟨rfl, rfl⟩ | ⟨g, cap, rfl, h2⟩
  · by_cases h0 : s = []
    · subst h0
      obtain ⟨i, hi, hz⟩ := info5n
      refine ⟨.slice none 0 0, w, ?_, .inl ⟨rfl, rfl⟩, ⟨rfl, rfl, rfl, Nat.le_refl _, fun _ _ _ => rfl⟩, .inl rfl⟩
      rw [show asS [] = ByteArray.empty from rfl]
      simp [Builtin.append_, run_underlying Tryz.underlying47, sizeOf, typeInfo, hi, hz, Builtin.lenOf, Builtin.firstCells]
    · have hp : 0 < s.length := List.length_pos_iff.2 h0
      obtain ⟨cap, w', k1, k2, k3⟩ := run_nilB (b := b) 9 ty (.string (asS s)) (src_str w s s.length rfl) hp (by simp at hn; omega) hb
      exact ⟨_, w', k1, .inr ⟨_, cap, rfl, k2⟩, ⟨k3.os, k3.tape, k3.output, k3.size, fun k hk _ => k3.block k hk⟩, .inr rfl⟩
  · obtain ⟨g', cap', w', k1, k2, k3, k4⟩ := h2.run_app 9 ty (.string (asS s)) (src_str w s s.length rfl) (by omega) hb
    refine ⟨_, w', k1, .inr ⟨g', cap', by rw [List.length_append], by rw [List.length_append]; exact k2⟩, k3, ?_⟩
    rcases k4 with rfl | rfl
    · exact .inl rfl
    · exact .inr rfl
theorem wpList_wd {ops : Array Oper} {rest : List Oper} {o : Oper} {a : Act} {w : World} {Q : Exit → Act → World → Prop} (hgd : o.guard = none) (s x : Operand)
    (ho : o.op = .call { callee := .builtin .append, args := #[s, x], argTypes := #[47, 9] })
    (b : Nat) (v : Value) (ws l : List UInt8) (hs : a.eval s = v) (hx : a.eval x = .string (asS l)) (hown : Wd w b v ws) (hn : ws.length + l.length ≤ 1000000) (hb : b ≤ w.heap.size)
    (h : ∀ v' w', Wd w' b v' (ws ++ l) → w.grownBy w' (blk v) → (blk v' = blk v ∨ blk v' = some w.heap.size) → wpList Tryz.prog ops Q rest (a.put o.dst v') w') : wpList Tryz.prog ops Q (o :: rest) a w := by
  refine wpList_plain hgd fun _ hK => ?_
  obtain ⟨v', w', hr, h2, h3, h4⟩ := run_wd o.type hown hn hb
  unfold Oper.wp execOp
  simp only [ho, resolve, invoke, builtin, Sem.run_bind, Sem.run_pure, Result.andThen_ok, List.map_toArray, List.map_cons, List.map_nil, hs, hx, hr]
  exact hK _ _ (h v' w' h2 h3 h4)
end Go.Proofs.YtlgkbdebpnbndaaGreatDoor
