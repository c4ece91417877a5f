
/- A set of names: what it holds, and how it is asked and written. -/
import Derived.Test.YthjibliaofmlhaaGreatDoorXmElM
import Derived.Maps.OwnSet
namespace Go.Proofs.YthjibliaofmlhaaGreatDoor
set_option linter.unusedVariables false
set_option linter.unusedSimpArgs false
open Go.RowKit Go.BigFrame

/-- The set in block B holds these names, and is of n entries at most. -/
def SetN (w : World) (B n : Nat) (ns : List (List UInt8)) : Prop := ∃ D : DataW Unit, w.ownsMap Tryz.prog 9 unitElem B n D ∧ ∀ x : List UInt8, Maps.has D (.string x) = ns.contains x
theorem keyS : Maps.Keyed Tryz.prog 9 := Maps.string_keyed Tryz.underlying9
theorem zeroU (w : World) : (zeroValue 106).run Tryz.prog w = .ok (.agg #[]) w := by kernel_rfl
theorem keyN (x : List UInt8) (h : x.length ≤ 1000000) : keyOf Tryz.prog 9 (.string (asS x)) = some (.string x) :=
  WideMaps.keyOf_string_mk Tryz.underlying9 (s := asS x) (by rw [asS_size]; unfold maxLen; omega)
theorem SetN.made (w : World) : SetN (w.alloc (.map #[] 0)) w.heap.size 0 [] := ⟨_, World.ownsMap_made _ _ _ _, fun x => rfl⟩
theorem SetN.to {w w' : World} {B n : Nat} {ns : List (List UInt8)} {R : Option Nat} (h : SetN w B n ns) (hg : w.grownBy w' R) (hne : some B ≠ R) : SetN w' B n ns := by
  obtain ⟨D, h1, h2⟩ := h
  exact ⟨D, h1.kept hg hne, h2⟩
theorem SetN.same {w W : World} {B n : Nat} {ns : List (List UInt8)} (h : SetN w B n ns) (hb : W.heap[B]? = w.heap[B]?) : SetN W B n ns := by
  obtain ⟨D, ⟨es, c, h1, r⟩, h2⟩ := h
  exact ⟨D, ⟨es, c, hb.trans h1, r⟩, h2⟩
theorem SetN.lt {w : World} {B n : Nat} {ns : List (List UInt8)} (h : SetN w B n ns) : B < w.heap.size := by
  obtain ⟨D, h1, h2⟩ := h
  exact h1.lt
theorem SetN.block {w : World} {B n : Nat} {ns : List (List UInt8)} (h : SetN w B n ns) : ∃ es c, w.heap[B]? = some (.map es c) := by
  obtain ⟨D, ⟨es, c, hb, _⟩, h2⟩ := h
  exact ⟨es, c, hb⟩
theorem wpList_asked {w : World} {ops : Array Oper} {rest : List Oper} {o : Oper} {a : Act} {Q : Exit → Act → World → Prop} (hg : o.guard = none) (m x : Operand) (hop : o.op = Op.lookup 105 m x true)
    (B n : Nat) (ns : List (List UInt8)) (hm : a.eval m = .map (some B)) (h : SetN w B n ns) (X : ByteArray) (nm : List UInt8) (hX : X = asS nm) (hx : a.eval x = .string X) (hl : nm.length ≤ 1000000)
    (hK : wpList Tryz.prog ops Q rest (a.put o.dst (.tuple #[.agg #[], .bool (ns.contains nm)])) w) : wpList Tryz.prog ops Q (o :: rest) a w := by
  obtain ⟨D, h1, h2⟩ := h
  refine wpList_lookup_own_unit w hg m x _ hop 9 106 keyS Tryz.underlying105 (zeroU _) B n D hm h1 _ _ hx (by rw [hX]; exact keyN nm hl) ?_
  rw [h2]
  exact hK
theorem wpList_noted {w : World} {ops : Array Oper} {rest : List Oper} {o : Oper} {a : Act} {Q : Exit → Act → World → Prop} (hg : o.guard = none) (m x v : Operand) (hop : o.op = Op.mapUpdate 105 m x v)
    (B n : Nat) (ns : List (List UInt8)) (hm : a.eval m = .map (some B)) (h : SetN w B n ns) (hn : n ≤ 1000000) (X : ByteArray) (nm : List UInt8) (hX : X = asS nm) (hx : a.eval x = .string X) (hv : a.eval v = .agg #[]) (hl : nm.length ≤ 1000000)
    (hK : ∀ w', SetN w' B (n + 1) (ns ++ [nm]) → w.grownBy w' (some B) → wpList Tryz.prog ops Q rest (a.put o.dst undef) w') : wpList Tryz.prog ops Q (o :: rest) a w := by
  obtain ⟨D, h1, h2⟩ := h
  refine wpList_mapUpdate_own w hg m x v _ hop 9 106 keyS Tryz.underlying105 unitElem B n D hm h1 (by unfold maxLen; omega) _ _ _ hx hv (by rw [hX]; exact keyN nm hl) _ [] unitElem_mk ?_
  intro w' hw hgr
  refine hK w' ⟨_, hw, fun y => ?_⟩ hgr
  by_cases hy : y = nm
  · subst hy
    rw [Maps.has_put_same h1.isMap (show WideAt.IsKeyLit (Lit.string y) from trivial)]
    simp
  · rw [Maps.has_put_other (fun e => hy (by injection e)), h2]
    simp [hy]
/-! Attributes, one by one. -/
theorem atC_fuel : ∀ (n f g : Nat) (al : List HdV) (l : List UInt8) (m : Nat), l.length ≤ n → l.length + 1 ≤ f → l.length + 1 ≤ g → atC f al l m = atC g al l m := by
  intro n
  induction n with
  | zero =>
    intro f g al l m h0 hf hg
    have : l = [] := List.length_eq_zero_iff.1 (by omega)
    subst this
    obtain ⟨f, rfl⟩ : ∃ f', f = f' + 1 := ⟨f - 1, by omega⟩
    obtain ⟨g, rfl⟩ : ∃ g', g = g' + 1 := ⟨g - 1, by omega⟩
    simp [atC]
  | succ n ih =>
    intro f g al l m h0 hf hg
    obtain ⟨f, rfl⟩ : ∃ f', f = f' + 1 := ⟨f - 1, by omega⟩
    obtain ⟨g, rfl⟩ : ∃ g', g = g' + 1 := ⟨g - 1, by omega⟩
    rw [atC, atC]
    split
    · rfl
    · split
      · rfl
      · rename_i a la ma ha
        have hs := (att_sh ha).1.le (dw_suf whX l)
        have := hs.2
        exact ih f g _ _ _ (by omega) (by omega) (by omega)
def atL (al : List HdV) (l : List UInt8) (m : Nat) := atC (l.length + 1) al l m
theorem atL_stop {al : List HdV} {l : List UInt8} {m : Nat} (h : (l.dropWhile whX).length = l.length ∨ nmX (l.dropWhile whX) = []) : atL al l m = .ok (al, l.dropWhile whX, m) := by
  unfold atL
  rw [atC, if_pos h]
theorem att_nm {al : List HdV} {l : List UInt8} {m : Nat} (h : nmX l ≠ []) : attX al l m = (match vaX (nrX l) with
    | none => .error 5
    | some (v, r) => if (al.map (·.name)).contains (nmX l) then .error 5 else if m + 1 ≤ 4096 then .ok (⟨nmX l, v⟩, r, m + 1) else .error 3) := by
  obtain ⟨h1, h2, h3⟩ := nm_some h
  rw [att_va, h1, h2, h3]
  rfl
theorem atL_step {al : List HdV} {l : List UInt8} {m : Nat} (h1 : (l.dropWhile whX).length < l.length) (h2 : nmX (l.dropWhile whX) ≠ []) : atL al l m = (match vaX (nrX (l.dropWhile whX)) with
    | none => .error 5
    | some (v, r) => if (al.map (·.name)).contains (nmX (l.dropWhile whX)) then .error 5 else if m + 1 ≤ 4096 then atL (al ++ [⟨nmX (l.dropWhile whX), v⟩]) r (m + 1) else .error 3) := by
  unfold atL
  rw [atC, if_neg (by rintro (h | h); omega; exact h2 h)]
  have ha := att_nm (al := al) (m := m) h2
  cases hv : vaX (nrX (l.dropWhile whX)) with
  | none => rw [hv] at ha; rw [ha]
  | some q =>
    obtain ⟨v, r⟩ := q
    rw [hv] at ha
    simp only at ha ⊢
    by_cases hc : (al.map (·.name)).contains (nmX (l.dropWhile whX)) = true
    · rw [if_pos hc] at ha ⊢
      rw [ha]
    · rw [if_neg hc] at ha ⊢
      by_cases hm : m + 1 ≤ 4096
      · rw [if_pos hm] at ha ⊢
        rw [ha]
        have hs := (att_sh ha).1.2
        exact atC_fuel _ _ _ _ _ _ (Nat.le_refl _) (by omega) (by omega)
      · rw [if_neg hm] at ha ⊢
        rw [ha]
theorem va_sh {al : List HdV} {l : List UInt8} {m : Nat} {v r : List UInt8} (h : nmX l ≠ []) (hv : vaX (nrX l) = some (v, r)) : r <:+ l ∧ r.length < l.length := by
  have ha := att_nm (al := []) (m := 0) h
  rw [hv] at ha
  simp at ha
  exact (att_sh ha).1
theorem nr_nil {l : List UInt8} (h : nmX l = []) : nrX l = l := by
  unfold nmX at h
  unfold nrX
  rw [List.take_eq_nil_iff] at h
  rcases h with h | h
  · rw [h]; rfl
  · rw [h]; simp
theorem OwnH.to {w W : World} {b R : Nat} {v : Value} {l : List HdV} (h : OwnH w b v l) (hg : w.grownBy W (some R)) (hR : R < b) : OwnH W b v l := by
  rcases h with h | ⟨g, cap, h1, h2⟩
  · exact .inl h
  · exact .inr ⟨g, cap, h1, h2.kept (hg.block g h2.lt (fun e => by have := h2.ge; injection e with e; omega))⟩
theorem OwnH.hdsP {w : World} {b : Nat} {v : Value} {l : List HdV} (h : OwnH w b v l) {b0 : Nat} (hb : b0 ≤ b) : ∃ A c, v = .slice A l.length c ∧ HdsP (fun q => b0 ≤ q) w A l := by
  have hv := h.hds
  obtain ⟨A, c, e, hat⟩ := hv
  refine ⟨A, c, e, hat, fun h0 x hx => ?_⟩
  rcases h with ⟨_, rfl⟩ | ⟨g, cap, e2, h2⟩
  · simp at h0
  · rw [e2] at e
    injection e with e3
    rw [hx] at e3
    injection e3 with e3
    have := h2.ge
    rw [← e3]
    show b0 ≤ g
    omega
/-- How things stand between two attributes. -/
structure AS (V : Except Nat (List HdV × List UInt8 × Nat)) (R B : Nat) (l : List UInt8) (w : World) (v : Value) (al : List HdV) (l' : List UInt8) (m' : Nat) (X : World) : Prop where
  rd : Rd X R l' m'
  to : w.grownBy X (some R)
  own : OwnH X (B + 1) v al
  set : SetN X B al.length (al.map (·.name))
  go : atL al l' m' = V
  suf : l' <:+ l
  max : m' ≤ 4096
  cnt : al.length + l'.length ≤ l.length
  big : B + 1 ≤ X.heap.size
theorem AS.call {V : Except Nat (List HdV × List UInt8 × Nat)} {R B : Nat} {l : List UInt8} {w : World} {v : Value} {al : List HdV} {l' : List UInt8} {m' : Nat} {X Y : World} (h : AS V R B l w v al l' m' X) (hR : R < B) (hg : X.grownBy Y (some R)) :
    w.grownBy Y (some R) ∧ OwnH Y (B + 1) v al ∧ SetN Y B al.length (al.map (·.name)) ∧ B + 1 ≤ Y.heap.size :=
  ⟨h.to.trans hg, h.own.to hg (by omega), h.set.to hg (fun e => by injection e with e; omega), Nat.le_trans h.big hg.size⟩
end Go.Proofs.YthjibliaofmlhaaGreatDoor
