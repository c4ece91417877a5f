
/- The reference's reader: an element; what it is, place by place, and how things stand while it is read. -/
import Derived.Test.YthjibliaofmlhaaGreatDoorXmRKid
import Derived.Test.YthjibliaofmlhaaGreatDoorXmRAtt
import Derived.Test.YthjibliaofmlhaaGreatDoorXmElM
namespace Go.Proofs.YthjibliaofmlhaaGreatDoor
set_option linter.unusedVariables false
set_option linter.unusedSimpArgs false
open Go.RowKit Go.BigFrame

theorem ret_nd1 {fn : Func} {p : Tmp} (h : fn.results = #[.cell p 25]) (tmps : Array Value) (w : World) (b : Nat) (cs : Array Value) (hz : cs.size = 4) (fr : Nat × Nat) (hp : tmps.getD p undef = .pointer (some ⟨b, 0, none⟩)) (hrow : w.heap[b]? = some (.cells cs 25 fr)) :
    (results fn tmps).run Tryz.prog w = .ok (.agg cs) w :=
  results_cell_row h tmps w b 25 cs fr _ hp hrow Tryz.underlying25 rfl (by rw [hz]; exact infoN)
/-- How things stand while an element is read. -/
structure ErS (R g4 g5 : Nat) (w : World) (A B C D : Value) (s : List UInt8) (q m e : Nat) (X : World) : Prop where
  rr : Rr X R s q m e
  to : w.grownBy X (some R)
  r4 : X.heap[g4]? = some (.cells #[.string ⟨#[]⟩, .slice none 0 0, .string ⟨#[]⟩, .slice none 0 0] 25 (0, 0))
  r5 : X.heap[g5]? = some (.cells #[A, B, C, D] 25 (0, 0))
  o1 : A.oneCell' = true
  o2 : B.oneCell' = true
  o3 : C.oneCell' = true
  o4 : D.oneCell' = true
  n4 : R ≠ g4
  n5 : R ≠ g5
  n45 : g4 ≠ g5
  b4 : w.heap.size ≤ g4
  b5 : w.heap.size ≤ g5
theorem ErS.call {R g4 g5 : Nat} {w : World} {A B C D : Value} {s : List UInt8} {q m e q' m' e' : Nat} {X Y : World} (h : ErS R g4 g5 w A B C D s q m e X) (hg : X.grownBy Y (some R)) (hr : Rr Y R s q' m' e') : ErS R g4 g5 w A B C D s q' m' e' Y :=
  ⟨hr, h.to.trans hg, to_row hg h.r4 (Ne.symm h.n4), to_row hg h.r5 (Ne.symm h.n5), h.o1, h.o2, h.o3, h.o4, h.n4, h.n5, h.n45, h.b4, h.b5⟩
theorem ErS.below {R g4 g5 : Nat} {w : World} {A B C D : Value} {s : List UInt8} {q m e : Nat} {X Y : World} (h : ErS R g4 g5 w A B C D s q m e X) (hb : Below X.heap.size X Y) : ErS R g4 g5 w A B C D s q m e Y := h.call (to_below hb) (h.rr.below hb)
theorem ErS.far {R g4 g5 B0 : Nat} {w : World} {A B C D : Value} {s : List UInt8} {q m e q' m' e' : Nat} {X Y : World} (h : ErS R g4 g5 w A B C D s q m e X) (hf : FarR B0 R X Y) (hr : Rr Y R s q' m' e') (h4 : g4 < B0) (h5 : g5 < B0) (hw : w.heap.size ≤ B0) : ErS R g4 g5 w A B C D s q' m' e' Y :=
  ⟨hr, hf.to h.to hw, (hf.block g4 h4 (Ne.symm h.n4)).trans h.r4, (hf.block g5 h5 (Ne.symm h.n5)).trans h.r5, h.o1, h.o2, h.o3, h.o4, h.n4, h.n5, h.n45, h.b4, h.b5⟩
theorem ErS.st {R g4 g5 : Nat} {w : World} {A B C D : Value} {s : List UInt8} {q m e : Nat} {X : World} (h : ErS R g4 g5 w A B C D s q m e X) : (storeI 25 (.pointer (some ⟨g4, 0, none⟩)) (.agg #[A, B, C, D])).run Tryz.prog X = .ok () (putM X g4 #[A, B, C, D]) := storeM_row infoN A B C D h.o1 h.o2 h.o3 h.o4 h.r4 rfl
theorem ErS.fin {R g4 g5 d : Nat} {w : World} {A B C D : Value} {s : List UInt8} {q m e : Nat} {X : World} {t : Tr d} (h : ErS R g4 g5 w A B C D s q m e X) (hn : NdAt (fun g => w.heap.size ≤ g ∧ g ≠ g4) d X #[A, B, C, D] t) :
    w.grownBy (putM X g4 #[A, B, C, D]) (some R) ∧ Rr (putM X g4 #[A, B, C, D]) R s q m e ∧ (putM X g4 #[A, B, C, D]).heap[g4]? = some (.cells #[A, B, C, D] 25 (0, 0)) ∧ NdAt (fun g => w.heap.size ≤ g) d (putM X g4 #[A, B, C, D]) #[A, B, C, D] t := by
  have ho := putM_only X g4 #[A, B, C, D]
  exact ⟨grown_own h.to (to_only ho) (fun q hq => by injection hq with hq; have := h.b4; omega), (ho.block R h.n4).trans h.rr, putM_row h.r4 rfl, hn.frame (Nat.le_of_eq ho.size.symm) fun q hq _ => ⟨ho.block q hq.2, hq.1⟩⟩
theorem ErS.cells {R g4 g5 : Nat} {w : World} {A B C D : Value} {s : List UInt8} {q m e : Nat} {X : World} (h : ErS R g4 g5 w A B C D s q m e X) : X.cell? ⟨g5, 0, none⟩ = some A ∧ X.cell? ⟨g5, 1, none⟩ = some B ∧ X.cell? ⟨g5, 2, none⟩ = some C ∧ X.cell? ⟨g5, 3, none⟩ = some D ∧ X.cell? ⟨R, 3, none⟩ = some (.int .i64 e) :=
  ⟨cell_of_row _ _ _ _ _ _ h.r5, cell_of_row _ _ _ _ _ _ h.r5, cell_of_row _ _ _ _ _ _ h.r5, cell_of_row _ _ _ _ _ _ h.r5, h.rr.e⟩
/-! An element, place by place. -/
/-- The kids till now, what is left, and what it comes to. -/
structure KR (d lev : Nat) (VK : Except Nat (List (Tr d) × List UInt8 × Nat)) (N : Nat) (s : List UInt8) (ks : List (Tr d)) (q m e : Nat) : Prop where
  how : (e = 0 ∧ q ≤ s.length ∧ kidW d (elX d lev) ks (s.drop q) m = VK ∧ m ≤ 4096 ∧ TxtLast d ks ∧ ks.length + (s.drop q).length ≤ N ∧ ltT d ks + (s.drop q).length ≤ N) ∨ (VK = .error e ∧ (e = 3 ∨ e = 5 ∨ e = 9))
/-- A text is said. -/
theorem KR.said {d lev : Nat} {VK : Except Nat (List (Tr d) × List UInt8 × Nat)} {N : Nat} {s : List UInt8} {ks ks' : List (Tr d)} {q q' m m' e' R B : Nat} {x : List UInt8} {w w' : World} {v' : Value} (hgo : (match sayX d ks x m with
      | .error e => .error e
      | .ok (ks2, m2) => kidW d (elX d lev) ks2 (s.drop q') m2) = VK) (hq : q' ≤ s.length) (hks : ks.length + (s.drop q).length ≤ N) (hlt : ltT d ks + (s.drop q).length ≤ N) (hx : x.length + (s.drop q').length ≤ (s.drop q).length) (hx2 : x ≠ [] → (s.drop q').length < (s.drop q).length) (h : Said d ks x m s q' R B w v' ks' m' e' w') : KR d lev VK N s ks' q' m' e' := by
  refine ⟨?_⟩
  rcases h.says with ⟨h1, h2, h3, h4, h5, h6⟩ | ⟨h1, h2⟩
  · rw [h2] at hgo
    refine .inl ⟨h1, hq, hgo, h3, h4, ?_, by omega⟩
    by_cases hxe : x = []
    · rw [if_pos hxe] at h5
      omega
    · rw [if_neg hxe] at h5
      have := hx2 hxe
      omega
  · rw [h2] at hgo
    exact .inr ⟨by rw [h1]; exact hgo.symm, .inl h1⟩
theorem KR.elem {d lev : Nat} {VK : Except Nat (List (Tr d) × List UInt8 × Nat)} {N : Nat} {s : List UInt8} {ks : List (Tr d)} {q m q' m2 e1 : Nat} {t : Tr d} (hk : VK = (match elX d lev (s.drop q) m with
      | .error e => .error e
      | .ok (t, l2, m2) => kidW d (elX d lev) (ks ++ [t]) l2 m2)) (hm : m ≤ 4096) (hq : q ≤ s.length) (hks : ks.length + (s.drop q).length ≤ N) (hlt : ltT d ks + (s.drop q).length ≤ N)
    (hh : (e1 = 0 ∧ elX d lev (s.drop q) m = .ok (t, s.drop q', m2) ∧ m2 ≤ 4096 ∧ q' ≤ s.length) ∨ (elX d lev (s.drop q) m = .error e1 ∧ (e1 = 3 ∨ e1 = 5 ∨ e1 = 9))) : KR d lev VK N s (ks ++ [t]) q' m2 e1 ∧ (e1 = 0 → q < q' ∧ q' ≤ s.length) := by
  rcases hh with ⟨h1, h2, h3, h4⟩ | ⟨h1, h2⟩
  · have hs := (el_sh d lev _ _ _ _ _ hm h2).1.2
    have hs2 := hs
    rw [List.length_drop, List.length_drop] at hs2
    rw [h2] at hk
    have hn := TxtLast.elem (k0 := ks) (el_name d lev _ _ _ _ _ h2)
    refine ⟨⟨.inl ⟨h1, h4, hk.symm, h3, hn.1, ?_, ?_⟩⟩, fun _ => ⟨by omega, h4⟩⟩
    · simp only [List.length_append, List.length_cons, List.length_nil]
      omega
    · rw [hn.2]
      omega
  · rw [h1] at hk
    exact ⟨⟨.inr ⟨hk, h2⟩⟩, fun e => by omega⟩
/-- The kids' memory, and what lies below it. -/
structure KC (R g5 : Nat) (Y : World) (d : Nat) (v : Value) (ks : List (Tr d)) (X : World) : Prop where
  own : OwnN (fun g => Y.heap.size ≤ g) X d v ks
  big : Y.heap.size ≤ X.heap.size
  far : ∀ g, g < Y.heap.size → g ≠ R → g ≠ g5 → X.heap[g]? = Y.heap[g]?
theorem KC.call {R g5 : Nat} {Y : World} {d : Nat} {v : Value} {ks : List (Tr d)} {X Z : World} (h : KC R g5 Y d v ks X) (hR : R < Y.heap.size) (hg : X.grownBy Z (some R)) : KC R g5 Y d v ks Z :=
  ⟨h.own.to hg (fun q hq => by have h9 : Y.heap.size ≤ q := hq; omega), Nat.le_trans h.big hg.size, fun g h1 h2 h3 => (hg.block g (Nat.lt_of_lt_of_le h1 h.big) (fun e => h2 (by injection e))).trans (h.far g h1 h2 h3)⟩
theorem KC.put {R g5 : Nat} {Y : World} {d : Nat} {v : Value} {ks : List (Tr d)} {X Z : World} (h : KC R g5 Y d v ks X) (h5 : g5 < Y.heap.size) (ho : Only g5 X Z) : KC R g5 Y d v ks Z :=
  ⟨h.own.frame (Nat.le_of_eq ho.size.symm) (fun q hq _ => ⟨ho.block q (by have h9 : Y.heap.size ≤ q := hq; omega), hq⟩), by rw [ho.size]; exact h.big, fun g h1 h2 h3 => (ho.block g h3).trans (h.far g h1 h2 h3)⟩
theorem KC.grow {R g5 : Nat} {Y : World} {d : Nat} {v v' : Value} {ks ks' : List (Tr d)} {X Z : World} (h : KC R g5 Y d v ks X) (ho : OwnN (fun g => Y.heap.size ≤ g) Z d v' ks') (hf : FarR Y.heap.size R X Z) : KC R g5 Y d v' ks' Z :=
  ⟨ho, hf.size, fun g h1 h2 h3 => (hf.block g h1 h2).trans (h.far g h1 h2 h3)⟩
end Go.Proofs.YthjibliaofmlhaaGreatDoor
