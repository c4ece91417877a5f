
/- The reference's reader: an element; what it is, place by place, and how things stand while it is read. -/
import Derived.Test.YthjibliaofmlhaaGreatDoorXmRKid
import Derived.Test.YthjibliaofmlhaaGreatDoorXmRAtt
import Derived.Test.YthjibliaofmlhaaGreatDoorXmElM
namespace Go.Proofs.YthjibliaofmlhaaGreatDoor
set_option linter.unusedVariables false
set_option linter.unusedSimpArgs false
open Go.RowKit Go.BigFrame

theorem ret_nd1 {fn : Func} {p : Tmp} (h : fn.results = #[.cell p 25]) (tmps : Array Value) (w : World) (b : Nat) (cs : Array Value) (hz : cs.size = 4) (fr : Nat × Nat) (hp : tmps.getD p undef = .pointer (some ⟨b, 0, none⟩)) (hrow : w.heap[b]? = some (.cells cs 25 fr)) :
    (results fn tmps).run Tryz.prog w = .ok (.agg cs) w :=
  results_cell_row h tmps w b 25 cs fr _ hp hrow Tryz.underlying25 rfl (by rw [hz]; exact infoN)
theorem src_hd2 (w : World) (o : Obj) (h : HdV) (N V : ByteArray) (hN : N = asS h.name) (hV : V = asS h.value) (c : Nat) : Src Tryz.prog 2 22 (.slice (some ⟨w.heap.size + 1, 0, none⟩) 1 c) [h].length (hdvs [h]) ((w.alloc o).alloc (.cells #[.string N, .string V] 59)) := by
  subst hN hV
  exact src_litK hdK _ (w.heap.size + 1) 1 c (hdvs [h]) rfl (heap_second w _ _) (fun u hu => by
    simp only [hdvs, List.flatMap_cons, List.flatMap_nil, List.append_nil, List.mem_cons, List.not_mem_nil, or_false] at hu
    rcases hu with rfl | rfl <;> rfl)
/-- What is told of an element. -/
def ErPost (d : Nat) (V : Except Nat (Tr d × List UInt8 × Nat)) (s : List UInt8) (R : Nat) (w : World) (x : Ending) (w' : World) : Prop := w.grownBy w' (some R) ∧
  ∃ (A B C D : Value) (t : Tr d) (q m2 e : Nat), x = .returned (.agg #[A, B, C, D]) ∧ NdAt (fun g => w.heap.size ≤ g) d w' #[A, B, C, D] t ∧ Rr w' R s q m2 e ∧
    ((e = 0 ∧ V = .ok (t, s.drop q, m2) ∧ m2 ≤ 4096 ∧ q ≤ s.length) ∨ (V = .error e ∧ (e = 3 ∨ e = 5 ∨ e = 9)))
/-- element does what it is to, so many levels being left. -/
def ErOk (d lev : Nat) : Prop := ∀ (s : List UInt8) (p m R : Nat) (w : World), s.length ≤ 65536 → p ≤ s.length → m ≤ 4096 → Rr w R s p m 0 →
  Calls Tryz.prog 41 #[.pointer (some ⟨R, 0, none⟩), .int .i64 ((17 - lev : Nat) : Int)] w (ErPost d (elX d lev (s.drop p) m) s R w)
/-- How things stand while an element is read. -/
structure ErS (R g4 g5 : Nat) (w : World) (A B C D : Value) (s : List UInt8) (q m e : Nat) (X : World) : Prop where
  rr : Rr X R s q m e
  to : w.grownBy X (some R)
  r4 : X.heap[g4]? = some (.cells #[.string ⟨#[]⟩, .slice none 0 0, .string ⟨#[]⟩, .slice none 0 0] 25 (0, 0))
  r5 : X.heap[g5]? = some (.cells #[A, B, C, D] 25 (0, 0))
  o1 : A.oneCell' = true
  o2 : B.oneCell' = true
  o3 : C.oneCell' = true
  o4 : D.oneCell' = true
  n4 : R ≠ g4
  n5 : R ≠ g5
  n45 : g4 ≠ g5
  b4 : w.heap.size ≤ g4
  b5 : w.heap.size ≤ g5
theorem ErS.call {R g4 g5 : Nat} {w : World} {A B C D : Value} {s : List UInt8} {q m e q' m' e' : Nat} {X Y : World} (h : ErS R g4 g5 w A B C D s q m e X) (hg : X.grownBy Y (some R)) (hr : Rr Y R s q' m' e') : ErS R g4 g5 w A B C D s q' m' e' Y :=
  ⟨hr, h.to.trans hg, to_row hg h.r4 (Ne.symm h.n4), to_row hg h.r5 (Ne.symm h.n5), h.o1, h.o2, h.o3, h.o4, h.n4, h.n5, h.n45, h.b4, h.b5⟩
theorem ErS.below {R g4 g5 : Nat} {w : World} {A B C D : Value} {s : List UInt8} {q m e : Nat} {X Y : World} (h : ErS R g4 g5 w A B C D s q m e X) (hb : Below X.heap.size X Y) : ErS R g4 g5 w A B C D s q m e Y := h.call (to_below hb) (h.rr.below hb)
theorem ErS.put5 {R g4 g5 : Nat} {w : World} {A B C D A' B' C' D' : Value} {s : List UInt8} {q m e : Nat} {X Y : World} (h : ErS R g4 g5 w A B C D s q m e X) (ho : Only g5 X Y) (hr : Y.heap[g5]? = some (.cells #[A', B', C', D'] 25 (0, 0))) (o1 : A'.oneCell' = true) (o2 : B'.oneCell' = true) (o3 : C'.oneCell' = true) (o4 : D'.oneCell' = true) : ErS R g4 g5 w A' B' C' D' s q m e Y :=
  ⟨(ho.block R h.n5).trans h.rr, grown_own h.to (to_only ho) (fun q hq => by injection hq with hq; have := h.b5; omega), (ho.block g4 h.n45).trans h.r4, hr, o1, o2, o3, o4, h.n4, h.n5, h.n45, h.b4, h.b5⟩
theorem ErS.far {R g4 g5 B0 : Nat} {w : World} {A B C D : Value} {s : List UInt8} {q m e q' m' e' : Nat} {X Y : World} (h : ErS R g4 g5 w A B C D s q m e X) (hf : FarR B0 R X Y) (hr : Rr Y R s q' m' e') (h4 : g4 < B0) (h5 : g5 < B0) (hw : w.heap.size ≤ B0) : ErS R g4 g5 w A B C D s q' m' e' Y :=
  ⟨hr, hf.to h.to hw, (hf.block g4 h4 (Ne.symm h.n4)).trans h.r4, (hf.block g5 h5 (Ne.symm h.n5)).trans h.r5, h.o1, h.o2, h.o3, h.o4, h.n4, h.n5, h.n45, h.b4, h.b5⟩
theorem ErS.ld {R g4 g5 : Nat} {w : World} {A B C D : Value} {s : List UInt8} {q m e : Nat} {X : World} (h : ErS R g4 g5 w A B C D s q m e X) : (loadI 25 (.pointer (some ⟨g5, 0, none⟩))).run Tryz.prog X = .ok (.agg #[A, B, C, D]) X := loadN_run h.r5 rfl
theorem ErS.st {R g4 g5 : Nat} {w : World} {A B C D : Value} {s : List UInt8} {q m e : Nat} {X : World} (h : ErS R g4 g5 w A B C D s q m e X) : (storeI 25 (.pointer (some ⟨g4, 0, none⟩)) (.agg #[A, B, C, D])).run Tryz.prog X = .ok () (putM X g4 #[A, B, C, D]) := storeM_row infoN A B C D h.o1 h.o2 h.o3 h.o4 h.r4 rfl
theorem ErS.fin {R g4 g5 d : Nat} {w : World} {A B C D : Value} {s : List UInt8} {q m e : Nat} {X : World} {t : Tr d} (h : ErS R g4 g5 w A B C D s q m e X) (hn : NdAt (fun g => w.heap.size ≤ g ∧ g ≠ g4) d X #[A, B, C, D] t) :
    w.grownBy (putM X g4 #[A, B, C, D]) (some R) ∧ Rr (putM X g4 #[A, B, C, D]) R s q m e ∧ (putM X g4 #[A, B, C, D]).heap[g4]? = some (.cells #[A, B, C, D] 25 (0, 0)) ∧ NdAt (fun g => w.heap.size ≤ g) d (putM X g4 #[A, B, C, D]) #[A, B, C, D] t := by
  have ho := putM_only X g4 #[A, B, C, D]
  exact ⟨grown_own h.to (to_only ho) (fun q hq => by injection hq with hq; have := h.b4; omega), (ho.block R h.n4).trans h.rr, putM_row h.r4 rfl, hn.frame (Nat.le_of_eq ho.size.symm) fun q hq _ => ⟨ho.block q hq.2, hq.1⟩⟩
theorem ErS.cells {R g4 g5 : Nat} {w : World} {A B C D : Value} {s : List UInt8} {q m e : Nat} {X : World} (h : ErS R g4 g5 w A B C D s q m e X) : X.cell? ⟨g5, 0, none⟩ = some A ∧ X.cell? ⟨g5, 1, none⟩ = some B ∧ X.cell? ⟨g5, 2, none⟩ = some C ∧ X.cell? ⟨g5, 3, none⟩ = some D ∧ X.cell? ⟨R, 3, none⟩ = some (.int .i64 e) :=
  ⟨cell_of_row _ _ _ _ _ _ h.r5, cell_of_row _ _ _ _ _ _ h.r5, cell_of_row _ _ _ _ _ _ h.r5, cell_of_row _ _ _ _ _ _ h.r5, h.rr.e⟩
/-! An element, place by place. -/
def atsW (al : List HdV) (l : List UInt8) (m : Nat) := atsX (l.length + 1) al l m
theorem atsW_step (al : List HdV) (l : List UInt8) (m : Nat) : atsW al l m =
    if preX [47, 62] (l.dropWhile whX) then .ok (al, true, (l.dropWhile whX).drop 2, m)
    else if preX [62] (l.dropWhile whX) then .ok (al, false, (l.dropWhile whX).drop 1, m)
    else if (l.dropWhile whX).length = l.length then .error 5
    else (match attX al (l.dropWhile whX) m with
      | .error e => .error e
      | .ok (a, l2, m2) => atsW (al ++ [a]) l2 m2) := by
  show atsX (l.length + 1) al l m = _
  rw [atsX]
  split
  · rfl
  · split
    · rfl
    · split
      · rfl
      · cases ha : attX al (l.dropWhile whX) m with
        | error e => rfl
        | ok x =>
          obtain ⟨a, l2, m2⟩ := x
          have := ((att_sh ha).1.le (dw_suf whX l)).2
          exact ats_fuel l.length _ _ _ _ _ (by omega) (by omega) (by omega)
theorem el_nolt {d lev m p : Nat} {s : List UInt8} (h : preX [60] (s.drop p) = false) : elX d lev (s.drop p) m = .error 5 := el_a h
theorem op_eqR {lev m : Nat} {r : List UInt8} : opX lev (60 :: r) m = if !nameX (r.takeWhile latX) then .error 5 else if lev = 0 then .error 9 else if 4096 < m + 1 then .error 3 else
    (match atsW [] (r.dropWhile latX) (m + 1) with
    | .error e => .error e
    | .ok (al, b, l2, m2) => .ok (r.takeWhile latX, al, b, l2, m2)) := rfl
theorem el_noname {d lev m p : Nat} {s : List UInt8} (h : preX [60] (s.drop p) = true) (hn : nameX ((s.drop (p + 1)).takeWhile latX) = false) : elX d lev (s.drop p) m = .error 5 := by
  rw [drop_pre h]
  apply el_err
  rw [op_eqR, hn]
  rfl
theorem el_nolev {d m p : Nat} {s : List UInt8} (h : preX [60] (s.drop p) = true) (hn : nameX ((s.drop (p + 1)).takeWhile latX) = true) : elX d 0 (s.drop p) m = .error 9 := by
  rw [drop_pre h]
  apply el_err
  rw [op_eqR, hn]
  rfl
theorem el_nomore {d lev m p : Nat} {s : List UInt8} (h : preX [60] (s.drop p) = true) (hn : nameX ((s.drop (p + 1)).takeWhile latX) = true) (hl : lev ≠ 0) (hm : ¬ m + 1 ≤ 4096) : elX d lev (s.drop p) m = .error 3 := by
  rw [drop_pre h]
  apply el_err
  rw [op_eqR, hn]
  simp only [Bool.not_true, Bool.false_eq_true, if_false]
  rw [if_neg hl, if_pos (by omega)]
theorem el_go {d lev m p q1 : Nat} {s : List UInt8} (h : preX [60] (s.drop p) = true) (hn : nameX ((s.drop (p + 1)).takeWhile latX) = true) (hl : lev ≠ 0) (hm : m + 1 ≤ 4096) (hq : p + 1 + ((s.drop (p + 1)).takeWhile latX).length = q1) :
    elX (d + 1) lev (s.drop p) m = (match atsW [] (s.drop q1) (m + 1) with
    | .error e => .error e
    | .ok (al, true, l2, m2) => .ok ((((s.drop (p + 1)).takeWhile latX, al, []), []), l2, m2)
    | .ok (al, false, l2, m2) => (match kidW d (elX d (lev - 1)) [] l2 m2 with
      | .error e => .error e
      | .ok (ks, l3, m3) => (match clX ((s.drop (p + 1)).takeWhile latX) l3 with
        | none => .error 5
        | some r => .ok ((((s.drop (p + 1)).takeWhile latX, al, []), ks), r, m3)))) := by
  rw [drop_pre h, elX, op_eqR, hn]
  simp only [Bool.not_true, Bool.false_eq_true, if_false]
  rw [if_neg hl, if_neg (by omega), dw_at, hq]
  cases atsW [] (s.drop q1) (m + 1) with
  | error e => rfl
  | ok x =>
    obtain ⟨al, b, l2, m2⟩ := x
    cases b <;> rfl
theorem kidW_asR {d : Nat} {el : List UInt8 → Nat → Except Nat (Tr d × List UInt8 × Nat)} (hel : Shrinks el) (ks : List (Tr d)) (l : List UInt8) (m : Nat) (hm : m ≤ 4096) (h0 : preX [60, 47] l = false) (h : atAs l = true) : kidW d el ks l m = (match asW false l with
      | .error e => .error e
      | .ok l2 => kidW d el ks l2 m) := by
  have hx : (preX [60, 33, 45, 45] l || preX [60, 63] l) = true := h
  show kidX d el (l.length + 1) ks l m = _
  rw [kidX, h0, hx]
  simp only [Bool.false_eq_true, if_false, if_true]
  have e9 : asX false l.length l = asW false l := rfl
  rw [e9]
  cases ha : asW false l with
  | error e => rfl
  | ok l2 =>
    have hlt : l2.length < l.length := by
      rw [asW_at false h] at ha
      cases hc : asideX l with
      | none => rw [hc] at ha; cases ha
      | some c =>
        rw [hc] at ha
        have h1 := (aside_sh hc).2
        have h2 := (as_sh false _ _ _ ha).length_le
        omega
    exact kidW_of hel _ _ _ _ hm (by omega)
theorem kidW_raw {d : Nat} {el : List UInt8 → Nat → Except Nat (Tr d × List UInt8 × Nat)} (hel : Shrinks el) (ks : List (Tr d)) (l : List UInt8) (m : Nat) (hm : m ≤ 4096) (h0 : preX [60, 47] l = false) (h1 : atAs l = false) (h2 : preX [60, 33, 91, 67, 68, 65, 84, 65, 91] l = true) : kidW d el ks l m = (match untX [93, 93, 62] (l.drop 9) with
      | none => .error 5
      | some q => (match sayX d ks q.1 m with
        | .error e => .error e
        | .ok (ks2, m2) => kidW d el ks2 q.2 m2)) := by
  have hx : (preX [60, 33, 45, 45] l || preX [60, 63] l) = false := h1
  show kidX d el (l.length + 1) ks l m = _
  rw [kidX, h0, hx, h2]
  simp only [Bool.false_eq_true, if_false, if_true]
  cases hu : untX [93, 93, 62] (l.drop 9) with
  | none => rfl
  | some q =>
    simp only
    cases hsy : sayX d ks q.1 m with
    | error e => rfl
    | ok x =>
      obtain ⟨ks2, m2⟩ := x
      have h3 := ((unt_sh (by simp) (show untX [93, 93, 62] (l.drop 9) = some (q.1, q.2) from hu)).le (List.drop_suffix 9 l)).2
      exact kidW_of hel _ _ _ _ (say_le hsy hm) (by omega)
theorem kidW_run {d : Nat} {el : List UInt8 → Nat → Except Nat (Tr d × List UInt8 × Nat)} (hel : Shrinks el) (ks : List (Tr d)) (s : List UInt8) (q m : Nat) (hm : m ≤ 4096) (h1 : preX [60] (s.drop q) = false) : kidW d el ks (s.drop q) m = if runBad s q then .error 5 else (match sayX d ks ((unA ((s.drop q).takeWhile ltB)).getD []) m with
        | .error e => .error e
        | .ok (ks2, m2) => kidW d el ks2 (s.drop (q + ((s.drop q).takeWhile ltB).length)) m2) := by
  have nope : ∀ p : List UInt8, p ≠ [] → p.head? = some 60 → preX p (s.drop q) = false := fun p hp hh => by
    cases p with
    | nil => exact absurd rfl hp
    | cons c r =>
      simp at hh
      subst hh
      cases hd : s.drop q with
      | nil => rfl
      | cons x y =>
        rw [hd] at h1
        have hx : (60 : UInt8) ≠ x := fun e => by rw [← e] at h1; simp [preX] at h1
        have hx2 : ((60 : UInt8) == x) = false := by rw [beq_eq_false_iff_ne]; exact hx
        show (60 :: r).isPrefixOf (x :: y) = false
        rw [List.isPrefixOf_cons_cons, hx2]
        rfl
  show kidX d el ((s.drop q).length + 1) ks (s.drop q) m = _
  rw [kidX, nope [60, 47] (by simp) rfl, nope [60, 33, 45, 45] (by simp) rfl, nope [60, 63] (by simp) rfl, nope [60, 33, 91, 67, 68, 65, 84, 65, 91] (by simp) rfl, h1]
  simp only [Bool.false_eq_true, if_false, Bool.or_self]
  have e1 : (fun x : UInt8 => x != 60) = ltB := rfl
  rw [e1]
  have hrb : runBad s q = ((untX [93, 93, 62] ((s.drop q).takeWhile ltB)).isSome || !(unA ((s.drop q).takeWhile ltB)).isSome || ((s.drop q).dropWhile ltB).isEmpty) := rfl
  rw [← dw_at]
  generalize hdw : (s.drop q).dropWhile ltB = D at hrb ⊢
  cases hu : (untX [93, 93, 62] ((s.drop q).takeWhile ltB)).isSome with
  | true => rw [hu] at hrb; rw [hrb]; simp
  | false =>
    rw [hu] at hrb
    cases he : D.isEmpty with
    | true => rw [he] at hrb; rw [hrb]; simp
    | false =>
      rw [he] at hrb
      simp only [Bool.false_or, Bool.or_false, Bool.false_eq_true, if_false] at hrb ⊢
      cases ha : unA ((s.drop q).takeWhile ltB) with
      | none => rw [ha] at hrb; rw [hrb]; rfl
      | some y =>
        rw [ha] at hrb
        rw [hrb]
        simp only [Option.isSome_some, Bool.not_true, Bool.false_eq_true, if_false, Option.getD_some]
        cases hsy : sayX d ks y m with
        | error e => rfl
        | ok x =>
          obtain ⟨ks2, m2⟩ := x
          have hlt : D.length < (s.drop q).length := by
            have h3 := (tw_take ltB (s.drop q)).2
            rw [← hdw, ← h3, List.length_drop]
            have h4 : 0 < ((s.drop q).takeWhile ltB).length := by
              cases hd : s.drop q with
              | nil => rw [hd] at hdw; have h9 : D = [] := hdw.symm; rw [h9] at he; cases he
              | cons x y =>
                rw [hd] at h1
                have : ltB x = true := by
                  simp only [ltB, bne_iff_ne]
                  exact fun e => by rw [e] at h1; simp [preX] at h1
                simp [List.takeWhile, this]
            have h5 : ((s.drop q).takeWhile ltB).length ≤ (s.drop q).length := (List.takeWhile_prefix _).length_le
            omega
          exact kidW_of hel _ _ _ _ (say_le hsy hm) (by omega)
theorem nd_out {P : Nat → Prop} {X : World} {d : Nat} {nm : List UInt8} {al : List HdV} {A : Option Addr} {ac : Nat} {v : Value} {ks : List (Tr d)} (hh : HdsP P X A al) (ho : OwnN P X d v ks) : NdAt P (d + 1) X #[.string (asS nm), .slice A al.length ac, .string ⟨#[]⟩, v] ((nm, al, []), ks) := by
  obtain ⟨kA, kc, hv, _, hn⟩ := ho.shape
  have hc : ks.length ≤ kc := by rw [hv] at ho; exact ho.cap
  rw [hv]
  exact NdAt.mk (l := (nm, al, [])) hh hn hc
theorem own_one {P : Nat → Prop} {X : World} {d : Nat} {v : Value} {ks : List (Tr d)} (ho : OwnN P X d v ks) : v.oneCell' = true := by
  obtain ⟨kA, kc, hv, _, hn⟩ := ho.shape
  rw [hv]
  rfl
/-- How much is left to be read; nothing, where something was wrong. -/
def rrM (R n : Nat) (w : World) : Nat := match w.cell? ⟨R, 3, none⟩ with
  | some (.int _ e) => if e = 0 then n - rrAt R w + 1 else 0
  | _ => 0
theorem rrM_ok {w : World} {R n p m : Nat} {s : List UInt8} (h : Rr w R s p m 0) : rrM R n w = n - p + 1 := by
  unfold rrM
  rw [h.e, rrAt_eq h]
  rfl
theorem rrM_no {w : World} {R n p m e : Nat} {s : List UInt8} (h : Rr w R s p m e) (he : e ≠ 0) : rrM R n w = 0 := by
  unfold rrM
  rw [h.e]
  simp [he]
/-- The kids till now, what is left, and what it comes to. -/
structure KR (d lev : Nat) (VK : Except Nat (List (Tr d) × List UInt8 × Nat)) (N : Nat) (s : List UInt8) (ks : List (Tr d)) (q m e : Nat) : Prop where
  how : (e = 0 ∧ q ≤ s.length ∧ kidW d (elX d lev) ks (s.drop q) m = VK ∧ m ≤ 4096 ∧ TxtLast d ks ∧ ks.length + (s.drop q).length ≤ N ∧ ltT d ks + (s.drop q).length ≤ N) ∨ (VK = .error e ∧ (e = 3 ∨ e = 5 ∨ e = 9))
/-- A text is said. -/
theorem KR.said {d lev : Nat} {VK : Except Nat (List (Tr d) × List UInt8 × Nat)} {N : Nat} {s : List UInt8} {ks ks' : List (Tr d)} {q q' m m' e' R B : Nat} {x : List UInt8} {w w' : World} {v' : Value} (hgo : (match sayX d ks x m with
      | .error e => .error e
      | .ok (ks2, m2) => kidW d (elX d lev) ks2 (s.drop q') m2) = VK) (hq : q' ≤ s.length) (hks : ks.length + (s.drop q).length ≤ N) (hlt : ltT d ks + (s.drop q).length ≤ N) (hx : x.length + (s.drop q').length ≤ (s.drop q).length) (hx2 : x ≠ [] → (s.drop q').length < (s.drop q).length) (h : Said d ks x m s q' R B w v' ks' m' e' w') : KR d lev VK N s ks' q' m' e' := by
  refine ⟨?_⟩
  rcases h.says with ⟨h1, h2, h3, h4, h5, h6⟩ | ⟨h1, h2⟩
  · rw [h2] at hgo
    refine .inl ⟨h1, hq, hgo, h3, h4, ?_, by omega⟩
    by_cases hxe : x = []
    · rw [if_pos hxe] at h5
      omega
    · rw [if_neg hxe] at h5
      have := hx2 hxe
      omega
  · rw [h2] at hgo
    exact .inr ⟨by rw [h1]; exact hgo.symm, .inl h1⟩
theorem KR.elem {d lev : Nat} {VK : Except Nat (List (Tr d) × List UInt8 × Nat)} {N : Nat} {s : List UInt8} {ks : List (Tr d)} {q m q' m2 e1 : Nat} {t : Tr d} (hk : VK = (match elX d lev (s.drop q) m with
      | .error e => .error e
      | .ok (t, l2, m2) => kidW d (elX d lev) (ks ++ [t]) l2 m2)) (hm : m ≤ 4096) (hq : q ≤ s.length) (hks : ks.length + (s.drop q).length ≤ N) (hlt : ltT d ks + (s.drop q).length ≤ N)
    (hh : (e1 = 0 ∧ elX d lev (s.drop q) m = .ok (t, s.drop q', m2) ∧ m2 ≤ 4096 ∧ q' ≤ s.length) ∨ (elX d lev (s.drop q) m = .error e1 ∧ (e1 = 3 ∨ e1 = 5 ∨ e1 = 9))) : KR d lev VK N s (ks ++ [t]) q' m2 e1 ∧ (e1 = 0 → q < q' ∧ q' ≤ s.length) := by
  rcases hh with ⟨h1, h2, h3, h4⟩ | ⟨h1, h2⟩
  · have hs := (el_sh d lev _ _ _ _ _ hm h2).1.2
    have hs2 := hs
    rw [List.length_drop, List.length_drop] at hs2
    rw [h2] at hk
    have hn := TxtLast.elem (k0 := ks) (el_name d lev _ _ _ _ _ h2)
    refine ⟨⟨.inl ⟨h1, h4, hk.symm, h3, hn.1, ?_, ?_⟩⟩, fun _ => ⟨by omega, h4⟩⟩
    · simp only [List.length_append, List.length_cons, List.length_nil]
      omega
    · rw [hn.2]
      omega
  · rw [h1] at hk
    exact ⟨⟨.inr ⟨hk, h2⟩⟩, fun e => by omega⟩
theorem drop_lt {s : List UInt8} {q q' : Nat} (hq : q < q') (hl : q' ≤ s.length) : (s.drop q').length < (s.drop q).length := by
  rw [List.length_drop, List.length_drop]
  omega
theorem pre_len {t s : List UInt8} {q : Nat} (h : preX t (s.drop q) = true) (hq : q ≤ s.length) : q + t.length ≤ s.length := by
  have := List.isPrefixOf_iff_prefix.1 h
  have := this.length_le
  rw [List.length_drop] at this
  omega
theorem run_len (s : List UInt8) (q : Nat) (hq : q ≤ s.length) (hp : preX [60] (s.drop q) = false) (hb : runBad s q = false) : ((unA ((s.drop q).takeWhile ltB)).getD []).length + (s.drop (q + ((s.drop q).takeWhile ltB).length)).length ≤ (s.drop q).length ∧ q < q + ((s.drop q).takeWhile ltB).length := by
  have h1 : (((s.drop q).takeWhile ltB)).length + (s.drop (q + ((s.drop q).takeWhile ltB).length)).length = (s.drop q).length := by
    have := tw_in ltB s q hq
    rw [List.length_drop, List.length_drop]
    omega
  have h2 : ((unA ((s.drop q).takeWhile ltB)).getD []).length ≤ ((s.drop q).takeWhile ltB).length := by
    cases hu : unA ((s.drop q).takeWhile ltB) with
    | none => simp
    | some y => exact unA_len hu
  refine ⟨by omega, ?_⟩
  cases hd : s.drop q with
  | nil =>
    unfold runBad at hb
    rw [hd] at hb
    simp [List.dropWhile] at hb
  | cons x y =>
    rw [hd] at hp
    have : ltB x = true := by
      simp only [ltB, bne_iff_ne]
      exact fun e => by rw [e] at hp; simp [preX] at hp
    simp [List.takeWhile, this]
theorem setCell_row {w : World} {g j : Nat} {t : TypeId} {cs : Array Value} (v : Value) (hrow : w.heap[g]? = some (.cells cs t (0, 0))) : Only g w (w.setCell ⟨g, j, none⟩ v) ∧ (w.setCell ⟨g, j, none⟩ v).heap[g]? = some (.cells (cs.setIfInBounds j v) t (0, 0)) := by
  have h := setCells_heap g t [v] j w _ hrow
  simp only [over] at h
  exact ⟨only_setCells g [v] j w, h⟩
theorem free_row {w : World} {g j : Nat} {t : TypeId} {cs : Array Value} (hrow : w.heap[g]? = some (.cells cs t (0, 0))) : w.frozen? ⟨g, j, none⟩ = false := by simp [World.frozen?, hrow]
theorem asW_lt {l l2 : List UInt8} (h : atAs l = true) (ha : asW false l = .ok l2) : l2.length < l.length := by
  rw [asW_at false h] at ha
  cases hc : asideX l with
  | none => rw [hc] at ha; cases ha
  | some c =>
    rw [hc] at ha
    have h1 := (aside_sh hc).2
    have h2 := (as_sh false _ _ _ ha).length_le
    omega
theorem cl_at {nm s : List UInt8} {q q5 q6 : Nat} (h5 : q + 2 + ((s.drop (q + 2)).takeWhile latX).length = q5) (h6 : q5 + ((s.drop q5).takeWhile whX).length = q6) : clX nm (s.drop q) = if (s.drop (q + 2)).takeWhile latX = nm then (if preX [62] (s.drop q6) then some (s.drop (q6 + 1)) else none) else none := by
  unfold clX
  rw [List.drop_drop, dw_at, h5, dw_at, h6]
  by_cases hn : (s.drop (q + 2)).takeWhile latX = nm
  · rw [if_pos hn, if_pos hn]
    cases hp : preX [62] (s.drop q6) with
    | true => rw [drop_pre hp]; rfl
    | false =>
      split
      · rename_i r hr
        exact absurd hr (not_pre hp _)
      · rfl
  · rw [if_neg hn, if_neg hn]
/-- The kids' memory, and what lies below it. -/
structure KC (R g5 : Nat) (Y : World) (d : Nat) (v : Value) (ks : List (Tr d)) (X : World) : Prop where
  own : OwnN (fun g => Y.heap.size ≤ g) X d v ks
  big : Y.heap.size ≤ X.heap.size
  far : ∀ g, g < Y.heap.size → g ≠ R → g ≠ g5 → X.heap[g]? = Y.heap[g]?
theorem KC.call {R g5 : Nat} {Y : World} {d : Nat} {v : Value} {ks : List (Tr d)} {X Z : World} (h : KC R g5 Y d v ks X) (hR : R < Y.heap.size) (hg : X.grownBy Z (some R)) : KC R g5 Y d v ks Z :=
  ⟨h.own.to hg (fun q hq => by have h9 : Y.heap.size ≤ q := hq; omega), Nat.le_trans h.big hg.size, fun g h1 h2 h3 => (hg.block g (Nat.lt_of_lt_of_le h1 h.big) (fun e => h2 (by injection e))).trans (h.far g h1 h2 h3)⟩
theorem KC.put {R g5 : Nat} {Y : World} {d : Nat} {v : Value} {ks : List (Tr d)} {X Z : World} (h : KC R g5 Y d v ks X) (h5 : g5 < Y.heap.size) (ho : Only g5 X Z) : KC R g5 Y d v ks Z :=
  ⟨h.own.frame (Nat.le_of_eq ho.size.symm) (fun q hq _ => ⟨ho.block q (by have h9 : Y.heap.size ≤ q := hq; omega), hq⟩), by rw [ho.size]; exact h.big, fun g h1 h2 h3 => (ho.block g h3).trans (h.far g h1 h2 h3)⟩
theorem KC.grow {R g5 : Nat} {Y : World} {d : Nat} {v v' : Value} {ks ks' : List (Tr d)} {X Z : World} (h : KC R g5 Y d v ks X) (ho : OwnN (fun g => Y.heap.size ≤ g) Z d v' ks') (hf : FarR Y.heap.size R X Z) : KC R g5 Y d v' ks' Z :=
  ⟨ho, hf.size, fun g h1 h2 h3 => (hf.block g h1 h2).trans (h.far g h1 h2 h3)⟩
end Go.Proofs.YthjibliaofmlhaaGreatDoor
