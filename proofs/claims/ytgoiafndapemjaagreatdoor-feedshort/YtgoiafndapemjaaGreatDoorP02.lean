import Derived.Test.YtgoiafndapemjaaGreatDoorP01
set_option linter.unusedVariables false
set_option linter.unusedSimpArgs false
set_option maxHeartbeats 1000000
namespace Go.Proofs.YtgoiafndapemjaaGreatDoor
structure EnV where
 id : List UInt8
 title : List UInt8
 link : List UInt8
 body : List UInt8
 time : Int
 dated : Bool
structure FeV where
 title : List UInt8
 link : List UInt8
 entries : List EnV
def zeroE : EnV := ⟨[], [], [], [], 0, false⟩
def zeroF : FeV := ⟨[], [], []⟩
def hasK {α : Type} (key : α → List UInt8) (l : List α) (k : List UInt8) : Bool := l.any fun x => decide (key x = k)
def plK {α : Type} (key : α → List UInt8) (l : List α) (k : List UInt8) : Nat := l.findIdx fun x => decide (key x = k)
def addU {α : Type} (key : α → List UInt8) (out : List α) (x : α) : List α := if hasK key out (key x) = false ∧ out.length < 16 then out ++ [x] else out
def firstsU {α : Type} (key : α → List UInt8) (l : List α) : List α := l.foldl (addU key) []
theorem has_iff {α : Type} (key : α → List UInt8) (l : List α) (k : List UInt8) : hasK key l k = true ↔ ∃ x ∈ l, key x = k := by
 unfold hasK; simp [List.any_eq_true]
theorem has_snoc {α : Type} (key : α → List UInt8) (l : List α) (x : α) (k : List UInt8) : hasK key (l ++ [x]) k = (hasK key l k || decide (key x = k)) := by
 unfold hasK; simp
theorem pl_lt {α : Type} (key : α → List UInt8) (l : List α) (k : List UInt8) : plK key l k < l.length ↔ hasK key l k = true := by
 unfold plK; rw [List.findIdx_lt_length, has_iff]; simp
theorem pl_app {α : Type} (key : α → List UInt8) (a b : List α) (k : List UInt8) : plK key (a ++ b) k = if hasK key a k = true then plK key a k else a.length + plK key b k := by
 unfold plK hasK
 induction a with
 | nil => simp
 | cons x a ih =>
  rw [List.cons_append, List.findIdx_cons, List.findIdx_cons, List.any_cons]
  by_cases h : key x = k
  ·simp [h]
  ·simp only [h, decide_false, Bool.false_or, cond_false, List.length_cons, ih]
   split <;> omega
theorem pl_self {α : Type} (key : α → List UInt8) (l : List α) (i : Nat) (z : α) (h : i < l.length) : plK key l (key (l.getD i z)) = i ↔ hasK key (l.take i) (key (l.getD i z)) = false := by
 have e : l = l.take i ++ (l.getD i z :: l.drop (i + 1)) := by
  rw [List.getD_eq_getElem?_getD, List.getElem?_eq_getElem h]
  simp
 have hl : (l.take i).length = i := by rw [List.length_take]; omega
 have hp : plK key l (key (l.getD i z)) = if hasK key (l.take i) (key (l.getD i z)) = true then plK key (l.take i) (key (l.getD i z)) else i := by
  conv => lhs; rw [show plK key l = plK key (l.take i ++ (l.getD i z :: l.drop (i + 1))) from by rw [← e]]
  rw [pl_app, hl]
  have : plK key (l.getD i z :: l.drop (i + 1)) (key (l.getD i z)) = 0 := by unfold plK; rw [List.findIdx_cons]; simp
  rw [this]; rfl
 rw [hp]
 cases hh : hasK key (l.take i) (key (l.getD i z)) with
 | true =>
  have := (pl_lt key (l.take i) _).2 hh
  rw [hl] at this
  rw [if_pos rfl]
  constructor
  ·intro h2; omega
  ·intro h2; cases h2
 | false => simp
theorem addU_len {α : Type} (key : α → List UInt8) (out : List α) (x : α) (h : out.length ≤ 16) : (addU key out x).length ≤ 16 := by
 unfold addU; split
 ·next hc => rw [List.length_append]; have := hc.2; simp; omega
 ·exact h
theorem addU_ge {α : Type} (key : α → List UInt8) (out : List α) (x : α) : out.length ≤ (addU key out x).length := by
 unfold addU; split
 ·rw [List.length_append]; omega
 ·exact Nat.le_refl _
theorem firsts_snoc {α : Type} (key : α → List UInt8) (l : List α) (x : α) : firstsU key (l ++ [x]) = addU key (firstsU key l) x := by
 unfold firstsU; rw [List.foldl_append]; rfl
theorem snoc_ind {α : Type} {P : List α → Prop} (h0 : P []) (h1 : ∀ l x, P l → P (l ++ [x])) (l : List α) : P l := by
 have : ∀ r : List α, P r.reverse := by
  intro r
  induction r with
  | nil => exact h0
  | cons x r ih => rw [List.reverse_cons]; exact h1 _ _ ih
 have h := this l.reverse
 rwa [List.reverse_reverse] at h
theorem firsts_len {α : Type} (key : α → List UInt8) (l : List α) : (firstsU key l).length ≤ 16 :=
 snoc_ind (P := fun l => (firstsU key l).length ≤ 16) (Nat.zero_le _) (fun l x ih => by show (firstsU key (l ++ [x])).length ≤ 16; rw [firsts_snoc]; exact addU_len key _ x ih) l
theorem firsts_has {α : Type} (key : α → List UInt8) (l : List α) : (firstsU key l).length < 16 → ∀ k, hasK key (firstsU key l) k = hasK key l k :=
 snoc_ind (P := fun l => (firstsU key l).length < 16 → ∀ k, hasK key (firstsU key l) k = hasK key l k) (fun _ _ => rfl) (fun l x ih => by
  show (firstsU key (l ++ [x])).length < 16 → ∀ k, hasK key (firstsU key (l ++ [x])) k = hasK key (l ++ [x]) k
  rw [firsts_snoc]
  intro h k
  have h1 : (firstsU key l).length < 16 := Nat.lt_of_le_of_lt (addU_ge key _ x) h
  have h2 := ih h1
  rw [has_snoc, ← h2 k]
  unfold addU
  split
  ·rw [has_snoc]
  ·next hc =>
   have h3 : hasK key (firstsU key l) (key x) = true := by
    cases hq : hasK key (firstsU key l) (key x) with
    | true => rfl
    | false => exact absurd ⟨hq, h1⟩ hc
   by_cases hk : key x = k
   ·subst hk; rw [h3]; rfl
   ·simp [hk]) l
theorem foldl_full {α : Type} (key : α → List UInt8) (out : List α) (h : 16 ≤ out.length) : ∀ r : List α, r.foldl (addU key) out = out
 | [] => rfl
 | x :: r => by
  have : addU key out x = out := by unfold addU; rw [if_neg (fun hc => by omega)]
  rw [List.foldl_cons, this]
  exact foldl_full key out h r
theorem firsts_full {α : Type} (key : α → List UInt8) (l : List α) (i : Nat) (h : (firstsU key (l.take i)).length = 16) : firstsU key l = firstsU key (l.take i) := by
 conv => lhs; rw [← List.take_append_drop i l]
 unfold firstsU at h ⊢
 rw [List.foldl_append]
 exact foldl_full key _ (by omega) _
theorem firsts_take {α : Type} (key : α → List UInt8) (l : List α) (i : Nat) (z : α) (h : i < l.length) (hf : (firstsU key (l.take i)).length < 16) :
  firstsU key (l.take (i + 1)) = if plK key l (key (l.getD i z)) = i then firstsU key (l.take i) ++ [l.getD i z] else firstsU key (l.take i) := by
 have e : l.take (i + 1) = l.take i ++ [l.getD i z] := by
  rw [List.take_add_one, List.getElem?_eq_getElem h, List.getD_eq_getElem?_getD, List.getElem?_eq_getElem h]; rfl
 rw [e, firsts_snoc]
 have h1 := pl_self key l i z h
 rw [← firsts_has key (l.take i) hf] at h1
 unfold addU
 by_cases hp : plK key l (key (l.getD i z)) = i
 ·rw [if_pos hp, if_pos ⟨h1.1 hp, hf⟩]
 ·rw [if_neg hp, if_neg (fun hc => hp (h1.2 hc.1))]
theorem take_sn {α : Type} (l : List α) (i : Nat) (z : α) (h : i < l.length) : l.take (i + 1) = l.take i ++ [l.getD i z] := by
 rw [List.take_add_one, List.getElem?_eq_getElem h, List.getD_eq_getElem?_getD, List.getElem?_eq_getElem h]; rfl
end Go.Proofs.YtgoiafndapemjaaGreatDoor
