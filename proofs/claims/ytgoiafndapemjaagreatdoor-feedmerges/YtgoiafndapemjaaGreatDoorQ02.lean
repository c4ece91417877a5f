import Derived.Test.YtgoiafndapemjaaGreatDoorQ01
set_option linter.unusedVariables false
set_option linter.unusedSimpArgs false
set_option maxHeartbeats 1000000
namespace Go.Proofs.YtgoiafndapemjaaGreatDoor
structure EnV where
 id : List UInt8
 title : List UInt8
 link : List UInt8
 body : List UInt8
 time : Int
 dated : Bool
structure FeV where
 title : List UInt8
 link : List UInt8
 entries : List EnV
def zeroE : EnV := ⟨[], [], [], [], 0, false⟩
def zeroF : FeV := ⟨[], [], []⟩
def hasK {α : Type} (key : α → List UInt8) (l : List α) (k : List UInt8) : Bool := l.any fun x => decide (key x = k)
def plK {α : Type} (key : α → List UInt8) (l : List α) (k : List UInt8) : Nat := l.findIdx fun x => decide (key x = k)
def addU {α : Type} (key : α → List UInt8) (out : List α) (x : α) : List α := if hasK key out (key x) = false ∧ out.length < 16 then out ++ [x] else out
def firstsU {α : Type} (key : α → List UInt8) (l : List α) : List α := l.foldl (addU key) []
def Unl {α : Type} (key : α → List UInt8) (l : List α) : Prop := l.Pairwise fun a b => key a ≠ key b
def replK {α : Type} (key : α → List UInt8) (fresh : List α) (x : α) : α := fresh.getD (plK key fresh (key x)) x
def allU {α : Type} (key : α → List UInt8) (old fresh : List α) : List α := fresh.filter (fun x => !hasK key old (key x)) ++ old.map (replK key fresh)
def mergeU {α : Type} (key : α → List UInt8) (old fresh : List α) : List α := firstsU key (allU key old fresh)
theorem has_iff {α : Type} (key : α → List UInt8) (l : List α) (k : List UInt8) : hasK key l k = true ↔ ∃ x ∈ l, key x = k := by
 unfold hasK; simp [List.any_eq_true]
theorem has_snoc {α : Type} (key : α → List UInt8) (l : List α) (x : α) (k : List UInt8) : hasK key (l ++ [x]) k = (hasK key l k || decide (key x = k)) := by
 unfold hasK; simp
theorem has_app {α : Type} (key : α → List UInt8) (a b : List α) (k : List UInt8) : hasK key (a ++ b) k = (hasK key a k || hasK key b k) := by
 unfold hasK; simp
theorem pl_lt {α : Type} (key : α → List UInt8) (l : List α) (k : List UInt8) : plK key l k < l.length ↔ hasK key l k = true := by
 unfold plK; rw [List.findIdx_lt_length, has_iff]; simp
theorem pl_le {α : Type} (key : α → List UInt8) (l : List α) (k : List UInt8) : plK key l k ≤ l.length := List.findIdx_le_length
theorem pl_no {α : Type} (key : α → List UInt8) (l : List α) (k : List UInt8) (h : hasK key l k = false) : plK key l k = l.length := by
 have h1 := pl_le key l k
 have h2 := pl_lt key l k
 rw [h] at h2
 simp at h2
 omega
theorem pl_app {α : Type} (key : α → List UInt8) (a b : List α) (k : List UInt8) : plK key (a ++ b) k = if hasK key a k = true then plK key a k else a.length + plK key b k := by
 unfold plK hasK
 induction a with
 | nil => simp
 | cons x a ih =>
  rw [List.cons_append, List.findIdx_cons, List.findIdx_cons, List.any_cons]
  by_cases h : key x = k
  ·simp [h]
  ·simp only [h, decide_false, Bool.false_or, cond_false, List.length_cons, ih]
   split <;> omega
theorem pl_self {α : Type} (key : α → List UInt8) (l : List α) (i : Nat) (z : α) (h : i < l.length) : plK key l (key (l.getD i z)) = i ↔ hasK key (l.take i) (key (l.getD i z)) = false := by
 have e : l = l.take i ++ (l.getD i z :: l.drop (i + 1)) := by
  rw [List.getD_eq_getElem?_getD, List.getElem?_eq_getElem h]
  simp
 have hl : (l.take i).length = i := by rw [List.length_take]; omega
 have hp : plK key l (key (l.getD i z)) = if hasK key (l.take i) (key (l.getD i z)) = true then plK key (l.take i) (key (l.getD i z)) else i := by
  conv => lhs; rw [show plK key l = plK key (l.take i ++ (l.getD i z :: l.drop (i + 1))) from by rw [← e]]
  rw [pl_app, hl]
  have : plK key (l.getD i z :: l.drop (i + 1)) (key (l.getD i z)) = 0 := by unfold plK; rw [List.findIdx_cons]; simp
  rw [this]; rfl
 rw [hp]
 cases hh : hasK key (l.take i) (key (l.getD i z)) with
 | true =>
  have := (pl_lt key (l.take i) _).2 hh
  rw [hl] at this
  rw [if_pos rfl]
  constructor
  ·intro h2; omega
  ·intro h2; cases h2
 | false => simp
theorem has_take {α : Type} (key : α → List UInt8) (l : List α) (i : Nat) (z : α) (h : i < l.length) (k : List UInt8) : hasK key (l.take (i + 1)) k = (hasK key (l.take i) k || decide (key (l.getD i z) = k)) := by
 rw [List.take_add_one, List.getElem?_eq_getElem h, has_app, List.getD_eq_getElem?_getD, List.getElem?_eq_getElem h]
 simp [hasK]
theorem addU_len {α : Type} (key : α → List UInt8) (out : List α) (x : α) (h : out.length ≤ 16) : (addU key out x).length ≤ 16 := by
 unfold addU; split
 ·next hc => rw [List.length_append]; have := hc.2; simp; omega
 ·exact h
theorem addU_ge {α : Type} (key : α → List UInt8) (out : List α) (x : α) : out.length ≤ (addU key out x).length := by
 unfold addU; split
 ·rw [List.length_append]; omega
 ·exact Nat.le_refl _
theorem addU_unl {α : Type} (key : α → List UInt8) (out : List α) (x : α) (h : Unl key out) : Unl key (addU key out x) := by
 unfold addU; split
 ·next hc =>
  unfold Unl
  rw [List.pairwise_append]
  refine ⟨h, by simp, fun a ha b hb => ?_⟩
  simp at hb
  subst hb
  intro e
  have := (has_iff key out (key b)).2 ⟨a, ha, e⟩
  rw [hc.1] at this
  cases this
 ·exact h
theorem firsts_snoc {α : Type} (key : α → List UInt8) (l : List α) (x : α) : firstsU key (l ++ [x]) = addU key (firstsU key l) x := by
 unfold firstsU; rw [List.foldl_append]; rfl
theorem snoc_ind {α : Type} {P : List α → Prop} (h0 : P []) (h1 : ∀ l x, P l → P (l ++ [x])) (l : List α) : P l := by
 have : ∀ r : List α, P r.reverse := by
  intro r
  induction r with
  | nil => exact h0
  | cons x r ih => rw [List.reverse_cons]; exact h1 _ _ ih
 have h := this l.reverse
 rwa [List.reverse_reverse] at h
theorem firsts_len {α : Type} (key : α → List UInt8) (l : List α) : (firstsU key l).length ≤ 16 :=
 snoc_ind (P := fun l => (firstsU key l).length ≤ 16) (Nat.zero_le _) (fun l x ih => by show (firstsU key (l ++ [x])).length ≤ 16; rw [firsts_snoc]; exact addU_len key _ x ih) l
theorem firsts_unl {α : Type} (key : α → List UInt8) (l : List α) : Unl key (firstsU key l) :=
 snoc_ind (P := fun l => Unl key (firstsU key l)) List.Pairwise.nil (fun l x ih => by show Unl key (firstsU key (l ++ [x])); rw [firsts_snoc]; exact addU_unl key _ x ih) l
theorem firsts_mem {α : Type} (key : α → List UInt8) (l : List α) : ∀ y ∈ firstsU key l, y ∈ l :=
 snoc_ind (P := fun l => ∀ y ∈ firstsU key l, y ∈ l) (fun y h => h) (fun l x ih => by
  show ∀ y ∈ firstsU key (l ++ [x]), y ∈ l ++ [x]
  rw [firsts_snoc]
  unfold addU; split
  ·intro y hy
   rcases List.mem_append.1 hy with h | h
   ·exact List.mem_append_left _ (ih y h)
   ·exact List.mem_append_right _ h
  ·intro y hy
   exact List.mem_append_left _ (ih y hy)) l
theorem firsts_has {α : Type} (key : α → List UInt8) (l : List α) : (firstsU key l).length < 16 → ∀ k, hasK key (firstsU key l) k = hasK key l k :=
 snoc_ind (P := fun l => (firstsU key l).length < 16 → ∀ k, hasK key (firstsU key l) k = hasK key l k) (fun _ _ => rfl) (fun l x ih => by
  show (firstsU key (l ++ [x])).length < 16 → ∀ k, hasK key (firstsU key (l ++ [x])) k = hasK key (l ++ [x]) k
  rw [firsts_snoc]
  intro h k
  have h1 : (firstsU key l).length < 16 := Nat.lt_of_le_of_lt (addU_ge key _ x) h
  have h2 := ih h1
  rw [has_snoc, ← h2 k]
  unfold addU
  split
  ·rw [has_snoc]
  ·next hc =>
   have h3 : hasK key (firstsU key l) (key x) = true := by
    cases hq : hasK key (firstsU key l) (key x) with
    | true => rfl
    | false => exact absurd ⟨hq, h1⟩ hc
   by_cases hk : key x = k
   ·subst hk; rw [h3]; rfl
   ·simp [hk]) l
theorem foldl_full {α : Type} (key : α → List UInt8) (out : List α) (h : 16 ≤ out.length) : ∀ r : List α, r.foldl (addU key) out = out
 | [] => rfl
 | x :: r => by
  have : addU key out x = out := by unfold addU; rw [if_neg (fun hc => by omega)]
  rw [List.foldl_cons, this]
  exact foldl_full key out h r
theorem firsts_full {α : Type} (key : α → List UInt8) (l : List α) (i : Nat) (h : (firstsU key (l.take i)).length = 16) : firstsU key l = firstsU key (l.take i) := by
 conv => lhs; rw [← List.take_append_drop i l]
 unfold firstsU at h ⊢
 rw [List.foldl_append]
 exact foldl_full key _ (by omega) _
theorem firsts_take {α : Type} (key : α → List UInt8) (l : List α) (i : Nat) (z : α) (h : i < l.length) (hf : (firstsU key (l.take i)).length < 16) :
  firstsU key (l.take (i + 1)) = if plK key l (key (l.getD i z)) = i then firstsU key (l.take i) ++ [l.getD i z] else firstsU key (l.take i) := by
 have e : l.take (i + 1) = l.take i ++ [l.getD i z] := by
  rw [List.take_add_one, List.getElem?_eq_getElem h, List.getD_eq_getElem?_getD, List.getElem?_eq_getElem h]; rfl
 rw [e, firsts_snoc]
 have h1 := pl_self key l i z h
 rw [← firsts_has key (l.take i) hf] at h1
 unfold addU
 by_cases hp : plK key l (key (l.getD i z)) = i
 ·rw [if_pos hp, if_pos ⟨h1.1 hp, hf⟩]
 ·rw [if_neg hp, if_neg (fun hc => hp (h1.2 hc.1))]
theorem firsts_refl {α : Type} (key : α → List UInt8) (l : List α) : Unl key l → l.length ≤ 16 → firstsU key l = l :=
 snoc_ind (P := fun l => Unl key l → l.length ≤ 16 → firstsU key l = l) (fun _ _ => rfl) (fun l x ih => by
  show Unl key (l ++ [x]) → (l ++ [x]).length ≤ 16 → firstsU key (l ++ [x]) = l ++ [x]
  intro hu hl
  unfold Unl at hu
  rw [List.pairwise_append] at hu
  rw [List.length_append] at hl
  simp at hl
  rw [firsts_snoc, ih hu.1 (by omega)]
  unfold addU
  have hz : hasK key l (key x) = false := by
   cases hq : hasK key l (key x) with
   | false => rfl
   | true =>
    obtain ⟨y, hy, he⟩ := (has_iff key l (key x)).1 hq
    exact absurd he (hu.2.2 y hy x (by simp))
  rw [if_pos ⟨hz, by omega⟩]) l
theorem unl_at {α : Type} (key : α → List UInt8) (l : List α) (hu : Unl key l) (i : Nat) (z : α) (h : i < l.length) : plK key l (key (l.getD i z)) = i := by
 rw [pl_self key l i z h]
 cases hq : hasK key (l.take i) (key (l.getD i z)) with
 | false => rfl
 | true =>
  obtain ⟨y, hy, he⟩ := (has_iff key _ _).1 hq
  obtain ⟨j, hj, rfl⟩ := List.getElem_of_mem hy
  rw [List.length_take] at hj
  have hji : j < i := by omega
  have := List.pairwise_iff_getElem.1 hu j i (by omega) h hji
  rw [List.getElem_take] at he
  rw [List.getD_eq_getElem?_getD, List.getElem?_eq_getElem h] at he
  exact absurd he this
theorem repl_self {α : Type} (key : α → List UInt8) (l : List α) (hu : Unl key l) (x : α) (hx : x ∈ l) : replK key l x = x := by
 obtain ⟨j, hj, rfl⟩ := List.getElem_of_mem hx
 unfold replK
 have h1 := unl_at key l hu j l[j] hj
 rw [List.getD_eq_getElem?_getD, List.getElem?_eq_getElem hj] at h1
 simp at h1
 rw [h1, List.getD_eq_getElem?_getD, List.getElem?_eq_getElem hj]
 rfl
theorem merge_self {α : Type} (key : α → List UInt8) (l : List α) (hu : Unl key l) (hl : l.length ≤ 16) : mergeU key l l = l := by
 unfold mergeU allU
 have h1 : l.filter (fun x => !hasK key l (key x)) = [] := by
  rw [List.filter_eq_nil_iff]
  intro x hx
  rw [(has_iff key l (key x)).2 ⟨x, hx, rfl⟩]
  simp
 have h2 : l.map (replK key l) = l := by
  conv => rhs; rw [← List.map_id l]
  exact List.map_congr_left fun x hx => repl_self key l hu x hx
 rw [h1, h2, List.nil_append]
 exact firsts_refl key l hu hl
theorem merge_none {α : Type} (key : α → List UInt8) (l : List α) (hu : Unl key l) (hl : l.length ≤ 16) : mergeU key l [] = l := by
 unfold mergeU allU
 have h2 : l.map (replK key []) = l := by
  conv => rhs; rw [← List.map_id l]
  exact List.map_congr_left fun x hx => rfl
 rw [h2, List.filter_nil, List.nil_append]
 exact firsts_refl key l hu hl
theorem merge_len {α : Type} (key : α → List UInt8) (a b : List α) : (mergeU key a b).length ≤ 16 := firsts_len key _
theorem merge_unl {α : Type} (key : α → List UInt8) (a b : List α) : Unl key (mergeU key a b) := firsts_unl key _
def outM {α : Type} (key : α → List UInt8) (old fresh : List α) (k : Nat) : List α := firstsU key ((fresh.take k).filter (fun x => !hasK key old (key x)) ++ (old.take (k - fresh.length)).map (replK key fresh))
theorem outM_zero {α : Type} (key : α → List UInt8) (old fresh : List α) : outM key old fresh 0 = [] := by
 unfold outM; simp [firstsU]
theorem outM_all {α : Type} (key : α → List UInt8) (old fresh : List α) : outM key old fresh (fresh.length + old.length) = mergeU key old fresh := by
 unfold outM mergeU allU
 rw [List.take_of_length_le (by omega), List.take_of_length_le (by omega)]
theorem take_sn {α : Type} (l : List α) (i : Nat) (z : α) (h : i < l.length) : l.take (i + 1) = l.take i ++ [l.getD i z] := by
 rw [List.take_add_one, List.getElem?_eq_getElem h, List.getD_eq_getElem?_getD, List.getElem?_eq_getElem h]; rfl
theorem outM_fresh {α : Type} (key : α → List UInt8) (old fresh : List α) (k : Nat) (z : α) (h : k < fresh.length) :
  outM key old fresh (k + 1) = if hasK key old (key (fresh.getD k z)) = true then outM key old fresh k else addU key (outM key old fresh k) (fresh.getD k z) := by
 unfold outM
 rw [show k + 1 - fresh.length = 0 from by omega, show k - fresh.length = 0 from by omega, take_sn fresh k z h, List.filter_append]
 simp only [List.take_zero, List.map_nil, List.append_nil]
 generalize fresh.getD k z = x
 cases hq : hasK key old (key x) with
 | true => rw [if_pos rfl, List.filter_cons_of_neg (by rw [hq]; simp), List.filter_nil, List.append_nil]
 | false => rw [if_neg (by simp), List.filter_cons_of_pos (by rw [hq]; simp), List.filter_nil, firsts_snoc]
theorem outM_old {α : Type} (key : α → List UInt8) (old fresh : List α) (k : Nat) (z : α) (h0 : fresh.length ≤ k) (h : k - fresh.length < old.length) :
  outM key old fresh (k + 1) = addU key (outM key old fresh k) (replK key fresh (old.getD (k - fresh.length) z)) := by
 unfold outM
 rw [← firsts_snoc, show k + 1 - fresh.length = (k - fresh.length) + 1 from by omega, take_sn old (k - fresh.length) z h, List.map_append, ← List.append_assoc,
  List.take_of_length_le (Nat.le_succ_of_le h0), List.take_of_length_le h0]
 rfl
theorem outM_len {α : Type} (key : α → List UInt8) (old fresh : List α) (k : Nat) : (outM key old fresh k).length ≤ 16 := firsts_len key _
theorem all_len {α : Type} (key : α → List UInt8) (a b : List α) : (allU key a b).length ≤ a.length + b.length := by
 unfold allU
 rw [List.length_append, List.length_map]
 have := List.length_filter_le (fun x => !hasK key a (key x)) b
 omega
end Go.Proofs.YtgoiafndapemjaaGreatDoor
