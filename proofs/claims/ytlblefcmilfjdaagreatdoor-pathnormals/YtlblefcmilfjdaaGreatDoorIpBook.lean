
/- Plain mathematics of the layers 5 and 6: texts of addresses, their groups and bytes, the bits of nets (no program in it). -/
import Derived.Below
import Derived.Lib.Split
import Derived.Lib.Join
import Derived.Lib.AtoiAll
import Derived.Lib.ItoaNum
namespace Go.Proofs.YtlblefcmilfjdaaGreatDoor
set_option linter.unusedSimpArgs false
set_option linter.unusedVariables false

/-- A text's parts between a byte. -/
def cutL (b : UInt8) : List UInt8 → List (List UInt8)
  | [] => [[]]
  | c :: r => if c = b then [] :: cutL b r else (c :: (cutL b r).headD []) :: (cutL b r).tail
theorem cutL_pos (b : UInt8) : ∀ l, 0 < (cutL b l).length
  | [] => by simp [cutL]
  | c :: r => by unfold cutL; split <;> simp
theorem cut_none (b : UInt8) : ∀ x : List UInt8, b ∉ x → cutL b x = [x]
  | [], _ => rfl
  | c :: r, h => by
    have h1 : c ≠ b := fun e => h (by simp [e])
    have ih := cut_none b r (fun e => h (by simp [e]))
    simp [cutL, h1, ih]
theorem cut_app (b : UInt8) (r : List UInt8) : ∀ x : List UInt8, b ∉ x → cutL b (x ++ b :: r) = x :: cutL b r
  | [], _ => by simp [cutL]
  | c :: y, h => by
    have h1 : c ≠ b := fun e => h (by simp [e])
    have ih := cut_app b r y (fun e => h (by simp [e]))
    simp [cutL, h1, ih]
/-- Parts, a byte between them. -/
def joinL (b : UInt8) : List (List UInt8) → List UInt8
  | [] => []
  | [x] => x
  | x :: y :: r => x ++ b :: joinL b (y :: r)
theorem cut_join (b : UInt8) : ∀ L : List (List UInt8), L ≠ [] → (∀ x ∈ L, b ∉ x) → cutL b (joinL b L) = L
  | [], h, _ => absurd rfl h
  | [x], _, h => cut_none b x (h x (by simp))
  | x :: y :: r, _, h => by
    rw [joinL, cut_app b _ x (h x (by simp)), cut_join b (y :: r) (by simp) (fun z hz => h z (by simp only [List.mem_cons] at hz ⊢; exact Or.inr hz))]
/-- A digit's value (99: none). -/
def dig (c : UInt8) : Nat := if 48 ≤ c.toNat ∧ c.toNat ≤ 57 then c.toNat - 48 else if 97 ≤ c.toNat ∧ c.toNat ≤ 102 then c.toNat - 87 else if 65 ≤ c.toNat ∧ c.toNat ≤ 70 then c.toNat - 55 else 99
def valB (base : Nat) (l : List UInt8) : Nat := l.foldl (fun n c => n * base + dig c) 0
def isNum (base : Nat) (l : List UInt8) : Bool := !l.isEmpty && l.all fun c => decide (dig c < base)
/-- All of a text, by a base; at most 2^32; -1: it is none. -/
def num (base : Nat) (l : List UInt8) : Int := if isNum base l then ((min (valB base l) 4294967296 : Nat) : Int) else -1
theorem valB_snoc (base : Nat) (l : List UInt8) (c : UInt8) : valB base (l ++ [c]) = valB base l * base + dig c := by simp [valB]
/-- A part of an IPv4. -/
def okFour (x : List UInt8) : Bool := decide (0 ≤ num 10 x) && decide (num 10 x ≤ 255) && !(decide (1 < x.length) && decide (x.headD 0 = 48))
def four (l : List UInt8) : Int := match cutL 46 l with
  | [a, b, c, d] => if okFour a && okFour b && okFour c && okFour d then ((num 10 a * 256 + num 10 b) * 256 + num 10 c) * 256 + num 10 d else -1
  | _ => -1
/-- The groups behind the first k parts; -1: the gap. -/
def grpTo (l : List (List UInt8)) : Nat → Option (List Int × Bool)
  | 0 => some ([], false)
  | k + 1 => match grpTo l k with
    | none => none
    | some (out, gap) =>
      if l.getD k [] = [] then
        if k ≠ 0 ∧ k ≠ l.length - 1 then (if gap then none else some (out ++ [-1], true))
        else if l.length < 3 ∨ (k = 0 ∧ l.getD 1 [] ≠ []) ∨ (0 < k ∧ l.getD (l.length - 2) [] ≠ []) then none
        else some (out, gap)
      else if 0 ≤ four (l.getD k []) ∧ k = l.length - 1 then some (out ++ [four (l.getD k []) / 65536, four (l.getD k []) % 65536], gap)
      else if num 16 (l.getD k []) < 0 ∨ 4 < (l.getD k []).length then none
      else some (out ++ [num 16 (l.getD k [])], gap)
def grp (l : List (List UInt8)) : Option (List Int) := (grpTo l l.length).map (·.1)
def b8 (n : Nat) : UInt8 := UInt8.ofNat n
def v4B (n : Nat) : List UInt8 := List.replicate 12 0 ++ [b8 (n / 16777216), b8 (n / 65536), b8 (n / 256), b8 n]
/-- The bytes of groups, the gap being n groups long. -/
def fillG (g : List Int) (n : Nat) : List UInt8 := g.flatMap fun x => if x < 0 then List.replicate (2 * n) 0 else [b8 (x / 256).toNat, b8 (x % 256).toNat]
def cntG (g : List Int) : Nat := (g.filter fun x => decide (0 ≤ x)).length
def gapG (g : List Int) : Bool := g.any fun x => decide (x < 0)
/-- One, written strictly. -/
def parseA (l : List UInt8) : Option (Bool × List UInt8) :=
  if 0 ≤ four l then some (false, v4B (four l).toNat)
  else match grp (cutL 58 l) with
    | none => none
    | some g => if (cutL 58 l).length < 3 ∨ 8 < cntG g ∨ (gapG g = false ∧ cntG g ≠ 8) then none else some (true, fillG g (8 - cntG g))

/-- A digit's byte. -/
def dch (d : Nat) : UInt8 := if d < 10 then b8 (48 + d) else b8 (87 + d)
def digsF (base : Nat) : Nat → Nat → List UInt8
  | 0, _ => []
  | f + 1, n => if n < base then [dch n] else digsF base f (n / base) ++ [dch (n % base)]
def digs (base n : Nat) : List UInt8 := digsF base 20 n
theorem dch_fin : ∀ d : Fin 16, dig (dch d.val) = d.val ∧ dch d.val ≠ 46 ∧ dch d.val ≠ 58 ∧ (0 < d.val → dch d.val ≠ 48) := by decide
theorem dig_dch (d : Nat) (h : d < 16) : dig (dch d) = d := (dch_fin ⟨d, h⟩).1
theorem dch_46 (d : Nat) (h : d < 16) : dch d ≠ 46 := (dch_fin ⟨d, h⟩).2.1
theorem dch_58 (d : Nat) (h : d < 16) : dch d ≠ 58 := (dch_fin ⟨d, h⟩).2.2.1
theorem dch_48 (d : Nat) (h : d < 16) (h0 : 0 < d) : dch d ≠ 48 := (dch_fin ⟨d, h⟩).2.2.2 h0
theorem digsF_val (base : Nat) (hb2 : 2 ≤ base) (hb : base ≤ 16) : ∀ f n, n < base ^ f → valB base (digsF base f n) = n
  | 0, n, h => by simp at h; simp [h, digsF, valB]
  | f + 1, n, h => by
    unfold digsF
    split
    · rename_i hn
      simp [valB, dig_dch n (by omega)]
    · rename_i hn
      have hm : n % base < 16 := Nat.lt_of_lt_of_le (Nat.mod_lt _ (by omega)) hb
      rw [valB_snoc, digsF_val base hb2 hb f (n / base) (by rw [Nat.div_lt_iff_lt_mul (by omega), ← Nat.pow_succ]; exact h), dig_dch _ hm, Nat.mul_comm]
      exact Nat.div_add_mod n base
theorem digsF_all (base : Nat) (hb2 : 2 ≤ base) (hb : base ≤ 16) : ∀ f n c, c ∈ digsF base f n → dig c < base ∧ c ≠ 46 ∧ c ≠ 58
  | 0, n, c, h => by simp [digsF] at h
  | f + 1, n, c, h => by
    unfold digsF at h
    split at h
    · rename_i hn
      simp only [List.mem_cons, List.not_mem_nil, or_false] at h
      subst h
      exact ⟨by rw [dig_dch n (by omega)]; exact hn, dch_46 n (by omega), dch_58 n (by omega)⟩
    · rename_i hn
      have hm : n % base < base := Nat.mod_lt _ (by omega)
      rcases List.mem_append.1 h with h | h
      · exact digsF_all base hb2 hb f (n / base) c h
      · simp only [List.mem_cons, List.not_mem_nil, or_false] at h
        subst h
        exact ⟨by rw [dig_dch _ (by omega)]; exact hm, dch_46 _ (by omega), dch_58 _ (by omega)⟩
theorem digsF_len (base : Nat) (hb2 : 2 ≤ base) (hb : base ≤ 16) : ∀ k f n, n < base ^ (k + 1) → (digsF base f n).length ≤ k + 1
  | k, 0, n, _ => by simp [digsF]
  | 0, f + 1, n, h => by
    rw [Nat.zero_add, Nat.pow_one] at h
    simp [digsF, h]
  | k + 1, f + 1, n, h => by
    unfold digsF
    split
    · simp
    · have := digsF_len base hb2 hb k f (n / base) (by rw [Nat.div_lt_iff_lt_mul (by omega), ← Nat.pow_succ]; exact h)
      simp; omega
theorem digsF_ne (base : Nat) : ∀ f n, digsF base (f + 1) n ≠ [] := fun f n => by
  unfold digsF
  split <;> simp
theorem digsF_head (base : Nat) (hb2 : 2 ≤ base) (hb : base ≤ 16) : ∀ f n, n < base ^ (f + 1) → 0 < n → (digsF base (f + 1) n).headD 0 ≠ 48
  | 0, n, h, h0 => by
    rw [Nat.zero_add, Nat.pow_one] at h
    simp [digsF, h]
    exact dch_48 n (by omega) h0
  | f + 1, n, h, h0 => by
    unfold digsF
    split
    · rename_i hn
      simp
      exact dch_48 n (by omega) h0
    · rename_i hn
      have ih := digsF_head base hb2 hb f (n / base) (by rw [Nat.div_lt_iff_lt_mul (by omega), ← Nat.pow_succ]; exact h) (Nat.div_pos (by omega) (by omega))
      have hne := digsF_ne base f (n / base)
      cases hd : digsF base (f + 1) (n / base) with
      | nil => exact absurd hd hne
      | cons c r => rw [hd] at ih; simpa using ih
theorem digs_num (base n : Nat) (hb2 : 2 ≤ base) (hb : base ≤ 16) (hn : n < base ^ 20) (h32 : n ≤ 4294967296) : num base (digs base n) = (n : Int) := by
  have h1 : isNum base (digs base n) = true := by
    unfold isNum digs
    have hne := digsF_ne base 19 n
    have ha := digsF_all base hb2 hb 20 n
    simp only [Bool.and_eq_true, List.all_eq_true, decide_eq_true_eq]
    refine ⟨?_, fun c hc => (ha c hc).1⟩
    cases hd : digsF base 20 n with
    | nil => exact absurd hd hne
    | cons c r => rfl
  unfold num
  rw [if_pos h1]
  unfold digs
  rw [digsF_val base hb2 hb 20 n hn, Nat.min_eq_left h32]
theorem digs_ok (n : Nat) (h : n ≤ 255) : okFour (digs 10 n) = true := by
  have h1 := digs_num 10 n (by omega) (by omega) (by omega) (by omega)
  unfold okFour
  rw [h1]
  by_cases h0 : n = 0
  · subst h0; decide
  · have h2 := digsF_head 10 (by omega) (by omega) 19 n (by omega) (by omega)
    have h3 : decide ((digs 10 n).headD 0 = 48) = false := by simpa [digs] using h2
    rw [h3]
    simp
    omega
theorem digs_46 (base n : Nat) (hb2 : 2 ≤ base) (hb : base ≤ 16) : (46 : UInt8) ∉ digs base n := fun h => (digsF_all base hb2 hb 20 n 46 h).2.1 rfl
theorem digs_58 (base n : Nat) (hb2 : 2 ≤ base) (hb : base ≤ 16) : (58 : UInt8) ∉ digs base n := fun h => (digsF_all base hb2 hb 20 n 58 h).2.2 rfl
theorem digs_ne (base n : Nat) (hb2 : 2 ≤ base) (hb : base ≤ 16) : digs base n ≠ [] := digsF_ne base 19 n
/-- An IPv4, as it is written. -/
def dotsB (a b c d : Nat) : List UInt8 := joinL 46 [digs 10 a, digs 10 b, digs 10 c, digs 10 d]
theorem four_dots (a b c d : Nat) (ha : a ≤ 255) (hb : b ≤ 255) (hc : c ≤ 255) (hd : d ≤ 255) : four (dotsB a b c d) = ((((a * 256 + b) * 256 + c) * 256 + d : Nat) : Int) := by
  have hcut : cutL 46 (dotsB a b c d) = [digs 10 a, digs 10 b, digs 10 c, digs 10 d] := cut_join 46 _ (by simp) (fun x hx => by
    simp only [List.mem_cons, List.not_mem_nil, or_false] at hx
    rcases hx with rfl | rfl | rfl | rfl <;> exact digs_46 10 _ (by omega) (by omega))
  unfold four
  rw [hcut]
  simp only [digs_ok a ha, digs_ok b hb, digs_ok c hc, digs_ok d hd, Bool.and_self, if_true]
  rw [digs_num 10 a (by omega) (by omega) (by omega) (by omega), digs_num 10 b (by omega) (by omega) (by omega) (by omega), digs_num 10 c (by omega) (by omega) (by omega) (by omega), digs_num 10 d (by omega) (by omega) (by omega) (by omega)]
  omega
theorem four_no (l : List UInt8) (h : (46 : UInt8) ∉ l) : four l = -1 := by
  unfold four
  rw [cut_none 46 l h]

end Go.Proofs.YtlblefcmilfjdaaGreatDoor
namespace Go.Proofs.YtlblefcmilfjdaaGreatDoor
set_option linter.unusedSimpArgs false
set_option linter.unusedVariables false

def hexs (g : List Nat) : List (List UInt8) := g.map (digs 16)
def J (g : List Nat) : List UInt8 := joinL 58 (hexs g)
/-- Is every group from i up to k nought? -/
def allz (g : List Nat) (i k : Nat) : Bool := (List.range (k - i)).all fun m => decide (g.getD (i + m) 0 = 0)
def stepB (g : List Nat) (i k : Nat) (p : Nat × Nat) : Nat × Nat := if allz g i k && decide (p.2 < k - i) then (i, k - i) else p
def innerB (g : List Nat) (i : Nat) : Nat → Nat × Nat → Nat × Nat
  | 0, p => p
  | t + 1, p => stepB g i (8 - t) (innerB g i t p)
def outerB (g : List Nat) : Nat → Nat × Nat
  | 0 => (0, 0)
  | i + 1 => innerB g i (8 - i) (outerB g i)
def best (g : List Nat) : Nat × Nat := outerB g 8
def Run (g : List Nat) (p : Nat × Nat) : Prop := p.1 + p.2 ≤ 8 ∧ allz g p.1 (p.1 + p.2) = true
theorem stepB_run (g : List Nat) (i k : Nat) (p : Nat × Nat) (h : Run g p) (hk : k ≤ 8) (hi : i ≤ k) : Run g (stepB g i k p) := by
  unfold stepB
  split
  · rename_i hc
    simp only [Bool.and_eq_true] at hc
    exact ⟨by simp; omega, by show allz g i (i + (k - i)) = true; rw [show i + (k - i) = k from by omega]; exact hc.1⟩
  · exact h
theorem innerB_run (g : List Nat) (i : Nat) (p : Nat × Nat) (h : Run g p) : ∀ t, t ≤ 8 - i → Run g (innerB g i t p)
  | 0, _ => h
  | t + 1, ht => stepB_run g i (8 - t) _ (innerB_run g i p h t (by omega)) (by omega) (by omega)
theorem outerB_run (g : List Nat) : ∀ i, i ≤ 8 → Run g (outerB g i)
  | 0, _ => ⟨by simp [outerB], by simp [outerB, allz]⟩
  | i + 1, h => innerB_run g i _ (outerB_run g i (by omega)) _ (Nat.le_refl _)
theorem best_run (g : List Nat) : Run g (best g) := outerB_run g 8 (Nat.le_refl _)
theorem run_zero (g : List Nat) (i k m : Nat) (h : allz g i k = true) (h1 : i ≤ m) (h2 : m < k) : g.getD m 0 = 0 := by
  unfold allz at h
  rw [List.all_eq_true] at h
  have := h (m - i) (List.mem_range.2 (by omega))
  rw [show i + (m - i) = m from by omega] at this
  exact of_decide_eq_true this
/-- Groups in short, but for the mapped ones. -/
def shortB (g : List Nat) (at_ n : Nat) : List UInt8 := if 2 ≤ n then J (g.take at_) ++ [58, 58] ++ J (g.drop (at_ + n)) else J g
def bytesG (g : List Nat) : List UInt8 := g.flatMap fun x => [b8 (x / 256), b8 (x % 256)]

theorem join_app (b : UInt8) : ∀ (X Y : List (List UInt8)), X ≠ [] → Y ≠ [] → joinL b (X ++ Y) = joinL b X ++ b :: joinL b Y
  | [], _, h, _ => absurd rfl h
  | [x], y :: r, _, _ => by simp [joinL]
  | [x], [], _, h => absurd rfl h
  | x :: x2 :: r, Y, _, hY => by
    have ih := join_app b (x2 :: r) Y (by simp) hY
    simp only [List.cons_append] at ih ⊢
    rw [joinL, ih, joinL]
    simp
/-- Parts, or one that is empty. -/
def ne1 (X : List (List UInt8)) : List (List UInt8) := if X = [] then [[]] else X
theorem ne1_ne (X : List (List UInt8)) : ne1 X ≠ [] := by unfold ne1; split <;> simp_all
theorem join_ne1 (X : List (List UInt8)) : joinL 58 (ne1 X) = joinL 58 X := by unfold ne1; split <;> simp_all [joinL]
def partsL (A C : List Nat) : List (List UInt8) := ne1 (hexs A) ++ ([[]] ++ ne1 (hexs C))
theorem join_parts (A C : List Nat) : joinL 58 (partsL A C) = J A ++ [58, 58] ++ J C := by
  unfold partsL
  rw [join_app 58 _ _ (ne1_ne _) (by simp), join_app 58 _ _ (by simp) (ne1_ne _), join_ne1, join_ne1]
  simp [J, joinL]
theorem hexs_58 (g : List Nat) : ∀ x ∈ hexs g, (58 : UInt8) ∉ x := fun x hx => by
  obtain ⟨n, _, rfl⟩ := List.mem_map.1 hx
  exact digs_58 16 n (by omega) (by omega)
theorem ne1_58 (g : List Nat) : ∀ x ∈ ne1 (hexs g), (58 : UInt8) ∉ x := fun x hx => by
  unfold ne1 at hx
  split at hx
  · simp only [List.mem_cons, List.not_mem_nil, or_false] at hx; subst hx; simp
  · exact hexs_58 g x hx
theorem cut_parts (A C : List Nat) : cutL 58 (J A ++ [58, 58] ++ J C) = partsL A C := by
  rw [← join_parts]
  refine cut_join 58 _ (by unfold partsL; simp) (fun x hx => ?_)
  unfold partsL at hx
  rcases List.mem_append.1 hx with h | h
  · exact ne1_58 A x h
  · rcases List.mem_append.1 h with h | h
    · simp only [List.mem_cons, List.not_mem_nil, or_false] at h; subst h; simp
    · exact ne1_58 C x h
theorem cut_all (g : List Nat) (h : g ≠ []) : cutL 58 (J g) = hexs g := cut_join 58 _ (by simpa [hexs] using h) (hexs_58 g)

/-- A group's part: the next step. -/
theorem grp_hex (l : List (List UInt8)) (k n : Nat) (out : List Int) (gap : Bool) (h : grpTo l k = some (out, gap)) (hk : l.getD k [] = digs 16 n) (hn : n < 65536) : grpTo l (k + 1) = some (out ++ [(n : Int)], gap) := by
  have h1 := digs_ne 16 n (by omega) (by omega)
  have h2 := four_no (digs 16 n) (digs_46 16 n (by omega) (by omega))
  have h3 := digs_num 16 n (by omega) (by omega) (by omega) (by omega)
  have h4 : (digs 16 n).length ≤ 4 := digsF_len 16 (by omega) (by omega) 3 20 n (by omega)
  rw [grpTo, h]
  simp only [hk, h1, h2, h3, if_false]
  rw [if_neg (by omega), if_neg (by omega)]
theorem grp_hexs (l : List (List UInt8)) (k : Nat) (out : List Int) (gap : Bool) (h : grpTo l k = some (out, gap)) (X : List Nat) (hX : ∀ x ∈ X, x < 65536) (hl : ∀ j, j < X.length → l.getD (k + j) [] = digs 16 (X.getD j 0)) :
    ∀ j, j ≤ X.length → grpTo l (k + j) = some (out ++ (X.take j).map (fun n : Nat => (n : Int)), gap)
  | 0, _ => by simpa using h
  | j + 1, hj => by
    have ih := grp_hexs l k out gap h X hX hl j (by omega)
    have hx : X.getD j 0 < 65536 := by
      have : X.getD j 0 ∈ X := by rw [List.getD_eq_getElem?_getD, List.getElem?_eq_getElem (by omega)]; exact List.getElem_mem _
      exact hX _ this
    have := grp_hex l (k + j) (X.getD j 0) _ gap ih (hl j (by omega)) hx
    rw [show k + (j + 1) = k + j + 1 from rfl, this, List.take_succ_eq_append_getElem (by omega), List.map_append, List.append_assoc]
    congr 3
    simp [List.getD_eq_getElem?_getD, show j < X.length from by omega]
theorem grp_gap (l : List (List UInt8)) (k : Nat) (out : List Int) (h : grpTo l k = some (out, false)) (hk : l.getD k [] = []) (h0 : 0 < k) (h1 : k + 1 < l.length) : grpTo l (k + 1) = some (out ++ [-1], true) := by
  rw [grpTo, h]
  simp only [hk, if_true]
  rw [if_pos ⟨by omega, by omega⟩]
  rfl
theorem grp_edge (l : List (List UInt8)) (k : Nat) (out : List Int) (gap : Bool) (h : grpTo l k = some (out, gap)) (hk : l.getD k [] = []) (h3 : 3 ≤ l.length) (he : (k = 0 ∧ l.getD 1 [] = []) ∨ (0 < k ∧ k = l.length - 1 ∧ l.getD (l.length - 2) [] = [])) : grpTo l (k + 1) = some (out, gap) := by
  rw [grpTo, h]
  simp only [hk, if_true]
  rcases he with ⟨e, e1⟩ | ⟨e, e2, e1⟩
  · subst e
    rw [if_neg (by omega), if_neg (by simp only [e1]; simp; omega)]
  · rw [if_neg (by omega), if_neg (by rw [e1]; simp; omega)]
theorem getD_hexs (X : List Nat) (j : Nat) (h : j < X.length) : (hexs X).getD j [] = digs 16 (X.getD j 0) := by
  simp [hexs, List.getD_eq_getElem?_getD, h]
theorem getD_left (X Y : List (List UInt8)) (j : Nat) (h : j < X.length) : (X ++ Y).getD j [] = X.getD j [] := by
  simp [List.getD_eq_getElem?_getD, List.getElem?_append_left h]
theorem getD_right (X Y : List (List UInt8)) (j : Nat) : (X ++ Y).getD (X.length + j) [] = Y.getD j [] := by
  simp [List.getD_eq_getElem?_getD, List.getElem?_append_right]
theorem grp_parts (A C : List Nat) (hA : ∀ x ∈ A, x < 65536) (hC : ∀ x ∈ C, x < 65536) : grp (partsL A C) = some (A.map (fun n : Nat => (n : Int)) ++ [-1] ++ C.map (fun n : Nat => (n : Int))) := by
  have hlen : (partsL A C).length = (ne1 (hexs A)).length + (1 + (ne1 (hexs C)).length) := by unfold partsL; simp; omega
  have hp1 : 0 < (ne1 (hexs A)).length := List.length_pos_iff.2 (ne1_ne _)
  have hp2 : 0 < (ne1 (hexs C)).length := List.length_pos_iff.2 (ne1_ne _)
  -- the parts ahead of the gap
  have s1 : grpTo (partsL A C) (ne1 (hexs A)).length = some (A.map (fun n : Nat => (n : Int)), false) := by
    by_cases h : A = []
    · subst h
      have : ne1 (hexs []) = [[]] := rfl
      rw [this]
      exact grp_edge (partsL [] C) 0 [] false rfl rfl (by rw [hlen, this]; simp; omega) (.inl ⟨rfl, rfl⟩)
    · have e : ne1 (hexs A) = hexs A := by unfold ne1; rw [if_neg (by simpa [hexs] using h)]
      rw [e]
      have := grp_hexs (partsL A C) 0 [] false rfl A hA (fun j hj => by
        rw [Nat.zero_add]
        unfold partsL
        rw [e, getD_left _ _ _ (by simpa [hexs] using hj), getD_hexs A j hj]) A.length (Nat.le_refl _)
      simpa [hexs] using this
  -- the gap
  have s2 : grpTo (partsL A C) ((ne1 (hexs A)).length + 1) = some (A.map (fun n : Nat => (n : Int)) ++ [-1], true) :=
    grp_gap _ _ _ s1 (by have := getD_right (ne1 (hexs A)) ([[]] ++ ne1 (hexs C)) 0; unfold partsL; rw [Nat.add_zero] at this; rw [this]; rfl) hp1 (by rw [hlen]; omega)
  unfold grp
  rw [hlen]
  by_cases h : C = []
  · subst h
    have e : ne1 (hexs []) = [[]] := rfl
    rw [e]
    have hg : ∀ j, j ≤ 1 → (partsL A []).getD ((ne1 (hexs A)).length + j) [] = [] := fun j hj => by
      unfold partsL
      rw [getD_right, e]
      have : j = 0 ∨ j = 1 := by omega
      rcases this with rfl | rfl <;> rfl
    have hl2 : (partsL A []).length = (ne1 (hexs A)).length + 2 := by rw [hlen, e]; rfl
    have := grp_edge (partsL A []) ((ne1 (hexs A)).length + 1) _ true s2 (hg 1 (by omega)) (by omega) (.inr ⟨by omega, by omega, by rw [hl2]; exact hg 0 (by omega)⟩)
    rw [show (ne1 (hexs A)).length + (1 + ([[]] : List (List UInt8)).length) = (ne1 (hexs A)).length + 1 + 1 from rfl, this]
    simp
  · have e : ne1 (hexs C) = hexs C := by unfold ne1; rw [if_neg (by simpa [hexs] using h)]
    have := grp_hexs (partsL A C) ((ne1 (hexs A)).length + 1) _ true s2 C hC (fun j hj => by
      rw [Nat.add_assoc]
      unfold partsL
      rw [getD_right, e]
      have h2 := getD_right [[]] (hexs C) j
      rw [show ([[]] : List (List UInt8)).length + j = 1 + j from rfl] at h2
      rw [h2, getD_hexs C j hj]) C.length (Nat.le_refl _)
    rw [e, show (ne1 (hexs A)).length + (1 + (hexs C).length) = (ne1 (hexs A)).length + 1 + C.length from by simp [hexs]; omega, this]
    simp

end Go.Proofs.YtlblefcmilfjdaaGreatDoor
namespace Go.Proofs.YtlblefcmilfjdaaGreatDoor
set_option linter.unusedSimpArgs false
set_option linter.unusedVariables false

/-- Bytes, two by two. -/
def toG : List UInt8 → List Nat
  | a :: b :: r => (a.toNat * 256 + b.toNat) :: toG r
  | _ => []
theorem toG_len : ∀ B : List UInt8, (toG B).length = B.length / 2
  | [] => rfl
  | [_] => by simp [toG]
  | a :: b :: r => by simp only [toG, List.length_cons, toG_len r]; omega
theorem toG_at : ∀ (B : List UInt8) (i : Nat), 2 * i + 1 < B.length → (toG B).getD i 0 = (B.getD (2 * i) 0).toNat * 256 + (B.getD (2 * i + 1) 0).toNat
  | [], i, h => absurd h (by simp)
  | [_], i, h => absurd h (by simp)
  | a :: b :: r, 0, _ => by simp [toG]
  | a :: b :: r, i + 1, h => by
    have := toG_at r i (by simp at h; omega)
    simp only [toG, List.getD_cons_succ]
    rw [this, show 2 * (i + 1) = 2 * i + 1 + 1 from by omega]
    simp
theorem toG_lt : ∀ (B : List UInt8) (x : Nat), x ∈ toG B → x < 65536
  | [], x, h => by simp [toG] at h
  | [_], x, h => by simp [toG] at h
  | a :: b :: r, x, h => by
    have ha := a.toNat_lt
    have hb := b.toNat_lt
    simp only [toG, List.mem_cons] at h
    rcases h with rfl | h
    · omega
    · exact toG_lt r x h
theorem b8_hi (a b : UInt8) : b8 ((a.toNat * 256 + b.toNat) / 256) = a := by
  have hb := b.toNat_lt
  rw [show (a.toNat * 256 + b.toNat) / 256 = a.toNat from by omega]
  exact UInt8.ofNat_toNat
theorem b8_lo (a b : UInt8) : b8 ((a.toNat * 256 + b.toNat) % 256) = b := by
  have hb := b.toNat_lt
  rw [show (a.toNat * 256 + b.toNat) % 256 = b.toNat from by omega]
  exact UInt8.ofNat_toNat
theorem bytes_toG : ∀ B : List UInt8, B.length % 2 = 0 → bytesG (toG B) = B
  | [], _ => rfl
  | [_], h => absurd h (by simp)
  | a :: b :: r, h => by
    have ih := bytes_toG r (by simp at h; omega)
    simp only [toG, bytesG, List.flatMap_cons]
    rw [b8_hi, b8_lo]
    unfold bytesG at ih
    rw [ih]
    rfl
theorem bytes_app (X Y : List Nat) : bytesG (X ++ Y) = bytesG X ++ bytesG Y := by simp [bytesG]
theorem bytes_zero : ∀ n, bytesG (List.replicate n 0) = List.replicate (2 * n) 0
  | 0 => rfl
  | n + 1 => by
    have ih := bytes_zero n
    simp only [List.replicate_succ, bytesG, List.flatMap_cons] at ih ⊢
    rw [ih, show 2 * (n + 1) = 2 * n + 1 + 1 from by omega, List.replicate_succ, List.replicate_succ]
    rfl
theorem fill_ints (X : List Nat) (n : Nat) : fillG (X.map fun n : Nat => (n : Int)) n = bytesG X := by
  unfold fillG bytesG
  rw [List.flatMap_map]
  congr 1
theorem cnt_ints (X : List Nat) : cntG (X.map fun n : Nat => (n : Int)) = X.length := by
  unfold cntG
  rw [List.filter_eq_self.2 (fun x hx => by obtain ⟨n, _, rfl⟩ := List.mem_map.1 hx; simp), List.length_map]
theorem gap_ints (X : List Nat) : gapG (X.map fun n : Nat => (n : Int)) = false := by
  unfold gapG
  rw [List.any_eq_false]
  intro x hx
  obtain ⟨n, _, rfl⟩ := List.mem_map.1 hx
  simp
theorem join_no (b c : UInt8) (h : b ≠ c) : ∀ L : List (List UInt8), (∀ x ∈ L, b ∉ x) → b ∉ joinL c L
  | [], _ => by simp [joinL]
  | [x], hL => by simpa [joinL] using hL x (by simp)
  | x :: y :: r, hL => by
    have ih := join_no b c h (y :: r) (fun z hz => hL z (by simp only [List.mem_cons] at hz ⊢; exact Or.inr hz))
    rw [joinL]
    simp only [List.mem_append, List.mem_cons, not_or]
    exact ⟨hL x (by simp), h, ih⟩
theorem J_46 (g : List Nat) : (46 : UInt8) ∉ J g := join_no 46 58 (by decide) _ (fun x hx => by
  obtain ⟨n, _, rfl⟩ := List.mem_map.1 hx
  exact digs_46 16 n (by omega) (by omega))
theorem split_run (g : List Nat) (a n : Nat) (hr : Run g (a, n)) (hg : g.length = 8) : g = g.take a ++ (List.replicate n 0 ++ g.drop (a + n)) := by
  have h1 : a + n ≤ 8 := hr.1
  have h2 : (g.drop a).take n = List.replicate n 0 := by
    apply List.ext_getElem
    · simp; omega
    · intro j h3 h4
      have hj : j < n := by simpa using h4
      have := run_zero g a (a + n) (a + j) hr.2 (by omega) (by omega)
      rw [List.getElem_replicate, List.getElem_take, List.getElem_drop]
      rw [List.getD_eq_getElem?_getD, List.getElem?_eq_getElem (by omega)] at this
      simpa using this
  rw [← h2]
  have e : g.drop (a + n) = (g.drop a).drop n := (List.drop_drop).symm
  rw [e, List.take_append_drop, List.take_append_drop]
theorem parse_short (g : List Nat) (hg : g.length = 8) (hlt : ∀ x ∈ g, x < 65536) (a n : Nat) (hr : Run g (a, n)) : parseA (shortB g a n) = some (true, bytesG g) := by
  unfold shortB
  by_cases h2 : 2 ≤ n
  · rw [if_pos h2]
    have h46 : (46 : UInt8) ∉ J (g.take a) ++ [58, 58] ++ J (g.drop (a + n)) := by
      simp only [List.mem_append, not_or]
      exact ⟨⟨J_46 _, by decide⟩, J_46 _⟩
    have hgp := grp_parts (g.take a) (g.drop (a + n)) (fun x hx => hlt x (List.mem_of_mem_take hx)) (fun x hx => hlt x (List.mem_of_mem_drop hx))
    unfold parseA
    rw [four_no _ h46, if_neg (by decide), cut_parts, hgp]
    have hlen : 3 ≤ (partsL (g.take a) (g.drop (a + n))).length := by
      have h3 := List.length_pos_iff.2 (ne1_ne (hexs (g.take a)))
      have h4 := List.length_pos_iff.2 (ne1_ne (hexs (g.drop (a + n))))
      unfold partsL
      simp only [List.length_append, List.length_cons, List.length_nil]
      omega
    have h1 : a + n ≤ 8 := hr.1
    have hc : cntG ((g.take a).map (fun n : Nat => (n : Int)) ++ [-1] ++ (g.drop (a + n)).map (fun n : Nat => (n : Int))) = 8 - n := by
      have e1 := cnt_ints (g.take a)
      have e2 := cnt_ints (g.drop (a + n))
      unfold cntG at e1 e2 ⊢
      rw [List.filter_append, List.filter_append, List.length_append, List.length_append, e1, e2]
      simp
      omega
    have hgap : gapG ((g.take a).map (fun n : Nat => (n : Int)) ++ [-1] ++ (g.drop (a + n)).map (fun n : Nat => (n : Int))) = true := by
      unfold gapG
      rw [List.any_append, List.any_append]
      simp
    simp only [hc, hgap]
    rw [if_neg (by simp; omega)]
    congr 2
    have e1 := fill_ints (g.take a) (8 - (8 - n))
    have e2 := fill_ints (g.drop (a + n)) (8 - (8 - n))
    unfold fillG at e1 e2 ⊢
    rw [List.flatMap_append, List.flatMap_append, e1, e2]
    have e3 := congrArg bytesG (split_run g a n hr hg)
    rw [bytes_app, bytes_app, bytes_zero] at e3
    rw [e3, show 8 - (8 - n) = n from by omega]
    simp
  · rw [if_neg h2]
    have hne : g ≠ [] := fun e => by rw [e] at hg; simp at hg
    have hgr : grp (hexs g) = some (g.map fun n : Nat => (n : Int)) := by
      have := grp_hexs (hexs g) 0 [] false rfl g hlt (fun j hj => by rw [Nat.zero_add]; exact getD_hexs g j hj) g.length (Nat.le_refl _)
      unfold grp
      rw [show (hexs g).length = 0 + g.length from by simp [hexs], this]
      simp
    unfold parseA
    rw [four_no _ (J_46 g), if_neg (by decide), cut_all g hne, hgr]
    simp only [cnt_ints, gap_ints, fill_ints]
    rw [if_neg (by simp [hexs, hg])]

/-- The mapped ones. -/
def FFFF : List UInt8 := [58, 58, 102, 102, 102, 102, 58]
theorem v4_bytes (a b c d : UInt8) : v4B (((a.toNat * 256 + b.toNat) * 256 + c.toNat) * 256 + d.toNat) = List.replicate 12 0 ++ [a, b, c, d] := by
  have ha := a.toNat_lt
  have hb := b.toNat_lt
  have hc := c.toNat_lt
  have hd := d.toNat_lt
  unfold v4B b8
  rw [show (((a.toNat * 256 + b.toNat) * 256 + c.toNat) * 256 + d.toNat) / 16777216 = a.toNat from by omega]
  have e : ∀ (n : Nat) (x : UInt8), n % 256 = x.toNat → UInt8.ofNat n = x := fun n x h => by
    apply UInt8.toNat_inj.1
    rw [UInt8.toNat_ofNat', h]
  rw [UInt8.ofNat_toNat, e _ b (by omega), e _ c (by omega), e _ d (by omega)]
theorem parse_four (a b c d : UInt8) : parseA (dotsB a.toNat b.toNat c.toNat d.toNat) = some (false, List.replicate 12 0 ++ [a, b, c, d]) := by
  have ha := a.toNat_lt
  have hb := b.toNat_lt
  have hc := c.toNat_lt
  have hd := d.toNat_lt
  unfold parseA
  rw [four_dots _ _ _ _ (by omega) (by omega) (by omega) (by omega), if_pos (by omega), Int.toNat_natCast, v4_bytes]
theorem dots_58 (a b c d : Nat) : (58 : UInt8) ∉ dotsB a b c d := join_no 58 46 (by decide) _ (fun x hx => by
  simp only [List.mem_cons, List.not_mem_nil, or_false] at hx
  rcases hx with rfl | rfl | rfl | rfl <;> exact digs_58 10 _ (by omega) (by omega))
theorem cut_mapped (a b c d : Nat) : cutL 58 (FFFF ++ dotsB a b c d) = [[], [], [102, 102, 102, 102], dotsB a b c d] := by
  have h := cut_none 58 _ (dots_58 a b c d)
  have h1 := cut_app 58 (dotsB a b c d) [102, 102, 102, 102] (by decide)
  have h2 := cut_app 58 ([102, 102, 102, 102] ++ 58 :: dotsB a b c d) [] (by decide)
  have h3 := cut_app 58 (58 :: ([102, 102, 102, 102] ++ 58 :: dotsB a b c d)) [] (by decide)
  rw [show FFFF ++ dotsB a b c d = [] ++ 58 :: ([] ++ 58 :: ([102, 102, 102, 102] ++ 58 :: dotsB a b c d)) from rfl]
  rw [cut_app 58 _ [] (by decide), cut_app 58 _ [] (by decide), h1, h]
theorem four_mapped (a b c d : Nat) : four (FFFF ++ dotsB a b c d) = -1 := by
  have e : FFFF ++ dotsB a b c d = joinL 46 [FFFF ++ digs 10 a, digs 10 b, digs 10 c, digs 10 d] := by simp [dotsB, joinL]
  have hcut : cutL 46 (FFFF ++ dotsB a b c d) = [FFFF ++ digs 10 a, digs 10 b, digs 10 c, digs 10 d] := by
    rw [e]
    refine cut_join 46 _ (by simp) (fun x hx => ?_)
    simp only [List.mem_cons, List.not_mem_nil, or_false] at hx
    rcases hx with rfl | rfl | rfl | rfl
    · simp only [List.mem_append, not_or]
      exact ⟨by decide, digs_46 10 _ (by omega) (by omega)⟩
    all_goals exact digs_46 10 _ (by omega) (by omega)
  have hno : okFour (FFFF ++ digs 10 a) = false := by
    have h1 : num 10 (FFFF ++ digs 10 a) = -1 := by
      unfold num isNum FFFF
      rw [if_neg (by simp [dig])]
    unfold okFour
    rw [h1]
    rfl
  unfold four
  rw [hcut]
  simp [hno]
theorem parse_mapped (a b c d : UInt8) : parseA (FFFF ++ dotsB a.toNat b.toNat c.toNat d.toNat) = some (true, List.replicate 10 0 ++ [255, 255] ++ [a, b, c, d]) := by
  have ha := a.toNat_lt
  have hb := b.toNat_lt
  have hc := c.toNat_lt
  have hd := d.toNat_lt
  have hv := four_dots a.toNat b.toNat c.toNat d.toNat (by omega) (by omega) (by omega) (by omega)
  have hne : dotsB a.toNat b.toNat c.toNat d.toNat ≠ [] := fun e => by
    have := digs_ne 10 a.toNat (by omega) (by omega)
    simp [dotsB, joinL] at e
  have hn : num 16 [102, 102, 102, 102] = 65535 := by decide
  have hf : four [102, 102, 102, 102] = -1 := by decide
  have hg : grp (cutL 58 (FFFF ++ dotsB a.toNat b.toNat c.toNat d.toNat)) = some [-1, 65535, ((a.toNat * 256 + b.toNat : Nat) : Int), ((c.toNat * 256 + d.toNat : Nat) : Int)] := by
    rw [cut_mapped]
    generalize hD : dotsB a.toNat b.toNat c.toNat d.toNat = D at hv hne
    have g1 : grpTo [[], [], [102, 102, 102, 102], D] 1 = some ([], false) := grp_edge _ 0 [] false rfl rfl (by simp) (.inl ⟨rfl, rfl⟩)
    have g2 : grpTo [[], [], [102, 102, 102, 102], D] 2 = some ([-1], true) := grp_gap _ 1 [] g1 rfl (by decide) (by simp)
    have g3 : grpTo [[], [], [102, 102, 102, 102], D] 3 = some ([-1, 65535], true) := by
      rw [grpTo, g2]
      simp [hn, hf]
    have g4 : grpTo [[], [], [102, 102, 102, 102], D] 4 = some ([-1, 65535, ((a.toNat * 256 + b.toNat : Nat) : Int), ((c.toNat * 256 + d.toNat : Nat) : Int)], true) := by
      rw [grpTo, g3]
      have e0 : ([[], [], [102, 102, 102, 102], D] : List (List UInt8)).getD 3 [] = D := rfl
      simp only [e0, hne, hv, if_false]
      rw [if_pos ⟨by omega, rfl⟩]
      simp only [List.cons_append, List.nil_append]
      have e1 : (((((a.toNat * 256 + b.toNat) * 256 + c.toNat) * 256 + d.toNat : Nat) : Int) / 65536) = ((a.toNat * 256 + b.toNat : Nat) : Int) := by omega
      have e2 : (((((a.toNat * 256 + b.toNat) * 256 + c.toNat) * 256 + d.toNat : Nat) : Int) % 65536) = ((c.toNat * 256 + d.toNat : Nat) : Int) := by omega
      rw [e1, e2]
    unfold grp
    rw [show ([[], [], [102, 102, 102, 102], D] : List (List UInt8)).length = 4 from rfl, g4]
    rfl
  unfold parseA
  rw [four_mapped, if_neg (by decide), hg]
  have hl : (cutL 58 (FFFF ++ dotsB a.toNat b.toNat c.toNat d.toNat)).length = 4 := by rw [cut_mapped]; rfl
  have hcn : cntG [-1, 65535, ((a.toNat * 256 + b.toNat : Nat) : Int), ((c.toNat * 256 + d.toNat : Nat) : Int)] = 3 := by
    unfold cntG
    have e1 : decide ((0 : Int) ≤ ((a.toNat * 256 + b.toNat : Nat) : Int)) = true := decide_eq_true (by omega)
    have e2 : decide ((0 : Int) ≤ ((c.toNat * 256 + d.toNat : Nat) : Int)) = true := decide_eq_true (by omega)
    simp only [List.filter_cons, e1, e2]
    rfl
  have hgp : gapG [-1, 65535, ((a.toNat * 256 + b.toNat : Nat) : Int), ((c.toNat * 256 + d.toNat : Nat) : Int)] = true := rfl
  simp only [hl, hcn, hgp]
  rw [if_neg (by simp)]
  congr 2
  unfold fillG
  simp only [List.flatMap_cons, List.flatMap_nil]
  rw [if_pos (by decide), if_neg (by decide), if_neg (by omega), if_neg (by omega)]
  have f1 : b8 (((a.toNat * 256 + b.toNat : Nat) : Int) / 256).toNat = a := by
    rw [show (((a.toNat * 256 + b.toNat : Nat) : Int) / 256).toNat = (a.toNat * 256 + b.toNat) / 256 from by omega]; exact b8_hi a b
  have f2 : b8 (((a.toNat * 256 + b.toNat : Nat) : Int) % 256).toNat = b := by
    rw [show (((a.toNat * 256 + b.toNat : Nat) : Int) % 256).toNat = (a.toNat * 256 + b.toNat) % 256 from by omega]; exact b8_lo a b
  have f3 : b8 (((c.toNat * 256 + d.toNat : Nat) : Int) / 256).toNat = c := by
    rw [show (((c.toNat * 256 + d.toNat : Nat) : Int) / 256).toNat = (c.toNat * 256 + d.toNat) / 256 from by omega]; exact b8_hi c d
  have f4 : b8 (((c.toNat * 256 + d.toNat : Nat) : Int) % 256).toNat = d := by
    rw [show (((c.toNat * 256 + d.toNat : Nat) : Int) % 256).toNat = (c.toNat * 256 + d.toNat) % 256 from by omega]; exact b8_lo c d
  rw [f1, f2, f3, f4]
  rfl
def mappedB (B : List UInt8) : Bool := decide (B.take 12 = List.replicate 10 0 ++ [255, 255])
def lastB (B : List UInt8) : List UInt8 := dotsB (B.getD 12 0).toNat (B.getD 13 0).toNat (B.getD 14 0).toNat (B.getD 15 0).toNat
def mayB (v6 : Bool) (B : List UInt8) : Bool := v6 || decide (B.take 12 = List.replicate 12 0)
/-- One in short. -/
def printA (v6 : Bool) (B : List UInt8) : List UInt8 :=
  if v6 = false then lastB B else if mappedB B then FFFF ++ lastB B else shortB (toG B) (best (toG B)).1 (best (toG B)).2
theorem last4 (B : List UInt8) (h : B.length = 16) : B = B.take 12 ++ [B.getD 12 0, B.getD 13 0, B.getD 14 0, B.getD 15 0] := by
  conv => lhs; rw [← List.take_append_drop 12 B]
  congr 1
  apply List.ext_getElem
  · simp; omega
  · intro j h1 h2
    have hj : j < 4 := by simpa using h2
    rw [List.getElem_drop]
    have hb : 12 + j < B.length := by omega
    have : j = 0 ∨ j = 1 ∨ j = 2 ∨ j = 3 := by omega
    rcases this with rfl | rfl | rfl | rfl <;> simp [List.getD_eq_getElem?_getD, h]
/-- Parse of Print is the address. -/
theorem print_back (v6 : Bool) (B : List UInt8) (h : B.length = 16) (hm : mayB v6 B = true) : parseA (printA v6 B) = some (v6, B) := by
  unfold printA
  cases v6
  · rw [if_pos rfl]
    unfold lastB
    rw [parse_four]
    have hm2 : B.take 12 = List.replicate 12 0 := by
      unfold mayB at hm
      rw [Bool.false_or] at hm
      exact of_decide_eq_true hm
    rw [← hm2, ← last4 B h]
  · rw [if_neg (by simp)]
    by_cases hmp : mappedB B = true
    · rw [if_pos hmp]
      unfold lastB
      rw [parse_mapped]
      unfold mappedB at hmp
      rw [← of_decide_eq_true hmp, ← last4 B h]
    · rw [if_neg hmp, parse_short (toG B) (by rw [toG_len, h]) (fun x hx => toG_lt B x hx) (best (toG B)).1 (best (toG B)).2 (best_run (toG B)), bytes_toG B (by omega)]

end Go.Proofs.YtlblefcmilfjdaaGreatDoor
namespace Go.Proofs.YtlblefcmilfjdaaGreatDoor
set_option linter.unusedSimpArgs false
set_option linter.unusedVariables false

/-- A part that is written loosely; -1: it is none. -/
def partA (x : List UInt8) : Int :=
  if 2 ≤ x.length ∧ x.getD 0 0 = 48 ∧ (x.getD 1 0 = 120 ∨ x.getD 1 0 = 88) then (if x.length = 2 then 0 else num 16 (x.drop 2))
  else if 2 ≤ x.length ∧ x.getD 0 0 = 48 then num 8 x
  else num 10 x
/-- The parts but the last, as a number; none: one is none. -/
def allTo (P : List (List UInt8)) : Nat → Option Int
  | 0 => some 0
  | k + 1 => match allTo P k with
    | none => none
    | some n => if partA (P.getD k []) < 0 ∨ 255 < partA (P.getD k []) then none else some (n * 256 + partA (P.getD k []))
def trimDot (l : List UInt8) : List UInt8 := if l.getLast? = some 46 then l.dropLast else l
def looseP (P : List (List UInt8)) : Option (List UInt8) :=
  if 4 < P.length then none
  else match allTo P (P.length - 1) with
    | none => none
    | some n => if partA (P.getD (P.length - 1) []) < 0 ∨ 256 ^ (5 - P.length) ≤ partA (P.getD (P.length - 1) []) then none
      else some (v4B (n * 256 ^ (5 - P.length) + partA (P.getD (P.length - 1) [])).toNat)
/-- One of IPv4, written loosely. -/
def looseA (l : List UInt8) : Option (List UInt8) := looseP (cutL 46 (trimDot l))

theorem num_no (base : Nat) (x : List UInt8) (c : UInt8) (hc : c ∈ x) (hd : ¬ dig c < base) : num base x = -1 := by
  unfold num
  rw [if_neg]
  intro h
  unfold isNum at h
  simp only [Bool.and_eq_true, List.all_eq_true, decide_eq_true_eq] at h
  exact hd (h.2 c hc)
theorem part_colon (x : List UInt8) (hc : (58 : UInt8) ∈ x) : partA x = -1 := by
  unfold partA
  have h58 : ∀ b, b ≤ 16 → ¬ dig 58 < b := fun b hb h => by
    have : dig 58 = 99 := by decide
    omega
  split
  · rename_i h
    obtain ⟨h1, h2, h3⟩ := h
    match x, h1, h2, h3, hc with
    | a :: b :: r, _, h2, h3, hc =>
      have ha : a = 48 := by simpa using h2
      have hb : b = 120 ∨ b = 88 := by simpa using h3
      have hr : (58 : UInt8) ∈ r := by
        simp only [List.mem_cons] at hc
        rcases hc with h | h | h
        · rw [ha] at h; exact absurd h (by decide)
        · rcases hb with e | e <;> (rw [e] at h; exact absurd h (by decide))
        · exact h
      have hl : ¬ (a :: b :: r).length = 2 := by
        cases r with
        | nil => simp at hr
        | cons z s => simp
      rw [if_neg hl]
      exact num_no 16 _ 58 (by simpa using hr) (h58 16 (by omega))
  · split
    · exact num_no 8 x 58 hc (h58 8 (by omega))
    · exact num_no 10 x 58 hc (h58 10 (by omega))
theorem cut_mem (b c : UInt8) (hbc : c ≠ b) : ∀ l : List UInt8, c ∈ l → ∃ x ∈ cutL b l, c ∈ x
  | [], h => by simp at h
  | d :: r, h => by
    have hne := cutL_pos b r
    unfold cutL
    by_cases hd : d = b
    · rw [if_pos hd]
      have hr : c ∈ r := by
        rcases List.mem_cons.1 h with e | e
        · exact absurd (e.trans hd) hbc
        · exact e
      obtain ⟨x, hx, hcx⟩ := cut_mem b c hbc r hr
      exact ⟨x, by simp [hx], hcx⟩
    · rw [if_neg hd]
      rcases List.mem_cons.1 h with e | e
      · exact ⟨d :: (cutL b r).headD [], by simp, by simp [e]⟩
      · obtain ⟨x, hx, hcx⟩ := cut_mem b c hbc r e
        cases hcl : cutL b r with
        | nil => rw [hcl] at hne; simp at hne
        | cons y s =>
          rw [hcl] at hx
          rcases List.mem_cons.1 hx with e2 | e2
          · exact ⟨d :: y, by simp, by rw [← e2]; simp [hcx]⟩
          · exact ⟨x, by simp [e2], hcx⟩
theorem allTo_part (P : List (List UInt8)) : ∀ k n, allTo P k = some n → ∀ j, j < k → 0 ≤ partA (P.getD j [])
  | 0, n, _, j, hj => absurd hj (by omega)
  | k + 1, n, h, j, hj => by
    rw [allTo] at h
    cases hk : allTo P k with
    | none => rw [hk] at h; cases h
    | some m =>
      rw [hk] at h
      simp only at h
      split at h
      · cases h
      · rename_i hc
        rcases Nat.lt_or_ge j k with h1 | h1
        · exact allTo_part P k m hk j h1
        · have : j = k := by omega
          rw [this]
          omega
/-- With a colon it is none. -/
theorem loose_colon (l : List UInt8) (h : (58 : UInt8) ∈ l) : looseA l = none := by
  have h1 : (58 : UInt8) ∈ trimDot l := by
    unfold trimDot
    split
    · rename_i he
      obtain ⟨ys, rfl⟩ := List.getLast?_eq_some_iff.1 he
      rcases List.mem_append.1 h with h | h
      · simpa using h
      · simp at h
    · exact h
  obtain ⟨x, hx, hcx⟩ := cut_mem 46 58 (by decide) _ h1
  obtain ⟨j, hj, hjx⟩ := List.mem_iff_getElem.1 hx
  have hp : partA ((cutL 46 (trimDot l)).getD j []) = -1 := by
    rw [List.getD_eq_getElem?_getD, List.getElem?_eq_getElem hj, Option.getD_some, hjx]
    exact part_colon x hcx
  unfold looseA looseP
  generalize cutL 46 (trimDot l) = P at hj hp
  split
  · rfl
  · cases ha : allTo P (P.length - 1) with
    | none => rfl
    | some n =>
      simp only
      rcases Nat.lt_or_ge j (P.length - 1) with h2 | h2
      · have := allTo_part P _ n ha j h2
        rw [hp] at this
        omega
      · have : j = P.length - 1 := by omega
        rw [← this, hp, if_pos (by omega)]

theorem cut_snoc (b : UInt8) : ∀ ys : List UInt8, cutL b (ys ++ [b]) = cutL b ys ++ [[]]
  | [] => by simp [cutL]
  | c :: r => by
    have ih := cut_snoc b r
    have hne := cutL_pos b r
    cases hcl : cutL b r with
    | nil => rw [hcl] at hne; simp at hne
    | cons y s =>
      rw [hcl] at ih
      simp only [List.cons_append, cutL, ih, hcl]
      split <;> simp
theorem trim_same (l : List UInt8) (h : (cutL 46 l).getLast? ≠ some []) : trimDot l = l := by
  unfold trimDot
  rw [if_neg]
  intro he
  obtain ⟨ys, rfl⟩ := List.getLast?_eq_some_iff.1 he
  rw [cut_snoc] at h
  simp at h
theorem part_ok (x : List UInt8) (h : okFour x = true) : partA x = num 10 x ∧ 0 ≤ num 10 x ∧ num 10 x ≤ 255 ∧ x ≠ [] := by
  unfold okFour at h
  simp only [Bool.and_eq_true, decide_eq_true_eq, Bool.not_eq_true', Bool.and_eq_false_iff, decide_eq_false_iff_not] at h
  obtain ⟨⟨h1, h2⟩, h3⟩ := h
  have hne : x ≠ [] := fun e => by rw [e] at h1; exact absurd h1 (by decide)
  have hhd : ¬ (2 ≤ x.length ∧ x.getD 0 0 = 48) := fun ⟨e1, e2⟩ => by
    rcases h3 with h3 | h3
    · omega
    · cases x with
      | nil => exact hne rfl
      | cons c r => exact h3 (by simpa using e2)
  refine ⟨?_, h1, h2, hne⟩
  unfold partA
  rw [if_neg (fun e => hhd ⟨e.1, e.2.1⟩), if_neg hhd]
/-- What is written strictly is read loosely alike. -/
theorem loose_four (l : List UInt8) (h : 0 ≤ four l) : looseA l = some (v4B (four l).toNat) := by
  unfold four at h ⊢
  split at h
  · rename_i a b c d hc
    split at h
    · rename_i hok
      simp only [Bool.and_eq_true] at hok
      obtain ⟨⟨⟨ha, hb⟩, hc'⟩, hd⟩ := hok
      obtain ⟨pa, a0, a1, _⟩ := part_ok a ha
      obtain ⟨pb, b0, b1, _⟩ := part_ok b hb
      obtain ⟨pc, c0, c1, _⟩ := part_ok c hc'
      obtain ⟨pd, d0, d1, dn⟩ := part_ok d hd
      have ht := trim_same l (by rw [hc]; simpa using dn)
      unfold looseA looseP
      rw [ht, hc]
      have e0 : ([a, b, c, d] : List (List UInt8)).getD 0 [] = a := rfl
      have e1 : ([a, b, c, d] : List (List UInt8)).getD 1 [] = b := rfl
      have e2 : ([a, b, c, d] : List (List UInt8)).getD 2 [] = c := rfl
      have e3 : ([a, b, c, d] : List (List UInt8)).getD 3 [] = d := rfl
      have s1 : allTo [a, b, c, d] 1 = some (num 10 a) := by
        rw [allTo, allTo]
        simp only [e0, pa]
        rw [if_neg (by omega)]
        simp
      have s2 : allTo [a, b, c, d] 2 = some (num 10 a * 256 + num 10 b) := by
        rw [allTo, s1]
        simp only [e1, pb]
        rw [if_neg (by omega)]
      have s3 : allTo [a, b, c, d] 3 = some ((num 10 a * 256 + num 10 b) * 256 + num 10 c) := by
        rw [allTo, s2]
        simp only [e2, pc]
        rw [if_neg (by omega)]
      rw [show ([a, b, c, d] : List (List UInt8)).length = 4 from rfl, if_neg (by omega), show (4 : Nat) - 1 = 3 from rfl, s3]
      simp only [e3, pd]
      rw [if_neg (by simp; omega)]
      simp [ha, hb, hc', hd]
    · exact absurd h (by decide)
  · exact absurd h (by decide)
/-- What is read strictly and loosely is read alike. -/
theorem loose_parse (l B : List UInt8) (r : Bool × List UInt8) (hl : looseA l = some B) (hp : parseA l = some r) : r = (false, B) := by
  unfold parseA at hp
  by_cases h4 : 0 ≤ four l
  · rw [if_pos h4] at hp
    rw [loose_four l h4] at hl
    cases hl
    cases hp
    rfl
  · exfalso
    rw [if_neg h4] at hp
    by_cases h58 : (58 : UInt8) ∈ l
    · rw [loose_colon l h58] at hl; cases hl
    · rw [cut_none 58 l h58] at hp
      cases hg : grp [l] with
      | none => rw [hg] at hp; cases hp
      | some g =>
        rw [hg] at hp
        simp only at hp
        rw [if_pos (.inl (by simp))] at hp
        cases hp
/-- A number, written so. -/
def formB (kind n : Nat) : List UInt8 := if kind % 3 = 1 then 48 :: digs 8 n else if kind % 3 = 2 then 48 :: 120 :: digs 16 n else digs 10 n
theorem valB_zero (base : Nat) (r : List UInt8) : valB base (48 :: r) = valB base r := by
  unfold valB
  have : dig 48 = 0 := by decide
  simp [this]
theorem form_part (kind n : Nat) (h : n < 4294967296) : partA (formB kind n) = (n : Int) := by
  unfold formB
  split
  · have hne := digs_ne 8 n (by omega) (by omega)
    cases hd : digs 8 n with
    | nil => exact absurd hd hne
    | cons c r =>
      have hc := digsF_all 8 (by omega) (by omega) 20 n c (by show c ∈ digs 8 n; rw [hd]; simp)
      unfold partA
      have hx : ¬ (2 ≤ (48 :: c :: r).length ∧ (48 :: c :: r).getD 0 0 = 48 ∧ ((48 :: c :: r).getD 1 0 = 120 ∨ (48 :: c :: r).getD 1 0 = 88)) := fun ⟨_, _, e⟩ => by
        have e' : c = 120 ∨ c = 88 := by simpa using e
        have h1 := hc.1
        rcases e' with e | e <;> (rw [e] at h1; exact absurd h1 (by decide))
      rw [if_neg hx, if_pos ⟨by simp, by simp⟩, ← hd]
      have hv := digs_num 8 n (by omega) (by omega) (by omega) (by omega)
      unfold num at hv ⊢
      rw [valB_zero]
      have hi : isNum 8 (48 :: digs 8 n) = isNum 8 (digs 8 n) := by
        unfold isNum
        rw [hd]
        have : decide (dig 48 < 8) = true := by decide
        simp [this]
      rw [hi]
      exact hv
  · split
    · have hne := digs_ne 16 n (by omega) (by omega)
      unfold partA
      rw [if_pos ⟨by simp, by simp, by simp⟩, if_neg (by cases hd : digs 16 n with
        | nil => exact absurd hd hne
        | cons c r => simp)]
      exact digs_num 16 n (by omega) (by omega) (by omega) (by omega)
    · unfold partA
      have hx : ¬ (2 ≤ (digs 10 n).length ∧ (digs 10 n).getD 0 0 = 48) := fun ⟨e1, e2⟩ => by
        by_cases h0 : n = 0
        · subst h0; exact absurd e1 (by decide)
        · have := digsF_head 10 (by omega) (by omega) 19 n (by omega) (by omega)
          apply this
          show (digs 10 n).headD 0 = 48
          cases hd : digs 10 n with
          | nil => rw [hd] at e1; simp at e1
          | cons c r => rw [hd] at e2; simpa using e2
      rw [if_neg (fun e => hx ⟨e.1, e.2.1⟩), if_neg hx]
      exact digs_num 10 n (by omega) (by omega) (by omega) (by omega)
theorem form_46 (kind n : Nat) : (46 : UInt8) ∉ formB kind n := by
  unfold formB
  split
  · simp only [List.mem_cons, not_or]; exact ⟨by decide, digs_46 8 n (by omega) (by omega)⟩
  · split
    · simp only [List.mem_cons, not_or]; exact ⟨by decide, by decide, digs_46 16 n (by omega) (by omega)⟩
    · exact digs_46 10 n (by omega) (by omega)
theorem form_ne (kind n : Nat) : formB kind n ≠ [] := by
  unfold formB
  split
  · simp
  · split
    · simp
    · exact digs_ne 10 n (by omega) (by omega)
theorem loose_join (P : List (List UInt8)) (h0 : P ≠ []) (h46 : ∀ x ∈ P, (46 : UInt8) ∉ x) (hne : ∀ x ∈ P, x ≠ []) : looseA (joinL 46 P) = looseP P := by
  have hc := cut_join 46 P h0 h46
  unfold looseA
  rw [trim_same (joinL 46 P) (by
    rw [hc]
    intro e
    obtain ⟨ys, rfl⟩ := List.getLast?_eq_some_iff.1 e
    exact hne [] (by simp) rfl), hc]

end Go.Proofs.YtlblefcmilfjdaaGreatDoor
namespace Go.Proofs.YtlblefcmilfjdaaGreatDoor
set_option linter.unusedSimpArgs false
set_option linter.unusedVariables false

/-- p is the longest run among those that begin ahead of i, or at i and end behind e; the first of equal ones. -/
structure Best (g : List Nat) (i e : Nat) (p : Nat × Nat) : Prop where
  run : Run g p
  le : p.1 ≤ i
  none : p.2 = 0 → p.1 = 0
  most : ∀ j k, j ≤ k → k ≤ 8 → allz g j k = true → (j < i ∨ (j = i ∧ e < k)) → k - j ≤ p.2
  first : ∀ j k, j ≤ k → k ≤ 8 → allz g j k = true → (j < i ∨ (j = i ∧ e < k)) → k - j = p.2 → 0 < p.2 → p.1 ≤ j
theorem best_step (g : List Nat) (i e : Nat) (p : Nat × Nat) (h : Best g i (e + 1) p) (he : e + 1 ≤ 8) (hi : i ≤ e + 1) : Best g i e (stepB g i (e + 1) p) := by
  have hr := stepB_run g i (e + 1) p h.run he hi
  unfold stepB at hr ⊢
  by_cases hc : (allz g i (e + 1) && decide (p.2 < e + 1 - i)) = true
  · rw [if_pos hc] at hr ⊢
    simp only [Bool.and_eq_true, decide_eq_true_eq] at hc
    refine ⟨hr, Nat.le_refl _, fun e0 => by simp at e0; omega, fun j k hjk hk hz hj => ?_, fun j k hjk hk hz hj heq h0 => ?_⟩
    · show k - j ≤ e + 1 - i
      rcases hj with hj | ⟨rfl, hj⟩
      · have := h.most j k hjk hk hz (.inl hj); omega
      · rcases Nat.lt_or_ge (e + 1) k with h2 | h2
        · have := h.most j k hjk hk hz (.inr ⟨rfl, h2⟩); omega
        · omega
    · show i ≤ j
      have heq' : k - j = e + 1 - i := heq
      rcases hj with hj | ⟨rfl, hj⟩
      · have := h.most j k hjk hk hz (.inl hj); omega
      · exact Nat.le_refl _
  · rw [if_neg hc] at hr ⊢
    refine ⟨hr, h.le, h.none, fun j k hjk hk hz hj => ?_, fun j k hjk hk hz hj heq h0 => ?_⟩
    · rcases hj with hj | ⟨rfl, hj⟩
      · exact h.most j k hjk hk hz (.inl hj)
      · rcases Nat.lt_or_ge (e + 1) k with h2 | h2
        · exact h.most j k hjk hk hz (.inr ⟨rfl, h2⟩)
        · have : k = e + 1 := by omega
          subst this
          rw [hz] at hc
          simp at hc
          omega
    · rcases hj with hj | ⟨rfl, hj⟩
      · exact h.first j k hjk hk hz (.inl hj) heq h0
      · exact h.le
theorem best_inner (g : List Nat) (i : Nat) (hi : i ≤ 8) (p : Nat × Nat) (h : Best g i 8 p) : ∀ t, t ≤ 8 - i → Best g i (8 - t) (innerB g i t p)
  | 0, _ => h
  | t + 1, ht => by
    have ih := best_inner g i hi p h t (by omega)
    have := best_step g i (8 - (t + 1)) (innerB g i t p) (by rw [show 8 - (t + 1) + 1 = 8 - t from by omega]; exact ih) (by omega) (by omega)
    rw [show 8 - (t + 1) + 1 = 8 - t from by omega] at this
    exact this
theorem best_outer (g : List Nat) : ∀ i, i ≤ 8 → Best g i 8 (outerB g i)
  | 0, _ => ⟨outerB_run g 0 (by omega), Nat.le_refl _, fun _ => rfl, fun j k hjk hk hz hj => by rcases hj with hj | ⟨_, hj⟩ <;> omega, fun j k hjk hk hz hj => by rcases hj with hj | ⟨_, hj⟩ <;> omega⟩
  | i + 1, h => by
    have h1 := best_inner g i (by omega) _ (best_outer g i (by omega)) (8 - i) (Nat.le_refl _)
    rw [show 8 - (8 - i) = i from by omega] at h1
    show Best g (i + 1) 8 (innerB g i (8 - i) (outerB g i))
    refine ⟨h1.run, Nat.le_succ_of_le h1.le, h1.none, fun j k hjk hk hz hj => ?_, fun j k hjk hk hz hj heq h0 => ?_⟩
    · rcases hj with hj | ⟨_, hj⟩
      · rcases Nat.lt_or_ge j i with h2 | h2
        · exact h1.most j k hjk hk hz (.inl h2)
        · rcases Nat.eq_or_lt_of_le hjk with h3 | h3
          · omega
          · exact h1.most j k hjk hk hz (.inr ⟨by omega, by omega⟩)
      · omega
    · rcases hj with hj | ⟨_, hj⟩
      · rcases Nat.lt_or_ge j i with h2 | h2
        · exact h1.first j k hjk hk hz (.inl h2) heq h0
        · exact h1.first j k hjk hk hz (.inr ⟨by omega, by omega⟩) heq h0
      · omega
/-- Which run it is. -/
theorem best_is (g : List Nat) (a n : Nat) (hr : Run g (a, n)) (h0 : n = 0 → a = 0) (hmost : ∀ j k, j ≤ k → k ≤ 8 → allz g j k = true → k - j ≤ n) (hfirst : ∀ j k, j ≤ k → k ≤ 8 → allz g j k = true → k - j = n → 0 < n → a ≤ j) : best g = (a, n) := by
  have hb := best_outer g 8 (Nat.le_refl _)
  have hb' : Best g 8 8 (best g) := hb
  have hr1 := hb'.run
  obtain ⟨p, hp⟩ : ∃ p, p = best g := ⟨_, rfl⟩
  rw [← hp] at hb' hr1 ⊢
  obtain ⟨b, m⟩ := p
  have h1 : a + n ≤ 8 := hr.1
  have h2 : b + m ≤ 8 := hr1.1
  have e1 : m ≤ n := by have := hmost b (b + m) (by omega) h2 hr1.2; omega
  have e2 : n ≤ m := by
    rcases Nat.eq_zero_or_pos n with h | h
    · omega
    · have := hb'.most a (a + n) (by omega) h1 hr.2 (.inl (by omega))
      simp at this
      omega
  obtain rfl : m = n := by omega
  rcases Nat.eq_zero_or_pos m with h | h
  · have e3 := h0 h
    have e4 : b = 0 := hb'.none h
    rw [e3, e4]
  · have e3 := hfirst b (b + m) (by omega) h2 hr1.2 (by omega) h
    have e4 : b ≤ a := hb'.first a (a + m) (by omega) h1 hr.2 (.inl (by omega)) (by simp) h
    rw [show b = a from by omega]

theorem form_step (P : List (List UInt8)) (k m kind v : Nat) (hP : P.getD k [] = formB kind v) (hv : v < 256) (h : allTo P k = some (m : Int)) : allTo P (k + 1) = some ((m * 256 + v : Nat) : Int) := by
  have hf := form_part kind v (by omega)
  rw [allTo, h]
  simp only [hP, hf]
  rw [if_neg (by omega)]
  congr 1
theorem form_end (P : List (List UInt8)) (m kind v L : Nat) (h4 : ¬ 4 < P.length) (hL : 256 ^ (5 - P.length) = L) (hP : P.getD (P.length - 1) [] = formB kind v) (hv : v < L) (hL2 : L ≤ 4294967296) (h : allTo P (P.length - 1) = some (m : Int)) : looseP P = some (v4B (m * L + v)) := by
  have hf := form_part kind v (by omega)
  have hLi : ((256 : Int) ^ (5 - P.length)) = (L : Int) := by rw [← hL]; exact (Int.natCast_pow 256 _).symm
  unfold looseP
  rw [if_neg h4, h]
  simp only [hP, hf, hLi]
  rw [if_neg (by omega)]
  congr 2
theorem forms_one (k0 n : Nat) (h : n < 4294967296) : looseP [formB k0 n] = some (v4B n) := by
  have := form_end [formB k0 n] 0 k0 n 4294967296 (by simp) (by simp) rfl h (Nat.le_refl _) rfl
  simpa using this
theorem forms_two (k0 k1 a n : Nat) (ha : a < 256) (h : n < 16777216) : looseP [formB k0 a, formB k1 n] = some (v4B (a * 16777216 + n)) := by
  have s1 := form_step [formB k0 a, formB k1 n] 0 0 k0 a rfl ha rfl
  have := form_end [formB k0 a, formB k1 n] _ k1 n 16777216 (by simp) (by simp) rfl h (by omega) s1
  simpa using this
theorem forms_three (k0 k1 k2 a b n : Nat) (ha : a < 256) (hb : b < 256) (h : n < 65536) : looseP [formB k0 a, formB k1 b, formB k2 n] = some (v4B ((a * 256 + b) * 65536 + n)) := by
  have s1 := form_step [formB k0 a, formB k1 b, formB k2 n] 0 0 k0 a rfl ha rfl
  have s2 := form_step [formB k0 a, formB k1 b, formB k2 n] 1 _ k1 b rfl hb s1
  have := form_end [formB k0 a, formB k1 b, formB k2 n] _ k2 n 65536 (by simp) (by simp) rfl h (by omega) s2
  simpa using this
theorem forms_four (k0 k1 k2 k3 a b c n : Nat) (ha : a < 256) (hb : b < 256) (hc : c < 256) (h : n < 256) : looseP [formB k0 a, formB k1 b, formB k2 c, formB k3 n] = some (v4B (((a * 256 + b) * 256 + c) * 256 + n)) := by
  have s1 := form_step [formB k0 a, formB k1 b, formB k2 c, formB k3 n] 0 0 k0 a rfl ha rfl
  have s2 := form_step [formB k0 a, formB k1 b, formB k2 c, formB k3 n] 1 _ k1 b rfl hb s1
  have s3 := form_step [formB k0 a, formB k1 b, formB k2 c, formB k3 n] 2 _ k2 c rfl hc s2
  have := form_end [formB k0 a, formB k1 b, formB k2 c, formB k3 n] _ k3 n 256 (by simp) (by simp) rfl h (by omega) s3
  simpa using this

end Go.Proofs.YtlblefcmilfjdaaGreatDoor
namespace Go.Proofs.YtlblefcmilfjdaaGreatDoor
set_option linter.unusedSimpArgs false
set_option linter.unusedVariables false

/-! Numbers. -/
theorem valB_app (base : Nat) (l r : List UInt8) : valB base (l ++ r) = r.foldl (fun n c => n * base + dig c) (valB base l) := by simp [valB]
theorem fold_ge (base : Nat) (hb : 1 ≤ base) : ∀ (r : List UInt8) (n : Nat), n ≤ r.foldl (fun n c => n * base + dig c) n
  | [], n => Nat.le_refl _
  | c :: r, n => by
    have h1 := fold_ge base hb r (n * base + dig c)
    have h2 : n ≤ n * base := Nat.le_mul_of_pos_right n hb
    simp only [List.foldl_cons]
    omega
theorem valB_mono (base : Nat) (hb : 1 ≤ base) (l r : List UInt8) : valB base l ≤ valB base (l ++ r) := by
  rw [valB_app]; exact fold_ge base hb r _
/-- The digits are digits of the base, and the worth is below e. -/
def numOk (base e : Nat) (l : List UInt8) : Bool := (l.all fun c => decide (dig c < base)) && decide (valB base l < e)
theorem numOk_stop (base e : Nat) (hb : 1 ≤ base) (l r : List UInt8) (c : UInt8) (h : ¬ dig c < base ∨ e ≤ valB base (l ++ [c])) : numOk base e (l ++ c :: r) = false := by
  unfold numOk
  rw [Bool.and_eq_false_iff]
  rcases h with h | h
  · exact Or.inl (by rw [List.all_eq_false]; exact ⟨c, by simp, by simpa using h⟩)
  · refine Or.inr ?_
    have := valB_mono base hb (l ++ [c]) r
    rw [decide_eq_false_iff_not]
    rw [List.append_assoc, List.singleton_append] at this
    omega
theorem num_of_ok (base e : Nat) (x : List UInt8) (hx : x ≠ []) (he : e ≤ 4294967296) (h : numOk base e x = true) : num base x = (valB base x : Int) ∧ valB base x < e := by
  unfold numOk at h
  rw [Bool.and_eq_true, decide_eq_true_eq] at h
  unfold num isNum
  have h1 : (!x.isEmpty && x.all fun c => decide (dig c < base)) = true := by rw [h.1, Bool.and_true]; simpa using hx
  rw [if_pos h1]
  exact ⟨by have := h.2; omega, h.2⟩
theorem num_not_ok (base e : Nat) (x : List UInt8) (he : e ≤ 4294967296) (h : numOk base e x = false) : num base x < 0 ∨ (e : Int) ≤ num base x := by
  unfold numOk at h
  rw [Bool.and_eq_false_iff, decide_eq_false_iff_not] at h
  unfold num isNum
  rcases h with h | h
  · rw [h, Bool.and_false]; simp
  · split
    · right; omega
    · left; decide
theorem numOk_iff (base e : Nat) (x : List UInt8) (hx : x ≠ []) (he : e ≤ 4294967296) : numOk base e x = decide (0 ≤ num base x ∧ num base x < e) := by
  cases h : numOk base e x
  · have := num_not_ok base e x he h
    symm; rw [decide_eq_false_iff_not]; omega
  · have := num_of_ok base e x hx he h
    symm; rw [decide_eq_true_eq]; omega

/-- A part that is written loosely, below e. -/
def partOk (e : Nat) (x : List UInt8) : Bool := decide (0 ≤ partA x ∧ partA x < e)
theorem part_nil : partA [] = -1 := by decide
theorem part_hex0 (c : UInt8) (hc : c = 120 ∨ c = 88) : partA [48, c] = 0 := by
  unfold partA; rw [if_pos ⟨by simp, rfl, hc⟩]; simp
theorem part_hex (c : UInt8) (hc : c = 120 ∨ c = 88) (r : List UInt8) (hr : r ≠ []) : partA (48 :: c :: r) = num 16 r := by
  unfold partA
  rw [if_pos ⟨by simp, rfl, hc⟩, if_neg (by have := List.length_pos_iff.2 hr; simp; omega)]
  rfl
theorem part_oct (r : List UInt8) (hr : r ≠ []) (h : r.headD 0 ≠ 120 ∧ r.headD 0 ≠ 88) : partA (48 :: r) = num 8 (48 :: r) := by
  unfold partA
  cases r with
  | nil => exact absurd rfl hr
  | cons c t =>
    simp only [List.headD_cons] at h
    rw [if_neg (by simp [h.1, h.2]), if_pos (by simp)]
theorem part_zero : partA [48] = 0 := by decide
theorem part_dec (c : UInt8) (r : List UInt8) (h : c ≠ 48) : partA (c :: r) = num 10 (c :: r) := by
  unfold partA
  rw [if_neg (by simp [h]), if_neg (by simp [h])]

/-! Parts. -/
theorem index_at (b : UInt8) (r : List UInt8) : ∀ x : List UInt8, b ∉ x → Lib.index (x ++ b :: r) [b] = x.length
  | [], _ => by simp [Lib.index]
  | c :: y, h => by
    have h1 : c ≠ b := fun e => h (by simp [e])
    have ih := index_at b r y (fun e => h (by simp [e]))
    have h2 : List.isPrefixOf [b] (c :: (y ++ b :: r)) = false := by
      simp [List.isPrefixOf, h1.symm]
    rw [List.cons_append, Lib.index, h2, ih]
    have h3 : ((y.length : Int) == -1) = false := by rw [beq_eq_false_iff_ne]; omega
    simp [h3]
theorem index_no (b : UInt8) : ∀ x : List UInt8, b ∉ x → Lib.index x [b] = -1
  | [], _ => by simp [Lib.index]
  | c :: y, h => by
    have h1 : c ≠ b := fun e => h (by simp [e])
    have ih := index_no b y (fun e => h (by simp [e]))
    have h2 : List.isPrefixOf [b] (c :: y) = false := by simp [List.isPrefixOf, h1.symm]
    rw [Lib.index, h2, ih]
    simp
theorem indexByte_mem (b : UInt8) : ∀ l : List UInt8, decide (0 ≤ Lib.indexByte l b) = decide (b ∈ l)
  | [] => by simp [Lib.indexByte]
  | c :: r => by
    have ih := indexByte_mem b r
    have hge := Lib.indexByte_ge r b
    rw [Lib.indexByte]
    by_cases hc : c = b
    · simp [hc]
    · have h1 : (c == b) = false := by simpa using hc
      rw [h1]
      by_cases hr : b ∈ r
      · have : 0 ≤ Lib.indexByte r b := by simpa [hr] using ih
        have h2 : (Lib.indexByte r b == -1) = false := by rw [beq_eq_false_iff_ne]; omega
        simp [h2, hr]; omega
      · have : ¬ 0 ≤ Lib.indexByte r b := by simpa [hr] using ih
        have h2 : (Lib.indexByte r b == -1) = true := by rw [beq_iff_eq]; omega
        simp [h2, hr, Ne.symm hc]
theorem cut_len (b : UInt8) : ∀ l : List UInt8, (cutL b l).length ≤ l.length + 1
  | [] => by simp [cutL]
  | c :: r => by
    have ih := cut_len b r
    have hp := cutL_pos b r
    unfold cutL
    split
    · simp; omega
    · simp; omega
theorem join_cut (b : UInt8) : ∀ l : List UInt8, joinL b (cutL b l) = l
  | [] => by simp [cutL, joinL]
  | c :: r => by
    have ih := join_cut b r
    have hp := cutL_pos b r
    cases hq : cutL b r with
    | nil => rw [hq] at hp; simp at hp
    | cons y t =>
      rw [hq] at ih
      unfold cutL
      rw [hq]
      split
      · rename_i hc
        rw [joinL, ih, hc]; rfl
      · cases t with
        | nil => simp [joinL] at ih ⊢; exact ih
        | cons z t => simp [joinL] at ih ⊢; exact ih
/-- Cut at most k times. -/
def cutK (b : UInt8) (k : Nat) (s : List UInt8) : List (List UInt8) := if (cutL b s).length ≤ k + 1 then cutL b s else (cutL b s).take k ++ [joinL b ((cutL b s).drop k)]
theorem splitK_cut (b : UInt8) : ∀ k s, Lib.splitK [b] 0 k s = cutK b k s
  | 0, s => by
    have hp := cutL_pos b s
    unfold cutK
    rw [Lib.splitK]
    split
    · rename_i h
      have hj := join_cut b s
      match hq : cutL b s, h, hp, hj with
      | [x], _, _, hj => rw [joinL] at hj; rw [hj]
    · rw [List.take_zero, List.drop_zero, join_cut]; rfl
  | k + 1, s => by
    rw [Lib.splitK]
    by_cases hb : b ∈ s
    · obtain ⟨x, r, rfl, hx⟩ := List.eq_append_cons_of_mem hb
      have h1 := index_at b r x hx
      have h2 : ((x.length : Int) == -1) = false := by rw [beq_eq_false_iff_ne]; omega
      rw [h1, h2]
      simp only [Bool.false_eq_true, if_false, Int.toNat_natCast, Nat.add_zero, List.length_cons, List.length_nil, Nat.zero_add]
      rw [splitK_cut b k, List.take_left, show (x ++ b :: r).drop (x.length + 1) = r from by rw [← List.drop_drop, List.drop_left]; rfl]
      unfold cutK
      rw [cut_app b r x hx]
      by_cases hl : (cutL b r).length ≤ k + 1
      · rw [if_pos hl, if_pos (by simp; omega)]
      · rw [if_neg hl, if_neg (by simp; omega)]
        simp
    · rw [index_no b s hb]
      unfold cutK
      rw [cut_none b s hb]
      simp
theorem splitN_cut (b : UInt8) (n : Nat) (hn : 1 ≤ n) (s : List UInt8) : Lib.splitN s [b] n = cutK b (n - 1) s := by
  unfold Lib.splitN
  rw [splitK_cut]
  have h := cut_len b s
  by_cases h1 : n ≤ s.length + 1
  · rw [Nat.min_eq_left h1]
  · rw [Nat.min_eq_right (by omega)]
    unfold cutK
    rw [if_pos (by omega), if_pos (by omega)]
theorem cutK_len (b : UInt8) (k : Nat) (s : List UInt8) : (cutK b k s).length = min (cutL b s).length (k + 1) := by
  unfold cutK
  split
  · omega
  · simp; omega
theorem cutK_same (b : UInt8) (k : Nat) (s : List UInt8) (h : (cutK b k s).length ≤ k) : cutK b k s = cutL b s := by
  rw [cutK_len] at h
  unfold cutK
  rw [if_pos (by omega)]

/-! IPv4, strictly. -/
/-- Four parts as a number; -1: they are none. -/
def fourP (P : List (List UInt8)) : Int := match P with
  | [a, b, c, d] => if okFour a && okFour b && okFour c && okFour d then ((num 10 a * 256 + num 10 b) * 256 + num 10 c) * 256 + num 10 d else -1
  | _ => -1
theorem four_parts (l : List UInt8) : four l = fourP (cutK 46 4 l) := by
  by_cases h : (cutL 46 l).length ≤ 5
  · unfold four fourP cutK
    rw [if_pos h]
    all_goals rfl
  · have h5 : (cutK 46 4 l).length = 5 := by rw [cutK_len]; omega
    unfold four fourP
    split
    · rename_i hq; rw [hq] at h; simp at h
    · split
      · rename_i hq; rw [hq] at h5; simp at h5
      · rfl
/-- A strict number: the digits below 256, no nought ahead. -/
theorem okFour_eq (x : List UInt8) (hx : x ≠ []) : okFour x = (numOk 10 256 x && !(decide (1 < x.length) && decide (x.headD 0 = 48))) := by
  unfold okFour
  rw [numOk_iff 10 256 x hx (by omega)]
  congr 1
  by_cases h1 : 0 ≤ num 10 x
  · by_cases h2 : num 10 x ≤ 255
    · simp [h1, h2]; omega
    · simp [h1, h2]; omega
  · simp [h1]
theorem okFour_nil : okFour [] = false := by decide
theorem okFour_num (x : List UInt8) (h : okFour x = true) : num 10 x = (valB 10 x : Int) ∧ valB 10 x < 256 := by
  have hx : x ≠ [] := fun e => by rw [e] at h; exact absurd h (by decide)
  rw [okFour_eq x hx, Bool.and_eq_true] at h
  exact num_of_ok 10 256 x hx (by omega) h.1
theorem four_colon (l : List UInt8) (h : (58 : UInt8) ∈ l) : four l < 0 := by
  rcases Int.lt_or_le (four l) 0 with h1 | h1
  · exact h1
  · have h2 := loose_four l h1
    rw [loose_colon l h] at h2
    cases h2
theorem parse_noColon (l : List UInt8) (h : (58 : UInt8) ∉ l) : parseA l = if 0 ≤ four l then some (false, v4B (four l).toNat) else none := by
  unfold parseA
  split
  · rfl
  · rw [cut_none 58 l h]
    split
    · rfl
    · simp
end Go.Proofs.YtlblefcmilfjdaaGreatDoor
namespace Go.Proofs.YtlblefcmilfjdaaGreatDoor
set_option linter.unusedSimpArgs false
set_option linter.unusedVariables false

theorem splitB_small (sep : ByteArray) : ∀ (k : Nat) (s x : ByteArray), x ∈ Lib.splitB sep 0 k s → x.size ≤ s.size
  | 0, s, x, h => by
    rw [Lib.splitB_zero, List.mem_singleton] at h
    rw [h]; exact Nat.le_refl _
  | k + 1, s, x, h => by
    unfold Lib.splitB at h
    split at h
    · rw [List.mem_singleton] at h; rw [h]; exact Nat.le_refl _
    · rcases List.mem_cons.1 h with rfl | h
      · simp; omega
      · have := splitB_small sep k _ x h
        simp at this; omega

/-- How much the last part may be worth. -/
def endL (n k : Nat) : Nat := if k = n - 1 then 256 ^ (4 - k) else 256
def accL (P : List (List UInt8)) : Nat → Option Nat
  | 0 => some 0
  | k + 1 => match accL P k with
    | none => none
    | some A => if partOk (endL P.length k) (P.getD k []) then some (A * endL P.length k + (partA (P.getD k [])).toNat) else none
theorem acc_all (P : List (List UInt8)) : ∀ k, k ≤ P.length - 1 → allTo P k = (accL P k).map (fun A : Nat => (A : Int))
  | 0, _ => rfl
  | k + 1, h => by
    have ih := acc_all P k (by omega)
    rw [allTo, accL, ih]
    cases hA : accL P k with
    | none => rfl
    | some A =>
      simp only [Option.map_some]
      have e : endL P.length k = 256 := by unfold endL; rw [if_neg (by omega)]
      rw [e]
      unfold partOk
      by_cases h1 : partA (P.getD k []) < 0 ∨ 255 < partA (P.getD k [])
      · rw [if_pos h1, if_neg (by rw [decide_eq_true_eq]; omega)]; rfl
      · rw [if_neg h1, if_pos (by rw [decide_eq_true_eq]; omega)]
        simp only [Option.map_some, Option.some.injEq]
        omega
theorem acc_lt (P : List (List UInt8)) : ∀ k A, k ≤ P.length - 1 → accL P k = some A → A < 256 ^ k
  | 0, A, _, h => by simp [accL] at h; subst h; decide
  | k + 1, A, hk, h => by
    rw [accL] at h
    cases hA : accL P k with
    | none => rw [hA] at h; cases h
    | some A' =>
      rw [hA] at h
      simp only at h
      have e : endL P.length k = 256 := by unfold endL; rw [if_neg (by omega)]
      rw [e] at h
      have ih := acc_lt P k A' (by omega) hA
      split at h
      · rename_i hp
        unfold partOk at hp
        rw [decide_eq_true_eq] at hp
        cases h
        rw [Nat.pow_succ]
        omega
      · cases h
theorem acc_none (P : List (List UInt8)) (k j : Nat) (h : accL P k = none) : accL P (k + j) = none := by
  induction j with
  | zero => exact h
  | succ j ih => rw [← Nat.add_assoc, accL, ih]
theorem loose_acc (P : List (List UInt8)) (h0 : 0 < P.length) (h4 : P.length ≤ 4) : looseP P = (accL P P.length).map v4B := by
  unfold looseP
  rw [if_neg (by omega), acc_all P (P.length - 1) (Nat.le_refl _)]
  obtain ⟨m, hm⟩ : ∃ m, P.length = m + 1 := ⟨P.length - 1, by omega⟩
  rw [hm, Nat.add_sub_cancel, show accL P (m + 1) = _ from rfl]
  rw [accL]
  cases hA : accL P m with
  | none => rfl
  | some A =>
    simp only [Option.map_some]
    have e : endL P.length m = 256 ^ (5 - (m + 1)) := by unfold endL; rw [hm, if_pos (by omega), show 5 - (m + 1) = 4 - m from by omega]
    rw [e]
    obtain ⟨E, hE⟩ : ∃ E, E = 256 ^ (5 - (m + 1)) := ⟨_, rfl⟩
    have hE' : ((256 : Int) ^ (5 - (m + 1))) = (E : Int) := by rw [hE]; exact (Int.natCast_pow 256 _).symm
    rw [← hE, hE']
    unfold partOk
    by_cases h1 : partA (P.getD m []) < 0 ∨ (E : Int) ≤ partA (P.getD m [])
    · rw [if_pos h1, if_neg (by rw [decide_eq_true_eq]; omega)]; rfl
    · rw [if_neg h1, if_pos (by rw [decide_eq_true_eq]; omega)]
      simp only [Option.map_some, Option.some.injEq]
      congr 1
      have : (A : Int) * E = ((A * E : Nat) : Int) := (Int.natCast_mul A E).symm
      rw [this]
      omega
theorem acc_full (P : List (List UInt8)) (h0 : 0 < P.length) (h4 : P.length ≤ 4) (A : Nat) (h : accL P P.length = some A) : A < 4294967296 := by
  obtain ⟨m, hm⟩ : ∃ m, P.length = m + 1 := ⟨P.length - 1, by omega⟩
  rw [hm, accL] at h
  cases hA : accL P m with
  | none => rw [hA] at h; cases h
  | some A' =>
    rw [hA] at h
    simp only at h
    have hl := acc_lt P m A' (by omega) hA
    have e : endL P.length m = 256 ^ (4 - m) := by unfold endL; rw [hm, if_pos (by omega)]
    rw [e] at h
    split at h
    · rename_i hp
      unfold partOk at hp
      rw [decide_eq_true_eq] at hp
      cases h
      have hm4 : m < 4 := by omega
      match m, hm4 with
      | 0, _ => omega
      | 1, _ => omega
      | 2, _ => omega
      | 3, _ => omega
    · cases h
/-- The program's parts are the reference's, unless there are too many. -/
theorem loose_parts (l : List UInt8) : looseA l = if 4 < (cutK 46 4 (trimDot l)).length then none else (accL (cutK 46 4 (trimDot l)) (cutK 46 4 (trimDot l)).length).map v4B := by
  unfold looseA
  have hl := cutK_len 46 4 (trimDot l)
  by_cases h : 4 < (cutK 46 4 (trimDot l)).length
  · rw [if_pos h]
    unfold looseP
    rw [if_pos (by omega)]
  · rw [if_neg h, cutK_same 46 4 _ (by omega)]
    rw [cutK_same 46 4 _ (by omega)] at h
    exact loose_acc _ (cutL_pos 46 _) (by omega)
theorem trim_lib (l : List UInt8) : Lib.trimSuffix l [46] = trimDot l := by
  unfold Lib.trimSuffix trimDot Lib.hasSuffix
  by_cases h : l.getLast? = some 46
  · obtain ⟨ys, rfl⟩ := List.getLast?_eq_some_iff.1 h
    rw [if_pos h, if_pos (by simp)]
    simp
  · rw [if_neg h, if_neg]
    intro h2
    rw [List.isSuffixOf_iff_suffix] at h2
    obtain ⟨ys, rfl⟩ := h2
    exact h (by simp)

/-! IPv4, strictly: the bytes, one by one. -/
def fV (P : List (List UInt8)) (k : Nat) : List UInt8 := List.replicate 12 0 ++ ((P.take k).map fun x => b8 (valB 10 x)) ++ List.replicate (4 - k) 0
theorem fV_len (P : List (List UInt8)) (hP : P.length = 4) (k : Nat) (hk : k ≤ 4) : (fV P k).length = 16 := by simp [fV]; omega
theorem fV_set (P : List (List UInt8)) (hP : P.length = 4) (k : Nat) (hk : k < 4) : (fV P k).set (12 + k) (b8 (valB 10 (P.getD k []))) = fV P (k + 1) := by
  match P, hP with
  | [a, b, c, d], _ =>
    match k, hk with
    | 0, _ => rfl
    | 1, _ => rfl
    | 2, _ => rfl
    | 3, _ => rfl
theorem fV_zero (P : List (List UInt8)) : fV P 0 = List.replicate 16 0 := by simp [fV]
theorem b8_toNat (n : Nat) (h : n < 256) : (b8 n).toNat = n := by simp [b8]; omega
theorem b8_mod (n : Nat) : b8 n = b8 (n % 256) := by apply UInt8.toNat_inj.1; simp [b8]
theorem four_ok (P : List (List UInt8)) (hP : P.length = 4) (h : ∀ j, j < 4 → okFour (P.getD j []) = true) : 0 ≤ fourP P ∧ fV P 4 = v4B (fourP P).toNat := by
  match P, hP with
  | [a, b, c, d], _ =>
    have ha := h 0 (by omega)
    have hb := h 1 (by omega)
    have hc := h 2 (by omega)
    have hd := h 3 (by omega)
    simp only [List.getD_cons_zero, List.getD_cons_succ] at ha hb hc hd
    obtain ⟨na, la⟩ := okFour_num a ha
    obtain ⟨nb, lb⟩ := okFour_num b hb
    obtain ⟨nc, lc⟩ := okFour_num c hc
    obtain ⟨nd, ld⟩ := okFour_num d hd
    have e : fourP [a, b, c, d] = ((((valB 10 a * 256 + valB 10 b) * 256 + valB 10 c) * 256 + valB 10 d : Nat) : Int) := by
      unfold fourP
      simp only [ha, hb, hc, hd, Bool.and_self, if_true]
      rw [na, nb, nc, nd]
      omega
    rw [e]
    refine ⟨by omega, ?_⟩
    rw [Int.toNat_natCast]
    obtain ⟨A, hA⟩ : ∃ A, A = valB 10 a := ⟨_, rfl⟩
    obtain ⟨B, hB⟩ : ∃ A, A = valB 10 b := ⟨_, rfl⟩
    obtain ⟨C, hC⟩ : ∃ A, A = valB 10 c := ⟨_, rfl⟩
    obtain ⟨D, hD⟩ : ∃ A, A = valB 10 d := ⟨_, rfl⟩
    rw [← hA] at la; rw [← hB] at lb; rw [← hC] at lc; rw [← hD] at ld
    simp only [fV, v4B, List.take_succ_cons, List.take_zero, List.map_cons, List.map_nil, Nat.sub_self, List.replicate_zero, List.append_nil]
    rw [← hA, ← hB, ← hC, ← hD]
    rw [show (((A * 256 + B) * 256 + C) * 256 + D) / 16777216 = A from by omega]
    rw [b8_mod ((((A * 256 + B) * 256 + C) * 256 + D) / 65536), show (((A * 256 + B) * 256 + C) * 256 + D) / 65536 % 256 = B from by omega]
    rw [b8_mod ((((A * 256 + B) * 256 + C) * 256 + D) / 256), show (((A * 256 + B) * 256 + C) * 256 + D) / 256 % 256 = C from by omega]
    rw [b8_mod (((A * 256 + B) * 256 + C) * 256 + D), show (((A * 256 + B) * 256 + C) * 256 + D) % 256 = D from by omega]
theorem four_bad (P : List (List UInt8)) (j : Nat) (hj : j < 4) (h : okFour (P.getD j []) = false) : fourP P = -1 := by
  unfold fourP
  split
  · rename_i a b c d
    match j, hj with
    | 0, _ => simp only [List.getD_cons_zero] at h; simp [h]
    | 1, _ => simp only [List.getD_cons_zero, List.getD_cons_succ] at h; simp [h]
    | 2, _ => simp only [List.getD_cons_zero, List.getD_cons_succ] at h; simp [h]
    | 3, _ => simp only [List.getD_cons_zero, List.getD_cons_succ] at h; simp [h]
  · rfl
theorem four_len (P : List (List UInt8)) (h : P.length ≠ 4) : fourP P = -1 := by
  unfold fourP
  split
  · simp at h
  · rfl
end Go.Proofs.YtlblefcmilfjdaaGreatDoor
namespace Go.Proofs.YtlblefcmilfjdaaGreatDoor
set_option linter.unusedSimpArgs false
set_option linter.unusedVariables false

/-- A group. -/
def okH (x : List UInt8) : Bool := decide (x ≠ []) && decide (x.length ≤ 4) && numOk 16 65536 x
theorem okH_46 (x : List UInt8) (h : (46 : UInt8) ∈ x) : okH x = false := by
  unfold okH numOk
  have : (x.all fun c => decide (dig c < 16)) = false := by
    rw [List.all_eq_false]; exact ⟨46, h, by decide⟩
  rw [this]; simp
theorem okH_58 (x : List UInt8) (h : (58 : UInt8) ∈ x) : okH x = false := by
  unfold okH numOk
  have : (x.all fun c => decide (dig c < 16)) = false := by
    rw [List.all_eq_false]; exact ⟨58, h, by decide⟩
  rw [this]; simp
theorem fold_lt (base : Nat) (hb : 1 ≤ base) : ∀ (r : List UInt8) (n : Nat), (∀ c ∈ r, dig c < base) → r.foldl (fun n c => n * base + dig c) n < (n + 1) * base ^ r.length
  | [], n, _ => by simp
  | c :: t, n, h => by
    have ih := fold_lt base hb t (n * base + dig c) (fun d hd => h d (by simp [hd]))
    have hc := h c (by simp)
    simp only [List.foldl_cons, List.length_cons, Nat.pow_succ]
    have h1 : (n * base + dig c + 1) * base ^ t.length ≤ ((n + 1) * base) * base ^ t.length := Nat.mul_le_mul_right _ (by rw [Nat.add_mul]; omega)
    have h2 : ((n + 1) * base) * base ^ t.length = (n + 1) * (base ^ t.length * base) := by rw [Nat.mul_assoc, Nat.mul_comm base]
    omega
theorem valB_pow (base : Nat) (hb : 1 ≤ base) (x : List UInt8) (h : ∀ c ∈ x, dig c < base) : valB base x < base ^ x.length := by
  have := fold_lt base hb x 0 h
  simpa [valB] using this
theorem okH_num (x : List UInt8) (hx : x ≠ []) : okH x = true ↔ ¬ (num 16 x < 0 ∨ 4 < x.length) := by
  constructor
  · intro h
    unfold okH at h
    rw [Bool.and_eq_true, Bool.and_eq_true, decide_eq_true_eq, decide_eq_true_eq] at h
    have := num_of_ok 16 65536 x hx (by omega) h.2
    omega
  · intro h
    have h1 : 0 ≤ num 16 x := by omega
    have h2 : x.length ≤ 4 := by omega
    have h3 : isNum 16 x = true := by
      unfold num at h1
      split at h1
      · assumption
      · omega
    unfold isNum at h3
    rw [Bool.and_eq_true] at h3
    unfold okH numOk
    rw [h3.2]
    have h4 : valB 16 x < 16 ^ x.length := valB_pow 16 (by omega) x (fun c hc => by have := List.all_eq_true.1 h3.2 c hc; simpa using this)
    have h5 : 16 ^ x.length ≤ 16 ^ 4 := Nat.pow_le_pow_right (by omega) h2
    have h6 : (16 : Nat) ^ 4 = 65536 := by decide
    simp [hx, h2]; omega
theorem okH_val (x : List UInt8) (h : okH x = true) : num 16 x = (valB 16 x : Int) ∧ valB 16 x < 65536 := by
  unfold okH at h
  rw [Bool.and_eq_true, Bool.and_eq_true, decide_eq_true_eq] at h
  exact num_of_ok 16 65536 x h.1.1 (by omega) h.2

/-- The numbers of the first k parts. -/
def segTo (e : Bool) (Q : List (List UInt8)) : Nat → Option (List Int)
  | 0 => some []
  | k + 1 => match segTo e Q k with
    | none => none
    | some v => if e = true ∧ k = Q.length - 1 ∧ 0 ≤ four (Q.getD k []) then some (v ++ [four (Q.getD k []) / 65536, four (Q.getD k []) % 65536]) else if okH (Q.getD k []) then some (v ++ [(valB 16 (Q.getD k []) : Int)]) else none
/-- The bytes of the first k parts. -/
def rgTo (e : Bool) (Q : List (List UInt8)) : Nat → Option (List UInt8)
  | 0 => some []
  | k + 1 => match rgTo e Q k with
    | none => none
    | some b => if e = true ∧ k = Q.length - 1 ∧ (46 : UInt8) ∈ Q.getD k [] then (if 0 ≤ four (Q.getD k []) then some (b ++ (v4B (four (Q.getD k [])).toNat).drop 12) else none) else if okH (Q.getD k []) then some (b ++ [b8 (valB 16 (Q.getD k []) / 256), b8 (valB 16 (Q.getD k []))]) else none
theorem fill_app (u v : List Int) (n : Nat) : fillG (u ++ v) n = fillG u n ++ fillG v n := by simp [fillG]
theorem b8_mod256 (n : Nat) : b8 (n % 256) = b8 n := (b8_mod n).symm
theorem fill_two (n : Nat) (h : n < 4294967296) : fillG [(n : Int) / 65536, (n : Int) % 65536] 0 = (v4B n).drop 12 := by
  have e1 : (n : Int) / 65536 = ((n / 65536 : Nat) : Int) := by omega
  have e2 : (n : Int) % 65536 = ((n % 65536 : Nat) : Int) := by omega
  rw [e1, e2]
  have : (v4B n).drop 12 = [b8 (n / 16777216), b8 (n / 65536), b8 (n / 256), b8 n] := rfl
  rw [this]
  unfold fillG
  simp only [List.flatMap_cons, List.flatMap_nil, List.append_nil]
  rw [if_neg (by omega), if_neg (by omega)]
  have a1 : ((((n / 65536 : Nat) : Int)) / 256).toNat = n / 16777216 := by omega
  have a2 : ((((n / 65536 : Nat) : Int)) % 256).toNat = n / 65536 % 256 := by omega
  have a3 : ((((n % 65536 : Nat) : Int)) / 256).toNat = n % 65536 / 256 := by omega
  have a4 : ((((n % 65536 : Nat) : Int)) % 256).toNat = n % 65536 % 256 := by omega
  rw [a1, a2, a3, a4, b8_mod256, b8_mod (n % 65536 / 256), show n % 65536 / 256 % 256 = n / 256 % 256 from by omega, b8_mod256, show n % 65536 % 256 = n % 256 from by omega, b8_mod256]
  rfl
theorem fill_one (n : Nat) (h : n < 65536) : fillG [(n : Int)] 0 = [b8 (n / 256), b8 n] := by
  unfold fillG
  simp only [List.flatMap_cons, List.flatMap_nil, List.append_nil]
  rw [if_neg (by omega), show ((n : Int) / 256).toNat = n / 256 from by omega, show ((n : Int) % 256).toNat = n % 256 from by omega, b8_mod256]
theorem four_lt (l : List UInt8) (h : 0 ≤ four l) : four l < 4294967296 := by
  rw [four_parts] at h ⊢
  unfold fourP at h ⊢
  split
  · rename_i a b c d hq
    rw [hq] at h
    simp only at h
    split
    · rename_i hok
      simp only [Bool.and_eq_true] at hok
      have h1 := okFour_num a hok.1.1.1
      have h2 := okFour_num b hok.1.1.2
      have h3 := okFour_num c hok.1.2
      have h4 := okFour_num d hok.2
      omega
    · omega
  · omega
theorem rg_seg (e : Bool) (Q : List (List UInt8)) : ∀ k, rgTo e Q k = (segTo e Q k).map (fun v => fillG v 0)
  | 0 => rfl
  | k + 1 => by
    rw [rgTo, segTo, rg_seg e Q k]
    cases hS : segTo e Q k with
    | none => rfl
    | some v =>
      simp only [Option.map_some]
      obtain ⟨x, hx⟩ : ∃ x, x = Q.getD k [] := ⟨_, rfl⟩
      rw [← hx]
      by_cases h46 : (46 : UInt8) ∈ x
      · rw [okH_46 x h46]
        by_cases he : e = true ∧ k = Q.length - 1
        · rw [if_pos ⟨he.1, he.2, h46⟩]
          by_cases h4 : 0 ≤ four x
          · rw [if_pos h4, if_pos ⟨he.1, he.2, h4⟩]
            obtain ⟨n, hn⟩ : ∃ n : Nat, four x = (n : Int) := ⟨(four x).toNat, by omega⟩
            have := four_lt x h4
            rw [hn, Int.toNat_natCast, Option.map_some, fill_app, fill_two n (by omega)]
          · rw [if_neg h4, if_neg (fun h => h4 h.2.2)]; rfl
        · have n1 : ¬ (e = true ∧ k = Q.length - 1 ∧ (46 : UInt8) ∈ x) := fun h => he ⟨h.1, h.2.1⟩
          have n2 : ¬ (e = true ∧ k = Q.length - 1 ∧ 0 ≤ four x) := fun h => he ⟨h.1, h.2.1⟩
          rw [if_neg n1, if_neg n2]; rfl
      · have h4 : four x = -1 := four_no x h46
        have n1 : ¬ (e = true ∧ k = Q.length - 1 ∧ (46 : UInt8) ∈ x) := fun h => h46 h.2.2
        have n2 : ¬ (e = true ∧ k = Q.length - 1 ∧ 0 ≤ four x) := fun h => by have := h.2.2; omega
        rw [if_neg n1, if_neg n2]
        by_cases hg : okH x = true
        · rw [if_pos hg, if_pos hg, Option.map_some, fill_app, fill_one _ (okH_val x hg).2]
        · rw [if_neg hg, if_neg hg]; rfl
theorem seg_pos (e : Bool) (Q : List (List UInt8)) : ∀ k v, segTo e Q k = some v → (∀ x ∈ v, 0 ≤ x) ∧ k ≤ v.length ∧ ∀ j, j < k → Q.getD j [] ≠ []
  | 0, v, h => by simp [segTo] at h; subst h; simp
  | k + 1, v, h => by
    rw [segTo] at h
    cases hS : segTo e Q k with
    | none => rw [hS] at h; cases h
    | some u =>
      rw [hS] at h
      simp only at h
      have ih := seg_pos e Q k u hS
      obtain ⟨x, hx⟩ : ∃ x, x = Q.getD k [] := ⟨_, rfl⟩
      rw [← hx] at h
      have key : x ≠ [] ∧ (∀ y ∈ v, 0 ≤ y) ∧ k + 1 ≤ v.length := by
        split at h
        · rename_i hc
          cases h
          refine ⟨fun e => ?_, fun y hy => ?_, by simp; omega⟩
          · have := hc.2.2; rw [e] at this; exact absurd this (by decide)
          · rcases List.mem_append.1 hy with hy | hy
            · exact ih.1 y hy
            · simp at hy; have := hc.2.2; rcases hy with rfl | rfl <;> omega
        · split at h
          · rename_i hg
            cases h
            refine ⟨fun e => ?_, fun y hy => ?_, by simp; omega⟩
            · rw [e] at hg; exact absurd hg (by decide)
            · rcases List.mem_append.1 hy with hy | hy
              · exact ih.1 y hy
              · simp at hy; omega
          · cases h
      refine ⟨key.2.1, key.2.2, fun j hj => ?_⟩
      by_cases hjk : j < k
      · exact ih.2.2 j hjk
      · rw [show j = k from by omega, ← hx]; exact key.1
theorem seg_none (e : Bool) (Q : List (List UInt8)) (k j : Nat) (h : segTo e Q k = none) : segTo e Q (k + j) = none := by
  induction j with
  | zero => exact h
  | succ j ih => rw [← Nat.add_assoc, segTo, ih]
theorem grp_none (l : List (List UInt8)) (k j : Nat) (h : grpTo l k = none) : grpTo l (k + j) = none := by
  induction j with
  | zero => exact h
  | succ j ih => rw [← Nat.add_assoc, grpTo, ih]
/-- A segment of parts, read by the reference. -/
theorem seg_run (l pre Q post : List (List UInt8)) (hl : l = pre ++ Q ++ post) (e : Bool) (he : e = true ↔ post = []) (out : List Int) (gap : Bool) (h0 : grpTo l pre.length = some (out, gap))
    (H : ∀ k, k < Q.length → Q.getD k [] = [] → (∀ j, j < k → Q.getD j [] ≠ []) → ∀ o, grpTo l (pre.length + k) = some (o, gap) → grpTo l (pre.length + k + 1) = none) :
    ∀ k, k ≤ Q.length → grpTo l (pre.length + k) = (segTo e Q k).map (fun v => (out ++ v, gap))
  | 0, _ => by simpa [segTo] using h0
  | k + 1, hk => by
    have ih := seg_run l pre Q post hl e he out gap h0 H k (by omega)
    cases hS : segTo e Q k with
    | none =>
      rw [hS] at ih
      have := grp_none l (pre.length + k) 1 ih
      rw [show pre.length + (k + 1) = pre.length + k + 1 from rfl, this, segTo, hS]; rfl
    | some v =>
      rw [hS, Option.map_some] at ih
      have hP := seg_pos e Q k v hS
      have hget : l.getD (pre.length + k) [] = Q.getD k [] := by
        rw [hl, List.append_assoc, getD_right pre (Q ++ post) k, getD_left Q post k (by omega)]
      have hlast : (pre.length + k = l.length - 1) ↔ (k = Q.length - 1 ∧ e = true) := by
        have hlen : l.length = pre.length + Q.length + post.length := by rw [hl]; simp; omega
        constructor
        · intro h
          refine ⟨by omega, he.2 (List.eq_nil_of_length_eq_zero (by omega))⟩
        · rintro ⟨h1, h2⟩
          have := he.1 h2
          rw [this] at hlen
          simp at hlen
          omega
      rw [show pre.length + (k + 1) = pre.length + k + 1 from rfl, segTo, hS]
      simp only
      by_cases hx : Q.getD k [] = []
      · rw [H k (by omega) hx hP.2.2 _ ih, hx]
        have h4 : ¬ 0 ≤ four [] := by decide
        have hg : okH [] = false := by decide
        rw [if_neg (fun h => h4 h.2.2), hg]; rfl
      · rw [grpTo, ih]
        simp only
        rw [hget, if_neg hx]
        by_cases h4 : 0 ≤ four (Q.getD k []) ∧ pre.length + k = l.length - 1
        · have h5 := hlast.1 h4.2
          rw [if_pos h4, if_pos ⟨h5.2, h5.1, h4.1⟩, Option.map_some, List.append_assoc]
        · have n2 : ¬ (e = true ∧ k = Q.length - 1 ∧ 0 ≤ four (Q.getD k [])) := fun h => h4 ⟨h.2.2, hlast.2 ⟨h.2.1, h.1⟩⟩
          rw [if_neg h4, if_neg n2]
          by_cases hg : okH (Q.getD k []) = true
          · rw [if_neg ((okH_num _ hx).1 hg), if_pos hg, (okH_val _ hg).1, Option.map_some, List.append_assoc]
          · rw [if_neg hg]
            have : num 16 (Q.getD k []) < 0 ∨ 4 < (Q.getD k []).length := Classical.byContradiction fun h => hg ((okH_num _ hx).2 h)
            rw [if_pos this]; rfl
end Go.Proofs.YtlblefcmilfjdaaGreatDoor
namespace Go.Proofs.YtlblefcmilfjdaaGreatDoor
set_option linter.unusedSimpArgs false
set_option linter.unusedVariables false

def rgA (e : Bool) (s : List UInt8) : Option (List UInt8) := if s = [] then some [] else rgTo e (cutK 58 8 s) (cutK 58 8 s).length
def rgC (e : Bool) (s : List UInt8) : Option (List UInt8) := if s = [] then some [] else rgTo e (cutL 58 s) (cutL 58 s).length
def glue (g : Bool) (x y : Option (List UInt8)) : Option (List UInt8) := match x, y with
  | some x, some y => if 16 < x.length + y.length ∨ (x.length + y.length < 16 ∧ g = false) then none else some (x ++ List.replicate (16 - (x.length + y.length)) 0 ++ y)
  | _, _ => none
def leftP (l : List UInt8) : List UInt8 := if (Lib.cut l [58, 58]).2.2 then (Lib.cut l [58, 58]).1 else []
def rightP (l : List UInt8) : List UInt8 := if (Lib.cut l [58, 58]).2.2 then (Lib.cut l [58, 58]).2.1 else l
def gapP (l : List UInt8) : Bool := (Lib.cut l [58, 58]).2.2
def parse6 (l : List UInt8) : Option (List UInt8) := glue (gapP l) (rgA false (leftP l)) (rgA true (rightP l))

theorem fill_nonneg (v : List Int) (n : Nat) (h : ∀ x ∈ v, 0 ≤ x) : fillG v n = fillG v 0 ∧ (fillG v 0).length = 2 * v.length := by
  induction v with
  | nil => exact ⟨rfl, rfl⟩
  | cons a t ih =>
    have i := ih (fun x hx => h x (by simp [hx]))
    have ha := h a (by simp)
    have e : ∀ n, fillG (a :: t) n = [b8 (a / 256).toNat, b8 (a % 256).toNat] ++ fillG t n := fun n => by
      unfold fillG; rw [List.flatMap_cons, if_neg (by omega)]
    rw [e n, e 0, i.1]
    refine ⟨rfl, ?_⟩
    rw [List.length_append, i.2]; simp; omega
theorem cutK_last (s : List UInt8) (h : 9 < (cutL 58 s).length) : (58 : UInt8) ∈ (cutK 58 8 s).getD 8 [] := by
  unfold cutK
  rw [if_neg (by omega)]
  have : ((cutL 58 s).take 8 ++ [joinL 58 ((cutL 58 s).drop 8)]).getD 8 [] = joinL 58 ((cutL 58 s).drop 8) := by
    have hl : ((cutL 58 s).take 8).length = 8 := by simp; omega
    have := getD_right ((cutL 58 s).take 8) [joinL 58 ((cutL 58 s).drop 8)] 0
    rw [hl] at this
    simpa using this
  rw [this]
  match hq : (cutL 58 s).drop 8 with
  | [] => have : ((cutL 58 s).drop 8).length = 0 := by rw [hq]; rfl
          simp at this; omega
  | [x] => have : ((cutL 58 s).drop 8).length = 1 := by rw [hq]; rfl
           simp at this; omega
  | x :: y :: r => simp [joinL]
theorem rgA_C (e : Bool) (s : List UInt8) : rgA e s = rgC e s ∨ (rgA e s = none ∧ (rgC e s = none ∨ ∃ x, rgC e s = some x ∧ 16 < x.length)) := by
  unfold rgA rgC
  by_cases hs : s = []
  · left; rw [if_pos hs, if_pos hs]
  rw [if_neg hs, if_neg hs]
  by_cases h : (cutL 58 s).length ≤ 9
  · left
    have : cutK 58 8 s = cutL 58 s := by unfold cutK; rw [if_pos h]
    rw [this]
  · right
    constructor
    · have hl : (cutK 58 8 s).length = 9 := by rw [cutK_len]; omega
      have h58 := cutK_last s (by omega)
      rw [hl, rgTo]
      cases rgTo e (cutK 58 8 s) 8 with
      | none => rfl
      | some b =>
        simp only
        have h4 := four_colon _ h58
        rw [if_neg (by omega : ¬ 0 ≤ four ((cutK 58 8 s).getD 8 [])), okH_58 _ h58]
        split <;> rfl
    · rw [rg_seg]
      cases hS : segTo e (cutL 58 s) (cutL 58 s).length with
      | none => left; rfl
      | some v =>
        right
        have hp := seg_pos _ _ _ _ hS
        exact ⟨_, rfl, by rw [(fill_nonneg v 0 hp.1).2]; omega⟩
theorem glue_big (g : Bool) (x : List UInt8) (y : Option (List UInt8)) (h : 16 < x.length) : glue g (some x) y = none := by
  cases y with
  | none => rfl
  | some y => unfold glue; simp only; rw [if_pos (by omega)]
theorem glue_big' (g : Bool) (x : Option (List UInt8)) (y : List UInt8) (h : 16 < y.length) : glue g x (some y) = none := by
  cases x with
  | none => rfl
  | some x => unfold glue; simp only; rw [if_pos (by omega)]
theorem glue_none' (g : Bool) (x : Option (List UInt8)) : glue g x none = none := by cases x <;> rfl
theorem glue_AC (g : Bool) (a b : List UInt8) : glue g (rgA false a) (rgA true b) = glue g (rgC false a) (rgC true b) := by
  rcases rgA_C false a with h1 | ⟨h1, h1'⟩
  · rw [h1]
    rcases rgA_C true b with h2 | ⟨h2, h2' | ⟨y, h2', hy⟩⟩
    · rw [h2]
    · rw [h2, h2']
    · rw [h2, h2', glue_none', glue_big' _ _ _ hy]
  · rw [h1]
    have e : glue g none (rgA true b) = none := rfl
    rw [e]
    rcases h1' with h1' | ⟨x, h1', hx⟩
    · rw [h1']; rfl
    · rw [h1', glue_big _ _ _ hx]

/-! Two colons. -/
theorem cut_mid (b : UInt8) (r : List UInt8) : ∀ x : List UInt8, cutL b (x ++ b :: r) = cutL b x ++ cutL b r
  | [] => by simp [cutL]
  | c :: y => by
    have ih := cut_mid b r y
    have hp := cutL_pos b y
    have e1 : ∀ r, cutL b (c :: r) = if c = b then [] :: cutL b r else (c :: (cutL b r).headD []) :: (cutL b r).tail := fun _ => rfl
    rw [List.cons_append, e1, e1, ih]
    split
    · rfl
    · cases hq : cutL b y with
      | nil => rw [hq] at hp; simp at hp
      | cons z t => rfl
theorem cut_head_nil (b : UInt8) (l : List UInt8) (h0 : (cutL b l).getD 0 [] = []) (h1 : 1 < (cutL b l).length) : ∃ y, l = b :: y := by
  cases l with
  | nil => simp [cutL] at h1
  | cons c r =>
    unfold cutL at h0
    split at h0
    · rename_i hc; exact ⟨r, by rw [hc]⟩
    · simp at h0
theorem dd_cut : ∀ (l : List UInt8) (k : Nat), 0 < k → k + 1 < (cutL 58 l).length → (cutL 58 l).getD k [] = [] → ∃ x y, l = x ++ 58 :: 58 :: y
  | [], k, h0, h1, _ => by simp [cutL] at h1
  | c :: r, k, h0, h1, h2 => by
    obtain ⟨j, rfl⟩ : ∃ j, k = j + 1 := ⟨k - 1, by omega⟩
    unfold cutL at h1 h2
    split at h2
    · rename_i hc
      rw [if_pos hc] at h1
      simp only [List.length_cons] at h1
      rw [List.getD_cons_succ] at h2
      by_cases hj : 0 < j
      · obtain ⟨x, y, e⟩ := dd_cut r j hj (by omega) h2
        exact ⟨c :: x, y, by rw [e]; rfl⟩
      · have hj0 : j = 0 := by omega
        subst hj0
        obtain ⟨y, e⟩ := cut_head_nil 58 r h2 (by omega)
        exact ⟨[], y, by rw [hc, e]; rfl⟩
    · rename_i hc
      rw [if_neg hc] at h1
      have hp := cutL_pos 58 r
      cases hq : cutL 58 r with
      | nil => rw [hq] at hp; simp at hp
      | cons z t =>
        rw [hq] at h1 h2
        simp only [List.headD_cons, List.tail_cons, List.length_cons, List.getD_cons_succ] at h1 h2
        obtain ⟨x, y, e⟩ := dd_cut r (j + 1) (by omega) (by rw [hq]; simpa using h1) (by rw [hq, List.getD_cons_succ]; exact h2)
        exact ⟨c :: x, y, by rw [e]; rfl⟩
theorem occ_dd (x y : List UInt8) : Lib.occAt (x ++ 58 :: 58 :: y) [58, 58] x.length = true := by
  unfold Lib.occAt
  rw [List.drop_left]
  simp [List.isPrefixOf]
theorem cut_one (b : UInt8) (l : List UInt8) (h : cutL b l = [[]]) : l = [] := by
  have := join_cut b l
  rw [h] at this
  simpa [joinL] using this.symm
theorem cut_len1 (l : List UInt8) (hl : l ≠ []) (h : (cutL 58 l).getD 0 [] = []) : 1 < (cutL 58 l).length := by
  have hp := cutL_pos 58 l
  rcases Nat.lt_or_ge 1 (cutL 58 l).length with h1 | h1
  · exact h1
  · exfalso
    match hq : cutL 58 l, hp, h1 with
    | [x], _, _ =>
      rw [hq] at h
      simp at h
      rw [h] at hq
      exact hl (cut_one 58 l hq)
/-- No two colons side by side. -/
theorem grp_plain (l : List UInt8) (hne : l ≠ []) (hno : ¬ ∃ x y, l = x ++ 58 :: 58 :: y) : grp (cutL 58 l) = segTo true (cutL 58 l) (cutL 58 l).length := by
  obtain ⟨P, hP⟩ : ∃ P, P = cutL 58 l := ⟨_, rfl⟩
  have hmid : ∀ k, 0 < k → k + 1 < P.length → P.getD k [] ≠ [] := fun k h0 h1 h2 => hno (dd_cut l k h0 (by rw [← hP]; exact h1) (by rw [← hP]; exact h2))
  rw [← hP]
  have hrun := seg_run P [] P [] (by simp) true (by simp) [] false rfl (fun k hk hx hbef o ho => by
    rw [List.length_nil, Nat.zero_add] at ho ⊢
    rw [grpTo, ho]
    simp only
    rw [if_pos hx]
    have hedge : ¬ (k ≠ 0 ∧ k ≠ P.length - 1) := fun h => hmid k (by omega) (by omega) hx
    rw [if_neg hedge, if_pos]
    by_cases h3 : P.length < 3
    · exact Or.inl h3
    · by_cases hk0 : k = 0
      · refine Or.inr (Or.inl ⟨hk0, hmid 1 (by omega) (by omega)⟩)
      · have hkl : k = P.length - 1 := by omega
        refine Or.inr (Or.inr ⟨by omega, hbef (P.length - 2) (by omega)⟩)) P.length (Nat.le_refl _)
  rw [List.length_nil, Nat.zero_add] at hrun
  unfold grp
  rw [hrun]
  cases segTo true P P.length with
  | none => rfl
  | some v => simp
theorem cnt_nonneg (u : List Int) (h : ∀ x ∈ u, 0 ≤ x) : cntG u = u.length := by
  unfold cntG
  rw [List.filter_eq_self.2 (fun x hx => by simpa using h x hx)]
theorem gap_nonneg (u : List Int) (h : ∀ x ∈ u, 0 ≤ x) : gapG u = false := by
  unfold gapG
  rw [List.any_eq_false]
  intro x hx
  have := h x hx
  simp; omega
theorem cnt_gap (u v : List Int) (hu : ∀ x ∈ u, 0 ≤ x) (hv : ∀ x ∈ v, 0 ≤ x) : cntG (u ++ [-1] ++ v) = u.length + v.length ∧ gapG (u ++ [-1] ++ v) = true := by
  have h1 := cnt_nonneg u hu
  have h2 := cnt_nonneg v hv
  constructor
  · unfold cntG at h1 h2 ⊢
    rw [List.filter_append, List.filter_append, List.length_append, List.length_append, h1, h2]
    simp
  · unfold gapG; simp
theorem fill_gap (u v : List Int) (n : Nat) (hu : ∀ x ∈ u, 0 ≤ x) (hv : ∀ x ∈ v, 0 ≤ x) : fillG (u ++ [-1] ++ v) n = fillG u 0 ++ List.replicate (2 * n) 0 ++ fillG v 0 := by
  rw [fill_app, fill_app, (fill_nonneg u n hu).1, (fill_nonneg v n hv).1]
  congr 2
  simp [fillG]

/-- What stands on either side of two colons. -/
def frontI (a : List UInt8) : Option (List Int) := if a = [] then some [] else segTo false (cutL 58 a) (cutL 58 a).length
def backI (b : List UInt8) : Option (List Int) := if b = [] then some [] else segTo true (cutL 58 b) (cutL 58 b).length
theorem rgC_front (a : List UInt8) : rgC false a = (frontI a).map (fun v => fillG v 0) := by
  unfold rgC frontI; split
  · rfl
  · exact rg_seg _ _ _
theorem rgC_back (b : List UInt8) : rgC true b = (backI b).map (fun v => fillG v 0) := by
  unfold rgC backI; split
  · rfl
  · exact rg_seg _ _ _
theorem front_pos (a : List UInt8) (u : List Int) (h : frontI a = some u) : ∀ x ∈ u, 0 ≤ x := by
  unfold frontI at h; split at h
  · cases h; simp
  · exact (seg_pos _ _ _ _ h).1
theorem back_pos (b : List UInt8) (u : List Int) (h : backI b = some u) : ∀ x ∈ u, 0 ≤ x := by
  unfold backI at h; split at h
  · cases h; simp
  · exact (seg_pos _ _ _ _ h).1
theorem grp_dd (a b : List UInt8) (hfirst : ¬ ∃ x y, a ++ [58] = x ++ 58 :: 58 :: y) : grp (cutL 58 (a ++ 58 :: 58 :: b)) = (frontI a).bind fun u => (backI b).map fun v => u ++ [-1] ++ v := by
  obtain ⟨A, hA⟩ : ∃ A, A = cutL 58 a := ⟨_, rfl⟩
  obtain ⟨C, hC⟩ : ∃ C, C = cutL 58 b := ⟨_, rfl⟩
  obtain ⟨P, hP⟩ : ∃ P, P = cutL 58 (a ++ 58 :: 58 :: b) := ⟨_, rfl⟩
  have hPe : P = A ++ [] :: C := by
    rw [hP, cut_mid, ← hA, show cutL 58 (58 :: b) = [] :: cutL 58 b from by simp [cutL], ← hC]
  have hA1 : 0 < A.length := by rw [hA]; exact cutL_pos 58 a
  have hC1 : 0 < C.length := by rw [hC]; exact cutL_pos 58 b
  have hPl : P.length = A.length + 1 + C.length := by rw [hPe]; simp; omega
  have hgA : ∀ j, j < A.length → P.getD j [] = A.getD j [] := fun j hj => by rw [hPe]; exact getD_left A _ j hj
  have hgm : P.getD A.length [] = [] := by
    rw [hPe]; simp
  have hgC : ∀ j, P.getD (A.length + 1 + j) [] = C.getD j [] := fun j => by
    have := getD_right A ([] :: C) (1 + j)
    rw [hPe, show A.length + 1 + j = A.length + (1 + j) from by omega, this, Nat.add_comm 1 j, List.getD_cons_succ]
  have hAne : ∀ k, 0 < k → k < A.length → A.getD k [] ≠ [] := fun k h0 h1 h2 => by
    apply hfirst
    have e : cutL 58 (a ++ [58]) = A ++ [[]] := by rw [cut_snoc, ← hA]
    refine dd_cut (a ++ [58]) k h0 (by rw [e]; simp; omega) ?_
    rw [e, getD_left A _ k h1]; exact h2
  -- the parts ahead
  have hfront : grpTo P A.length = (frontI a).map (fun v => (v, false)) := by
    unfold frontI
    by_cases ha : a = []
    · rw [if_pos ha]
      have hA0 : A = [[]] := by rw [hA, ha]; rfl
      have := grp_edge P 0 [] false rfl (by rw [hgA 0 hA1, hA0]; rfl) (by omega) (Or.inl ⟨rfl, by
        have := hgm
        rw [hA0] at this
        simpa using this⟩)
      rw [hA0]
      exact this
    · rw [if_neg ha, ← hA]
      have hrun := seg_run P [] A ([] :: C) (by rw [hPe]; simp) false (by simp) [] false rfl (fun k hk hx hbef o ho => by
        rw [List.length_nil, Nat.zero_add] at ho ⊢
        have hk0 : k = 0 := Classical.byContradiction fun h => hAne k (by omega) hk hx
        subst hk0
        have h2 : 1 < A.length := by rw [hA]; exact cut_len1 a ha (by rw [← hA]; exact hx)
        rw [grpTo, ho]
        simp only
        rw [if_pos (by rw [hgA 0 hA1]; exact hx), if_neg (by omega), if_pos]
        refine Or.inr (Or.inl ⟨by trivial, ?_⟩)
        rw [hgA 1 h2]; exact hAne 1 (by omega) h2) A.length (Nat.le_refl _)
      rw [List.length_nil, Nat.zero_add] at hrun
      rw [hrun]
      cases segTo false A A.length <;> simp
  unfold grp
  rw [← hP]
  cases hF : frontI a with
  | none =>
    rw [hF] at hfront
    have := grp_none P A.length (P.length - A.length) hfront
    rw [show A.length + (P.length - A.length) = P.length from by omega] at this
    rw [this]; rfl
  | some u =>
    rw [hF, Option.map_some] at hfront
    have hgap := grp_gap P A.length u hfront hgm hA1 (by omega)
    rw [Option.bind_some]
    unfold backI
    by_cases hb : b = []
    · have hC0 : C = [[]] := by rw [hC, hb]; rfl
      have hl1 : C.length = 1 := by rw [hC0]; rfl
      have he := grp_edge P (A.length + 1) (u ++ [-1]) true hgap (by have := hgC 0; rw [Nat.add_zero] at this; rw [this, hC0]; rfl) (by omega) (Or.inr ⟨by omega, by omega, by rw [show P.length - 2 = A.length from by omega]; exact hgm⟩)
      rw [if_pos hb, show P.length = A.length + 1 + 1 from by omega, he]
      simp
    · rw [if_neg hb, ← hC]
      have hrun := seg_run P (A ++ [[]]) C [] (by rw [hPe]; simp) true (by simp) (u ++ [-1]) true (by rw [List.length_append]; exact hgap) (fun k hk hx hbef o ho => by
        rw [List.length_append, List.length_singleton] at ho ⊢
        rw [grpTo, ho]
        simp only
        rw [if_pos (by rw [hgC k]; exact hx)]
        by_cases hkl : k = C.length - 1
        · have hk1 : 0 < k := by
            rcases Nat.eq_zero_or_pos k with h0 | h0
            · exfalso
              subst h0
              have h2 : 1 < C.length := by rw [hC]; exact cut_len1 b hb (by rw [← hC]; exact hx)
              omega
            · exact h0
          rw [if_neg (by omega), if_pos]
          refine Or.inr (Or.inr ⟨by omega, ?_⟩)
          have := hgC (k - 1)
          rw [show P.length - 2 = A.length + 1 + (k - 1) from by omega, this]
          exact hbef (k - 1) (by omega)
        · rw [if_pos ⟨by omega, by omega⟩, if_pos (by trivial)]) C.length (Nat.le_refl _)
      rw [List.length_append, List.length_singleton] at hrun
      rw [show P.length = A.length + 1 + C.length from by omega, hrun]
      cases segTo true C C.length <;> simp
theorem glue_pos (g : Bool) (u v : List Int) (hu : ∀ x ∈ u, 0 ≤ x) (hv : ∀ x ∈ v, 0 ≤ x) : glue g (some (fillG u 0)) (some (fillG v 0)) = if 8 < u.length + v.length ∨ (g = false ∧ u.length + v.length ≠ 8) then none else some (fillG u 0 ++ List.replicate (2 * (8 - (u.length + v.length))) 0 ++ fillG v 0) := by
  have h1 := (fill_nonneg u 0 hu).2
  have h2 := (fill_nonneg v 0 hv).2
  unfold glue
  simp only
  rw [h1, h2]
  by_cases h : 8 < u.length + v.length ∨ (g = false ∧ u.length + v.length ≠ 8)
  · have h' : 16 < 2 * u.length + 2 * v.length ∨ (2 * u.length + 2 * v.length < 16 ∧ g = false) := by
      rcases h with h | ⟨hg, h⟩
      · left; omega
      · by_cases h9 : 8 < u.length + v.length
        · left; omega
        · right; exact ⟨by omega, hg⟩
    rw [if_pos h, if_pos h']
  · have h' : ¬ (16 < 2 * u.length + 2 * v.length ∨ (2 * u.length + 2 * v.length < 16 ∧ g = false)) := fun h2 => h (by
      rcases h2 with h2 | ⟨h2, hg⟩
      · left; omega
      · right; exact ⟨hg, by omega⟩)
    rw [if_neg h, if_neg h', show 16 - (2 * u.length + 2 * v.length) = 2 * (8 - (u.length + v.length)) from by omega]
theorem parse_dev (l : List UInt8) (h : (58 : UInt8) ∈ l) : parseA l = (parse6 l).map (fun B => (true, B)) := by
  have h4 := four_colon l h
  unfold parseA parse6
  rw [if_neg (by omega), glue_AC]
  have hne : l ≠ [] := fun e => by rw [e] at h; simp at h
  rcases Lib.index_spec l [58, 58] with ⟨hi, hno⟩ | ⟨i, hi, hil, hocc, hbef⟩
  · have hc : Lib.cut l [58, 58] = (l, [], false) := by unfold Lib.cut; rw [hi]; rfl
    have hl : leftP l = [] := by unfold leftP; rw [hc]; rfl
    have hr : rightP l = l := by unfold rightP; rw [hc]; rfl
    have hg : gapP l = false := by unfold gapP; rw [hc]
    have hnd : ¬ ∃ x y, l = x ++ 58 :: 58 :: y := by
      rintro ⟨x, y, e⟩
      have h1 := occ_dd x y
      rw [← e] at h1
      have h2 := hno x.length (by rw [e]; simp)
      rw [h1] at h2
      cases h2
    rw [hl, hr, hg, rgC_front, rgC_back, grp_plain l hne hnd]
    have hf : frontI [] = some [] := rfl
    have hb : backI l = segTo true (cutL 58 l) (cutL 58 l).length := by unfold backI; rw [if_neg hne]
    rw [hf, hb]
    cases hS : segTo true (cutL 58 l) (cutL 58 l).length with
    | none => rfl
    | some v =>
      have hp := seg_pos _ _ _ _ hS
      simp only [Option.map_some]
      rw [glue_pos false [] v (by simp) hp.1]
      simp only [List.length_nil, Nat.zero_add]
      rw [cnt_nonneg v hp.1, gap_nonneg v hp.1]
      by_cases h8 : v.length = 8
      · have h3 : ¬ ((cutL 58 l).length < 3 ∨ 8 < v.length ∨ (false = false ∧ v.length ≠ 8)) := by
          intro h
          rcases h with h | h | h
          · -- two parts give at most four numbers
            have : ∀ k u, segTo true (cutL 58 l) k = some u → u.length ≤ 2 * k := by
              intro k
              induction k with
              | zero => intro u hu; simp [segTo] at hu; subst hu; simp
              | succ k ih =>
                intro u hu
                rw [segTo] at hu
                cases hq : segTo true (cutL 58 l) k with
                | none => rw [hq] at hu; cases hu
                | some t =>
                  rw [hq] at hu
                  simp only at hu
                  have := ih t hq
                  split at hu
                  · cases hu; simp; omega
                  · split at hu
                    · cases hu; simp; omega
                    · cases hu
            have := this _ v hS
            omega
          · omega
          · exact h.2 h8
        rw [if_neg h3, if_neg (by omega), h8]
        simp [fillG]
      · rw [if_pos (Or.inr (by by_cases h9 : 8 < v.length; exact Or.inl h9; exact Or.inr ⟨by trivial, h8⟩)), if_pos (by by_cases h9 : 8 < v.length; exact Or.inl h9; exact Or.inr ⟨by trivial, h8⟩)]
        rfl
  · have hroom : i + 2 ≤ l.length := by
      rcases Lib.occAt_room hocc with h | h
      · exact h
      · cases h
    have hle : 0 ≤ Lib.index l [58, 58] := by rw [hi]; omega
    have hc : Lib.cut l [58, 58] = (l.take i, l.drop (i + 2), true) := by unfold Lib.cut; rw [if_pos hle, hi]; rfl
    obtain ⟨a, ha⟩ : ∃ a, a = l.take i := ⟨_, rfl⟩
    obtain ⟨b, hb⟩ : ∃ b, b = l.drop (i + 2) := ⟨_, rfl⟩
    have hlab : l = a ++ 58 :: 58 :: b := by
      rw [Lib.occAt_iff_take l [58, 58] i hroom, beq_iff_eq] at hocc
      have h1 : l.drop i = [58, 58] ++ l.drop (i + 2) := by
        conv => lhs; rw [← List.take_append_drop 2 (l.drop i)]
        rw [List.drop_drop]
        rw [show ([58, 58] : List UInt8).length = 2 from rfl] at hocc
        rw [hocc]
      rw [ha, hb]
      conv => lhs; rw [← List.take_append_drop i l, h1]
      rfl
    have hal : a.length = i := by rw [ha]; simp; omega
    have hl : leftP l = a := by unfold leftP; rw [hc, ha]; rfl
    have hr : rightP l = b := by unfold rightP; rw [hc, hb]; rfl
    have hg : gapP l = true := by unfold gapP; rw [hc]
    have hfirst : ¬ ∃ x y, a ++ [58] = x ++ 58 :: 58 :: y := by
      rintro ⟨x, y, e⟩
      have hlen : x.length + 2 + y.length = i + 1 := by
        have := congrArg List.length e
        simp at this; omega
      have e2 : l = x ++ 58 :: 58 :: (y ++ 58 :: b) := by
        rw [hlab, show a ++ 58 :: 58 :: b = (a ++ [58]) ++ 58 :: b from by simp, e]; simp
      have h1 := occ_dd x (y ++ 58 :: b)
      rw [← e2] at h1
      have h2 := hbef x.length (by omega)
      rw [h1] at h2
      cases h2
    rw [hl, hr, hg, rgC_front, rgC_back]
    have hgr := grp_dd a b hfirst
    rw [← hlab] at hgr
    rw [hgr]
    have h3 : ¬ (cutL 58 l).length < 3 := by
      rw [hlab, cut_mid, show cutL 58 (58 :: b) = [] :: cutL 58 b from by simp [cutL]]
      have := cutL_pos 58 a
      have := cutL_pos 58 b
      simp; omega
    cases hF : frontI a with
    | none => rfl
    | some u =>
      cases hB : backI b with
      | none => rfl
      | some v =>
        have hu := front_pos a u hF
        have hv := back_pos b v hB
        simp only [Option.bind_some, Option.map_some]
        rw [glue_pos true u v hu hv, (cnt_gap u v hu hv).1, (cnt_gap u v hu hv).2, fill_gap u v _ hu hv]
        by_cases h8 : 8 < u.length + v.length
        · rw [if_pos (Or.inr (Or.inl h8)), if_pos (Or.inl h8)]; rfl
        · rw [if_neg (by simp; omega), if_neg (by simp; omega)]; rfl
end Go.Proofs.YtlblefcmilfjdaaGreatDoor
namespace Go.Proofs.YtlblefcmilfjdaaGreatDoor
set_option linter.unusedVariables false

/-- The bit i of bytes, from the front. -/
def bitB (B : List UInt8) (i : Nat) : Nat := (B.getD (i / 8) 0).toNat / 2 ^ (7 - i % 8) % 2
/-- Are the first k bits alike? -/
def sameTo (B C : List UInt8) (k : Nat) : Prop := ∀ i, i < k → bitB B i = bitB C i
/-- Is every bit from k on, up to the n bytes' end, nought? -/
def zeroFrom (B : List UInt8) (k n : Nat) : Prop := ∀ i, k ≤ i → i < 8 * n → bitB B i = 0
theorem bit_test (x k : Nat) : x / 2 ^ k % 2 = if x.testBit k then 1 else 0 := by
  rw [Nat.testBit_eq_decide_div_mod_eq]
  have : x / 2 ^ k % 2 < 2 := Nat.mod_lt _ (by omega)
  by_cases h : x / 2 ^ k % 2 = 1
  · simp [h]
  · have h0 : x / 2 ^ k % 2 = 0 := by omega
    simp [h0]
/-- The first r bits of two bytes are alike, if what is left of the others is. -/
theorem byte_same (x y r : Nat) (hx : x < 256) (hy : y < 256) (hr : r ≤ 8) : (∀ j, j < r → x / 2 ^ (7 - j) % 2 = y / 2 ^ (7 - j) % 2) ↔ x / 2 ^ (8 - r) = y / 2 ^ (8 - r) := by
  constructor
  · intro h
    apply Nat.eq_of_testBit_eq
    intro i
    rw [Nat.testBit_div_two_pow, Nat.testBit_div_two_pow]
    rcases Nat.lt_or_ge (i + (8 - r)) 8 with h1 | h1
    · have := h (7 - (i + (8 - r))) (by omega)
      rw [bit_test, bit_test, show 7 - (7 - (i + (8 - r))) = i + (8 - r) from by omega] at this
      cases h2 : x.testBit (i + (8 - r)) <;> cases h3 : y.testBit (i + (8 - r)) <;> simp [h2, h3] at this ⊢
    · have e : 2 ^ 8 ≤ 2 ^ (i + (8 - r)) := Nat.pow_le_pow_right (by omega) h1
      rw [Nat.testBit_lt_two_pow (by omega), Nat.testBit_lt_two_pow (by omega)]
  · intro h j hj
    have e : ∀ z : Nat, z / 2 ^ (7 - j) = z / 2 ^ (8 - r) / 2 ^ (r - 1 - j) := fun z => by
      rw [Nat.div_div_eq_div_mul, ← Nat.pow_add, show 8 - r + (r - 1 - j) = 7 - j from by omega]
    rw [e x, e y, h]
/-- The last bits of a byte, from r on, are nought if it is a multiple. -/
theorem byte_zero (x r : Nat) (hx : x < 256) (hr : r ≤ 8) : (∀ j, r ≤ j → j < 8 → x / 2 ^ (7 - j) % 2 = 0) ↔ x % 2 ^ (8 - r) = 0 := by
  constructor
  · intro h
    apply Nat.eq_of_testBit_eq
    intro i
    rw [Nat.testBit_mod_two_pow, Nat.zero_testBit]
    by_cases hi : i < 8 - r
    · have := h (7 - i) (by omega) (by omega)
      rw [bit_test, show 7 - (7 - i) = i from by omega] at this
      cases h2 : x.testBit i <;> simp [h2] at this ⊢
    · simp [hi]
  · intro h j h1 h2
    have ht : (x % 2 ^ (8 - r)).testBit (7 - j) = false := by rw [h]; exact Nat.zero_testBit _
    rw [Nat.testBit_mod_two_pow, decide_eq_true (by omega : 7 - j < 8 - r), Bool.true_and] at ht
    rw [bit_test, ht]
    rfl
theorem bit_at (B : List UInt8) (q j : Nat) (h : j < 8) : bitB B (8 * q + j) = (B.getD q 0).toNat / 2 ^ (7 - j) % 2 := by
  unfold bitB
  rw [show (8 * q + j) / 8 = q from by omega, show (8 * q + j) % 8 = j from by omega]
/-- Alike in whole bytes. -/
theorem same_bytes (B C : List UInt8) (q : Nat) : sameTo B C (8 * q) ↔ ∀ m, m < q → B.getD m 0 = C.getD m 0 := by
  constructor
  · intro h m hm
    have := (byte_same (B.getD m 0).toNat (C.getD m 0).toNat 8 (UInt8.toNat_lt _) (UInt8.toNat_lt _) (by omega)).1 (fun j hj => by
      rw [← bit_at B m j hj, ← bit_at C m j hj]; exact h _ (by omega))
    apply UInt8.toNat_inj.1
    simpa using this
  · intro h i hi
    unfold bitB
    rw [h (i / 8) (by omega)]
/-- Alike in k bits: whole bytes, and what is left of the next. -/
theorem same_iff (B C : List UInt8) (k : Nat) : sameTo B C k ↔ (∀ m, m < k / 8 → B.getD m 0 = C.getD m 0) ∧ (B.getD (k / 8) 0).toNat / 2 ^ (8 - k % 8) = (C.getD (k / 8) 0).toNat / 2 ^ (8 - k % 8) := by
  rw [← same_bytes, ← byte_same _ _ (k % 8) (UInt8.toNat_lt _) (UInt8.toNat_lt _) (by omega)]
  constructor
  · intro h
    exact ⟨fun i hi => h i (by omega), fun j hj => by rw [← bit_at B _ j (by omega), ← bit_at C _ j (by omega)]; exact h _ (by omega)⟩
  · rintro ⟨h1, h2⟩ i hi
    rcases Nat.lt_or_ge i (8 * (k / 8)) with h | h
    · exact h1 i h
    · have := h2 (i - 8 * (k / 8)) (by omega)
      rw [← bit_at B _ _ (by omega), ← bit_at C _ _ (by omega), show 8 * (k / 8) + (i - 8 * (k / 8)) = i from by omega] at this
      exact this
/-- Nought from k on: what is left of the byte, and every byte behind it. -/
theorem zero_iff (B : List UInt8) (k n : Nat) (hk : k < 8 * n) : zeroFrom B k n ↔ (B.getD (k / 8) 0).toNat % 2 ^ (8 - k % 8) = 0 ∧ ∀ m, k / 8 < m → m < n → B.getD m 0 = 0 := by
  rw [← byte_zero _ (k % 8) (UInt8.toNat_lt _) (by omega)]
  constructor
  · intro h
    refine ⟨fun j h1 h2 => by rw [← bit_at B _ j h2]; exact h _ (by omega) (by omega), fun m h1 h2 => ?_⟩
    have := (byte_zero (B.getD m 0).toNat 0 (UInt8.toNat_lt _) (by omega)).1 (fun j _ hj => by rw [← bit_at B m j hj]; exact h _ (by omega) (by omega))
    apply UInt8.toNat_inj.1
    have h3 : (B.getD m 0).toNat < 256 := UInt8.toNat_lt _
    simp only [Nat.sub_zero] at this
    have h4 : (B.getD m 0).toNat = 0 := by omega
    rw [h4]; rfl
  · rintro ⟨h1, h2⟩ i hi hn
    rcases Nat.lt_or_ge (k / 8) (i / 8) with h | h
    · unfold bitB
      rw [h2 (i / 8) h (by omega)]
      simp
    · have e : i / 8 = k / 8 := by omega
      have := h1 (i % 8) (by omega) (by omega)
      unfold bitB
      rw [e]
      exact this
end Go.Proofs.YtlblefcmilfjdaaGreatDoor
namespace Go.Proofs.YtlblefcmilfjdaaGreatDoor
set_option linter.unusedVariables false
set_option linter.unusedSimpArgs false

theorem dch_fin47 : ∀ d : Fin 16, dch d.val ≠ 47 := by decide
theorem digsF_47 (base : Nat) (hb2 : 2 ≤ base) (hb : base ≤ 16) : ∀ f n, (47 : UInt8) ∉ digsF base f n
  | 0, n => by simp [digsF]
  | f + 1, n => by
    unfold digsF
    split
    · rename_i hn
      have := dch_fin47 ⟨n, by omega⟩
      simp only [List.mem_cons, List.not_mem_nil, or_false]
      exact fun e => this e.symm
    · rename_i hn
      have hm : n % base < 16 := Nat.lt_of_lt_of_le (Nat.mod_lt _ (by omega)) hb
      have := dch_fin47 ⟨n % base, hm⟩
      rw [List.mem_append]
      rintro (h | h)
      · exact digsF_47 base hb2 hb f (n / base) h
      · simp only [List.mem_cons, List.not_mem_nil, or_false] at h
        exact this h.symm
theorem digs_47 (base n : Nat) (hb2 : 2 ≤ base) (hb : base ≤ 16) : (47 : UInt8) ∉ digs base n := digsF_47 base hb2 hb 20 n
theorem join_47 (b : UInt8) (hb : b ≠ 47) : ∀ L : List (List UInt8), (∀ x ∈ L, (47 : UInt8) ∉ x) → (47 : UInt8) ∉ joinL b L
  | [], _ => by simp [joinL]
  | [x], h => h x (by simp)
  | x :: y :: r, h => by
    have ih := join_47 b hb (y :: r) (fun z hz => h z (by simp only [List.mem_cons] at hz ⊢; exact Or.inr hz))
    rw [joinL, List.mem_append, List.mem_cons]
    rintro (h1 | h1 | h1)
    · exact h x (by simp) h1
    · exact hb h1.symm
    · exact ih h1
theorem J_47 (g : List Nat) : (47 : UInt8) ∉ J g := join_47 58 (by decide) _ (fun x hx => by
  obtain ⟨j, _, rfl⟩ := List.mem_map.1 hx
  exact digs_47 16 j (by omega) (by omega))
theorem last_47 (B : List UInt8) : (47 : UInt8) ∉ lastB B :=
  join_47 46 (by decide) [digs 10 (B.getD 12 0).toNat, digs 10 (B.getD 13 0).toNat, digs 10 (B.getD 14 0).toNat, digs 10 (B.getD 15 0).toNat] (fun x hx => by
    simp only [List.mem_cons, List.not_mem_nil, or_false] at hx
    rcases hx with rfl | rfl | rfl | rfl <;> exact digs_47 10 _ (by omega) (by omega))
/-- No slash in an address. -/
theorem print_47 (v : Bool) (B : List UInt8) : (47 : UInt8) ∉ printA v B := by
  unfold printA
  split
  · exact last_47 B
  · split
    · rw [List.mem_append]
      rintro (h | h)
      · revert h; decide
      · exact last_47 B h
    · unfold shortB
      split
      · rw [List.mem_append, List.mem_append]
        rintro ((h | h) | h)
        · exact J_47 _ h
        · revert h; decide
        · exact J_47 _ h
      · exact J_47 _
/-- How many bits an address has; where they begin. -/
def totB (v : Bool) : Nat := if v then 128 else 32
def offB (v : Bool) : Nat := if v then 0 else 96
/-- May a net be? -/
def mayN (v : Bool) (B : List UInt8) (k : Int) : Bool := mayB v B && decide (0 ≤ k) && decide (k ≤ totB v) && (List.range (totB v - k.toNat)).all fun m => decide (bitB B (offB v + k.toNat + m) = 0)
def printN (v : Bool) (B : List UInt8) (k : Nat) : List UInt8 := printA v B ++ 47 :: digs 10 k
/-- The number from 0 to 128 that is written so. -/
def bitsOf (x : List UInt8) : Option Nat := (List.range 129).find? fun k => decide (x = digs 10 k)
theorem digs_inj_fin : ∀ k : Fin 129, bitsOf (digs 10 k.val) = some k.val := by decide +kernel
theorem bits_of (k : Nat) (h : k ≤ 128) : bitsOf (digs 10 k) = some k := digs_inj_fin ⟨k, by omega⟩
theorem bits_none (x : List UInt8) (h : bitsOf x = none) (k : Nat) (hk : k ≤ 128) : x ≠ digs 10 k := fun e => by
  rw [e, bits_of k hk] at h; cases h
/-- One net, read. -/
def parseN (l : List UInt8) : Option (Bool × List UInt8 × Nat) := match cutL 47 l with
  | [a, b] => match parseA a, bitsOf b with
    | some (v, B), some k => if mayN v B k then some (v, B, k) else none
    | _, _ => none
  | _ => none
theorem cut_two (a b : List UInt8) (ha : (47 : UInt8) ∉ a) (hb : (47 : UInt8) ∉ b) : cutL 47 (a ++ 47 :: b) = [a, b] := by rw [cut_app 47 b a ha, cut_none 47 b hb]
/-- What is printed is read back. -/
theorem net_back (v : Bool) (B : List UInt8) (k : Nat) (hB : B.length = 16) (h : mayN v B k = true) : parseN (printN v B k) = some (v, B, k) := by
  have hm := h
  unfold mayN at h
  simp only [Bool.and_eq_true] at h
  have hk : k ≤ 128 := by
    have h1 := of_decide_eq_true h.1.2
    have h2 : totB v ≤ 128 := by cases v <;> decide
    omega
  unfold parseN printN
  rw [cut_two _ _ (print_47 v B) (digs_47 10 k (by omega) (by omega))]
  simp only [print_back v B hB h.1.1.1, bits_of k hk, hm, if_true]
end Go.Proofs.YtlblefcmilfjdaaGreatDoor
namespace Go.Proofs.YtlblefcmilfjdaaGreatDoor
set_option linter.unusedVariables false
set_option linter.unusedSimpArgs false

/-- A byte's first m bits, the others nought. -/
def keepN (x m : Nat) : Nat := x / 2 ^ (8 - m) * 2 ^ (8 - m)
def keepB (b : UInt8) (m : Nat) : UInt8 := UInt8.ofNat (keepN b.toNat m)
theorem keepN_le (x m : Nat) : keepN x m ≤ x := Nat.div_mul_le_self x _
theorem keepB_toNat (b : UInt8) (m : Nat) : (keepB b m).toNat = keepN b.toNat m := by
  unfold keepB
  have := keepN_le b.toNat m
  have := b.toNat_lt
  rw [UInt8.toNat_ofNat']
  exact Nat.mod_eq_of_lt (by omega)
theorem keep_bit (x m j : Nat) (hm : m ≤ 8) (hj : j < 8) : keepN x m / 2 ^ (7 - j) % 2 = if j < m then x / 2 ^ (7 - j) % 2 else 0 := by
  unfold keepN
  rw [bit_test, bit_test, Nat.mul_comm, Nat.testBit_two_pow_mul]
  by_cases h : j < m
  · rw [if_pos h, decide_eq_true (by omega : 8 - m ≤ 7 - j), Bool.true_and, Nat.testBit_div_two_pow, show 7 - j - (8 - m) + (8 - m) = 7 - j from by omega]
  · rw [if_neg h, decide_eq_false (by omega : ¬ 8 - m ≤ 7 - j), Bool.false_and]; rfl
/-- All bits behind the first L nought. -/
def firstB (B : List UInt8) (L : Nat) : List UInt8 := (List.range 16).map fun i => keepB (B.getD i 0) (min (L - 8 * i) 8)
theorem firstB_len (B : List UInt8) (L : Nat) : (firstB B L).length = 16 := by simp [firstB]
theorem firstB_at (B : List UInt8) (L i : Nat) (h : i < 16) : (firstB B L).getD i 0 = keepB (B.getD i 0) (min (L - 8 * i) 8) := by
  unfold firstB
  rw [List.getD_eq_getElem?_getD, List.getElem?_map, List.getElem?_range h]
  rfl
theorem first_bit (B : List UInt8) (L i : Nat) (h : i < 128) : bitB (firstB B L) i = if i < L then bitB B i else 0 := by
  unfold bitB
  rw [firstB_at B L (i / 8) (by omega), keepB_toNat, keep_bit _ _ (i % 8) (by omega) (by omega)]
  by_cases hL : i < L
  · rw [if_pos hL, if_pos (by omega)]
  · rw [if_neg hL, if_neg (by omega)]
/-- Sixteen bytes are alike if their bits are. -/
theorem bits_ext (B C : List UInt8) (hB : B.length = 16) (hC : C.length = 16) : B = C ↔ ∀ i, i < 128 → bitB B i = bitB C i := by
  constructor
  · rintro rfl i _; rfl
  · intro h
    have := (same_bytes B C 16).1 (fun i hi => h i (by omega))
    apply List.ext_getElem (by omega)
    intro j h1 h2
    have := this j (by omega)
    rw [List.getD_eq_getElem?_getD, List.getD_eq_getElem?_getD, List.getElem?_eq_getElem h1, List.getElem?_eq_getElem h2] at this
    simpa using this
theorem first_self (B : List UInt8) (hB : B.length = 16) (L : Nat) : B = firstB B L ↔ ∀ i, L ≤ i → i < 128 → bitB B i = 0 := by
  rw [bits_ext B (firstB B L) hB (firstB_len B L)]
  constructor
  · intro h i h1 h2
    rw [h i h2, first_bit B L i h2, if_neg (by omega)]
  · intro h i hi
    rw [first_bit B L i hi]
    by_cases hL : i < L
    · rw [if_pos hL]
    · rw [if_neg hL]; exact h i (by omega) hi
theorem zero_bit (B : List UInt8) (h : B.take 12 = List.replicate 12 0) (i : Nat) (hi : i < 96) : bitB B i = 0 := by
  have : (B.take 12)[i / 8]? = some 0 := by rw [h, List.getElem?_replicate, if_pos (by omega)]
  rw [List.getElem?_take, if_pos (by omega)] at this
  unfold bitB
  rw [List.getD_eq_getElem?_getD, this]
  simp
theorem may_zero (B : List UInt8) (h : mayB false B = true) (i : Nat) (hi : i < 96) : bitB B i = 0 :=
  zero_bit B (by unfold mayB at h; simpa using h) i hi
/-- May a net be: by its first bits. -/
theorem mayN_first (v : Bool) (B : List UInt8) (hB : B.length = 16) (k : Int) : mayN v B k = (mayB v B && decide (0 ≤ k) && decide (k ≤ totB v) && decide (B = firstB B (offB v + k.toNat))) := by
  unfold mayN
  cases hm : mayB v B
  · rfl
  by_cases h0 : 0 ≤ k
  · by_cases h1 : k ≤ totB v
    · rw [decide_eq_true h0, decide_eq_true h1]
      simp only [Bool.true_and, Bool.and_true]
      rw [Bool.eq_iff_iff, List.all_eq_true, decide_eq_true_iff, first_self B hB]
      have hto : offB v + totB v = 128 := by cases v <;> rfl
      constructor
      · intro h i h2 h3
        have := of_decide_eq_true (h (i - (offB v + k.toNat)) (List.mem_range.2 (by omega)))
        rwa [show offB v + k.toNat + (i - (offB v + k.toNat)) = i from by omega] at this
      · intro h m hm
        rw [List.mem_range] at hm
        exact decide_eq_true (h _ (by omega) (by omega))
    · rw [decide_eq_false h1]; simp
  · rw [decide_eq_false h0]; simp
theorem tot_le (v : Bool) : totB v ≤ 128 := by cases v <;> decide
/-- Has a net an address? -/
def hasN (v : Bool) (B : List UInt8) (k : Nat) (u : Bool) (C : List UInt8) : Bool := decide (v = u) && (List.range k).all fun i => decide (bitB B (offB v + i) = bitB C (offB v + i))
theorem mayN_parts {v : Bool} {B : List UInt8} {k : Int} (h : mayN v B k = true) : mayB v B = true ∧ 0 ≤ k ∧ k ≤ totB v := by
  unfold mayN at h
  simp only [Bool.and_eq_true, decide_eq_true_eq] at h
  exact ⟨h.1.1.1, h.1.1.2, h.1.2⟩
theorem holds_has (v : Bool) (B : List UInt8) (hB : B.length = 16) (k : Nat) (u : Bool) (C : List UInt8) (hC : C.length = 16) (hN : mayN v B k = true) (hm : mayB u C = true) : decide (u = v ∧ firstB C (offB u + k) = B) = hasN v B k u C := by
  obtain ⟨hv, _, hk⟩ := mayN_parts hN
  rw [mayN_first v B hB] at hN
  simp only [Bool.and_eq_true, decide_eq_true_eq] at hN
  have hF := (first_self B hB _).1 hN.2
  unfold hasN
  have hto : offB v + totB v = 128 := by cases v <;> rfl
  rw [Bool.eq_iff_iff, decide_eq_true_iff, Bool.and_eq_true, decide_eq_true_iff, List.all_eq_true]
  rw [Int.toNat_natCast] at hF
  constructor
  · rintro ⟨rfl, h⟩
    refine ⟨rfl, fun i hi => ?_⟩
    rw [List.mem_range] at hi
    rw [← h]
    rw [first_bit C _ _ (by omega), if_pos (by omega)]
    exact decide_eq_true rfl
  · rintro ⟨rfl, h⟩
    refine ⟨rfl, ?_⟩
    rw [bits_ext _ _ (firstB_len _ _) hB]
    intro i hi
    rw [first_bit C _ i hi]
    by_cases hL : i < offB v + k
    · rw [if_pos hL]
      by_cases h96 : i < offB v
      · cases v
        · rw [may_zero C hm i (by exact h96), may_zero B hv i (by exact h96)]
        · exact absurd h96 (by show ¬ i < 0; omega)
      · have := of_decide_eq_true (h (i - offB v) (List.mem_range.2 (by omega)))
        rw [show offB v + (i - offB v) = i from by omega] at this
        exact this.symm
    · rw [if_neg hL]
      exact (hF i (by omega) hi).symm
end Go.Proofs.YtlblefcmilfjdaaGreatDoor
namespace Go.Proofs.YtlblefcmilfjdaaGreatDoor
set_option linter.unusedVariables false
set_option linter.unusedSimpArgs false

/-- A net: its kind, its bytes, its bits. -/
structure NetV where
  v : Bool
  B : List UInt8
  k : Int
/-- Are two nets alike? -/
def eqNV (a b : NetV) : Bool := decide (a.v = b.v ∧ a.B = b.B) && decide (a.k = b.k)
theorem eqNV_self (n : NetV) : eqNV n n = true := by simp [eqNV]
theorem net_of_map (o : Option NetV) (v : Bool) (B : List UInt8) (k : Int) (h : (o.map fun n => (n.v, n.B, n.k)) = some (v, B, k)) : o = some ⟨v, B, k⟩ := by
  cases o with
  | none => cases h
  | some n =>
    simp only [Option.map_some, Option.some.injEq, Prod.mk.injEq] at h
    obtain ⟨h1, h2, h3⟩ := h
    rw [← h1, ← h2, ← h3]
def f4 (a b c d : UInt8) (k : Int) : NetV := ⟨false, List.replicate 12 0 ++ [a, b, c, d], k⟩
def f6 (a b c d e f l : UInt8) (k : Int) : NetV := ⟨true, [a, b, c, d, e, f, 0, 0, 0, 0, 0, 0, 0, 0, 0, l], k⟩
def forbL : List NetV := [f4 0 0 0 0 8, f4 10 0 0 0 8, f4 100 64 0 0 10, f4 127 0 0 0 8, f4 169 254 0 0 16, f4 172 16 0 0 12, f4 192 0 0 0 24, f4 192 0 2 0 24, f4 192 88 99 0 24, f4 192 168 0 0 16, f4 198 18 0 0 15, f4 198 51 100 0 24, f4 203 0 113 0 24, f4 224 0 0 0 4, f4 240 0 0 0 4,
  f6 0 0 0 0 0 0 0 128, f6 0 0 0 0 0 0 1 128, f6 0 100 255 155 0 1 0 48, f6 1 0 0 0 0 0 0 64, f6 32 1 0 0 0 0 0 23, f6 32 1 13 184 0 0 0 32, f6 63 255 0 0 0 0 0 20, f6 95 0 0 0 0 0 0 16, f6 252 0 0 0 0 0 0 7, f6 254 128 0 0 0 0 0 10, f6 255 0 0 0 0 0 0 8]
def okN (n : NetV) : Prop := n.B.length = 16 ∧ -9223372036854775808 ≤ n.k ∧ n.k ≤ 9223372036854775807
theorem forb_ok : ∀ n ∈ forbL, n.B.length = 16 ∧ mayN n.v n.B n.k = true := by decide +kernel
def mayV (n : NetV) : Bool := mayN n.v n.B n.k
def hasV (n : NetV) (u : Bool) (C : List UInt8) : Bool := hasN n.v n.B n.k.toNat u C
/-- Is an address in one of some nets? -/
def inV (l : List NetV) (u : Bool) (C : List UInt8) : Bool := l.any fun n => hasV n u C
/-- What holds tells. -/
def holdV (n : NetV) (u : Bool) (C : List UInt8) : Bool := decide (u = n.v ∧ firstB C (offB u + n.k.toNat) = n.B)
theorem holdV_has (n : NetV) (hB : n.B.length = 16) (u : Bool) (C : List UInt8) (hC : C.length = 16) (hN : mayV n = true) (hm : mayB u C = true) : holdV n u C = hasV n u C := by
  unfold holdV hasV
  have h0 := (mayN_parts hN).2.1
  refine holds_has n.v n.B hB n.k.toNat u C hC ?_ hm
  rw [Int.toNat_of_nonneg h0]; exact hN
theorem any_congr {α : Type} (l : List α) (p q : α → Bool) (h : ∀ x ∈ l, p x = q x) : l.any p = l.any q := by
  induction l with
  | nil => rfl
  | cons x r ih => rw [List.any_cons, List.any_cons, h x (by simp), ih (fun y hy => h y (by simp [hy]))]
theorem among_in (l : List NetV) (hl : ∀ n ∈ l, n.B.length = 16 ∧ mayV n = true) (u : Bool) (C : List UInt8) (hC : C.length = 16) (hm : mayB u C = true) : (l.any fun n => holdV n u C) = inV l u C :=
  any_congr l _ _ fun n hn => holdV_has n (hl n hn).1 u C hC (hl n hn).2 hm
theorem all_may {l : List NetV} (h : (l.any fun n => !mayV n) = false) : ∀ n ∈ l, mayV n = true := fun n hn => by
  have := List.any_eq_false.1 h n hn
  simpa using this
/-- Two nets meet. -/
def meetV (a b : NetV) : Bool := mayV a && mayV b && ((decide (a.k ≤ b.k) && hasV a b.v b.B) || (decide (b.k ≤ a.k) && hasV b a.v a.B))
theorem hasN_sym (v : Bool) (B : List UInt8) (k : Nat) (u : Bool) (C : List UInt8) : hasN v B k u C = hasN u C k v B := by
  unfold hasN
  by_cases h : v = u
  · subst h
    rw [decide_eq_true rfl]
    refine congrArg (fun x => true && x) ?_
    rw [Bool.eq_iff_iff, List.all_eq_true, List.all_eq_true]
    exact ⟨fun g i hi => decide_eq_true (of_decide_eq_true (g i hi)).symm, fun g i hi => decide_eq_true (of_decide_eq_true (g i hi)).symm⟩
  · rw [decide_eq_false h, decide_eq_false (fun e => h e.symm)]; rfl
theorem meet_le (a b : NetV) (h : a.k ≤ b.k) : meetV a b = (mayV b && (mayV a && mayB b.v b.B && hasV a b.v b.B)) := by
  unfold meetV
  cases ha : mayV a <;> cases hb : mayV b <;> simp only [Bool.and_true, Bool.true_and, Bool.false_and, Bool.and_false]
  rw [decide_eq_true h, Bool.true_and, (mayN_parts hb).1, Bool.true_and]
  by_cases h2 : b.k ≤ a.k
  · have e : a.k = b.k := by omega
    rw [decide_eq_true h2, Bool.true_and]
    unfold hasV
    rw [e, hasN_sym b.v b.B, Bool.or_self]
  · rw [decide_eq_false h2, Bool.false_and, Bool.or_false]
theorem meet_sym (a b : NetV) : meetV a b = meetV b a := by
  unfold meetV
  rw [Bool.and_comm (mayV a), Bool.or_comm]
theorem has_meet_le (a b : NetV) (h : a.k ≤ b.k) (u : Bool) (C : List UInt8) (h1 : hasV a u C = true) (h2 : hasV b u C = true) : hasV a b.v b.B = true := by
  unfold hasV hasN at h1 h2 ⊢
  simp only [Bool.and_eq_true, decide_eq_true_eq, List.all_eq_true, List.mem_range] at h1 h2 ⊢
  obtain ⟨e1, g1⟩ := h1
  obtain ⟨e2, g2⟩ := h2
  refine ⟨e1.trans e2.symm, fun i hi => ?_⟩
  have := g2 i (by omega)
  rw [g1 i hi, e1, ← e2]
  exact this.symm
theorem has_meet (a b : NetV) (u : Bool) (C : List UInt8) (ha : mayV a = true) (hb : mayV b = true) (h1 : hasV a u C = true) (h2 : hasV b u C = true) : meetV a b = true := by
  rcases Int.le_total a.k b.k with h | h
  · rw [meet_le a b h, ha, hb, (mayN_parts hb).1, has_meet_le a b h u C h1 h2]; rfl
  · rw [meet_sym, meet_le b a h, ha, hb, (mayN_parts ha).1, has_meet_le b a h u C h2 h1]; rfl
end Go.Proofs.YtlblefcmilfjdaaGreatDoor
namespace Go.Proofs.YtlblefcmilfjdaaGreatDoor
set_option linter.unusedVariables false

theorem itoa_fin129 : ∀ n : Fin 129, Lib.itoa (n.val : Int) = digs 10 n.val := by decide +kernel
theorem atoi_fin129 : ∀ n : Fin 129, Lib.atoiAll (digs 10 n.val) = .ok (n.val : Int) := by decide +kernel
/-- The number that is written so, and is written so again. -/
def numOf (x : List UInt8) : Option Int := match Lib.atoiAll x with
  | .ok n => if Lib.itoa n = x then some n else none
  | _ => none

theorem bits_some {x : List UInt8} {k : Nat} (h : bitsOf x = some k) : k ≤ 128 ∧ x = digs 10 k := by
  unfold bitsOf at h
  have h1 := List.find?_some h
  have h2 := List.mem_of_find?_eq_some h
  rw [List.mem_range] at h2
  exact ⟨by omega, of_decide_eq_true h1⟩
theorem num_of_bits {x : List UInt8} {k : Nat} (h : bitsOf x = some k) : numOf x = some (k : Int) := by
  obtain ⟨h1, rfl⟩ := bits_some h
  unfold numOf
  have a := atoi_fin129 ⟨k, by omega⟩
  have b := itoa_fin129 ⟨k, by omega⟩
  simp only at a b
  rw [a]
  show (if Lib.itoa (k : Int) = digs 10 k then some (k : Int) else none) = _
  rw [if_pos b]
theorem bits_of_num {x : List UInt8} {n : Int} (h : numOf x = some n) (h0 : 0 ≤ n) (h1 : n ≤ 128) : bitsOf x = some n.toNat := by
  unfold numOf at h
  split at h
  · rename_i m hm
    split at h
    · rename_i he
      injection h with h
      subst h
      have b := itoa_fin129 ⟨m.toNat, by omega⟩
      simp only at b
      rw [Int.toNat_of_nonneg h0] at b
      rw [← he, b]
      exact bits_of m.toNat (by omega)
    · cases h
  · cases h
/-- One net, read as the program reads it. -/
def readN (a x : List UInt8) : Option (Bool × List UInt8 × Nat) := match parseA a, numOf x with
  | some (v, B), some n => if mayN v B n then some (v, B, n.toNat) else none
  | _, _ => none
def readB (a x : List UInt8) : Option (Bool × List UInt8 × Nat) := match parseA a, bitsOf x with
  | some (v, B), some k => if mayN v B k then some (v, B, k) else none
  | _, _ => none
theorem read_same (a x : List UInt8) : readN a x = readB a x := by
  unfold readN readB
  cases ha : parseA a with
  | none => rfl
  | some p =>
    obtain ⟨v, B⟩ := p
    cases hb : bitsOf x with
    | some k => rw [num_of_bits hb]; simp
    | none =>
      cases hn : numOf x with
      | none => rfl
      | some n =>
        simp only
        by_cases hm : mayN v B n = true
        · obtain ⟨_, h0, h1⟩ := mayN_parts hm
          have := tot_le v
          rw [bits_of_num hn h0 (by omega)] at hb
          cases hb
        · rw [if_neg hm]
/-- What stands ahead of the first slash, and behind it. -/
theorem digs_fin47 (k : Nat) : (47 : UInt8) ∉ digs 10 k := digs_47 10 k (by omega) (by omega)
theorem bits_no_slash (x : List UInt8) (h : (47 : UInt8) ∈ x) : bitsOf x = none := by
  cases hb : bitsOf x with
  | none => rfl
  | some k => exact absurd h (by rw [(bits_some hb).2]; exact digs_fin47 k)
theorem cut_first (a x : List UInt8) (ha : (47 : UInt8) ∉ a) : parseN (a ++ 47 :: x) = readB a x := by
  unfold parseN readB
  rw [cut_app 47 x a ha]
  by_cases hx : (47 : UInt8) ∈ x
  · rw [bits_no_slash x hx]
    have : ∃ p q r, cutL 47 x = p :: q :: r := by
      obtain ⟨s, t, e, hs⟩ : ∃ s t, x = s ++ 47 :: t ∧ (47 : UInt8) ∉ s := by
        have := List.append_of_mem hx
        clear ha
        induction x with
        | nil => cases hx
        | cons y r ih =>
          by_cases hy : y = 47
          · exact ⟨[], r, by rw [hy]; rfl, by simp⟩
          · have hr : (47 : UInt8) ∈ r := by
              rcases List.mem_cons.1 hx with h | h
              · exact absurd h.symm hy
              · exact h
            obtain ⟨s, t, e, hs⟩ := ih hr (List.append_of_mem hr)
            exact ⟨y :: s, t, by rw [e]; rfl, by rw [List.mem_cons]; rintro (h | h); exact hy h.symm; exact hs h⟩
      rw [e, cut_app 47 t s hs]
      cases hc : cutL 47 t with
      | nil => exact absurd (cutL_pos 47 t) (by rw [hc]; simp)
      | cons q r => exact ⟨s, q, r, rfl⟩
    obtain ⟨p, q, r, e⟩ := this
    rw [e]
    simp only
    cases parseA a <;> rfl
  · rw [cut_none 47 x hx]
    all_goals rfl
theorem cut_never (l : List UInt8) (h : (47 : UInt8) ∉ l) : parseN l = none := by
  unfold parseN
  rw [cut_none 47 l h]
end Go.Proofs.YtlblefcmilfjdaaGreatDoor
