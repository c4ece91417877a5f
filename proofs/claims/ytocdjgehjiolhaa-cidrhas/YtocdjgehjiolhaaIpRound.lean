
/- Parse of Print is the address: plain mathematics. -/
import Derived.Test.YtocdjgehjiolhaaIpBack
namespace Go.Proofs.Ytocdjgehjiolhaa
set_option linter.unusedSimpArgs false
set_option linter.unusedVariables false

/-- Bytes, two by two. -/
def toG : List UInt8 → List Nat
  | a :: b :: r => (a.toNat * 256 + b.toNat) :: toG r
  | _ => []
theorem toG_len : ∀ B : List UInt8, (toG B).length = B.length / 2
  | [] => rfl
  | [_] => by simp [toG]
  | a :: b :: r => by simp only [toG, List.length_cons, toG_len r]; omega
theorem toG_at : ∀ (B : List UInt8) (i : Nat), 2 * i + 1 < B.length → (toG B).getD i 0 = (B.getD (2 * i) 0).toNat * 256 + (B.getD (2 * i + 1) 0).toNat
  | [], i, h => absurd h (by simp)
  | [_], i, h => absurd h (by simp)
  | a :: b :: r, 0, _ => by simp [toG]
  | a :: b :: r, i + 1, h => by
    have := toG_at r i (by simp at h; omega)
    simp only [toG, List.getD_cons_succ]
    rw [this, show 2 * (i + 1) = 2 * i + 1 + 1 from by omega]
    simp
theorem toG_lt : ∀ (B : List UInt8) (x : Nat), x ∈ toG B → x < 65536
  | [], x, h => by simp [toG] at h
  | [_], x, h => by simp [toG] at h
  | a :: b :: r, x, h => by
    have ha := a.toNat_lt
    have hb := b.toNat_lt
    simp only [toG, List.mem_cons] at h
    rcases h with rfl | h
    · omega
    · exact toG_lt r x h
theorem b8_hi (a b : UInt8) : b8 ((a.toNat * 256 + b.toNat) / 256) = a := by
  have hb := b.toNat_lt
  rw [show (a.toNat * 256 + b.toNat) / 256 = a.toNat from by omega]
  exact UInt8.ofNat_toNat
theorem b8_lo (a b : UInt8) : b8 ((a.toNat * 256 + b.toNat) % 256) = b := by
  have hb := b.toNat_lt
  rw [show (a.toNat * 256 + b.toNat) % 256 = b.toNat from by omega]
  exact UInt8.ofNat_toNat
theorem bytes_toG : ∀ B : List UInt8, B.length % 2 = 0 → bytesG (toG B) = B
  | [], _ => rfl
  | [_], h => absurd h (by simp)
  | a :: b :: r, h => by
    have ih := bytes_toG r (by simp at h; omega)
    simp only [toG, bytesG, List.flatMap_cons]
    rw [b8_hi, b8_lo]
    unfold bytesG at ih
    rw [ih]
    rfl
theorem bytes_app (X Y : List Nat) : bytesG (X ++ Y) = bytesG X ++ bytesG Y := by simp [bytesG]
theorem bytes_zero : ∀ n, bytesG (List.replicate n 0) = List.replicate (2 * n) 0
  | 0 => rfl
  | n + 1 => by
    have ih := bytes_zero n
    simp only [List.replicate_succ, bytesG, List.flatMap_cons] at ih ⊢
    rw [ih, show 2 * (n + 1) = 2 * n + 1 + 1 from by omega, List.replicate_succ, List.replicate_succ]
    rfl
theorem fill_ints (X : List Nat) (n : Nat) : fillG (X.map fun n : Nat => (n : Int)) n = bytesG X := by
  unfold fillG bytesG
  rw [List.flatMap_map]
  congr 1
theorem cnt_ints (X : List Nat) : cntG (X.map fun n : Nat => (n : Int)) = X.length := by
  unfold cntG
  rw [List.filter_eq_self.2 (fun x hx => by obtain ⟨n, _, rfl⟩ := List.mem_map.1 hx; simp), List.length_map]
theorem gap_ints (X : List Nat) : gapG (X.map fun n : Nat => (n : Int)) = false := by
  unfold gapG
  rw [List.any_eq_false]
  intro x hx
  obtain ⟨n, _, rfl⟩ := List.mem_map.1 hx
  simp
theorem join_no (b c : UInt8) (h : b ≠ c) : ∀ L : List (List UInt8), (∀ x ∈ L, b ∉ x) → b ∉ joinL c L
  | [], _ => by simp [joinL]
  | [x], hL => by simpa [joinL] using hL x (by simp)
  | x :: y :: r, hL => by
    have ih := join_no b c h (y :: r) (fun z hz => hL z (by simp only [List.mem_cons] at hz ⊢; exact Or.inr hz))
    rw [joinL]
    simp only [List.mem_append, List.mem_cons, not_or]
    exact ⟨hL x (by simp), h, ih⟩
theorem J_46 (g : List Nat) : (46 : UInt8) ∉ J g := join_no 46 58 (by decide) _ (fun x hx => by
  obtain ⟨n, _, rfl⟩ := List.mem_map.1 hx
  exact digs_46 16 n (by omega) (by omega))
theorem split_run (g : List Nat) (a n : Nat) (hr : Run g (a, n)) (hg : g.length = 8) : g = g.take a ++ (List.replicate n 0 ++ g.drop (a + n)) := by
  have h1 : a + n ≤ 8 := hr.1
  have h2 : (g.drop a).take n = List.replicate n 0 := by
    apply List.ext_getElem
    · simp; omega
    · intro j h3 h4
      have hj : j < n := by simpa using h4
      have := run_zero g a (a + n) (a + j) hr.2 (by omega) (by omega)
      rw [List.getElem_replicate, List.getElem_take, List.getElem_drop]
      rw [List.getD_eq_getElem?_getD, List.getElem?_eq_getElem (by omega)] at this
      simpa using this
  rw [← h2]
  have e : g.drop (a + n) = (g.drop a).drop n := (List.drop_drop).symm
  rw [e, List.take_append_drop, List.take_append_drop]
theorem parse_short (g : List Nat) (hg : g.length = 8) (hlt : ∀ x ∈ g, x < 65536) (a n : Nat) (hr : Run g (a, n)) : parseA (shortB g a n) = some (true, bytesG g) := by
  unfold shortB
  by_cases h2 : 2 ≤ n
  · rw [if_pos h2]
    have h46 : (46 : UInt8) ∉ J (g.take a) ++ [58, 58] ++ J (g.drop (a + n)) := by
      simp only [List.mem_append, not_or]
      exact ⟨⟨J_46 _, by decide⟩, J_46 _⟩
    have hgp := grp_parts (g.take a) (g.drop (a + n)) (fun x hx => hlt x (List.mem_of_mem_take hx)) (fun x hx => hlt x (List.mem_of_mem_drop hx))
    unfold parseA
    rw [four_no _ h46, if_neg (by decide), cut_parts, hgp]
    have hlen : 3 ≤ (partsL (g.take a) (g.drop (a + n))).length := by
      have h3 := List.length_pos_iff.2 (ne1_ne (hexs (g.take a)))
      have h4 := List.length_pos_iff.2 (ne1_ne (hexs (g.drop (a + n))))
      unfold partsL
      simp only [List.length_append, List.length_cons, List.length_nil]
      omega
    have h1 : a + n ≤ 8 := hr.1
    have hc : cntG ((g.take a).map (fun n : Nat => (n : Int)) ++ [-1] ++ (g.drop (a + n)).map (fun n : Nat => (n : Int))) = 8 - n := by
      have e1 := cnt_ints (g.take a)
      have e2 := cnt_ints (g.drop (a + n))
      unfold cntG at e1 e2 ⊢
      rw [List.filter_append, List.filter_append, List.length_append, List.length_append, e1, e2]
      simp
      omega
    have hgap : gapG ((g.take a).map (fun n : Nat => (n : Int)) ++ [-1] ++ (g.drop (a + n)).map (fun n : Nat => (n : Int))) = true := by
      unfold gapG
      rw [List.any_append, List.any_append]
      simp
    simp only [hc, hgap]
    rw [if_neg (by simp; omega)]
    congr 2
    have e1 := fill_ints (g.take a) (8 - (8 - n))
    have e2 := fill_ints (g.drop (a + n)) (8 - (8 - n))
    unfold fillG at e1 e2 ⊢
    rw [List.flatMap_append, List.flatMap_append, e1, e2]
    have e3 := congrArg bytesG (split_run g a n hr hg)
    rw [bytes_app, bytes_app, bytes_zero] at e3
    rw [e3, show 8 - (8 - n) = n from by omega]
    simp
  · rw [if_neg h2]
    have hne : g ≠ [] := fun e => by rw [e] at hg; simp at hg
    have hgr : grp (hexs g) = some (g.map fun n : Nat => (n : Int)) := by
      have := grp_hexs (hexs g) 0 [] false rfl g hlt (fun j hj => by rw [Nat.zero_add]; exact getD_hexs g j hj) g.length (Nat.le_refl _)
      unfold grp
      rw [show (hexs g).length = 0 + g.length from by simp [hexs], this]
      simp
    unfold parseA
    rw [four_no _ (J_46 g), if_neg (by decide), cut_all g hne, hgr]
    simp only [cnt_ints, gap_ints, fill_ints]
    rw [if_neg (by simp [hexs, hg])]

/-- The mapped ones. -/
def FFFF : List UInt8 := [58, 58, 102, 102, 102, 102, 58]
theorem v4_bytes (a b c d : UInt8) : v4B (((a.toNat * 256 + b.toNat) * 256 + c.toNat) * 256 + d.toNat) = List.replicate 12 0 ++ [a, b, c, d] := by
  have ha := a.toNat_lt
  have hb := b.toNat_lt
  have hc := c.toNat_lt
  have hd := d.toNat_lt
  unfold v4B b8
  rw [show (((a.toNat * 256 + b.toNat) * 256 + c.toNat) * 256 + d.toNat) / 16777216 = a.toNat from by omega]
  have e : ∀ (n : Nat) (x : UInt8), n % 256 = x.toNat → UInt8.ofNat n = x := fun n x h => by
    apply UInt8.toNat_inj.1
    rw [UInt8.toNat_ofNat', h]
  rw [UInt8.ofNat_toNat, e _ b (by omega), e _ c (by omega), e _ d (by omega)]
theorem parse_four (a b c d : UInt8) : parseA (dotsB a.toNat b.toNat c.toNat d.toNat) = some (false, List.replicate 12 0 ++ [a, b, c, d]) := by
  have ha := a.toNat_lt
  have hb := b.toNat_lt
  have hc := c.toNat_lt
  have hd := d.toNat_lt
  unfold parseA
  rw [four_dots _ _ _ _ (by omega) (by omega) (by omega) (by omega), if_pos (by omega), Int.toNat_natCast, v4_bytes]
theorem dots_58 (a b c d : Nat) : (58 : UInt8) ∉ dotsB a b c d := join_no 58 46 (by decide) _ (fun x hx => by
  simp only [List.mem_cons, List.not_mem_nil, or_false] at hx
  rcases hx with rfl | rfl | rfl | rfl <;> exact digs_58 10 _ (by omega) (by omega))
theorem cut_mapped (a b c d : Nat) : cutL 58 (FFFF ++ dotsB a b c d) = [[], [], [102, 102, 102, 102], dotsB a b c d] := by
  have h := cut_none 58 _ (dots_58 a b c d)
  have h1 := cut_app 58 (dotsB a b c d) [102, 102, 102, 102] (by decide)
  have h2 := cut_app 58 ([102, 102, 102, 102] ++ 58 :: dotsB a b c d) [] (by decide)
  have h3 := cut_app 58 (58 :: ([102, 102, 102, 102] ++ 58 :: dotsB a b c d)) [] (by decide)
  rw [show FFFF ++ dotsB a b c d = [] ++ 58 :: ([] ++ 58 :: ([102, 102, 102, 102] ++ 58 :: dotsB a b c d)) from rfl]
  rw [cut_app 58 _ [] (by decide), cut_app 58 _ [] (by decide), h1, h]
theorem four_mapped (a b c d : Nat) : four (FFFF ++ dotsB a b c d) = -1 := by
  have e : FFFF ++ dotsB a b c d = joinL 46 [FFFF ++ digs 10 a, digs 10 b, digs 10 c, digs 10 d] := by simp [dotsB, joinL]
  have hcut : cutL 46 (FFFF ++ dotsB a b c d) = [FFFF ++ digs 10 a, digs 10 b, digs 10 c, digs 10 d] := by
    rw [e]
    refine cut_join 46 _ (by simp) (fun x hx => ?_)
    simp only [List.mem_cons, List.not_mem_nil, or_false] at hx
    rcases hx with rfl | rfl | rfl | rfl
    · simp only [List.mem_append, not_or]
      exact ⟨by decide, digs_46 10 _ (by omega) (by omega)⟩
    all_goals exact digs_46 10 _ (by omega) (by omega)
  have hno : okFour (FFFF ++ digs 10 a) = false := by
    have h1 : num 10 (FFFF ++ digs 10 a) = -1 := by
      unfold num isNum FFFF
      rw [if_neg (by simp [dig])]
    unfold okFour
    rw [h1]
    rfl
  unfold four
  rw [hcut]
  simp [hno]
theorem parse_mapped (a b c d : UInt8) : parseA (FFFF ++ dotsB a.toNat b.toNat c.toNat d.toNat) = some (true, List.replicate 10 0 ++ [255, 255] ++ [a, b, c, d]) := by
  have ha := a.toNat_lt
  have hb := b.toNat_lt
  have hc := c.toNat_lt
  have hd := d.toNat_lt
  have hv := four_dots a.toNat b.toNat c.toNat d.toNat (by omega) (by omega) (by omega) (by omega)
  have hne : dotsB a.toNat b.toNat c.toNat d.toNat ≠ [] := fun e => by
    have := digs_ne 10 a.toNat (by omega) (by omega)
    simp [dotsB, joinL] at e
  have hn : num 16 [102, 102, 102, 102] = 65535 := by decide
  have hf : four [102, 102, 102, 102] = -1 := by decide
  have hg : grp (cutL 58 (FFFF ++ dotsB a.toNat b.toNat c.toNat d.toNat)) = some [-1, 65535, ((a.toNat * 256 + b.toNat : Nat) : Int), ((c.toNat * 256 + d.toNat : Nat) : Int)] := by
    rw [cut_mapped]
    generalize hD : dotsB a.toNat b.toNat c.toNat d.toNat = D at hv hne
    have g1 : grpTo [[], [], [102, 102, 102, 102], D] 1 = some ([], false) := grp_edge _ 0 [] false rfl rfl (by simp) (.inl ⟨rfl, rfl⟩)
    have g2 : grpTo [[], [], [102, 102, 102, 102], D] 2 = some ([-1], true) := grp_gap _ 1 [] g1 rfl (by decide) (by simp)
    have g3 : grpTo [[], [], [102, 102, 102, 102], D] 3 = some ([-1, 65535], true) := by
      rw [grpTo, g2]
      simp [hn, hf]
    have g4 : grpTo [[], [], [102, 102, 102, 102], D] 4 = some ([-1, 65535, ((a.toNat * 256 + b.toNat : Nat) : Int), ((c.toNat * 256 + d.toNat : Nat) : Int)], true) := by
      rw [grpTo, g3]
      have e0 : ([[], [], [102, 102, 102, 102], D] : List (List UInt8)).getD 3 [] = D := rfl
      simp only [e0, hne, hv, if_false]
      rw [if_pos ⟨by omega, rfl⟩]
      simp only [List.cons_append, List.nil_append]
      have e1 : (((((a.toNat * 256 + b.toNat) * 256 + c.toNat) * 256 + d.toNat : Nat) : Int) / 65536) = ((a.toNat * 256 + b.toNat : Nat) : Int) := by omega
      have e2 : (((((a.toNat * 256 + b.toNat) * 256 + c.toNat) * 256 + d.toNat : Nat) : Int) % 65536) = ((c.toNat * 256 + d.toNat : Nat) : Int) := by omega
      rw [e1, e2]
    unfold grp
    rw [show ([[], [], [102, 102, 102, 102], D] : List (List UInt8)).length = 4 from rfl, g4]
    rfl
  unfold parseA
  rw [four_mapped, if_neg (by decide), hg]
  have hl : (cutL 58 (FFFF ++ dotsB a.toNat b.toNat c.toNat d.toNat)).length = 4 := by rw [cut_mapped]; rfl
  have hcn : cntG [-1, 65535, ((a.toNat * 256 + b.toNat : Nat) : Int), ((c.toNat * 256 + d.toNat : Nat) : Int)] = 3 := by
    unfold cntG
    have e1 : decide ((0 : Int) ≤ ((a.toNat * 256 + b.toNat : Nat) : Int)) = true := decide_eq_true (by omega)
    have e2 : decide ((0 : Int) ≤ ((c.toNat * 256 + d.toNat : Nat) : Int)) = true := decide_eq_true (by omega)
    simp only [List.filter_cons, e1, e2]
    rfl
  have hgp : gapG [-1, 65535, ((a.toNat * 256 + b.toNat : Nat) : Int), ((c.toNat * 256 + d.toNat : Nat) : Int)] = true := rfl
  simp only [hl, hcn, hgp]
  rw [if_neg (by simp)]
  congr 2
  unfold fillG
  simp only [List.flatMap_cons, List.flatMap_nil]
  rw [if_pos (by decide), if_neg (by decide), if_neg (by omega), if_neg (by omega)]
  have f1 : b8 (((a.toNat * 256 + b.toNat : Nat) : Int) / 256).toNat = a := by
    rw [show (((a.toNat * 256 + b.toNat : Nat) : Int) / 256).toNat = (a.toNat * 256 + b.toNat) / 256 from by omega]; exact b8_hi a b
  have f2 : b8 (((a.toNat * 256 + b.toNat : Nat) : Int) % 256).toNat = b := by
    rw [show (((a.toNat * 256 + b.toNat : Nat) : Int) % 256).toNat = (a.toNat * 256 + b.toNat) % 256 from by omega]; exact b8_lo a b
  have f3 : b8 (((c.toNat * 256 + d.toNat : Nat) : Int) / 256).toNat = c := by
    rw [show (((c.toNat * 256 + d.toNat : Nat) : Int) / 256).toNat = (c.toNat * 256 + d.toNat) / 256 from by omega]; exact b8_hi c d
  have f4 : b8 (((c.toNat * 256 + d.toNat : Nat) : Int) % 256).toNat = d := by
    rw [show (((c.toNat * 256 + d.toNat : Nat) : Int) % 256).toNat = (c.toNat * 256 + d.toNat) % 256 from by omega]; exact b8_lo c d
  rw [f1, f2, f3, f4]
  rfl
def mappedB (B : List UInt8) : Bool := decide (B.take 12 = List.replicate 10 0 ++ [255, 255])
def lastB (B : List UInt8) : List UInt8 := dotsB (B.getD 12 0).toNat (B.getD 13 0).toNat (B.getD 14 0).toNat (B.getD 15 0).toNat
def mayB (v6 : Bool) (B : List UInt8) : Bool := v6 || decide (B.take 12 = List.replicate 12 0)
/-- One in short. -/
def printA (v6 : Bool) (B : List UInt8) : List UInt8 :=
  if v6 = false then lastB B else if mappedB B then FFFF ++ lastB B else shortB (toG B) (best (toG B)).1 (best (toG B)).2
theorem last4 (B : List UInt8) (h : B.length = 16) : B = B.take 12 ++ [B.getD 12 0, B.getD 13 0, B.getD 14 0, B.getD 15 0] := by
  conv => lhs; rw [← List.take_append_drop 12 B]
  congr 1
  apply List.ext_getElem
  · simp; omega
  · intro j h1 h2
    have hj : j < 4 := by simpa using h2
    rw [List.getElem_drop]
    have hb : 12 + j < B.length := by omega
    have : j = 0 ∨ j = 1 ∨ j = 2 ∨ j = 3 := by omega
    rcases this with rfl | rfl | rfl | rfl <;> simp [List.getD_eq_getElem?_getD, h]
/-- Parse of Print is the address. -/
theorem print_back (v6 : Bool) (B : List UInt8) (h : B.length = 16) (hm : mayB v6 B = true) : parseA (printA v6 B) = some (v6, B) := by
  unfold printA
  cases v6
  · rw [if_pos rfl]
    unfold lastB
    rw [parse_four]
    have hm2 : B.take 12 = List.replicate 12 0 := by
      unfold mayB at hm
      rw [Bool.false_or] at hm
      exact of_decide_eq_true hm
    rw [← hm2, ← last4 B h]
  · rw [if_neg (by simp)]
    by_cases hmp : mappedB B = true
    · rw [if_pos hmp]
      unfold lastB
      rw [parse_mapped]
      unfold mappedB at hmp
      rw [← of_decide_eq_true hmp, ← last4 B h]
    · rw [if_neg hmp, parse_short (toG B) (by rw [toG_len, h]) (fun x hx => toG_lt B x hx) (best (toG B)).1 (best (toG B)).2 (best_run (toG B)), bytes_toG B (by omega)]

end Go.Proofs.Ytocdjgehjiolhaa
