
/- Bodies in chunks, as the program goes and as the reference goes: plain mathematics for layer 10 (no program in it). -/
import Derived.Test.YtlgfepaicgnkpaaDoorChMath
namespace Go.Proofs.YtlgfepaicgnkpaaDoor
set_option linter.unusedVariables false
set_option linter.unusedSimpArgs false

/-! A size's line. -/
/-- A line's digits d: what it says. -/
structure DigsC (s d : List UInt8) : Prop where
  cut : (Lib.cut s [59]).1 = d
  le : d.length ≤ s.length
  find : findU [59] s = d.length
  size : szC s = if 256 < s.length ∨ (13 : UInt8) ∈ s ∨ d.length < 1 ∨ 8 < d.length ∨ d.all isHx = false then -1 else (valC d : Int)
  take : s.take d.length = d
theorem digs_of (s : List UInt8) : ∃ d, DigsC s d := by
  rcases first_dec 59 s with hno | ⟨a, x, rfl, hno⟩
  · have hf := find_miss 59 s hno
    refine ⟨s, by rw [cut_no 59 s hno], Nat.le_refl _, hf, ?_, List.take_length⟩
    unfold szC
    rw [hf, List.take_length]
  · have hf := find_byte 59 a x hno
    refine ⟨a, by rw [cut_at 59 a x hno], by simp, hf, ?_, List.take_left⟩
    unfold szC
    rw [hf, List.take_left]
/-- What the program's Size tells: it refuses a line feed, too. -/
def szP (s : List UInt8) : Int := if (10 : UInt8) ∈ s then -1 else szC s
theorem szP_eq (s : List UInt8) (h : (10 : UInt8) ∉ s) : szP s = szC s := by unfold szP; rw [if_neg h]
theorem hxv_lt : ∀ n : Fin 256, isHx (UInt8.ofNat n.val) = true → hxv (UInt8.ofNat n.val) < 16 := by decide +kernel
theorem hxv16 (c : UInt8) (h : isHx c = true) : hxv c < 16 := by
  have := hxv_lt ⟨c.toNat, c.toNat_lt⟩
  simp only [UInt8.ofNat_toNat] at this
  exact this h
theorem valA_lt : ∀ (l : List UInt8) (acc : Nat), l.all isHx = true → l.foldl (fun n c => n * 16 + hxv c) acc < (acc + 1) * 16 ^ l.length
  | [], acc, _ => by simp
  | c :: r, acc, h => by
    rw [List.all_cons, Bool.and_eq_true] at h
    have h1 := valA_lt r (acc * 16 + hxv c) h.2
    have h2 := hxv16 c h.1
    rw [List.foldl_cons, List.length_cons]
    refine Nat.lt_of_lt_of_le h1 ?_
    rw [Nat.pow_succ, Nat.mul_comm (16 ^ r.length) 16, ← Nat.mul_assoc]
    exact Nat.mul_le_mul_right _ (by omega)
theorem val_lt (l : List UInt8) (h : l.all isHx = true) : valC l < 16 ^ l.length := by
  have := valA_lt l 0 h
  rw [Nat.zero_add, Nat.one_mul] at this
  exact this
theorem val_small (l : List UInt8) (h : l.all isHx = true) (hl : l.length ≤ 8) : valC l < 4294967296 := by
  have h1 := val_lt l h
  have h2 : 16 ^ l.length ≤ 16 ^ 8 := Nat.pow_le_pow_right (by decide) hl
  omega
theorem szC_small (s : List UInt8) : szC s < 4294967296 := by
  obtain ⟨d, hd⟩ := digs_of s
  rw [hd.size]
  by_cases h : 256 < s.length ∨ (13 : UInt8) ∈ s ∨ d.length < 1 ∨ 8 < d.length ∨ d.all isHx = false
  · rw [if_pos h]; omega
  · rw [if_neg h]
    have ha : d.all isHx = true := by
      cases hh : d.all isHx with
      | true => rfl
      | false => exact absurd (.inr (.inr (.inr (.inr hh)))) h
    have := val_small d ha (by
      rcases Nat.lt_or_ge 8 d.length with h8 | h8
      · exact absurd (.inr (.inr (.inr (.inl h8)))) h
      · exact h8)
    omega

/-! One step. -/
/-- What stands behind a chunk. -/
def chkC (t : List UInt8) (S : Nat) : Int :=
  if t.length ≤ S then 10 else if t.getD S 0 ≠ 13 then 5 else if t.length ≤ S + 1 then 10 else if t.getD (S + 1) 0 ≠ 10 then 5 else 0
def stepC (f : Nat) (t : List UInt8) (S at1 : Nat) (body : List UInt8) : List UInt8 × Nat × Int :=
  if S = 0 then (if (parseH t).2.2 ≠ 0 then ([], 0, (parseH t).2.2) else (body, at1 + (parseH t).2.1, 0))
  else if 32768 < body.length + S then ([], 0, 3)
  else if chkC t S ≠ 0 then ([], 0, chkC t S)
  else decC f (t.drop (S + 2)) (at1 + (S + 2)) (body ++ t.take S)
theorem dec_step (f : Nat) (s t : List UInt8) (at0 : Nat) (body : List UInt8) (h10 : (10 : UInt8) ∉ s) (hs : s.length ≤ 256) (h0 : 0 ≤ szC s) : decC (f + 1) (s ++ 13 :: 10 :: t) at0 body = stepC f t (szC s).toNat (at0 + (s.length + 2)) body := by
  rw [dec_line f s t at0 body h10 hs]
  obtain ⟨S, hS⟩ : ∃ S : Nat, szC s = (S : Int) := ⟨(szC s).toNat, by omega⟩
  rw [hS, Int.toNat_natCast]
  unfold stepC chkC
  rw [if_neg (by omega)]
  by_cases hz : S = 0
  · subst hz
    rw [if_pos (by rfl), if_pos rfl]
  · rw [if_neg (by omega), if_neg hz]
    by_cases hb : 32768 < body.length + S
    · rw [if_pos (by omega), if_pos hb]
    · rw [if_neg (by omega), if_neg hb]
      by_cases h1 : t.length ≤ S
      · simp only [if_pos h1]
        rfl
      · simp only [if_neg h1]
        by_cases h2 : t.getD S 0 ≠ 13
        · simp only [if_pos h2]
          rfl
        · simp only [if_neg h2]
          by_cases h3 : t.length ≤ S + 1
          · simp only [if_pos h3]
            rfl
          · simp only [if_neg h3]
            by_cases h4 : t.getD (S + 1) 0 ≠ 10
            · simp only [if_pos h4]
              rfl
            · simp only [if_neg h4]
              rfl
theorem dec_neg (f : Nat) (s t : List UInt8) (at0 : Nat) (body : List UInt8) (h10 : (10 : UInt8) ∉ s) (hs : s.length ≤ 256) (h0 : szC s < 0) : decC (f + 1) (s ++ 13 :: 10 :: t) at0 body = ([], 0, 5) := by
  rw [dec_line f s t at0 body h10 hs, if_pos h0]
theorem dec_far (f : Nat) (r : List UInt8) (at0 : Nat) (body : List UInt8) (h : (10 : UInt8) ∉ r.take 258) (hl : 258 ≤ r.length) : decC (f + 1) r at0 body = ([], 0, 5) := by
  have hf : 258 ≤ findU [10] r := by
    have e := find_skip [10] (r.take 258) (r.drop 258) (fun d hd => by
      have : d ≠ 10 := fun e => h (e ▸ hd)
      simpa using this)
    rw [List.take_append_drop, List.length_take] at e
    omega
  conv => lhs; unfold decC
  rw [if_neg (by omega), if_pos (.inl hf)]
theorem dec_bad (f : Nat) (a t : List UInt8) (at0 : Nat) (body : List UInt8) (h : (10 : UInt8) ∉ a) (hl : a.length < 258) (hc : a.getLastD 0 ≠ 13) : decC (f + 1) (a ++ 10 :: t) at0 body = ([], 0, 5) := by
  have hf := find_byte 10 a t h
  conv => lhs; unfold decC
  rw [hf, if_neg (by simp), if_pos]
  rcases List.eq_nil_or_concat a with rfl | ⟨y, z, rfl⟩
  · exact .inr (.inl rfl)
  · refine .inr (.inr ?_)
    rw [List.concat_eq_append] at hc ⊢
    have e1 : (y ++ [z]).getLastD 0 = z := by rw [List.getLastD_eq_getLast?, List.getLast?_append]; rfl
    rw [e1] at hc
    rw [List.append_assoc, List.length_append, List.length_singleton, Nat.add_sub_cancel]
    rw [show y ++ ([z] ++ 10 :: t) = y ++ z :: (10 :: t) from rfl, getD_at]
    exact hc
/-- What a line tells: how many bytes, how long it is, or why it is none. -/
structure LineC (r : List UInt8) (S N : Nat) (E : Int) : Prop where
  none : E ≠ 0 → S = 0 ∧ N = 0 ∧ ∀ f at0 body, decC (f + 1) r at0 body = ([], 0, E)
  some : E = 0 → 0 < N ∧ N ≤ r.length ∧ S < 4294967296 ∧ ∀ f at0 body, decC (f + 1) r at0 body = stepC f (r.drop N) S (at0 + N) body
theorem LineC.bad {r : List UInt8} {E : Int} (h0 : E ≠ 0) (h : ∀ f at0 body, decC (f + 1) r at0 body = ([], 0, E)) : LineC r 0 0 E := ⟨fun _ => ⟨rfl, rfl, h⟩, fun h => absurd h h0⟩
theorem line_short (r : List UInt8) (h : (10 : UInt8) ∉ r.take 258) : LineC r 0 0 (if r.length < 258 then 10 else 5) := by
  by_cases hl : r.length < 258
  · rw [if_pos hl]
    rw [List.take_of_length_le (by omega)] at h
    exact .bad (by decide) (fun f at0 body => dec_short f r at0 body h hl)
  · rw [if_neg hl]
    exact .bad (by decide) (fun f at0 body => dec_far f r at0 body h (by omega))
theorem line_bad (a t : List UInt8) (h : (10 : UInt8) ∉ a) (hl : a.length < 258) (hc : a.getLastD 0 ≠ 13) : LineC (a ++ 10 :: t) 0 0 5 := .bad (by decide) (fun f at0 body => dec_bad f a t at0 body h hl hc)
theorem line_neg (s t : List UInt8) (h : (10 : UInt8) ∉ s) (hl : s.length ≤ 256) (hz : szC s < 0) : LineC (s ++ 13 :: 10 :: t) 0 0 5 := .bad (by decide) (fun f at0 body => dec_neg f s t at0 body h hl hz)
theorem line_at (s t : List UInt8) (h : (10 : UInt8) ∉ s) (hl : s.length ≤ 256) (hz : 0 ≤ szC s) : LineC (s ++ 13 :: 10 :: t) (szC s).toNat (s.length + 2) 0 := by
  refine ⟨fun h => absurd rfl h, fun _ => ⟨by omega, by simp, by have := szC_small s; omega, fun f at0 body => ?_⟩⟩
  rw [dec_step f s t at0 body h hl hz]
  congr 1
  rw [← List.drop_drop, List.drop_left]
  rfl
theorem line_dec (r : List UInt8) : (10 : UInt8) ∉ r.take 258 ∨ ∃ a x t, r.take 258 = a ++ 10 :: x ∧ r = a ++ 10 :: t ∧ (10 : UInt8) ∉ a ∧ a.length < 258 := by
  rcases first_dec 10 (r.take 258) with h | ⟨a, x, e, h⟩
  · exact .inl h
  · refine .inr ⟨a, x, x ++ r.drop 258, e, ?_, h, ?_⟩
    · rw [show a ++ 10 :: (x ++ r.drop 258) = (a ++ 10 :: x) ++ r.drop 258 from by simp, ← e, List.take_append_drop]
    · have := congrArg List.length e
      rw [List.length_take, List.length_append, List.length_cons] at this
      omega
theorem chk_ok (t : List UInt8) (S : Nat) (h : chkC t S = 0) : S + 2 ≤ t.length := by
  unfold chkC at h
  by_cases h1 : t.length ≤ S
  · rw [if_pos h1] at h; cases h
  · rw [if_neg h1] at h
    by_cases h2 : t.getD S 0 ≠ 13
    · rw [if_pos h2] at h; cases h
    · rw [if_neg h2] at h
      by_cases h3 : t.length ≤ S + 1
      · rw [if_pos h3] at h; cases h
      · omega
/-! The whole, from the bytes that are left. -/
def LeadsC (b : List UInt8) (k : Nat) (body : List UInt8) : Prop := ∃ f, b.length - k < f ∧ decC f (b.drop k) k body = decodeC b
theorem leadsC_zero (b : List UInt8) : LeadsC b 0 [] := ⟨b.length + 1, by omega, rfl⟩
theorem LeadsC.pos {b : List UInt8} {k : Nat} {body : List UInt8} (h : LeadsC b k body) : ∃ f, b.length - k < f + 1 ∧ decC (f + 1) (b.drop k) k body = decodeC b := by
  obtain ⟨f, h1, h2⟩ := h
  match f, h1, h2 with
  | 0, h1, _ => omega
  | f + 1, h1, h2 => exact ⟨f, h1, h2⟩
theorem LeadsC.none {b : List UInt8} {k : Nat} {body : List UInt8} {S N : Nat} {E : Int} (h : LeadsC b k body) (hl : LineC (b.drop k) S N E) (he : E ≠ 0) : decodeC b = ([], 0, E) := by
  obtain ⟨f, h1, h2⟩ := h.pos
  rw [← h2, (hl.none he).2.2]
theorem LeadsC.step {b : List UInt8} {k : Nat} {body : List UInt8} {S N : Nat} (h : LeadsC b k body) (hl : LineC (b.drop k) S N 0) : ∃ f, b.length - k < f + 1 ∧ decodeC b = stepC f (b.drop (k + N)) S (k + N) body := by
  obtain ⟨f, h1, h2⟩ := h.pos
  refine ⟨f, h1, ?_⟩
  rw [← h2, (hl.some rfl).2.2.2, List.drop_drop]
theorem LeadsC.end {b : List UInt8} {k : Nat} {body : List UInt8} {N : Nat} (h : LeadsC b k body) (hl : LineC (b.drop k) 0 N 0) : decodeC b = if (parseH (b.drop (k + N))).2.2 ≠ 0 then ([], 0, (parseH (b.drop (k + N))).2.2) else (body, k + N + (parseH (b.drop (k + N))).2.1, 0) := by
  obtain ⟨f, h1, h2⟩ := h.step hl
  rw [h2]
  unfold stepC
  rw [if_pos rfl]
theorem LeadsC.long {b : List UInt8} {k : Nat} {body : List UInt8} {S N : Nat} (h : LeadsC b k body) (hl : LineC (b.drop k) S N 0) (hS : S ≠ 0) (hb : 32768 < body.length + S) : decodeC b = ([], 0, 3) := by
  obtain ⟨f, h1, h2⟩ := h.step hl
  rw [h2]
  unfold stepC
  rw [if_neg hS, if_pos hb]
theorem LeadsC.chk {b : List UInt8} {k : Nat} {body : List UInt8} {S N : Nat} (h : LeadsC b k body) (hl : LineC (b.drop k) S N 0) (hS : S ≠ 0) (hb : ¬ 32768 < body.length + S) (hc : chkC (b.drop (k + N)) S ≠ 0) : decodeC b = ([], 0, chkC (b.drop (k + N)) S) := by
  obtain ⟨f, h1, h2⟩ := h.step hl
  rw [h2]
  unfold stepC
  rw [if_neg hS, if_neg hb, if_pos hc]
theorem LeadsC.on {b : List UInt8} {k : Nat} {body : List UInt8} {S N : Nat} (h : LeadsC b k body) (hl : LineC (b.drop k) S N 0) (hS : S ≠ 0) (hb : ¬ 32768 < body.length + S) (hc : chkC (b.drop (k + N)) S = 0) : k + N + (S + 2) ≤ b.length ∧ LeadsC b (k + N + (S + 2)) (body ++ (b.drop (k + N)).take S) := by
  obtain ⟨f, h1, h2⟩ := h.step hl
  have h3 := chk_ok _ _ hc
  rw [List.length_drop] at h3
  have h4 := (hl.some rfl).1
  refine ⟨by omega, f, by omega, ?_⟩
  rw [h2]
  unfold stepC
  rw [if_neg hS, if_neg hb, if_neg (by simpa using hc), List.drop_drop]
/-- The end behind a chunk, as the program looks at it. -/
theorem chk_prog (t : List UInt8) (S : Nat) (h : S ≤ t.length) : chkC t S = if ((t.drop S).take 2).isPrefixOf [13, 10] then (if ((t.drop S).take 2).length < 2 then 10 else 0) else 5 := by
  have hl : t.length = S + (t.drop S).length := by rw [List.length_drop]; omega
  have hg : ∀ j, t.getD (S + j) 0 = (t.drop S).getD j 0 := fun j => by simp [List.getD_eq_getElem?_getD]
  have hg0 := hg 0
  have hg1 := hg 1
  rw [Nat.add_zero] at hg0
  unfold chkC
  rw [hl, hg0, hg1]
  generalize t.drop S = r
  rcases r with _ | ⟨c, _ | ⟨d, r⟩⟩
  · simp
  · by_cases hc : c = 13
    · subst hc; simp
    · simp [hc]
  · by_cases hc : c = 13
    · by_cases hd : d = 10
      · subst hc hd; simp
      · subst hc; simp [hd]
    · simp [hc]
/-! How long what is put together is. -/
theorem one_len (p : List UInt8) (h : p.length < 4294967296) : (oneC p).length ≤ 13 * p.length := by
  unfold oneC
  by_cases hp : p = []
  · rw [if_pos hp]; simp
  · rw [if_neg hp]
    have h1 := (hexC_ok p.length h).2.2.2
    have h2 : 0 < p.length := List.length_pos_iff.2 hp
    simp only [List.length_append, List.length_cons, List.length_nil]
    omega
theorem ones_len : ∀ l : List (List UInt8), l.flatten.length ≤ 32768 → (l.flatMap oneC).length ≤ 13 * l.flatten.length
  | [], _ => by simp
  | p :: l, h => by
    rw [List.flatten_cons, List.length_append] at h
    have h1 := one_len p (by omega)
    have h2 := ones_len l (by omega)
    rw [List.flatMap_cons, List.flatten_cons, List.length_append, List.length_append]
    omega
theorem enc_len (l : List (List UInt8)) (h : l.flatten.length ≤ 32768) : (encC l).length ≤ 500000 := by
  have := ones_len l h
  unfold encC endC
  rw [List.length_append]
  simp only [List.length_cons, List.length_nil]
  omega
theorem enc_pos (l : List (List UInt8)) : 5 ≤ (encC l).length := by
  unfold encC endC
  rw [List.length_append]
  simp only [List.length_cons, List.length_nil]
  omega
theorem hex_small (n : Nat) (h : n < 16) : hexC n = [digC n] := by
  unfold hexC
  rw [hexF, if_pos h]
theorem hex_great (n : Nat) (h : ¬ n < 16) (hn : n < 4294967296) : hexC n = hexC (n / 16) ++ hexC (n % 16) := by
  rw [hex_small (n % 16) (Nat.mod_lt _ (by decide))]
  unfold hexC
  rw [show hexF 16 n = hexF 15 (n / 16) ++ [digC (n % 16)] from by rw [hexF, if_neg h], ← hexF_more 15 (n / 16) (by omega) (by decide)]
end Go.Proofs.YtlgfepaicgnkpaaDoor
