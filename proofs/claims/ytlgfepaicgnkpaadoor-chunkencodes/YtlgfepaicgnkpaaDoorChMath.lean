
/- Bodies in chunks, put together and read back: plain mathematics for layer 10 (no program in it). -/
import Derived.Test.YtlgfepaicgnkpaaDoorHdBook
namespace Go.Proofs.YtlgfepaicgnkpaaDoor
set_option linter.unusedVariables false
set_option linter.unusedSimpArgs false

/-! Numbers in hexadecimal digits. -/
def digC (n : Nat) : UInt8 := UInt8.ofNat (if n < 10 then 48 + n else 87 + n)
def isHx (c : UInt8) : Bool := decide (48 ≤ c.toNat ∧ c.toNat ≤ 57) || decide (97 ≤ c.toNat ∧ c.toNat ≤ 102) || decide (65 ≤ c.toNat ∧ c.toNat ≤ 70)
def hxv (c : UInt8) : Nat := if 48 ≤ c.toNat ∧ c.toNat ≤ 57 then c.toNat - 48 else if 97 ≤ c.toNat ∧ c.toNat ≤ 102 then c.toNat - 97 + 10 else c.toNat - 65 + 10
def hexF : Nat → Nat → List UInt8
  | 0, _ => []
  | f + 1, n => if n < 16 then [digC n] else hexF f (n / 16) ++ [digC (n % 16)]
def hexC (n : Nat) : List UInt8 := hexF 16 n
def valC (l : List UInt8) : Nat := l.foldl (fun n c => n * 16 + hxv c) 0
theorem val_snoc (l : List UInt8) (c : UInt8) : valC (l ++ [c]) = valC l * 16 + hxv c := by simp [valC]
theorem dig_fin : ∀ n : Fin 16, isHx (digC n.val) = true ∧ hxv (digC n.val) = n.val ∧ digC n.val ≠ 10 ∧ digC n.val ≠ 13 ∧ digC n.val ≠ 59 := by decide +kernel
theorem dig_ok (n : Nat) (h : n < 16) : isHx (digC n) = true ∧ hxv (digC n) = n ∧ digC n ≠ 10 ∧ digC n ≠ 13 ∧ digC n ≠ 59 := dig_fin ⟨n, h⟩
theorem hexF_ok : ∀ (f n : Nat), n < 16 ^ (f + 1) → valC (hexF (f + 1) n) = n ∧ (∀ c ∈ hexF (f + 1) n, isHx c = true ∧ c ≠ 10 ∧ c ≠ 13 ∧ c ≠ 59) ∧ 0 < (hexF (f + 1) n).length ∧ (hexF (f + 1) n).length ≤ f + 1
  | 0, n, h => by
    have hn : n < 16 := by simpa using h
    have hd := dig_ok n hn
    unfold hexF
    rw [if_pos hn]
    refine ⟨by simp [valC, hd.2.1], fun c hc => ?_, by simp, by simp⟩
    rw [List.mem_singleton] at hc
    subst hc
    exact ⟨hd.1, hd.2.2⟩
  | f + 1, n, h => by
    unfold hexF
    by_cases hn : n < 16
    · have hd := dig_ok n hn
      rw [if_pos hn]
      refine ⟨by simp [valC, hd.2.1], fun c hc => ?_, by simp, by simp⟩
      rw [List.mem_singleton] at hc
      subst hc
      exact ⟨hd.1, hd.2.2⟩
    · rw [if_neg hn]
      have hq : n / 16 < 16 ^ (f + 1) := by
        rw [Nat.div_lt_iff_lt_mul (by decide)]
        rw [Nat.pow_succ] at h
        exact h
      obtain ⟨h1, h2, h3, h4⟩ := hexF_ok f (n / 16) hq
      have hd := dig_ok (n % 16) (Nat.mod_lt _ (by decide))
      refine ⟨?_, fun c hc => ?_, by simp, by simp; omega⟩
      · rw [val_snoc, h1, hd.2.1]; omega
      · rw [List.mem_append, List.mem_singleton] at hc
        rcases hc with hc | rfl
        · exact h2 c hc
        · exact ⟨hd.1, hd.2.2⟩
theorem hexF_more : ∀ (f n : Nat), n < 16 ^ f → 0 < f → hexF (f + 1) n = hexF f n
  | 0, n, _, h => by omega
  | 1, n, h, _ => by
    have hn : n < 16 := by simpa using h
    unfold hexF
    rw [if_pos hn, if_pos hn]
  | f + 2, n, h, _ => by
    by_cases hn : n < 16
    · unfold hexF
      rw [if_pos hn, if_pos hn]
    · rw [show hexF (f + 2 + 1) n = hexF (f + 2) (n / 16) ++ [digC (n % 16)] from by rw [hexF, if_neg hn]]
      rw [show hexF (f + 2) n = hexF (f + 1) (n / 16) ++ [digC (n % 16)] from by rw [hexF, if_neg hn]]
      rw [hexF_more (f + 1) (n / 16) (by
        rw [Nat.div_lt_iff_lt_mul (by decide)]
        rw [Nat.pow_succ] at h
        exact h) (by omega)]
theorem hexF_cut : ∀ (k f n : Nat), n < 16 ^ f → 0 < f → hexF (f + k) n = hexF f n
  | 0, f, n, _, _ => rfl
  | k + 1, f, n, h, h0 => by
    rw [show f + (k + 1) = (f + k) + 1 from by omega, hexF_more (f + k) n (Nat.lt_of_lt_of_le h (Nat.pow_le_pow_right (by decide) (by omega))) (by omega), hexF_cut k f n h h0]
theorem hexC_ok (n : Nat) (h : n < 4294967296) : valC (hexC n) = n ∧ (∀ c ∈ hexC n, isHx c = true ∧ c ≠ 10 ∧ c ≠ 13 ∧ c ≠ 59) ∧ 0 < (hexC n).length ∧ (hexC n).length ≤ 8 := by
  have e : hexC n = hexF 8 n := hexF_cut 8 8 n h (by decide)
  rw [e]
  exact hexF_ok 7 n h
/-- How many bytes a line says there are; -1: it is none. -/
def szC (s : List UInt8) : Int := if 256 < s.length ∨ (13 : UInt8) ∈ s ∨ findU [59] s < 1 ∨ 8 < findU [59] s ∨ (s.take (findU [59] s)).all isHx = false then -1 else (valC (s.take (findU [59] s)) : Int)
theorem sz_hex (n : Nat) (h : n < 4294967296) : szC (hexC n) = n := by
  obtain ⟨h1, h2, h3, h4⟩ := hexC_ok n h
  have hf : findU [59] (hexC n) = (hexC n).length := find_miss 59 _ (fun hc => (h2 59 hc).2.2.2 rfl)
  unfold szC
  rw [hf, List.take_length, h1]
  rw [if_neg]
  rintro (h5 | h5 | h5 | h5 | h5)
  · omega
  · exact (h2 13 h5).2.2.1 rfl
  · omega
  · omega
  · rw [List.all_eq_true.2 (fun c hc => (h2 c hc).1)] at h5
    cases h5
/-! Put together. -/
def oneC (p : List UInt8) : List UInt8 := if p = [] then [] else hexC p.length ++ [13, 10] ++ p ++ [13, 10]
def endC : List UInt8 := [48, 13, 10, 13, 10]
def encC (l : List (List UInt8)) : List UInt8 := l.flatMap oneC ++ endC
theorem enc_cons (p : List UInt8) (l : List (List UInt8)) : encC (p :: l) = oneC p ++ encC l := by simp [encC]
/-! Read. -/
/-- The rest r of the bytes, 'at' of them behind, the body so far. -/
def decC : Nat → List UInt8 → Nat → List UInt8 → List UInt8 × Nat × Int
  | 0, _, _, _ => ([], 0, 10)
  | f + 1, r, at0, body =>
    if findU [10] r = r.length ∧ r.length < 258 then ([], 0, 10)
    else if 258 ≤ findU [10] r ∨ findU [10] r = 0 ∨ r.getD (findU [10] r - 1) 0 ≠ 13 then ([], 0, 5)
    else if szC (r.take (findU [10] r - 1)) < 0 then ([], 0, 5)
    else if szC (r.take (findU [10] r - 1)) = 0 then
      (if (parseH (r.drop (findU [10] r + 1))).2.2 ≠ 0 then ([], 0, (parseH (r.drop (findU [10] r + 1))).2.2) else (body, at0 + (findU [10] r + 1) + (parseH (r.drop (findU [10] r + 1))).2.1, 0))
    else if 32768 < (body.length : Int) + szC (r.take (findU [10] r - 1)) then ([], 0, 3)
    else if (r.drop (findU [10] r + 1)).length ≤ (szC (r.take (findU [10] r - 1))).toNat then ([], 0, 10)
    else if (r.drop (findU [10] r + 1)).getD (szC (r.take (findU [10] r - 1))).toNat 0 ≠ 13 then ([], 0, 5)
    else if (r.drop (findU [10] r + 1)).length ≤ (szC (r.take (findU [10] r - 1))).toNat + 1 then ([], 0, 10)
    else if (r.drop (findU [10] r + 1)).getD ((szC (r.take (findU [10] r - 1))).toNat + 1) 0 ≠ 10 then ([], 0, 5)
    else decC f ((r.drop (findU [10] r + 1)).drop ((szC (r.take (findU [10] r - 1))).toNat + 2)) (at0 + (findU [10] r + 1) + ((szC (r.take (findU [10] r - 1))).toNat + 2)) (body ++ (r.drop (findU [10] r + 1)).take (szC (r.take (findU [10] r - 1))).toNat)
def decodeC (b : List UInt8) : List UInt8 × Nat × Int := decC (b.length + 1) b 0 []
/-- A line s, its end, and t behind it: what is left of a step. -/
theorem dec_line (f : Nat) (s t : List UInt8) (at0 : Nat) (body : List UInt8) (h10 : (10 : UInt8) ∉ s) (hs : s.length ≤ 256) : decC (f + 1) (s ++ 13 :: 10 :: t) at0 body =
    if szC s < 0 then ([], 0, 5)
    else if szC s = 0 then (if (parseH t).2.2 ≠ 0 then ([], 0, (parseH t).2.2) else (body, at0 + (s.length + 2) + (parseH t).2.1, 0))
    else if 32768 < (body.length : Int) + szC s then ([], 0, 3)
    else if t.length ≤ (szC s).toNat then ([], 0, 10)
    else if t.getD (szC s).toNat 0 ≠ 13 then ([], 0, 5)
    else if t.length ≤ (szC s).toNat + 1 then ([], 0, 10)
    else if t.getD ((szC s).toNat + 1) 0 ≠ 10 then ([], 0, 5)
    else decC f (t.drop ((szC s).toNat + 2)) (at0 + (s.length + 2) + ((szC s).toNat + 2)) (body ++ t.take (szC s).toNat) := by
  have es : s ++ 13 :: 10 :: t = (s ++ [13]) ++ 10 :: t := by simp
  have hn : (10 : UInt8) ∉ s ++ [13] := by
    rw [List.mem_append, List.mem_singleton]
    rintro (h | h)
    · exact h10 h
    · revert h; decide
  have hf : findU [10] (s ++ 13 :: 10 :: t) = s.length + 1 := by
    rw [es, find_byte 10 _ _ hn]; simp
  have hlen : (s ++ 13 :: 10 :: t).length = s.length + 2 + t.length := by simp; omega
  have hg : (s ++ 13 :: 10 :: t).getD (s.length + 1 - 1) 0 = 13 := by
    rw [Nat.add_sub_cancel, List.getD_eq_getElem?_getD, List.getElem?_append_right (Nat.le_refl _), Nat.sub_self]
    rfl
  have ht : (s ++ 13 :: 10 :: t).take (s.length + 1 - 1) = s := by rw [Nat.add_sub_cancel, List.take_left]
  have hd : (s ++ 13 :: 10 :: t).drop (s.length + 1 + 1) = t := by
    rw [show s.length + 1 + 1 = s.length + 2 from by omega, ← List.drop_drop, List.drop_left]
    rfl
  conv => lhs; unfold decC
  rw [hf, hg, ht, hd, hlen]
  rw [if_neg (by omega), if_neg (by
    rintro (h | h | h)
    · omega
    · omega
    · exact h rfl)]
theorem sz_nought : szC [48] = 0 := by kernel_rfl
theorem chk_nil : checkH [] = 0 := by kernel_rfl
theorem parse_end (more : List UInt8) : parseH (13 :: 10 :: more) = ([], 2, 0) := print_parse [] chk_nil more
theorem parse_e0 : parseH [] = ([], 0, 10) := by kernel_rfl
theorem parse_e1 : parseH [13] = ([], 0, 10) := by kernel_rfl
theorem one_shape (p : List UInt8) (h : p ≠ []) (t : List UInt8) : oneC p ++ t = hexC p.length ++ 13 :: 10 :: (p ++ 13 :: 10 :: t) := by
  unfold oneC
  rw [if_neg h]
  simp
theorem getD_at (p t : List UInt8) (c : UInt8) : (p ++ c :: t).getD p.length 0 = c := by
  rw [List.getD_eq_getElem?_getD, List.getElem?_append_right (Nat.le_refl _), Nat.sub_self]; rfl
theorem getD_at1 (p t : List UInt8) (c d : UInt8) : (p ++ c :: d :: t).getD (p.length + 1) 0 = d := by
  rw [List.getD_eq_getElem?_getD, List.getElem?_append_right (by omega), show p.length + 1 - p.length = 1 from by omega]; rfl
/-- A chunk is read. -/
theorem dec_one (f : Nat) (p t : List UInt8) (at0 : Nat) (body : List UInt8) (h : p ≠ []) (hb : body.length + p.length ≤ 32768) : decC (f + 1) (oneC p ++ t) at0 body = decC f t (at0 + (oneC p).length) (body ++ p) := by
  have hn : p.length < 4294967296 := by omega
  obtain ⟨h1, h2, h3, h4⟩ := hexC_ok p.length hn
  have hsz := sz_hex p.length hn
  have hp : 0 < p.length := List.length_pos_iff.2 h
  have hol : (oneC p).length = (hexC p.length).length + 2 + (p.length + 2) := by
    unfold oneC
    rw [if_neg h]
    simp; omega
  rw [one_shape p h t, dec_line f (hexC p.length) (p ++ 13 :: 10 :: t) at0 body (fun hc => (h2 10 hc).2.1 rfl) (by omega), hsz, Int.toNat_natCast]
  rw [if_neg (by omega), if_neg (by omega), if_neg (by omega), if_neg (by simp), getD_at, if_neg (by simp), if_neg (by simp), getD_at1, if_neg (by simp), List.take_left]
  rw [show (p ++ 13 :: 10 :: t).drop (p.length + 2) = t from by rw [← List.drop_drop, List.drop_left]; rfl, hol]
  rw [show at0 + ((hexC p.length).length + 2) + (p.length + 2) = at0 + ((hexC p.length).length + 2 + (p.length + 2)) from by omega]
theorem dec_end (f : Nat) (more : List UInt8) (at0 : Nat) (body : List UInt8) : decC (f + 1) (endC ++ more) at0 body = (body, at0 + 5, 0) := by
  have e : endC ++ more = [48] ++ 13 :: 10 :: (13 :: 10 :: more) := rfl
  rw [e, dec_line f [48] (13 :: 10 :: more) at0 body (by decide) (by decide), sz_nought, parse_end]
  rw [if_neg (by decide), if_pos rfl, if_neg (by simp)]
  rfl
/-- What is put together is read back, whatever follows. -/
theorem dec_enc : ∀ (l : List (List UInt8)) (f : Nat) (more : List UInt8) (at0 : Nat) (body : List UInt8), (encC l).length < f → body.length + l.flatten.length ≤ 32768 → decC f (encC l ++ more) at0 body = (body ++ l.flatten, at0 + (encC l).length, 0)
  | [], 0, _, _, _, hf, _ => by simp at hf
  | [], f + 1, more, at0, body, _, _ => by
    rw [show encC [] ++ more = endC ++ more from rfl, dec_end, List.flatten_nil, List.append_nil]
    rfl
  | p :: l, f, more, at0, body, hf, hb => by
    rw [enc_cons] at hf ⊢
    rw [List.flatten_cons, List.length_append] at hb
    by_cases h : p = []
    · subst h
      have e : oneC [] = [] := rfl
      rw [e, List.nil_append] at hf ⊢
      rw [dec_enc l f more at0 body hf (by omega), List.flatten_cons, List.nil_append]
    · rw [List.length_append] at hf
      have hol : 0 < (oneC p).length := by
        unfold oneC
        rw [if_neg h]
        simp; omega
      match f, hf with
      | f + 1, hf =>
        rw [List.append_assoc, dec_one f p _ at0 body h (by omega), dec_enc l f more _ _ (by omega) (by rw [List.length_append]; omega), List.flatten_cons, List.append_assoc, List.length_append]
        rw [show at0 + (oneC p).length + (encC l).length = at0 + ((oneC p).length + (encC l).length) from by omega]
theorem decode_enc (l : List (List UInt8)) (h : l.flatten.length ≤ 32768) (more : List UInt8) : decodeC (encC l ++ more) = (l.flatten, (encC l).length, 0) := by
  unfold decodeC
  rw [dec_enc l _ more 0 [] (by rw [List.length_append]; omega) (by simpa using h)]
  simp
/-- No line's end yet. -/
theorem dec_short (f : Nat) (r : List UInt8) (at0 : Nat) (body : List UInt8) (h : (10 : UInt8) ∉ r) (hl : r.length < 258) : decC (f + 1) r at0 body = ([], 0, 10) := by
  conv => lhs; unfold decC
  rw [if_pos ⟨find_miss 10 r h, hl⟩]
theorem end_cut (f k : Nat) (hk : k < 5) (at0 : Nat) (body : List UInt8) : decC (f + 1) (endC.take k) at0 body = ([], 0, 10) := by
  rcases (show k = 0 ∨ k = 1 ∨ k = 2 ∨ k = 3 ∨ k = 4 by omega) with rfl | rfl | rfl | rfl | rfl
  · exact dec_short f _ at0 body (by decide) (by decide)
  · exact dec_short f _ at0 body (by decide) (by decide)
  · exact dec_short f _ at0 body (by decide) (by decide)
  · have e : endC.take 3 = [48] ++ 13 :: 10 :: [] := rfl
    rw [e, dec_line f [48] [] at0 body (by decide) (by decide), sz_nought, parse_e0]
    rfl
  · have e : endC.take 4 = [48] ++ 13 :: 10 :: [13] := rfl
    rw [e, dec_line f [48] [13] at0 body (by decide) (by decide), sz_nought, parse_e1]
    rfl
/-- Of a beginning more is to come. -/
theorem dec_cut : ∀ (l : List (List UInt8)) (f k : Nat) (at0 : Nat) (body : List UInt8), k < f → k < (encC l).length → body.length + l.flatten.length ≤ 32768 → decC f ((encC l).take k) at0 body = ([], 0, 10)
  | [], 0, k, _, _, hf, _, _ => by omega
  | [], f + 1, k, at0, body, _, hk, _ => end_cut f k hk at0 body
  | p :: l, f, k, at0, body, hf, hk, hb => by
    rw [enc_cons] at hk ⊢
    rw [List.flatten_cons, List.length_append] at hb
    by_cases h : p = []
    · subst h
      have e : oneC [] = [] := rfl
      rw [e, List.nil_append] at hk ⊢
      exact dec_cut l f k at0 body hf hk (by omega)
    · have hn : p.length < 4294967296 := by omega
      obtain ⟨h1, h2, h3, h4⟩ := hexC_ok p.length hn
      have hsz := sz_hex p.length hn
      have hp : 0 < p.length := List.length_pos_iff.2 h
      have h10 : (10 : UInt8) ∉ hexC p.length := fun hc => (h2 10 hc).2.1 rfl
      have hlt : (oneC p ++ encC l).length = (hexC p.length).length + 2 + (p.length + 2 + (encC l).length) := by
        rw [one_shape p h]; simp; omega
      rw [hlt] at hk
      match f, hf with
      | f + 1, hf =>
        rw [one_shape p h]
        generalize hexC p.length = s at h1 h2 h3 h4 hsz h10 hk
        by_cases hks : k ≤ s.length + 1
        · have et : (s ++ 13 :: 10 :: (p ++ 13 :: 10 :: encC l)).take k = (s ++ [13]).take k := by
            rw [show s ++ 13 :: 10 :: (p ++ 13 :: 10 :: encC l) = (s ++ [13]) ++ 10 :: (p ++ 13 :: 10 :: encC l) from by simp, List.take_append_of_le_length (by simp; omega)]
          rw [et]
          refine dec_short f _ at0 body (fun hc => ?_) (by rw [List.length_take]; simp; omega)
          have := List.mem_of_mem_take hc
          rw [List.mem_append, List.mem_singleton] at this
          rcases this with h5 | h5
          · exact h10 h5
          · revert h5; decide
        · obtain ⟨j, rfl⟩ : ∃ j, k = s.length + (j + 2) := ⟨k - s.length - 2, by omega⟩
          have et : (s ++ 13 :: 10 :: (p ++ 13 :: 10 :: encC l)).take (s.length + (j + 2)) = s ++ 13 :: 10 :: (p ++ 13 :: 10 :: encC l).take j := by
            rw [List.take_length_add_append]
            rfl
          rw [et, dec_line f s _ at0 body h10 (by omega), hsz, Int.toNat_natCast]
          rw [if_neg (by omega), if_neg (by omega), if_neg (by omega)]
          have hlj : ((p ++ 13 :: 10 :: encC l).take j).length = min j (p.length + 2 + (encC l).length) := by
            rw [List.length_take]; simp; omega
          by_cases hj1 : j ≤ p.length
          · rw [if_pos (by rw [hlj]; omega)]
          · rw [if_neg (by rw [hlj]; omega)]
            obtain ⟨i, rfl⟩ : ∃ i, j = p.length + (i + 1) := ⟨j - p.length - 1, by omega⟩
            rw [List.take_length_add_append] at hlj ⊢
            rw [List.take_succ_cons] at hlj ⊢
            rw [getD_at, if_neg (by simp)]
            by_cases hi : i = 0
            · subst hi
              rw [if_pos (by simp)]
            · obtain ⟨i2, rfl⟩ : ∃ i2, i = i2 + 1 := ⟨i - 1, by omega⟩
              rw [List.take_succ_cons] at hlj ⊢
              rw [if_neg (by simp), getD_at1, if_neg (by simp)]
              rw [show (p ++ 13 :: 10 :: (encC l).take i2).drop (p.length + 2) = (encC l).take i2 from by rw [← List.drop_drop, List.drop_left]; rfl, List.take_left]
              exact dec_cut l f i2 _ _ (by omega) (by omega) (by rw [List.length_append]; omega)
theorem decode_cut (l : List (List UInt8)) (h : l.flatten.length ≤ 32768) (k : Nat) (hk : k < (encC l).length) : decodeC ((encC l).take k) = ([], 0, 10) := by
  unfold decodeC
  have hl : ((encC l).take k).length = k := by rw [List.length_take]; omega
  rw [hl]
  exact dec_cut l (k + 1) k 0 [] (by omega) hk (by simpa using h)
end Go.Proofs.YtlgfepaicgnkpaaDoor
