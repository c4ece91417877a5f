
/- Messages of HTTP, put together and read back: plain mathematics for layer 11 (no program in it). -/
import Derived.Test.YtclonnpglikddaaGreatDoorHdGet
import Derived.Test.YtclonnpglikddaaGreatDoorHtPlain
import Derived.Lib.ItoaNum
namespace Go.Proofs.YtclonnpglikddaaGreatDoor
set_option linter.unusedVariables false
set_option linter.unusedSimpArgs false

structure ReqV where
  method : List UInt8
  target : List UInt8
  hds : List HdV
  body : List UInt8
structure RespV where
  status : Int
  reason : List UInt8
  hds : List HdV
  body : List UInt8
def noReq : ReqV := ⟨[], [], [], []⟩
def noResp : RespV := ⟨0, [], [], []⟩
def verM : List UInt8 := [72, 84, 84, 80, 47, 49, 46, 49]
def clM : List UInt8 := [67, 111, 110, 116, 101, 110, 116, 45, 76, 101, 110, 103, 116, 104]
def clLow : List UInt8 := [99, 111, 110, 116, 101, 110, 116, 45, 108, 101, 110, 103, 116, 104]
def teLow : List UInt8 := [116, 114, 97, 110, 115, 102, 101, 114, 45, 101, 110, 99, 111, 100, 105, 110, 103]
def chM : List UInt8 := [99, 104, 117, 110, 107, 101, 100]
def btw (a b : Nat) (s : List UInt8) : Bool := s.all fun c => decide (a ≤ c.toNat ∧ c.toNat ≤ b)
def targetM (s : List UInt8) : Bool := decide (1 ≤ s.length ∧ s.length ≤ 2048) && btw 33 126 s
def withM (l : List HdV) (n : Nat) : List HdV := l ++ [⟨clM, Lib.decDigits n⟩]
def bareM (status : Int) : Bool := decide (status = 204) || decide (status = 304)
def fitsM (l : List HdV) (body : List UInt8) (say : Bool) : Bool := decide (allH l clLow = [] ∧ allH l teLow = [] ∧ body.length ≤ 32768) && decide (checkH (if say then withM l body.length else l) = 0)
def mayReq (r : ReqV) : Bool := tokenH r.method && targetM r.target && fitsM r.hds r.body (decide (0 < r.body.length))
def mayResp (r : RespV) : Bool := decide (200 ≤ r.status ∧ r.status ≤ 599 ∧ r.reason.length ≤ 128) && btw 32 126 r.reason && !(bareM r.status && decide (0 < r.body.length)) && fitsM r.hds r.body (!bareM r.status)
def ownReq (r : ReqV) : List HdV := if 0 < r.body.length then withM r.hds r.body.length else r.hds
def ownResp (r : RespV) : List HdV := if bareM r.status then r.hds else withM r.hds r.body.length
def joinM (line : List UInt8) (l : List HdV) (body : List UInt8) : List UInt8 := line ++ 13 :: 10 :: (printH l ++ body)
def lineReq (r : ReqV) : List UInt8 := r.method ++ 32 :: (r.target ++ 32 :: verM)
def lineResp (r : RespV) : List UInt8 := verM ++ 32 :: (Lib.decDigits r.status.toNat ++ 32 :: r.reason)
def printReq (r : ReqV) : List UInt8 := joinM (lineReq r) (ownReq r) r.body
def printResp (r : RespV) : List UInt8 := joinM (lineResp r) (ownResp r) r.body
/-! Read. -/
/-- The first line, how many bytes it has, or why there is none. -/
def lineM (b : List UInt8) : List UInt8 × Nat × Int :=
  if findU [10] (b.take 4096) < (b.take 4096).length then (crH (b.take (findU [10] (b.take 4096))), findU [10] (b.take 4096) + 1, 0)
  else ([], 0, if 4096 < b.length then 3 else 10)
/-- A text's parts between single blanks, so many more at most. -/
def cutM : Nat → List UInt8 → List (List UInt8)
  | 0, s => [s]
  | k + 1, s => if (32 : UInt8) ∈ s then s.take (findU [32] s) :: cutM k (s.drop (findU [32] s + 1)) else [s]
def valD (l : List UInt8) : Nat := l.foldl (fun n c => n * 10 + (c.toNat - 48)) 0
def numsOk (s : List (List UInt8)) : Bool := s.all fun x => decide (x = s.headD [] ∧ 1 ≤ x.length ∧ x.length ≤ 8) && btw 48 57 x
def countM (s : List (List UInt8)) (r : List UInt8) (rest : Bool) : Nat := if s = [] then (if rest then r.length else 0) else valD (s.headD [])
def bodyM (r : List UInt8) (l : List HdV) (rest : Bool) : List UInt8 × Nat × Int :=
  if allH l teLow ≠ [] then (if 1 < (allH l teLow).length ∨ ((allH l teLow).headD []).map lowB ≠ chM ∨ allH l clLow ≠ [] then ([], 0, 5) else decodeC r)
  else if numsOk (allH l clLow) = false then ([], 0, 5)
  else if 32768 < countM (allH l clLow) r rest then ([], 0, 3)
  else if r.length < countM (allH l clLow) r rest then ([], 0, 10)
  else (r.take (countM (allH l clLow) r rest), countM (allH l clLow) r rest, 0)
def okReq (w : List (List UInt8)) : Bool := decide (w.length = 3) && tokenH (w.getD 0 []) && targetM (w.getD 1 []) && decide (w.getD 2 [] = verM)
def parseReq (b : List UInt8) : ReqV × Nat × Int :=
  if (lineM b).2.2 ≠ 0 then (noReq, 0, (lineM b).2.2)
  else if okReq (cutM 8 (lineM b).1) = false then (noReq, 0, 5)
  else if (parseH (b.drop (lineM b).2.1)).2.2 ≠ 0 then (noReq, 0, (parseH (b.drop (lineM b).2.1)).2.2)
  else if (bodyM (b.drop ((lineM b).2.1 + (parseH (b.drop (lineM b).2.1)).2.1)) (parseH (b.drop (lineM b).2.1)).1 false).2.2 ≠ 0 then (noReq, 0, (bodyM (b.drop ((lineM b).2.1 + (parseH (b.drop (lineM b).2.1)).2.1)) (parseH (b.drop (lineM b).2.1)).1 false).2.2)
  else (⟨(cutM 8 (lineM b).1).getD 0 [], (cutM 8 (lineM b).1).getD 1 [], (parseH (b.drop (lineM b).2.1)).1, (bodyM (b.drop ((lineM b).2.1 + (parseH (b.drop (lineM b).2.1)).2.1)) (parseH (b.drop (lineM b).2.1)).1 false).1⟩,
    (lineM b).2.1 + (parseH (b.drop (lineM b).2.1)).2.1 + (bodyM (b.drop ((lineM b).2.1 + (parseH (b.drop (lineM b).2.1)).2.1)) (parseH (b.drop (lineM b).2.1)).1 false).2.1, 0)
def digV (c : UInt8) : Nat := c.toNat - 48
def statV (x : List UInt8) : Nat := digV (x.getD 0 0) * 100 + digV (x.getD 1 0) * 10 + digV (x.getD 2 0)
def okResp (w : List (List UInt8)) : Bool := decide (2 ≤ w.length) && decide (w.getD 0 [] = verM) && decide ((w.getD 1 []).length = 3) && btw 48 57 (w.getD 1 []) && decide (49 ≤ ((w.getD 1 []).getD 0 0).toNat ∧ ((w.getD 1 []).getD 0 0).toNat ≤ 53) && decide ((w.getD 2 []).length ≤ 128) && btw 32 126 (w.getD 2 [])
def parseResp (b : List UInt8) : RespV × Nat × Int :=
  if (lineM b).2.2 ≠ 0 then (noResp, 0, (lineM b).2.2)
  else if okResp (cutM 2 (lineM b).1) = false then (noResp, 0, 5)
  else if (parseH (b.drop (lineM b).2.1)).2.2 ≠ 0 then (noResp, 0, (parseH (b.drop (lineM b).2.1)).2.2)
  else if bareM (statV ((cutM 2 (lineM b).1).getD 1 [])) then (⟨statV ((cutM 2 (lineM b).1).getD 1 []), (cutM 2 (lineM b).1).getD 2 [], (parseH (b.drop (lineM b).2.1)).1, []⟩, (lineM b).2.1 + (parseH (b.drop (lineM b).2.1)).2.1, 0)
  else if (bodyM (b.drop ((lineM b).2.1 + (parseH (b.drop (lineM b).2.1)).2.1)) (parseH (b.drop (lineM b).2.1)).1 true).2.2 ≠ 0 then (noResp, 0, (bodyM (b.drop ((lineM b).2.1 + (parseH (b.drop (lineM b).2.1)).2.1)) (parseH (b.drop (lineM b).2.1)).1 true).2.2)
  else (⟨statV ((cutM 2 (lineM b).1).getD 1 []), (cutM 2 (lineM b).1).getD 2 [], (parseH (b.drop (lineM b).2.1)).1, (bodyM (b.drop ((lineM b).2.1 + (parseH (b.drop (lineM b).2.1)).2.1)) (parseH (b.drop (lineM b).2.1)).1 true).1⟩,
    (lineM b).2.1 + (parseH (b.drop (lineM b).2.1)).2.1 + (bodyM (b.drop ((lineM b).2.1 + (parseH (b.drop (lineM b).2.1)).2.1)) (parseH (b.drop (lineM b).2.1)).1 true).2.1, 0)

/-! Digits. -/
theorem valD_snoc (l : List UInt8) (c : UInt8) : valD (l ++ [c]) = valD l * 10 + (c.toNat - 48) := by simp [valD]
theorem digs_ok : ∀ n : Nat, valD (Lib.decDigits n) = n ∧ btw 48 57 (Lib.decDigits n) = true ∧ 1 ≤ (Lib.decDigits n).length := by
  intro n
  induction n using Nat.strongRecOn with
  | _ n ih =>
    rw [Lib.decDigits]
    split
    · rename_i h
      have e : (UInt8.ofNat (48 + n)).toNat = 48 + n := by rw [UInt8.toNat_ofNat']; omega
      refine ⟨?_, ?_, by simp⟩
      · simp only [valD, List.foldl_cons, List.foldl_nil, e]; omega
      · simp only [btw, List.all_cons, List.all_nil, Bool.and_true, e]
        exact decide_eq_true ⟨by omega, by omega⟩
    · rename_i h
      have e : (UInt8.ofNat (48 + n % 10)).toNat = 48 + n % 10 := by rw [UInt8.toNat_ofNat']; omega
      obtain ⟨h1, h2, h3⟩ := ih (n / 10) (by omega)
      refine ⟨?_, ?_, by simp⟩
      · rw [valD_snoc, h1, e]; omega
      · unfold btw at h2 ⊢
        rw [List.all_append, h2]
        simp only [List.all_cons, List.all_nil, Bool.and_true, Bool.true_and, e]
        exact decide_eq_true ⟨by omega, by omega⟩
theorem digs_len : ∀ (k n : Nat), n < 10 ^ (k + 1) → (Lib.decDigits n).length ≤ k + 1
  | 0, n, h => by rw [Lib.decDigits, dif_pos (by simpa using h)]; simp
  | k + 1, n, h => by
    rw [Lib.decDigits]
    split
    · simp
    · rw [List.length_append]
      have := digs_len k (n / 10) (by rw [Nat.pow_succ] at h; omega)
      simp only [List.length_singleton]; omega
theorem digs_three : ∀ n : Fin 600, 200 ≤ n.val → (Lib.decDigits n.val).length = 3 ∧ statV (Lib.decDigits n.val) = n.val ∧ 49 ≤ ((Lib.decDigits n.val).getD 0 0).toNat ∧ ((Lib.decDigits n.val).getD 0 0).toNat ≤ 53 := by
  intro ⟨n, hn⟩ h
  simp only at h ⊢
  have e1 : Lib.decDigits n = Lib.decDigits (n / 10) ++ [UInt8.ofNat (48 + n % 10)] := by conv => lhs; rw [Lib.decDigits]; rw [dif_neg (by omega)]
  have e2 : Lib.decDigits (n / 10) = Lib.decDigits (n / 10 / 10) ++ [UInt8.ofNat (48 + n / 10 % 10)] := by conv => lhs; rw [Lib.decDigits]; rw [dif_neg (by omega)]
  have e3 : Lib.decDigits (n / 10 / 10) = [UInt8.ofNat (48 + n / 10 / 10)] := by rw [Lib.decDigits, dif_pos (by omega)]
  have f : ∀ k, k < 10 → (UInt8.ofNat (48 + k)).toNat = 48 + k := fun k hk => by rw [UInt8.toNat_ofNat']; omega
  rw [e1, e2, e3]
  have f1 := f (n / 10 / 10) (by omega)
  have f2 := f (n / 10 % 10) (by omega)
  have f3 := f (n % 10) (by omega)
  refine ⟨rfl, ?_, ?_, ?_⟩
  · show digV (UInt8.ofNat (48 + n / 10 / 10)) * 100 + digV (UInt8.ofNat (48 + n / 10 % 10)) * 10 + digV (UInt8.ofNat (48 + n % 10)) = n
    unfold digV
    rw [f1, f2, f3]; omega
  · show 49 ≤ (UInt8.ofNat (48 + n / 10 / 10)).toNat
    rw [f1]; omega
  · show (UInt8.ofNat (48 + n / 10 / 10)).toNat ≤ 53
    rw [f1]; omega

/-! Read back. -/
theorem line_back (s r : List UInt8) (h10 : (10 : UInt8) ∉ s) (hs : s.length + 2 ≤ 4096) : lineM (s ++ 13 :: 10 :: r) = (s, s.length + 2, 0) := by
  have es : s ++ 13 :: 10 :: r = (s ++ [13]) ++ 10 :: r := by simp
  have h13 : (10 : UInt8) ∉ s ++ [13] := by
    rw [List.mem_append, List.mem_singleton]
    rintro (h | h)
    · exact h10 h
    · revert h; decide
  have et : (s ++ 13 :: 10 :: r).take 4096 = (s ++ [13]) ++ 10 :: r.take (4096 - (s.length + 2)) := by
    rw [es, List.take_append, List.take_of_length_le (by simp; omega)]
    congr 1
    have e9 : 4096 - (s ++ [13]).length = (4096 - (s.length + 2)) + 1 := by rw [List.length_append, List.length_singleton]; omega
    rw [e9, List.take_succ_cons]
  have hf : findU [10] ((s ++ 13 :: 10 :: r).take 4096) = s.length + 1 := by rw [et, find_byte 10 _ _ h13]; simp
  unfold lineM
  rw [hf, if_pos (by rw [et]; simp)]
  have e2 : (s ++ 13 :: 10 :: r).take (s.length + 1) = s ++ [13] := by
    rw [es, List.take_append_of_le_length (by simp), List.take_of_length_le (by simp)]
  rw [e2]
  have e3 : crH (s ++ [13]) = s := by unfold crH; rw [if_pos (by simp)]; simp
  rw [e3]
theorem line_far (s r : List UInt8) (h10 : (10 : UInt8) ∉ s) (hs : 4096 < s.length + 2) : lineM (s ++ 13 :: 10 :: r) = ([], 0, 3) := by
  have hn : (10 : UInt8) ∉ (s ++ 13 :: 10 :: r).take 4096 := by
    rw [show s ++ 13 :: 10 :: r = (s ++ [13]) ++ 10 :: r from by simp, List.take_append_of_le_length (by simp; omega)]
    intro h
    have := List.mem_of_mem_take h
    rw [List.mem_append, List.mem_singleton] at this
    rcases this with h | h
    · exact h10 h
    · revert h; decide
  unfold lineM
  rw [find_miss 10 _ hn, if_neg (by omega), if_pos (by simp; omega)]
theorem cut_step (k : Nat) (a r : List UInt8) (h : (32 : UInt8) ∉ a) : cutM (k + 1) (a ++ 32 :: r) = a :: cutM k r := by
  conv => lhs; unfold cutM
  rw [if_pos (by simp), find_byte 32 a r h, List.take_left, show (a ++ 32 :: r).drop (a.length + 1) = r from by simp]
theorem cut_end (k : Nat) (s : List UInt8) (h : (32 : UInt8) ∉ s) : cutM k s = [s] := by
  cases k with
  | zero => rfl
  | succ k => unfold cutM; rw [if_neg h]
theorem btw_not (a b : Nat) (s : List UInt8) (h : btw a b s = true) (c : UInt8) (hc : c.toNat < a ∨ b < c.toNat) : c ∉ s := fun hm => by
  have := of_decide_eq_true (List.all_eq_true.1 h c hm)
  omega
theorem sign_32 : ∀ n : Fin 256, signH (UInt8.ofNat n.val) = true → UInt8.ofNat n.val ≠ 32 := by decide +kernel
theorem tok_not (s : List UInt8) (h : tokenH s = true) : (10 : UInt8) ∉ s ∧ (32 : UInt8) ∉ s := by
  unfold tokenH at h
  rw [Bool.and_eq_true] at h
  have ha := List.all_eq_true.1 h.1
  refine ⟨fun hm => (sign_not 10 (ha 10 hm)).2.1 rfl, fun hm => ?_⟩
  have := sign_32 ⟨32, by decide⟩
  exact this (ha 32 hm) rfl
theorem all_app (l : List HdV) (h : HdV) (name : List UInt8) : allH (l ++ [h]) name = allH l name ++ (if likeH h.name name then [h.value] else []) := by
  unfold allH
  rw [List.filter_append, List.map_append]
  congr 1
  by_cases hl : likeH h.name name = true
  · rw [if_pos hl]; simp [hl]
  · rw [if_neg hl]; simp [hl]
theorem like_cl : likeH clM clLow = true := by decide
theorem like_te : likeH clM teLow = false := by decide
theorem with_all (l : List HdV) (n : Nat) (h1 : allH l clLow = []) (h2 : allH l teLow = []) : allH (withM l n) clLow = [Lib.decDigits n] ∧ allH (withM l n) teLow = [] := by
  unfold withM
  rw [all_app, all_app, h1, h2]
  exact ⟨by rw [if_pos like_cl]; rfl, by rw [if_neg (by rw [like_te]; simp)]; rfl⟩
/-- A body whose headers say how many bytes it has. -/
theorem body_said (l : List HdV) (body more : List UInt8) (rest : Bool) (h1 : allH l clLow = []) (h2 : allH l teLow = []) (hb : body.length ≤ 32768) : bodyM (body ++ more) (withM l body.length) rest = (body, body.length, 0) := by
  obtain ⟨e1, e2⟩ := with_all l body.length h1 h2
  obtain ⟨d1, d2, d3⟩ := digs_ok body.length
  have d4 := digs_len 7 body.length (by omega)
  unfold bodyM
  rw [e1, e2, if_neg (by simp)]
  have hn : numsOk [Lib.decDigits body.length] = true := by
    unfold numsOk
    simp only [List.all_cons, List.all_nil, Bool.and_true, List.headD_cons, d2]
    exact decide_eq_true ⟨trivial, d3, d4⟩
  have hc : countM [Lib.decDigits body.length] (body ++ more) rest = body.length := by
    unfold countM
    rw [if_neg (by simp), List.headD_cons, d1]
  rw [hn, if_neg (by simp), hc, if_neg (by omega), if_neg (by simp), List.take_left]
/-- No body is said. -/
theorem body_none (l : List HdV) (more : List UInt8) (h1 : allH l clLow = []) (h2 : allH l teLow = []) : bodyM more l false = ([], 0, 0) := by
  unfold bodyM
  rw [h1, h2, if_neg (by simp)]
  have hc : countM [] more false = 0 := rfl
  rw [show numsOk [] = true from rfl, if_neg (by simp), hc, if_neg (by omega), if_neg (by omega), List.take_zero]
theorem fits_parts (l : List HdV) (body : List UInt8) (say : Bool) (h : fitsM l body say = true) : allH l clLow = [] ∧ allH l teLow = [] ∧ body.length ≤ 32768 ∧ checkH (if say then withM l body.length else l) = 0 := by
  unfold fitsM at h
  rw [Bool.and_eq_true] at h
  obtain ⟨a, b, c⟩ := of_decide_eq_true h.1
  exact ⟨a, b, c, of_decide_eq_true h.2⟩
/-- A request that may be is read back, whatever follows. -/
theorem req_back (r : ReqV) (hm : mayReq r = true) (hl : r.method.length + r.target.length ≤ 4084) (more : List UInt8) : parseReq (printReq r ++ more) = (⟨r.method, r.target, ownReq r, r.body⟩, (printReq r).length, 0) := by
  unfold mayReq at hm
  rw [Bool.and_eq_true, Bool.and_eq_true] at hm
  obtain ⟨⟨ht, hg⟩, hf⟩ := hm
  obtain ⟨f1, f2, f3, f4⟩ := fits_parts _ _ _ hf
  have hg2 := hg
  unfold targetM at hg2
  rw [Bool.and_eq_true] at hg2
  have t10 := btw_not 33 126 r.target hg2.2 10 (by decide)
  have t32 := btw_not 33 126 r.target hg2.2 32 (by decide)
  obtain ⟨m10, m32⟩ := tok_not r.method ht
  have l10 : (10 : UInt8) ∉ lineReq r := by
    unfold lineReq
    simp only [List.mem_append, List.mem_cons, not_or]
    exact ⟨m10, by decide, t10, by decide, by decide⟩
  have ll : (lineReq r).length = r.method.length + r.target.length + 10 := by unfold lineReq verM; simp; omega
  have ck : checkH (ownReq r) = 0 := by
    unfold ownReq
    by_cases hb : 0 < r.body.length
    · rw [if_pos hb]; rw [decide_eq_true hb, if_pos rfl] at f4; exact f4
    · rw [if_neg hb]; rw [decide_eq_false hb, if_neg (by simp)] at f4; exact f4
  have eP : printReq r ++ more = lineReq r ++ 13 :: 10 :: (printH (ownReq r) ++ (r.body ++ more)) := by unfold printReq joinM; simp
  have e1 : lineM (printReq r ++ more) = (lineReq r, (lineReq r).length + 2, 0) := by rw [eP]; exact line_back _ _ l10 (by omega)
  have e2 : cutM 8 (lineReq r) = [r.method, r.target, verM] := by
    unfold lineReq
    rw [cut_step 7 _ _ m32, cut_step 6 _ _ t32, cut_end 6 verM (by decide)]
  have e3 : okReq [r.method, r.target, verM] = true := by
    unfold okReq
    simp [ht, hg]
  have e4 : (printReq r ++ more).drop ((lineReq r).length + 2) = printH (ownReq r) ++ (r.body ++ more) := by
    rw [eP, ← List.drop_drop, List.drop_left]
    rfl
  have e5 := print_parse (ownReq r) ck (r.body ++ more)
  have e6 : (printReq r ++ more).drop ((lineReq r).length + 2 + (printH (ownReq r)).length) = r.body ++ more := by rw [← List.drop_drop, e4, List.drop_left]
  have e7 : bodyM (r.body ++ more) (ownReq r) false = (r.body, r.body.length, 0) := by
    unfold ownReq
    by_cases hb : 0 < r.body.length
    · rw [if_pos hb]; exact body_said _ _ _ _ f1 f2 f3
    · rw [if_neg hb]
      have : r.body = [] := List.length_eq_zero_iff.1 (by omega)
      rw [this, List.nil_append]
      exact body_none _ _ f1 f2
  unfold parseReq
  rw [e1]
  simp only [e2, e3, e4, e5, e6, e7]
  simp only [ne_eq, not_true_eq_false, if_false, Bool.true_eq_false, List.getD_cons_zero, List.getD_cons_succ]
  congr 2
  unfold printReq joinM
  simp only [List.length_append, List.length_cons]
  omega
theorem req_far (r : ReqV) (hm : mayReq r = true) (hl : 4084 < r.method.length + r.target.length) (more : List UInt8) : parseReq (printReq r ++ more) = (noReq, 0, 3) := by
  unfold mayReq at hm
  rw [Bool.and_eq_true, Bool.and_eq_true] at hm
  obtain ⟨⟨ht, hg⟩, hf⟩ := hm
  unfold targetM at hg
  rw [Bool.and_eq_true] at hg
  have t10 := btw_not 33 126 r.target hg.2 10 (by decide)
  obtain ⟨m10, m32⟩ := tok_not r.method ht
  have l10 : (10 : UInt8) ∉ lineReq r := by
    unfold lineReq
    simp only [List.mem_append, List.mem_cons, not_or]
    exact ⟨m10, by decide, t10, by decide, by decide⟩
  have ll : (lineReq r).length = r.method.length + r.target.length + 10 := by unfold lineReq verM; simp; omega
  have eP : printReq r ++ more = lineReq r ++ 13 :: 10 :: (printH (ownReq r) ++ (r.body ++ more)) := by unfold printReq joinM; simp
  have e1 : lineM (printReq r ++ more) = ([], 0, 3) := by rw [eP]; exact line_far _ _ l10 (by omega)
  unfold parseReq
  rw [e1]
  rfl
/-- A response that may be is read back, whatever follows. -/
theorem resp_back (r : RespV) (hm : mayResp r = true) (more : List UInt8) : parseResp (printResp r ++ more) = (⟨r.status, r.reason, ownResp r, r.body⟩, (printResp r).length, 0) := by
  unfold mayResp at hm
  rw [Bool.and_eq_true, Bool.and_eq_true, Bool.and_eq_true] at hm
  obtain ⟨⟨⟨hs, hr⟩, hb⟩, hf⟩ := hm
  obtain ⟨s1, s2, s3⟩ := of_decide_eq_true hs
  obtain ⟨f1, f2, f3, f4⟩ := fits_parts _ _ _ hf
  obtain ⟨d1, d2, d3⟩ := digs_ok r.status.toNat
  obtain ⟨g1, g2, g3, g4⟩ := digs_three ⟨r.status.toNat, by omega⟩ (by show 200 ≤ r.status.toNat; omega)
  simp only at g1 g2 g3 g4
  have hst : ((r.status.toNat : Nat) : Int) = r.status := by omega
  have r10 := btw_not 32 126 r.reason hr 10 (by decide)
  have n10 := btw_not 48 57 _ d2 10 (by decide)
  have n32 := btw_not 48 57 _ d2 32 (by decide)
  have l10 : (10 : UInt8) ∉ lineResp r := by
    unfold lineResp
    simp only [List.mem_append, List.mem_cons, not_or]
    exact ⟨by decide, by decide, n10, by decide, r10⟩
  have ll : (lineResp r).length = r.reason.length + 13 := by unfold lineResp verM; simp [g1]; omega
  have ck : checkH (ownResp r) = 0 := by
    unfold ownResp
    cases hbr : bareM r.status with
    | true => rw [if_pos rfl]; rw [hbr] at f4; simpa using f4
    | false => rw [if_neg (by simp)]; rw [hbr] at f4; simpa using f4
  have eP : printResp r ++ more = lineResp r ++ 13 :: 10 :: (printH (ownResp r) ++ (r.body ++ more)) := by unfold printResp joinM; simp
  have e1 : lineM (printResp r ++ more) = (lineResp r, (lineResp r).length + 2, 0) := by rw [eP]; exact line_back _ _ l10 (by omega)
  have e2 : cutM 2 (lineResp r) = [verM, Lib.decDigits r.status.toNat, r.reason] := by
    unfold lineResp
    rw [cut_step 1 _ _ (by decide), cut_step 0 _ _ n32]
    rfl
  have e3 : okResp [verM, Lib.decDigits r.status.toNat, r.reason] = true := by
    unfold okResp
    simp only [List.getD_cons_zero, List.getD_cons_succ, g1, d2, hr]
    rw [decide_eq_true (⟨g3, g4⟩ : 49 ≤ ((Lib.decDigits r.status.toNat).getD 0 0).toNat ∧ ((Lib.decDigits r.status.toNat).getD 0 0).toNat ≤ 53), decide_eq_true s3]
    rfl
  have e4 : (printResp r ++ more).drop ((lineResp r).length + 2) = printH (ownResp r) ++ (r.body ++ more) := by
    rw [eP, ← List.drop_drop, List.drop_left]
    rfl
  have e5 := print_parse (ownResp r) ck (r.body ++ more)
  have e6 : (printResp r ++ more).drop ((lineResp r).length + 2 + (printH (ownResp r)).length) = r.body ++ more := by rw [← List.drop_drop, e4, List.drop_left]
  have hlen : (printResp r).length = (lineResp r).length + 2 + (printH (ownResp r)).length + r.body.length := by
    unfold printResp joinM
    simp only [List.length_append, List.length_cons]
    omega
  unfold parseResp
  rw [e1]
  simp only [e2, e3, e4, e5, e6, List.getD_cons_zero, List.getD_cons_succ, g2, hst]
  simp only [ne_eq, not_true_eq_false, if_false, Bool.true_eq_false]
  cases hbr : bareM r.status with
  | true =>
    have hb0 : r.body = [] := by
      rw [hbr, Bool.true_and] at hb
      have := of_decide_eq_false (by simpa using hb : decide (0 < r.body.length) = false)
      exact List.length_eq_zero_iff.1 (by omega)
    rw [if_pos rfl, hlen, hb0]
    rfl
  | false =>
    have eo : ownResp r = withM r.hds r.body.length := by unfold ownResp; rw [hbr]; rfl
    have e7 : bodyM (r.body ++ more) (ownResp r) true = (r.body, r.body.length, 0) := by rw [eo]; exact body_said _ _ _ _ f1 f2 f3
    rw [e7]
    simp only [Bool.false_eq_true, if_false, not_true_eq_false, ne_eq]
    rw [hlen]
end Go.Proofs.YtclonnpglikddaaGreatDoor
