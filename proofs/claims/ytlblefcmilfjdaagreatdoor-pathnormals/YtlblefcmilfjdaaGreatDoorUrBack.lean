
/- URLs read and put together again; texts escaped and back: plain mathematics for layer 7 (no program in it). -/
import Derived.Test.YtlblefcmilfjdaaGreatDoorUrMath
import Derived.Test.YtlblefcmilfjdaaGreatDoorIpBook
namespace Go.Proofs.YtlblefcmilfjdaaGreatDoor
set_option linter.unusedVariables false
set_option linter.unusedSimpArgs false

/-- May a text be a host? -/
def hostU (s : List UInt8) : Bool := if 2 ≤ s.length ∧ s.getD 0 0 = 91 ∧ s.getD (s.length - 1) 0 = 93 then (match parseA ((s.drop 1).take (s.length - 2)) with
    | some (v, _) => v
    | none => false)
  else decide (findU [58, 91, 93, 64] s = s.length)
def schB (c : UInt8) : Bool := letterU c || digitU c || ([43, 45, 46] : List UInt8).contains c
/-- The scheme, and what is behind it. -/
def schemeU (l : List UInt8) : Option (List UInt8 × List UInt8) :=
  if findU [58, 47, 63, 35] l < l.length ∧ l.getD (findU [58, 47, 63, 35] l) 0 = 58 then
    (if findU [58, 47, 63, 35] l = 0 ∨ letterU (l.getD 0 0) = false ∨ (l.take (findU [58, 47, 63, 35] l)).all schB = false then none
     else some (l.take (findU [58, 47, 63, 35] l), l.drop (findU [58, 47, 63, 35] l + 1)))
  else some ([], l)
def okU (u : UrlV) : Bool := decide (findU [35] u.frag = u.frag.length) && decide (findU [91, 93] (u.user ++ u.path ++ u.query ++ u.frag) = (u.user ++ u.path ++ u.query ++ u.frag).length) && u.port.all digitU && (!u.hasAuth || hostU u.host)
/-- Behind the scheme: the authority, if there is one. -/
def headU (r : List UInt8) (u : UrlV) : UrlV × List UInt8 :=
  if r.take 2 = [47, 47] then (authU ((r.drop 2).take (findU [47, 63, 35] (r.drop 2))) { u with hasAuth := true }, (r.drop 2).drop (findU [47, 63, 35] (r.drop 2))) else (u, r)
def partsU (sch r : List UInt8) : UrlV := tailU (headU r { zeroU with scheme := sch }).2 (headU r { zeroU with scheme := sch }).1
/-- The parts of a URL. -/
def parseU (l : List UInt8) : Option UrlV := if standsU l = false then none else match schemeU l with
  | none => none
  | some (sch, r) => if okU (partsU sch r) then some (partsU sch r) else none
theorem auth_join (a : List UInt8) (u : UrlV) (hu : u.hasUser = false) (hp : u.hasPort = false) :
    (if (authU a u).hasUser then (authU a u).user ++ [64] else []) ++ (authU a u).host ++ (if (authU a u).hasPort then 58 :: (authU a u).port else []) = a
    ∧ (authU a u).scheme = u.scheme ∧ (authU a u).hasAuth = u.hasAuth ∧ (authU a u).path = u.path ∧ (authU a u).hasQuery = u.hasQuery ∧ (authU a u).hasFrag = u.hasFrag := by
  unfold authU
  cases h1 : lastCut 64 (fun _ => false) a with
  | none =>
    simp only
    cases h2 : lastCut 58 (fun c => c == 93) a with
    | none =>
      refine ⟨?_, rfl, rfl, rfl, rfl, rfl⟩
      simp only [hu, hp, Bool.false_eq_true, if_false, List.nil_append, List.append_nil]
    | some p =>
      obtain ⟨x, y⟩ := p
      refine ⟨?_, rfl, rfl, rfl, rfl, rfl⟩
      simp only [hu, Bool.false_eq_true, if_false, List.nil_append, if_true]
      exact (lastCut_app _ _ _ _ _ h2).symm
  | some p =>
    obtain ⟨x, y⟩ := p
    have e1 := lastCut_app _ _ _ _ _ h1
    simp only
    cases h2 : lastCut 58 (fun c => c == 93) y with
    | none =>
      refine ⟨?_, rfl, rfl, rfl, rfl, rfl⟩
      simp only [hp, Bool.false_eq_true, if_false, if_true, List.append_nil]
      rw [e1]; simp
    | some p =>
      obtain ⟨x2, y2⟩ := p
      have e2 := lastCut_app _ _ _ _ _ h2
      refine ⟨?_, rfl, rfl, rfl, rfl, rfl⟩
      simp only [if_true]
      rw [e1, e2]; simp
theorem head_join (r : List UInt8) (u : UrlV) (ha : u.hasAuth = false) (hu : u.hasUser = false) (hp : u.hasPort = false) (hh : u.host = []) :
    (if (headU r u).1.hasAuth then [47, 47] else []) ++ ((if (headU r u).1.hasUser then (headU r u).1.user ++ [64] else []) ++ (headU r u).1.host ++ (if (headU r u).1.hasPort then 58 :: (headU r u).1.port else [])) ++ (headU r u).2 = r
    ∧ (headU r u).1.scheme = u.scheme ∧ (headU r u).1.path = u.path ∧ (headU r u).1.hasQuery = u.hasQuery ∧ (headU r u).1.hasFrag = u.hasFrag := by
  unfold headU
  by_cases h : r.take 2 = [47, 47]
  · simp only [if_pos h]
    obtain ⟨e1, e2, e3, e4, e5, e6⟩ := auth_join ((r.drop 2).take (findU [47, 63, 35] (r.drop 2))) { u with hasAuth := true } hu hp
    refine ⟨?_, e2, e4, e5, e6⟩
    rw [e1, e3]
    simp only [if_true]
    rw [List.append_assoc, List.take_append_drop]
    conv => rhs; rw [← List.take_append_drop 2 r, h]
  · simp only [if_neg h]
    refine ⟨?_, by first | rfl | trivial, by first | rfl | trivial, by first | rfl | trivial, by first | rfl | trivial⟩
    simp only [ha, hu, hp, hh, Bool.false_eq_true, if_false, List.nil_append, List.append_nil]
theorem parts_join (sch r : List UInt8) : joinU (partsU sch r) = (if sch = [] then [] else sch ++ [58]) ++ r := by
  obtain ⟨e1, e2, e3, e4, e5⟩ := head_join r { zeroU with scheme := sch } rfl rfl rfl rfl
  obtain ⟨t1, t2, t3, t4, t5, t6, t7, t8⟩ := tail_join (headU r { zeroU with scheme := sch }).2 (headU r { zeroU with scheme := sch }).1 (by rw [e3]; rfl) (by rw [e4]; rfl) (by rw [e5]; rfl)
  unfold joinU partsU
  rw [t2, t3, t4, t5, t6, t7, t8, e2]
  have e : ∀ (S A U H P X Q F : List UInt8), S ++ A ++ U ++ H ++ P ++ X ++ Q ++ F = S ++ ((A ++ (U ++ H ++ P)) ++ (X ++ Q ++ F)) := by intros; simp
  rw [e, t1]
  exact congrArg _ e1
theorem scheme_join (l sch r : List UInt8) (h : schemeU l = some (sch, r)) : (if sch = [] then [] else sch ++ [58]) ++ r = l := by
  unfold schemeU at h
  split at h
  · rename_i hc
    split at h
    · cases h
    · rename_i hn
      rw [not_or] at hn
      injection h with h
      injection h with h1 h2
      have hi : findU [58, 47, 63, 35] l ≠ 0 := hn.1
      have hne : l.take (findU [58, 47, 63, 35] l) ≠ [] := fun e => by
        have h3 := congrArg List.length e
        rw [List.length_take] at h3
        have h4 : ([] : List UInt8).length = 0 := rfl
        rw [h4] at h3
        have := hc.1
        omega
      rw [← h1, ← h2, if_neg hne]
      have hd : l.drop (findU [58, 47, 63, 35] l) = 58 :: l.drop (findU [58, 47, 63, 35] l + 1) := by
        rw [List.drop_eq_getElem_cons hc.1]
        have := hc.2
        rw [List.getD_eq_getElem?_getD, List.getElem?_eq_getElem hc.1] at this
        rw [show l[findU [58, 47, 63, 35] l] = 58 from this]
      conv => rhs; rw [← List.take_append_drop (findU [58, 47, 63, 35] l) l, hd]
      simp
  · injection h with h
    injection h with h1 h2
    rw [← h1, ← h2, if_pos rfl, List.nil_append]
/-- Put together, the parts of a URL are its text. -/
theorem join_parse (l : List UInt8) (u : UrlV) (h : parseU l = some u) : joinU u = l := by
  unfold parseU at h
  split at h
  · cases h
  · cases hs : schemeU l with
    | none => rw [hs] at h; cases h
    | some p =>
      obtain ⟨sch, r⟩ := p
      rw [hs] at h
      simp only at h
      split at h
      · injection h with h
        rw [← h, parts_join]
        exact scheme_join l sch r hs
      · cases h

/-! Escaped, and back. -/
def plainU (c : UInt8) : Bool := letterU c || digitU c || ([45, 46, 95, 126] : List UInt8).contains c
def hexD (n : Nat) : UInt8 := UInt8.ofNat (if n < 10 then 48 + n else 55 + n)
def hexV (c : UInt8) : Nat := if c.toNat ≤ 57 then c.toNat - 48 else if c.toNat ≤ 70 then c.toNat - 55 else c.toNat - 87
def escU (l : List UInt8) : List UInt8 := l.flatMap fun c => if plainU c then [c] else [37, hexD (c.toNat / 16), hexD (c.toNat % 16)]
def unescU : List UInt8 → Option (List UInt8)
  | [] => some []
  | [c] => if c = 37 then none else some [c]
  | [c, d] => if c = 37 then none else if d = 37 then none else some [c, d]
  | c :: a :: b :: t => if c = 37 then (if hexU a && hexU b then (unescU t).map (UInt8.ofNat (hexV a * 16 + hexV b) :: ·) else none) else (unescU (a :: b :: t)).map (c :: ·)
theorem unesc_cons (c : UInt8) (l : List UInt8) (h : c ≠ 37) : unescU (c :: l) = (unescU l).map (c :: ·) := by
  match l with
  | [] => simp [unescU, h]
  | [d] =>
    by_cases hd : d = 37
    · simp [unescU, h, hd]
    · simp [unescU, h, hd]
  | a :: b :: t => rw [unescU, if_neg h]
theorem unesc_hex (a b : UInt8) (t : List UInt8) : unescU (37 :: a :: b :: t) = if hexU a && hexU b then (unescU t).map (UInt8.ofNat (hexV a * 16 + hexV b) :: ·) else none := by rw [unescU, if_pos rfl]
theorem hexD_fin : ∀ n : Fin 16, hexU (hexD n.val) = true ∧ hexV (hexD n.val) = n.val ∧ byteU (hexD n.val) = true ∧ hexD n.val ≠ 37 := by decide
theorem plain_fin : ∀ n : Fin 256, plainU (UInt8.ofNat n.val) = true → byteU (UInt8.ofNat n.val) = true ∧ UInt8.ofNat n.val ≠ 37 := by decide +kernel
theorem plain_byte (c : UInt8) (h : plainU c = true) : byteU c = true ∧ c ≠ 37 := by
  have := plain_fin ⟨c.toNat, c.toNat_lt⟩
  simp only [UInt8.ofNat_toNat] at this
  exact this h
theorem hex_back (c : UInt8) : UInt8.ofNat (c.toNat / 16 * 16 + c.toNat % 16) = c := by
  rw [Nat.div_add_mod']
  exact UInt8.ofNat_toNat
theorem unesc_esc : ∀ l : List UInt8, unescU (escU l) = some l
  | [] => rfl
  | c :: r => by
    have ih := unesc_esc r
    have e : escU (c :: r) = (if plainU c then [c] else [37, hexD (c.toNat / 16), hexD (c.toNat % 16)]) ++ escU r := by simp [escU]
    rw [e]
    cases hp : plainU c with
    | true =>
      rw [if_pos rfl, List.singleton_append, unesc_cons c _ (plain_byte c hp).2, ih]; rfl
    | false =>
      rw [if_neg (by simp)]
      show unescU (37 :: hexD (c.toNat / 16) :: hexD (c.toNat % 16) :: escU r) = _
      have h1 := hexD_fin ⟨c.toNat / 16, by have := c.toNat_lt; omega⟩
      have h2 := hexD_fin ⟨c.toNat % 16, by omega⟩
      simp only at h1 h2
      rw [unesc_hex, h1.1, h2.1, h1.2.1, h2.2.1, ih, hex_back]
      rfl
theorem stands_esc : ∀ l : List UInt8, standsU (escU l) = true
  | [] => rfl
  | c :: r => by
    have ih := stands_esc r
    have e : escU (c :: r) = (if plainU c then [c] else [37, hexD (c.toNat / 16), hexD (c.toNat % 16)]) ++ escU r := by simp [escU]
    rw [e]
    cases hp : plainU c with
    | true =>
      have hb := plain_byte c hp
      rw [if_pos rfl, List.singleton_append, standsU, hb.1, ih]
      have : (c != 37) = true := by simpa using hb.2
      rw [this]
      rfl
    | false =>
      rw [if_neg (by simp)]
      show standsU (37 :: hexD (c.toNat / 16) :: hexD (c.toNat % 16) :: escU r) = true
      have h1 := hexD_fin ⟨c.toNat / 16, by have := c.toNat_lt; omega⟩
      have h2 := hexD_fin ⟨c.toNat % 16, by omega⟩
      simp only at h1 h2
      have n1 : (hexD (c.toNat / 16) != 37) = true := by simpa using h1.2.2.2
      have n2 : (hexD (c.toNat % 16) != 37) = true := by simpa using h2.2.2.2
      rw [standsU, standsU, standsU, hexTwo, h1.1, h2.1, h1.2.2.1, h2.2.2.1, n1, n2, ih]
      rfl
end Go.Proofs.YtlblefcmilfjdaaGreatDoor
