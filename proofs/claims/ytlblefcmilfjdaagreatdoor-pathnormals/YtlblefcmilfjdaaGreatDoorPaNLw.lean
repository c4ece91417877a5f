
/- Normal forms: plain mathematics for layer 8, and the law PathNormals, walked. -/
import Derived.Test.YtlblefcmilfjdaaGreatDoorPaRef
import Derived.Test.YtlblefcmilfjdaaGreatDoorPaPort
namespace Go.Proofs.YtlblefcmilfjdaaGreatDoor
set_option linter.unusedVariables false
set_option linter.unusedSimpArgs false

/-! An address in lower case. -/
theorem dig_fin2 : ∀ n : Fin 256, dig (lowB (UInt8.ofNat n.val)) = dig (UInt8.ofNat n.val) ∧ (lowB (UInt8.ofNat n.val) = 46 ↔ UInt8.ofNat n.val = 46) ∧ (lowB (UInt8.ofNat n.val) = 58 ↔ UInt8.ofNat n.val = 58) ∧ (lowB (UInt8.ofNat n.val) = 48 ↔ UInt8.ofNat n.val = 48) := by decide +kernel
theorem low_dig (c : UInt8) : dig (lowB c) = dig c ∧ (lowB c = 46 ↔ c = 46) ∧ (lowB c = 58 ↔ c = 58) ∧ (lowB c = 48 ↔ c = 48) := by
  have := dig_fin2 ⟨c.toNat, c.toNat_lt⟩
  simp only [UInt8.ofNat_toNat] at this
  exact this
theorem cutL_low (b : UInt8) (hb : ∀ c, lowB c = b ↔ c = b) : ∀ l : List UInt8, cutL b (l.map lowB) = (cutL b l).map (·.map lowB)
  | [] => rfl
  | c :: r => by
    have ih := cutL_low b hb r
    rw [List.map_cons, cutL, cutL, ih]
    by_cases h : c = b
    · rw [if_pos ((hb c).2 h), if_pos h]; rfl
    · rw [if_neg (fun e => h ((hb c).1 e)), if_neg h]
      cases cutL b r with
      | nil => rfl
      | cons x y => rfl
theorem valB_low (base : Nat) (l : List UInt8) : valB base (l.map lowB) = valB base l := by
  unfold valB
  rw [List.foldl_map]
  congr 1
  funext n c
  rw [(low_dig c).1]
theorem isNum_low (base : Nat) (l : List UInt8) : isNum base (l.map lowB) = isNum base l := by
  unfold isNum
  rw [List.all_map]
  have : ((fun c => decide (dig c < base)) ∘ lowB) = fun c => decide (dig c < base) := by
    funext c
    show decide (dig (lowB c) < base) = _
    rw [(low_dig c).1]
  rw [this]
  cases l <;> rfl
theorem num_low (base : Nat) (l : List UInt8) : num base (l.map lowB) = num base l := by
  unfold num
  rw [isNum_low, valB_low]
theorem okFour_low (l : List UInt8) : okFour (l.map lowB) = okFour l := by
  unfold okFour
  rw [num_low, List.length_map]
  have : decide ((l.map lowB).headD 0 = 48) = decide (l.headD 0 = 48) := by
    cases l with
    | nil => rfl
    | cons c r =>
      show decide (lowB c = 48) = decide (c = 48)
      by_cases h : c = 48
      · rw [decide_eq_true h, decide_eq_true ((low_dig c).2.2.2.2 h)]
      · rw [decide_eq_false h, decide_eq_false (fun e => h ((low_dig c).2.2.2.1 e))]
  rw [this]
theorem four_low (l : List UInt8) : four (l.map lowB) = four l := by
  unfold four
  rw [cutL_low 46 (fun c => (low_dig c).2.1)]
  match cutL 46 l with
  | [] => rfl
  | [_] => rfl
  | [_, _] => rfl
  | [_, _, _] => rfl
  | [a, b, c, d] =>
    show (if okFour (a.map lowB) && okFour (b.map lowB) && okFour (c.map lowB) && okFour (d.map lowB) then _ else _) = _
    rw [okFour_low, okFour_low, okFour_low, okFour_low, num_low, num_low, num_low, num_low]
  | _ :: _ :: _ :: _ :: _ :: _ => rfl
theorem getD_map (l : List (List UInt8)) (k : Nat) : (l.map (·.map lowB)).getD k [] = (l.getD k []).map lowB := by
  rw [List.getD_eq_getElem?_getD, List.getD_eq_getElem?_getD, List.getElem?_map]
  cases l[k]? <;> rfl
theorem map_nil (x : List UInt8) : x.map lowB = [] ↔ x = [] := List.map_eq_nil_iff
theorem grpTo_low (l : List (List UInt8)) : ∀ k, grpTo (l.map (·.map lowB)) k = grpTo l k
  | 0 => rfl
  | k + 1 => by
    rw [grpTo, grpTo, grpTo_low l k]
    cases grpTo l k with
    | none => rfl
    | some p =>
      obtain ⟨out, gap⟩ := p
      simp only [getD_map, List.length_map, four_low, num_low, map_nil, ne_eq]
theorem parseA_low (l : List UInt8) : parseA (l.map lowB) = parseA l := by
  unfold parseA grp
  rw [four_low, cutL_low 58 (fun c => (low_dig c).2.2.1), List.length_map, grpTo_low]
/-! No percent sign in an address. -/
theorem cut_mem8 (b c : UInt8) (hc : c ≠ b) : ∀ l : List UInt8, c ∈ l → ∃ p ∈ cutL b l, c ∈ p
  | [], h => by cases h
  | d :: r, h => by
    unfold cutL
    by_cases hd : d = b
    · rw [if_pos hd]
      have : c ∈ r := by
        rcases List.mem_cons.1 h with e | e
        · exact absurd (e.trans hd) hc
        · exact e
      obtain ⟨p, hp, hcp⟩ := cut_mem8 b c hc r this
      exact ⟨p, by simp [hp], hcp⟩
    · rw [if_neg hd]
      have hpos := cutL_pos b r
      rcases List.mem_cons.1 h with e | e
      · exact ⟨_, List.mem_cons_self .., by rw [e]; exact List.mem_cons_self ..⟩
      · obtain ⟨p, hp, hcp⟩ := cut_mem8 b c hc r e
        cases hx : cutL b r with
        | nil => rw [hx] at hpos; cases hpos
        | cons x y =>
          rw [hx] at hp
          rcases List.mem_cons.1 hp with e2 | e2
          · exact ⟨_, List.mem_cons_self .., by rw [← e2]; exact List.mem_cons_of_mem _ hcp⟩
          · exact ⟨p, List.mem_cons_of_mem _ e2, hcp⟩
theorem num_bad8 (base : Nat) (hb : base ≤ 16) (l : List UInt8) (h : (37 : UInt8) ∈ l) : num base l = -1 := by
  unfold num
  rw [if_neg]
  unfold isNum
  rw [Bool.and_eq_true, List.all_eq_true]
  intro ⟨_, h2⟩
  have := of_decide_eq_true (h2 37 h)
  have e : dig 37 = 99 := by decide
  rw [e] at this
  omega
theorem okFour_bad8 (l : List UInt8) (h : (37 : UInt8) ∈ l) : okFour l = false := by
  unfold okFour
  rw [num_bad8 10 (by omega) l h]
  rfl
theorem four_bad8 (l : List UInt8) (h : (37 : UInt8) ∈ l) : four l = -1 := by
  obtain ⟨p, hp, hc⟩ := cut_mem8 46 37 (by decide) l h
  have hb := okFour_bad8 p hc
  unfold four
  match cutL 46 l, hp with
  | [], hp => rfl
  | [_], hp => rfl
  | [_, _], hp => rfl
  | [_, _, _], hp => rfl
  | [a, b, c, d], hp =>
    show (if okFour a && okFour b && okFour c && okFour d then _ else _) = _
    rw [if_neg]
    simp only [List.mem_cons, List.not_mem_nil, or_false] at hp
    rcases hp with e | e | e | e <;> rw [← e, hb] <;> simp
  | _ :: _ :: _ :: _ :: _ :: _, hp => rfl
theorem grp_none8 (l : List (List UInt8)) (k : Nat) (h : grpTo l k = none) : ∀ m, grpTo l (k + m) = none
  | 0 => h
  | m + 1 => by
    show grpTo l (k + m + 1) = none
    rw [grpTo, grp_none8 l k h m]
theorem parseA_bad (l : List UInt8) (h : (37 : UInt8) ∈ l) : parseA l = none := by
  obtain ⟨p, hp, hc⟩ := cut_mem8 58 37 (by decide) l h
  obtain ⟨k, hk, e⟩ := List.mem_iff_getElem.1 hp
  have eg : (cutL 58 l).getD k [] = p := by rw [List.getD_eq_getElem?_getD, List.getElem?_eq_getElem hk, e]; rfl
  have hn : grpTo (cutL 58 l) (k + 1) = none := by
    rw [grpTo]
    cases grpTo (cutL 58 l) k with
    | none => rfl
    | some q =>
      obtain ⟨out, gap⟩ := q
      simp only [eg]
      rw [if_neg (fun e => by rw [e] at hc; cases hc), four_bad8 p hc, if_neg (fun h => absurd h.1 (by omega)), num_bad8 16 (Nat.le_refl _) p hc, if_pos (.inl (by omega))]
  have hg : grp (cutL 58 l) = none := by
    unfold grp
    have := grp_none8 _ _ hn ((cutL 58 l).length - (k + 1))
    rw [show k + 1 + ((cutL 58 l).length - (k + 1)) = (cutL 58 l).length from by omega] at this
    rw [this]; rfl
  unfold parseA
  rw [four_bad8 l h, if_neg (by omega), hg]
/-! Hosts. -/
theorem tidy_plain (f : UInt8 → UInt8) : ∀ l : List UInt8, (37 : UInt8) ∉ l → tidyU f l = l.map f
  | [], _ => rfl
  | c :: r, h => by
    rw [List.mem_cons, not_or] at h
    rw [tidy_cons f c r (fun e => h.1 e.symm), tidy_plain f r h.2]
    rfl
theorem host_free (h : List UInt8) (hn : ¬ (2 ≤ h.length ∧ h.getD 0 0 = 91 ∧ h.getD (h.length - 1) 0 = 93)) (hh : hostU h = true) : ∀ d ∈ ([58, 91, 93, 64] : List UInt8), d ∉ h := by
  unfold hostU at hh
  rw [if_neg hn] at hh
  rw [find_any] at hh
  intro d hd hm
  rw [Bool.not_eq_true', List.any_eq_false] at hh
  exact hh d hm (by simpa using hd)
theorem host_not_free (h : List UInt8) (hf : ∀ d ∈ ([58, 91, 93, 64] : List UInt8), d ∉ h) : hostU h = true := by
  unfold hostU
  rw [if_neg, find_any, Bool.not_eq_true', List.any_eq_false]
  · intro x hx hc
    rw [List.contains_eq_mem, decide_eq_true_iff] at hc
    exact hf x hc hx
  · rintro ⟨h1, h2, _⟩
    obtain ⟨c, r, rfl⟩ : ∃ c r, h = c :: r := by cases h with
      | nil => simp at h1
      | cons c r => exact ⟨c, r, rfl⟩
    have : c = 91 := h2
    exact hf 91 (by decide) (by rw [this]; exact List.mem_cons_self ..)
theorem host_six_shape (h : List UInt8) (hb : 2 ≤ h.length ∧ h.getD 0 0 = 91 ∧ h.getD (h.length - 1) 0 = 93) : ∃ x, h = 91 :: (x ++ [93]) := by
  obtain ⟨h1, h2, h3⟩ := hb
  obtain ⟨c, r, rfl⟩ : ∃ c r, h = c :: r := by cases h with
    | nil => simp at h1
    | cons c r => exact ⟨c, r, rfl⟩
  have hc : c = 91 := h2
  subst hc
  have hr : r ≠ [] := fun e => by rw [e] at h1; simp at h1
  rcases List.eq_nil_or_concat r with e | ⟨x, d, e⟩
  · exact absurd e hr
  · refine ⟨x, ?_⟩
    rw [List.concat_eq_append] at e
    subst e
    have hd : d = 93 := by
      have e2 : (91 :: (x ++ [d])).getD ((91 :: (x ++ [d])).length - 1) 0 = d := by
        rw [List.getD_eq_getElem?_getD]
        simp
      rw [e2] at h3
      exact h3
    rw [hd]
theorem host_low (h : List UInt8) (hs : StandsI h) (hh : hostU h = true) : hostU (tidyU lowB h) = true := by
  by_cases hb : 2 ≤ h.length ∧ h.getD 0 0 = 91 ∧ h.getD (h.length - 1) 0 = 93
  · obtain ⟨x, rfl⟩ := host_six_shape h hb
    have e1 : ((91 :: (x ++ [93])).drop 1).take ((91 :: (x ++ [93])).length - 2) = x := by simp
    unfold hostU at hh
    rw [if_pos hb, e1] at hh
    have h37 : (37 : UInt8) ∉ x := fun hm => by
      rw [parseA_bad x hm] at hh
      cases hh
    have h37' : (37 : UInt8) ∉ 91 :: (x ++ [93]) := by simp [h37]
    rw [tidy_plain lowB _ h37']
    have e2 : (91 :: (x ++ [93])).map lowB = 91 :: (x.map lowB ++ [93]) := by simp; decide
    rw [e2]
    have e3 : ((91 :: (x.map lowB ++ [93])).drop 1).take ((91 :: (x.map lowB ++ [93])).length - 2) = x.map lowB := by simp
    unfold hostU
    rw [if_pos ⟨by simp, rfl, by rw [List.getD_eq_getElem?_getD]; simp⟩, e3, parseA_low]
    exact hh
  · have hf := host_free h hb hh
    exact host_not_free _ fun d hd => tidy_free lowB fok_low hs d (by revert hd; revert d; decide) (hf d hd)
/-- No port is read where a host ends in a bracket, or has no colon. -/
theorem host_noport (h : List UInt8) (hh : hostU h = true) : lastCut 58 (fun c => c == 93) h = none := by
  by_cases hb : 2 ≤ h.length ∧ h.getD 0 0 = 91 ∧ h.getD (h.length - 1) 0 = 93
  · obtain ⟨x, rfl⟩ := host_six_shape h hb
    exact lastCut_stop 58 93 (fun c => c == 93) rfl (by decide) [] (by simp) (91 :: x)
  · exact lastCut_no 58 _ h (host_free h hb hh 58 (by decide))
end Go.Proofs.YtlblefcmilfjdaaGreatDoor
namespace Go.Proofs.YtlblefcmilfjdaaGreatDoor
set_option linter.unusedVariables false
set_option linter.unusedSimpArgs false

/-- What is known of a URL for us. -/
structure Us (u : UrlV) : Prop where
  ok : prOk u = true
  usual : usualU (u.scheme.map lowB) ≠ 0
  auth : u.hasAuth = true
  nouser : u.hasUser = false
  hostne : u.host ≠ []
  nofrag : u.hasFrag = false
theorem us_of (u : UrlV) (h : forUs u = true) : Us u := by
  unfold forUs at h
  simp only [Bool.and_eq_true, Bool.not_eq_true', decide_eq_false_iff_not] at h
  obtain ⟨h1, h2, h3, h4, h5, h6⟩ := h
  exact ⟨h1, h2, h3, h4, h5, h6⟩
theorem of_us (u : UrlV) (h : Us u) : forUs u = true := by
  unfold forUs
  rw [h.ok, h.auth, h.nouser, h.nofrag, decide_eq_false h.usual, decide_eq_false h.hostne]
  rfl
structure Shape (u : UrlV) : Prop where
  user : u.user = []
  frag : u.frag = []
  port0 : u.hasPort = false → u.port = []
  query0 : u.hasQuery = false → u.query = []
  host : ∀ d ∈ ([47, 63, 35, 64] : List UInt8), d ∉ u.host
  path : u.path = [] ∨ ∃ p, u.path = 47 :: p
  pathf : ∀ d ∈ ([63, 35, 91, 93] : List UInt8), d ∉ u.path
  queryf : ∀ d ∈ ([35, 91, 93] : List UInt8), d ∉ u.query
  hostu : hostU u.host = true
  digs : u.port.all digitU = true
theorem auth_shape (A : List UInt8) (t : UrlV) (hu : t.user = []) (hn : t.hasUser = false) (hp : t.port = []) (hq : t.hasPort = false) (h : (authU A t).hasUser = false) :
    (64 : UInt8) ∉ A ∧ (authU A t).user = [] ∧ (((authU A t).hasPort = true ∧ A = (authU A t).host ++ 58 :: (authU A t).port) ∨ ((authU A t).hasPort = false ∧ (authU A t).port = [] ∧ A = (authU A t).host)) := by
  unfold authU at h ⊢
  cases h1 : lastCut 64 (fun _ => false) A with
  | some p =>
    rw [h1] at h
    simp only at h
    cases h2 : lastCut 58 (fun c => c == 93) p.2 with
    | none => rw [h2] at h; cases h
    | some q => rw [h2] at h; cases h
  | none =>
    simp only
    refine ⟨user_free A h1, ?_⟩
    cases h2 : lastCut 58 (fun c => c == 93) A with
    | none => exact ⟨hu, .inr ⟨hq, hp, rfl⟩⟩
    | some q =>
      obtain ⟨x, y⟩ := q
      exact ⟨hu, .inl ⟨rfl, lastCut_app _ _ _ _ _ h2⟩⟩
theorem shape_of (u : UrlV) (h : Us u) : Shape u := by
  have hp := (pr_ok u h.ok).2
  obtain ⟨hst, hok⟩ := parse_okU _ u hp
  obtain ⟨s3, sch, e, _, h63, h35⟩ := parts_of _ hst u hp
  obtain ⟨_, _, _, hq35, hq0, hf0⟩ := tailT_dec (joinU u)
  have ht := headC_tail s3 { tailC (joinU u) with scheme := sch }
  rw [← e] at ht
  obtain ⟨ht1, ht2, ht3, ht4⟩ := ht
  have hfr : u.frag = [] := by rw [ht1]; exact hf0 (by rw [← h.nofrag, ht2])
  have hqe : u.hasQuery = false → u.query = [] := fun hh => by rw [ht3]; exact hq0 (by rw [← hh, ht4])
  have hqf : (35 : UInt8) ∉ u.query := by rw [ht3]; exact hq35
  unfold okU at hok
  simp only [Bool.and_eq_true] at hok
  obtain ⟨⟨⟨_, hbr⟩, hdg⟩, hho⟩ := hok
  rw [h.auth] at hho
  have hho2 : hostU u.host = true := by simpa using hho
  rw [find_any, Bool.not_eq_true', List.any_eq_false] at hbr
  have hbr2 : ∀ d ∈ ([91, 93] : List UInt8), d ∉ u.path ∧ d ∉ u.query := fun d hd => ⟨fun hm => hbr d (by simp [hm]) (by simpa using hd), fun hm => hbr d (by simp [hm]) (by simpa using hd)⟩
  have hpre : Lib.hasPrefix s3 [47, 47] = true := by
    cases hx : Lib.hasPrefix s3 [47, 47] with
    | true => rfl
    | false =>
      have := h.auth
      rw [e, headC_not s3 _ hx] at this
      cases this
  have e2 := e.trans (headC_yes s3 _ hpre)
  have hA : (47 : UInt8) ∉ (Lib.cut (s3.drop 2) [47]).1 ∧ (∀ d, d ∈ (Lib.cut (s3.drop 2) [47]).1 → d ∈ s3) ∧ ((s3.drop 2).drop (Lib.cut (s3.drop 2) [47]).1.length = [] ∨ ∃ p, (s3.drop 2).drop (Lib.cut (s3.drop 2) [47]).1.length = 47 :: p) ∧ (∀ d, d ∈ (s3.drop 2).drop (Lib.cut (s3.drop 2) [47]).1.length → d ∈ s3) := by
    refine ⟨?_, fun d hd => List.mem_of_mem_drop ((PartOf.cut 47 (s3.drop 2)).1.2 d hd), ?_, fun d hd => List.mem_of_mem_drop (List.mem_of_mem_drop hd)⟩
    · rcases first_dec 47 (s3.drop 2) with hn | ⟨a, x, ea, hn⟩
      · rw [cut_no 47 _ hn]; exact hn
      · rw [ea, cut_at 47 a x hn]; exact hn
    · rcases first_dec 47 (s3.drop 2) with hn | ⟨a, x, ea, hn⟩
      · left; rw [cut_no 47 _ hn]; exact List.drop_eq_nil_of_le (Nat.le_refl _)
      · right; rw [ea, cut_at 47 a x hn]; exact ⟨x, by simp⟩
  generalize (Lib.cut (s3.drop 2) [47]).1 = A at e2 hA
  generalize (s3.drop 2).drop A.length = PT at e2 hA
  obtain ⟨hA47, hAs, hPT, hPs⟩ := hA
  have hnu := h.nouser
  rw [e2] at hnu
  obtain ⟨h64, hus, hpt⟩ := auth_shape A _ rfl rfl rfl rfl hnu
  have hm := authU_more A { ({ tailC (joinU u) with scheme := sch } : UrlV) with hasAuth := true, path := PT }
  have hpath : u.path = PT := by rw [e2]; exact hm.2.2.2.2.2.1
  rw [← e2] at hus hpt
  have hhA : ∀ d, d ∈ u.host → d ∈ A := fun d hd => by
    rcases hpt with ⟨_, ea⟩ | ⟨_, _, ea⟩
    · rw [ea]; simp [hd]
    · rw [ea]; exact hd
  refine ⟨hus, hfr, fun hh => ?_, hqe, ?_, by rw [hpath]; exact hPT, ?_, ?_, hho2, hdg⟩
  · rcases hpt with ⟨ea, _⟩ | ⟨_, ea, _⟩
    · rw [ea] at hh; cases hh
    · exact ea
  · intro d hd hm2
    have hmA := hhA d hm2
    simp only [List.mem_cons, List.not_mem_nil, or_false] at hd
    rcases hd with rfl | rfl | rfl | rfl
    · exact hA47 hmA
    · exact h63 (hAs _ hmA)
    · exact h35 (hAs _ hmA)
    · exact h64 hmA
  · intro d hd hm2
    simp only [List.mem_cons, List.not_mem_nil, or_false] at hd
    rcases hd with rfl | rfl | rfl | rfl
    · exact h63 (hPs _ (hpath ▸ hm2))
    · exact h35 (hPs _ (hpath ▸ hm2))
    · exact (hbr2 91 (by decide)).1 hm2
    · exact (hbr2 93 (by decide)).1 hm2
  · intro d hd hm2
    simp only [List.mem_cons, List.not_mem_nil, or_false] at hd
    rcases hd with rfl | rfl | rfl
    · exact hqf hm2
    · exact (hbr2 91 (by decide)).2 hm2
    · exact (hbr2 93 (by decide)).2 hm2
/-! A URL for us, put together. -/
def ppU (u : UrlV) : List UInt8 := if u.hasPort then 58 :: u.port else []
def qqU (u : UrlV) : List UInt8 := if u.hasQuery then 63 :: u.query else []
theorem join_us (u : UrlV) (hs : u.scheme ≠ []) (ha : u.hasAuth = true) (hu : u.hasUser = false) (hf : u.hasFrag = false) : joinU u = u.scheme ++ 58 :: 47 :: 47 :: (u.host ++ (ppU u ++ (u.path ++ qqU u))) := by
  unfold joinU ppU qqU
  rw [if_neg hs, ha, hu, hf]
  simp
theorem usual_ne (u : UrlV) (h : usualU (u.scheme.map lowB) ≠ 0) : u.scheme ≠ [] := fun e => by
  rw [e] at h
  exact h (by decide)
theorem stands_front (a b : List UInt8) (hb : b = [] ∨ ∃ d r, b = d :: r ∧ hexU d = false) (h : StandsI (a ++ b)) : StandsI a ∧ StandsI b := by
  rcases hb with rfl | ⟨d, r, rfl, hd⟩
  · rw [List.append_nil] at h; exact ⟨h, .nil⟩
  · exact stands_cut d hd a.length a r (Nat.le_refl _) h
theorem qq_head (u : UrlV) : qqU u = [] ∨ ∃ d r, qqU u = d :: r ∧ hexU d = false := by
  unfold qqU; split
  · exact .inr ⟨63, _, rfl, by decide⟩
  · exact .inl rfl
theorem path_head (u : UrlV) (hp : u.path = [] ∨ ∃ p, u.path = 47 :: p) : (u.path ++ qqU u = []) ∨ ∃ d r, u.path ++ qqU u = d :: r ∧ hexU d = false := by
  rcases hp with e | ⟨p, e⟩
  · rw [e]; exact qq_head u
  · rw [e]; exact .inr ⟨47, _, rfl, by decide⟩
theorem pp_head (u : UrlV) (hp : u.path = [] ∨ ∃ p, u.path = 47 :: p) : (ppU u ++ (u.path ++ qqU u) = []) ∨ ∃ d r, ppU u ++ (u.path ++ qqU u) = d :: r ∧ hexU d = false := by
  unfold ppU; split
  · exact .inr ⟨58, _, rfl, by decide⟩
  · exact path_head u hp
theorem stands_of (u : UrlV) (h : Us u) : StandsI u.host ∧ StandsI u.path ∧ StandsI u.query ∧ u.path.length ≤ 2048 := by
  have sh := shape_of u h
  obtain ⟨hl, hp⟩ := pr_ok u h.ok
  have hst := StandsI.of (parse_okU _ u hp).1
  have hj := join_us u (usual_ne u h.usual) h.auth h.nouser h.nofrag
  have hpl : u.path.length ≤ 2048 := by
    have := congrArg List.length hj
    simp at this
    omega
  rw [hj] at hst
  have h1 := (stands_cut 58 (by decide) _ _ _ (Nat.le_refl _) hst).2
  have h2 := stands_tail 47 (by decide) _ (stands_tail 47 (by decide) _ (stands_tail 58 (by decide) _ h1))
  obtain ⟨hh, h3⟩ := stands_front _ _ (pp_head u sh.path) h2
  have h4 : StandsI (u.path ++ qqU u) := by
    unfold ppU at h3
    cases hx : u.hasPort with
    | false => rw [hx] at h3; exact h3
    | true =>
      rw [hx, if_pos rfl, List.cons_append] at h3
      exact (stands_front _ _ (path_head u sh.path) (stands_tail 58 (by decide) _ h3)).2
  obtain ⟨h5, h6⟩ := stands_front _ _ (qq_head u) h4
  refine ⟨hh, h5, ?_, hpl⟩
  unfold qqU at h6
  cases hx : u.hasQuery with
  | false => rw [sh.query0 hx]; exact .nil
  | true =>
    rw [hx, if_pos rfl] at h6
    exact stands_tail 63 (by decide) _ h6
/-! Read back. -/
theorem scheme_http (s r : List UInt8) (h : s = [104, 116, 116, 112] ∨ s = [104, 116, 116, 112, 115]) : schemeU (s ++ 58 :: r) = some (s, r) := by
  have key : ∀ s : List UInt8, (∀ c ∈ s, ([58, 47, 63, 35] : List UInt8).contains c = false) → s ≠ [] → letterU (s.getD 0 0) = true → s.all schB = true → schemeU (s ++ 58 :: r) = some (s, r) := fun s h1 h2 h3 h4 => by
    have hf : findU [58, 47, 63, 35] (s ++ 58 :: r) = s.length := by
      rw [find_skip _ s _ h1, find_here _ 58 r rfl]; rfl
    unfold schemeU
    rw [hf]
    have hlen : s.length < (s ++ 58 :: r).length := by simp
    have hat : (s ++ 58 :: r).getD s.length 0 = 58 := at_mid s r 58
    rw [if_pos ⟨hlen, hat⟩]
    have ht : (s ++ 58 :: r).take s.length = s := by simp
    have hd : (s ++ 58 :: r).drop (s.length + 1) = r := by simp
    have h0 : (s ++ 58 :: r).getD 0 0 = s.getD 0 0 := head_app s _ h2
    rw [ht, hd, h0, h3, h4, if_neg]
    rintro (e | e | e)
    · exact h2 (List.length_eq_zero_iff.1 e)
    · cases e
    · cases e
  rcases h with rfl | rfl
  · exact key _ (by decide) (by decide) (by decide) (by decide)
  · exact key _ (by decide) (by decide) (by decide) (by decide)
theorem dig_plain (c : UInt8) (h : digitU c = true) : plainU c = true := by unfold plainU; rw [h]; simp
theorem digs_stand (l : List UInt8) (h : l.all digitU = true) : StandsI l := by
  induction l with
  | nil => exact .nil
  | cons c r ih =>
    rw [List.all_cons, Bool.and_eq_true] at h
    have h1 := plain_byte c (dig_plain c h.1)
    exact .byte c r h1.1 h1.2 (ih h.2)
theorem parse_us (u : UrlV) (hs : u.scheme = [104, 116, 116, 112] ∨ u.scheme = [104, 116, 116, 112, 115]) (ha : u.hasAuth = true) (hu : u.hasUser = false) (hf : u.hasFrag = false) (sh : Shape u) (p : List UInt8) (hp : u.path = 47 :: p)
    (st : StandsI u.host ∧ StandsI u.path ∧ StandsI u.query) : parseU (joinU u) = some u := by
  have hsne : u.scheme ≠ [] := by rcases hs with e | e <;> rw [e] <;> simp
  have hj := join_us u hsne ha hu hf
  have hsst : StandsI u.scheme := by rcases hs with e | e <;> rw [e] <;> exact StandsI.of (by decide)
  have hpst : StandsI (ppU u) := by
    unfold ppU
    split
    · refine .byte 58 _ (by decide) (by decide) ?_
      exact digs_stand _ sh.digs
    · exact .nil
  have hqst : StandsI (qqU u) := by
    unfold qqU; split
    · exact .byte 63 _ (by decide) (by decide) st.2.2
    · exact .nil
  have hst : StandsI (joinU u) := by
    rw [hj]
    exact hsst.app (.byte 58 _ (by decide) (by decide) (.byte 47 _ (by decide) (by decide) (.byte 47 _ (by decide) (by decide) (st.1.app (hpst.app (st.2.1.app hqst))))))
  have h58p : (58 : UInt8) ∉ u.port := fun hm => by have := dig_of _ (List.all_eq_true.1 sh.digs _ hm); revert this; decide
  have h93p : ∀ d ∈ u.port, (d == 93) = false := fun d hm => by
    have := dig_of _ (List.all_eq_true.1 sh.digs _ hm)
    rw [beq_eq_false_iff_ne]
    rintro rfl
    revert this; decide
  have hppf : ∀ d ∈ ([47, 63, 35, 64] : List UInt8), d ∉ ppU u := fun d hd hm => by
    unfold ppU at hm
    split at hm
    · rcases List.mem_cons.1 hm with e | e
      · subst e; revert hd; decide
      · have := dig_of _ (List.all_eq_true.1 sh.digs _ e)
        simp only [List.mem_cons, List.not_mem_nil, or_false] at hd
        rcases hd with rfl | rfl | rfl | rfl <;> revert this <;> decide
    · cases hm
  have htq : qqU u = tailT ({ zeroU with query := u.query, hasQuery := u.hasQuery } : UrlV) := by
    unfold qqU tailT
    simp [zeroU]
  have hA : ∀ d ∈ ([47, 63, 35, 64] : List UInt8), d ∉ u.host ++ ppU u := fun d hd hm => by
    rcases List.mem_append.1 hm with e | e
    · exact sh.host d hd e
    · exact hppf d hd e
  have hs3 : ∀ d ∈ ([63, 35] : List UInt8), d ∉ 47 :: 47 :: ((u.host ++ ppU u) ++ u.path) := fun d hd hm => by
    have hd2 : d ∈ ([47, 63, 35, 64] : List UInt8) := by simp only [List.mem_cons, List.not_mem_nil, or_false] at hd ⊢; rcases hd with h | h <;> simp [h]
    have hd3 : d ∈ ([63, 35, 91, 93] : List UInt8) := by simp only [List.mem_cons, List.not_mem_nil, or_false] at hd ⊢; rcases hd with h | h <;> simp [h]
    have hd4 : d ≠ 47 := by rintro rfl; revert hd; decide
    rcases List.mem_cons.1 hm with e | e
    · exact hd4 e
    · rcases List.mem_cons.1 e with e | e
      · exact hd4 e
      · rcases List.mem_append.1 e with e | e
        · exact hA d hd2 e
        · exact sh.pathf d hd3 e
  have hjr : joinU u = u.scheme ++ 58 :: ((47 :: 47 :: ((u.host ++ ppU u) ++ u.path)) ++ tailT ({ zeroU with query := u.query, hasQuery := u.hasQuery } : UrlV)) := by
    rw [hj, ← htq]
    simp
  have hparts := headC_parts u.scheme (47 :: 47 :: ((u.host ++ ppU u) ++ u.path)) ({ zeroU with query := u.query, hasQuery := u.hasQuery } : UrlV) (hs3 63 (by decide)) (hs3 35 (by decide)) (sh.queryf 35 (by decide)) sh.query0 (fun _ => rfl) rfl
  have hauth : headC (47 :: 47 :: ((u.host ++ ppU u) ++ u.path)) { ({ zeroU with query := u.query, hasQuery := u.hasQuery } : UrlV) with scheme := u.scheme } = u := by
    have e1 : (47 :: 47 :: ((u.host ++ ppU u) ++ u.path)).drop 2 = (u.host ++ ppU u) ++ 47 :: p := by rw [hp]; rfl
    have e2 : Lib.cut ((47 :: 47 :: ((u.host ++ ppU u) ++ u.path)).drop 2) [47] = (u.host ++ ppU u, p, true) := by
      rw [e1]; exact cut_at 47 _ p (hA 47 (by decide))
    rw [headC_yes _ _ (by rw [prefix_two]; rfl), e2, e1]
    have e3 : ((u.host ++ ppU u) ++ 47 :: p).drop (u.host ++ ppU u).length = 47 :: p := by simp
    simp only
    rw [e3]
    unfold authU
    rw [lastCut_no 64 _ _ (hA 64 (by decide))]
    simp only
    obtain ⟨a1, a2, a3, a4, a5, a6, a7, a8, a9, a10, a11, a12⟩ := u
    have hus := sh.user
    have hfr := sh.frag
    simp only at hus hfr ha hu hf hp
    subst hus; subst hfr; subst ha; subst hu; subst hf; subst hp
    cases a6 with
    | true =>
      have e4 : lastCut 58 (fun c => c == 93) (a4 ++ 58 :: a5) = some (a4, a5) := lastCut_hit 58 _ a5 h58p h93p a4
      show (match lastCut 58 (fun c => c == 93) (a4 ++ 58 :: a5) with
        | some (x, y) => _
        | none => _) = _
      rw [e4]
      rfl
    | false =>
      have h5 : a5 = [] := sh.port0 rfl
      subst h5
      have e4 : lastCut 58 (fun c => c == 93) (a4 ++ []) = none := by rw [List.append_nil]; exact host_noport a4 sh.hostu
      show (match lastCut 58 (fun c => c == 93) (a4 ++ []) with
        | some (x, y) => _
        | none => _) = _
      rw [e4]
      simp [zeroU, ppU]
  have hok : okU u = true := by
    unfold okU
    have hx : decide (findU [91, 93] (u.user ++ u.path ++ u.query ++ u.frag) = (u.user ++ u.path ++ u.query ++ u.frag).length) = true := by
      rw [find_any, Bool.not_eq_true', List.any_eq_false]
      intro x hx hc
      rw [sh.user, sh.frag] at hx
      simp only [List.nil_append, List.append_nil, List.mem_append] at hx
      rw [List.contains_eq_mem, decide_eq_true_iff] at hc
      have m1 : x ∈ ([63, 35, 91, 93] : List UInt8) := by revert hc; clear hx; revert x; decide
      have m2 : x ∈ ([35, 91, 93] : List UInt8) := by revert hc; clear hx m1; revert x; decide
      rcases hx with hx | hx
      · exact sh.pathf x m1 hx
      · exact sh.queryf x m2 hx
    rw [hx, sh.frag, sh.digs, sh.hostu]
    simp [findU]
  rw [hjr]
  unfold parseU
  rw [← hjr, hst.to, if_neg (by simp), hjr, scheme_http _ _ hs]
  simp only
  rw [hparts, hauth, hok, if_pos rfl]
end Go.Proofs.YtlblefcmilfjdaaGreatDoor
namespace Go.Proofs.YtlblefcmilfjdaaGreatDoor
set_option linter.unusedVariables false
set_option linter.unusedSimpArgs false

structure NormOf (u n : UrlV) : Prop where
  scheme : n.scheme = u.scheme.map lowB
  user : n.user = []
  hasUser : n.hasUser = false
  host : n.host = tidyU lowB u.host
  hasAuth : n.hasAuth = true
  path : n.path = orU (dotsU (tidyU id u.path)) [47]
  query : n.query = tidyU id u.query
  hasQuery : n.hasQuery = u.hasQuery
  frag : n.frag = []
  hasFrag : n.hasFrag = false
  port : (portU u = usualU (u.scheme.map lowB) ∧ n.hasPort = false ∧ n.port = []) ∨ (portU u ≠ usualU (u.scheme.map lowB) ∧ n.hasPort = true ∧ n.port = Lib.decDigits (portU u))
theorem norm_of (u : UrlV) : NormOf u (normU u) := by
  unfold normU
  by_cases h : portU u = usualU (u.scheme.map lowB)
  · rw [if_pos h]
    exact ⟨rfl, rfl, rfl, rfl, rfl, rfl, rfl, rfl, rfl, rfl, .inl ⟨h, rfl, rfl⟩⟩
  · rw [if_neg h]
    exact ⟨rfl, rfl, rfl, rfl, rfl, rfl, rfl, rfl, rfl, rfl, .inr ⟨h, rfl, rfl⟩⟩
theorem norm_ext (u n m : UrlV) (hn : NormOf u n) (hm : NormOf u m) : n = m := by
  obtain ⟨a1, a2, a3, a4, a5, a6, a7, a8, a9, a10, a11, a12⟩ := n
  obtain ⟨b1, b2, b3, b4, b5, b6, b7, b8, b9, b10, b11, b12⟩ := m
  obtain ⟨h1, h2, h3, h4, h5, h6, h7, h8, h9, h10, h11⟩ := hn
  obtain ⟨k1, k2, k3, k4, k5, k6, k7, k8, k9, k10, k11⟩ := hm
  simp only at h1 h2 h3 h4 h5 h6 h7 h8 h9 h10 h11 k1 k2 k3 k4 k5 k6 k7 k8 k9 k10 k11
  rw [h1, h2, h3, h4, h5, h6, h7, h8, h9, h10, k1, k2, k3, k4, k5, k6, k7, k8, k9, k10]
  rcases h11 with ⟨p1, p2, p3⟩ | ⟨p1, p2, p3⟩
  · rcases k11 with ⟨q1, q2, q3⟩ | ⟨q1, q2, q3⟩
    · rw [p2, p3, q2, q3]
    · exact absurd p1 q1
  · rcases k11 with ⟨q1, q2, q3⟩ | ⟨q1, q2, q3⟩
    · exact absurd q1 p1
    · rw [p2, p3, q2, q3]
theorem rn_eq (u : UrlV) (h : Us u) : rNorm u = normU u := by
  have sh := shape_of u h
  refine norm_ext u _ _ ?_ (norm_of u)
  unfold rNorm
  by_cases hc : portU u = usualU (u.scheme.map lowB)
  · rw [if_pos hc]
    exact ⟨rfl, sh.user, h.nouser, rfl, h.auth, rfl, rfl, rfl, sh.frag, h.nofrag, .inl ⟨hc, rfl, rfl⟩⟩
  · rw [if_neg hc]
    exact ⟨rfl, sh.user, h.nouser, rfl, h.auth, rfl, rfl, rfl, sh.frag, h.nofrag, .inr ⟨hc, rfl, rfl⟩⟩
theorem low_low (l : List UInt8) : (l.map lowB).map lowB = l.map lowB := by
  rw [List.map_map]
  congr 1
  funext c
  exact fok_low.twice c
theorem usual_http (l : List UInt8) (h : usualU l ≠ 0) : l = [104, 116, 116, 112] ∨ l = [104, 116, 116, 112, 115] := by
  rcases usual_cases l with ⟨e, _⟩ | ⟨e, _⟩ | ⟨_, _, e⟩
  · exact .inl e
  · exact .inr e
  · exact absurd e h
structure PathOk (q p : List UInt8) : Prop where
  slash : ∃ r, p = 47 :: r
  stands : StandsI p
  tidy : tidyU id p = p
  dots : dotsU p = p
  free : ∀ c : UInt8, c ≠ 47 → c ∈ ([47, 63, 35, 58, 64, 91, 93] : List UInt8) → c ∉ q → c ∉ p
theorem path_norm (q : List UInt8) (sp : StandsI q) (hq : q = [] ∨ ∃ r, q = 47 :: r) : PathOk q (orU (dotsU (tidyU id q)) [47]) := by
  rcases hq with rfl | ⟨r, rfl⟩
  · have e : orU (dotsU (tidyU id [])) [47] = [47] := by decide
    rw [e]
    exact ⟨⟨[], rfl⟩, StandsI.of (by decide), by decide, by decide, fun c h1 _ _ hm => by rw [List.mem_singleton] at hm; exact h1 hm⟩
  · have e1 : tidyU id (47 :: r) = 47 :: tidyU id r := tidy_cons id 47 r (by decide)
    have st := tidy_stands id fok_id sp
    have tt := tidy_twice id fok_id sp
    have hd := dots_slash (tidyU id (47 :: r)) (by rw [e1]; simp) (by rw [e1]; rfl)
    have hk := tidy_keep id _ ⟨st, tt⟩ rfl
    have eo : orU (dotsU (tidyU id (47 :: r))) [47] = dotsU (tidyU id (47 :: r)) := by unfold orU; rw [if_neg hd.1]
    rw [eo]
    refine ⟨?_, hk.1, hk.2, dots_twice _, fun c h1 h2 h3 => ?_⟩
    · obtain ⟨c, t, e⟩ := List.exists_cons_of_ne_nil hd.1
      have := hd.2
      rw [e] at this
      exact ⟨t, by rw [e]; exact congrArg (· :: t) this⟩
    · refine dots_keep (fun l => c ∉ l) (by simp) (by simpa using h1) (fun a b ha hb hm => ?_) (fun a b hm => ⟨fun h => hm (by simp [h]), fun h => hm (List.mem_append_right _ h)⟩) (fun b hb h => hb (List.mem_cons_of_mem _ h)) _ (tidy_free id fok_id sp c h2 h3)
      rcases List.mem_append.1 hm with h | h
      · exact ha h
      · exact hb h
theorem tidy_ne (f : UInt8 → UInt8) (l : List UInt8) (hs : StandsI l) (h : l ≠ []) : tidyU f l ≠ [] := by
  rcases hs.parts with e | ⟨c, r, e, _, h2, _⟩ | ⟨a, b, r, e, _, _, _⟩
  · exact absurd e h
  · rw [e, tidy_cons f c r h2]; simp
  · rw [e, tidy_hex]
    unfold signU
    split <;> simp
theorem seven (d : UInt8) (l : List UInt8) (hl : ∀ x ∈ l, x ∈ ([47, 63, 35, 58, 64, 91, 93] : List UInt8)) (h : d ∈ l) : d ∈ ([47, 63, 35, 58, 64, 91, 93] : List UInt8) := hl d h
theorem norm_shape (u : UrlV) (h : Us u) : Shape (normU u) ∧ (∃ p, (normU u).path = 47 :: p) ∧ StandsI (normU u).host ∧ StandsI (normU u).path ∧ StandsI (normU u).query := by
  have sh := shape_of u h
  obtain ⟨st1, st2, st3, _⟩ := stands_of u h
  have n := norm_of u
  have po := path_norm u.path st2 sh.path
  rw [← n.path] at po
  refine ⟨⟨n.user, n.frag, fun hh => ?_, fun hh => ?_, fun d hd => ?_, .inr po.slash, fun d hd => ?_, fun d hd => ?_, ?_, ?_⟩, po.slash, ?_, po.stands, ?_⟩
  · rcases n.port with ⟨_, _, e⟩ | ⟨_, e, _⟩
    · exact e
    · rw [e] at hh; cases hh
  · rw [n.hasQuery] at hh
    rw [n.query, sh.query0 hh]; rfl
  · rw [n.host]
    exact tidy_free lowB fok_low st1 d (seven d _ (by decide) hd) (sh.host d hd)
  · exact po.free d (by rintro rfl; revert hd; decide) (seven d _ (by decide) hd) (sh.pathf d hd)
  · rw [n.query]
    exact tidy_free id fok_id st3 d (seven d _ (by decide) hd) (sh.queryf d hd)
  · rw [n.host]; exact host_low u.host st1 sh.hostu
  · rcases n.port with ⟨_, _, e⟩ | ⟨_, _, e⟩
    · rw [e]; rfl
    · rw [e]; exact (dec_val _).2.1
  · rw [n.host]; exact tidy_stands lowB fok_low st1
  · rw [n.query]; exact tidy_stands id fok_id st3
theorem norm_us (u : UrlV) (h : Us u) (hl : (joinU (normU u)).length ≤ 2048) : Us (normU u) := by
  obtain ⟨sh, ⟨p, hp⟩, st⟩ := norm_shape u h
  have n := norm_of u
  have hs := usual_http _ h.usual
  rw [← n.scheme] at hs
  have hpa := parse_us (normU u) hs n.hasAuth n.hasUser n.hasFrag sh p hp st
  refine ⟨ok_pr _ hl hpa, ?_, n.hasAuth, n.hasUser, ?_, n.hasFrag⟩
  · rw [n.scheme, low_low]; exact h.usual
  · rw [n.host]; exact tidy_ne lowB u.host (stands_of u h).1 h.hostne
theorem norm_port (u : UrlV) (h : Us u) (hl : (joinU (normU u)).length ≤ 2048) : portU (normU u) = portU u := by
  have n := norm_of u
  have hu := of_us _ (norm_us u h hl)
  conv => lhs; unfold portU
  rw [hu, if_pos rfl, n.scheme, low_low]
  rcases n.port with ⟨h1, _, e⟩ | ⟨h1, _, e⟩
  · rw [e, if_pos rfl, h1]
  · obtain ⟨v1, _, v3⟩ := dec_val (portU u)
    rw [e, if_neg v3]
    unfold numU
    rw [v1, if_pos (port_le u)]
theorem norm_twice (u : UrlV) (h : Us u) (hl : (joinU (normU u)).length ≤ 2048) : normU (normU u) = normU u := by
  have sh := shape_of u h
  obtain ⟨st1, st2, st3, _⟩ := stands_of u h
  have n := norm_of u
  have m := norm_of (normU u)
  have po := path_norm u.path st2 sh.path
  rw [← n.path] at po
  refine norm_ext u _ _ ⟨?_, m.user, m.hasUser, ?_, m.hasAuth, ?_, ?_, ?_, m.frag, m.hasFrag, ?_⟩ n
  · rw [m.scheme, n.scheme, low_low]
  · rw [m.host, n.host, tidy_twice lowB fok_low st1]
  · rw [m.path, po.tidy, po.dots]
    obtain ⟨r, e⟩ := po.slash
    rw [← n.path]
    unfold orU
    rw [if_neg (by rw [e]; simp)]
  · rw [m.query, n.query, tidy_twice id fok_id st3]
  · rw [m.hasQuery, n.hasQuery]
  · have := m.port
    rw [norm_port u h hl, n.scheme, low_low] at this
    exact this
theorem norm_origin (u : UrlV) (h : Us u) (hl : (joinU (normU u)).length ≤ 2048) : originU (normU u) = originU u := by
  have n := norm_of u
  unfold originU
  rw [norm_port u h hl, n.scheme, low_low, n.host, tidy_twice lowB fok_low (stands_of u h).1]
theorem norm_len (u : UrlV) (h : Us u) (hu : LenU 3000 u) : LenU 100000 (normU u) := by
  obtain ⟨st1, st2, st3, _⟩ := stands_of u h
  have n := norm_of u
  have h1 := tidy_len lowB st1
  have h2 := tidy_len id st2
  have h3 := tidy_len id st3
  have h4 := dots_len (tidyU id u.path)
  obtain ⟨u1, u2, u3, u4, u5, u6, u7⟩ := hu
  refine ⟨?_, ?_, ?_, ?_, ?_, ?_, ?_⟩
  · rw [n.scheme, List.length_map]; omega
  · rw [n.user]; simp
  · rw [n.host]; omega
  · rcases n.port with ⟨_, _, e⟩ | ⟨_, _, e⟩
    · rw [e]; simp
    · rw [e]; have := dec_len 4 (portU u) (by have := port_le u; omega); omega
  · rw [n.path]
    have := or_len (dotsU (tidyU id u.path)) [47] 3000 (by omega) (by simp)
    omega
  · rw [n.query]; omega
  · rw [n.frag]; simp
end Go.Proofs.YtlblefcmilfjdaaGreatDoor
namespace Go.Proofs.YtlblefcmilfjdaaGreatDoor
set_option linter.unusedVariables false
set_option linter.unusedSimpArgs false
open Go.RowKit Go.BigFrame

def LongAns (u : UrlV) (e : Ending) : Prop := ∃ b, e = .returned (.bool b) ∧ (b = false → LenU 3000 u)
set_option maxHeartbeats 3000000 in
set_option maxRecDepth 100000 in
/-- Some part is longer than 3000 bytes, or none is. -/
theorem long_any (u : UrlV) (w : World) : Calls Tryz.prog 9 #[.agg (ucs u)] w fun e w' => LongAns u e ∧ Below w.heap.size w w' := by
  have HB : Hid (Below w.heap.size w (w.alloc (.cells (ucs u) 26))) := alloc_below (Below.refl _ w) (Nat.le_refl _) _
  have c0 := cellU (heap_alloc_new w (.cells (ucs u) 26)) 0 (.string (asS u.scheme)) rfl
  have c1 := cellU (heap_alloc_new w (.cells (ucs u) 26)) 1 (.string (asS u.user)) rfl
  have c3 := cellU (heap_alloc_new w (.cells (ucs u) 26)) 3 (.string (asS u.host)) rfl
  have c4 := cellU (heap_alloc_new w (.cells (ucs u) 26)) 4 (.string (asS u.port)) rfl
  have c7 := cellU (heap_alloc_new w (.cells (ucs u) 26)) 7 (.string (asS u.path)) rfl
  have c8 := cellU (heap_alloc_new w (.cells (ucs u) 26)) 8 (.string (asS u.query)) rfl
  have c10 := cellU (heap_alloc_new w (.cells (ucs u) 26)) 10 (.string (asS u.frag)) rfl
  have s0 := asS_size u.scheme
  have s1 := asS_size u.user
  have s2 := asS_size u.host
  have s3 := asS_size u.port
  have s4 := asS_size u.path
  have s5 := asS_size u.query
  have s6 := asS_size u.frag
  obtain ⟨V, hV⟩ : ∃ V, V = w.alloc (Obj.cells (ucs u) 26) := ⟨_, rfl⟩
  by_cases h0 : (3000 : Int) < ((asS u.scheme).size : Int)
  · clear hV s0 s1 s2 s3 s4 s5 s6
    go_enter Tryz.func9, Tryz.ntmps9
    go_wp2_with fail
    go_ret
    exact ⟨⟨_, rfl, fun h => by cases h⟩, HB.out⟩
  by_cases h1 : (3000 : Int) < ((asS u.user).size : Int)
  · clear hV s0 s1 s2 s3 s4 s5 s6
    go_enter Tryz.func9, Tryz.ntmps9
    go_wp2_with fail
    go_ret
    exact ⟨⟨_, rfl, fun h => by cases h⟩, HB.out⟩
  by_cases h2 : (3000 : Int) < ((asS u.host).size : Int)
  · clear hV s0 s1 s2 s3 s4 s5 s6
    go_enter Tryz.func9, Tryz.ntmps9
    go_wp2_with fail
    go_ret
    exact ⟨⟨_, rfl, fun h => by cases h⟩, HB.out⟩
  by_cases h3 : (3000 : Int) < ((asS u.port).size : Int)
  · clear hV s0 s1 s2 s3 s4 s5 s6
    go_enter Tryz.func9, Tryz.ntmps9
    go_wp2_with fail
    go_ret
    exact ⟨⟨_, rfl, fun h => by cases h⟩, HB.out⟩
  by_cases h4 : (3000 : Int) < ((asS u.path).size : Int)
  · clear hV s0 s1 s2 s3 s4 s5 s6
    go_enter Tryz.func9, Tryz.ntmps9
    go_wp2_with fail
    go_ret
    exact ⟨⟨_, rfl, fun h => by cases h⟩, HB.out⟩
  by_cases h5 : (3000 : Int) < ((asS u.query).size : Int)
  · clear hV s0 s1 s2 s3 s4 s5 s6
    go_enter Tryz.func9, Tryz.ntmps9
    go_wp2_with fail
    go_ret
    exact ⟨⟨_, rfl, fun h => by cases h⟩, HB.out⟩
  by_cases h6 : (3000 : Int) < ((asS u.frag).size : Int)
  · clear hV s0 s1 s2 s3 s4 s5 s6
    go_enter Tryz.func9, Tryz.ntmps9
    go_wp2_with fail
    go_ret
    exact ⟨⟨_, rfl, fun h => by cases h⟩, HB.out⟩
  have HL : Hid (LenU 3000 u) := ⟨by omega, by omega, by omega, by omega, by omega, by omega, by omega⟩
  clear hV s0 s1 s2 s3 s4 s5 s6
  go_enter Tryz.func9, Tryz.ntmps9
  go_wp2_with fail
  go_ret
  exact ⟨⟨_, rfl, fun _ => HL.out⟩, HB.out⟩
end Go.Proofs.YtlblefcmilfjdaaGreatDoor
namespace Go.Proofs.YtlblefcmilfjdaaGreatDoor
set_option linter.unusedVariables false
set_option linter.unusedSimpArgs false
open Go.RowKit Go.BigFrame
attribute [local go_sem ↓] loadU_eq

theorem eqZ8 (W : World) : (Op.equalIn 10000 26 (.agg (ucs zeroU)) (.agg #[.string ⟨#[]⟩, .string ⟨#[]⟩, .bool false, .string ⟨#[]⟩, .string ⟨#[]⟩, .bool false, .bool false, .string ⟨#[]⟩, .string ⟨#[]⟩, .bool false, .string ⟨#[]⟩, .bool false])).run Tryz.prog W = .ok true W := by
  have := eqU zeroU zeroU W
  rw [eqUV_self] at this
  exact this
set_option maxHeartbeats 8000000 in
set_option maxRecDepth 100000 in
theorem normals_law (u : UrlV) (w : World) (hT : TabX w) : Calls Tryz.prog 4 #[.agg (ucs u)] w fun e w' => e = .returned (.bool true) ∧ Below w.heap.size w w' := by
  have HAW := hid awake8
  have HT := hid hT
  have HLG := hid (fun W => long_any u W)
  have HLA : Hid (∀ e, LongAns u e → ∃ b, e = .returned (.bool b) ∧ (b = false → LenU 3000 u)) := fun e h => h
  generalize LongAns u = LA at HLG HLA
  have l0 : (loadI 26 (.pointer (some ⟨w.heap.size, 0, none⟩))).run Tryz.prog (w.alloc (.cells (ucs u) 26)) = .ok (.agg (ucs u)) (w.alloc (.cells (ucs u) 26)) := loadU_row (heap_alloc_new w _)
  clear hT
  go_enter Tryz.func4, Tryz.ntmps4
  go_wp2_with fail
  refine (HLG.out _).mono ?_
  rintro e W1 ⟨hla, hb1⟩
  obtain ⟨b, rfl, hlen⟩ := HLA.out _ hla
  have HR1 := hid (row_keep hb1 (heap_alloc_new w _))
  have HB1 : Hid (Below w.heap.size w W1) := (alloc_below (Below.refl _ w) (Nat.le_refl _) _).trans (hb1.mono (by simp))
  have HLEN := hid hlen
  clear hb1 l0 hla hlen
  cases b with
  | true =>
    go_wp2_with fail
    refine (HAW.out _ (HT.out.below HB1.out)).mono ?_
    rintro e W2 ⟨rfl, hb2⟩
    have HB2 := hid (HB1.out.trans (hb2.mono HB1.out.size))
    clear hb2
    go_wp2_with fail
    go_ret
    exact ⟨rfl, HB2.out⟩
  | false =>
    have hu3 := HLEN.out rfl
    have hu := hu3.more (m := 100000) (by omega)
    have HNO := hid (fun W h => normal_any u hu (fun h => stands_of u (us_of u h)) W h)
    have HOR := hid (fun W h => origin_any u hu (fun h => (stands_of u (us_of u h)).1) W h)
    have HPO := hid (fun W h => port_any u hu W h)
    have HRP := hid (fun W => refPort_any u hu W)
    have hg := guardU
    have l1 := loadU_row HR1.out
    by_cases h0 : portU u = 0
    · have hE : portE u = 1 := by unfold portE; rw [if_pos h0]
      rw [if_pos h0, hE] at HNO HOR
      rw [h0, hE] at HPO
      rw [h0] at HRP
      have hz := eqZ8
      clear h0 hE hu hu3 HLEN
      go_wp2_with fail
      refine (HNO.out _ (HT.out.below HB1.out)).mono ?_
      rintro e W2 ⟨rfl, hb2⟩
      have HR2 := hid (row_keep hb2 HR1.out)
      have HB2 := hid (HB1.out.trans (hb2.mono HB1.out.size))
      clear hb2 l1
      go_wp2_with (first
        | (refine store_url rfl _ _ rfl W2.heap.size zeroU rfl rfl _ (heap_alloc_new W2 _) rfl ?_)
        | fail)
      intro W3 hO3 hW3
      obtain ⟨g3, hg3⟩ : ∃ g, g = W2.heap.size := ⟨_, rfl⟩
      have hg1 : w.heap.size < g3 := by have := row_lt HR2.out; omega
      rw [← hg3] at hO3 hW3 ⊢
      have HR3 : Hid (W3.heap[w.heap.size]? = some (.cells (ucs u) 26 (0, 0))) := (hO3.block _ (by omega)).trans (heap_old HR2.out)
      have HB3 : Hid (Below w.heap.size w W3) := (alloc_below HB2.out HB2.out.size _).trans (hO3.below (by omega))
      have HN3 := hid hW3
      have l3 := loadU_row HR3.out
      clear hO3 hW3 hg3
      go_wp2_with fail
      refine (HOR.out _ (HT.out.below HB3.out)).mono ?_
      rintro e W4 ⟨rfl, hb4⟩
      have HR4 := hid (row_keep hb4 HR3.out)
      have HN4 := hid (row_keep hb4 HN3.out)
      have HB4 := hid (HB3.out.trans (hb4.mono HB3.out.size))
      have l4 := loadU_row HR4.out
      clear hb4 l3
      go_wp2_with fail
      refine (HPO.out _ (HT.out.below HB4.out)).mono ?_
      rintro e W5 ⟨rfl, hb5⟩
      have HR5 := hid (row_keep hb5 HR4.out)
      have HN5 := hid (row_keep hb5 HN4.out)
      have HB5 := hid (HB4.out.trans (hb5.mono HB4.out.size))
      have l5 := loadU_row HR5.out
      clear hb5 l4
      go_wp2_with fail
      refine (HRP.out _).mono ?_
      rintro e W6 ⟨rfl, hb6⟩
      have HB6 := hid (HB5.out.trans (hb6.mono HB5.out.size))
      have k1 := loadU_row (row_keep hb6 HN5.out)
      clear hb6 l5
      go_wp2_with fail
      refine (HAW.out _ (HT.out.below HB6.out)).mono ?_
      rintro e W7 ⟨rfl, hb7⟩
      have HB7 := hid (HB6.out.trans (hb7.mono HB6.out.size))
      clear hb7 k1
      go_wp2_with fail
      go_ret
      exact ⟨rfl, HB7.out⟩
    · have hE : portE u = 0 := by unfold portE; rw [if_neg h0]
      have hfu : forUs u = true := by
        cases hf : forUs u with
        | true => rfl
        | false => exact absurd (port_no u hf).1 h0
      have hus := us_of u hfu
      obtain ⟨st1, st2, st3, hpl⟩ := stands_of u hus
      rw [if_neg h0, hE] at HNO HOR
      rw [hE] at HPO
      have HRN := hid (fun W => refNormal_any u hu hus.usual st1 st2 st3 hpl W)
      rw [rn_eq u hus] at HRN
      have HRO := hid (fun W => refOrigin_any u hu hus.usual st1 st2 st3 hpl W)
      have hnl := norm_len u hus hu3
      have HLN := hid (fun W => refLong_any (normU u) hnl W)
      have HNN : Hid (¬ 2048 < (joinU (normU u)).length → ∀ W, TabX W → Calls Tryz.prog 10 #[.agg (ucs (normU u))] W fun e w' => e = .returned (.tuple #[.agg (ucs (normU u)), .int .i64 0]) ∧ Below W.heap.size W w') := fun hl W h => by
        have hp := norm_port u hus (by omega)
        have := normal_any (normU u) hnl (fun h => stands_of _ (us_of _ h)) W h
        rw [hp, if_neg h0, norm_twice u hus (by omega), show portE (normU u) = 0 from by unfold portE; rw [hp, if_neg h0]] at this
        exact this
      have HON : Hid (¬ 2048 < (joinU (normU u)).length → ∀ W, TabX W → Calls Tryz.prog 11 #[.agg (ucs (normU u))] W fun e w' => e = .returned (.tuple #[.string (asS (originU u)), .int .i64 0]) ∧ Below W.heap.size W w') := fun hl W h => by
        have hp := norm_port u hus (by omega)
        have := origin_any (normU u) hnl (fun h => (stands_of _ (us_of _ h)).1) W h
        rw [hp, if_neg h0, norm_origin u hus (by omega), show portE (normU u) = 0 from by unfold portE; rw [hp, if_neg h0]] at this
        exact this
      have hq := fun (W : World) => eqU (normU u) (normU u) W
      rw [eqUV_self] at hq
      have hpz : ((portU u : Int) == 0) = false := by rw [beq_eq_false_iff_ne]; omega
      have hpp : ((portU u : Int) == (portU u : Int)) = true := by simp
      generalize normU u = n at HNO HRN HLN HNN HON hq
      have hoo : ((asS (originU u)).toList == (asS (originU u)).toList) = true := by simp
      generalize asS (originU u) = O at HOR HRO HON hoo
      clear h0 hE hfu hus st1 st2 st3 hpl hnl hu hu3 HLEN
      go_wp2_with fail
      refine (HNO.out _ (HT.out.below HB1.out)).mono ?_
      rintro e W2 ⟨rfl, hb2⟩
      have HR2 := hid (row_keep hb2 HR1.out)
      have HB2 := hid (HB1.out.trans (hb2.mono HB1.out.size))
      clear hb2 l1
      go_wp2_with (first
        | (refine store_url rfl _ _ rfl W2.heap.size n rfl rfl _ (heap_alloc_new W2 _) rfl ?_)
        | fail)
      intro W3 hO3 hW3
      obtain ⟨g3, hg3⟩ : ∃ g, g = W2.heap.size := ⟨_, rfl⟩
      have hg1 : w.heap.size < g3 := by have := row_lt HR2.out; omega
      rw [← hg3] at hO3 hW3 ⊢
      have HR3 : Hid (W3.heap[w.heap.size]? = some (.cells (ucs u) 26 (0, 0))) := (hO3.block _ (by omega)).trans (heap_old HR2.out)
      have HB3 : Hid (Below w.heap.size w W3) := (alloc_below HB2.out HB2.out.size _).trans (hO3.below (by omega))
      have HN3 := hid hW3
      have l3 := loadU_row HR3.out
      clear hO3 hW3 hg3
      go_wp2_with fail
      refine (HOR.out _ (HT.out.below HB3.out)).mono ?_
      rintro e W4 ⟨rfl, hb4⟩
      have HR4 := hid (row_keep hb4 HR3.out)
      have HN4 := hid (row_keep hb4 HN3.out)
      have HB4 := hid (HB3.out.trans (hb4.mono HB3.out.size))
      have l4 := loadU_row HR4.out
      clear hb4 l3
      go_wp2_with fail
      refine (HPO.out _ (HT.out.below HB4.out)).mono ?_
      rintro e W5 ⟨rfl, hb5⟩
      have HR5 := hid (row_keep hb5 HR4.out)
      have HN5 := hid (row_keep hb5 HN4.out)
      have HB5 := hid (HB4.out.trans (hb5.mono HB4.out.size))
      have l5 := loadU_row HR5.out
      clear hb5 l4
      go_wp2_with fail
      refine (HRP.out _).mono ?_
      rintro e V ⟨rfl, hb6⟩
      have HRV := hid (row_keep hb6 HR5.out)
      have HNV := hid (row_keep hb6 HN5.out)
      have HBV := hid (HB5.out.trans (hb6.mono HB5.out.size))
      clear hb6 l5
      go_upto_region 9 with (fail)
      have ldu : ∀ d os, (loadI 26 (.pointer (some ⟨w.heap.size, 0, none⟩))).run Tryz.prog (Sort.grow (redrawn V d) os) = .ok (.agg (ucs u)) (Sort.grow (redrawn V d) os) := fun d os => loadU_row (((below_regrown V d os).block _ (row_lt HRV.out)).trans HRV.out)
      have ldn : ∀ d os, (loadI 26 (.pointer (some ⟨g3, 0, none⟩))).run Tryz.prog (Sort.grow (redrawn V d) os) = .ok (.agg (ucs n)) (Sort.grow (redrawn V d) os) := fun d os => loadU_row (((below_regrown V d os).block _ (row_lt HNV.out)).trans HNV.out)
      have c1 : REG7 14 #[.agg (ucs u)] V (.agg (ucs n)) := fun d os => Calls.regrown_of (HRN.out _)
      have c2 : REG7 15 #[.agg (ucs u)] V (.string O) := fun d os => Calls.regrown_of (HRO.out _)
      refine wp_region_quiet_below (by kernel_rfl) (by kernel_rfl) ?_
      repeat (go_big_quiet_step (first | (go_at_call 14; exact c1 _ _) | (go_at_call 15; exact c2 _ _)))
      refine wpQuiet_nil ?_
      rintro W9 ⟨⟨dq, osq⟩, hw⟩
      have hb9 : Below V.heap.size V W9 := by rw [hw]; exact below_regrown V dq osq
      have HN9 := hid (row_keep hb9 HNV.out)
      have HB9 := hid (HBV.out.trans (hb9.mono HBV.out.size))
      have l9 := loadU_row HN9.out
      clear hw hb9 c1 c2 ldu ldn
      go_wp2_with fail
      refine (HLN.out _).mono ?_
      rintro e W10 ⟨rfl, hb10⟩
      have HN10 := hid (row_keep hb10 HN9.out)
      have HB10 := hid (HB9.out.trans (hb10.mono HB9.out.size))
      clear hb10 l9
      by_cases hl : 2048 < (joinU n).length
      · rw [decide_eq_true hl]
        clear hl
        go_wp2_with fail
        refine (HAW.out _ (HT.out.below HB10.out)).mono ?_
        rintro e W11 ⟨rfl, hb11⟩
        have HB11 := hid (HB10.out.trans (hb11.mono HB10.out.size))
        clear hb11
        go_wp2_with fail
        go_ret
        exact ⟨rfl, HB11.out⟩
      · rw [decide_eq_false hl]
        have HNN2 := hid (HNN.out hl)
        have HON2 := hid (HON.out hl)
        have l10 := loadU_row HN10.out
        clear hl HNN HON
        go_wp2_with fail
        refine (HNN2.out _ (HT.out.below HB10.out)).mono ?_
        rintro e W11 ⟨rfl, hb11⟩
        have HN11 := hid (row_keep hb11 HN10.out)
        have HB11 := hid (HB10.out.trans (hb11.mono HB10.out.size))
        clear hb11 l10
        go_wp2_with (first
          | (refine store_url rfl _ _ rfl W11.heap.size n rfl rfl _ (heap_alloc_new W11 _) rfl ?_)
          | fail)
        intro W12 hO12 hW12
        obtain ⟨g12, hg12⟩ : ∃ g, g = W11.heap.size := ⟨_, rfl⟩
        have hg2 : g3 < g12 := by have := row_lt HN11.out; omega
        rw [← hg12] at hO12 hW12 ⊢
        have HN12 : Hid (W12.heap[g3]? = some (.cells (ucs n) 26 (0, 0))) := (hO12.block _ (by omega)).trans (heap_old HN11.out)
        have HB12 : Hid (Below w.heap.size w W12) := (alloc_below HB11.out HB11.out.size _).trans (hO12.below (by omega))
        have HM12 := hid hW12
        have l12 := loadU_row HN12.out
        clear hO12 hW12 hg12
        go_wp2_with fail
        refine (HON2.out _ (HT.out.below HB12.out)).mono ?_
        rintro e W13 ⟨rfl, hb13⟩
        have HB13 := hid (HB12.out.trans (hb13.mono HB12.out.size))
        have k1 := loadU_row (row_keep hb13 HN12.out)
        have k2 := loadU_row (row_keep hb13 HM12.out)
        clear hb13 l12
        go_wp2_with fail
        refine (HAW.out _ (HT.out.below HB13.out)).mono ?_
        rintro e W14 ⟨rfl, hb14⟩
        have HB14 := hid (HB13.out.trans (hb14.mono HB13.out.size))
        clear hb14 k1 k2
        go_wp2_with fail
        go_ret
        exact ⟨rfl, HB14.out⟩
end Go.Proofs.YtlblefcmilfjdaaGreatDoor
