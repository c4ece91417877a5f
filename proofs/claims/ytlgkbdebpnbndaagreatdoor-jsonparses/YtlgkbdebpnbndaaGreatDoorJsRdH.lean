
/- The reference's reader: a value, whatever it is, as deep as may be. -/
import Derived.Test.YtlgkbdebpnbndaaGreatDoorJsRdE
import Derived.Test.YtlgkbdebpnbndaaGreatDoorJsRdF
import Derived.Test.YtlgkbdebpnbndaaGreatDoorJsRdG
namespace Go.Proofs.YtlgkbdebpnbndaaGreatDoor
set_option linter.unusedVariables false
set_option linter.unusedSimpArgs false
open Go.RowKit Go.BigFrame

theorem u8_neQ {c k : UInt8} (h : c ≠ k) : ((c.toNat : Int) != (k.toNat : Int)) = true := by
  rw [bne_iff_ne]
  exact fun e => h (UInt8.toNat_inj.1 (by omega))
theorem u8_beqQ {c k : UInt8} (h : c ≠ k) : ((c.toNat : Int) == (k.toNat : Int)) = false := by
  rw [beq_eq_false_iff_ne]
  exact fun e => h (UInt8.toNat_inj.1 (by omega))
theorem top_ok {α : Type} {leaf : LabJ → α} {nest : Bool → List UInt8 → Nat → Except Nat (α × List UInt8 × Nat)} {l r : List UInt8} {n : Nat} {c : UInt8} (hl : l.dropWhile whX = c :: r) (hb : begJ c = true) (hn : n + 1 ≤ 8192) : topJ leaf nest l n = atomJ leaf nest (c :: r) (n + 1) := by
  unfold topJ
  rw [hl, show cntJ (c :: r) n = .ok (n + 1) from by show (if begJ c = true then (if n + 1 ≤ 8192 then Except.ok (n + 1) else Except.error 3) else Except.ok n) = _; rw [if_pos hb, if_pos hn]]
theorem top_many {α : Type} {leaf : LabJ → α} {nest : Bool → List UInt8 → Nat → Except Nat (α × List UInt8 × Nat)} {l r : List UInt8} {n : Nat} {c : UInt8} (hl : l.dropWhile whX = c :: r) (hb : begJ c = true) (hn : ¬ n + 1 ≤ 8192) : topJ leaf nest l n = .error 3 := by
  unfold topJ
  rw [hl, show cntJ (c :: r) n = .error 3 from by show (if begJ c = true then (if n + 1 ≤ 8192 then Except.ok (n + 1) else Except.error 3) else Except.ok n) = _; rw [if_pos hb, if_neg hn]]
theorem top_no {α : Type} {leaf : LabJ → α} {nest : Bool → List UInt8 → Nat → Except Nat (α × List UInt8 × Nat)} {l r : List UInt8} {n : Nat} {c : UInt8} (hl : l.dropWhile whX = c :: r) (hb : begJ c = false) : topJ leaf nest l n = atomJ leaf nest (c :: r) n := by
  unfold topJ
  rw [hl, show cntJ (c :: r) n = .ok n from by show (if begJ c = true then (if n + 1 ≤ 8192 then Except.ok (n + 1) else Except.error 3) else Except.ok n) = _; rw [hb]; rfl]
theorem atom_textQ {α : Type} {leaf : LabJ → α} {nest : Bool → List UInt8 → Nat → Except Nat (α × List UInt8 × Nat)} {r : List UInt8} {m : Nat} : (∀ t r2, textJ (34 :: r) = some (t, r2) → atomJ leaf nest (34 :: r) m = .ok (leaf (3, 0, t, []), r2, m)) ∧ (textJ (34 :: r) = none → atomJ leaf nest (34 :: r) m = .error 5) :=
  ⟨fun t r2 h => atom_str (pre_hd (by decide)) (pre_hd (by decide)) (pre_hd (by decide)) (pre_oneQ 34) h, fun h => atom_sno (pre_hd (by decide)) (pre_hd (by decide)) (pre_hd (by decide)) (pre_oneQ 34) h⟩
theorem dig_ne {c k : UInt8} (h : digJ c = true) (hk : digJ k = false) : c ≠ k := fun e => by rw [e, hk] at h; cases h
theorem valQ_top (d lev : Nat) (nest : Bool → List UInt8 → Nat → Except Nat (VJ d × List UInt8 × Nat)) (hval : ∀ l n, valJ d lev l n = topJ (leafJ d) nest l n) (HL : NestQOk d lev 4 93 (nest false)) (HO : NestQOk d lev 5 125 (nest true)) (hlev : lev ≤ 1000) : ValQOk d lev := by
  intro l n s R w hs hn h
  cases hl : l.dropWhile whX with
  | nil =>
    refine valQ_no d lev l n s R w hs hn h [] hl 0 rfl rfl rfl rfl rfl rfl rfl rfl (.inl rfl) ?_
    rw [hval]
    unfold topJ
    rw [hl]
    rfl
  | cons c r =>
    cases hb : begJ c with
    | false =>
      have hne : ∀ k, begJ k = true → c ≠ k := fun k hk e => by rw [e, hk] at hb; cases hb
      have hdg : digJ c = false := by
        cases hd : digJ c with
        | false => rfl
        | true => rw [beg_dig hd] at hb; cases hb
      refine valQ_no d lev l n s R w hs hn h (c :: r) hl (c.toNat : Int) rfl (u8_neQ (hne 91 rfl)) (u8_neQ (hne 123 rfl)) (u8_neQ (hne 34 rfl)) (u8_neQ (hne 116 rfl)) (u8_neQ (hne 102 rfl)) (u8_neQ (hne 110 rfl)) (u8_neQ (hne 45 rfl)) ?_ ?_
      · unfold digJ at hdg
        rw [decide_eq_false_iff_not] at hdg
        by_cases h48 : (48 : Int) ≤ (c.toNat : Int)
        · exact .inr ⟨decide_eq_true h48, decide_eq_false (by omega)⟩
        · exact .inl (decide_eq_false h48)
      · rw [hval, top_no hl hb, atom_rest (hne 110 rfl) (hne 116 rfl) (hne 102 rfl) (hne 34 rfl) (hne 91 rfl) (hne 123 rfl), num_no (hne 45 rfl) hdg]
    | true =>
      by_cases hm : n + 1 ≤ 8192
      · have hv := (hval l n).trans (top_ok hl hb hm)
        rcases beg_cases hb with rfl | rfl | rfl | rfl | rfl | rfl | hc
        · refine valQ_110 d lev l n s R w hs hn h _ hl rfl hm (fun hp => ?_) (fun hp => ?_)
          · rw [hv, atom_null hp]
          · rw [hv]
            exact atom_nno hp (pre_hd (by decide)) (pre_hd (by decide)) (pre_hd (by decide)) (pre_hd (by decide)) (pre_hd (by decide)) (num_no (by decide) (by decide))
        · refine valQ_116 d lev l n s R w hs hn h _ hl rfl hm (fun hp => ?_) (fun hp => ?_)
          · rw [hv, atom_true (pre_hd (by decide)) hp]
          · rw [hv]
            exact atom_nno (pre_hd (by decide)) hp (pre_hd (by decide)) (pre_hd (by decide)) (pre_hd (by decide)) (pre_hd (by decide)) (num_no (by decide) (by decide))
        · refine valQ_102 d lev l n s R w hs hn h _ hl rfl hm (fun hp => ?_) (fun hp => ?_)
          · rw [hv, atom_fals (pre_hd (by decide)) (pre_hd (by decide)) hp]
          · rw [hv]
            exact atom_nno (pre_hd (by decide)) (pre_hd (by decide)) hp (pre_hd (by decide)) (pre_hd (by decide)) (pre_hd (by decide)) (num_no (by decide) (by decide))
        · exact valQ_34 d lev l n s R w hs hn h _ hl r rfl rfl hm (fun t r2 ht => hv.trans (atom_textQ.1 t r2 ht)) (fun ht => hv.trans (atom_textQ.2 ht))
        · exact valQ_91 d lev l n s R w hs hn h _ hl hlev r rfl rfl hm (nest false) HL (hv.trans atom_91)
        · exact valQ_123 d lev l n s R w hs hn h _ hl hlev r rfl rfl hm (nest true) HO (hv.trans atom_123)
        · have hne : c ≠ 110 ∧ c ≠ 116 ∧ c ≠ 102 ∧ c ≠ 34 ∧ c ≠ 91 ∧ c ≠ 123 := by
            rcases hc with rfl | hc
            · decide
            · exact ⟨dig_ne hc rfl, dig_ne hc rfl, dig_ne hc rfl, dig_ne hc rfl, dig_ne hc rfl, dig_ne hc rfl⟩
          obtain ⟨n1, n2, n3, n4, n5, n6⟩ := hne
          have hat := atom_rest (leaf := leafJ d) (nest := nest) (r := r) (m := n + 1) n1 n2 n3 n4 n5 n6
          refine valQ_num d lev l n s R w hs hn h _ hl (c.toNat : Int) rfl ?_ hm (fun v r2 hp => ?_) (fun k hp => ?_)
          · rcases hc with rfl | hc
            · exact .inl rfl
            · have h45 : c ≠ 45 := dig_ne hc rfl
              have hc' := hc
              unfold digJ at hc'
              rw [decide_eq_true_eq] at hc'
              exact .inr ⟨decide_eq_true (by omega), decide_eq_true (by omega), u8_neQ n5, u8_neQ n6, u8_neQ n4, u8_neQ h45, u8_neQ n2, u8_neQ n3, u8_neQ n1, u8_beqQ n5, u8_beqQ n6, u8_beqQ n4, u8_beqQ n2, u8_beqQ n3, u8_beqQ n1⟩
          · rw [hv, hat, hp]
          · rw [hv, hat, hp]
      · refine valQ_many d lev l n s R w hs hn h (c :: r) hl (c.toNat : Int) rfl ?_ (by omega) ((hval l n).trans (top_many hl hb hm))
        rcases beg_cases hb with rfl | rfl | rfl | rfl | rfl | rfl | rfl | hc
        · exact .inr (.inr (.inr (.inr (.inr (.inr (.inl rfl))))))
        · exact .inr (.inr (.inr (.inr (.inl rfl))))
        · exact .inr (.inr (.inr (.inr (.inr (.inl rfl)))))
        · exact .inr (.inr (.inl rfl))
        · exact .inl rfl
        · exact .inr (.inl rfl)
        · exact .inr (.inr (.inr (.inl rfl)))
        · have hc' := hc
          unfold digJ at hc'
          rw [decide_eq_true_eq] at hc'
          exact .inr (.inr (.inr (.inr (.inr (.inr (.inr ⟨decide_eq_true (by omega), decide_eq_true (by omega), u8_neQ (k := 91) (dig_ne hc rfl), u8_neQ (k := 123) (dig_ne hc rfl), u8_neQ (k := 34) (dig_ne hc rfl), u8_neQ (k := 45) (dig_ne hc rfl), u8_neQ (k := 116) (dig_ne hc rfl), u8_neQ (k := 102) (dig_ne hc rfl), u8_neQ (k := 110) (dig_ne hc rfl)⟩))))))
theorem nestQ_deep (d lev K : Nat) (e : UInt8) (nest : List UInt8 → Nat → Except Nat (VJ d × List UInt8 × Nat)) (hd : 16 < lev + 1) (hlev : lev ≤ 900) (hn9 : ∀ l n, nest l n = .error 9) : NestQOk d lev K (e.toNat : Int) nest := by
  intro c0 l n s R w hs hn h
  have := listQ_deep #[.int .i64 (K : Int), .int .i64 0, .string ⟨#[]⟩, .slice none 0 0, .slice none 0 0] (c0 :: l) n s R e (lev + 1) hd (by omega) w _ _ _ _ _ rfl (vcs_all _ _ _ _ _ _ _ _ _) h
  rw [show ((lev + 1 : Nat) : Int) = (lev : Int) + 1 from by omega] at this
  refine this.mono fun x w' hh => ?_
  obtain ⟨h1, h2, h3⟩ := hh
  exact ⟨(fun t r m h => by rw [hn9] at h; cases h), (fun k h => by rw [hn9] at h; injection h with h; subst h; exact ⟨_, n, h1, rfl, vcs_all _ _ _ _ _ _ _ _ _, by decide, h2⟩), h3⟩
theorem nestQ_list (d lev : Nat) (IH : ValQOk d (lev + 1)) (hlev : lev ≤ 900) : NestQOk (d + 1) lev 4 93 (nestJ d lev (valJ d (lev + 1)) false) := by
  by_cases hd : 16 < lev + 1
  · exact nestQ_deep (d + 1) lev 4 93 _ hd hlev fun l n => by unfold nestJ; rw [if_pos hd]
  · intro c0 l n s R w hs hn h
    have := listA_of d lev IH l n s R w c0 hs hn (by omega) h
    rw [show ((lev + 1 : Nat) : Int) = (lev : Int) + 1 from by omega] at this
    refine this.mono fun x w' hh => ?_
    obtain ⟨h1, h2, h3⟩ := hh
    have hne : nestJ d lev (valJ d (lev + 1)) false l n = (match lstJ (valJ d (lev + 1)) l n with
      | .error e => .error e
      | .ok (ks, r, m2) => .ok (((4, 0, [], []), ks), r, m2)) := by
      unfold nestJ
      rw [if_neg hd]
      rfl
    cases hr : lstJ (valJ d (lev + 1)) l n with
    | error k =>
      rw [hr] at hne
      exact ⟨(fun t r m h => by rw [hne] at h; cases h), (fun k2 h => by rw [hne] at h; injection h with h; subst h; exact h2 _ hr), h3⟩
    | ok q =>
      obtain ⟨ks, r, m⟩ := q
      rw [hr] at hne
      refine ⟨(fun t r2 m2 h => ?_), (fun k2 h => by rw [hne] at h; cases h), h3⟩
      rw [hne] at h
      injection h with h
      injection h with h4 h
      injection h with h5 h6
      subst h4 h5 h6
      obtain ⟨A, c, e1, e2, e3, e4⟩ := h1 ks r m hr
      exact ⟨_, e1, VAt.mk (l := (4, 0, [], [])) (NmsP.nil _ _ _) e3 e2, e4⟩
theorem nestQ_obj (d lev : Nat) (IH : ValQOk d (lev + 1)) (hlev : lev ≤ 900) : NestQOk (d + 1) lev 5 125 (nestJ d lev (valJ d (lev + 1)) true) := by
  by_cases hd : 16 < lev + 1
  · exact nestQ_deep (d + 1) lev 5 125 _ hd hlev fun l n => by unfold nestJ; rw [if_pos hd]
  · intro c0 l n s R w hs hn h
    have := listO_of d lev IH l n s R w c0 hs hn (by omega) h
    rw [show ((lev + 1 : Nat) : Int) = (lev : Int) + 1 from by omega] at this
    refine this.mono fun x w' hh => ?_
    obtain ⟨h1, h2, h3⟩ := hh
    have hne : nestJ d lev (valJ d (lev + 1)) true l n = (match objJ (valJ d (lev + 1)) l n with
      | .error e => .error e
      | .ok (ns, ks, r, m2) => .ok (((5, 0, [], ns), ks), r, m2)) := by
      unfold nestJ
      rw [if_neg hd]
      rfl
    cases hr : objJ (valJ d (lev + 1)) l n with
    | error k =>
      rw [hr] at hne
      exact ⟨(fun t r m h => by rw [hne] at h; cases h), (fun k2 h => by rw [hne] at h; injection h with h; subst h; exact h2 _ hr), h3⟩
    | ok q =>
      obtain ⟨ns, ks, r, m⟩ := q
      rw [hr] at hne
      refine ⟨(fun t r2 m2 h => ?_), (fun k2 h => by rw [hne] at h; cases h), h3⟩
      rw [hne] at h
      injection h with h
      injection h with h4 h
      injection h with h5 h6
      subst h4 h5 h6
      obtain ⟨A, c, B, c2, e1, e2, e3, e4, e5⟩ := h1 ns ks r m hr
      exact ⟨_, e1, VAt.mk (l := (5, 0, [], ns)) e3 e4 e2, e5⟩
theorem valQ_any : ∀ (d lev : Nat), lev + d = 40 → ValQOk d lev
  | 0, lev, h => valQ_top 0 lev (fun _ _ _ => if 16 < lev + 1 then .error 9 else .error 98) (fun _ _ => rfl) (nestQ_deep 0 lev 4 93 _ (by omega) (by omega) fun l n => if_pos (by omega)) (nestQ_deep 0 lev 5 125 _ (by omega) (by omega) fun l n => if_pos (by omega)) (by omega)
  | d + 1, lev, h => valQ_top (d + 1) lev _ (fun l n => val_step d lev l n) (nestQ_list d lev (valQ_any d (lev + 1) (by omega)) (by omega)) (nestQ_obj d lev (valQ_any d (lev + 1) (by omega)) (by omega)) (by omega)
theorem valQ_whole : ValQOk 40 0 := valQ_any 40 0 rfl
end Go.Proofs.YtlgkbdebpnbndaaGreatDoor
