
/- What the reference's Parse does. -/
import Derived.Test.YtlblefcmilfjdaaGreatDoorUrRf
import Derived.Deep.DeepCutAuto
import Derived.Lib.QuietBelow
namespace Go.Proofs.YtlblefcmilfjdaaGreatDoor
set_option linter.unusedVariables false
set_option linter.unusedSimpArgs false
open Go.RowKit Go.BigFrame

theorem wrap_p1 (n : Nat) (h : n ≤ 1000000) : wrap64 ((n : Int) + 1) = (n : Int) + 1 := by unfold wrap64; omega
theorem wrap_p2 (n : Nat) (h : n ≤ 1000000) : wrap64 ((n : Int) + 2) = (n : Int) + 2 := by unfold wrap64; omega
theorem wrap_dec (n : Int) (h0 : 0 ≤ n) (h : n ≤ 1000000) : wrap64 (n - 1) = n - 1 := by unfold wrap64; omega
theorem wrap_pred (n : Nat) (h : n ≤ 1000000) : wrap64 ((n : Int) - 1) = (n : Int) - 1 := by unfold wrap64; omega
theorem len_split (a x y : List UInt8) (c : UInt8) (h : a = x ++ c :: y) (n : Nat) (hn : a.length ≤ n) : x.length ≤ n ∧ y.length ≤ n ∧ (x.length : Int) + 1 ≤ (a.length : Int) ∧ (x.length : Int) + 1 ≤ ((asS a).size : Int) := by
  have h1 : a.length = x.length + (y.length + 1) := by rw [h]; simp
  rw [asS_size]
  exact ⟨by omega, by omega, by omega, by omega⟩
theorem scheme_cases (l : List UInt8) (i : Nat) (hi : i = findU [58, 47, 63, 35] l) : schemeU l = if i < l.length ∧ l.getD i 0 = 58 then (if i = 0 ∨ letterU (l.getD 0 0) = false ∨ (l.take i).all schB = false then none else some (l.take i, l.drop (i + 1))) else some ([], l) := by
  subst hi
  rfl
theorem head_yes (r : List UInt8) (u : UrlV) (f : Nat) (hf : f = findU [47, 63, 35] (r.drop 2)) (h : r.take 2 = [47, 47]) : headU r u = (authU ((r.drop 2).take f) { u with hasAuth := true }, (r.drop 2).drop f) := by
  subst hf
  unfold headU
  rw [if_pos h]
theorem head_not (r : List UInt8) (u : UrlV) (h : ¬ r.take 2 = [47, 47]) : headU r u = (u, r) := by
  unfold headU
  rw [if_neg h]
theorem tail_yes (L : List UInt8) (u : UrlV) (p e : Nat) (hp : p = findU [63, 35] L) (h : (L.drop p).getD 0 0 = 63) (he : e = findU [35] ((L.drop p).drop 1)) :
    tailU L u = if ((L.drop p).drop 1).drop e = [] then { u with path := L.take p, hasQuery := true, query := ((L.drop p).drop 1).take e } else { u with path := L.take p, hasQuery := true, query := ((L.drop p).drop 1).take e, hasFrag := true, frag := (((L.drop p).drop 1).drop e).drop 1 } := by
  subst hp; subst he
  unfold tailU
  simp only [if_pos h]
theorem tail_not (L : List UInt8) (u : UrlV) (p : Nat) (hp : p = findU [63, 35] L) (h : ¬ (L.drop p).getD 0 0 = 63) :
    tailU L u = if L.drop p = [] then { u with path := L.take p } else { u with path := L.take p, hasFrag := true, frag := (L.drop p).drop 1 } := by
  subst hp
  unfold tailU
  simp only [if_neg h]
theorem drop_head (l : List UInt8) (k : Nat) (c : UInt8) (hc : c ≠ 0) : (l.drop k).getD 0 0 = c ↔ k < l.length ∧ l.getD k 0 = c := by
  rw [List.getD_eq_getElem?_getD, List.getElem?_drop, Nat.add_zero, ← List.getD_eq_getElem?_getD]
  constructor
  · intro h
    refine ⟨?_, h⟩
    rcases Nat.lt_or_ge k l.length with h1 | h1
    · exact h1
    · rw [List.getD_eq_getElem?_getD, List.getElem?_eq_none h1] at h
      exact absurd h.symm hc
  · exact fun h => h.2
theorem toList_asS (x : List UInt8) : (asS x).toList = x := by rw [ByteArray.toList_eq]; rfl
theorem getD_mem (y : List UInt8) (j : Nat) (h : j < y.length) : y.getD j 0 ∈ y := by
  rw [List.getD_eq_getElem?_getD, List.getElem?_eq_getElem h]
  exact List.getElem_mem h
theorem at_mid (x y : List UInt8) (c : UInt8) : (x ++ c :: y).getD x.length 0 = c := by
  rw [List.getD_eq_getElem?_getD, List.getElem?_append_right (Nat.le_refl _), Nat.sub_self]; rfl
theorem at_behind (x y : List UInt8) (c : UInt8) (n : Nat) (h1 : x.length < n) (h2 : n < (x ++ c :: y).length) : (x ++ c :: y).getD n 0 ∈ y := by
  rw [List.getD_eq_getElem?_getD, List.getElem?_append_right (by omega), show n - x.length = (n - x.length - 1) + 1 from by omega, List.getElem?_cons_succ, ← List.getD_eq_getElem?_getD]
  simp at h2
  exact getD_mem y _ (by omega)
theorem at_tail (p t : List UInt8) (n : Nat) (h1 : p.length ≤ n) (h2 : n < (p ++ t).length) : (p ++ t).getD n 0 ∈ t := by
  rw [List.getD_eq_getElem?_getD, List.getElem?_append_right h1, ← List.getD_eq_getElem?_getD]
  simp at h2
  exact getD_mem t _ (by omega)
/-- No user's mark: none in it. -/
theorem user_free (a : List UInt8) (h : lastCut 64 (fun _ => false) a = none) : (64 : UInt8) ∉ a := by
  rcases last_dec 64 a with h1 | ⟨x, y, rfl, hy⟩
  · exact h1
  · rw [lastCut_hit 64 _ y hy (fun _ _ => rfl) x] at h; cases h
theorem user_split (a x y : List UInt8) (h : lastCut 64 (fun _ => false) a = some (x, y)) : a = x ++ 64 :: y ∧ (64 : UInt8) ∉ y := by
  rcases last_dec 64 a with h1 | ⟨x2, y2, rfl, hy⟩
  · rw [lastCut_no 64 _ a h1] at h; cases h
  · rw [lastCut_hit 64 _ y2 hy (fun _ _ => rfl) x2] at h
    injection h with h
    injection h with h1 h2
    subst h1; subst h2
    exact ⟨rfl, hy⟩
theorem port_free (a : List UInt8) (h : lastCut 58 (fun c => c == 93) a = none) : ∃ p t, a = p ++ t ∧ (∀ c ∈ t, c ≠ 58 ∧ c ≠ 93) ∧ (p = [] ∨ ∃ q, p = q ++ [93]) := by
  rcases last_dec 93 a with h1 | ⟨x, y, rfl, hy⟩
  · refine ⟨[], a, rfl, fun c hc => ⟨?_, fun e => h1 (e ▸ hc)⟩, .inl rfl⟩
    intro e
    subst e
    rcases last_dec 58 a with h2 | ⟨x, y, rfl, hy⟩
    · exact h2 hc
    · rw [lastCut_hit 58 _ y hy (fun d hd => by rw [beq_eq_false_iff_ne]; exact fun e => h1 (by rw [← e]; simp [hd])) x] at h; cases h
  · refine ⟨x ++ [93], y, by simp, fun c hc => ⟨?_, fun e => hy (e ▸ hc)⟩, .inr ⟨x, rfl⟩⟩
    intro e
    subst e
    rcases last_dec 58 y with h2 | ⟨x2, y2, rfl, hy2⟩
    · exact h2 hc
    · rw [show x ++ 93 :: (x2 ++ 58 :: y2) = (x ++ 93 :: x2) ++ 58 :: y2 from by simp] at h
      rw [lastCut_hit 58 _ y2 hy2 (fun d hd => by rw [beq_eq_false_iff_ne]; exact fun e => hy (by rw [← e]; simp [hd])) (x ++ 93 :: x2)] at h
      cases h
theorem port_split (a x y : List UInt8) (h : lastCut 58 (fun c => c == 93) a = some (x, y)) : a = x ++ 58 :: y ∧ (58 : UInt8) ∉ y ∧ (93 : UInt8) ∉ y := by
  rcases last_dec 58 a with h1 | ⟨x2, y2, rfl, hy⟩
  · rw [lastCut_no 58 _ a h1] at h; cases h
  · rcases last_dec 93 y2 with h2 | ⟨x3, y3, rfl, hy3⟩
    · rw [lastCut_hit 58 _ y2 hy (fun d hd => by rw [beq_eq_false_iff_ne]; exact fun e => h2 (e ▸ hd)) x2] at h
      injection h with h
      injection h with h3 h4
      subst h3; subst h4
      exact ⟨rfl, hy, h2⟩
    · rw [show x2 ++ 58 :: (x3 ++ 93 :: y3) = (x2 ++ 58 :: x3) ++ 93 :: y3 from by simp] at h
      rw [lastCut_stop 58 93 _ rfl (by decide) y3 (fun hm => hy (by simp [hm])) (x2 ++ 58 :: x3)] at h
      cases h
theorem auth_eq (a : List UInt8) (u : UrlV) : authU a u = (match lastCut 64 (fun _ => false) a with
    | some (x, y) => (match lastCut 58 (fun c => c == 93) y with
      | some (x2, y2) => { u with hasUser := true, user := x, hasPort := true, port := y2, host := x2 }
      | none => { u with hasUser := true, user := x, host := y })
    | none => (match lastCut 58 (fun c => c == 93) a with
      | some (x2, y2) => { u with hasPort := true, port := y2, host := x2 }
      | none => { u with host := a })) := by
  unfold authU
  cases lastCut 64 (fun _ => false) a with
  | none =>
    simp only
    cases lastCut 58 (fun c => c == 93) a with
    | none => rfl
    | some q => rfl
  | some q =>
    obtain ⟨x, y⟩ := q
    simp only
    cases lastCut 58 (fun c => c == 93) y with
    | none => rfl
    | some q => rfl
theorem slice_from2 (S : ByteArray) (a : Nat) (x : ByteArray) (h2 : a ≤ S.size) (hx : S.extract a S.size = x) (i : Int) (hi : i = (a : Int)) (W : World) : (Instr.slice 9 (.string S) (some (.int .i64 i)) none none).run Tryz.prog W = .ok (.string x) W := by
  subst hi; subst hx
  rw [run_slice_string_l W 9 S Tryz.underlying9 .i64 (a : Int) (by omega) (by omega)]
  simp
abbrev REG7 (f : Nat) (args : Array Value) (V : World) (x : Value) : Prop := ∀ d os, Calls Tryz.prog f args (Sort.grow (redrawn V d) os) fun e w'' => e = .returned x ∧ ∃ p : Regrown, w'' = Sort.grow (redrawn V p.d) p.os
theorem same_below {P : Program} {f : FuncId} {args : Array Value} {v : Value} (h : ∀ W, Calls P f args W fun e w' => e = .returned v ∧ w' = W) (W : World) : Calls P f args W fun e w' => e = .returned v ∧ Below W.heap.size W w' :=
  (h W).mono fun e w' ⟨h1, h2⟩ => ⟨h1, by rw [h2]; exact Below.refl _ _⟩
/-- The answer, of the parts. -/
def ansU (u : UrlV) : Option UrlV := if okU u then some u else none
def withFrag (u : UrlV) (r : List UInt8) : UrlV := if r = [] then u else { u with hasFrag := true, frag := r.drop 1 }
theorem parse_ans (l sch r : List UInt8) (h : standsU l = true) (hs : schemeU l = some (sch, r)) : parseU l = ansU (partsU sch r) := by
  unfold parseU
  rw [h, if_neg (by decide), hs]
  rfl
theorem parse_bad (l : List UInt8) (h : standsU l = true) (hs : schemeU l = none) : parseU l = none := by
  unfold parseU
  rw [h, if_neg (by decide), hs]
set_option maxHeartbeats 16000000 in
set_option maxRecDepth 100000 in
theorem refParse7_any (l : List UInt8) (hl : l.length ≤ 100000) (w : World) : Calls Tryz.prog 35 #[.string (asS l)] w fun e w' => e = .returned (.tuple #[.agg (ucs ((parseU l).getD zeroU)), .bool (parseU l).isSome]) ∧ Below w.heap.size w w' := by
  have HST := hid (fun W => refStands_any l (by omega) W)
  have HFI := hid (fun of ho k hk W => find_any7 l of (by omega) ho k hk W)
  have HFL := hid (fun of (k : Nat) => findU_le of (l.drop k))
  have HIX : Hid (∀ k, k < l.length → ∀ W, (Instr.index 9 (.string (asS l)) (.int .i64 (k : Int))).run Tryz.prog W = .ok (.int .u8 (l.getD k 0).toNat) W) := fun k hk W => str_ix (asS l) k (by rw [asS_size]; exact hk) W
  have HSL : Hid (∀ a n, a + n ≤ l.length → ∀ (i j : Int), i = (a : Int) → j = ((a + n : Nat) : Int) → ∀ W, (Instr.slice 9 (.string (asS l)) (some (.int .i64 i)) (some (.int .i64 j)) none).run Tryz.prog W = .ok (.string (asS ((l.drop a).take n))) W) := fun a n h i j hi hj W => slice_run (asS l) a (a + n) i j hi hj (by omega) (by rw [asS_size]; omega) _ (by rw [ext_asS, asS_data, show a + n - a = n from by omega]) W
  have HEF : Hid (∀ k, (asS l).extract k (asS l).size = asS (l.drop k)) := ext_from l
  have HET : Hid (∀ k, (asS l).extract 0 k = asS (l.take k)) := ext_to l
  have HSZ := hid (asS_size l)
  have HLE := hid letter_any
  have HDI := hid digit7_any
  have HWI : Hid (∀ (c : UInt8) W, Calls Tryz.prog 58 #[.int .u8 c.toNat, .string ⟨#[43, 45, 46]⟩] W fun e w' => e = .returned (.bool (([43, 45, 46] : List UInt8).contains c)) ∧ w' = W) := fun c W => within_any c ⟨#[43, 45, 46]⟩ (by decide) W
  have HF1 : Hid (∀ W, Calls Tryz.prog 55 #[.string (asS l), .int .i64 0, .string ⟨#[58, 47, 63, 35]⟩] W fun e w' => e = .returned (.int .i64 ((findU [58, 47, 63, 35] l : Nat) : Int)) ∧ w' = W) := fun W => by
    have := HFI.out [58, 47, 63, 35] (by simp) 0 (by omega) W
    rw [List.drop_zero, Nat.zero_add] at this
    exact this
  have HSC := hid (scheme_cases l _ rfl)
  have HPB : Hid (standsU l = false → parseU l = none) := fun h => by unfold parseU; rw [h, if_pos rfl]
  have HPG := hid (parse_ans l)
  have HPX := hid (parse_bad l)
  have HLL := hid hl
  generalize findU [58, 47, 63, 35] l = i at HF1 HSC
  generalize parseU l = PR at HPB HPG HPX ⊢
  generalize asS l = S at HST HFI HIX HSL HEF HET HSZ HF1 ⊢
  have hS : S.size ≤ 100000 := by rw [HSZ.out]; exact hl
  clear hl
  go_enter Tryz.func35, Tryz.ntmps35
  go_wp2_with (first
    | (refine wpList_built rfl 26 _ rfl (ucs zeroU) built_urlZ ?_)
    | (refine store_url rfl _ _ rfl (w.heap.size + 1) zeroU rfl rfl _ (heap_second w _ _) rfl ?_)
    | fail)
  intro W0 hO hW
  obtain ⟨CZ, HCZ, HZS⟩ : ∃ CZ : Array Value, Hid (W0.heap[w.heap.size]? = some (.cells CZ 26 (0, 0))) ∧ Hid (CZ.size = 12) := ⟨_, (hO.block _ (by omega)).trans (heap_first w _ _), rfl⟩
  have HBW : Hid (Below w.heap.size w W0) := (alloc_below (alloc_below (Below.refl _ w) (Nat.le_refl _) _) (by simp) _).trans (hO.below (by omega))
  have z0 : w.heap.size + 2 ≤ W0.heap.size := by rw [hO.size]; simp
  have HR0 := hid hW
  have HB0 : Hid (Below (w.heap.size + 1) W0 W0) := Below.refl _ _
  clear hO hW
  go_wp2_with fail
  refine (HST.out _).mono ?_
  rintro e W1 ⟨rfl, hb⟩
  have HR1 := hid (row_keep hb HR0.out)
  have HB1 := hid (HB0.out.trans (hb.mono (by omega)))
  have z1 : w.heap.size + 2 ≤ W1.heap.size := Nat.le_trans z0 hb.size
  clear hb HR0 HB0 z0
  cases hst : standsU l with
  | false =>
    have HQ := hid (HPB.out hst)
    clear hst HPG HPX HPB
    go_wp2_with (first
      | (refine load_url rfl _ rfl (w.heap.size + 1) zeroU rfl (0, 0) HR1.out ?_)
      | (refine store_url rfl _ _ rfl w.heap.size zeroU rfl rfl _ ((HB1.out.block _ (by omega)).trans HCZ.out) HZS.out ?_)
      | fail)
    intro Wf hOf hWf
    go_wp2
    refine bodyPost_ret (ret_url2 (p := 2) (q := 3) Tryz.results35 _ _ w.heap.size zeroU (0, 0) _ rfl rfl hWf) rfl ⟨?_, HBW.out.trans ((HB1.out.mono (by omega)).trans (hOf.below (Nat.le_refl _)))⟩
    rw [HQ.out]; rfl
  | true =>
    have HPG2 := hid (fun sch r => HPG.out sch r hst)
    have HPX2 := hid (HPX.out hst)
    clear hst HPG HPX HPB HST
    go_wp2_with fail
    refine (HF1.out _).mono ?_
    rintro e W1 ⟨rfl, rfl⟩
    obtain ⟨cnd, hcnd⟩ : ∃ cnd, cnd = decide (i < l.length ∧ l.getD i 0 = 58) := ⟨_, rfl⟩
    have HCN := hid hcnd
    clear hcnd
    go_upto_region 6 with (fail)
    go_cut [31] (fun v wx => v = .bool cnd ∧ wx = W1)
    case first =>
      by_cases hi : i < l.length
      · have hi1 : (i : Int) < (S.size : Int) := by have := HSZ.out; omega
        have hix := HIX.out i hi
        have HC2 : Hid (cnd = decide (l.getD i 0 = 58)) := by show _ = _; rw [HCN.out]; exact decide_eq_decide.2 ⟨fun h => h.2, fun h => ⟨hi, h⟩⟩
        generalize l.getD i 0 = c at hix HC2
        by_cases h58 : c = 58
        · have HC3 : Hid (cnd = true) := by show _ = _; rw [HC2.out, decide_eq_true h58]
          have hc : ((c.toNat : Int) == 58) = true := by rw [h58]; rfl
          clear h58
          go_wp2_with fail
          go_meet
          case rel => exact ⟨by rw [HC3.out], rfl⟩
        · have HC3 : Hid (cnd = false) := by show _ = _; rw [HC2.out, decide_eq_false h58]
          have hc : ((c.toNat : Int) == 58) = false := by rw [beq_eq_false_iff_ne]; exact fun h => h58 (UInt8.toNat_inj.1 (by show c.toNat = 58; omega))
          clear h58
          go_wp2_with fail
          go_meet
          case rel => exact ⟨by rw [HC3.out], rfl⟩
      · have hi1 : ¬ (i : Int) < (S.size : Int) := by have := HSZ.out; omega
        have HC3 : Hid (cnd = false) := by show _ = _; rw [HCN.out, decide_eq_false (fun h => hi h.1)]
        go_wp2_with fail
        go_meet
        case rel => exact ⟨by rw [HC3.out], rfl⟩
    case rest => as_aux_lemma =>
      obtain ⟨rfl, rfl⟩ := hcut
      go_upto_if 31 with (fail)
      go_cut [5] (fun v wx => ∃ (k : Nat) (u1 : UrlV), v = .int .i64 (k : Int) ∧ k ≤ S.size ∧ w.heap.size + 2 ≤ wx.heap.size ∧ Hid (wx.heap[w.heap.size + 1]? = some (.cells (ucs u1) 26 (0, 0))) ∧ Hid (Below (w.heap.size + 1) W0 wx) ∧ Hid (AllOf l u1) ∧ Hid (u1.query = [] ∧ u1.hasQuery = false ∧ u1.frag = [] ∧ u1.hasFrag = false) ∧ Hid (PR = ansU (tailU (headU (l.drop k) u1).2 (headU (l.drop k) u1).1)))
      case first =>
        cases cnd with
        | false =>
          have hno := of_decide_eq_false HCN.out.symm
          have HQ := hid (HPG2.out [] l (by rw [HSC.out, if_neg hno]))
          go_wp2_with fail
          go_meet
          case rel => exact ⟨0, zeroU, rfl, by omega, z1, HR1, HB1, ⟨PartOf.nil l, PartOf.nil l, PartOf.nil l, PartOf.nil l, PartOf.nil l, PartOf.nil l⟩, ⟨rfl, rfl, rfl, rfl⟩, HQ⟩
        | true =>
          have hyes := of_decide_eq_true HCN.out.symm
          have hil := hyes.1
          have HSC2 : Hid (schemeU l = if i = 0 ∨ letterU (l.getD 0 0) = false ∨ (l.take i).all schB = false then none else some (l.take i, l.drop (i + 1))) := by show _ = _; rw [HSC.out, if_pos hyes]
          have hix0 := HIX.out 0 (by omega)
          have HL0 := hid (HLE.out (l.getD 0 0))
          have his : i < S.size := by have := HSZ.out; omega
          clear hyes HSC
          by_cases hi0 : i = 0
          · have HQ := hid (HPX2.out (by rw [HSC2.out, if_pos (.inl hi0)]))
            have hi0' : (i : Int) = 0 := by omega
            clear hi0 HSC2
            go_wp2_with (first
              | (refine load_url rfl _ rfl (w.heap.size + 1) zeroU rfl (0, 0) HR1.out ?_)
              | (refine store_url rfl _ _ rfl w.heap.size zeroU rfl rfl _ ((HB1.out.block _ (by omega)).trans HCZ.out) HZS.out ?_)
              | fail)
            intro Wf hOf hWf
            go_wp2
            refine bodyPost_ret (ret_url2 (p := 2) (q := 3) Tryz.results35 _ _ w.heap.size zeroU (0, 0) _ rfl rfl hWf) rfl ⟨?_, HBW.out.trans ((HB1.out.mono (by omega)).trans (hOf.below (Nat.le_refl _)))⟩
            rw [HQ.out]; rfl
          have hi0' : ¬ (i : Int) = 0 := by omega
          have hix0' : ∀ W, (Instr.index 9 (.string S) (.int .i64 0)).run Tryz.prog W = .ok (.int .u8 (l.getD 0 0).toNat) W := hix0
          have hs0 : (0 : Int) < (S.size : Int) := by omega
          clear hix0
          generalize l.getD 0 0 = c0 at hix0' HL0 HSC2
          go_wp2_with fail
          refine (HL0.out _).mono ?_
          rintro e W1 ⟨rfl, rfl⟩
          cases hlc : letterU c0 with
          | false =>
            have HQ := hid (HPX2.out (by rw [HSC2.out, if_pos (.inr (.inl hlc))]))
            clear hlc HSC2 hix0'
            go_wp2_with (first
              | (refine load_url rfl _ rfl (w.heap.size + 1) zeroU rfl (0, 0) HR1.out ?_)
              | (refine store_url rfl _ _ rfl w.heap.size zeroU rfl rfl _ ((HB1.out.block _ (by omega)).trans HCZ.out) HZS.out ?_)
              | fail)
            intro Wf hOf hWf
            go_wp2
            refine bodyPost_ret (ret_url2 (p := 2) (q := 3) Tryz.results35 _ _ w.heap.size zeroU (0, 0) _ rfl rfl hWf) rfl ⟨?_, HBW.out.trans ((HB1.out.mono (by omega)).trans (hOf.below (Nat.le_refl _)))⟩
            rw [HQ.out]; rfl
          | true =>
            have HSC3 : Hid ((l.take i).all schB = false → PR = none) := fun h => HPX2.out (by rw [HSC2.out, if_pos (.inr (.inr h))])
            have HSC4 : Hid ((l.take i).all schB = true → PR = ansU (partsU (l.take i) (l.drop (i + 1)))) := fun h => HPG2.out _ _ (by rw [HSC2.out, if_neg (by rintro (h1 | h1 | h1); exact hi0 h1; (rw [hlc] at h1; cases h1); (rw [h] at h1; cases h1))])
            clear hlc HSC2 hix0' HL0 hs0 hi0
            go_wp2_with fail
            have hi0b : ((i : Int) == 0) = false := by rw [beq_eq_false_iff_ne]; exact hi0'
            simp only [hi0b]
            clear hi0' hi0b
            go_loop [7] (fun v => ∃ k : Nat, k ≤ i ∧ v = .int .i64 (k : Int) ∧ Hid ((l.take k).all schB = true)) (fun v => i - (intOf v).toNat)
            case atStart => exact ⟨0, Nat.zero_le _, rfl, by show _ = _; simp⟩
            case round => as_aux_lemma =>
              obtain ⟨k, hk, rfl, HAL⟩ := hrel
              by_cases hlt : k < i
              · have hi1 : (k : Int) < (i : Int) := by omega
                have hix := HIX.out k (by omega)
                have HST2 := hid (all_take schB l k (by omega))
                have HBA : Hid (schB (l.getD k 0) = false → (l.take i).all schB = false) := fun h => by
                  rw [List.all_eq_false]
                  refine ⟨l.getD k 0, ?_, by rw [h]; simp⟩
                  rw [List.getD_eq_getElem?_getD, List.getElem?_eq_getElem (by omega)]
                  exact List.mem_take_iff_getElem.2 ⟨k, by omega, rfl⟩
                have HSB : Hid (schB (l.getD k 0) = (letterU (l.getD k 0) || digitU (l.getD k 0) || ([43, 45, 46] : List UInt8).contains (l.getD k 0))) := rfl
                generalize l.getD k 0 = c at hix HST2 HBA HSB
                have H1 := hid (HLE.out c)
                have H2 := hid (HDI.out c)
                have H3 := hid (HWI.out c)
                generalize schB c = sb at HST2 HBA HSB
                generalize letterU c = b1 at H1 HSB
                generalize digitU c = b2 at H2 HSB
                generalize ([43, 45, 46] : List UInt8).contains c = b3 at H3 HSB
                have hw1 : wrap64 ((k : Int) + 1) = (k : Int) + 1 := wrap_p1 k (by omega)
                cases b1 with
                | true =>
                  go_wp2_with fail
                  refine (H1.out _).mono ?_
                  rintro e W1 ⟨rfl, rfl⟩
                  go_wp2_with fail
                  go_round
                  case rel => exact ⟨k + 1, by omega, by go_num, by show _ = _; rw [HST2.out, HAL.out, HSB.out]; rfl⟩
                  case measure => simp [intOf]; omega
                | false =>
                  cases b2 with
                  | true =>
                    go_wp2_with fail
                    refine (H1.out _).mono ?_
                    rintro e W1 ⟨rfl, rfl⟩
                    go_wp2_with fail
                    refine (H2.out _).mono ?_
                    rintro e W1 ⟨rfl, rfl⟩
                    go_wp2_with fail
                    go_round
                    case rel => exact ⟨k + 1, by omega, by go_num, by show _ = _; rw [HST2.out, HAL.out, HSB.out]; rfl⟩
                    case measure => simp [intOf]; omega
                  | false =>
                    cases b3 with
                    | true =>
                      go_wp2_with fail
                      refine (H1.out _).mono ?_
                      rintro e W1 ⟨rfl, rfl⟩
                      go_wp2_with fail
                      refine (H2.out _).mono ?_
                      rintro e W1 ⟨rfl, rfl⟩
                      go_wp2_with fail
                      refine (H3.out _).mono ?_
                      rintro e W1 ⟨rfl, rfl⟩
                      go_wp2_with fail
                      go_round
                      case rel => exact ⟨k + 1, by omega, by go_num, by show _ = _; rw [HST2.out, HAL.out, HSB.out]; rfl⟩
                      case measure => simp [intOf]; omega
                    | false =>
                      have HQ := hid (HSC3.out (HBA.out HSB.out))
                      go_wp2_with fail
                      refine (H1.out _).mono ?_
                      rintro e W1 ⟨rfl, rfl⟩
                      go_wp2_with fail
                      refine (H2.out _).mono ?_
                      rintro e W1 ⟨rfl, rfl⟩
                      go_wp2_with fail
                      refine (H3.out _).mono ?_
                      rintro e W1 ⟨rfl, rfl⟩
                      clear hix
                      go_wp2_with (first
                        | (refine load_url rfl _ rfl (w.heap.size + 1) zeroU rfl (0, 0) HR1.out ?_)
                        | (refine store_url rfl _ _ rfl w.heap.size zeroU rfl rfl _ ((HB1.out.block _ (by omega)).trans HCZ.out) HZS.out ?_)
                        | fail)
                      intro Wf hOf hWf
                      go_wp2
                      refine bodyPost_ret (ret_url2 (p := 2) (q := 3) Tryz.results35 _ _ w.heap.size zeroU (0, 0) _ rfl rfl hWf) rfl ⟨?_, HBW.out.trans ((HB1.out.mono (by omega)).trans (hOf.below (Nat.le_refl _)))⟩
                      rw [HQ.out]; rfl
              · have hi1 : ¬ (k : Int) < (i : Int) := by omega
                have HQ := hid (HSC4.out (by have := HAL.out; rwa [show k = i from by omega] at this))
                have hET := HET.out i
                have hile : (i : Int) ≤ (S.size : Int) := by omega
                have hw1 : wrap64 ((i : Int) + 1) = (i : Int) + 1 := wrap_p1 i (by omega)
                have HPT := hid (PartOf.take l i)
                generalize l.take i = sch at hET HQ HPT
                go_wp2_with (first
                  | (refine store_fld rfl 9 _ _ rfl (w.heap.size + 1) 0 (.string (asS sch)) zeroU { zeroU with scheme := sch } rfl rfl info9 (by decide) rfl rfl HR1.out rfl ?_)
                  | fail)
                intro W2 hO hW
                have HR2 := hid hW
                have HB2 := hid (HB1.out.trans (hO.below (Nat.le_refl _)))
                have z2 : w.heap.size + 2 ≤ W2.heap.size := by rw [hO.size]; exact z1
                clear hO hW HR1 HB1 z1
                go_wp2_with fail
                go_meet
                case rel => exact ⟨i + 1, { zeroU with scheme := sch }, by go_num, by omega, z2, HR2, HB2, ⟨PartOf.nil l, PartOf.nil l, PartOf.nil l, PartOf.nil l, PartOf.nil l, PartOf.nil l⟩, ⟨rfl, rfl, rfl, rfl⟩, HQ⟩
      case rest => as_aux_lemma =>
        clear HR1 HB1 z1 HSC HPG2 HPX2 HF1 HCN HLE HDI HWI
        obtain ⟨k, u1, rfl, hk, z21, HR21, HB21, HAL, HU0, HPR⟩ := hcut
        obtain ⟨W21, hV⟩ : ∃ V, V = wc := ⟨_, rfl⟩
        subst hV
        obtain ⟨hd2, hhd⟩ : ∃ hd2, hd2 = decide ((l.drop k).take 2 = [47, 47]) := ⟨_, rfl⟩
        have HHD := hid hhd
        clear hhd
        have hw2 : wrap64 ((k : Int) + 2) = (k : Int) + 2 := wrap_p2 k (by omega)
        go_upto_region 16 with (fail)
        go_cut [84] (fun v wx => v = .bool hd2 ∧ wx = W21)
        case first =>
          by_cases h2 : k + 2 ≤ S.size
          · have h2' : (k : Int) + 2 ≤ (S.size : Int) := by omega
            have hsl := HSL.out k 2 (by have := HSZ.out; omega) (k : Int) ((k : Int) + 2) rfl (by omega)
            have hq : ((asS ((l.drop k).take 2)).toList == [47, 47]) = hd2 := by
              rw [toList_asS, HHD.out, Bool.eq_iff_iff, beq_iff_eq, decide_eq_true_iff]
            generalize asS ((l.drop k).take 2) = T2 at hsl hq
            go_wp2_with fail
            go_meet
            case rel => exact ⟨rfl, rfl⟩
          · have h2' : ¬ (k : Int) + 2 ≤ (S.size : Int) := by omega
            have HF : Hid (hd2 = false) := by
              show _ = _
              rw [HHD.out]
              refine decide_eq_false (fun h => ?_)
              have h3 := congrArg List.length h
              rw [List.length_take, List.length_drop] at h3
              have h4 : ([47, 47] : List UInt8).length = 2 := rfl
              have := HSZ.out
              omega
            go_wp2_with fail
            go_meet
            case rel => exact ⟨by rw [HF.out], rfl⟩
        case rest => as_aux_lemma =>
          obtain ⟨rfl, rfl⟩ := hcut
          go_upto_if 84 with (fail)
          go_cut [5] (fun v wx => ∃ (k2 : Nat) (u2 : UrlV), v = .int .i64 (k2 : Int) ∧ k2 ≤ S.size ∧ w.heap.size + 2 ≤ wx.heap.size ∧ Hid (wx.heap[w.heap.size + 1]? = some (.cells (ucs u2) 26 (0, 0))) ∧ Hid (Below (w.heap.size + 1) W0 wx) ∧ Hid (AllOf l u2) ∧ Hid (PR = ansU (tailU (l.drop k2) u2)))
          case first =>
            cases hd2 with
            | false =>
              have hno := of_decide_eq_false HHD.out.symm
              rw [head_not _ _ hno] at HPR
              clear hno
              go_wp2_with fail
              go_meet
              case rel => exact ⟨k, u1, rfl, hk, z21, HR21, HB21, HAL, HPR⟩
            | true =>
              have hyes := of_decide_eq_true HHD.out.symm
              have hk2 : k + 2 ≤ l.length := by
                have h3 := congrArg List.length hyes
                rw [List.length_take, List.length_drop] at h3
                have h4 : ([47, 47] : List UInt8).length = 2 := rfl
                omega
              have HF2 := hid (HFI.out [47, 63, 35] (by simp) (k + 2) hk2)
              have hfl := HFL.out [47, 63, 35] (k + 2)
              have HH := hid (head_yes (l.drop k) u1 (findU [47, 63, 35] (l.drop (k + 2))) (by rw [List.drop_drop]) hyes)
              rw [HH.out] at HPR
              simp only [List.drop_drop] at HPR
              rw [List.length_drop] at hfl
              generalize findU [47, 63, 35] (l.drop (k + 2)) = f at HF2 hfl HPR
              have he : k + 2 + f ≤ l.length := by omega
              have hsl := HSL.out (k + 2) f he ((k : Int) + 2) ((k : Int) + 2 + (f : Int)) (by omega) (by omega)
              have PA : Hid (PartOf l ((l.drop (k + 2)).take f)) := (PartOf.drop l (k + 2)).trans (PartOf.take _ f)
              generalize (l.drop (k + 2)).take f = a at hsl PA HPR
              have HF3 : Hid (∀ W, Calls Tryz.prog 55 #[.string S, .int .i64 ((k : Int) + 2), .string ⟨#[47, 63, 35]⟩] W fun e w' => e = .returned (.int .i64 ((k : Int) + 2 + (f : Int))) ∧ w' = W) := fun W => by
                have := HF2.out W
                rw [show ((k + 2 : Nat) : Int) = (k : Int) + 2 from by omega, show ((k + 2 + f : Nat) : Int) = (k : Int) + 2 + (f : Int) from by omega] at this
                exact this
              have hal : a.length ≤ 100000 := Nat.le_trans PA.out.1 HLL.out
              have heS : k + 2 + f ≤ S.size := by have := HSZ.out; omega
              have HRES : Hid (PR = ansU (tailU (l.drop (k + 2 + f)) (authU a { u1 with hasAuth := true }))) := HPR.out
              have HAU : Hid (AllOf l (authU a { u1 with hasAuth := true })) := AllOf.auth ⟨HAL.out.user, HAL.out.host, HAL.out.port, HAL.out.path, HAL.out.query, HAL.out.frag⟩ PA.out
              rw [auth_eq] at HRES HAU
              have HSZA := hid (asS_size a)
              have HALN := hid hal
              clear hyes HH HF2 HPR hfl hk2
              go_wp2_with fail
              refine (HF3.out _).mono ?_
              rintro e W21 ⟨rfl, rfl⟩
              generalize hei : (k : Int) + 2 + (f : Int) = ei at hsl ⊢
              have HEI := hid hei
              clear hei
              go_wp2_with (first
                | (refine store_fld rfl 4 _ _ rfl (w.heap.size + 1) 6 (.bool true) u1 { u1 with hasAuth := true } rfl rfl info4 (by decide) rfl rfl HR21.out rfl ?_)
                | fail)
              intro W22 hO hW
              have HR22 := hid hW
              have HB22 := hid (HB21.out.trans (hO.below (Nat.le_refl _)))
              have z22 : w.heap.size + 2 ≤ W22.heap.size := by rw [hO.size]; exact z21
              clear hO hW HR21 HB21 z21
              clear hsl HF3
              have HIA : Hid (∀ n : Int, 0 ≤ n → n < (a.length : Int) → ∀ W, (Instr.index 9 (.string (asS a)) (.int .i64 n)).run Tryz.prog W = .ok (.int .u8 (a.getD n.toNat 0).toNat) W) := fun n h0 h1 W => by have := str_ix (asS a) n.toNat (by rw [asS_size]; omega) W; rwa [Int.toNat_of_nonneg h0] at this
              have hwa := wrap_pred (asS a).size (by rw [asS_size]; exact Nat.le_trans HALN.out (by decide))
              cases hp : lastCut 64 (fun _ => false) a with
              | none =>
                rw [hp] at HRES HAU
                have HFR := hid (user_free a hp)
                clear hp
                go_wp2_with fail
                go_loop [9, 10] (fun v9 v => ∃ n : Int, (-1 : Int) ≤ n ∧ n < (a.length : Int) ∧ v9 = .string (asS a) ∧ v = .int .i64 n) (fun _ v => (intOf v + 1).toNat)
                case atStart => exact ⟨((asS a).size : Int) - 1, by omega, by rw [asS_size]; omega, rfl, rfl⟩
                case round => as_aux_lemma =>
                  obtain ⟨n, hn0, hn1, rfl, rfl⟩ := hrel
                  by_cases h0 : (0 : Int) ≤ n
                  · have hix := HIA.out n h0 hn1
                    have hmem := getD_mem a n.toNat (by omega)
                    generalize a.getD n.toNat 0 = c at hix hmem
                    have hc2 : ¬ (c.toNat : Int) = 64 := fun h => HFR.out (by rw [show (64 : UInt8) = c from UInt8.toNat_inj.1 (by show 64 = c.toNat; omega)]; exact hmem)
                    have hwn : wrap64 (n - 1) = n - 1 := wrap_dec n h0 (by have := HALN.out; omega)
                    clear hmem
                    go_wp2_with fail
                    go_round
                    case rel => exact ⟨n - 1, by omega, by omega, rfl, by first | rfl | exact congrArg (Value.int .i64) hwn⟩
                    case measure => simp [intOf]; omega
                  · clear hn0
                    cases hp3 : lastCut 58 (fun c => c == 93) a with
                    | none =>
                      rw [hp3] at HRES HAU
                      obtain ⟨p3, t3, hb3, ht3, hq3⟩ := port_free a hp3
                      have HB3 := hid hb3
                      have HT3 := hid ht3
                      have HQ3 := hid hq3
                      have hlen3 : (p3.length : Int) ≤ (a.length : Int) := by rw [hb3]; simp; omega
                      clear hp3 hb3 ht3 hq3
                      go_wp2_with fail
                      clear hwa
                      go_loop [9, 11] (fun v9 v => ∃ n : Int, (p3.length : Int) - 1 ≤ n ∧ n < (a.length : Int) ∧ v9 = .string (asS a) ∧ v = .int .i64 n) (fun _ v => (intOf v + 1).toNat)
                      case atStart => exact ⟨((asS a).size : Int) - 1, by rw [asS_size]; omega, by rw [asS_size]; omega, rfl, rfl⟩
                      case round => as_aux_lemma =>
                        obtain ⟨n, hn0, hn1, rfl, rfl⟩ := hrel
                        by_cases hne : n = (p3.length : Int) - 1
                        · rcases HQ3.out with hp0 | ⟨q3, hp0⟩
                          · have hneg : ¬ (0 : Int) ≤ n := by rw [hp0] at hne; simp at hne; omega
                            clear hne
                            go_wp2_with (first
                              | (refine store_fld rfl 9 _ _ rfl (w.heap.size + 1) 3 (.string (asS a)) { u1 with hasAuth := true } { { u1 with hasAuth := true } with host := a } rfl rfl info9 (by decide) rfl rfl HR22.out rfl ?_)
                              | fail)
                            intro W23 hO hW
                            have HR23 := hid hW
                            have HB23 := hid (HB22.out.trans (hO.below (Nat.le_refl _)))
                            have z23 : w.heap.size + 2 ≤ W23.heap.size := by rw [hO.size]; exact z22
                            clear hO hW HR22 HB22 z22
                            go_wp2_with fail
                            go_meet
                            case rel => exact ⟨k + 2 + f, _, congrArg (Value.int .i64) (by have := HEI.out; omega), heS, z23, HR23, HB23, HAU, HRES⟩
                          · have hpl : p3.length = q3.length + 1 := by rw [hp0]; simp
                            have h0 : (0 : Int) ≤ n := by omega
                            have hix := HIA.out n h0 (by omega)
                            have hc : a.getD n.toNat 0 = 93 := by
                              rw [HB3.out, hp0, show n.toNat = q3.length from by omega, show q3 ++ [93] ++ t3 = q3 ++ 93 :: t3 from by simp]
                              exact at_mid q3 t3 93
                            rw [hc] at hix
                            have hix' : ∀ W, (Instr.index 9 (.string (asS a)) (.int .i64 n)).run Tryz.prog W = .ok (.int .u8 93) W := hix
                            clear hix hc hne hpl
                            go_wp2_with (first
                              | (refine store_fld rfl 9 _ _ rfl (w.heap.size + 1) 3 (.string (asS a)) { u1 with hasAuth := true } { { u1 with hasAuth := true } with host := a } rfl rfl info9 (by decide) rfl rfl HR22.out rfl ?_)
                              | fail)
                            intro W23 hO hW
                            have HR23 := hid hW
                            have HB23 := hid (HB22.out.trans (hO.below (Nat.le_refl _)))
                            have z23 : w.heap.size + 2 ≤ W23.heap.size := by rw [hO.size]; exact z22
                            clear hO hW HR22 HB22 z22
                            go_wp2_with fail
                            go_meet
                            case rel => exact ⟨k + 2 + f, _, congrArg (Value.int .i64) (by have := HEI.out; omega), heS, z23, HR23, HB23, HAU, HRES⟩
                        · have h0 : (0 : Int) ≤ n := by omega
                          have hix := HIA.out n h0 hn1
                          have hmem : a.getD n.toNat 0 ∈ t3 := by rw [HB3.out]; exact at_tail p3 t3 n.toNat (by omega) (by rw [← HB3.out]; omega)
                          have hcc := HT3.out _ hmem
                          generalize a.getD n.toNat 0 = c at hix hcc
                          have hc1 : ((c.toNat : Int) == 93) = false := by rw [beq_eq_false_iff_ne]; exact fun h => hcc.2 (UInt8.toNat_inj.1 (by show c.toNat = 93; omega))
                          have hc2 : ¬ (c.toNat : Int) = 58 := fun h => hcc.1 (UInt8.toNat_inj.1 (by show c.toNat = 58; omega))
                          have hwn : wrap64 (n - 1) = n - 1 := wrap_dec n h0 (by have := HALN.out; omega)
                          have hgt : (p3.length : Int) - 1 ≤ n - 1 := by omega
                          clear hcc hmem hne
                          go_wp2_with fail
                          go_round
                          case rel => exact ⟨n - 1, by omega, by omega, rfl, by first | rfl | exact congrArg (Value.int .i64) hwn⟩
                          case measure => simp [intOf]; omega
                    | some q =>
                      obtain ⟨x3, y3⟩ := q
                      rw [hp3] at HRES HAU
                      obtain ⟨hb3, hy3, hz3⟩ := port_split a x3 y3 hp3
                      have hE1 := ext_front x3 y3 58
                      have hE2 := ext_back x3 y3 58
                      rw [← hb3] at hE1 hE2
                      have HB3 := hid hb3
                      have HY3 := hid hy3
                      have HZ3 := hid hz3
                      have hlen3 : (x3.length : Int) + 1 ≤ (a.length : Int) := by rw [hb3]; simp; omega
                      have hls : (x3.length : Int) + 1 ≤ ((asS a).size : Int) := by rw [asS_size]; exact hlen3
                      clear hp3 hb3 hy3 hz3
                      go_wp2_with fail
                      clear hwa
                      go_loop [9, 11] (fun v9 v => ∃ n : Int, (x3.length : Int) ≤ n ∧ n < (a.length : Int) ∧ v9 = .string (asS a) ∧ v = .int .i64 n) (fun _ v => (intOf v + 1).toNat)
                      case atStart => exact ⟨((asS a).size : Int) - 1, by rw [asS_size]; omega, by rw [asS_size]; omega, rfl, rfl⟩
                      case round => as_aux_lemma =>
                        obtain ⟨n, hn0, hn1, rfl, rfl⟩ := hrel
                        have h0 : (0 : Int) ≤ n := by omega
                        have hix := HIA.out n h0 hn1
                        by_cases hne : n = (x3.length : Int)
                        · subst hne
                          have hc : a.getD (x3.length : Int).toNat 0 = 58 := by rw [HB3.out, Int.toNat_natCast]; exact at_mid x3 y3 58
                          rw [hc] at hix
                          have hix' : ∀ W, (Instr.index 9 (.string (asS a)) (.int .i64 (x3.length : Int))).run Tryz.prog W = .ok (.int .u8 58) W := hix
                          have hwn : wrap64 ((x3.length : Int) + 1) = (x3.length : Int) + 1 := wrap_p1 x3.length (by have := HALN.out; omega)
                          clear hix hc
                          go_wp2_with (first
                            | (refine store_fld rfl 4 _ _ rfl (w.heap.size + 1) 5 (.bool true) { u1 with hasAuth := true } { { u1 with hasAuth := true } with hasPort := true } rfl rfl info4 (by decide) rfl rfl HR22.out rfl ?_)
                            | fail)
                          intro W23 hO hW
                          have HR23 := hid hW
                          have HB23 := hid (HB22.out.trans (hO.below (Nat.le_refl _)))
                          have z23 : w.heap.size + 2 ≤ W23.heap.size := by rw [hO.size]; exact z22
                          clear hO hW HR22 HB22 z22
                          go_wp2_with (first
                            | (refine store_fld rfl 9 _ _ rfl (w.heap.size + 1) 4 (.string (asS y3)) { { u1 with hasAuth := true } with hasPort := true } { { u1 with hasAuth := true } with hasPort := true, port := y3 } rfl rfl info9 (by decide) rfl rfl HR23.out rfl ?_)
                            | fail)
                          intro W24 hO hW
                          have HR24 := hid hW
                          have HB24 := hid (HB23.out.trans (hO.below (Nat.le_refl _)))
                          have z24 : w.heap.size + 2 ≤ W24.heap.size := by rw [hO.size]; exact z23
                          clear hO hW HR23 HB23 z23
                          go_wp2_with (first
                            | (refine store_fld rfl 9 _ _ rfl (w.heap.size + 1) 3 (.string (asS x3)) { { u1 with hasAuth := true } with hasPort := true, port := y3 } { { u1 with hasAuth := true } with hasPort := true, port := y3, host := x3 } rfl rfl info9 (by decide) rfl rfl HR24.out rfl ?_)
                            | fail)
                          intro W25 hO hW
                          have HR25 := hid hW
                          have HB25 := hid (HB24.out.trans (hO.below (Nat.le_refl _)))
                          have z25 : w.heap.size + 2 ≤ W25.heap.size := by rw [hO.size]; exact z24
                          clear hO hW HR24 HB24 z24
                          go_wp2_with fail
                          go_meet
                          case rel => exact ⟨k + 2 + f, _, congrArg (Value.int .i64) (by have := HEI.out; omega), heS, z25, HR25, HB25, HAU, HRES⟩
                        · have hmem : a.getD n.toNat 0 ∈ y3 := by rw [HB3.out]; exact at_behind x3 y3 58 n.toNat (by omega) (by rw [← HB3.out]; omega)
                          generalize a.getD n.toNat 0 = c at hix hmem
                          have hc1 : ((c.toNat : Int) == 93) = false := by rw [beq_eq_false_iff_ne]; exact fun h => HZ3.out (by rw [show (93 : UInt8) = c from UInt8.toNat_inj.1 (by show 93 = c.toNat; omega)]; exact hmem)
                          have hc2 : ¬ (c.toNat : Int) = 58 := fun h => HY3.out (by rw [show (58 : UInt8) = c from UInt8.toNat_inj.1 (by show 58 = c.toNat; omega)]; exact hmem)
                          have hwn : wrap64 (n - 1) = n - 1 := wrap_dec n h0 (by have := HALN.out; omega)
                          have hgt : (x3.length : Int) ≤ n - 1 := by omega
                          clear hmem hne
                          go_wp2_with fail
                          go_round
                          case rel => exact ⟨n - 1, by omega, by omega, rfl, by first | rfl | exact congrArg (Value.int .i64) hwn⟩
                          case measure => simp [intOf]; omega
              | some q =>
                obtain ⟨x0, y0⟩ := q
                rw [hp] at HRES HAU
                obtain ⟨ha0, hy0⟩ := user_split a x0 y0 hp
                have gE1 := ext_front x0 y0 64
                have gE2 := ext_back x0 y0 64
                rw [← ha0] at gE1 gE2
                have HA0 := hid ha0
                have HY0 := hid hy0
                have hsp := len_split a x0 y0 64 ha0 100000 hal
                have HX0 := hid hsp.1
                have HYL := hid hsp.2.1
                have hlx := hsp.2.2.1
                have gls := hsp.2.2.2
                clear hsp
                have HIY : Hid (∀ n : Int, 0 ≤ n → n < (y0.length : Int) → ∀ W, (Instr.index 9 (.string (asS y0)) (.int .i64 n)).run Tryz.prog W = .ok (.int .u8 (y0.getD n.toNat 0).toNat) W) := fun n h0 h1 W => by have := str_ix (asS y0) n.toNat (by rw [asS_size]; omega) W; rwa [Int.toNat_of_nonneg h0] at this
                clear hp ha0 hy0
                go_wp2_with fail
                clear hwa
                go_loop [9, 10] (fun v9 v => ∃ n : Int, (x0.length : Int) ≤ n ∧ n < (a.length : Int) ∧ v9 = .string (asS a) ∧ v = .int .i64 n) (fun _ v => (intOf v + 1).toNat)
                case atStart => exact ⟨((asS a).size : Int) - 1, by rw [asS_size]; omega, by rw [asS_size]; omega, rfl, rfl⟩
                case round => as_aux_lemma =>
                  obtain ⟨n, hn0, hn1, rfl, rfl⟩ := hrel
                  have h0 : (0 : Int) ≤ n := Int.le_trans (Int.natCast_nonneg _) hn0
                  have hix := HIA.out n h0 hn1
                  by_cases hne : n = (x0.length : Int)
                  · subst hne
                    have hc : a.getD (x0.length : Int).toNat 0 = 64 := by rw [HA0.out, Int.toNat_natCast]; exact at_mid x0 y0 64
                    rw [hc] at hix
                    have hix' : ∀ W, (Instr.index 9 (.string (asS a)) (.int .i64 (x0.length : Int))).run Tryz.prog W = .ok (.int .u8 64) W := hix
                    have hwn : wrap64 ((x0.length : Int) + 1) = (x0.length : Int) + 1 := wrap_p1 x0.length (Nat.le_trans HX0.out (by decide))
                    have hwy := wrap_pred (asS y0).size (by rw [asS_size]; exact Nat.le_trans HYL.out (by decide))
                    clear hix hc
                    go_wp2_with (first
                      | (refine store_fld rfl 4 _ _ rfl (w.heap.size + 1) 2 (.bool true) { u1 with hasAuth := true } { u1 with hasAuth := true, hasUser := true } rfl rfl info4 (by decide) rfl rfl HR22.out rfl ?_)
                      | fail)
                    intro W23 hO hW
                    have HR23 := hid hW
                    have HB23 := hid (HB22.out.trans (hO.below (Nat.le_refl _)))
                    have z23 : w.heap.size + 2 ≤ W23.heap.size := by rw [hO.size]; exact z22
                    clear hO hW HR22 HB22 z22
                    go_wp2_with (first
                      | (refine store_fld rfl 9 _ _ rfl (w.heap.size + 1) 1 (.string (asS x0)) { u1 with hasAuth := true, hasUser := true } { u1 with hasAuth := true, hasUser := true, user := x0 } rfl rfl info9 (by decide) rfl rfl HR23.out rfl ?_)
                      | fail)
                    intro W24 hO hW
                    have HR24 := hid hW
                    have HB24 := hid (HB23.out.trans (hO.below (Nat.le_refl _)))
                    have z24 : w.heap.size + 2 ≤ W24.heap.size := by rw [hO.size]; exact z23
                    clear hO hW HR23 HB23 z23
                    clear hix'
                    cases hp3 : lastCut 58 (fun c => c == 93) y0 with
                    | none =>
                      rw [hp3] at HRES HAU
                      obtain ⟨p3, t3, hb3, ht3, hq3⟩ := port_free y0 hp3
                      have HB3 := hid hb3
                      have HT3 := hid ht3
                      have HQ3 := hid hq3
                      have hlen3 : (p3.length : Int) ≤ (y0.length : Int) := by rw [hb3]; simp; omega
                      clear hp3 hb3 ht3 hq3
                      go_wp2_with fail
                      clear hwy hwn gE1 gE2 hlx gls hn0 hn1 h0
                      go_loop [9, 11] (fun v9 v => ∃ n : Int, (p3.length : Int) - 1 ≤ n ∧ n < (y0.length : Int) ∧ v9 = .string (asS y0) ∧ v = .int .i64 n) (fun _ v => (intOf v + 1).toNat)
                      case atStart => exact ⟨((asS y0).size : Int) - 1, by rw [asS_size]; omega, by rw [asS_size]; omega, rfl, rfl⟩
                      case round => as_aux_lemma =>
                        obtain ⟨n, hn0, hn1, rfl, rfl⟩ := hrel
                        by_cases hne : n = (p3.length : Int) - 1
                        · rcases HQ3.out with hp0 | ⟨q3, hp0⟩
                          · have hneg : ¬ (0 : Int) ≤ n := by rw [hp0] at hne; simp at hne; omega
                            clear hne
                            go_wp2_with (first
                              | (refine store_fld rfl 9 _ _ rfl (w.heap.size + 1) 3 (.string (asS y0)) { u1 with hasAuth := true, hasUser := true, user := x0 } { { u1 with hasAuth := true, hasUser := true, user := x0 } with host := y0 } rfl rfl info9 (by decide) rfl rfl HR24.out rfl ?_)
                              | fail)
                            intro W25 hO hW
                            have HR25 := hid hW
                            have HB25 := hid (HB24.out.trans (hO.below (Nat.le_refl _)))
                            have z25 : w.heap.size + 2 ≤ W25.heap.size := by rw [hO.size]; exact z24
                            clear hO hW HR24 HB24 z24
                            go_wp2_with fail
                            go_meet
                            case rel => exact ⟨k + 2 + f, _, congrArg (Value.int .i64) (by have := HEI.out; omega), heS, z25, HR25, HB25, HAU, HRES⟩
                          · have hpl : p3.length = q3.length + 1 := by rw [hp0]; simp
                            have h0 : (0 : Int) ≤ n := by omega
                            have hix := HIY.out n h0 (by omega)
                            have hc : y0.getD n.toNat 0 = 93 := by
                              rw [HB3.out, hp0, show n.toNat = q3.length from by omega, show q3 ++ [93] ++ t3 = q3 ++ 93 :: t3 from by simp]
                              exact at_mid q3 t3 93
                            rw [hc] at hix
                            have hix' : ∀ W, (Instr.index 9 (.string (asS y0)) (.int .i64 n)).run Tryz.prog W = .ok (.int .u8 93) W := hix
                            clear hix hc hne hpl
                            go_wp2_with (first
                              | (refine store_fld rfl 9 _ _ rfl (w.heap.size + 1) 3 (.string (asS y0)) { u1 with hasAuth := true, hasUser := true, user := x0 } { { u1 with hasAuth := true, hasUser := true, user := x0 } with host := y0 } rfl rfl info9 (by decide) rfl rfl HR24.out rfl ?_)
                              | fail)
                            intro W25 hO hW
                            have HR25 := hid hW
                            have HB25 := hid (HB24.out.trans (hO.below (Nat.le_refl _)))
                            have z25 : w.heap.size + 2 ≤ W25.heap.size := by rw [hO.size]; exact z24
                            clear hO hW HR24 HB24 z24
                            go_wp2_with fail
                            go_meet
                            case rel => exact ⟨k + 2 + f, _, congrArg (Value.int .i64) (by have := HEI.out; omega), heS, z25, HR25, HB25, HAU, HRES⟩
                        · have h0 : (0 : Int) ≤ n := by omega
                          have hix := HIY.out n h0 hn1
                          have hmem : y0.getD n.toNat 0 ∈ t3 := by rw [HB3.out]; exact at_tail p3 t3 n.toNat (by omega) (by rw [← HB3.out]; omega)
                          have hcc := HT3.out _ hmem
                          generalize y0.getD n.toNat 0 = c at hix hcc
                          have hc1 : ((c.toNat : Int) == 93) = false := by rw [beq_eq_false_iff_ne]; exact fun h => hcc.2 (UInt8.toNat_inj.1 (by show c.toNat = 93; omega))
                          have hc2 : ¬ (c.toNat : Int) = 58 := fun h => hcc.1 (UInt8.toNat_inj.1 (by show c.toNat = 58; omega))
                          have hwn : wrap64 (n - 1) = n - 1 := wrap_dec n h0 (by have := HYL.out; omega)
                          have hgt : (p3.length : Int) - 1 ≤ n - 1 := by omega
                          clear hcc hmem hne
                          go_wp2_with fail
                          go_round
                          case rel => exact ⟨n - 1, by omega, by omega, rfl, by first | rfl | exact congrArg (Value.int .i64) hwn⟩
                          case measure => simp [intOf]; omega
                    | some q =>
                      obtain ⟨x3, y3⟩ := q
                      rw [hp3] at HRES HAU
                      obtain ⟨hb3, hy3, hz3⟩ := port_split y0 x3 y3 hp3
                      have hE1 := ext_front x3 y3 58
                      have hE2 := ext_back x3 y3 58
                      rw [← hb3] at hE1 hE2
                      have HB3 := hid hb3
                      have HY3 := hid hy3
                      have HZ3 := hid hz3
                      have hlen3 : (x3.length : Int) + 1 ≤ (y0.length : Int) := by rw [hb3]; simp; omega
                      have hls : (x3.length : Int) + 1 ≤ ((asS y0).size : Int) := by rw [asS_size]; exact hlen3
                      clear hp3 hb3 hy3 hz3
                      go_wp2_with fail
                      clear hwy hwn gE1 gE2 hlx gls hn0 hn1 h0
                      go_loop [9, 11] (fun v9 v => ∃ n : Int, (x3.length : Int) ≤ n ∧ n < (y0.length : Int) ∧ v9 = .string (asS y0) ∧ v = .int .i64 n) (fun _ v => (intOf v + 1).toNat)
                      case atStart => exact ⟨((asS y0).size : Int) - 1, by rw [asS_size]; omega, by rw [asS_size]; omega, rfl, rfl⟩
                      case round => as_aux_lemma =>
                        obtain ⟨n, hn0, hn1, rfl, rfl⟩ := hrel
                        have h0 : (0 : Int) ≤ n := by omega
                        have hix := HIY.out n h0 hn1
                        by_cases hne : n = (x3.length : Int)
                        · subst hne
                          have hc : y0.getD (x3.length : Int).toNat 0 = 58 := by rw [HB3.out, Int.toNat_natCast]; exact at_mid x3 y3 58
                          rw [hc] at hix
                          have hix' : ∀ W, (Instr.index 9 (.string (asS y0)) (.int .i64 (x3.length : Int))).run Tryz.prog W = .ok (.int .u8 58) W := hix
                          have hwn : wrap64 ((x3.length : Int) + 1) = (x3.length : Int) + 1 := wrap_p1 x3.length (by have := HYL.out; omega)
                          clear hix hc
                          go_wp2_with (first
                            | (refine store_fld rfl 4 _ _ rfl (w.heap.size + 1) 5 (.bool true) { u1 with hasAuth := true, hasUser := true, user := x0 } { { u1 with hasAuth := true, hasUser := true, user := x0 } with hasPort := true } rfl rfl info4 (by decide) rfl rfl HR24.out rfl ?_)
                            | fail)
                          intro W25 hO hW
                          have HR25 := hid hW
                          have HB25 := hid (HB24.out.trans (hO.below (Nat.le_refl _)))
                          have z25 : w.heap.size + 2 ≤ W25.heap.size := by rw [hO.size]; exact z24
                          clear hO hW HR24 HB24 z24
                          go_wp2_with (first
                            | (refine store_fld rfl 9 _ _ rfl (w.heap.size + 1) 4 (.string (asS y3)) { { u1 with hasAuth := true, hasUser := true, user := x0 } with hasPort := true } { { u1 with hasAuth := true, hasUser := true, user := x0 } with hasPort := true, port := y3 } rfl rfl info9 (by decide) rfl rfl HR25.out rfl ?_)
                            | fail)
                          intro W26 hO hW
                          have HR26 := hid hW
                          have HB26 := hid (HB25.out.trans (hO.below (Nat.le_refl _)))
                          have z26 : w.heap.size + 2 ≤ W26.heap.size := by rw [hO.size]; exact z25
                          clear hO hW HR25 HB25 z25
                          go_wp2_with (first
                            | (refine store_fld rfl 9 _ _ rfl (w.heap.size + 1) 3 (.string (asS x3)) { { u1 with hasAuth := true, hasUser := true, user := x0 } with hasPort := true, port := y3 } { { u1 with hasAuth := true, hasUser := true, user := x0 } with hasPort := true, port := y3, host := x3 } rfl rfl info9 (by decide) rfl rfl HR26.out rfl ?_)
                            | fail)
                          intro W27 hO hW
                          have HR27 := hid hW
                          have HB27 := hid (HB26.out.trans (hO.below (Nat.le_refl _)))
                          have z27 : w.heap.size + 2 ≤ W27.heap.size := by rw [hO.size]; exact z26
                          clear hO hW HR26 HB26 z26
                          go_wp2_with fail
                          go_meet
                          case rel => exact ⟨k + 2 + f, _, congrArg (Value.int .i64) (by have := HEI.out; omega), heS, z27, HR27, HB27, HAU, HRES⟩
                        · have hmem : y0.getD n.toNat 0 ∈ y3 := by rw [HB3.out]; exact at_behind x3 y3 58 n.toNat (by omega) (by rw [← HB3.out]; omega)
                          generalize y0.getD n.toNat 0 = c at hix hmem
                          have hc1 : ((c.toNat : Int) == 93) = false := by rw [beq_eq_false_iff_ne]; exact fun h => HZ3.out (by rw [show (93 : UInt8) = c from UInt8.toNat_inj.1 (by show 93 = c.toNat; omega)]; exact hmem)
                          have hc2 : ¬ (c.toNat : Int) = 58 := fun h => HY3.out (by rw [show (58 : UInt8) = c from UInt8.toNat_inj.1 (by show 58 = c.toNat; omega)]; exact hmem)
                          have hwn : wrap64 (n - 1) = n - 1 := wrap_dec n h0 (by have := HYL.out; omega)
                          have hgt : (x3.length : Int) ≤ n - 1 := by omega
                          clear hmem hne
                          go_wp2_with fail
                          go_round
                          case rel => exact ⟨n - 1, by omega, by omega, rfl, by first | rfl | exact congrArg (Value.int .i64) hwn⟩
                          case measure => simp [intOf]; omega
                  · have hmem : a.getD n.toNat 0 ∈ y0 := by rw [HA0.out]; exact at_behind x0 y0 64 n.toNat (by omega) (by rw [← HA0.out]; omega)
                    generalize a.getD n.toNat 0 = c at hix hmem
                    have hc2 : ¬ (c.toNat : Int) = 64 := fun h => HY0.out (by rw [show (64 : UInt8) = c from UInt8.toNat_inj.1 (by show 64 = c.toNat; omega)]; exact hmem)
                    have hwn : wrap64 (n - 1) = n - 1 := wrap_dec n h0 (by have := HALN.out; omega)
                    have hgt : (x0.length : Int) ≤ n - 1 := by omega
                    clear hmem hne
                    go_wp2_with fail
                    go_round
                    case rel => exact ⟨n - 1, by omega, by omega, rfl, by first | rfl | exact congrArg (Value.int .i64) hwn⟩
                    case measure => simp [intOf]; omega
          case rest => as_aux_lemma =>
            clear HR21 HB21 z21 HPR HAL HU0 HHD hw2 hk
            obtain ⟨k2, u2, rfl, hk2, z61, HR61, HB61, HAL, HPR⟩ := hcut
            obtain ⟨W61, hV⟩ : ∃ V, V = wc := ⟨_, rfl⟩
            subst hV
            have HF4 := hid (HFI.out [63, 35] (by simp) k2 (by have := HSZ.out; omega))
            have hfl := HFL.out [63, 35] k2
            rw [List.length_drop] at hfl
            obtain ⟨p, hp⟩ : ∃ p, p = findU [63, 35] (l.drop k2) := ⟨_, rfl⟩
            rw [← hp] at HF4 hfl
            have HP := hid hp
            clear hp
            have hkl : k2 ≤ l.length := by have := HSZ.out; omega
            have hsl := HSL.out k2 p (by omega) (k2 : Int) ((k2 : Int) + (p : Int)) rfl (by omega)
            have PP : Hid (PartOf l ((l.drop k2).take p)) := (PartOf.drop l k2).trans (PartOf.take _ p)
            have HD1 : Hid ((l.drop k2).drop p = l.drop (k2 + p)) := by show _ = _; rw [List.drop_drop]
            generalize hpth : (l.drop k2).take p = pth at hsl PP
            have HPTH := hid hpth
            clear hpth
            have HF5 : Hid (∀ W, Calls Tryz.prog 55 #[.string S, .int .i64 (k2 : Int), .string ⟨#[63, 35]⟩] W fun e w' => e = .returned (.int .i64 ((k2 : Int) + (p : Int))) ∧ w' = W) := fun W => by
              have := HF4.out W
              rw [show ((k2 + p : Nat) : Int) = (k2 : Int) + (p : Int) from by omega] at this
              exact this
            have hE0 : k2 + p ≤ l.length := by omega
            obtain ⟨E0, hE0e⟩ : ∃ E0, E0 = k2 + p := ⟨_, rfl⟩
            have HE0 := hid hE0e
            have hEi : (k2 : Int) + (p : Int) = (E0 : Int) := by omega
            rw [hEi] at hsl HF5
            have hE0S : E0 ≤ S.size := by have := HSZ.out; omega
            clear hE0e hEi hE0 hfl hkl HF4
            go_wp2_with fail
            refine (HF5.out _).mono ?_
            rintro e W61 ⟨rfl, rfl⟩
            go_wp2_with (first
              | (refine store_fld rfl 9 _ _ rfl (w.heap.size + 1) 7 (.string (asS pth)) u2 { u2 with path := pth } rfl rfl info9 (by decide) rfl rfl HR61.out rfl ?_)
              | fail)
            intro W62 hO hW
            have HR62 := hid hW
            have HB62 := hid (HB61.out.trans (hO.below (Nat.le_refl _)))
            have z62 : w.heap.size + 2 ≤ W62.heap.size := by rw [hO.size]; exact z61
            clear hO hW HR61 HB61 z61
            clear hsl HF5
            obtain ⟨qd, hqd⟩ : ∃ qd, qd = decide ((l.drop E0).getD 0 0 = 63) := ⟨_, rfl⟩
            have HQD := hid hqd
            clear hqd
            go_upto_region 38 with (fail)
            go_cut [161] (fun v wx => v = .bool qd ∧ wx = W62)
            case first =>
              by_cases h2 : E0 < S.size
              · have h2' : (E0 : Int) < (S.size : Int) := by omega
                have hix := HIX.out E0 (by have := HSZ.out; omega)
                have HQ2 : Hid (qd = decide (l.getD E0 0 = 63)) := by show _ = _; rw [HQD.out]; exact decide_eq_decide.2 ⟨fun h => ((drop_head l E0 63 (by decide)).1 h).2, fun h => (drop_head l E0 63 (by decide)).2 ⟨by have := HSZ.out; omega, h⟩⟩
                generalize l.getD E0 0 = c at hix HQ2
                have hc : ((c.toNat : Int) == 63) = qd := by
                  rw [HQ2.out, Bool.eq_iff_iff, beq_iff_eq, decide_eq_true_iff]
                  exact u8_eq_iff c 63
                go_wp2_with fail
                go_meet
                case rel => exact ⟨rfl, rfl⟩
              · have h2' : ¬ (E0 : Int) < (S.size : Int) := by omega
                have HF : Hid (qd = false) := by
                  show _ = _
                  rw [HQD.out]
                  exact decide_eq_false (fun h => by have h3 := ((drop_head l E0 63 (by decide)).1 h).1; have := HSZ.out; omega)
                go_wp2_with fail
                go_meet
                case rel => exact ⟨by rw [HF.out], rfl⟩
            case rest => as_aux_lemma =>
              obtain ⟨rfl, rfl⟩ := hcut
              go_upto_if 161 with (fail)
              go_cut [12] (fun v wx => ∃ (e3 : Nat) (u3 : UrlV), v = .int .i64 (e3 : Int) ∧ e3 ≤ S.size ∧ w.heap.size + 2 ≤ wx.heap.size ∧ Hid (wx.heap[w.heap.size + 1]? = some (.cells (ucs u3) 26 (0, 0))) ∧ Hid (Below (w.heap.size + 1) W0 wx) ∧ Hid (AllOf l u3) ∧ Hid (PR = ansU (if l.drop e3 = [] then u3 else { u3 with hasFrag := true, frag := (l.drop e3).drop 1 })))
              case first =>
                cases qd with
                | false =>
                  have hno := of_decide_eq_false HQD.out.symm
                  have HQ : Hid (PR = ansU (if l.drop E0 = [] then { u2 with path := pth } else { u2 with path := pth, hasFrag := true, frag := (l.drop E0).drop 1 })) := by
                    show _ = _
                    rw [HPR.out, tail_not (l.drop k2) u2 p HP.out (by rw [HD1.out, ← HE0.out]; exact hno), HD1.out, ← HE0.out, HPTH.out]
                  clear hno
                  go_wp2_with fail
                  go_meet
                  case rel => exact ⟨E0, _, rfl, hE0S, z62, HR62, HB62, ⟨HAL.out.user, HAL.out.host, HAL.out.port, PP.out, HAL.out.query, HAL.out.frag⟩, HQ⟩
                | true =>
                  have hyes := of_decide_eq_true HQD.out.symm
                  have hlt := ((drop_head l E0 63 (by decide)).1 hyes).1
                  have HF6 := hid (HFI.out [35] (by simp) (E0 + 1) (by omega))
                  have hfl := HFL.out [35] (E0 + 1)
                  rw [List.length_drop] at hfl
                  obtain ⟨q, hq⟩ : ∃ q, q = findU [35] (l.drop (E0 + 1)) := ⟨_, rfl⟩
                  rw [← hq] at HF6 hfl
                  have hsl := HSL.out (E0 + 1) q (by omega) ((E0 : Int) + 1) ((E0 : Int) + 1 + (q : Int)) (by omega) (by omega)
                  have PQ2 : Hid (PartOf l ((l.drop (E0 + 1)).take q)) := (PartOf.drop l (E0 + 1)).trans (PartOf.take _ q)
                  have hdd : (l.drop E0).drop 1 = l.drop (E0 + 1) := by rw [List.drop_drop]
                  have hde : (l.drop (E0 + 1)).drop q = l.drop (E0 + 1 + q) := by rw [List.drop_drop]
                  have HQ : Hid (PR = ansU (if l.drop (E0 + 1 + q) = [] then { u2 with path := pth, hasQuery := true, query := (l.drop (E0 + 1)).take q } else { u2 with path := pth, hasQuery := true, query := (l.drop (E0 + 1)).take q, hasFrag := true, frag := (l.drop (E0 + 1 + q)).drop 1 })) := by
                    show _ = _
                    rw [HPR.out, tail_yes (l.drop k2) u2 p q HP.out (by rw [HD1.out, ← HE0.out]; exact hyes) (by rw [HD1.out, ← HE0.out, hdd]; exact hq), HD1.out, ← HE0.out, HPTH.out, hdd, hde]
                  generalize (l.drop (E0 + 1)).take q = qry at hsl PQ2 HQ
                  have HF7 : Hid (∀ W, Calls Tryz.prog 55 #[.string S, .int .i64 ((E0 : Int) + 1), .string ⟨#[35]⟩] W fun e w' => e = .returned (.int .i64 ((E0 : Int) + 1 + (q : Int))) ∧ w' = W) := fun W => by
                    have := HF6.out W
                    rw [show ((E0 + 1 : Nat) : Int) = (E0 : Int) + 1 from by omega, show ((E0 + 1 + q : Nat) : Int) = (E0 : Int) + 1 + (q : Int) from by omega] at this
                    exact this
                  have hE3 : E0 + 1 + q ≤ S.size := by have := HSZ.out; omega
                  have hw1 : wrap64 ((E0 : Int) + 1) = (E0 : Int) + 1 := wrap_p1 E0 (by omega)
                  clear hyes hq hdd hde hfl HF6 hlt
                  go_wp2_with fail
                  refine (HF7.out _).mono ?_
                  rintro e W62 ⟨rfl, rfl⟩
                  generalize hei : (E0 : Int) + 1 + (q : Int) = ei at hsl ⊢
                  have HEI := hid hei
                  clear hei
                  go_wp2_with (first
                    | (refine store_fld rfl 4 _ _ rfl (w.heap.size + 1) 9 (.bool true) { u2 with path := pth } { u2 with path := pth, hasQuery := true } rfl rfl info4 (by decide) rfl rfl HR62.out rfl ?_)
                    | fail)
                  intro W63 hO hW
                  have HR63 := hid hW
                  have HB63 := hid (HB62.out.trans (hO.below (Nat.le_refl _)))
                  have z63 : w.heap.size + 2 ≤ W63.heap.size := by rw [hO.size]; exact z62
                  clear hO hW HR62 HB62 z62
                  go_wp2_with (first
                    | (refine store_fld rfl 9 _ _ rfl (w.heap.size + 1) 8 (.string (asS qry)) { u2 with path := pth, hasQuery := true } { u2 with path := pth, hasQuery := true, query := qry } rfl rfl info9 (by decide) rfl rfl HR63.out rfl ?_)
                    | fail)
                  intro W64 hO hW
                  have HR64 := hid hW
                  have HB64 := hid (HB63.out.trans (hO.below (Nat.le_refl _)))
                  have z64 : w.heap.size + 2 ≤ W64.heap.size := by rw [hO.size]; exact z63
                  clear hO hW HR63 HB63 z63
                  go_wp2_with fail
                  go_meet
                  case rel => exact ⟨E0 + 1 + q, _, congrArg (Value.int .i64) (by have := HEI.out; omega), hE3, z64, HR64, HB64, ⟨HAL.out.user, HAL.out.host, HAL.out.port, PP.out, PQ2.out, HAL.out.frag⟩, HQ⟩
              case rest => as_aux_lemma =>
                clear HR62 HB62 z62 HPR HAL HQD HP HPTH HD1 HE0 PP hE0S hk2
                obtain ⟨e3, u3, rfl, he3, z82, HR82, HB82, HAL, HPR⟩ := hcut
                obtain ⟨W82, hV⟩ : ∃ V, V = wc := ⟨_, rfl⟩
                subst hV
                go_upto_if 176 with (fail)
                go_cut [] (fun wx => ∃ u4 : UrlV, w.heap.size + 2 ≤ wx.heap.size ∧ Hid (wx.heap[w.heap.size + 1]? = some (.cells (ucs u4) 26 (0, 0))) ∧ Hid (Below (w.heap.size + 1) W0 wx) ∧ Hid (AllOf l u4) ∧ Hid (PR = ansU u4))
                case first =>
                  by_cases h2 : e3 < S.size
                  · have h2' : (e3 : Int) < (S.size : Int) := by omega
                    have hel : e3 < l.length := by have := HSZ.out; omega
                    have hne : ¬ l.drop e3 = [] := fun h => by have := congrArg List.length h; rw [List.length_drop] at this; simp at this; omega
                    rw [if_neg hne] at HPR
                    have hdd : (l.drop e3).drop 1 = l.drop (e3 + 1) := by rw [List.drop_drop]
                    rw [hdd] at HPR
                    have hEF := HEF.out (e3 + 1)
                    have hle : (e3 : Int) + 1 ≤ (S.size : Int) := by omega
                    have hw1 : wrap64 ((e3 : Int) + 1) = (e3 : Int) + 1 := wrap_p1 e3 (by omega)
                    have PD : Hid (PartOf l (l.drop (e3 + 1))) := PartOf.drop l (e3 + 1)
                    generalize l.drop (e3 + 1) = frg at hEF HPR PD
                    clear hne hdd hel h2
                    go_wp2_with (first
                      | (refine store_fld rfl 4 _ _ rfl (w.heap.size + 1) 11 (.bool true) u3 { u3 with hasFrag := true } rfl rfl info4 (by decide) rfl rfl HR82.out rfl ?_)
                      | fail)
                    intro W83 hO hW
                    have HR83 := hid hW
                    have HB83 := hid (HB82.out.trans (hO.below (Nat.le_refl _)))
                    have z83 : w.heap.size + 2 ≤ W83.heap.size := by rw [hO.size]; exact z82
                    clear hO hW HR82 HB82 z82
                    go_wp2_with (first
                      | (refine store_fld rfl 9 _ _ rfl (w.heap.size + 1) 10 (.string (asS frg)) { u3 with hasFrag := true } { u3 with hasFrag := true, frag := frg } rfl rfl info9 (by decide) rfl rfl HR83.out rfl ?_)
                      | fail)
                    intro W84 hO hW
                    have HR84 := hid hW
                    have HB84 := hid (HB83.out.trans (hO.below (Nat.le_refl _)))
                    have z84 : w.heap.size + 2 ≤ W84.heap.size := by rw [hO.size]; exact z83
                    clear hO hW HR83 HB83 z83
                    go_wp2_with fail
                    go_meet
                    case rel => exact ⟨_, z84, HR84, HB84, ⟨HAL.out.user, HAL.out.host, HAL.out.port, HAL.out.path, HAL.out.query, PD.out⟩, HPR⟩
                  · have h2' : ¬ (e3 : Int) < (S.size : Int) := by omega
                    have hnil : l.drop e3 = [] := List.drop_of_length_le (by have := HSZ.out; omega)
                    rw [if_pos hnil] at HPR
                    clear hnil h2
                    go_wp2_with fail
                    go_meet
                    case rel => exact ⟨u3, z82, HR82, HB82, HAL, HPR⟩
                case rest => as_aux_lemma =>
                  clear HR82 HB82 z82 HPR HAL he3
                  obtain ⟨u4, z102, HR102, HB102, HAL, HPR⟩ := hcut
                  obtain ⟨V, hV⟩ : ∃ V, V = wc := ⟨_, rfl⟩
                  subst hV
                  have h1 := HAL.out.user.1; have h2 := HAL.out.path.1; have h3 := HAL.out.query.1; have h4 := HAL.out.frag.1; have h5 := HAL.out.host.1; have h6 := HAL.out.port.1; have hL := HLL.out
                  have HG1 : Hid (∀ W, Calls Tryz.prog 55 #[.string (asS u4.frag), .int .i64 0, .string ⟨#[35]⟩] W fun e w' => e = .returned (.int .i64 ((findU [35] u4.frag : Nat) : Int)) ∧ w' = W) := fun W => by
                    have := find_any7 u4.frag [35] (by omega) (by simp) 0 (by omega) W
                    rw [List.drop_zero, Nat.zero_add] at this
                    exact this
                  have HG2 : Hid (∀ W, Calls Tryz.prog 55 #[.string (asS (u4.user ++ u4.path ++ u4.query ++ u4.frag)), .int .i64 0, .string ⟨#[91, 93]⟩] W fun e w' => e = .returned (.int .i64 ((findU [91, 93] (u4.user ++ u4.path ++ u4.query ++ u4.frag) : Nat) : Int)) ∧ w' = W) := fun W => by
                    have := find_any7 (u4.user ++ u4.path ++ u4.query ++ u4.frag) [91, 93] (by simp; omega) (by simp) 0 (by omega) W
                    rw [List.drop_zero, Nat.zero_add] at this
                    exact this
                  have HG3 := hid (fun W => digits7_any u4.port (by omega) W)
                  have HG4 := hid (fun W => host7_any u4.host (by omega) W)
                  have hf1 := findU_le [35] u4.frag
                  have hf2 := findU_le [91, 93] (u4.user ++ u4.path ++ u4.query ++ u4.frag)
                  have HOK : Hid (okU u4 = (decide (findU [35] u4.frag = u4.frag.length) && decide (findU [91, 93] (u4.user ++ u4.path ++ u4.query ++ u4.frag) = (u4.user ++ u4.path ++ u4.query ++ u4.frag).length) && u4.port.all digitU && (!u4.hasAuth || hostU u4.host))) := rfl
                  have HAN : Hid (PR = if okU u4 then some u4 else none) := HPR.out
                  have s4 := asS_size u4.frag
                  have s5 := asS_size (u4.user ++ u4.path ++ u4.query ++ u4.frag)
                  have e1 := asS_app u4.user u4.path
                  have e2 := asS_app (u4.user ++ u4.path) u4.query
                  have e3 := asS_app (u4.user ++ u4.path ++ u4.query) u4.frag
                  have k1 := cat_size u4.user u4.path (by omega)
                  have k2 := cat_size (u4.user ++ u4.path) u4.query (by simp; omega)
                  have k3 := cat_size (u4.user ++ u4.path ++ u4.query) u4.frag (by simp; omega)
                  have c1 := cellU HR102.out 1 (.string (asS u4.user)) rfl
                  have c7 := cellU HR102.out 7 (.string (asS u4.path)) rfl
                  have c8 := cellU HR102.out 8 (.string (asS u4.query)) rfl
                  have c10 := cellU HR102.out 10 (.string (asS u4.frag)) rfl
                  have c3 := cellU HR102.out 3 (.string (asS u4.host)) rfl
                  have c4 := cellU HR102.out 4 (.string (asS u4.port)) rfl
                  have c6 := cellU HR102.out 6 (.bool u4.hasAuth) rfl
                  generalize findU [35] u4.frag = f1 at HG1 hf1 HOK
                  generalize findU [91, 93] (u4.user ++ u4.path ++ u4.query ++ u4.frag) = f2 at HG2 hf2 HOK
                  generalize u4.port.all digitU = b3 at HG3 HOK
                  generalize hostU u4.host = b4 at HG4 HOK
                  generalize okU u4 = okk at HOK HAN
                  generalize u4.frag.length = n1 at hf1 HOK s4
                  generalize (u4.user ++ u4.path ++ u4.query ++ u4.frag).length = n2 at hf2 HOK s5
                  generalize u4.hasAuth = ha at HOK c6
                  generalize asS (u4.user ++ u4.path ++ u4.query ++ u4.frag) = Y4 at HG2 e3 s5
                  generalize asS (u4.user ++ u4.path ++ u4.query) = Y3 at e2 e3 k3
                  generalize asS (u4.user ++ u4.path) = Y2 at e1 e2 k2
                  generalize asS u4.user = X1 at c1 e1 k1
                  generalize asS u4.path = X2 at c7 e1 k1
                  generalize asS u4.query = X3 at c8 e2 k2
                  generalize asS u4.frag = X4 at c10 e3 k3 HG1 s4
                  generalize asS u4.host = X5 at c3 HG4
                  generalize asS u4.port = X6 at c4 HG3
                  have d1 : decide ((f1 : Int) < (X4.size : Int)) = decide (f1 < n1) := decide_eq_decide.2 (by omega)
                  have d2 : decide ((f2 : Int) < (Y4.size : Int)) = decide (f2 < n2) := decide_eq_decide.2 (by omega)
                  have d1n : decide (f1 < X4.size) = decide (f1 < n1) := decide_eq_decide.2 (by omega)
                  have d2n : decide (f2 < Y4.size) = decide (f2 < n2) := decide_eq_decide.2 (by omega)
                  have o1 : decide (f1 = n1) = !decide (f1 < n1) := by rw [Bool.eq_iff_iff]; simp; omega
                  have o2 : decide (f2 = n2) = !decide (f2 < n2) := by rw [Bool.eq_iff_iff]; simp; omega
                  rw [o1, o2] at HOK
                  generalize decide (f1 < n1) = q1 at d1 d1n HOK
                  generalize decide (f2 < n2) = q2 at d2 d2n HOK
                  clear o1 o2 h1 h2 h3 h4 h5 h6 hL s4 s5 hf1 hf2
                  go_wp2_with fail
                  clear e1 e2 e3 k1 k2 k3 c1 c7 c8
                  have r10 := cell_regrown c10
                  have r3 := cell_regrown c3
                  have r4 := cell_regrown c4
                  have r6 := cell_regrown c6
                  have t1 : REG7 55 #[.string X4, .int .i64 0, .string ⟨#[35]⟩] V (.int .i64 (f1 : Int)) := fun d os => Calls.regrown_of (same_below HG1.out _)
                  have t2 : REG7 55 #[.string Y4, .int .i64 0, .string ⟨#[91, 93]⟩] V (.int .i64 (f2 : Int)) := fun d os => Calls.regrown_of (same_below HG2.out _)
                  have t3 : REG7 59 #[.string X6] V (.bool b3) := fun d os => Calls.regrown_of (same_below HG3.out _)
                  have t4 : REG7 60 #[.string X5] V (.bool b4) := fun d os => Calls.regrown_of (HG4.out _)
                  clear c10 c3 c4 c6
                  cases q1 with
                  | true =>
                    have HQ : Hid (PR = none) := by show _ = _; rw [HAN.out, HOK.out]; simp
                    refine wp_region_quiet_below (by kernel_rfl) (by kernel_rfl) ?_
                    repeat (go_big_quiet_step (first | (go_at_call_of 55 (Value.string X4); exact t1 _ _) | (go_at_call_of 55 (Value.string Y4); exact t2 _ _) | (go_at_call 59; exact t3 _ _) | (go_at_call 60; exact t4 _ _)))
                    refine wpQuiet_nil ?_
                    rintro W9 ⟨⟨dq, osq⟩, hw⟩
                    have HB9 : Hid (Below V.heap.size V W9) := by rw [hw]; exact below_regrown V dq osq
                    clear hw r10 r3 r4 r6 t1 t2 t3 t4 d1 d2 d1n d2n
                    go_wp2_with (first
                      | (refine wpList_built rfl 26 _ rfl (ucs zeroU) built_urlZ ?_)
                      | (refine store_url rfl _ _ rfl w.heap.size zeroU rfl rfl _ (row_keep HB9.out ((HB102.out.block _ (by omega)).trans HCZ.out)) HZS.out ?_)
                      | fail)
                    intro Wf hOf hWf
                    go_wp2
                    refine bodyPost_ret (ret_url2 (p := 2) (q := 3) Tryz.results35 _ _ w.heap.size zeroU (0, 0) _ rfl rfl hWf) rfl ⟨?_, HBW.out.trans (((HB102.out.mono (by omega)).trans (HB9.out.mono (by omega))).trans (hOf.below (Nat.le_refl _)))⟩
                    rw [HQ.out]; rfl
                  | false =>
                    cases q2 with
                    | true =>
                      have HQ : Hid (PR = none) := by show _ = _; rw [HAN.out, HOK.out]; simp
                      refine wp_region_quiet_below (by kernel_rfl) (by kernel_rfl) ?_
                      repeat (go_big_quiet_step (first | (go_at_call_of 55 (Value.string X4); exact t1 _ _) | (go_at_call_of 55 (Value.string Y4); exact t2 _ _) | (go_at_call 59; exact t3 _ _) | (go_at_call 60; exact t4 _ _)))
                      refine wpQuiet_nil ?_
                      rintro W9 ⟨⟨dq, osq⟩, hw⟩
                      have HB9 : Hid (Below V.heap.size V W9) := by rw [hw]; exact below_regrown V dq osq
                      clear hw r10 r3 r4 r6 t1 t2 t3 t4 d1 d2 d1n d2n
                      go_wp2_with (first
                        | (refine wpList_built rfl 26 _ rfl (ucs zeroU) built_urlZ ?_)
                        | (refine store_url rfl _ _ rfl w.heap.size zeroU rfl rfl _ (row_keep HB9.out ((HB102.out.block _ (by omega)).trans HCZ.out)) HZS.out ?_)
                        | fail)
                      intro Wf hOf hWf
                      go_wp2
                      refine bodyPost_ret (ret_url2 (p := 2) (q := 3) Tryz.results35 _ _ w.heap.size zeroU (0, 0) _ rfl rfl hWf) rfl ⟨?_, HBW.out.trans (((HB102.out.mono (by omega)).trans (HB9.out.mono (by omega))).trans (hOf.below (Nat.le_refl _)))⟩
                      rw [HQ.out]; rfl
                    | false =>
                      cases b3 with
                      | false =>
                        have HQ : Hid (PR = none) := by show _ = _; rw [HAN.out, HOK.out]; simp
                        refine wp_region_quiet_below (by kernel_rfl) (by kernel_rfl) ?_
                        repeat (go_big_quiet_step (first | (go_at_call_of 55 (Value.string X4); exact t1 _ _) | (go_at_call_of 55 (Value.string Y4); exact t2 _ _) | (go_at_call 59; exact t3 _ _) | (go_at_call 60; exact t4 _ _)))
                        refine wpQuiet_nil ?_
                        rintro W9 ⟨⟨dq, osq⟩, hw⟩
                        have HB9 : Hid (Below V.heap.size V W9) := by rw [hw]; exact below_regrown V dq osq
                        clear hw r10 r3 r4 r6 t1 t2 t3 t4 d1 d2 d1n d2n
                        go_wp2_with (first
                          | (refine wpList_built rfl 26 _ rfl (ucs zeroU) built_urlZ ?_)
                          | (refine store_url rfl _ _ rfl w.heap.size zeroU rfl rfl _ (row_keep HB9.out ((HB102.out.block _ (by omega)).trans HCZ.out)) HZS.out ?_)
                          | fail)
                        intro Wf hOf hWf
                        go_wp2
                        refine bodyPost_ret (ret_url2 (p := 2) (q := 3) Tryz.results35 _ _ w.heap.size zeroU (0, 0) _ rfl rfl hWf) rfl ⟨?_, HBW.out.trans (((HB102.out.mono (by omega)).trans (HB9.out.mono (by omega))).trans (hOf.below (Nat.le_refl _)))⟩
                        rw [HQ.out]; rfl
                      | true =>
                        cases ha with
                        | false =>
                          have HQ : Hid (PR = some u4) := by show _ = _; rw [HAN.out, HOK.out]; simp
                          refine wp_region_quiet_below (by kernel_rfl) (by kernel_rfl) ?_
                          repeat (go_big_quiet_step (first | (go_at_call_of 55 (Value.string X4); exact t1 _ _) | (go_at_call_of 55 (Value.string Y4); exact t2 _ _) | (go_at_call 59; exact t3 _ _) | (go_at_call 60; exact t4 _ _)))
                          refine wpQuiet_nil ?_
                          rintro W9 ⟨⟨dq, osq⟩, hw⟩
                          have HB9 : Hid (Below V.heap.size V W9) := by rw [hw]; exact below_regrown V dq osq
                          clear hw r10 r3 r4 r6 t1 t2 t3 t4 d1 d2 d1n d2n
                          go_wp2_with (first
                            | (refine load_url rfl _ rfl (w.heap.size + 1) u4 rfl (0, 0) (row_keep HB9.out HR102.out) ?_)
                            | (refine store_url rfl _ _ rfl w.heap.size u4 rfl rfl _ (row_keep HB9.out ((HB102.out.block _ (by omega)).trans HCZ.out)) HZS.out ?_)
                            | fail)
                          intro Wf hOf hWf
                          go_wp2
                          refine bodyPost_ret (ret_url2 (p := 2) (q := 3) Tryz.results35 _ _ w.heap.size u4 (0, 0) _ rfl rfl hWf) rfl ⟨?_, HBW.out.trans (((HB102.out.mono (by omega)).trans (HB9.out.mono (by omega))).trans (hOf.below (Nat.le_refl _)))⟩
                          rw [HQ.out]; rfl
                        | true =>
                          cases b4 with
                          | false =>
                            have HQ : Hid (PR = none) := by show _ = _; rw [HAN.out, HOK.out]; simp
                            refine wp_region_quiet_below (by kernel_rfl) (by kernel_rfl) ?_
                            repeat (go_big_quiet_step (first | (go_at_call_of 55 (Value.string X4); exact t1 _ _) | (go_at_call_of 55 (Value.string Y4); exact t2 _ _) | (go_at_call 59; exact t3 _ _) | (go_at_call 60; exact t4 _ _)))
                            refine wpQuiet_nil ?_
                            rintro W9 ⟨⟨dq, osq⟩, hw⟩
                            have HB9 : Hid (Below V.heap.size V W9) := by rw [hw]; exact below_regrown V dq osq
                            clear hw r10 r3 r4 r6 t1 t2 t3 t4 d1 d2 d1n d2n
                            go_wp2_with (first
                              | (refine wpList_built rfl 26 _ rfl (ucs zeroU) built_urlZ ?_)
                              | (refine store_url rfl _ _ rfl w.heap.size zeroU rfl rfl _ (row_keep HB9.out ((HB102.out.block _ (by omega)).trans HCZ.out)) HZS.out ?_)
                              | fail)
                            intro Wf hOf hWf
                            go_wp2
                            refine bodyPost_ret (ret_url2 (p := 2) (q := 3) Tryz.results35 _ _ w.heap.size zeroU (0, 0) _ rfl rfl hWf) rfl ⟨?_, HBW.out.trans (((HB102.out.mono (by omega)).trans (HB9.out.mono (by omega))).trans (hOf.below (Nat.le_refl _)))⟩
                            rw [HQ.out]; rfl
                          | true =>
                            have HQ : Hid (PR = some u4) := by show _ = _; rw [HAN.out, HOK.out]; simp
                            refine wp_region_quiet_below (by kernel_rfl) (by kernel_rfl) ?_
                            repeat (go_big_quiet_step (first | (go_at_call_of 55 (Value.string X4); exact t1 _ _) | (go_at_call_of 55 (Value.string Y4); exact t2 _ _) | (go_at_call 59; exact t3 _ _) | (go_at_call 60; exact t4 _ _)))
                            refine wpQuiet_nil ?_
                            rintro W9 ⟨⟨dq, osq⟩, hw⟩
                            have HB9 : Hid (Below V.heap.size V W9) := by rw [hw]; exact below_regrown V dq osq
                            clear hw r10 r3 r4 r6 t1 t2 t3 t4 d1 d2 d1n d2n
                            go_wp2_with (first
                              | (refine load_url rfl _ rfl (w.heap.size + 1) u4 rfl (0, 0) (row_keep HB9.out HR102.out) ?_)
                              | (refine store_url rfl _ _ rfl w.heap.size u4 rfl rfl _ (row_keep HB9.out ((HB102.out.block _ (by omega)).trans HCZ.out)) HZS.out ?_)
                              | fail)
                            intro Wf hOf hWf
                            go_wp2
                            refine bodyPost_ret (ret_url2 (p := 2) (q := 3) Tryz.results35 _ _ w.heap.size u4 (0, 0) _ rfl rfl hWf) rfl ⟨?_, HBW.out.trans (((HB102.out.mono (by omega)).trans (HB9.out.mono (by omega))).trans (hOf.below (Nat.le_refl _)))⟩
                            rw [HQ.out]; rfl
end Go.Proofs.YtlblefcmilfjdaaGreatDoor
