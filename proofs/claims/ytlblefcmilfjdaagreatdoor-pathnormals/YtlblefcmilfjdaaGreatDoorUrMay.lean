
/- What the reference's May does, and the law's long; which parts a text has. -/
import Derived.Test.YtlblefcmilfjdaaGreatDoorUrJo
import Derived.Test.YtlblefcmilfjdaaGreatDoorUrRPf
namespace Go.Proofs.YtlblefcmilfjdaaGreatDoor
set_option linter.unusedVariables false
set_option linter.unusedSimpArgs false
open Go.RowKit Go.BigFrame
attribute [local go_sem ↓] loadU_eq

def mayU (u : UrlV) : Bool := if 2048 < (joinU u).length then false else ((parseU (joinU u)).isSome && eqUV ((parseU (joinU u)).getD zeroU) u)
theorem may_pr (u : UrlV) : mayU u = prOk u := by
  unfold mayU prOk puE puV
  by_cases h : 2048 < (joinU u).length
  · rw [if_pos h, if_pos h, if_pos h]; rfl
  · rw [if_neg h, if_neg h, if_neg h]
    cases parseU (joinU u) with
    | none => rfl
    | some v => rfl
theorem pr_true (u : UrlV) (h : prOk u = true) : puE (joinU u) = 0 ∧ puV (joinU u) = u := by
  unfold prOk at h
  rw [Bool.and_eq_true, decide_eq_true_iff] at h
  exact ⟨h.1, (eqUV_iff _ _).1 h.2⟩
set_option maxHeartbeats 4000000 in
set_option maxRecDepth 100000 in
theorem refMay_any (u : UrlV) (hu : LenU 100000 u) (w : World) : Calls Tryz.prog 17 #[.agg (ucs u)] w fun e w' => e = .returned (.bool (mayU u)) ∧ Below w.heap.size w w' := by
  have HLO := hid (fun W => refLong_any u hu W)
  have HJ := hid (fun W => refJoin_any u hu W)
  have HM : Hid (mayU u = if 2048 < (joinU u).length then false else ((parseU (joinU u)).isSome && eqUV ((parseU (joinU u)).getD zeroU) u)) := rfl
  have l0 : (loadI 26 (.pointer (some ⟨w.heap.size, 0, none⟩))).run Tryz.prog (w.alloc (.cells (ucs u) 26)) = .ok (.agg (ucs u)) (w.alloc (.cells (ucs u) 26)) := loadU_row (heap_alloc_new w _)
  generalize mayU u = R at HM ⊢
  by_cases hL : 2048 < (joinU u).length
  · rw [if_pos hL] at HM
    rw [decide_eq_true hL] at HLO
    clear hL HJ
    go_enter Tryz.func17, Tryz.ntmps17
    go_wp2_with fail
    refine (HLO.out _).mono ?_
    rintro e W1 ⟨rfl, hb1⟩
    have HB1 : Hid (Below w.heap.size w W1) := (alloc_below (Below.refl _ w) (Nat.le_refl _) _).trans (hb1.mono (by simp))
    clear hb1 l0
    go_wp2_with fail
    go_ret
    exact ⟨by rw [HM.out]; rfl, HB1.out⟩
  · rw [if_neg hL] at HM
    rw [decide_eq_false hL] at HLO
    have HP := hid (fun W => refParse7_any (joinU u) (by omega) W)
    have hq := fun (W : World) => eqU ((parseU (joinU u)).getD zeroU) u W
    have hg := guardU
    generalize asS (joinU u) = S at HJ HP
    generalize (parseU (joinU u)).isSome = ok at HM HP
    generalize (parseU (joinU u)).getD zeroU = V at HM HP hq
    generalize eqUV V u = eb at HM hq
    clear hL
    go_enter Tryz.func17, Tryz.ntmps17
    go_wp2_with fail
    refine (HLO.out _).mono ?_
    rintro e W1 ⟨rfl, hb1⟩
    have HR1 := hid (row_keep hb1 (heap_alloc_new w _))
    have HB1 : Hid (Below w.heap.size w W1) := (alloc_below (Below.refl _ w) (Nat.le_refl _) _).trans (hb1.mono (by simp))
    have l1 := loadU_row HR1.out
    clear hb1 l0
    go_wp2_with fail
    refine (HJ.out _).mono ?_
    rintro e W2 ⟨rfl, hb2⟩
    have HR2 := hid (row_keep hb2 HR1.out)
    have HB2 : Hid (Below w.heap.size w W2) := HB1.out.trans (hb2.mono HB1.out.size)
    clear hb2 l1
    go_wp2_with fail
    refine (HP.out _).mono ?_
    rintro e W3 ⟨rfl, hb3⟩
    have HR3 := hid (row_keep hb3 HR2.out)
    have HB3 : Hid (Below w.heap.size w W3) := HB2.out.trans (hb3.mono HB2.out.size)
    clear hb3
    go_wp2_with (first
      | (refine store_url rfl _ _ rfl W3.heap.size V rfl rfl _ (heap_alloc_new W3 _) rfl ?_)
      | fail)
    intro W4 hO4 hW4
    have HB4 : Hid (Below w.heap.size w W4) := (alloc_below HB3.out HB3.out.size _).trans (hO4.below HB3.out.size)
    have k1 := loadU_row hW4
    have k2 := loadU_row ((hO4.block _ (by have := row_lt HR3.out; omega)).trans ((Below.heap_alloc _ _ _ (row_lt HR3.out)).trans HR3.out))
    clear hO4 hW4
    generalize ucs V = UV at hq k1 ⊢
    generalize ucs u = UU at hq k2 ⊢
    cases ok with
    | true =>
      cases eb with
      | true =>
        go_wp2_with fail
        go_ret
        exact ⟨by rw [HM.out]; rfl, HB4.out⟩
      | false =>
        go_wp2_with fail
        go_ret
        exact ⟨by rw [HM.out]; rfl, HB4.out⟩
    | false =>
      clear hq k1 k2 hg
      go_wp2_with fail
      go_ret
      exact ⟨by rw [HM.out]; rfl, HB4.out⟩
/-! Which parts a text has. -/
theorem head_all {l s3 : List UInt8} {u : UrlV} (hs : PartOf l s3) (hu : AllOf l u) : AllOf l (headC s3 u) := by
  unfold headC
  split
  · exact AllOf.auth ⟨hu.user, hu.host, hu.port, hs.trans ((PartOf.drop s3 2).trans (PartOf.drop _ _)), hu.query, hu.frag⟩ (hs.trans ((PartOf.drop s3 2).trans (PartOf.cut 47 _).1))
  · exact ⟨hu.user, hu.host, hu.port, hs, hu.query, hu.frag⟩
theorem head_scheme (s3 : List UInt8) (u : UrlV) : (headC s3 u).scheme = u.scheme := by
  unfold headC
  split
  · rw [(authU_more _ _).2.2.2.2.2.2]
  · rfl
theorem parse_len (l : List UInt8) (u : UrlV) (n : Nat) (hn : l.length ≤ n) (h : parseU l = some u) : LenU n u := by
  have hst : standsU l = true := by
    cases hs : standsU l with
    | true => rfl
    | false =>
      unfold parseU at h
      rw [hs, if_pos rfl] at h
      cases h
  rw [partsC_parse l hst] at h
  have hrest : PartOf l (restC l) := (PartOf.cut 35 l).1.trans (PartOf.cut 63 _).1
  have htail : AllOf l (tailC l) := ⟨PartOf.nil l, PartOf.nil l, PartOf.nil l, PartOf.nil l, (PartOf.cut 35 l).1.trans (PartOf.cut 63 _).2, (PartOf.cut 35 l).2⟩
  have key : AllOf l (partsC l).1 ∧ PartOf l (partsC l).1.scheme := by
    unfold partsC
    split
    · split
      · refine ⟨head_all (hrest.trans (PartOf.drop _ _)) ⟨htail.user, htail.host, htail.port, htail.path, htail.query, htail.frag⟩, ?_⟩
        rw [head_scheme]
        exact hrest.trans (PartOf.take _ _)
      · exact ⟨⟨PartOf.nil l, PartOf.nil l, PartOf.nil l, PartOf.nil l, PartOf.nil l, PartOf.nil l⟩, PartOf.nil l⟩
    · refine ⟨head_all hrest htail, ?_⟩
      rw [head_scheme]
      exact PartOf.nil l
  split at h
  · injection h with h
    subst h
    obtain ⟨ka, ks⟩ := key
    exact ⟨Nat.le_trans ks.1 hn, Nat.le_trans ka.user.1 hn, Nat.le_trans ka.host.1 hn, Nat.le_trans ka.port.1 hn, Nat.le_trans ka.path.1 hn, Nat.le_trans ka.query.1 hn, Nat.le_trans ka.frag.1 hn⟩
  · cases h
/-- A text that is read: put together it is the text. -/
theorem pr_parse (l : List UInt8) (u : UrlV) (hl : ¬ 2048 < l.length) (h : parseU l = some u) : prOk u = true ∧ joinU u = l := by
  have hj := join_parse l u h
  refine ⟨?_, hj⟩
  unfold prOk puE puV
  rw [hj, if_neg hl, if_neg hl, h]
  show (true && eqUV u u) = true
  rw [eqUV_self]
  rfl
end Go.Proofs.YtlblefcmilfjdaaGreatDoor
