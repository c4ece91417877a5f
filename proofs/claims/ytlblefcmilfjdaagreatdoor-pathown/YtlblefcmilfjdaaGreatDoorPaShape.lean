
/- Which parts a URL has that may be: plain mathematics for layer 8 (no program in it). -/
import Derived.Test.YtlblefcmilfjdaaGreatDoorPaPort
namespace Go.Proofs.YtlblefcmilfjdaaGreatDoor
set_option linter.unusedVariables false
set_option linter.unusedSimpArgs false

def noFrag (u : UrlV) : UrlV := { u with frag := [], hasFrag := false }
theorem headC_frag (s3 : List UInt8) (u : UrlV) : headC s3 (noFrag u) = noFrag (headC s3 u) := by
  unfold headC
  split
  · unfold authU noFrag
    simp only
    cases lastCut 64 (fun _ => false) (Lib.cut (s3.drop 2) [47]).1 with
    | none =>
      simp only
      cases lastCut 58 (fun c => c == 93) (Lib.cut (s3.drop 2) [47]).1 with
      | none => rfl
      | some p => rfl
    | some p =>
      simp only
      cases lastCut 58 (fun c => c == 93) p.2 with
      | none => rfl
      | some p => rfl
  · rfl
theorem headC_tail (s3 : List UInt8) (u : UrlV) : (headC s3 u).frag = u.frag ∧ (headC s3 u).hasFrag = u.hasFrag ∧ (headC s3 u).query = u.query ∧ (headC s3 u).hasQuery = u.hasQuery := by
  unfold headC
  split
  · obtain ⟨h1, h2, h3, h4, _⟩ := authU_more (Lib.cut (s3.drop 2) [47]).1 { u with hasAuth := true, path := (s3.drop 2).drop (Lib.cut (s3.drop 2) [47]).1.length }
    exact ⟨h3, h4, h1, h2⟩
  · exact ⟨rfl, rfl, rfl, rfl⟩
theorem okC_frag (u : UrlV) (h : okC u = true) : okC (noFrag u) = true := by
  unfold okC at h ⊢
  rw [anyC_eq] at h ⊢
  simp only [Bool.and_eq_true, List.any_append, Bool.not_eq_true', Bool.or_eq_false_iff] at h ⊢
  obtain ⟨⟨⟨h1, h2⟩, h3⟩, h4⟩ := h
  refine ⟨⟨⟨⟨h1.1, rfl⟩, ?_⟩, h3⟩, h4⟩
  rfl
/-- What a text's parts are, its tail aside. -/
theorem parts_of (l : List UInt8) (hs : standsU l = true) (u : UrlV) (h : parseU l = some u) : ∃ s3 sch, u = headC s3 { tailC l with scheme := sch } ∧ okC u = true ∧ (63 : UInt8) ∉ s3 ∧ (35 : UInt8) ∉ s3 := by
  obtain ⟨hl, h63, h35, hq, hq0, hf0⟩ := tailT_dec l
  rw [partsC_parse l hs] at h
  unfold partsC at h
  by_cases h0 : 0 ≤ firstC (restC l)
  · rw [if_pos h0] at h
    cases hb : isSchB ((restC l).take (firstC (restC l)).toNat) with
    | false => rw [hb] at h; simp at h
    | true =>
      rw [hb] at h
      simp only [if_true] at h
      split at h
      · rename_i ho
        injection h with h
        exact ⟨_, _, h.symm, h ▸ ho, fun hm => h63 (List.mem_of_mem_drop hm), fun hm => h35 (List.mem_of_mem_drop hm)⟩
      · cases h
  · rw [if_neg h0] at h
    simp only at h
    split at h
    · rename_i ho
      injection h with h
      exact ⟨_, _, h.symm, h ▸ ho, h63, h35⟩
    · cases h
theorem join_frag (u : UrlV) : joinU u = joinU (noFrag u) ++ (if u.hasFrag then 35 :: u.frag else []) := by
  unfold joinU noFrag
  simp
theorem parse_frag (u : UrlV) (h : parseU (joinU u) = some u) : parseU (joinU (noFrag u)) = some (noFrag u) := by
  have hs := (parse_okU _ u h).1
  obtain ⟨s3, sch, e, ho, _, _⟩ := parts_of _ hs u h
  obtain ⟨_, _, _, _, _, hf0⟩ := tailT_dec (joinU u)
  have ht := headC_tail s3 { tailC (joinU u) with scheme := sch }
  rw [← e] at ht
  cases hf : u.hasFrag with
  | false =>
    have : u.frag = [] := by rw [ht.1]; exact hf0 (by rw [← hf, ht.2.1])
    have e2 : noFrag u = u := by
      unfold noFrag
      obtain ⟨a1, a2, a3, a4, a5, a6, a7, a8, a9, a10, a11, a12⟩ := u
      simp only at hf this
      rw [hf, this]
    rw [e2]; exact h
  | true =>
    have hj := join_frag u
    rw [hf, if_pos rfl] at hj
    generalize hL' : joinU (noFrag u) = L' at hj ⊢
    have h35 : (35 : UInt8) ∉ L' := by
      rcases first_dec 35 (joinU u) with hn | ⟨a, x, ea, hna⟩
      · exact absurd (by rw [hj]; simp) hn
      · have hfx : u.frag = x := by
          rw [ht.1]
          show (Lib.cut (joinU u) [35]).2.1 = x
          rw [ea, cut_at 35 a x hna]
        rw [ea, hfx] at hj
        have := List.append_cancel_right hj
        rw [← this]; exact hna
    have hcut : Lib.cut (joinU u) [35] = (L', u.frag, true) := by rw [hj]; exact cut_at 35 L' u.frag h35
    have hcut' : Lib.cut L' [35] = (L', [], false) := cut_no 35 L' h35
    have hst' : standsU L' = true := by
      rw [hj] at hs
      exact (stands_cut 35 (by decide) L'.length L' u.frag (Nat.le_refl _) (.of hs)).1.to
    have hr : restC L' = restC (joinU u) := by unfold restC; rw [hcut, hcut']
    have htl : ∀ sch, ({ tailC L' with scheme := sch } : UrlV) = noFrag { tailC (joinU u) with scheme := sch } := fun sch => by
      unfold tailC noFrag
      rw [hcut, hcut']
    have htl0 : tailC L' = noFrag (tailC (joinU u)) := by
      unfold tailC noFrag
      rw [hcut, hcut']
    rw [partsC_parse L' hst']
    rw [partsC_parse _ hs] at h
    unfold partsC at h ⊢
    rw [hr]
    by_cases h0 : 0 ≤ firstC (restC (joinU u))
    · rw [if_pos h0] at h ⊢
      cases hb : isSchB ((restC (joinU u)).take (firstC (restC (joinU u))).toNat) with
      | false => rw [hb] at h; simp at h
      | true =>
        rw [hb] at h
        simp only [if_true] at h ⊢
        split at h
        · rename_i hok
          replace h := Option.some.inj h
          generalize (restC (joinU u)).take (firstC (restC (joinU u))).toNat = Y at h hok ⊢
          generalize (restC (joinU u)).drop ((firstC (restC (joinU u))).toNat + 1) = X at h hok ⊢
          have e1 : headC X { tailC L' with scheme := Y } = noFrag (headC X { tailC (joinU u) with scheme := Y }) := (congrArg (headC X) (htl Y)).trans (headC_frag _ _)
          have e2 := okC_frag _ hok
          rw [← e1] at e2
          rw [if_pos e2, e1]
          exact congrArg (fun x => some (noFrag x)) h
        · cases h
    · rw [if_neg h0] at h ⊢
      simp only at h ⊢
      split at h
      · rename_i hok
        replace h := Option.some.inj h
        generalize restC (joinU u) = X at h hok ⊢
        have e1 : headC X (tailC L') = noFrag (headC X (tailC (joinU u))) := (congrArg (headC X) htl0).trans (headC_frag _ _)
        have e2 := okC_frag _ hok
        rw [← e1] at e2
        rw [if_pos e2, e1]
        exact congrArg (fun x => some (noFrag x)) h
      · cases h
theorem pr_frag (u : UrlV) (h : prOk u = true) : prOk (noFrag u) = true := by
  obtain ⟨h1, h2⟩ := pr_ok u h
  refine ok_pr _ ?_ (parse_frag u h2)
  have := congrArg List.length (join_frag u)
  rw [List.length_append] at this
  omega
/-- Without dots no URL is longer. -/
theorem join_dots (u : UrlV) : (joinU { u with path := dotsU u.path }).length ≤ (joinU u).length := by
  have := dots_len u.path
  unfold joinU
  simp only [List.length_append]
  omega
end Go.Proofs.YtlblefcmilfjdaaGreatDoor
