
/- What may be reached: plain mathematics for layer 6. -/
import Derived.Test.YtocdjgehjiolhaaGreatDoorIpBook
import Derived.Test.YtocdjgehjiolhaaGreatDoorIpRefE
namespace Go.Proofs.YtocdjgehjiolhaaGreatDoor
set_option linter.unusedVariables false

/-- Why an address that may be, unmapped, may not be reached. -/
def reachV (v : Bool) (B : List UInt8) (deny : List NetV) : Int := if inV forbL v B || inV deny v B then 8 else match embO v B with
  | some C => if inV forbL false C || inV deny false C then 8 else 0
  | none => 0
def allowV (v : Bool) (B : List UInt8) (deny : List NetV) : Int := if mayB v B = false then 1 else if (deny.any fun n => !mayV n) then 1 else reachV (unmV v B) (unmB v B) deny
theorem v4_may (a b c d : UInt8) : mayB false (v4L a b c d) = true := by
  unfold mayB v4L zer
  simp
theorem emb_v4 {v : Bool} {B C : List UInt8} (h : embO v B = some C) : ∃ a b c d, C = v4L a b c d := by
  unfold embO at h
  split at h
  · cases h
  · split at h
    · injection h with h; exact ⟨_, _, _, _, h.symm⟩
    · split at h
      · injection h with h; exact ⟨_, _, _, _, h.symm⟩
      · cases h
theorem emb_may {v : Bool} {B C : List UInt8} (h : embO v B = some C) : mayB false C = true ∧ C.length = 16 := by
  obtain ⟨a, b, c, d, rfl⟩ := emb_v4 h
  exact ⟨v4_may a b c d, rfl⟩
theorem unm_may (v : Bool) (B : List UInt8) (h : mayB v B = true) : mayB (unmV v B) (unmB v B) = true := by
  unfold unmV unmB
  split
  · exact v4_may _ _ _ _
  · exact h
theorem unm_len (v : Bool) (B : List UInt8) (h : B.length = 16) : (unmB v B).length = 16 := by
  unfold unmB
  split
  · rfl
  · exact h
theorem isH_four (h B : List UInt8) : isH h false B = false := by unfold isH; simp
theorem unm_four (B : List UInt8) : unmV false B = false ∧ unmB false B = B := by
  unfold unmV unmB
  rw [isH_four]
  exact ⟨rfl, rfl⟩
/-- What an IPv4 may. -/
theorem allow_four (B : List UInt8) (deny : List NetV) (h : mayB false B = true) (hd : (deny.any fun n => !mayV n) = false) : allowV false B deny = if inV forbL false B || inV deny false B then 8 else 0 := by
  unfold allowV reachV
  rw [h, hd, (unm_four B).1, (unm_four B).2, emb_no]
  simp
theorem reach_some (v : Bool) (B C : List UInt8) (deny : List NetV) (hf : (inV forbL v B || inV deny v B) = false) (he : embO v B = some C) (hd : (deny.any fun n => !mayV n) = false) : reachV v B deny = allowV false C deny := by
  rw [allow_four C deny (emb_may he).1 hd]
  unfold reachV
  rw [hf, he]
  rfl
theorem in_nil (v : Bool) (B : List UInt8) : inV [] v B = false := rfl
/-- No forbidden net has a mapped address. -/
theorem forb_mapped (a b c d : UInt8) : inV forbL true (behL mapH (v4L a b c d)) = false := by kernel_rfl
theorem in_false {l : List NetV} {v : Bool} {B : List UInt8} (h : inV l v B = false) (n : NetV) (hn : n ∈ l) : hasV n v B = false := by
  have := List.any_eq_false.1 h n hn
  simpa using this
/-- What is let is in no forbidden net, nor is what it carries. -/
theorem safe_self (v : Bool) (B : List UInt8) (h : allowV v B [] = 0) : inV forbL v B = false ∧ ∀ C, embO v B = some C → inV forbL false C = false := by
  unfold allowV at h
  split at h
  · cases h
  · rename_i hm
    simp only [List.any_nil, Bool.false_eq_true, if_false] at h
    cases hq : isH mapH v B with
    | true =>
      have hv : v = true ∧ B = behL mapH (lastL B) := by unfold isH at hq; exact of_decide_eq_true hq
      have e1 : unmV v B = false := by unfold unmV; rw [hq]; rfl
      have e2 : unmB v B = lastL B := by unfold unmB; rw [hq]; rfl
      rw [e1, e2] at h
      have h2 : inV forbL false (lastL B) = false := by
        unfold reachV at h
        cases hf : inV forbL false (lastL B) with
        | false => rfl
        | true => rw [hf] at h; simp at h
      refine ⟨?_, fun C hC => ?_⟩
      · rw [hv.1, hv.2]; exact forb_mapped _ _ _ _
      · have : embO v B = some (lastL B) := by
          unfold embO embC
          rw [hv.1] at hq ⊢
          rw [hq]; simp
        rw [this] at hC
        injection hC with hC
        rw [← hC]; exact h2
    | false =>
      have e1 : unmV v B = v := by unfold unmV; rw [hq]; rfl
      have e2 : unmB v B = B := by unfold unmB; rw [hq]; rfl
      rw [e1, e2] at h
      unfold reachV at h
      rw [in_nil, Bool.or_false] at h
      cases hf : inV forbL v B with
      | true => rw [hf] at h; simp at h
      | false =>
        rw [hf] at h
        refine ⟨rfl, fun C hC => ?_⟩
        rw [hC] at h
        simp only [Bool.false_eq_true, if_false, in_nil, Bool.or_false] at h
        cases hg : inV forbL false C with
        | false => rfl
        | true => rw [hg] at h; simp at h
/-- The two addresses of the waking. -/
theorem wake_ten : allowV true (behL mapH (v4L 10 0 0 1)) [] = 8 := by decide +kernel
theorem wake_eight : allowV false (v4L 8 8 8 8) [] = 0 := by decide +kernel
end Go.Proofs.YtocdjgehjiolhaaGreatDoor
