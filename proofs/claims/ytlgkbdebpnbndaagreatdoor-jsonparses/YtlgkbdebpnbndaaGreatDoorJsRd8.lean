
/- The reference's reader: a word is read; may a text be? -/
import Derived.Test.YtlgkbdebpnbndaaGreatDoorJsRd5
import Derived.Test.YtlgkbdebpnbndaaGreatDoorTxRunes
namespace Go.Proofs.YtlgkbdebpnbndaaGreatDoor
set_option linter.unusedVariables false
set_option linter.unusedSimpArgs false
open Go.RowKit Go.BigFrame

theorem pre_takeQ (t l : List UInt8) : preX t l = (decide (t.length ≤ l.length) && decide (l.take t.length = t)) := by
  unfold preX
  cases h : t.isPrefixOf l with
  | true =>
    have h1 := List.isPrefixOf_iff_prefix.1 h
    rw [decide_eq_true h1.length_le, decide_eq_true (List.prefix_iff_eq_take.1 h1).symm]
    rfl
  | false =>
    symm
    rw [Bool.and_eq_false_iff]
    by_cases hl : t.length ≤ l.length
    · refine .inr (decide_eq_false fun e => ?_)
      have : t <+: l := by rw [← e]; exact List.take_prefix _ _
      rw [List.isPrefixOf_iff_prefix.2 this] at h
      cases h
    · exact .inl (decide_eq_false hl)
set_option maxHeartbeats 4000000 in
set_option maxRecDepth 100000 in
theorem wordQ (l s t : List UInt8) (R m : Nat) (hs : s.length ≤ 1000000) (ht : t.length ≤ 1000) (w : World) (h : Rl w R s l m) : Calls Tryz.prog 71 #[.pointer (some ⟨R, 0, none⟩), .string (asS t)] w fun x w' => x = .returned (.tuple #[]) ∧ (preX t l = true → Rl w' R s (l.drop t.length) m) ∧ (preX t l = false → Re w' R s m 5) ∧ w.grownBy w' (some R) := by
  have hrow := h.row5.1
  have hdr := h.row5.2
  have hll := h.len
  have HW5 : Hid (∀ W, Rl W R s l m → Calls Tryz.prog 42 #[.pointer (some ⟨R, 0, none⟩), .int .i64 5] W fun x w' => x = .returned (.tuple #[]) ∧ Re w' R s m 5 ∧ W.grownBy w' (some R)) := fun W hW => hW.wrong 5
  have HR := hid h
  have hpt := pre_takeQ t l
  have hx : (asS s).extract (s.length - l.length) (s.length - l.length + t.length) = asS (l.take t.length) := by
    rw [ext_asS, asS_data, hdr]
    congr 2
    omega
  have hq : ((asS (l.take t.length)).toList == (asS t).toList) = decide (l.take t.length = t) := tl_two _ _
  have hpl : s.length - l.length + l.length = s.length := by omega
  have HYES : Hid (∀ w', t.length ≤ l.length → Rq w' R s (s.length - l.length + t.length) m 0 → Rl w' R s (l.drop t.length) m) := fun w' hl h2 => ⟨_, by rw [← List.drop_drop, hdr], by omega, h2⟩
  obtain ⟨d0, d1, _, _⟩ := hrow.cells
  have HROW := hid hrow
  have z1 := asS_size s
  have z2 := asS_size t
  clear h hdr hrow
  generalize hpp : s.length - l.length = p at *
  have hpb : p ≤ 1000000 := by omega
  generalize hsn : s.length = sn at *
  generalize htn : t.length = tn at *
  obtain ⟨S, hS⟩ : ∃ S, asS s = S := ⟨_, rfl⟩
  have HSS := hid hS
  rw [hS] at d0 hx z1
  clear hS
  generalize asS t = T at hq z2 ⊢
  by_cases hl : tn ≤ l.length
  · have hge : ¬ (sn : Int) < (p : Int) + (tn : Int) := by omega
    have hge' : decide ((sn : Int) < (p : Int) + (tn : Int)) = false := decide_eq_false hge
    rw [decide_eq_true hl, Bool.true_and] at hpt
    generalize asS (l.take tn) = X at hx hq
    have hpi : (p : Int) ≤ (p : Int) + (tn : Int) := by omega
    have hpi2 : (p : Int) + (tn : Int) ≤ (sn : Int) := by omega
    by_cases he : l.take tn = t
    · rw [decide_eq_true he] at hpt hq
      have hq' : (X.toList != T.toList) = false := by
        show (!(X.toList == T.toList)) = false
        rw [hq]; rfl
      rw [hpt]
      have HL := hid hl
      clear he hl
      have HR2 := hid HROW.out
      unfold Rq at HR2
      rw [HSS.out] at HR2
      go_enter Tryz.func71, Tryz.ntmps71
      go_wp2_with fail
      go_quiet (fail)
      go_wp2_with (first
        | (refine store_part rfl 3 _ _ rfl R 1 (.int .i64 ((p : Int) + (tn : Int))) _ _ #[.string S, .int .i64 ((p : Int) + (tn : Int)), .int .i64 m, .int .i64 ((0 : Nat) : Int)] rfl rfl info3q (by simp) rfl rfl HR2.out rfl ?_)
        | fail)
      intro W2 ho hr
      have HRN := hid (HYES.out W2 HL.out (by unfold Rq; rw [HSS.out, show ((p + tn : Nat) : Int) = (p : Int) + (tn : Int) from by omega]; exact hr))
      have HO := hid ho
      clear ho hr
      go_wp2_with fail
      exact ⟨by simp, _, results_none rfl _ _ _, rfl, fun _ => HRN.out, (fun h => by cases h), (to_below (below_drewN _ _ _)).trans (to_only HO.out)⟩
    · rw [decide_eq_false he] at hpt hq
      have hq' : (X.toList != T.toList) = true := by
        show (!(X.toList == T.toList)) = true
        rw [hq]; rfl
      rw [hpt]
      clear he hl
      go_enter Tryz.func71, Tryz.ntmps71
      go_wp2_with fail
      go_quiet (fail)
      go_wp2_with fail
      refine (HW5.out _ (HR.out.below (below_drewN _ _ _))).mono ?_
      rintro e W2 ⟨rfl, hr, hg⟩
      have HRE := hid hr
      have HG := hid hg
      clear hr hg
      go_wp2_with fail
      exact ⟨by simp, _, results_none rfl _ _ _, rfl, (fun h => by cases h), fun _ => HRE.out, (to_below (below_drewN _ _ _)).trans HG.out⟩
  · have hge : (sn : Int) < (p : Int) + (tn : Int) := by omega
    have hge' : decide ((sn : Int) < (p : Int) + (tn : Int)) = true := decide_eq_true hge
    rw [decide_eq_false hl, Bool.false_and] at hpt
    rw [hpt]
    clear hl hx hq
    go_enter Tryz.func71, Tryz.ntmps71
    go_wp2_with fail
    go_quiet (fail)
    go_wp2_with fail
    refine (HW5.out _ (HR.out.below (below_drewN _ _ _))).mono ?_
    rintro e W2 ⟨rfl, hr, hg⟩
    have HRE := hid hr
    have HG := hid hg
    clear hr hg
    go_wp2_with fail
    exact ⟨by simp, _, results_none rfl _ _ _, rfl, (fun h => by cases h), fun _ => HRE.out, (to_below (below_drewN _ _ _)).trans HG.out⟩
end Go.Proofs.YtlgkbdebpnbndaaGreatDoor
