
/- The reference's reader: four digits. -/
import Derived.Test.YtlgkbdebpnbndaaGreatDoorJsRd3
namespace Go.Proofs.YtlgkbdebpnbndaaGreatDoor
set_option linter.unusedVariables false
set_option linter.unusedSimpArgs false
open Go.RowKit Go.BigFrame

theorem Rl.row5 {w : World} {R : Nat} {s l : List UInt8} {m : Nat} (h : Rl w R s l m) : Rq w R s (s.length - l.length) m 0 ∧ s.drop (s.length - l.length) = l := by
  obtain ⟨p, h1, h2, h3⟩ := h
  have e : s.length - l.length = p := by rw [← h1, List.length_drop]; omega
  rw [e]
  exact ⟨h3, h1⟩
theorem Rl.next {w w' : World} {R : Nat} {s r : List UInt8} {m : Nat} {c : UInt8} (h : Rl w R s (c :: r) m) (h2 : Rq w' R s (s.length - (c :: r).length + 1) m 0) : Rl w' R s r m := by
  have h1 := h.row5.2
  have hl := h.len
  rw [List.length_cons] at h1 hl h2
  refine ⟨s.length - (r.length + 1) + 1, ?_, by omega, h2⟩
  rw [← List.drop_drop, h1]
  rfl
theorem okQ_snoc (a : List UInt8) (c : UInt8) : okD 16 (a ++ [c]) = (okD 16 a && decide (digE c < 16)) := by
  unfold okD
  rw [List.all_append]
  simp
theorem numEQ_snoc (a : List UInt8) (c : UInt8) : numE 16 (a ++ [c]) = numE 16 a * 16 + digE c := by
  unfold numE
  rw [List.foldl_append]
  rfl
/-- What four does. -/
def FourP (l s : List UInt8) (R m : Nat) (w : World) (x : Ending) (w' : World) : Prop :=
  (∀ n r, fourJ l = some (n, r) → x = .returned (.int .i64 (n : Nat)) ∧ Rl w' R s r m ∧ n < 65536) ∧ (fourJ l = none → x = .returned (.int .i64 (-1)) ∧ Re w' R s m 5) ∧ w.grownBy w' (some R)
theorem FourP.no {l s : List UInt8} {R m : Nat} {w w' : World} (h : fourJ l = none) (hr : Re w' R s m 5) (hg : w.grownBy w' (some R)) : FourP l s R m w (.returned (.int .i64 (-1))) w' := ⟨fun n r h2 => (by rw [h] at h2; cases h2), fun _ => ⟨rfl, hr⟩, hg⟩
theorem FourP.yes {l s r : List UInt8} {R m n : Nat} {w w' : World} (h : fourJ l = some (n, r)) (hn : n < 65536) (hr : Rl w' R s r m) (hg : w.grownBy w' (some R)) : FourP l s R m w (.returned (.int .i64 (n : Nat))) w' := ⟨fun a b h2 => (by rw [h] at h2; injection h2 with h2; injection h2 with h3 h4; subst h3 h4; exact ⟨rfl, hr, hn⟩), fun h2 => (by rw [h] at h2; cases h2), hg⟩
theorem four_no (l : List UInt8) (k : Nat) (hk : k < 4) (h : ¬ digE ((l.drop k).headD 0) < 16) : fourJ l = none := by
  unfold fourJ
  split
  · rfl
  · rename_i h4
    rw [if_neg]
    intro hok
    have hkl : k < l.length := by omega
    have e : (l.drop k).headD 0 = l[k] := by rw [List.drop_eq_getElem_cons hkl]; rfl
    rw [e] at h
    unfold okD at hok
    rw [List.all_eq_true] at hok
    have := hok l[k] (by rw [List.mem_take_iff_getElem]; exact ⟨k, by omega, rfl⟩)
    simp at this
    exact h this
set_option maxHeartbeats 8000000 in
set_option maxRecDepth 100000 in
theorem fourQ (l s : List UInt8) (R m : Nat) (hs : s.length ≤ 1000000) (w : World) (h : Rl w R s l m) : Calls Tryz.prog 121 #[.pointer (some ⟨R, 0, none⟩)] w fun x w' => FourP l s R m w x w' := by
  have HR := hid h
  have HNO := hid (four_no l)
  have HW5 : Hid (∀ l W, Rl W R s l m → Calls Tryz.prog 42 #[.pointer (some ⟨R, 0, none⟩), .int .i64 5] W fun x w' => x = .returned (.tuple #[]) ∧ Re w' R s m 5 ∧ W.grownBy w' (some R)) := fun l W hW => hW.wrong 5
  clear h
  go_enter Tryz.func121, Tryz.ntmps121
  go_wp2_with fail
  go_loopw [3, 4, 5, 6] (fun nv i cv dv wr => ∃ (k n : Nat), k ≤ 4 ∧ i = .int .i64 (k : Int) ∧ nv = .int .i64 (n : Int) ∧ n < 16 ^ k ∧ Hid (k ≤ l.length ∧ okD 16 (l.take k) = true ∧ numE 16 (l.take k) = n) ∧ Hid (Rl wr R s (l.drop k) m) ∧ Hid (w.grownBy wr (some R))) (fun nv i cv dv wr => 4 - (intOf i).toNat)
  case atStart => exact ⟨0, 0, by omega, rfl, rfl, by decide, ⟨Nat.zero_le _, rfl, rfl⟩, HR.out, to_refl R w⟩
  case round =>
    clear HR
    obtain ⟨k, n, hk, rfl, rfl, hn, HK, HRk, HG⟩ := hrel
    have hpw : 16 ^ k ≤ 65536 := Nat.le_trans (Nat.pow_le_pow_right (by decide) hk) (by decide)
    by_cases hlt : k < 4
    · have hi : (k : Int) < 4 := by omega
      have hpw2 : 16 ^ k ≤ 4096 := Nat.le_trans (Nat.pow_le_pow_right (by decide) (show k ≤ 3 by omega)) (by decide)
      have hpw3 : 16 ^ (k + 1) = 16 ^ k * 16 := Nat.pow_succ _ _
      have HN := hid HRk.out.now
      have HNOk := hid (HNO.out k hlt)
      have HYES : Hid (digE ((l.drop k).headD 0) < 16 → ∃ c, l.drop k = c :: l.drop (k + 1) ∧ k + 1 ≤ l.length ∧ okD 16 (l.take (k + 1)) = true ∧ numE 16 (l.take (k + 1)) = n * 16 + digE ((l.drop k).headD 0)) := fun hd => by
        obtain ⟨u1, u2, u3⟩ := HK.out
        have hkl : k < l.length := by
          by_cases hkl : k < l.length
          · exact hkl
          · rw [List.drop_of_length_le (by omega)] at hd
            exact absurd hd (by decide)
        have e : (l.drop k).headD 0 = l[k] := by rw [List.drop_eq_getElem_cons hkl]; rfl
        rw [e] at hd ⊢
        refine ⟨l[k], List.drop_eq_getElem_cons hkl, hkl, ?_, ?_⟩
        · rw [List.take_succ_eq_append_getElem hkl, okQ_snoc, u2, decide_eq_true hd]; rfl
        · rw [List.take_succ_eq_append_getElem hkl, numEQ_snoc, u3]
      have HDE : Hid (∀ c : UInt8, digE c = if 48 ≤ c.toNat ∧ c.toNat ≤ 57 then c.toNat - 48 else if 97 ≤ c.toNat ∧ c.toNat ≤ 102 then c.toNat - 97 + 10 else if 65 ≤ c.toNat ∧ c.toNat ≤ 70 then c.toNat - 65 + 10 else 99) := fun c => rfl
      have hde := HDE.out ((l.drop k).headD 0)
      have hcl := ((l.drop k).headD 0).toNat_lt
      generalize digE ((l.drop k).headD 0) = de at HNOk HYES hde
      generalize ((l.drop k).headD 0).toNat = cn at HN hde hcl
      clear HNO HDE HK
      by_cases k0 : cn ≤ 57 ∧ 48 ≤ cn
      · skip
        have g0 : (48 : Int) ≤ (cn : Int) := by omega
        have g1 : (cn : Int) ≤ 57 := by omega
        have hdv : de = cn - 48 := by rw [hde]; (repeat (first | rw [if_pos (by omega)] | rw [if_neg (by omega)]))
        have hd16 : de < 16 := by omega
        obtain ⟨c, e1, e2, e3, e4⟩ := HYES.out hd16
        have HK2 : Hid (k + 1 ≤ l.length ∧ okD 16 (l.take (k + 1)) = true ∧ numE 16 (l.take (k + 1)) = n * 16 + de) := ⟨e2, e3, e4⟩
        rw [e1] at HRk
        have hrow := HRk.out.row5.1
        have HNEXT : Hid (∀ w', Rq w' R s (s.length - (c :: l.drop (k + 1)).length + 1) m 0 → Rl w' R s (l.drop (k + 1)) m) := fun w' h2 => HRk.out.next h2
        have hp : s.length - (c :: l.drop (k + 1)).length ≤ 1000000 := by omega
        generalize s.length - (c :: l.drop (k + 1)).length = p at hrow HNEXT hp
        have HROW := hid hrow
        clear HYES HNOk HRk hrow hde e1 e2 e3 e4 HW5
        go_wp2_with fail
        refine HN.out.mono ?_
        rintro e W1 ⟨rfl, hb⟩
        have hr1 := HROW.out.below hb
        obtain ⟨_, f1, _, _⟩ := hr1.cells
        have HG1 := hid (HG.out.trans (to_below hb))
        unfold Rq at hr1
        have HR1 := hid hr1
        clear hb hr1 HN HROW
        go_wp2_with (first
          | (refine store_part rfl 3 _ _ rfl R 1 (.int .i64 ((p : Int) + 1)) _ _ #[.string (asS s), .int .i64 ((p : Int) + 1), .int .i64 m, .int .i64 ((0 : Nat) : Int)] rfl rfl info3q (by simp) rfl rfl HR1.out rfl ?_)
          | fail)
        intro W2 ho hr
        have HR2 : Hid (Rl W2 R s (l.drop (k + 1)) m) := HNEXT.out W2 (by unfold Rq; rw [show ((p + 1 : Nat) : Int) = (p : Int) + 1 from by omega]; exact hr)
        have HG2 := hid (HG1.out.trans (to_only ho))
        clear ho hr HNEXT
        go_wp2_with fail
        go_roundw
        case rel => exact ⟨k + 1, n * 16 + de, by omega, by go_num, by rw [hdv]; go_num, by omega, HK2, HR2, HG2⟩
        case measure => simp [intOf]; omega
      by_cases k1 : 97 ≤ cn ∧ cn ≤ 102
      · skip
        have g0 : (48 : Int) ≤ (cn : Int) := by omega
        have g1 : ¬ (cn : Int) ≤ 57 := by omega
        have g1' : decide ((cn : Int) ≤ 57) = false := decide_eq_false g1
        have g2 : (97 : Int) ≤ (cn : Int) := by omega
        have g3 : (cn : Int) ≤ 102 := by omega
        have hdv : de = cn - 97 + 10 := by rw [hde]; (repeat (first | rw [if_pos (by omega)] | rw [if_neg (by omega)]))
        have hd16 : de < 16 := by omega
        obtain ⟨c, e1, e2, e3, e4⟩ := HYES.out hd16
        have HK2 : Hid (k + 1 ≤ l.length ∧ okD 16 (l.take (k + 1)) = true ∧ numE 16 (l.take (k + 1)) = n * 16 + de) := ⟨e2, e3, e4⟩
        rw [e1] at HRk
        have hrow := HRk.out.row5.1
        have HNEXT : Hid (∀ w', Rq w' R s (s.length - (c :: l.drop (k + 1)).length + 1) m 0 → Rl w' R s (l.drop (k + 1)) m) := fun w' h2 => HRk.out.next h2
        have hp : s.length - (c :: l.drop (k + 1)).length ≤ 1000000 := by omega
        generalize s.length - (c :: l.drop (k + 1)).length = p at hrow HNEXT hp
        have HROW := hid hrow
        clear HYES HNOk HRk hrow hde e1 e2 e3 e4 HW5
        go_wp2_with fail
        refine HN.out.mono ?_
        rintro e W1 ⟨rfl, hb⟩
        have hr1 := HROW.out.below hb
        obtain ⟨_, f1, _, _⟩ := hr1.cells
        have HG1 := hid (HG.out.trans (to_below hb))
        unfold Rq at hr1
        have HR1 := hid hr1
        clear hb hr1 HN HROW
        go_wp2_with (first
          | (refine store_part rfl 3 _ _ rfl R 1 (.int .i64 ((p : Int) + 1)) _ _ #[.string (asS s), .int .i64 ((p : Int) + 1), .int .i64 m, .int .i64 ((0 : Nat) : Int)] rfl rfl info3q (by simp) rfl rfl HR1.out rfl ?_)
          | fail)
        intro W2 ho hr
        have HR2 : Hid (Rl W2 R s (l.drop (k + 1)) m) := HNEXT.out W2 (by unfold Rq; rw [show ((p + 1 : Nat) : Int) = (p : Int) + 1 from by omega]; exact hr)
        have HG2 := hid (HG1.out.trans (to_only ho))
        clear ho hr HNEXT
        go_wp2_with fail
        go_roundw
        case rel => exact ⟨k + 1, n * 16 + de, by omega, by go_num, by rw [hdv]; go_num, by omega, HK2, HR2, HG2⟩
        case measure => simp [intOf]; omega
      by_cases k2 : 65 ≤ cn ∧ cn ≤ 70
      · skip
        have g0 : (48 : Int) ≤ (cn : Int) := by omega
        have g1 : ¬ (cn : Int) ≤ 57 := by omega
        have g1' : decide ((cn : Int) ≤ 57) = false := decide_eq_false g1
        have g2 : ¬ (97 : Int) ≤ (cn : Int) := by omega
        have g2' : decide ((97 : Int) ≤ (cn : Int)) = false := decide_eq_false g2
        have g3 : (65 : Int) ≤ (cn : Int) := by omega
        have g4 : (cn : Int) ≤ 70 := by omega
        have hdv : de = cn - 65 + 10 := by rw [hde]; (repeat (first | rw [if_pos (by omega)] | rw [if_neg (by omega)]))
        have hd16 : de < 16 := by omega
        obtain ⟨c, e1, e2, e3, e4⟩ := HYES.out hd16
        have HK2 : Hid (k + 1 ≤ l.length ∧ okD 16 (l.take (k + 1)) = true ∧ numE 16 (l.take (k + 1)) = n * 16 + de) := ⟨e2, e3, e4⟩
        rw [e1] at HRk
        have hrow := HRk.out.row5.1
        have HNEXT : Hid (∀ w', Rq w' R s (s.length - (c :: l.drop (k + 1)).length + 1) m 0 → Rl w' R s (l.drop (k + 1)) m) := fun w' h2 => HRk.out.next h2
        have hp : s.length - (c :: l.drop (k + 1)).length ≤ 1000000 := by omega
        generalize s.length - (c :: l.drop (k + 1)).length = p at hrow HNEXT hp
        have HROW := hid hrow
        clear HYES HNOk HRk hrow hde e1 e2 e3 e4 HW5
        go_wp2_with fail
        refine HN.out.mono ?_
        rintro e W1 ⟨rfl, hb⟩
        have hr1 := HROW.out.below hb
        obtain ⟨_, f1, _, _⟩ := hr1.cells
        have HG1 := hid (HG.out.trans (to_below hb))
        unfold Rq at hr1
        have HR1 := hid hr1
        clear hb hr1 HN HROW
        go_wp2_with (first
          | (refine store_part rfl 3 _ _ rfl R 1 (.int .i64 ((p : Int) + 1)) _ _ #[.string (asS s), .int .i64 ((p : Int) + 1), .int .i64 m, .int .i64 ((0 : Nat) : Int)] rfl rfl info3q (by simp) rfl rfl HR1.out rfl ?_)
          | fail)
        intro W2 ho hr
        have HR2 : Hid (Rl W2 R s (l.drop (k + 1)) m) := HNEXT.out W2 (by unfold Rq; rw [show ((p + 1 : Nat) : Int) = (p : Int) + 1 from by omega]; exact hr)
        have HG2 := hid (HG1.out.trans (to_only ho))
        clear ho hr HNEXT
        go_wp2_with fail
        go_roundw
        case rel => exact ⟨k + 1, n * 16 + de, by omega, by go_num, by rw [hdv]; go_num, by omega, HK2, HR2, HG2⟩
        case measure => simp [intOf]; omega
      by_cases k3 : cn < 48
      · skip
        have g0 : ¬ (48 : Int) ≤ (cn : Int) := by omega
        have g0' : decide ((48 : Int) ≤ (cn : Int)) = false := decide_eq_false g0
        have g1 : ¬ (97 : Int) ≤ (cn : Int) := by omega
        have g1' : decide ((97 : Int) ≤ (cn : Int)) = false := decide_eq_false g1
        have g2 : ¬ (65 : Int) ≤ (cn : Int) := by omega
        have g2' : decide ((65 : Int) ≤ (cn : Int)) = false := decide_eq_false g2
        have hd16 : ¬ de < 16 := by rw [hde]; (repeat (first | rw [if_pos (by omega)] | rw [if_neg (by omega)])); omega
        have HF := hid (HNOk.out hd16)
        clear HYES HNOk hde
        go_wp2_with fail
        refine HN.out.mono ?_
        rintro e W1 ⟨rfl, hb⟩
        have HW1 := hid (HW5.out _ W1 (HRk.out.below hb))
        have HG1 := hid (HG.out.trans (to_below hb))
        clear hb HN HW5
        go_wp2_with fail
        refine HW1.out.mono ?_
        rintro e W2 ⟨rfl, hr, hg⟩
        have HR2 := hid hr
        have HG2 := hid (HG1.out.trans hg)
        clear hr hg
        go_wp2_with fail
        go_ret
        exact FourP.no HF.out HR2.out HG2.out
      by_cases k4 : 58 ≤ cn ∧ cn ≤ 64
      · skip
        have g0 : (48 : Int) ≤ (cn : Int) := by omega
        have g1 : ¬ (cn : Int) ≤ 57 := by omega
        have g1' : decide ((cn : Int) ≤ 57) = false := decide_eq_false g1
        have g2 : ¬ (97 : Int) ≤ (cn : Int) := by omega
        have g2' : decide ((97 : Int) ≤ (cn : Int)) = false := decide_eq_false g2
        have g3 : ¬ (65 : Int) ≤ (cn : Int) := by omega
        have g3' : decide ((65 : Int) ≤ (cn : Int)) = false := decide_eq_false g3
        have hd16 : ¬ de < 16 := by rw [hde]; (repeat (first | rw [if_pos (by omega)] | rw [if_neg (by omega)])); omega
        have HF := hid (HNOk.out hd16)
        clear HYES HNOk hde
        go_wp2_with fail
        refine HN.out.mono ?_
        rintro e W1 ⟨rfl, hb⟩
        have HW1 := hid (HW5.out _ W1 (HRk.out.below hb))
        have HG1 := hid (HG.out.trans (to_below hb))
        clear hb HN HW5
        go_wp2_with fail
        refine HW1.out.mono ?_
        rintro e W2 ⟨rfl, hr, hg⟩
        have HR2 := hid hr
        have HG2 := hid (HG1.out.trans hg)
        clear hr hg
        go_wp2_with fail
        go_ret
        exact FourP.no HF.out HR2.out HG2.out
      by_cases k5 : 71 ≤ cn ∧ cn ≤ 96
      · skip
        have g0 : (48 : Int) ≤ (cn : Int) := by omega
        have g1 : ¬ (cn : Int) ≤ 57 := by omega
        have g1' : decide ((cn : Int) ≤ 57) = false := decide_eq_false g1
        have g2 : ¬ (97 : Int) ≤ (cn : Int) := by omega
        have g2' : decide ((97 : Int) ≤ (cn : Int)) = false := decide_eq_false g2
        have g3 : (65 : Int) ≤ (cn : Int) := by omega
        have g4 : ¬ (cn : Int) ≤ 70 := by omega
        have g4' : decide ((cn : Int) ≤ 70) = false := decide_eq_false g4
        have hd16 : ¬ de < 16 := by rw [hde]; (repeat (first | rw [if_pos (by omega)] | rw [if_neg (by omega)])); omega
        have HF := hid (HNOk.out hd16)
        clear HYES HNOk hde
        go_wp2_with fail
        refine HN.out.mono ?_
        rintro e W1 ⟨rfl, hb⟩
        have HW1 := hid (HW5.out _ W1 (HRk.out.below hb))
        have HG1 := hid (HG.out.trans (to_below hb))
        clear hb HN HW5
        go_wp2_with fail
        refine HW1.out.mono ?_
        rintro e W2 ⟨rfl, hr, hg⟩
        have HR2 := hid hr
        have HG2 := hid (HG1.out.trans hg)
        clear hr hg
        go_wp2_with fail
        go_ret
        exact FourP.no HF.out HR2.out HG2.out
      by_cases k6 : 103 ≤ cn
      · skip
        have g0 : (48 : Int) ≤ (cn : Int) := by omega
        have g1 : ¬ (cn : Int) ≤ 57 := by omega
        have g1' : decide ((cn : Int) ≤ 57) = false := decide_eq_false g1
        have g2 : (97 : Int) ≤ (cn : Int) := by omega
        have g3 : ¬ (cn : Int) ≤ 102 := by omega
        have g3' : decide ((cn : Int) ≤ 102) = false := decide_eq_false g3
        have g4 : (65 : Int) ≤ (cn : Int) := by omega
        have g5 : ¬ (cn : Int) ≤ 70 := by omega
        have g5' : decide ((cn : Int) ≤ 70) = false := decide_eq_false g5
        have hd16 : ¬ de < 16 := by rw [hde]; (repeat (first | rw [if_pos (by omega)] | rw [if_neg (by omega)])); omega
        have HF := hid (HNOk.out hd16)
        clear HYES HNOk hde
        go_wp2_with fail
        refine HN.out.mono ?_
        rintro e W1 ⟨rfl, hb⟩
        have HW1 := hid (HW5.out _ W1 (HRk.out.below hb))
        have HG1 := hid (HG.out.trans (to_below hb))
        clear hb HN HW5
        go_wp2_with fail
        refine HW1.out.mono ?_
        rintro e W2 ⟨rfl, hr, hg⟩
        have HR2 := hid hr
        have HG2 := hid (HG1.out.trans hg)
        clear hr hg
        go_wp2_with fail
        go_ret
        exact FourP.no HF.out HR2.out HG2.out
      omega
    · have hi : ¬ (k : Int) < 4 := by omega
      obtain rfl : k = 4 := by omega
      have HY : Hid (fourJ l = some (n, l.drop 4)) := by
        show _ = _
        obtain ⟨u1, u2, u3⟩ := HK.out
        unfold fourJ
        rw [if_neg (by omega), if_pos u2, u3]
      have hn2 : n < 65536 := by omega
      go_wp2_with fail
      go_ret
      exact FourP.yes HY.out hn2 HRk.out HG.out
end Go.Proofs.YtlgkbdebpnbndaaGreatDoor
