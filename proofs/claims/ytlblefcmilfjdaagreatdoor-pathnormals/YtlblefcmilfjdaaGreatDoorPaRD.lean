
/- What the reference's begins and Dots of layer 8 do. -/
import Derived.Test.YtlblefcmilfjdaaGreatDoorPaAw
namespace Go.Proofs.YtlblefcmilfjdaaGreatDoor
set_option linter.unusedVariables false
set_option linter.unusedSimpArgs false
open Go.RowKit Go.BigFrame

set_option maxHeartbeats 4000000 in
set_option maxRecDepth 100000 in
theorem begins_any (l c : List UInt8) (hl : l.length ≤ 100000) (w : World) : Calls Tryz.prog 23 #[.string (asS l), .string (asS c)] w fun e w' => e = .returned (.bool (decide (l.take c.length = c))) ∧ w' = w := by
  have h1 := asS_size l
  have h2 := asS_size c
  by_cases hle : c.length ≤ l.length
  · have hi : ((asS c).size : Int) ≤ ((asS l).size : Int) := by omega
    have hx := ext_to l c.length
    rw [← h2] at hx
    have hq := strU (l.take c.length) c
    rw [h2] at hx
    have hx2 : (asS l).extract 0 (asS c).size = asS (l.take c.length) := by rw [h2]; exact hx
    have hsl := fun W => slice_to8 (asS l) (asS c).size ((asS c).size : Int) rfl (by omega) _ hx2 W
    generalize decide (l.take c.length = c) = B at hq ⊢
    generalize asS (l.take c.length) = T at hx2 hq hsl
    have hcs : (asS c).size ≤ 100000 := by omega
    clear hx h1 h2 hle hx2
    generalize asS l = S at hi hsl ⊢
    generalize asS c = C at hi hq hcs hsl ⊢
    cases B with
    | true =>
      go_enter Tryz.func23, Tryz.ntmps23
      go_wp2_with fail
      go_ret
      exact ⟨rfl, rfl⟩
    | false =>
      go_enter Tryz.func23, Tryz.ntmps23
      go_wp2_with fail
      go_ret
      exact ⟨rfl, rfl⟩
  · have hi : ¬ ((asS c).size : Int) ≤ ((asS l).size : Int) := by omega
    have hB : decide (l.take c.length = c) = false := decide_eq_false fun e => by
      have := congrArg List.length e
      rw [List.length_take] at this
      omega
    rw [hB]
    clear h1 h2 hle hB
    generalize asS l = S at hi ⊢
    generalize asS c = C at hi ⊢
    go_enter Tryz.func23, Tryz.ntmps23
    go_wp2_with fail
    go_ret
    exact ⟨rfl, rfl⟩
/-! The steps, the standard's way. -/
theorem sg_is (r s : List UInt8) (hs : s ≠ []) (hf : (47 : UInt8) ∉ s.drop 1) (hr : r ≠ []) : sgD r = s ↔ r = s ∨ r.take (s.length + 1) = s ++ [47] := by
  constructor
  · intro h
    have e := sg_rs r
    rw [h] at e
    by_cases hz : rsD r = []
    · left; rw [← e, hz, List.append_nil]
    · right
      obtain ⟨b, hb⟩ := rs_cons r hz
      rw [← e, hb]
      simp [List.take_append, List.take_of_length_le]
  · rintro (h | h)
    · have := seg_of s [] hs hf (.inl rfl)
      rw [List.append_nil] at this
      unfold sgD
      rw [h, this]; simp
    · have e : r = s ++ 47 :: r.drop (s.length + 1) := by
        conv => lhs; rw [← List.take_append_drop (s.length + 1) r, h]
        simp
      have := seg_of s (47 :: r.drop (s.length + 1)) hs hf (.inr rfl)
      rw [← e] at this
      unfold sgD
      rw [this, e]; simp
theorem rs_of (r s : List UInt8) (h : sgD r = s) (hr : r ≠ []) : rsD r = r.drop s.length := by
  have := sg_len r hr
  rw [h] at this
  unfold rsD
  rw [this]
theorem drop_take (r c : List UInt8) (h : r.take c.length = c) : ∃ b, r = c ++ b := ⟨r.drop c.length, by conv => lhs; rw [← List.take_append_drop c.length r, h]⟩
theorem st1 (r o : List UInt8) (h : r.take 3 = [46, 46, 47]) : stepD r o = (r.drop 3, o) := by
  obtain ⟨b, rfl⟩ := drop_take r [46, 46, 47] h
  have hs : sgD ([46, 46, 47] ++ b) = [46, 46] := (sg_is _ [46, 46] (by simp) (by decide) (by simp)).2 (.inr rfl)
  unfold stepD
  rw [if_pos (.inr hs), rs_of _ _ hs (by simp)]
  rfl
theorem st2 (r o : List UInt8) (h : r.take 2 = [46, 47]) : stepD r o = (r.drop 2, o) := by
  obtain ⟨b, rfl⟩ := drop_take r [46, 47] h
  have hs : sgD ([46, 47] ++ b) = [46] := (sg_is _ [46] (by simp) (by decide) (by simp)).2 (.inr rfl)
  unfold stepD
  rw [if_pos (.inl hs), rs_of _ _ hs (by simp)]
  rfl
theorem st3 (r o : List UInt8) (h : r.take 3 = [47, 46, 47]) : stepD r o = (r.drop 2, o) := by
  obtain ⟨b, rfl⟩ := drop_take r [47, 46, 47] h
  have hs : sgD ([47, 46, 47] ++ b) = [47, 46] := (sg_is _ [47, 46] (by simp) (by decide) (by simp)).2 (.inr rfl)
  unfold stepD
  rw [if_neg (by rw [hs]; decide), if_pos hs, rs_of _ _ hs (by simp)]
  rfl
theorem st4 (r o : List UInt8) (h : r = [47, 46]) : stepD r o = ([47], o) := by
  subst h
  have hs : sgD [47, 46] = [47, 46] := by decide
  unfold stepD
  rw [if_neg (by rw [hs]; decide), if_pos hs]
  rfl
theorem st5 (r o : List UInt8) (h : r.take 4 = [47, 46, 46, 47]) : stepD r o = (r.drop 3, upD o) := by
  obtain ⟨b, rfl⟩ := drop_take r [47, 46, 46, 47] h
  have hs : sgD ([47, 46, 46, 47] ++ b) = [47, 46, 46] := (sg_is _ [47, 46, 46] (by simp) (by decide) (by simp)).2 (.inr rfl)
  unfold stepD
  rw [if_neg (by rw [hs]; decide), if_neg (by rw [hs]; decide), if_pos hs, rs_of _ _ hs (by simp)]
  rfl
theorem st5b (r o : List UInt8) (h : r = [47, 46, 46]) : stepD r o = ([47], upD o) := by
  subst h
  have hs : sgD [47, 46, 46] = [47, 46, 46] := by decide
  unfold stepD
  rw [if_neg (by rw [hs]; decide), if_neg (by rw [hs]; decide), if_pos hs]
  rfl
theorem st6 (r o : List UInt8) (h : r = [46]) : stepD r o = ([], o) := by
  subst h
  have hs : sgD [46] = [46] := by decide
  unfold stepD
  rw [if_pos (.inl hs)]
  rfl
theorem st6b (r o : List UInt8) (h : r = [46, 46]) : stepD r o = ([], o) := by
  subst h
  have hs : sgD [46, 46] = [46, 46] := by decide
  unfold stepD
  rw [if_pos (.inr hs)]
  rfl
theorem st7 (r o : List UInt8) (hr : r ≠ []) (h1 : ¬ r.take 3 = [46, 46, 47]) (h2 : ¬ r.take 2 = [46, 47]) (h3 : ¬ r.take 3 = [47, 46, 47]) (h4 : ¬ r = [47, 46]) (h5 : ¬ r.take 4 = [47, 46, 46, 47]) (h6 : ¬ r = [47, 46, 46]) (h7 : ¬ r = [46]) (h8 : ¬ r = [46, 46]) : stepD r o = (r.drop (segN r), o ++ r.take (segN r)) := by
  unfold stepD
  rw [if_neg, if_neg, if_neg]
  · rfl
  · intro h
    rcases (sg_is r [47, 46, 46] (by simp) (by decide) hr).1 h with e | e
    · exact h6 e
    · exact h5 e
  · intro h
    rcases (sg_is r [47, 46] (by simp) (by decide) hr).1 h with e | e
    · exact h4 e
    · exact h3 e
  · rintro (h | h)
    · rcases (sg_is r [46] (by simp) (by decide) hr).1 h with e | e
      · exact h7 e
      · exact h2 e
    · rcases (sg_is r [46, 46] (by simp) (by decide) hr).1 h with e | e
      · exact h8 e
      · exact h1 e
theorem seg_at (r : List UInt8) (hr : r ≠ []) (k : Nat) (h1 : 1 ≤ k) : (k < segN r → r.getD k 0 ≠ 47) ∧ (k = segN r → k < r.length → r.getD k 0 = 47) := by
  obtain ⟨c, t, rfl⟩ := List.exists_cons_of_ne_nil hr
  obtain ⟨j, rfl⟩ : ∃ j, k = j + 1 := ⟨k - 1, by omega⟩
  have e : (c :: t).getD (j + 1) 0 = t.getD j 0 := rfl
  have en : segN (c :: t) = 1 + findU [47] t := rfl
  rw [e, en]
  constructor
  · intro h
    have := findU_ahead [47] t j (by omega)
    intro h2
    rw [h2] at this
    simp at this
  · intro h h2
    obtain rfl : j = findU [47] t := by omega
    have := findU_at [47] t (by simp at h2; omega)
    simpa using this
theorem up_take (o : List UInt8) (k : Nat) (h : (47 : UInt8) ∉ o.drop k) (hk : k ≤ o.length) : (k = 0 → upD o = o.take 0) ∧ (0 < k → o.getD (k - 1) 0 = 47 → upD o = o.take (k - 1)) := by
  constructor
  · rintro rfl
    exact up_none o (by simpa using h)
  · intro h0 h1
    obtain ⟨j, rfl⟩ : ∃ j, k = j + 1 := ⟨k - 1, by omega⟩
    have e := drop8 o j (by omega)
    rw [Nat.add_sub_cancel] at h1
    rw [h1] at e
    have e2 : o = o.take j ++ 47 :: o.drop (j + 1) := by rw [← e, List.take_append_drop]
    rcases up_cases o with ⟨_, h2⟩ | ⟨x, y, e3, hy, h4⟩
    · exact absurd (by rw [e2]; simp) h2
    · have h5 := lastI_at 47 x y hy
      have h6 := lastI_at 47 (o.take j) (o.drop (j + 1)) h
      rw [← e2] at h6
      rw [← e3] at h5
      rw [h5] at h6
      have h7 : x.length = (o.take j).length := by omega
      rw [Nat.add_sub_cancel, h4]
      have h8 : x ++ 47 :: y = o.take j ++ 47 :: o.drop (j + 1) := e3.symm.trans e2
      exact (List.append_inj h8 h7).1
set_option maxHeartbeats 8000000 in
set_option maxRecDepth 100000 in
theorem refDots_any (l : List UInt8) (hl : l.length ≤ 4000) (w : World) : Calls Tryz.prog 8 #[.string (asS l)] w fun e w' => e = .returned (.string (asS (dotsU l))) ∧ w' = w := by
  have HR0 : Hid (dotD l [] = dotsU l) := rfl
  generalize dotsU l = R at HR0 ⊢
  have HBG := hid begins_any
  go_enter Tryz.func8, Tryz.ntmps8
  go_wp2_with fail
  go_loop [0, 3, 4] (fun v s n => ∃ (r o : List UInt8) (k : Nat), v = .string (asS r) ∧ s = .string (asS o) ∧ n = .int .i64 (k : Int) ∧ k + r.length ≤ 4000 ∧ o.length + r.length ≤ 4000 ∧ Hid (dotD r o = R)) (fun v _ _ => unR v)
  case atStart => exact ⟨l, [], 0, rfl, rfl, rfl, by omega, by simpa using hl, HR0⟩
  case round =>
    obtain ⟨r, o, k, rfl, rfl, rfl, hk, hlen, HQ⟩ := hrel
    have he := emp8 r
    by_cases hr : r = []
    · rw [decide_eq_true hr] at he
      have HO : Hid (o = R) := by show _ = _; rw [← HQ.out, hr, dotD_nil]
      generalize asS r = S at he ⊢
      clear hr HQ
      go_wp2_with fail
      go_ret
      exact ⟨by rw [HO.out]; rfl, rfl⟩
    · rw [decide_eq_false hr] at he
      have hrl : 1 ≤ r.length := List.length_pos_iff.2 hr
      have hk5 : (k : Int) < 5000 := by omega
      have hk6 : k ≤ 4000 := by omega
      have B1 := hid (fun W => HBG.out r [46, 46, 47] (by omega) W)
      have B2 := hid (fun W => HBG.out r [46, 47] (by omega) W)
      have B3 := hid (fun W => HBG.out r [47, 46, 47] (by omega) W)
      have B5 := hid (fun W => HBG.out r [47, 46, 46, 47] (by omega) W)
      have q4 := tl_eq r [47, 46]
      have q5 := tl_eq r [47, 46, 46]
      have q6 := tl_eq r [46]
      have q7 := tl_eq r [46, 46]
      have hst := dotD_step r o hr
      rw [HQ.out] at hst
      have HST := hid hst
      have HLN := hid (step_len r o hr)
      have HM : Hid ((stepD r o).1.length < r.length → unR (.string (asS (stepD r o).1)) < unR (.string (asS r))) := fun h => by
        show (asS _).size < (asS _).size
        rw [asS_size, asS_size]; exact h
      have hsz := asS_size r
      have HEF := hid (ext_from r)
      clear hst HQ
      by_cases t1 : r.take 3 = [46, 46, 47]
      · skip
        have D1 : Hid (∀ W, Calls Tryz.prog 23 #[.string (asS r), .string ⟨#[46, 46, 47]⟩] W fun e w' => e = .returned (.bool true) ∧ w' = W) := fun W => by
          have := B1.out W
          rw [decide_eq_true (show r.take ([46, 46, 47] : List UInt8).length = [46, 46, 47] from t1)] at this
          exact this
        rw [st1 r o t1] at HST HLN HM
        have HST := hid HST.out.symm
        simp only at HLN HM
        have hx := HEF.out 3
        have hs3 : (3 : Int) ≤ ((asS r).size : Int) := by rw [hsz]; have := congrArg List.length t1; rw [List.length_take] at this; simp at this; omega
        clear HBG B1 B2 B3 B5 q4 q5 q6 q7 HEF hsz hr
        clear t1
        generalize hS : asS r = S at D1 he hx hs3 HM ⊢
        clear hS
        generalize hT : r.drop 3 = T at hx HST HLN HM
        clear hT
        go_wp2_with fail
        refine (D1.out _).mono ?_
        rintro e W1 ⟨rfl, rfl⟩
        go_wp2_with fail
        go_round
        case rel => exact ⟨T, o, k + 1, rfl, rfl, by go_num, by have := HLN.out; omega, by have := HLN.out.2; omega, HST⟩
        case measure => exact HM.out HLN.out.1
      by_cases t2 : r.take 2 = [46, 47]
      · skip
        have D1 : Hid (∀ W, Calls Tryz.prog 23 #[.string (asS r), .string ⟨#[46, 46, 47]⟩] W fun e w' => e = .returned (.bool false) ∧ w' = W) := fun W => by
          have := B1.out W
          rw [decide_eq_false (show ¬ r.take ([46, 46, 47] : List UInt8).length = [46, 46, 47] from t1)] at this
          exact this
        have D2 : Hid (∀ W, Calls Tryz.prog 23 #[.string (asS r), .string ⟨#[46, 47]⟩] W fun e w' => e = .returned (.bool true) ∧ w' = W) := fun W => by
          have := B2.out W
          rw [decide_eq_true (show r.take ([46, 47] : List UInt8).length = [46, 47] from t2)] at this
          exact this
        rw [st2 r o t2] at HST HLN HM
        have HST := hid HST.out.symm
        simp only at HLN HM
        have hx := HEF.out 2
        have hs2 : (2 : Int) ≤ ((asS r).size : Int) := by rw [hsz]; have := congrArg List.length t2; rw [List.length_take] at this; simp at this; omega
        clear HBG B1 B2 B3 B5 q4 q5 q6 q7 HEF hsz hr
        clear t1 t2
        generalize hS : asS r = S at D1 D2 he hx hs2 HM ⊢
        clear hS
        generalize hT : r.drop 2 = T at hx HST HLN HM
        clear hT
        go_wp2_with fail
        refine (D1.out _).mono ?_
        rintro e W1 ⟨rfl, rfl⟩
        go_wp2_with fail
        refine (D2.out _).mono ?_
        rintro e W2 ⟨rfl, rfl⟩
        go_wp2_with fail
        go_round
        case rel => exact ⟨T, o, k + 1, rfl, rfl, by go_num, by have := HLN.out; omega, by have := HLN.out.2; omega, HST⟩
        case measure => exact HM.out HLN.out.1
      by_cases t3 : r.take 3 = [47, 46, 47]
      · skip
        have D1 : Hid (∀ W, Calls Tryz.prog 23 #[.string (asS r), .string ⟨#[46, 46, 47]⟩] W fun e w' => e = .returned (.bool false) ∧ w' = W) := fun W => by
          have := B1.out W
          rw [decide_eq_false (show ¬ r.take ([46, 46, 47] : List UInt8).length = [46, 46, 47] from t1)] at this
          exact this
        have D2 : Hid (∀ W, Calls Tryz.prog 23 #[.string (asS r), .string ⟨#[46, 47]⟩] W fun e w' => e = .returned (.bool false) ∧ w' = W) := fun W => by
          have := B2.out W
          rw [decide_eq_false (show ¬ r.take ([46, 47] : List UInt8).length = [46, 47] from t2)] at this
          exact this
        have D3 : Hid (∀ W, Calls Tryz.prog 23 #[.string (asS r), .string ⟨#[47, 46, 47]⟩] W fun e w' => e = .returned (.bool true) ∧ w' = W) := fun W => by
          have := B3.out W
          rw [decide_eq_true (show r.take ([47, 46, 47] : List UInt8).length = [47, 46, 47] from t3)] at this
          exact this
        rw [st3 r o t3] at HST HLN HM
        have HST := hid HST.out.symm
        simp only at HLN HM
        have hx := HEF.out 2
        have hs2 : (2 : Int) ≤ ((asS r).size : Int) := by rw [hsz]; have := congrArg List.length t3; rw [List.length_take] at this; simp at this; omega
        clear HBG B1 B2 B3 B5 q4 q5 q6 q7 HEF hsz hr
        clear t1 t2 t3
        generalize hS : asS r = S at D1 D2 D3 he hx hs2 HM ⊢
        clear hS
        generalize hT : r.drop 2 = T at hx HST HLN HM
        clear hT
        go_wp2_with fail
        refine (D1.out _).mono ?_
        rintro e W1 ⟨rfl, rfl⟩
        go_wp2_with fail
        refine (D2.out _).mono ?_
        rintro e W2 ⟨rfl, rfl⟩
        go_wp2_with fail
        refine (D3.out _).mono ?_
        rintro e W3 ⟨rfl, rfl⟩
        go_wp2_with fail
        go_round
        case rel => exact ⟨T, o, k + 1, rfl, rfl, by go_num, by have := HLN.out; omega, by have := HLN.out.2; omega, HST⟩
        case measure => exact HM.out HLN.out.1
      by_cases t4 : r = [47, 46]
      · skip
        have D1 : Hid (∀ W, Calls Tryz.prog 23 #[.string (asS r), .string ⟨#[46, 46, 47]⟩] W fun e w' => e = .returned (.bool false) ∧ w' = W) := fun W => by
          have := B1.out W
          rw [decide_eq_false (show ¬ r.take ([46, 46, 47] : List UInt8).length = [46, 46, 47] from t1)] at this
          exact this
        have D2 : Hid (∀ W, Calls Tryz.prog 23 #[.string (asS r), .string ⟨#[46, 47]⟩] W fun e w' => e = .returned (.bool false) ∧ w' = W) := fun W => by
          have := B2.out W
          rw [decide_eq_false (show ¬ r.take ([46, 47] : List UInt8).length = [46, 47] from t2)] at this
          exact this
        have D3 : Hid (∀ W, Calls Tryz.prog 23 #[.string (asS r), .string ⟨#[47, 46, 47]⟩] W fun e w' => e = .returned (.bool false) ∧ w' = W) := fun W => by
          have := B3.out W
          rw [decide_eq_false (show ¬ r.take ([47, 46, 47] : List UInt8).length = [47, 46, 47] from t3)] at this
          exact this
        rw [st4 r o t4] at HST HLN HM
        have HST := hid HST.out.symm
        simp only at HLN HM
        rw [decide_eq_true t4] at q4
        clear HBG B1 B2 B3 B5 q5 q6 q7 HEF hsz hr t1 t2 t3 t4
        generalize hS : asS r = S at D1 D2 D3 q4 he HM ⊢
        clear hS
        go_wp2_with fail
        refine (D1.out _).mono ?_
        rintro e W1 ⟨rfl, rfl⟩
        go_wp2_with fail
        refine (D2.out _).mono ?_
        rintro e W2 ⟨rfl, rfl⟩
        go_wp2_with fail
        refine (D3.out _).mono ?_
        rintro e W3 ⟨rfl, rfl⟩
        go_wp2_with fail
        go_round
        case rel => exact ⟨[47], o, k + 1, rfl, rfl, by go_num, by have := HLN.out; omega, by have := HLN.out.2; omega, HST⟩
        case measure => exact HM.out HLN.out.1
      by_cases t5 : r.take 4 = [47, 46, 46, 47]
      · skip
        have D1 : Hid (∀ W, Calls Tryz.prog 23 #[.string (asS r), .string ⟨#[46, 46, 47]⟩] W fun e w' => e = .returned (.bool false) ∧ w' = W) := fun W => by
          have := B1.out W
          rw [decide_eq_false (show ¬ r.take ([46, 46, 47] : List UInt8).length = [46, 46, 47] from t1)] at this
          exact this
        have D2 : Hid (∀ W, Calls Tryz.prog 23 #[.string (asS r), .string ⟨#[46, 47]⟩] W fun e w' => e = .returned (.bool false) ∧ w' = W) := fun W => by
          have := B2.out W
          rw [decide_eq_false (show ¬ r.take ([46, 47] : List UInt8).length = [46, 47] from t2)] at this
          exact this
        have D3 : Hid (∀ W, Calls Tryz.prog 23 #[.string (asS r), .string ⟨#[47, 46, 47]⟩] W fun e w' => e = .returned (.bool false) ∧ w' = W) := fun W => by
          have := B3.out W
          rw [decide_eq_false (show ¬ r.take ([47, 46, 47] : List UInt8).length = [47, 46, 47] from t3)] at this
          exact this
        have D5 : Hid (∀ W, Calls Tryz.prog 23 #[.string (asS r), .string ⟨#[47, 46, 46, 47]⟩] W fun e w' => e = .returned (.bool true) ∧ w' = W) := fun W => by
          have := B5.out W
          rw [decide_eq_true (show r.take ([47, 46, 46, 47] : List UInt8).length = [47, 46, 46, 47] from t5)] at this
          exact this
        have t6 : ¬ r = [47, 46, 46] := fun e => by rw [e] at t5; cases t5
        rw [decide_eq_false t4] at q4
        rw [decide_eq_false t6] at q5
        rw [st5 r o t5] at HST HLN HM
        have HST := hid HST.out.symm
        simp only at HLN HM
        have hx := HEF.out 3
        have hs3 : (3 : Int) ≤ ((asS r).size : Int) := by rw [hsz]; have := congrArg List.length t5; rw [List.length_take] at this; simp at this; omega
        clear HBG B1 B2 B3 B5 q6 q7 HEF hsz hr t1 t2 t3 t4 t5 t6
        generalize hS : asS r = S at D1 D2 D3 D5 q4 q5 he hx hs3 HM ⊢
        clear hS
        generalize hT : r.drop 3 = T at hx HST HLN HM
        clear hT
        go_wp2_with fail
        refine (D1.out _).mono ?_
        rintro e W1 ⟨rfl, rfl⟩
        go_wp2_with fail
        refine (D2.out _).mono ?_
        rintro e W2 ⟨rfl, rfl⟩
        go_wp2_with fail
        refine (D3.out _).mono ?_
        rintro e W3 ⟨rfl, rfl⟩
        go_wp2_with fail
        refine (D5.out _).mono ?_
        rintro e W5 ⟨rfl, rfl⟩
        have HZO := asS_size o
        have HIX : Hid (∀ j, j < o.length → ∀ W, (Instr.index 9 (.string (asS o)) (.int .i64 (j : Int))).run Tryz.prog W = .ok (.int .u8 (o.getD j 0).toNat) W) := fun j hj W => str_ix (asS o) j (by rw [asS_size]; exact hj) W
        have HET := hid (ext_to o)
        have HUT := hid (up_take o)
        generalize hSO : asS o = SO at HZO HIX HET ⊢
        clear hSO
        go_wp2_with fail
        go_loop [5] (fun i => ∃ j : Nat, j ≤ o.length ∧ i = .int .i64 (j : Int) ∧ Hid ((47 : UInt8) ∉ o.drop j)) (fun i => (intOf i).toNat)
        case atStart => exact ⟨o.length, Nat.le_refl _, rfl, by show _ ∉ _; rw [List.drop_eq_nil_of_le (Nat.le_refl _)]; simp⟩
        case round =>
          obtain ⟨j, hj, rfl, HN⟩ := hrel
          have HUJ := hid (HUT.out j HN.out hj)
          by_cases h0 : j = 0
          · subst h0
            have HU : Hid (upD o = o.take 0) := HUJ.out.1 rfl
            have hx0 := HET.out 0
            have hp : ¬ (0 : Int) < ((0 : Nat) : Int) := by omega
            go_wp2_with fail
            go_round
            case rel => exact ⟨T, o.take 0, k + 1, rfl, rfl, by go_num, by have := HLN.out; omega, by have := HLN.out.2; rw [HU.out] at this; omega, by rw [← HU.out]; exact HST⟩
            case measure => exact HM.out HLN.out.1
          · obtain ⟨m, rfl⟩ : ∃ m, j = m + 1 := ⟨j - 1, by omega⟩
            have hp : (0 : Int) < ((m + 1 : Nat) : Int) := by omega
            have hi1 : ((m + 1 : Nat) : Int) - 1 = (m : Int) := by omega
            have hix := HIX.out m (by omega)
            have hwm : wrap64 (((m + 1 : Nat) : Int) - 1) = (m : Int) := by unfold wrap64; omega
            obtain ⟨c, hc⟩ : ∃ c, c = o.getD m 0 := ⟨_, rfl⟩
            rw [← hc] at hix
            have hq := u8_int c 47
            rw [show ((47 : UInt8).toNat : Int) = 47 from rfl] at hq
            have hms : m ≤ SO.size := by omega
            have hms2 : (m : Int) ≤ (SO.size : Int) := by omega
            by_cases h47 : c = 47
            · rw [decide_eq_true h47] at hq
              have HU : Hid (upD o = o.take m) := HUJ.out.2 (by omega) (by rw [Nat.add_sub_cancel, ← hc]; exact h47)
              have hx0 := HET.out m
              clear h47 hc h0 HUJ HN
              go_wp2_with fail
              go_round
              case rel => exact ⟨T, o.take m, k + 1, rfl, rfl, by go_num, by have := HLN.out; omega, by have := HLN.out.2; rw [HU.out] at this; omega, by rw [← HU.out]; exact HST⟩
              case measure => exact HM.out HLN.out.1
            · rw [decide_eq_false h47] at hq
              have HN2 : Hid ((47 : UInt8) ∉ o.drop m) := by
                show _ ∉ _
                rw [drop8 o m (by omega), ← hc, List.mem_cons, not_or]
                exact ⟨fun e => h47 e.symm, HN.out⟩
              clear h47 hc h0 HUJ HN
              go_wp2_with fail
              go_round
              case rel => exact ⟨m, by omega, by go_num, HN2⟩
              case measure => simp [intOf] <;> omega
      by_cases t6 : r = [47, 46, 46]
      · skip
        have D1 : Hid (∀ W, Calls Tryz.prog 23 #[.string (asS r), .string ⟨#[46, 46, 47]⟩] W fun e w' => e = .returned (.bool false) ∧ w' = W) := fun W => by
          have := B1.out W
          rw [decide_eq_false (show ¬ r.take ([46, 46, 47] : List UInt8).length = [46, 46, 47] from t1)] at this
          exact this
        have D2 : Hid (∀ W, Calls Tryz.prog 23 #[.string (asS r), .string ⟨#[46, 47]⟩] W fun e w' => e = .returned (.bool false) ∧ w' = W) := fun W => by
          have := B2.out W
          rw [decide_eq_false (show ¬ r.take ([46, 47] : List UInt8).length = [46, 47] from t2)] at this
          exact this
        have D3 : Hid (∀ W, Calls Tryz.prog 23 #[.string (asS r), .string ⟨#[47, 46, 47]⟩] W fun e w' => e = .returned (.bool false) ∧ w' = W) := fun W => by
          have := B3.out W
          rw [decide_eq_false (show ¬ r.take ([47, 46, 47] : List UInt8).length = [47, 46, 47] from t3)] at this
          exact this
        have D5 : Hid (∀ W, Calls Tryz.prog 23 #[.string (asS r), .string ⟨#[47, 46, 46, 47]⟩] W fun e w' => e = .returned (.bool false) ∧ w' = W) := fun W => by
          have := B5.out W
          rw [decide_eq_false (show ¬ r.take ([47, 46, 46, 47] : List UInt8).length = [47, 46, 46, 47] from t5)] at this
          exact this
        rw [decide_eq_false t4] at q4
        rw [decide_eq_true t6] at q5
        rw [st5b r o t6] at HST HLN HM
        have HST := hid HST.out.symm
        simp only at HLN HM
        clear HBG B1 B2 B3 B5 q6 q7 HEF hsz hr t1 t2 t3 t4 t5 t6
        generalize hS : asS r = S at D1 D2 D3 D5 q4 q5 he HM ⊢
        clear hS
        go_wp2_with fail
        refine (D1.out _).mono ?_
        rintro e W1 ⟨rfl, rfl⟩
        go_wp2_with fail
        refine (D2.out _).mono ?_
        rintro e W2 ⟨rfl, rfl⟩
        go_wp2_with fail
        refine (D3.out _).mono ?_
        rintro e W3 ⟨rfl, rfl⟩
        go_wp2_with fail
        refine (D5.out _).mono ?_
        rintro e W5 ⟨rfl, rfl⟩
        have HZO := asS_size o
        have HIX : Hid (∀ j, j < o.length → ∀ W, (Instr.index 9 (.string (asS o)) (.int .i64 (j : Int))).run Tryz.prog W = .ok (.int .u8 (o.getD j 0).toNat) W) := fun j hj W => str_ix (asS o) j (by rw [asS_size]; exact hj) W
        have HET := hid (ext_to o)
        have HUT := hid (up_take o)
        generalize hSO : asS o = SO at HZO HIX HET ⊢
        clear hSO
        go_wp2_with fail
        go_loop [5] (fun i => ∃ j : Nat, j ≤ o.length ∧ i = .int .i64 (j : Int) ∧ Hid ((47 : UInt8) ∉ o.drop j)) (fun i => (intOf i).toNat)
        case atStart => exact ⟨o.length, Nat.le_refl _, rfl, by show _ ∉ _; rw [List.drop_eq_nil_of_le (Nat.le_refl _)]; simp⟩
        case round =>
          obtain ⟨j, hj, rfl, HN⟩ := hrel
          have HUJ := hid (HUT.out j HN.out hj)
          by_cases h0 : j = 0
          · subst h0
            have HU : Hid (upD o = o.take 0) := HUJ.out.1 rfl
            have hx0 := HET.out 0
            have hp : ¬ (0 : Int) < ((0 : Nat) : Int) := by omega
            go_wp2_with fail
            go_round
            case rel => exact ⟨[47], o.take 0, k + 1, rfl, rfl, by go_num, by have := HLN.out; omega, by have := HLN.out.2; rw [HU.out] at this; omega, by rw [← HU.out]; exact HST⟩
            case measure => exact HM.out HLN.out.1
          · obtain ⟨m, rfl⟩ : ∃ m, j = m + 1 := ⟨j - 1, by omega⟩
            have hp : (0 : Int) < ((m + 1 : Nat) : Int) := by omega
            have hi1 : ((m + 1 : Nat) : Int) - 1 = (m : Int) := by omega
            have hix := HIX.out m (by omega)
            have hwm : wrap64 (((m + 1 : Nat) : Int) - 1) = (m : Int) := by unfold wrap64; omega
            obtain ⟨c, hc⟩ : ∃ c, c = o.getD m 0 := ⟨_, rfl⟩
            rw [← hc] at hix
            have hq := u8_int c 47
            rw [show ((47 : UInt8).toNat : Int) = 47 from rfl] at hq
            have hms : m ≤ SO.size := by omega
            have hms2 : (m : Int) ≤ (SO.size : Int) := by omega
            by_cases h47 : c = 47
            · rw [decide_eq_true h47] at hq
              have HU : Hid (upD o = o.take m) := HUJ.out.2 (by omega) (by rw [Nat.add_sub_cancel, ← hc]; exact h47)
              have hx0 := HET.out m
              clear h47 hc h0 HUJ HN
              go_wp2_with fail
              go_round
              case rel => exact ⟨[47], o.take m, k + 1, rfl, rfl, by go_num, by have := HLN.out; omega, by have := HLN.out.2; rw [HU.out] at this; omega, by rw [← HU.out]; exact HST⟩
              case measure => exact HM.out HLN.out.1
            · rw [decide_eq_false h47] at hq
              have HN2 : Hid ((47 : UInt8) ∉ o.drop m) := by
                show _ ∉ _
                rw [drop8 o m (by omega), ← hc, List.mem_cons, not_or]
                exact ⟨fun e => h47 e.symm, HN.out⟩
              clear h47 hc h0 HUJ HN
              go_wp2_with fail
              go_round
              case rel => exact ⟨m, by omega, by go_num, HN2⟩
              case measure => simp [intOf] <;> omega
      by_cases t7 : r = [46]
      · skip
        have D1 : Hid (∀ W, Calls Tryz.prog 23 #[.string (asS r), .string ⟨#[46, 46, 47]⟩] W fun e w' => e = .returned (.bool false) ∧ w' = W) := fun W => by
          have := B1.out W
          rw [decide_eq_false (show ¬ r.take ([46, 46, 47] : List UInt8).length = [46, 46, 47] from t1)] at this
          exact this
        have D2 : Hid (∀ W, Calls Tryz.prog 23 #[.string (asS r), .string ⟨#[46, 47]⟩] W fun e w' => e = .returned (.bool false) ∧ w' = W) := fun W => by
          have := B2.out W
          rw [decide_eq_false (show ¬ r.take ([46, 47] : List UInt8).length = [46, 47] from t2)] at this
          exact this
        have D3 : Hid (∀ W, Calls Tryz.prog 23 #[.string (asS r), .string ⟨#[47, 46, 47]⟩] W fun e w' => e = .returned (.bool false) ∧ w' = W) := fun W => by
          have := B3.out W
          rw [decide_eq_false (show ¬ r.take ([47, 46, 47] : List UInt8).length = [47, 46, 47] from t3)] at this
          exact this
        have D5 : Hid (∀ W, Calls Tryz.prog 23 #[.string (asS r), .string ⟨#[47, 46, 46, 47]⟩] W fun e w' => e = .returned (.bool false) ∧ w' = W) := fun W => by
          have := B5.out W
          rw [decide_eq_false (show ¬ r.take ([47, 46, 46, 47] : List UInt8).length = [47, 46, 46, 47] from t5)] at this
          exact this
        rw [decide_eq_false t4] at q4
        rw [decide_eq_false t6] at q5
        rw [decide_eq_true t7] at q6
        rw [st6 r o t7] at HST HLN HM
        have HST := hid HST.out.symm
        simp only at HLN HM
        clear HBG B1 B2 B3 B5 HEF hsz hr t1 t2 t3 t4 t5 t6 t7
        generalize hS : asS r = S at D1 D2 D3 D5 q4 q5 q6 q7 he HM ⊢
        clear hS
        go_wp2_with fail
        refine (D1.out _).mono ?_
        rintro e W1 ⟨rfl, rfl⟩
        go_wp2_with fail
        refine (D2.out _).mono ?_
        rintro e W2 ⟨rfl, rfl⟩
        go_wp2_with fail
        refine (D3.out _).mono ?_
        rintro e W3 ⟨rfl, rfl⟩
        go_wp2_with fail
        refine (D5.out _).mono ?_
        rintro e W5 ⟨rfl, rfl⟩
        go_wp2_with fail
        go_round
        case rel => exact ⟨[], o, k + 1, rfl, rfl, by go_num, by have := HLN.out; omega, by have := HLN.out.2; omega, HST⟩
        case measure => exact HM.out HLN.out.1
      by_cases t8 : r = [46, 46]
      · skip
        have D1 : Hid (∀ W, Calls Tryz.prog 23 #[.string (asS r), .string ⟨#[46, 46, 47]⟩] W fun e w' => e = .returned (.bool false) ∧ w' = W) := fun W => by
          have := B1.out W
          rw [decide_eq_false (show ¬ r.take ([46, 46, 47] : List UInt8).length = [46, 46, 47] from t1)] at this
          exact this
        have D2 : Hid (∀ W, Calls Tryz.prog 23 #[.string (asS r), .string ⟨#[46, 47]⟩] W fun e w' => e = .returned (.bool false) ∧ w' = W) := fun W => by
          have := B2.out W
          rw [decide_eq_false (show ¬ r.take ([46, 47] : List UInt8).length = [46, 47] from t2)] at this
          exact this
        have D3 : Hid (∀ W, Calls Tryz.prog 23 #[.string (asS r), .string ⟨#[47, 46, 47]⟩] W fun e w' => e = .returned (.bool false) ∧ w' = W) := fun W => by
          have := B3.out W
          rw [decide_eq_false (show ¬ r.take ([47, 46, 47] : List UInt8).length = [47, 46, 47] from t3)] at this
          exact this
        have D5 : Hid (∀ W, Calls Tryz.prog 23 #[.string (asS r), .string ⟨#[47, 46, 46, 47]⟩] W fun e w' => e = .returned (.bool false) ∧ w' = W) := fun W => by
          have := B5.out W
          rw [decide_eq_false (show ¬ r.take ([47, 46, 46, 47] : List UInt8).length = [47, 46, 46, 47] from t5)] at this
          exact this
        rw [decide_eq_false t4] at q4
        rw [decide_eq_false t6] at q5
        rw [decide_eq_false t7] at q6; rw [decide_eq_true t8] at q7
        rw [st6b r o t8] at HST HLN HM
        have HST := hid HST.out.symm
        simp only at HLN HM
        clear HBG B1 B2 B3 B5 HEF hsz hr t1 t2 t3 t4 t5 t6 t7 t8
        generalize hS : asS r = S at D1 D2 D3 D5 q4 q5 q6 q7 he HM ⊢
        clear hS
        go_wp2_with fail
        refine (D1.out _).mono ?_
        rintro e W1 ⟨rfl, rfl⟩
        go_wp2_with fail
        refine (D2.out _).mono ?_
        rintro e W2 ⟨rfl, rfl⟩
        go_wp2_with fail
        refine (D3.out _).mono ?_
        rintro e W3 ⟨rfl, rfl⟩
        go_wp2_with fail
        refine (D5.out _).mono ?_
        rintro e W5 ⟨rfl, rfl⟩
        go_wp2_with fail
        go_round
        case rel => exact ⟨[], o, k + 1, rfl, rfl, by go_num, by have := HLN.out; omega, by have := HLN.out.2; omega, HST⟩
        case measure => exact HM.out HLN.out.1
      have D1 : Hid (∀ W, Calls Tryz.prog 23 #[.string (asS r), .string ⟨#[46, 46, 47]⟩] W fun e w' => e = .returned (.bool false) ∧ w' = W) := fun W => by
        have := B1.out W
        rw [decide_eq_false (show ¬ r.take ([46, 46, 47] : List UInt8).length = [46, 46, 47] from t1)] at this
        exact this
      have D2 : Hid (∀ W, Calls Tryz.prog 23 #[.string (asS r), .string ⟨#[46, 47]⟩] W fun e w' => e = .returned (.bool false) ∧ w' = W) := fun W => by
        have := B2.out W
        rw [decide_eq_false (show ¬ r.take ([46, 47] : List UInt8).length = [46, 47] from t2)] at this
        exact this
      have D3 : Hid (∀ W, Calls Tryz.prog 23 #[.string (asS r), .string ⟨#[47, 46, 47]⟩] W fun e w' => e = .returned (.bool false) ∧ w' = W) := fun W => by
        have := B3.out W
        rw [decide_eq_false (show ¬ r.take ([47, 46, 47] : List UInt8).length = [47, 46, 47] from t3)] at this
        exact this
      have D5 : Hid (∀ W, Calls Tryz.prog 23 #[.string (asS r), .string ⟨#[47, 46, 46, 47]⟩] W fun e w' => e = .returned (.bool false) ∧ w' = W) := fun W => by
        have := B5.out W
        rw [decide_eq_false (show ¬ r.take ([47, 46, 46, 47] : List UInt8).length = [47, 46, 46, 47] from t5)] at this
        exact this
      rw [decide_eq_false t4] at q4
      rw [decide_eq_false t6] at q5
      rw [decide_eq_false t7] at q6
      rw [decide_eq_false t8] at q7
      have HSA := hid (seg_at r hr)
      have hsl := segN_le r hr
      rw [st7 r o hr t1 t2 t3 t4 t5 t6 t7 t8] at HST HLN HM
      have HST := hid HST.out.symm
      simp only at HLN HM
      have hseg1 : 1 ≤ segN r := by unfold segN; omega
      have HIX : Hid (∀ j, j < r.length → ∀ W, (Instr.index 9 (.string (asS r)) (.int .i64 (j : Int))).run Tryz.prog W = .ok (.int .u8 (r.getD j 0).toNat) W) := fun j hj W => str_ix (asS r) j (by rw [asS_size]; exact hj) W
      have hx1 := ext_to r (segN r)
      have hx2 := HEF.out (segN r)
      have hcat := asS_app o (r.take (segN r))
      have hzz : ¬ (9223372036854775807 < (asS o).size + (asS (r.take (segN r))).size) := by rw [asS_size, asS_size, List.length_take]; omega
      clear HBG B1 B2 B3 B5 HEF hr t1 t2 t3 t4 t5 t6 t7 t8
      generalize hS : asS r = S at D1 D2 D3 D5 q4 q5 q6 q7 he HM HIX hx1 hx2 hsz ⊢
      clear hS
      generalize hSO : asS o = SO at hcat hzz ⊢
      clear hSO
      generalize hT1 : asS (r.take (segN r)) = T1 at hx1 hcat hzz
      clear hT1
      generalize hK : segN r = K at HSA hsl HST HLN HM hseg1 hx1 hx2 hcat
      clear hK
      go_wp2_with fail
      refine (D1.out _).mono ?_
      rintro e W1 ⟨rfl, rfl⟩
      go_wp2_with fail
      refine (D2.out _).mono ?_
      rintro e W2 ⟨rfl, rfl⟩
      go_wp2_with fail
      refine (D3.out _).mono ?_
      rintro e W3 ⟨rfl, rfl⟩
      go_wp2_with fail
      refine (D5.out _).mono ?_
      rintro e W5 ⟨rfl, rfl⟩
      have hrS : r.length = S.size := hsz.symm
      have HRS := hid hrS
      have hS4 : S.size ≤ 4000 := by omega
      have hKS : K ≤ S.size := by omega
      clear hrS hsz hsl
      go_wp2_with fail
      go_loop [6] (fun i => ∃ j : Nat, 1 ≤ j ∧ j ≤ K ∧ i = .int .i64 (j : Int)) (fun i => S.size - (intOf i).toNat)
      case atStart => exact ⟨1, Nat.le_refl _, hseg1, rfl⟩
      case round =>
        obtain ⟨j, hj1, hjK, rfl⟩ := hrel
        have HSJ := hid (HSA.out j hj1)
        by_cases hlt : j < K
        · have hi : (j : Int) < (S.size : Int) := by omega
          have hix := HIX.out j (by have := HRS.out; omega)
          have hne := HSJ.out.1 hlt
          have hq := u8_int (r.getD j 0) 47
          rw [show ((47 : UInt8).toNat : Int) = 47 from rfl, decide_eq_false hne] at hq
          generalize r.getD j 0 = c at hix hq
          clear hne HSJ
          go_wp2_with fail
          go_round
          case rel => exact ⟨j + 1, by omega, by omega, by go_num⟩
          case measure => simp [intOf]; omega
        · obtain rfl : j = K := by omega
          have hKI : (j : Int) ≤ (S.size : Int) := by omega
          by_cases hend : j < S.size
          · have hi : (j : Int) < (S.size : Int) := by omega
            have hix := HIX.out j (by have := HRS.out; omega)
            have hne := HSJ.out.2 rfl (by have := HRS.out; omega)
            have hq := u8_int (r.getD j 0) 47
            rw [show ((47 : UInt8).toNat : Int) = 47 from rfl, decide_eq_true hne] at hq
            generalize r.getD j 0 = c at hix hq
            clear hne HSJ hlt hend
            go_wp2_with fail
            go_round
            case rel => exact ⟨r.drop j, o ++ r.take j, k + 1, rfl, rfl, by go_num, by have := HLN.out; omega, by have := HLN.out.2; omega, HST⟩
            case measure => exact HM.out HLN.out.1
          · have hi : ¬ (j : Int) < (S.size : Int) := by omega
            clear HSJ hlt hend
            go_wp2_with fail
            go_round
            case rel => exact ⟨r.drop j, o ++ r.take j, k + 1, rfl, rfl, by go_num, by have := HLN.out; omega, by have := HLN.out.2; omega, HST⟩
            case measure => exact HM.out HLN.out.1
end Go.Proofs.YtlblefcmilfjdaaGreatDoor
