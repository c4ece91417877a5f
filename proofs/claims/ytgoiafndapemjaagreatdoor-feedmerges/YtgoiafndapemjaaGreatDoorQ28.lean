import Derived.Test.YtgoiafndapemjaaGreatDoorQ27
set_option linter.unusedVariables false
set_option linter.unusedSimpArgs false
set_option maxHeartbeats 1000000
namespace Go.Proofs.YtgoiafndapemjaaGreatDoor
open Go.RowKit Go.BigFrame
def fD : List (List UInt8) := [[48], [48, 48]]
def fY : List (List UInt8) := [[48, 48], [48, 48, 48, 48]]
def fC : List (List UInt8) := [[48, 48, 58, 48, 48], [48, 48, 58, 48, 48, 58, 48, 48]]
def clk8 (c : List UInt8) : List UInt8 := if c.length < 8 then c ++ [58, 48, 48] else c
def timeW (d m y c z : List UInt8) : Option Int :=
 if fD.any (isOfL d) = true ∧ fY.any (isOfL y) = true ∧ fC.any (isOfL c) = true then
  (match z822 z with
  | none => none
  | some a => timeV (fullY y) (monOf m) (numD d) (clk8 c) a)
 else none
def p822W (ws : List (List UInt8)) : Option Int := match ws with
 | [d, m, y, c, z] => timeW d m y c z
 | _ => none
def dropDay (ws : List (List UInt8)) : List (List UInt8) := match ws with
 | x :: r => if isDayN x then r else x :: r
 | [] => []
def lowW (l : List UInt8) : List (List UInt8) := splitW (l.map lowB) []
def p822 (l : List UInt8) : Option Int := p822W (dropDay (lowW l))
theorem p822W_no {ws : List (List UInt8)} (h : ws.length ≠ 5) : p822W ws = none := by
 unfold p822W
 split
 ·simp at h
 ·rfl
theorem isOf_app {s f s2 f2 : List UInt8} (h : isOfL s f = true) (h2 : isOfL s2 f2 = true) : isOfL (s ++ s2) (f ++ f2) = true := by
 induction s generalizing f with
 | nil => cases f with
  | nil => exact h2
  | cons x f => simp [isOfL] at h
 | cons c s ih => cases f with
  | nil => simp [isOfL] at h
  | cons x f =>
   rw [isOfL, Bool.and_eq_true] at h
   rw [List.cons_append, List.cons_append, isOfL, Bool.and_eq_true]
   exact ⟨h.1, ih h.2⟩
theorem clk8_of {c : List UInt8} (h : fC.any (isOfL c) = true) : isOfL (clk8 c) clkF = true ∧ c.length ≤ 8 ∧ (c.length < 8 ∨ clk8 c = c) := by
 simp only [fC, List.any_cons, List.any_nil, Bool.or_false, Bool.or_eq_true] at h
 unfold clk8
 rcases h with h | h
 ·have hl := isOf_len _ _ h
  simp at hl
  rw [if_pos (by omega)]
  exact ⟨isOf_app (f2 := [58, 48, 48]) h (by decide), by omega, .inl (by omega)⟩
 ·have hl := isOf_len _ _ h
  simp at hl
  rw [if_neg (by omega)]
  exact ⟨h, by omega, .inr rfl⟩
theorem fD_of {d : List UInt8} (h : fD.any (isOfL d) = true) : d.length ≤ 4 ∧ ∀ c ∈ d, digB c = true := by
 have key : ∀ f, isOfL d f = true → f.length ≤ 4 → (∀ j, j < f.length → f.getD (0 + j) 0 = 48) → d.length ≤ 4 ∧ ∀ c ∈ d, digB c = true := by
  intro f hf h4 h1
  have hl := isOf_len _ _ hf
  refine ⟨by omega, ?_⟩
  have := isOf_digs hf 0 f.length h1 (by omega)
  rwa [List.drop_zero, List.take_of_length_le (by omega)] at this
 simp only [fD, List.any_cons, List.any_nil, Bool.or_false, Bool.or_eq_true] at h
 rcases h with h | h
 ·exact key _ h (by decide) (by decide)
 ·exact key _ h (by decide) (by decide)
theorem fY_of {d : List UInt8} (h : fY.any (isOfL d) = true) : d.length ≤ 4 ∧ ∀ c ∈ d, digB c = true := by
 have key : ∀ f, isOfL d f = true → f.length ≤ 4 → (∀ j, j < f.length → f.getD (0 + j) 0 = 48) → d.length ≤ 4 ∧ ∀ c ∈ d, digB c = true := by
  intro f hf h4 h1
  have hl := isOf_len _ _ hf
  refine ⟨by omega, ?_⟩
  have := isOf_digs hf 0 f.length h1 (by omega)
  rwa [List.drop_zero, List.take_of_length_le (by omega)] at this
 simp only [fY, List.any_cons, List.any_nil, Bool.or_false, Bool.or_eq_true] at h
 rcases h with h | h
 ·exact key _ h (by decide) (by decide)
 ·exact key _ h (by decide) (by decide)
theorem low_words (l : List UInt8) (hl : l.length ≤ 100000) (w : World) : Calls Tryz.prog 80 #[.string (asS (l.map lowB))] w fun e w' => ∃ v, e = .returned v ∧ w'.ownsRow w.heap.size 9 1 v (lowW l).length (strs (lowW l)) ∧ Below w.heap.size w w' := by
 have h := words_any (asS (l.map lowB)) w (by rw [asS_size, List.length_map]; omega)
 have e : wordsOf (asS (l.map lowB)) = (lowW l).map asS := wordsOf_eq _
 rw [e, List.length_map, List.map_map] at h
 exact h
theorem low_le (l : List UInt8) (x : List UInt8) (h : x ∈ lowW l) : x.length ≤ l.length := by
 have h1 : asS x ∈ wordsOf (asS (l.map lowB)) := by
  rw [wordsOf_eq]
  exact List.mem_map_of_mem h
 have h2 := wordsFrom_mem _ _ _ _ _ h1
 rw [asS_size, asS_size, List.length_map] at h2
 exact h2
theorem own_words {w : World} {B : Nat} {v : Value} {x : List UInt8} {r : List (List UInt8)} (h : w.ownsRow B 9 1 v (x :: r).length (strs (x :: r))) : ∃ g cap, v = .slice (some ⟨g, 0, none⟩) (r.length + 1) cap ∧ r.length + 1 ≤ cap ∧ ∀ j, j < (x :: r).length → w.cell? ⟨g, j, none⟩ = some (.string (asS ((x :: r).getD j []))) := by
 rcases h.2 with ⟨hv, hn⟩ | ⟨g, cap, cur, hv, hg, hh, hcap, _, _, _⟩
 ·simp at hn
 ·refine ⟨g, cap, hv, hcap, fun j hj => ?_⟩
  rw [hv] at h
  rw [h.cellAt j (by simpa using hj)]
  unfold strs
  rw [List.getElem?_map, List.getElem?_eq_getElem hj, List.getD_eq_getElem?_getD, List.getElem?_eq_getElem hj]; rfl
theorem own_none {w : World} {B : Nat} {v : Value} (h : w.ownsRow B 9 1 v ([] : List (List UInt8)).length (strs [])) : ∃ a cap, v = .slice a 0 cap := by
 rcases h.2 with ⟨hv, hn⟩ | ⟨g, cap, cur, hv, hg, hh, hcap, _, _, _⟩
 ·exact ⟨_, _, hv⟩
 ·exact ⟨_, _, hv⟩
set_option maxHeartbeats 4000000 in
set_option maxRecDepth 1000000 in
theorem p822_any (l : List UInt8) (hl : l.length ≤ 100000) (w : World) (hT : TabD w) : Calls Tryz.prog 153 #[.string (asS l)] w fun e w' => e = .returned (optT (p822 l)) ∧ Below w.heap.size w w' := by
 have HLO := hid (fun W => lower_any l W (by omega))
 have HWD := hid (fun W => low_words l hl W)
 have HLE : Hid (∀ x ∈ lowW l, x.length ≤ 100000) := fun x h => Nat.le_trans (low_le l x h) hl
 have HTT := hid hT
 unfold p822
 generalize lowW l = ws at *
 generalize asS (l.map lowB) = ls at *
 generalize asS l = s0 at *
 clear hT
 cases ws with
 | nil =>
  show Calls Tryz.prog 153 #[.string s0] w fun e w' => e = .returned (optT none) ∧ Below w.heap.size w w'
  go_enter Tryz.func153, Tryz.ntmps153
  go_wp2_with (first
   | (go_at_call 172; refine (HLO.out _).mono ?_; rintro e w1 ⟨rfl, hb1⟩)
   | (go_at_call 80; refine (HWD.out _).mono ?_; rintro e w2 ⟨v, rfl, hown, hb2⟩; obtain ⟨ad, cap, rfl⟩ := own_none hown; clear hown)
   | fail)
  go_ret2
  exact ⟨rfl, b_two hb1 hb2⟩
 | cons x r =>
  have HDN := hid (fun W h => isDayN_any x W h)
  have hdd : dropDay (x :: r) = if isDayN x then r else x :: r := rfl
  rw [hdd]
  clear hdd
  generalize isDayN x = b at HDN
  cases b with
  | false =>
   rw [if_neg (by simp)]
   by_cases h4 : r.length = 4
   ·obtain ⟨m, y, c, z, rfl⟩ : ∃ m y c z, r = [m, y, c, z] := by
     match r, h4 with
     | [m, y, c, z], _ => exact ⟨m, y, c, z, rfl⟩
    clear h4
    have hdl : x.length ≤ 100000 := HLE.out x (by simp)
    have hyl : y.length ≤ 100000 := HLE.out y (by simp)
    have hcl : c.length ≤ 100000 := HLE.out c (by simp)
    have hzl : z.length ≤ 100000 := HLE.out z (by simp)
    clear HLE
    show Calls Tryz.prog 153 #[.string s0] w fun e w' => e = .returned (optT (timeW x m y c z)) ∧ Below w.heap.size w w'
    unfold timeW
    have HF1 := hid (fun g cap W hc => fits_any x fD g cap (by omega) (by decide) (by decide) W hc)
    have HF2 := hid (fun g cap W hc => fits_any y fY g cap (by omega) (by decide) (by decide) W hc)
    have HF3 := hid (fun g cap W hc => fits_any c fC g cap (by omega) (by decide) (by decide) W hc)
    have HC1 := hid (fun W t => two_cells W [48] [48, 48] t W.heap.size rfl fD rfl)
    have HC2 := hid (fun W t => two_cells W [48, 48] [48, 48, 48, 48] t W.heap.size rfl fY rfl)
    have HC3 := hid (fun W t => two_cells W [48, 48, 58, 48, 48] [48, 48, 58, 48, 48, 58, 48, 48] t W.heap.size rfl fC rfl)
    have HFD : Hid (fD.any (isOfL x) = true → x.length ≤ 4 ∧ ∀ c ∈ x, digB c = true) := fun h => fD_of h
    have HFY : Hid (fY.any (isOfL y) = true → y.length ≤ 4 ∧ ∀ c ∈ y, digB c = true) := fun h => fY_of h
    have HFC : Hid (fC.any (isOfL c) = true → isOfL (clk8 c) clkF = true ∧ c.length ≤ 8 ∧ (c.length < 8 ∨ clk8 c = c)) := fun h => clk8_of h
    generalize fD.any (isOfL x) = b1 at *
    generalize fY.any (isOfL y) = b2 at *
    generalize fC.any (isOfL c) = b3 at *
    cases b1 with
    | false =>
     rw [if_neg (fun h => by simp at h)]
     go_enter Tryz.func153, Tryz.ntmps153
     go_wp2_with (first
      | (go_at_call 172; refine (HLO.out _).mono ?_; rintro e w1 ⟨rfl, hb1⟩)
      | (go_at_call 80; refine (HWD.out _).mono ?_; rintro e w2 ⟨v, rfl, hown, hb2⟩; obtain ⟨g, cap, rfl, hcap, hcs⟩ := own_words hown; clear hown; (have k0 := hcs 0 (by simp)); (have k1 := hcs 1 (by simp)); (have k2 := hcs 2 (by simp)); (have k3 := hcs 3 (by simp)); (have k4 := hcs 4 (by simp)); (change _ = some (Value.string (asS x)) at k0); (change _ = some (Value.string (asS m)) at k1); (change _ = some (Value.string (asS y)) at k2); (change _ = some (Value.string (asS c)) at k3); (change _ = some (Value.string (asS z)) at k4); (change 5 ≤ cap at hcap); clear hcs; generalize asS x = sx at *; generalize asS m = sm at *; generalize asS y = sy at *; generalize asS c = sc at *; generalize asS z = sz at *; (have HT2 := hid (HTT.out.below (b_two hb1 hb2))); (have HB2 := hid (b_two hb1 hb2)); clear hb1 hb2)
      | (go_at_call 178; refine (HDN.out _ HT2.out).mono ?_; rintro e w3 ⟨rfl, rfl⟩)
      | fail)
     go_quiet (fail)
     have HB3 := hid (below_drewN w3.heap.size w3 nq)
     have k4b := cell_below HB3.out k4
     have HT3 := hid (HT2.out.below HB3.out)
     generalize w3.drewN nq = W3 at HB3 k4b HT3 ⊢
     clear k0 k1 k2 k3 k4 HT2 HTT
     go_wp2_with (first
      | (go_at_call_of 173 (Value.string sx); refine (HF1.out _ _ _ (HC1.out _ _)).mono ?_; rintro e w4 ⟨rfl, hb4⟩; (have HB4 := hid (b_alloc (Below.refl _ W3) hb4)); clear hb4)
      | fail)
     go_ret2
     exact ⟨rfl, b_two (b_two HB2.out HB3.out) HB4.out⟩
    | true =>
     obtain ⟨e4, ed⟩ := HFD.out rfl
     have HNU := hid (fun W => number_any x e4 ed W)
     clear e4 ed HFD
     cases b2 with
     | false =>
      rw [if_neg (fun h => by simp at h)]
      go_enter Tryz.func153, Tryz.ntmps153
      go_wp2_with (first
       | (go_at_call 172; refine (HLO.out _).mono ?_; rintro e w1 ⟨rfl, hb1⟩)
       | (go_at_call 80; refine (HWD.out _).mono ?_; rintro e w2 ⟨v, rfl, hown, hb2⟩; obtain ⟨g, cap, rfl, hcap, hcs⟩ := own_words hown; clear hown; (have k0 := hcs 0 (by simp)); (have k1 := hcs 1 (by simp)); (have k2 := hcs 2 (by simp)); (have k3 := hcs 3 (by simp)); (have k4 := hcs 4 (by simp)); (change _ = some (Value.string (asS x)) at k0); (change _ = some (Value.string (asS m)) at k1); (change _ = some (Value.string (asS y)) at k2); (change _ = some (Value.string (asS c)) at k3); (change _ = some (Value.string (asS z)) at k4); (change 5 ≤ cap at hcap); clear hcs; generalize asS x = sx at *; generalize asS m = sm at *; generalize asS y = sy at *; generalize asS c = sc at *; generalize asS z = sz at *; (have HT2 := hid (HTT.out.below (b_two hb1 hb2))); (have HB2 := hid (b_two hb1 hb2)); clear hb1 hb2)
       | (go_at_call 178; refine (HDN.out _ HT2.out).mono ?_; rintro e w3 ⟨rfl, rfl⟩)
       | fail)
      go_quiet (fail)
      have HB3 := hid (below_drewN w3.heap.size w3 nq)
      have k4b := cell_below HB3.out k4
      have HT3 := hid (HT2.out.below HB3.out)
      generalize w3.drewN nq = W3 at HB3 k4b HT3 ⊢
      clear k0 k1 k2 k3 k4 HT2 HTT
      go_wp2_with (first
       | (go_at_call_of 173 (Value.string sx); refine (HF1.out _ _ _ (HC1.out _ _)).mono ?_; rintro e w4 ⟨rfl, hb4⟩; (have HB4 := hid (b_alloc (Below.refl _ W3) hb4)); clear hb4)
       | (go_at_call_of 173 (Value.string sy); refine (HF2.out _ _ _ (HC2.out _ _)).mono ?_; rintro e w5 ⟨rfl, hb5⟩; (have HB5 := hid (b_alloc HB4.out hb5)); clear hb5)
       | fail)
      go_ret2
      exact ⟨rfl, b_two (b_two HB2.out HB3.out) HB5.out⟩
     | true =>
      obtain ⟨e4, ed⟩ := HFY.out rfl
      have HFU := hid (fun W => fullY_any y e4 ed W)
      clear e4 ed HFY
      cases b3 with
      | false =>
       rw [if_neg (fun h => by simp at h)]
       go_enter Tryz.func153, Tryz.ntmps153
       go_wp2_with (first
        | (go_at_call 172; refine (HLO.out _).mono ?_; rintro e w1 ⟨rfl, hb1⟩)
        | (go_at_call 80; refine (HWD.out _).mono ?_; rintro e w2 ⟨v, rfl, hown, hb2⟩; obtain ⟨g, cap, rfl, hcap, hcs⟩ := own_words hown; clear hown; (have k0 := hcs 0 (by simp)); (have k1 := hcs 1 (by simp)); (have k2 := hcs 2 (by simp)); (have k3 := hcs 3 (by simp)); (have k4 := hcs 4 (by simp)); (change _ = some (Value.string (asS x)) at k0); (change _ = some (Value.string (asS m)) at k1); (change _ = some (Value.string (asS y)) at k2); (change _ = some (Value.string (asS c)) at k3); (change _ = some (Value.string (asS z)) at k4); (change 5 ≤ cap at hcap); clear hcs; generalize asS x = sx at *; generalize asS m = sm at *; generalize asS y = sy at *; generalize asS c = sc at *; generalize asS z = sz at *; (have HT2 := hid (HTT.out.below (b_two hb1 hb2))); (have HB2 := hid (b_two hb1 hb2)); clear hb1 hb2)
        | (go_at_call 178; refine (HDN.out _ HT2.out).mono ?_; rintro e w3 ⟨rfl, rfl⟩)
        | fail)
       go_quiet (fail)
       have HB3 := hid (below_drewN w3.heap.size w3 nq)
       have k4b := cell_below HB3.out k4
       have HT3 := hid (HT2.out.below HB3.out)
       generalize w3.drewN nq = W3 at HB3 k4b HT3 ⊢
       clear k0 k1 k2 k3 k4 HT2 HTT
       go_wp2_with (first
        | (go_at_call_of 173 (Value.string sx); refine (HF1.out _ _ _ (HC1.out _ _)).mono ?_; rintro e w4 ⟨rfl, hb4⟩; (have HB4 := hid (b_alloc (Below.refl _ W3) hb4)); clear hb4)
        | (go_at_call_of 173 (Value.string sy); refine (HF2.out _ _ _ (HC2.out _ _)).mono ?_; rintro e w5 ⟨rfl, hb5⟩; (have HB5 := hid (b_alloc HB4.out hb5)); clear hb5)
        | (go_at_call_of 173 (Value.string sc); refine (HF3.out _ _ _ (HC3.out _ _)).mono ?_; rintro e w6 ⟨rfl, hb6⟩; (have HB6 := hid (b_alloc HB5.out hb6)); (have k4c := cell_below HB6.out k4b); clear hb6)
        | fail)
       go_ret2
       exact ⟨rfl, b_two (b_two HB2.out HB3.out) HB6.out⟩
      | true =>
       rw [if_pos ⟨rfl, rfl, rfl⟩]
       obtain ⟨ek, e8, ec⟩ := HFC.out rfl
       have HZO := hid (fun W => z822_any z (by omega) W)
       have HZB : Hid (∀ a, z822 z = some a → -90000 ≤ a ∧ a ≤ 90000) := fun a h => z822_bound h
       have HTJ := hid (fun Y M D a (ha : -90000 ≤ a ∧ a ≤ 90000) W => timeOf_any Y M D (clk8 c) a ha ek W)
       have HMO := hid (fun W h => monthOf_any m W h)
       clear HFC ek
       generalize z822 z = Z at *
       cases Z with
       | none =>
        show Calls Tryz.prog 153 #[.string s0] w fun e w' => e = .returned (optT none) ∧ Below w.heap.size w w'
        go_enter Tryz.func153, Tryz.ntmps153
        go_wp2_with (first
         | (go_at_call 172; refine (HLO.out _).mono ?_; rintro e w1 ⟨rfl, hb1⟩)
         | (go_at_call 80; refine (HWD.out _).mono ?_; rintro e w2 ⟨v, rfl, hown, hb2⟩; obtain ⟨g, cap, rfl, hcap, hcs⟩ := own_words hown; clear hown; (have k0 := hcs 0 (by simp)); (have k1 := hcs 1 (by simp)); (have k2 := hcs 2 (by simp)); (have k3 := hcs 3 (by simp)); (have k4 := hcs 4 (by simp)); (change _ = some (Value.string (asS x)) at k0); (change _ = some (Value.string (asS m)) at k1); (change _ = some (Value.string (asS y)) at k2); (change _ = some (Value.string (asS c)) at k3); (change _ = some (Value.string (asS z)) at k4); (change 5 ≤ cap at hcap); clear hcs; generalize asS x = sx at *; generalize asS m = sm at *; generalize asS y = sy at *; generalize asS c = sc at *; generalize asS z = sz at *; (have HT2 := hid (HTT.out.below (b_two hb1 hb2))); (have HB2 := hid (b_two hb1 hb2)); clear hb1 hb2)
         | (go_at_call 178; refine (HDN.out _ HT2.out).mono ?_; rintro e w3 ⟨rfl, rfl⟩)
         | fail)
        go_quiet (fail)
        have HB3 := hid (below_drewN w3.heap.size w3 nq)
        have k4b := cell_below HB3.out k4
        have HT3 := hid (HT2.out.below HB3.out)
        generalize w3.drewN nq = W3 at HB3 k4b HT3 ⊢
        clear k0 k1 k2 k3 k4 HT2 HTT
        go_wp2_with (first
         | (go_at_call_of 173 (Value.string sx); refine (HF1.out _ _ _ (HC1.out _ _)).mono ?_; rintro e w4 ⟨rfl, hb4⟩; (have HB4 := hid (b_alloc (Below.refl _ W3) hb4)); clear hb4)
         | (go_at_call_of 173 (Value.string sy); refine (HF2.out _ _ _ (HC2.out _ _)).mono ?_; rintro e w5 ⟨rfl, hb5⟩; (have HB5 := hid (b_alloc HB4.out hb5)); clear hb5)
         | (go_at_call_of 173 (Value.string sc); refine (HF3.out _ _ _ (HC3.out _ _)).mono ?_; rintro e w6 ⟨rfl, hb6⟩; (have HB6 := hid (b_alloc HB5.out hb6)); (have k4c := cell_below HB6.out k4b); clear hb6)
         | (go_at_call 179; refine (HZO.out _).mono ?_; rintro e w7 ⟨rfl, hb7⟩; unfold optV; (have HB7 := hid (b_two HB6.out hb7)); clear hb7)
         | fail)
        go_ret2
        exact ⟨rfl, b_two (b_two HB2.out HB3.out) HB7.out⟩
       | some a =>
        show Calls Tryz.prog 153 #[.string s0] w fun e w' => e = .returned (optT (timeV (fullY y) (monOf m) (numD x) (clk8 c) a)) ∧ Below w.heap.size w w'
        have HTI := hid (HTJ.out (fullY y) (monOf m) (numD x) a (HZB.out a rfl))
        generalize timeV (fullY y) (monOf m) (numD x) (clk8 c) a = R at *
        generalize fullY y = Y at *
        generalize monOf m = M at *
        generalize numD x = N at *
        by_cases hc8 : c.length < 8
        ·have hck : asS c ++ ⟨#[58, 48, 48]⟩ = asS (clk8 c) := by unfold clk8; rw [if_pos hc8]; exact asS_app c [58, 48, 48]
         have hcs8 : ((asS c).size : Int) < 8 := by rw [asS_size]; omega
         have hcn : ¬ (9223372036854775807 < (asS c).size + 3) := by rw [asS_size]; omega
         generalize asS (clk8 c) = s8 at *
         clear HTJ HZB ec
         cases R
         ·go_enter Tryz.func153, Tryz.ntmps153
          go_wp2_with (first
           | (go_at_call 172; refine (HLO.out _).mono ?_; rintro e w1 ⟨rfl, hb1⟩)
           | (go_at_call 80; refine (HWD.out _).mono ?_; rintro e w2 ⟨v, rfl, hown, hb2⟩; obtain ⟨g, cap, rfl, hcap, hcs⟩ := own_words hown; clear hown; (have k0 := hcs 0 (by simp)); (have k1 := hcs 1 (by simp)); (have k2 := hcs 2 (by simp)); (have k3 := hcs 3 (by simp)); (have k4 := hcs 4 (by simp)); (change _ = some (Value.string (asS x)) at k0); (change _ = some (Value.string (asS m)) at k1); (change _ = some (Value.string (asS y)) at k2); (change _ = some (Value.string (asS c)) at k3); (change _ = some (Value.string (asS z)) at k4); (change 5 ≤ cap at hcap); clear hcs; generalize asS x = sx at *; generalize asS m = sm at *; generalize asS y = sy at *; generalize asS c = sc at *; generalize asS z = sz at *; (have HT2 := hid (HTT.out.below (b_two hb1 hb2))); (have HB2 := hid (b_two hb1 hb2)); clear hb1 hb2)
           | (go_at_call 178; refine (HDN.out _ HT2.out).mono ?_; rintro e w3 ⟨rfl, rfl⟩)
           | fail)
          go_quiet (fail)
          have HB3 := hid (below_drewN w3.heap.size w3 nq)
          have k4b := cell_below HB3.out k4
          have HT3 := hid (HT2.out.below HB3.out)
          generalize w3.drewN nq = W3 at HB3 k4b HT3 ⊢
          clear k0 k1 k2 k3 k4 HT2 HTT
          go_wp2_with (first
           | (go_at_call_of 173 (Value.string sx); refine (HF1.out _ _ _ (HC1.out _ _)).mono ?_; rintro e w4 ⟨rfl, hb4⟩; (have HB4 := hid (b_alloc (Below.refl _ W3) hb4)); clear hb4)
           | (go_at_call_of 173 (Value.string sy); refine (HF2.out _ _ _ (HC2.out _ _)).mono ?_; rintro e w5 ⟨rfl, hb5⟩; (have HB5 := hid (b_alloc HB4.out hb5)); clear hb5)
           | (go_at_call_of 173 (Value.string sc); refine (HF3.out _ _ _ (HC3.out _ _)).mono ?_; rintro e w6 ⟨rfl, hb6⟩; (have HB6 := hid (b_alloc HB5.out hb6)); (have k4c := cell_below HB6.out k4b); clear hb6)
           | (go_at_call 179; refine (HZO.out _).mono ?_; rintro e w7 ⟨rfl, hb7⟩; unfold optV; (have HB7 := hid (b_two HB6.out hb7)); clear hb7)
           | (go_at_call 180; refine (HFU.out _).mono ?_; rintro e w8 ⟨rfl, hb8⟩; (have HB8 := hid (b_two HB7.out hb8)); (have HT8 := hid (HT3.out.below HB8.out)); clear hb8)
           | (go_at_call 181; refine (HMO.out _ HT8.out).mono ?_; rintro e w9 ⟨rfl, rfl⟩)
           | (go_at_call 177; refine (HNU.out _).mono ?_; rintro e wa ⟨rfl, hba⟩; (have HBa := hid (b_two HB8.out hba)); clear hba)
           | (go_at_call 176; refine (HTI.out _).mono ?_; rintro e wb ⟨rfl, hbb⟩; unfold optT; (have HBb := hid (b_two HBa.out hbb)); clear hbb)
           | fail)
          go_ret2
          exact ⟨rfl, b_two (b_two HB2.out HB3.out) HBb.out⟩
         ·go_enter Tryz.func153, Tryz.ntmps153
          go_wp2_with (first
           | (go_at_call 172; refine (HLO.out _).mono ?_; rintro e w1 ⟨rfl, hb1⟩)
           | (go_at_call 80; refine (HWD.out _).mono ?_; rintro e w2 ⟨v, rfl, hown, hb2⟩; obtain ⟨g, cap, rfl, hcap, hcs⟩ := own_words hown; clear hown; (have k0 := hcs 0 (by simp)); (have k1 := hcs 1 (by simp)); (have k2 := hcs 2 (by simp)); (have k3 := hcs 3 (by simp)); (have k4 := hcs 4 (by simp)); (change _ = some (Value.string (asS x)) at k0); (change _ = some (Value.string (asS m)) at k1); (change _ = some (Value.string (asS y)) at k2); (change _ = some (Value.string (asS c)) at k3); (change _ = some (Value.string (asS z)) at k4); (change 5 ≤ cap at hcap); clear hcs; generalize asS x = sx at *; generalize asS m = sm at *; generalize asS y = sy at *; generalize asS c = sc at *; generalize asS z = sz at *; (have HT2 := hid (HTT.out.below (b_two hb1 hb2))); (have HB2 := hid (b_two hb1 hb2)); clear hb1 hb2)
           | (go_at_call 178; refine (HDN.out _ HT2.out).mono ?_; rintro e w3 ⟨rfl, rfl⟩)
           | fail)
          go_quiet (fail)
          have HB3 := hid (below_drewN w3.heap.size w3 nq)
          have k4b := cell_below HB3.out k4
          have HT3 := hid (HT2.out.below HB3.out)
          generalize w3.drewN nq = W3 at HB3 k4b HT3 ⊢
          clear k0 k1 k2 k3 k4 HT2 HTT
          go_wp2_with (first
           | (go_at_call_of 173 (Value.string sx); refine (HF1.out _ _ _ (HC1.out _ _)).mono ?_; rintro e w4 ⟨rfl, hb4⟩; (have HB4 := hid (b_alloc (Below.refl _ W3) hb4)); clear hb4)
           | (go_at_call_of 173 (Value.string sy); refine (HF2.out _ _ _ (HC2.out _ _)).mono ?_; rintro e w5 ⟨rfl, hb5⟩; (have HB5 := hid (b_alloc HB4.out hb5)); clear hb5)
           | (go_at_call_of 173 (Value.string sc); refine (HF3.out _ _ _ (HC3.out _ _)).mono ?_; rintro e w6 ⟨rfl, hb6⟩; (have HB6 := hid (b_alloc HB5.out hb6)); (have k4c := cell_below HB6.out k4b); clear hb6)
           | (go_at_call 179; refine (HZO.out _).mono ?_; rintro e w7 ⟨rfl, hb7⟩; unfold optV; (have HB7 := hid (b_two HB6.out hb7)); clear hb7)
           | (go_at_call 180; refine (HFU.out _).mono ?_; rintro e w8 ⟨rfl, hb8⟩; (have HB8 := hid (b_two HB7.out hb8)); (have HT8 := hid (HT3.out.below HB8.out)); clear hb8)
           | (go_at_call 181; refine (HMO.out _ HT8.out).mono ?_; rintro e w9 ⟨rfl, rfl⟩)
           | (go_at_call 177; refine (HNU.out _).mono ?_; rintro e wa ⟨rfl, hba⟩; (have HBa := hid (b_two HB8.out hba)); clear hba)
           | (go_at_call 176; refine (HTI.out _).mono ?_; rintro e wb ⟨rfl, hbb⟩; unfold optT; (have HBb := hid (b_two HBa.out hbb)); clear hbb)
           | fail)
          go_ret2
          exact ⟨rfl, b_two (b_two HB2.out HB3.out) HBb.out⟩
        ·have hck : asS (clk8 c) = asS c := by unfold clk8; rw [if_neg hc8]
         have hcs8 : ¬ ((asS c).size : Int) < 8 := by rw [asS_size]; omega
         rw [hck] at HTI
         clear HTJ HZB ec hck
         cases R
         ·go_enter Tryz.func153, Tryz.ntmps153
          go_wp2_with (first
           | (go_at_call 172; refine (HLO.out _).mono ?_; rintro e w1 ⟨rfl, hb1⟩)
           | (go_at_call 80; refine (HWD.out _).mono ?_; rintro e w2 ⟨v, rfl, hown, hb2⟩; obtain ⟨g, cap, rfl, hcap, hcs⟩ := own_words hown; clear hown; (have k0 := hcs 0 (by simp)); (have k1 := hcs 1 (by simp)); (have k2 := hcs 2 (by simp)); (have k3 := hcs 3 (by simp)); (have k4 := hcs 4 (by simp)); (change _ = some (Value.string (asS x)) at k0); (change _ = some (Value.string (asS m)) at k1); (change _ = some (Value.string (asS y)) at k2); (change _ = some (Value.string (asS c)) at k3); (change _ = some (Value.string (asS z)) at k4); (change 5 ≤ cap at hcap); clear hcs; generalize asS x = sx at *; generalize asS m = sm at *; generalize asS y = sy at *; generalize asS c = sc at *; generalize asS z = sz at *; (have HT2 := hid (HTT.out.below (b_two hb1 hb2))); (have HB2 := hid (b_two hb1 hb2)); clear hb1 hb2)
           | (go_at_call 178; refine (HDN.out _ HT2.out).mono ?_; rintro e w3 ⟨rfl, rfl⟩)
           | fail)
          go_quiet (fail)
          have HB3 := hid (below_drewN w3.heap.size w3 nq)
          have k4b := cell_below HB3.out k4
          have HT3 := hid (HT2.out.below HB3.out)
          generalize w3.drewN nq = W3 at HB3 k4b HT3 ⊢
          clear k0 k1 k2 k3 k4 HT2 HTT
          go_wp2_with (first
           | (go_at_call_of 173 (Value.string sx); refine (HF1.out _ _ _ (HC1.out _ _)).mono ?_; rintro e w4 ⟨rfl, hb4⟩; (have HB4 := hid (b_alloc (Below.refl _ W3) hb4)); clear hb4)
           | (go_at_call_of 173 (Value.string sy); refine (HF2.out _ _ _ (HC2.out _ _)).mono ?_; rintro e w5 ⟨rfl, hb5⟩; (have HB5 := hid (b_alloc HB4.out hb5)); clear hb5)
           | (go_at_call_of 173 (Value.string sc); refine (HF3.out _ _ _ (HC3.out _ _)).mono ?_; rintro e w6 ⟨rfl, hb6⟩; (have HB6 := hid (b_alloc HB5.out hb6)); (have k4c := cell_below HB6.out k4b); clear hb6)
           | (go_at_call 179; refine (HZO.out _).mono ?_; rintro e w7 ⟨rfl, hb7⟩; unfold optV; (have HB7 := hid (b_two HB6.out hb7)); clear hb7)
           | (go_at_call 180; refine (HFU.out _).mono ?_; rintro e w8 ⟨rfl, hb8⟩; (have HB8 := hid (b_two HB7.out hb8)); (have HT8 := hid (HT3.out.below HB8.out)); clear hb8)
           | (go_at_call 181; refine (HMO.out _ HT8.out).mono ?_; rintro e w9 ⟨rfl, rfl⟩)
           | (go_at_call 177; refine (HNU.out _).mono ?_; rintro e wa ⟨rfl, hba⟩; (have HBa := hid (b_two HB8.out hba)); clear hba)
           | (go_at_call 176; refine (HTI.out _).mono ?_; rintro e wb ⟨rfl, hbb⟩; unfold optT; (have HBb := hid (b_two HBa.out hbb)); clear hbb)
           | fail)
          go_ret2
          exact ⟨rfl, b_two (b_two HB2.out HB3.out) HBb.out⟩
         ·go_enter Tryz.func153, Tryz.ntmps153
          go_wp2_with (first
           | (go_at_call 172; refine (HLO.out _).mono ?_; rintro e w1 ⟨rfl, hb1⟩)
           | (go_at_call 80; refine (HWD.out _).mono ?_; rintro e w2 ⟨v, rfl, hown, hb2⟩; obtain ⟨g, cap, rfl, hcap, hcs⟩ := own_words hown; clear hown; (have k0 := hcs 0 (by simp)); (have k1 := hcs 1 (by simp)); (have k2 := hcs 2 (by simp)); (have k3 := hcs 3 (by simp)); (have k4 := hcs 4 (by simp)); (change _ = some (Value.string (asS x)) at k0); (change _ = some (Value.string (asS m)) at k1); (change _ = some (Value.string (asS y)) at k2); (change _ = some (Value.string (asS c)) at k3); (change _ = some (Value.string (asS z)) at k4); (change 5 ≤ cap at hcap); clear hcs; generalize asS x = sx at *; generalize asS m = sm at *; generalize asS y = sy at *; generalize asS c = sc at *; generalize asS z = sz at *; (have HT2 := hid (HTT.out.below (b_two hb1 hb2))); (have HB2 := hid (b_two hb1 hb2)); clear hb1 hb2)
           | (go_at_call 178; refine (HDN.out _ HT2.out).mono ?_; rintro e w3 ⟨rfl, rfl⟩)
           | fail)
          go_quiet (fail)
          have HB3 := hid (below_drewN w3.heap.size w3 nq)
          have k4b := cell_below HB3.out k4
          have HT3 := hid (HT2.out.below HB3.out)
          generalize w3.drewN nq = W3 at HB3 k4b HT3 ⊢
          clear k0 k1 k2 k3 k4 HT2 HTT
          go_wp2_with (first
           | (go_at_call_of 173 (Value.string sx); refine (HF1.out _ _ _ (HC1.out _ _)).mono ?_; rintro e w4 ⟨rfl, hb4⟩; (have HB4 := hid (b_alloc (Below.refl _ W3) hb4)); clear hb4)
           | (go_at_call_of 173 (Value.string sy); refine (HF2.out _ _ _ (HC2.out _ _)).mono ?_; rintro e w5 ⟨rfl, hb5⟩; (have HB5 := hid (b_alloc HB4.out hb5)); clear hb5)
           | (go_at_call_of 173 (Value.string sc); refine (HF3.out _ _ _ (HC3.out _ _)).mono ?_; rintro e w6 ⟨rfl, hb6⟩; (have HB6 := hid (b_alloc HB5.out hb6)); (have k4c := cell_below HB6.out k4b); clear hb6)
           | (go_at_call 179; refine (HZO.out _).mono ?_; rintro e w7 ⟨rfl, hb7⟩; unfold optV; (have HB7 := hid (b_two HB6.out hb7)); clear hb7)
           | (go_at_call 180; refine (HFU.out _).mono ?_; rintro e w8 ⟨rfl, hb8⟩; (have HB8 := hid (b_two HB7.out hb8)); (have HT8 := hid (HT3.out.below HB8.out)); clear hb8)
           | (go_at_call 181; refine (HMO.out _ HT8.out).mono ?_; rintro e w9 ⟨rfl, rfl⟩)
           | (go_at_call 177; refine (HNU.out _).mono ?_; rintro e wa ⟨rfl, hba⟩; (have HBa := hid (b_two HB8.out hba)); clear hba)
           | (go_at_call 176; refine (HTI.out _).mono ?_; rintro e wb ⟨rfl, hbb⟩; unfold optT; (have HBb := hid (b_two HBa.out hbb)); clear hbb)
           | fail)
          go_ret2
          exact ⟨rfl, b_two (b_two HB2.out HB3.out) HBb.out⟩
   ·rw [p822W_no (by simp; omega)]
    obtain ⟨n, hn⟩ : ∃ n, Hid (r.length = n) := ⟨_, rfl⟩
    have h5 : (((n : Int) + 1) != 5) = true := by rw [bne_iff_ne]; have := hn.out; omega
    have h0 : decide ((0 : Int) < (n : Int) + 1) = true := decide_eq_true (by omega)
    clear h4
    go_enter Tryz.func153, Tryz.ntmps153
    go_wp2_with (first
     | (go_at_call 172; refine (HLO.out _).mono ?_; rintro e w1 ⟨rfl, hb1⟩)
     | (go_at_call 80; refine (HWD.out _).mono ?_; rintro e w2 ⟨v, rfl, hown, hb2⟩; obtain ⟨g, cap, rfl, hcap, hcs⟩ := own_words hown; clear hown; (have hc0 := hcs 0 (by simp)); rw [hn.out] at hcap ⊢; clear hcs; (have HT2 := hid (HTT.out.below (b_two hb1 hb2))); (change _ = some (Value.string (asS x)) at hc0); generalize asS x = xs at *)
     | (go_at_call 178; refine (HDN.out _ HT2.out).mono ?_; rintro e w3 ⟨rfl, rfl⟩)
     | fail)
    go_ret2
    exact ⟨rfl, b_two hb1 hb2⟩
  | true =>
   rw [if_pos rfl]
   by_cases h4 : r.length = 5
   ·obtain ⟨d, m, y, c, z, rfl⟩ : ∃ d m y c z, r = [d, m, y, c, z] := by
     match r, h4 with
     | [d, m, y, c, z], _ => exact ⟨d, m, y, c, z, rfl⟩
    clear h4
    have hdl : d.length ≤ 100000 := HLE.out d (by simp)
    have hyl : y.length ≤ 100000 := HLE.out y (by simp)
    have hcl : c.length ≤ 100000 := HLE.out c (by simp)
    have hzl : z.length ≤ 100000 := HLE.out z (by simp)
    clear HLE
    show Calls Tryz.prog 153 #[.string s0] w fun e w' => e = .returned (optT (timeW d m y c z)) ∧ Below w.heap.size w w'
    unfold timeW
    have HF1 := hid (fun g cap W hc => fits_any d fD g cap (by omega) (by decide) (by decide) W hc)
    have HF2 := hid (fun g cap W hc => fits_any y fY g cap (by omega) (by decide) (by decide) W hc)
    have HF3 := hid (fun g cap W hc => fits_any c fC g cap (by omega) (by decide) (by decide) W hc)
    have HC1 := hid (fun W t => two_cells W [48] [48, 48] t W.heap.size rfl fD rfl)
    have HC2 := hid (fun W t => two_cells W [48, 48] [48, 48, 48, 48] t W.heap.size rfl fY rfl)
    have HC3 := hid (fun W t => two_cells W [48, 48, 58, 48, 48] [48, 48, 58, 48, 48, 58, 48, 48] t W.heap.size rfl fC rfl)
    have HFD : Hid (fD.any (isOfL d) = true → d.length ≤ 4 ∧ ∀ c ∈ d, digB c = true) := fun h => fD_of h
    have HFY : Hid (fY.any (isOfL y) = true → y.length ≤ 4 ∧ ∀ c ∈ y, digB c = true) := fun h => fY_of h
    have HFC : Hid (fC.any (isOfL c) = true → isOfL (clk8 c) clkF = true ∧ c.length ≤ 8 ∧ (c.length < 8 ∨ clk8 c = c)) := fun h => clk8_of h
    generalize fD.any (isOfL d) = b1 at *
    generalize fY.any (isOfL y) = b2 at *
    generalize fC.any (isOfL c) = b3 at *
    cases b1 with
    | false =>
     rw [if_neg (fun h => by simp at h)]
     go_enter Tryz.func153, Tryz.ntmps153
     go_wp2_with (first
      | (go_at_call 172; refine (HLO.out _).mono ?_; rintro e w1 ⟨rfl, hb1⟩)
      | (go_at_call 80; refine (HWD.out _).mono ?_; rintro e w2 ⟨v, rfl, hown, hb2⟩; obtain ⟨g, cap, rfl, hcap, hcs⟩ := own_words hown; clear hown; (have kx := hcs 0 (by simp)); (have k0 := hcs 1 (by simp)); (have k1 := hcs 2 (by simp)); (have k2 := hcs 3 (by simp)); (have k3 := hcs 4 (by simp)); (have k4 := hcs 5 (by simp)); (change _ = some (Value.string (asS x)) at kx); (change _ = some (Value.string (asS d)) at k0); (change _ = some (Value.string (asS m)) at k1); (change _ = some (Value.string (asS y)) at k2); (change _ = some (Value.string (asS c)) at k3); (change _ = some (Value.string (asS z)) at k4); (change 6 ≤ cap at hcap); clear hcs; generalize asS x = sx at *; generalize asS d = sd at *; generalize asS m = sm at *; generalize asS y = sy at *; generalize asS c = sc at *; generalize asS z = sz at *; (have HT2 := hid (HTT.out.below (b_two hb1 hb2))); (have HB2 := hid (b_two hb1 hb2)); clear hb1 hb2)
      | (go_at_call 178; refine (HDN.out _ HT2.out).mono ?_; rintro e w3 ⟨rfl, rfl⟩)
      | fail)
     go_quiet (fail)
     have HB3 := hid (below_drewN w3.heap.size w3 nq)
     have k4b := cell_below HB3.out k4
     have HT3 := hid (HT2.out.below HB3.out)
     generalize w3.drewN nq = W3 at HB3 k4b HT3 ⊢
     clear k0 k1 k2 k3 k4 HT2 HTT kx
     go_wp2_with (first
      | (go_at_call_of 173 (Value.string sd); refine (HF1.out _ _ _ (HC1.out _ _)).mono ?_; rintro e w4 ⟨rfl, hb4⟩; (have HB4 := hid (b_alloc (Below.refl _ W3) hb4)); clear hb4)
      | fail)
     go_ret2
     exact ⟨rfl, b_two (b_two HB2.out HB3.out) HB4.out⟩
    | true =>
     obtain ⟨e4, ed⟩ := HFD.out rfl
     have HNU := hid (fun W => number_any d e4 ed W)
     clear e4 ed HFD
     cases b2 with
     | false =>
      rw [if_neg (fun h => by simp at h)]
      go_enter Tryz.func153, Tryz.ntmps153
      go_wp2_with (first
       | (go_at_call 172; refine (HLO.out _).mono ?_; rintro e w1 ⟨rfl, hb1⟩)
       | (go_at_call 80; refine (HWD.out _).mono ?_; rintro e w2 ⟨v, rfl, hown, hb2⟩; obtain ⟨g, cap, rfl, hcap, hcs⟩ := own_words hown; clear hown; (have kx := hcs 0 (by simp)); (have k0 := hcs 1 (by simp)); (have k1 := hcs 2 (by simp)); (have k2 := hcs 3 (by simp)); (have k3 := hcs 4 (by simp)); (have k4 := hcs 5 (by simp)); (change _ = some (Value.string (asS x)) at kx); (change _ = some (Value.string (asS d)) at k0); (change _ = some (Value.string (asS m)) at k1); (change _ = some (Value.string (asS y)) at k2); (change _ = some (Value.string (asS c)) at k3); (change _ = some (Value.string (asS z)) at k4); (change 6 ≤ cap at hcap); clear hcs; generalize asS x = sx at *; generalize asS d = sd at *; generalize asS m = sm at *; generalize asS y = sy at *; generalize asS c = sc at *; generalize asS z = sz at *; (have HT2 := hid (HTT.out.below (b_two hb1 hb2))); (have HB2 := hid (b_two hb1 hb2)); clear hb1 hb2)
       | (go_at_call 178; refine (HDN.out _ HT2.out).mono ?_; rintro e w3 ⟨rfl, rfl⟩)
       | fail)
      go_quiet (fail)
      have HB3 := hid (below_drewN w3.heap.size w3 nq)
      have k4b := cell_below HB3.out k4
      have HT3 := hid (HT2.out.below HB3.out)
      generalize w3.drewN nq = W3 at HB3 k4b HT3 ⊢
      clear k0 k1 k2 k3 k4 HT2 HTT kx
      go_wp2_with (first
       | (go_at_call_of 173 (Value.string sd); refine (HF1.out _ _ _ (HC1.out _ _)).mono ?_; rintro e w4 ⟨rfl, hb4⟩; (have HB4 := hid (b_alloc (Below.refl _ W3) hb4)); clear hb4)
       | (go_at_call_of 173 (Value.string sy); refine (HF2.out _ _ _ (HC2.out _ _)).mono ?_; rintro e w5 ⟨rfl, hb5⟩; (have HB5 := hid (b_alloc HB4.out hb5)); clear hb5)
       | fail)
      go_ret2
      exact ⟨rfl, b_two (b_two HB2.out HB3.out) HB5.out⟩
     | true =>
      obtain ⟨e4, ed⟩ := HFY.out rfl
      have HFU := hid (fun W => fullY_any y e4 ed W)
      clear e4 ed HFY
      cases b3 with
      | false =>
       rw [if_neg (fun h => by simp at h)]
       go_enter Tryz.func153, Tryz.ntmps153
       go_wp2_with (first
        | (go_at_call 172; refine (HLO.out _).mono ?_; rintro e w1 ⟨rfl, hb1⟩)
        | (go_at_call 80; refine (HWD.out _).mono ?_; rintro e w2 ⟨v, rfl, hown, hb2⟩; obtain ⟨g, cap, rfl, hcap, hcs⟩ := own_words hown; clear hown; (have kx := hcs 0 (by simp)); (have k0 := hcs 1 (by simp)); (have k1 := hcs 2 (by simp)); (have k2 := hcs 3 (by simp)); (have k3 := hcs 4 (by simp)); (have k4 := hcs 5 (by simp)); (change _ = some (Value.string (asS x)) at kx); (change _ = some (Value.string (asS d)) at k0); (change _ = some (Value.string (asS m)) at k1); (change _ = some (Value.string (asS y)) at k2); (change _ = some (Value.string (asS c)) at k3); (change _ = some (Value.string (asS z)) at k4); (change 6 ≤ cap at hcap); clear hcs; generalize asS x = sx at *; generalize asS d = sd at *; generalize asS m = sm at *; generalize asS y = sy at *; generalize asS c = sc at *; generalize asS z = sz at *; (have HT2 := hid (HTT.out.below (b_two hb1 hb2))); (have HB2 := hid (b_two hb1 hb2)); clear hb1 hb2)
        | (go_at_call 178; refine (HDN.out _ HT2.out).mono ?_; rintro e w3 ⟨rfl, rfl⟩)
        | fail)
       go_quiet (fail)
       have HB3 := hid (below_drewN w3.heap.size w3 nq)
       have k4b := cell_below HB3.out k4
       have HT3 := hid (HT2.out.below HB3.out)
       generalize w3.drewN nq = W3 at HB3 k4b HT3 ⊢
       clear k0 k1 k2 k3 k4 HT2 HTT kx
       go_wp2_with (first
        | (go_at_call_of 173 (Value.string sd); refine (HF1.out _ _ _ (HC1.out _ _)).mono ?_; rintro e w4 ⟨rfl, hb4⟩; (have HB4 := hid (b_alloc (Below.refl _ W3) hb4)); clear hb4)
        | (go_at_call_of 173 (Value.string sy); refine (HF2.out _ _ _ (HC2.out _ _)).mono ?_; rintro e w5 ⟨rfl, hb5⟩; (have HB5 := hid (b_alloc HB4.out hb5)); clear hb5)
        | (go_at_call_of 173 (Value.string sc); refine (HF3.out _ _ _ (HC3.out _ _)).mono ?_; rintro e w6 ⟨rfl, hb6⟩; (have HB6 := hid (b_alloc HB5.out hb6)); (have k4c := cell_below HB6.out k4b); clear hb6)
        | fail)
       go_ret2
       exact ⟨rfl, b_two (b_two HB2.out HB3.out) HB6.out⟩
      | true =>
       rw [if_pos ⟨rfl, rfl, rfl⟩]
       obtain ⟨ek, e8, ec⟩ := HFC.out rfl
       have HZO := hid (fun W => z822_any z (by omega) W)
       have HZB : Hid (∀ a, z822 z = some a → -90000 ≤ a ∧ a ≤ 90000) := fun a h => z822_bound h
       have HTJ := hid (fun Y M D a (ha : -90000 ≤ a ∧ a ≤ 90000) W => timeOf_any Y M D (clk8 c) a ha ek W)
       have HMO := hid (fun W h => monthOf_any m W h)
       clear HFC ek
       generalize z822 z = Z at *
       cases Z with
       | none =>
        show Calls Tryz.prog 153 #[.string s0] w fun e w' => e = .returned (optT none) ∧ Below w.heap.size w w'
        go_enter Tryz.func153, Tryz.ntmps153
        go_wp2_with (first
         | (go_at_call 172; refine (HLO.out _).mono ?_; rintro e w1 ⟨rfl, hb1⟩)
         | (go_at_call 80; refine (HWD.out _).mono ?_; rintro e w2 ⟨v, rfl, hown, hb2⟩; obtain ⟨g, cap, rfl, hcap, hcs⟩ := own_words hown; clear hown; (have kx := hcs 0 (by simp)); (have k0 := hcs 1 (by simp)); (have k1 := hcs 2 (by simp)); (have k2 := hcs 3 (by simp)); (have k3 := hcs 4 (by simp)); (have k4 := hcs 5 (by simp)); (change _ = some (Value.string (asS x)) at kx); (change _ = some (Value.string (asS d)) at k0); (change _ = some (Value.string (asS m)) at k1); (change _ = some (Value.string (asS y)) at k2); (change _ = some (Value.string (asS c)) at k3); (change _ = some (Value.string (asS z)) at k4); (change 6 ≤ cap at hcap); clear hcs; generalize asS x = sx at *; generalize asS d = sd at *; generalize asS m = sm at *; generalize asS y = sy at *; generalize asS c = sc at *; generalize asS z = sz at *; (have HT2 := hid (HTT.out.below (b_two hb1 hb2))); (have HB2 := hid (b_two hb1 hb2)); clear hb1 hb2)
         | (go_at_call 178; refine (HDN.out _ HT2.out).mono ?_; rintro e w3 ⟨rfl, rfl⟩)
         | fail)
        go_quiet (fail)
        have HB3 := hid (below_drewN w3.heap.size w3 nq)
        have k4b := cell_below HB3.out k4
        have HT3 := hid (HT2.out.below HB3.out)
        generalize w3.drewN nq = W3 at HB3 k4b HT3 ⊢
        clear k0 k1 k2 k3 k4 HT2 HTT kx
        go_wp2_with (first
         | (go_at_call_of 173 (Value.string sd); refine (HF1.out _ _ _ (HC1.out _ _)).mono ?_; rintro e w4 ⟨rfl, hb4⟩; (have HB4 := hid (b_alloc (Below.refl _ W3) hb4)); clear hb4)
         | (go_at_call_of 173 (Value.string sy); refine (HF2.out _ _ _ (HC2.out _ _)).mono ?_; rintro e w5 ⟨rfl, hb5⟩; (have HB5 := hid (b_alloc HB4.out hb5)); clear hb5)
         | (go_at_call_of 173 (Value.string sc); refine (HF3.out _ _ _ (HC3.out _ _)).mono ?_; rintro e w6 ⟨rfl, hb6⟩; (have HB6 := hid (b_alloc HB5.out hb6)); (have k4c := cell_below HB6.out k4b); clear hb6)
         | (go_at_call 179; refine (HZO.out _).mono ?_; rintro e w7 ⟨rfl, hb7⟩; unfold optV; (have HB7 := hid (b_two HB6.out hb7)); clear hb7)
         | fail)
        go_ret2
        exact ⟨rfl, b_two (b_two HB2.out HB3.out) HB7.out⟩
       | some a =>
        show Calls Tryz.prog 153 #[.string s0] w fun e w' => e = .returned (optT (timeV (fullY y) (monOf m) (numD d) (clk8 c) a)) ∧ Below w.heap.size w w'
        have HTI := hid (HTJ.out (fullY y) (monOf m) (numD d) a (HZB.out a rfl))
        generalize timeV (fullY y) (monOf m) (numD d) (clk8 c) a = R at *
        generalize fullY y = Y at *
        generalize monOf m = M at *
        generalize numD d = N at *
        by_cases hc8 : c.length < 8
        ·have hck : asS c ++ ⟨#[58, 48, 48]⟩ = asS (clk8 c) := by unfold clk8; rw [if_pos hc8]; exact asS_app c [58, 48, 48]
         have hcs8 : ((asS c).size : Int) < 8 := by rw [asS_size]; omega
         have hcn : ¬ (9223372036854775807 < (asS c).size + 3) := by rw [asS_size]; omega
         generalize asS (clk8 c) = s8 at *
         clear HTJ HZB ec
         cases R
         ·go_enter Tryz.func153, Tryz.ntmps153
          go_wp2_with (first
           | (go_at_call 172; refine (HLO.out _).mono ?_; rintro e w1 ⟨rfl, hb1⟩)
           | (go_at_call 80; refine (HWD.out _).mono ?_; rintro e w2 ⟨v, rfl, hown, hb2⟩; obtain ⟨g, cap, rfl, hcap, hcs⟩ := own_words hown; clear hown; (have kx := hcs 0 (by simp)); (have k0 := hcs 1 (by simp)); (have k1 := hcs 2 (by simp)); (have k2 := hcs 3 (by simp)); (have k3 := hcs 4 (by simp)); (have k4 := hcs 5 (by simp)); (change _ = some (Value.string (asS x)) at kx); (change _ = some (Value.string (asS d)) at k0); (change _ = some (Value.string (asS m)) at k1); (change _ = some (Value.string (asS y)) at k2); (change _ = some (Value.string (asS c)) at k3); (change _ = some (Value.string (asS z)) at k4); (change 6 ≤ cap at hcap); clear hcs; generalize asS x = sx at *; generalize asS d = sd at *; generalize asS m = sm at *; generalize asS y = sy at *; generalize asS c = sc at *; generalize asS z = sz at *; (have HT2 := hid (HTT.out.below (b_two hb1 hb2))); (have HB2 := hid (b_two hb1 hb2)); clear hb1 hb2)
           | (go_at_call 178; refine (HDN.out _ HT2.out).mono ?_; rintro e w3 ⟨rfl, rfl⟩)
           | fail)
          go_quiet (fail)
          have HB3 := hid (below_drewN w3.heap.size w3 nq)
          have k4b := cell_below HB3.out k4
          have HT3 := hid (HT2.out.below HB3.out)
          generalize w3.drewN nq = W3 at HB3 k4b HT3 ⊢
          clear k0 k1 k2 k3 k4 HT2 HTT kx
          go_wp2_with (first
           | (go_at_call_of 173 (Value.string sd); refine (HF1.out _ _ _ (HC1.out _ _)).mono ?_; rintro e w4 ⟨rfl, hb4⟩; (have HB4 := hid (b_alloc (Below.refl _ W3) hb4)); clear hb4)
           | (go_at_call_of 173 (Value.string sy); refine (HF2.out _ _ _ (HC2.out _ _)).mono ?_; rintro e w5 ⟨rfl, hb5⟩; (have HB5 := hid (b_alloc HB4.out hb5)); clear hb5)
           | (go_at_call_of 173 (Value.string sc); refine (HF3.out _ _ _ (HC3.out _ _)).mono ?_; rintro e w6 ⟨rfl, hb6⟩; (have HB6 := hid (b_alloc HB5.out hb6)); (have k4c := cell_below HB6.out k4b); clear hb6)
           | (go_at_call 179; refine (HZO.out _).mono ?_; rintro e w7 ⟨rfl, hb7⟩; unfold optV; (have HB7 := hid (b_two HB6.out hb7)); clear hb7)
           | (go_at_call 180; refine (HFU.out _).mono ?_; rintro e w8 ⟨rfl, hb8⟩; (have HB8 := hid (b_two HB7.out hb8)); (have HT8 := hid (HT3.out.below HB8.out)); clear hb8)
           | (go_at_call 181; refine (HMO.out _ HT8.out).mono ?_; rintro e w9 ⟨rfl, rfl⟩)
           | (go_at_call 177; refine (HNU.out _).mono ?_; rintro e wa ⟨rfl, hba⟩; (have HBa := hid (b_two HB8.out hba)); clear hba)
           | (go_at_call 176; refine (HTI.out _).mono ?_; rintro e wb ⟨rfl, hbb⟩; unfold optT; (have HBb := hid (b_two HBa.out hbb)); clear hbb)
           | fail)
          go_ret2
          exact ⟨rfl, b_two (b_two HB2.out HB3.out) HBb.out⟩
         ·go_enter Tryz.func153, Tryz.ntmps153
          go_wp2_with (first
           | (go_at_call 172; refine (HLO.out _).mono ?_; rintro e w1 ⟨rfl, hb1⟩)
           | (go_at_call 80; refine (HWD.out _).mono ?_; rintro e w2 ⟨v, rfl, hown, hb2⟩; obtain ⟨g, cap, rfl, hcap, hcs⟩ := own_words hown; clear hown; (have kx := hcs 0 (by simp)); (have k0 := hcs 1 (by simp)); (have k1 := hcs 2 (by simp)); (have k2 := hcs 3 (by simp)); (have k3 := hcs 4 (by simp)); (have k4 := hcs 5 (by simp)); (change _ = some (Value.string (asS x)) at kx); (change _ = some (Value.string (asS d)) at k0); (change _ = some (Value.string (asS m)) at k1); (change _ = some (Value.string (asS y)) at k2); (change _ = some (Value.string (asS c)) at k3); (change _ = some (Value.string (asS z)) at k4); (change 6 ≤ cap at hcap); clear hcs; generalize asS x = sx at *; generalize asS d = sd at *; generalize asS m = sm at *; generalize asS y = sy at *; generalize asS c = sc at *; generalize asS z = sz at *; (have HT2 := hid (HTT.out.below (b_two hb1 hb2))); (have HB2 := hid (b_two hb1 hb2)); clear hb1 hb2)
           | (go_at_call 178; refine (HDN.out _ HT2.out).mono ?_; rintro e w3 ⟨rfl, rfl⟩)
           | fail)
          go_quiet (fail)
          have HB3 := hid (below_drewN w3.heap.size w3 nq)
          have k4b := cell_below HB3.out k4
          have HT3 := hid (HT2.out.below HB3.out)
          generalize w3.drewN nq = W3 at HB3 k4b HT3 ⊢
          clear k0 k1 k2 k3 k4 HT2 HTT kx
          go_wp2_with (first
           | (go_at_call_of 173 (Value.string sd); refine (HF1.out _ _ _ (HC1.out _ _)).mono ?_; rintro e w4 ⟨rfl, hb4⟩; (have HB4 := hid (b_alloc (Below.refl _ W3) hb4)); clear hb4)
           | (go_at_call_of 173 (Value.string sy); refine (HF2.out _ _ _ (HC2.out _ _)).mono ?_; rintro e w5 ⟨rfl, hb5⟩; (have HB5 := hid (b_alloc HB4.out hb5)); clear hb5)
           | (go_at_call_of 173 (Value.string sc); refine (HF3.out _ _ _ (HC3.out _ _)).mono ?_; rintro e w6 ⟨rfl, hb6⟩; (have HB6 := hid (b_alloc HB5.out hb6)); (have k4c := cell_below HB6.out k4b); clear hb6)
           | (go_at_call 179; refine (HZO.out _).mono ?_; rintro e w7 ⟨rfl, hb7⟩; unfold optV; (have HB7 := hid (b_two HB6.out hb7)); clear hb7)
           | (go_at_call 180; refine (HFU.out _).mono ?_; rintro e w8 ⟨rfl, hb8⟩; (have HB8 := hid (b_two HB7.out hb8)); (have HT8 := hid (HT3.out.below HB8.out)); clear hb8)
           | (go_at_call 181; refine (HMO.out _ HT8.out).mono ?_; rintro e w9 ⟨rfl, rfl⟩)
           | (go_at_call 177; refine (HNU.out _).mono ?_; rintro e wa ⟨rfl, hba⟩; (have HBa := hid (b_two HB8.out hba)); clear hba)
           | (go_at_call 176; refine (HTI.out _).mono ?_; rintro e wb ⟨rfl, hbb⟩; unfold optT; (have HBb := hid (b_two HBa.out hbb)); clear hbb)
           | fail)
          go_ret2
          exact ⟨rfl, b_two (b_two HB2.out HB3.out) HBb.out⟩
        ·have hck : asS (clk8 c) = asS c := by unfold clk8; rw [if_neg hc8]
         have hcs8 : ¬ ((asS c).size : Int) < 8 := by rw [asS_size]; omega
         rw [hck] at HTI
         clear HTJ HZB ec hck
         cases R
         ·go_enter Tryz.func153, Tryz.ntmps153
          go_wp2_with (first
           | (go_at_call 172; refine (HLO.out _).mono ?_; rintro e w1 ⟨rfl, hb1⟩)
           | (go_at_call 80; refine (HWD.out _).mono ?_; rintro e w2 ⟨v, rfl, hown, hb2⟩; obtain ⟨g, cap, rfl, hcap, hcs⟩ := own_words hown; clear hown; (have kx := hcs 0 (by simp)); (have k0 := hcs 1 (by simp)); (have k1 := hcs 2 (by simp)); (have k2 := hcs 3 (by simp)); (have k3 := hcs 4 (by simp)); (have k4 := hcs 5 (by simp)); (change _ = some (Value.string (asS x)) at kx); (change _ = some (Value.string (asS d)) at k0); (change _ = some (Value.string (asS m)) at k1); (change _ = some (Value.string (asS y)) at k2); (change _ = some (Value.string (asS c)) at k3); (change _ = some (Value.string (asS z)) at k4); (change 6 ≤ cap at hcap); clear hcs; generalize asS x = sx at *; generalize asS d = sd at *; generalize asS m = sm at *; generalize asS y = sy at *; generalize asS c = sc at *; generalize asS z = sz at *; (have HT2 := hid (HTT.out.below (b_two hb1 hb2))); (have HB2 := hid (b_two hb1 hb2)); clear hb1 hb2)
           | (go_at_call 178; refine (HDN.out _ HT2.out).mono ?_; rintro e w3 ⟨rfl, rfl⟩)
           | fail)
          go_quiet (fail)
          have HB3 := hid (below_drewN w3.heap.size w3 nq)
          have k4b := cell_below HB3.out k4
          have HT3 := hid (HT2.out.below HB3.out)
          generalize w3.drewN nq = W3 at HB3 k4b HT3 ⊢
          clear k0 k1 k2 k3 k4 HT2 HTT kx
          go_wp2_with (first
           | (go_at_call_of 173 (Value.string sd); refine (HF1.out _ _ _ (HC1.out _ _)).mono ?_; rintro e w4 ⟨rfl, hb4⟩; (have HB4 := hid (b_alloc (Below.refl _ W3) hb4)); clear hb4)
           | (go_at_call_of 173 (Value.string sy); refine (HF2.out _ _ _ (HC2.out _ _)).mono ?_; rintro e w5 ⟨rfl, hb5⟩; (have HB5 := hid (b_alloc HB4.out hb5)); clear hb5)
           | (go_at_call_of 173 (Value.string sc); refine (HF3.out _ _ _ (HC3.out _ _)).mono ?_; rintro e w6 ⟨rfl, hb6⟩; (have HB6 := hid (b_alloc HB5.out hb6)); (have k4c := cell_below HB6.out k4b); clear hb6)
           | (go_at_call 179; refine (HZO.out _).mono ?_; rintro e w7 ⟨rfl, hb7⟩; unfold optV; (have HB7 := hid (b_two HB6.out hb7)); clear hb7)
           | (go_at_call 180; refine (HFU.out _).mono ?_; rintro e w8 ⟨rfl, hb8⟩; (have HB8 := hid (b_two HB7.out hb8)); (have HT8 := hid (HT3.out.below HB8.out)); clear hb8)
           | (go_at_call 181; refine (HMO.out _ HT8.out).mono ?_; rintro e w9 ⟨rfl, rfl⟩)
           | (go_at_call 177; refine (HNU.out _).mono ?_; rintro e wa ⟨rfl, hba⟩; (have HBa := hid (b_two HB8.out hba)); clear hba)
           | (go_at_call 176; refine (HTI.out _).mono ?_; rintro e wb ⟨rfl, hbb⟩; unfold optT; (have HBb := hid (b_two HBa.out hbb)); clear hbb)
           | fail)
          go_ret2
          exact ⟨rfl, b_two (b_two HB2.out HB3.out) HBb.out⟩
         ·go_enter Tryz.func153, Tryz.ntmps153
          go_wp2_with (first
           | (go_at_call 172; refine (HLO.out _).mono ?_; rintro e w1 ⟨rfl, hb1⟩)
           | (go_at_call 80; refine (HWD.out _).mono ?_; rintro e w2 ⟨v, rfl, hown, hb2⟩; obtain ⟨g, cap, rfl, hcap, hcs⟩ := own_words hown; clear hown; (have kx := hcs 0 (by simp)); (have k0 := hcs 1 (by simp)); (have k1 := hcs 2 (by simp)); (have k2 := hcs 3 (by simp)); (have k3 := hcs 4 (by simp)); (have k4 := hcs 5 (by simp)); (change _ = some (Value.string (asS x)) at kx); (change _ = some (Value.string (asS d)) at k0); (change _ = some (Value.string (asS m)) at k1); (change _ = some (Value.string (asS y)) at k2); (change _ = some (Value.string (asS c)) at k3); (change _ = some (Value.string (asS z)) at k4); (change 6 ≤ cap at hcap); clear hcs; generalize asS x = sx at *; generalize asS d = sd at *; generalize asS m = sm at *; generalize asS y = sy at *; generalize asS c = sc at *; generalize asS z = sz at *; (have HT2 := hid (HTT.out.below (b_two hb1 hb2))); (have HB2 := hid (b_two hb1 hb2)); clear hb1 hb2)
           | (go_at_call 178; refine (HDN.out _ HT2.out).mono ?_; rintro e w3 ⟨rfl, rfl⟩)
           | fail)
          go_quiet (fail)
          have HB3 := hid (below_drewN w3.heap.size w3 nq)
          have k4b := cell_below HB3.out k4
          have HT3 := hid (HT2.out.below HB3.out)
          generalize w3.drewN nq = W3 at HB3 k4b HT3 ⊢
          clear k0 k1 k2 k3 k4 HT2 HTT kx
          go_wp2_with (first
           | (go_at_call_of 173 (Value.string sd); refine (HF1.out _ _ _ (HC1.out _ _)).mono ?_; rintro e w4 ⟨rfl, hb4⟩; (have HB4 := hid (b_alloc (Below.refl _ W3) hb4)); clear hb4)
           | (go_at_call_of 173 (Value.string sy); refine (HF2.out _ _ _ (HC2.out _ _)).mono ?_; rintro e w5 ⟨rfl, hb5⟩; (have HB5 := hid (b_alloc HB4.out hb5)); clear hb5)
           | (go_at_call_of 173 (Value.string sc); refine (HF3.out _ _ _ (HC3.out _ _)).mono ?_; rintro e w6 ⟨rfl, hb6⟩; (have HB6 := hid (b_alloc HB5.out hb6)); (have k4c := cell_below HB6.out k4b); clear hb6)
           | (go_at_call 179; refine (HZO.out _).mono ?_; rintro e w7 ⟨rfl, hb7⟩; unfold optV; (have HB7 := hid (b_two HB6.out hb7)); clear hb7)
           | (go_at_call 180; refine (HFU.out _).mono ?_; rintro e w8 ⟨rfl, hb8⟩; (have HB8 := hid (b_two HB7.out hb8)); (have HT8 := hid (HT3.out.below HB8.out)); clear hb8)
           | (go_at_call 181; refine (HMO.out _ HT8.out).mono ?_; rintro e w9 ⟨rfl, rfl⟩)
           | (go_at_call 177; refine (HNU.out _).mono ?_; rintro e wa ⟨rfl, hba⟩; (have HBa := hid (b_two HB8.out hba)); clear hba)
           | (go_at_call 176; refine (HTI.out _).mono ?_; rintro e wb ⟨rfl, hbb⟩; unfold optT; (have HBb := hid (b_two HBa.out hbb)); clear hbb)
           | fail)
          go_ret2
          exact ⟨rfl, b_two (b_two HB2.out HB3.out) HBb.out⟩
   ·rw [p822W_no h4]
    obtain ⟨n, hn⟩ : ∃ n, Hid (r.length = n) := ⟨_, rfl⟩
    have h5 : ((n : Int) != 5) = true := by rw [bne_iff_ne]; have := hn.out; omega
    have h0 : decide ((0 : Int) < (n : Int) + 1) = true := decide_eq_true (by omega)
    clear h4
    go_enter Tryz.func153, Tryz.ntmps153
    go_wp2_with (first
     | (go_at_call 172; refine (HLO.out _).mono ?_; rintro e w1 ⟨rfl, hb1⟩)
     | (go_at_call 80; refine (HWD.out _).mono ?_; rintro e w2 ⟨v, rfl, hown, hb2⟩; obtain ⟨g, cap, rfl, hcap, hcs⟩ := own_words hown; clear hown; (have hc0 := hcs 0 (by simp)); rw [hn.out] at hcap ⊢; clear hcs; (have HT2 := hid (HTT.out.below (b_two hb1 hb2))); (change _ = some (Value.string (asS x)) at hc0); generalize asS x = xs at *)
     | (go_at_call 178; refine (HDN.out _ HT2.out).mono ?_; rintro e w3 ⟨rfl, rfl⟩)
     | fail)
    all_goals go_ret2
    all_goals exact ⟨rfl, b_two hb1 hb2⟩
end Go.Proofs.YtgoiafndapemjaaGreatDoor
