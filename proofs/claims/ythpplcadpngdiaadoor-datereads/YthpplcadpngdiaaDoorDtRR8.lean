
/- What the reference's Rfc822 does. -/
import Derived.Test.YthpplcadpngdiaaDoorDtRR3
import Derived.Deep.DeepCutAuto
namespace Go.Proofs.YthpplcadpngdiaaDoor
set_option linter.unusedVariables false
set_option linter.unusedSimpArgs false
open Go.RowKit Go.BigFrame

theorem own_wordsL {w : World} {B : Nat} {v : Value} {ws : List (List UInt8)} (h0 : ws ≠ []) (h : w.ownsRow B 9 1 v ws.length (strs ws)) : ∃ g cap, v = .slice (some ⟨g, 0, none⟩) ws.length cap ∧ ws.length ≤ cap ∧ ∀ j, j < ws.length → w.cell? ⟨g, j, none⟩ = some (.string (asS (ws.getD j []))) := by
  cases ws with
  | nil => exact absurd rfl h0
  | cons x r =>
    obtain ⟨g, cap, h1, h2, h3⟩ := own_words h
    exact ⟨g, cap, h1, h2, h3⟩
theorem refLow_words (l : List UInt8) (hl : l.length ≤ 90000) (w : World) : Calls Tryd.prog 48 #[.string (asS (l.map lowB))] w fun e w' => ∃ v, e = .returned v ∧ w'.ownsRow w.heap.size 9 1 v (lowW l).length (strs (lowW l)) ∧ Below w.heap.size w w' := by
  have h := refWords_any (asS (l.map lowB)) w (by rw [asS_size, List.length_map]; omega)
  have e : wds (asS (l.map lowB)) = lowW l := by unfold wds lowW; rw [asS_data]
  rw [e] at h
  exact h
theorem zoneR_60 {z : List UInt8} {a : Int} (h : zoneR z = some a) : a / 60 * 60 = a ∧ -90000 ≤ a ∧ a ≤ 90000 := by
  refine ⟨?_, z822_bound (by rw [← zoneR_eq]; exact h)⟩
  unfold zoneR at h
  cases hz : zName z with
  | some n =>
    rw [hz] at h
    replace h := Option.some.inj h
    subst h
    have hm := zName_some hz
    simp only [zTab, List.mem_cons, List.not_mem_nil, or_false, Prod.mk.injEq] at hm
    omega
  | none =>
    rw [hz] at h
    change (if _ then _ else _) = some a at h
    split at h
    · replace h := Option.some.inj h
      split at h <;> omega
    · cases h
theorem yearR_cases (y : List UInt8) : (y.length = 2 ∧ 0 ≤ numT y 0 y.length ∧ numT y 0 y.length < 50 ∧ yearR y = numT y 0 y.length + 2000) ∨ (y.length = 2 ∧ 0 ≤ numT y 0 y.length ∧ ¬ numT y 0 y.length < 50 ∧ yearR y = numT y 0 y.length + 1900) ∨ (y.length = 2 ∧ ¬ 0 ≤ numT y 0 y.length ∧ yearR y = numT y 0 y.length) ∨ (¬ y.length = 2 ∧ yearR y = numT y 0 y.length) := by
  unfold yearR
  by_cases h2 : y.length = 2
  · by_cases h0 : 0 ≤ numT y 0 y.length
    · by_cases h5 : numT y 0 y.length < 50
      · exact .inl ⟨h2, h0, h5, by rw [if_pos ⟨h2, h0⟩, if_pos h5]⟩
      · exact .inr (.inl ⟨h2, h0, h5, by rw [if_pos ⟨h2, h0⟩, if_neg h5]⟩)
    · exact .inr (.inr (.inl ⟨h2, h0, by rw [if_neg (fun q => h0 q.2)]⟩))
  · exact .inr (.inr (.inr ⟨h2, by rw [if_neg (fun q => h2 q.1)]⟩))
theorem numT_le (s : List UInt8) (h : s.length ≤ 4) : -1 ≤ numT s 0 s.length ∧ numT s 0 s.length < 10000 := by
  refine ⟨numT_ge _ _ _, ?_⟩
  unfold numT
  split
  · omega
  · split
    · next hd =>
      have h4 := num_lt _ _ rfl (List.all_eq_true.1 hd)
      have h5 : 10 ^ ((s.drop 0).take (s.length - 0)).length ≤ 10 ^ 4 := Nat.pow_le_pow_right (by omega) (by rw [List.length_take]; omega)
      omega
    · omega
set_option maxHeartbeats 2000000 in
set_option maxRecDepth 1000000 in
theorem refR822_no (l : List UInt8) (hl : l.length ≤ 90000) (hn : ∀ d m y c z, dropR (lowW l) ≠ [d, m, y, c, z]) (w : World) : Calls Tryd.prog 17 #[.string (asS l)] w fun e w' => Told none e ∧ Below w.heap.size w w' := by
  have HLO := hid (fun W => refLower_any l W (by omega))
  have HWD := hid (fun W => refLow_words l hl W)
  generalize lowW l = ws at *
  generalize asS (l.map lowB) = ls at *
  generalize asS l = s0 at *
  cases ws with
  | nil =>
    clear hn
    go_enter Tryd.func17, Tryd.ntmps17
    go_wp2_with (first
      | (go_at_call 39; refine (HLO.out _).mono ?_; rintro e w1 ⟨rfl, hb1⟩)
      | (go_at_call 48; refine (HWD.out _).mono ?_; rintro e w2 ⟨v, rfl, hown, hb2⟩; obtain ⟨ad, cap, rfl⟩ := own_none hown; clear hown)
      | fail)
    go_ret2
    exact ⟨told_none rfl rfl, b_two hb1 hb2⟩
  | cons x r =>
    have HWK := hid (fun W => refWeekday_any x W)
    by_cases h5 : r.length = 5
    · have hx : isDayN x = false := by
        cases hx : isDayN x with
        | false => rfl
        | true =>
          exfalso
          match r, h5 with
          | [d, m, y, c, z], _ =>
            refine hn d m y c z ?_
            unfold dropR
            rw [if_pos ⟨rfl, hx⟩]; rfl
      rw [hx] at HWK
      have hn6 : r.length + 1 = 6 := by omega
      rw [List.length_cons, hn6] at HWD
      clear hn hx
      go_enter Tryd.func17, Tryd.ntmps17
      go_wp2_with (first
        | (go_at_call 39; refine (HLO.out _).mono ?_; rintro e w1 ⟨rfl, hb1⟩)
        | (go_at_call 48; refine (HWD.out _).mono ?_; rintro e w2 ⟨v, rfl, hown, hb2⟩; rw [← hn6] at hown; obtain ⟨g, cap, hv, hcap, hcs⟩ := own_words hown; rw [hn6] at hv hcap; subst hv; clear hown; (have k0 := hcs 0 (by simp)); (change _ = some (Value.string (asS x)) at k0); clear hcs hn6)
        | (go_at_call 49; refine (HWK.out _).mono ?_; rintro e w3 ⟨rfl, rfl⟩)
        | fail)
      go_ret2
      exact ⟨told_none rfl rfl, b_two hb1 hb2⟩
    · have h4 : ¬ r.length = 4 := fun h4 => by
        match r, h4 with
        | [m, y, c, z], _ =>
          refine hn x m y c z ?_
          unfold dropR
          rw [if_neg (fun q => by simp at q)]
      have g6 : (((r.length + 1 : Nat) : Int) == 6) = false := by rw [beq_eq_false_iff_ne]; omega
      have g5 : (((r.length + 1 : Nat) : Int) != 5) = true := by rw [bne_iff_ne]; omega
      have g6' : ((r.length : Int) + 1 == 6) = false := by rw [beq_eq_false_iff_ne]; omega
      have g5' : ((r.length : Int) + 1 != 5) = true := by rw [bne_iff_ne]; omega
      clear hn h4 h5
      generalize hL : r.length + 1 = L at *
      rw [List.length_cons, hL] at HWD
      clear g6' g5'
      go_enter Tryd.func17, Tryd.ntmps17
      go_wp2_with (first
        | (go_at_call 39; refine (HLO.out _).mono ?_; rintro e w1 ⟨rfl, hb1⟩)
        | (go_at_call 48; refine (HWD.out _).mono ?_; rintro e w2 ⟨v, rfl, hown, hb2⟩; rw [← hL] at hown; obtain ⟨g, cap, hv, hcap, hcs⟩ := own_words hown; rw [hL] at hv; subst hv; clear hown hcs hcap hL)
        | fail)
      go_ret2
      exact ⟨told_none rfl rfl, b_two hb1 hb2⟩

/-- What must hold of five words, of letters. -/
def okF (d y c : List UInt8) (dy : Bool) (h mi sc : Int) (c2 c5 : UInt8) : Prop := d.length ≤ 2 ∧ (y.length = 4 ∨ y.length = 2) ∧ dy = true ∧ (c.length = 5 ∨ c.length = 8) ∧ 0 ≤ h ∧ 0 ≤ mi ∧ 0 ≤ sc ∧ c2 = 58 ∧ (c.length = 8 → c5 = 58)
theorem rW_yes (d m y c z : List UInt8) (h : okF d y c (isDay (yearR y) (monOf m) (numT d 0 d.length)) (twoR c 0 24) (twoR c 3 60) (secW c) (c.getD 2 0) (c.getD 5 0)) : rW d m y c z = (zoneR z).map (fun a => ((dayD (yearR y).toNat (monOf m : Int).toNat (numT d 0 d.length).toNat : Int) - 719162) * 86400 + twoR c 0 24 * 3600 + twoR c 3 60 * 60 + secW c - a) := by
  obtain ⟨h1, h2, h3, h4⟩ := h
  unfold rW okW
  rw [if_pos ⟨h1, h2, decide_eq_true ⟨h3, h4⟩⟩]
  rfl
theorem rW_not (d m y c z : List UInt8) (h : ¬ okF d y c (isDay (yearR y) (monOf m) (numT d 0 d.length)) (twoR c 0 24) (twoR c 3 60) (secW c) (c.getD 2 0) (c.getD 5 0)) : rW d m y c z = none := by
  unfold rW okW
  rw [if_neg]
  rintro ⟨h1, h2, h3⟩
  rw [decide_eq_true_eq] at h3
  exact h ⟨h1, h2, h3⟩
theorem secW_cases (c : List UInt8) : (c.length = 8 ∧ secW c = twoR c 6 60) ∨ (¬ c.length = 8 ∧ secW c = 0) := by
  unfold secW
  by_cases h : c.length = 8
  · exact .inl ⟨h, if_pos h⟩
  · exact .inr ⟨h, if_neg h⟩
theorem mon_le (m : List UInt8) : monOf m ≤ 12 := by
  have key : ∀ (ns : List (List UInt8)) (i : Nat), monFind ns i m ≤ i + ns.length := by
    intro ns
    induction ns with
    | nil => intro i; show 0 ≤ _; omega
    | cons x r ih =>
      intro i
      rw [monFind]
      split
      · rw [List.length_cons]; omega
      · have := ih (i + 1); rw [List.length_cons]; omega
  exact key monNs 0
set_option maxHeartbeats 8000000 in
set_option maxRecDepth 1000000 in
theorem refR822_yes (l : List UInt8) (hl : l.length ≤ 90000) (d m y c z : List UInt8) (hd : dropR (lowW l) = [d, m, y, c, z]) (w : World) : Calls Tryd.prog 17 #[.string (asS l)] w fun e w' => Told (rW d m y c z) e ∧ Below w.heap.size w w' := by
  have HLO := hid (fun W => refLower_any l W (by omega))
  have HWD := hid (fun W => refLow_words l hl W)
  have hle : ∀ x ∈ lowW l, x.length ≤ 90000 := fun x h => Nat.le_trans (low_le l x h) hl
  have HW : Hid ((lowW l = [d, m, y, c, z]) ∨ ∃ x, lowW l = [x, d, m, y, c, z] ∧ isDayN x = true) := by
    show _ ∨ _
    unfold dropR at hd
    split at hd
    · next h =>
      right
      generalize lowW l = ws at h hd
      match ws, h with
      | x :: r, h => exact ⟨x, by rw [show r = [d, m, y, c, z] from hd], h.2⟩
    · exact .inl hd
  have hls : d.length ≤ 90000 ∧ m.length ≤ 90000 ∧ y.length ≤ 90000 ∧ c.length ≤ 90000 ∧ z.length ≤ 90000 := by
    rcases HW.out with e | ⟨x, e, _⟩ <;> (rw [e] at hle; exact ⟨hle d (by simp), hle m (by simp), hle y (by simp), hle c (by simp), hle z (by simp)⟩)
  have hws : lowW l ≠ [] := by
    rcases HW.out with e | ⟨x, e, _⟩ <;> (rw [e]; simp)
  clear hd hle
  generalize lowW l = ws at *
  generalize asS (l.map lowB) = ls at *
  generalize asS l = s0 at *
  have HY := hid (rW_yes d m y c z)
  have HN := hid (rW_not d m y c z)
  generalize rW d m y c z = R at *
  have HWK := hid (fun x W => refWeekday_any x W)
  have ZD : Hid ((asS d).size = d.length) := asS_size d
  have ZY : Hid ((asS y).size = y.length) := asS_size y
  have ZC : Hid ((asS c).size = c.length) := asS_size c
  have HND : Hid (d.length ≤ 2 → ∀ W : World, Calls Tryd.prog 40 #[.string (asS d), .int .i64 0, .int .i64 ((asS d).size : Int)] W fun e w' => e = .returned (.int .i64 (numT d 0 d.length)) ∧ w' = W) := fun h W => by rw [ZD.out]; exact refNumber_any d 0 d.length (by omega) (by omega) (by omega) (by omega) W
  have HNY : Hid (y.length ≤ 4 → ∀ W : World, Calls Tryd.prog 40 #[.string (asS y), .int .i64 0, .int .i64 ((asS y).size : Int)] W fun e w' => e = .returned (.int .i64 (numT y 0 y.length)) ∧ w' = W) := fun h W => by rw [ZY.out]; exact refNumber_any y 0 y.length (by omega) (by omega) (by omega) (by omega) W
  have HMO := hid (fun W => refMonth_any m W)
  have HT1 := hid (fun W => refTwo_any c 0 24 (by omega) (by omega) (by omega) W)
  have HT2 := hid (fun W => refTwo_any c 3 60 (by omega) (by omega) (by omega) W)
  have HT3 := hid (fun W => refTwo_any c 6 60 (by omega) (by omega) (by omega) W)
  change Hid (∀ W : World, Calls Tryd.prog 41 #[.string (asS c), .int .i64 0, .int .i64 24] W fun e w' => e = .returned (.int .i64 (twoR c 0 24)) ∧ w' = W) at HT1
  change Hid (∀ W : World, Calls Tryd.prog 41 #[.string (asS c), .int .i64 3, .int .i64 60] W fun e w' => e = .returned (.int .i64 (twoR c 3 60)) ∧ w' = W) at HT2
  change Hid (∀ W : World, Calls Tryd.prog 41 #[.string (asS c), .int .i64 6, .int .i64 60] W fun e w' => e = .returned (.int .i64 (twoR c 6 60)) ∧ w' = W) at HT3
  have HZO := hid (fun W => refZone_any z (by omega) W)
  have HZB : Hid (∀ a, zoneR z = some a → a / 60 * 60 = a ∧ -90000 ≤ a ∧ a ≤ 90000) := fun a h => zoneR_60 h
  have HDT := hid (fun W => refIsDay_any (yearR y) (monOf m) (numT d 0 d.length) W)
  have HDA := hid (fun h W => refDaysI (yearR y) (monOf m) (numT d 0 d.length) h W)
  have HDL := hid (dayI_lt (yearR y) (monOf m) (numT d 0 d.length))
  have HYC := hid (yearR_cases y)
  have HSC := hid (secW_cases c)
  have HNL := hid (numT_le y)
  have b1 := twoR_bd c 0 24
  have b2 := twoR_bd c 3 60
  have b3 := twoR_bd c 6 60
  have b4 := mon_le m
  have HX2 : Hid (c.length = 5 ∨ c.length = 8 → ∀ W : World, (Instr.index 9 (.string (asS c)) (.int .i64 2)).run Tryd.prog W = .ok (.int .u8 (c.getD 2 0).toNat) W) := fun h W => str_ix (asS c) 2 (by rw [ZC.out]; omega) W
  have HX5 : Hid (c.length = 8 → ∀ W : World, (Instr.index 9 (.string (asS c)) (.int .i64 5)).run Tryd.prog W = .ok (.int .u8 (c.getD 5 0).toNat) W) := fun h W => str_ix (asS c) 5 (by rw [ZC.out]; omega) W
  obtain ⟨dy, hdy⟩ : ∃ dy, isDay (yearR y) (monOf m) (numT d 0 d.length) = dy := ⟨_, rfl⟩
  rw [hdy] at HY HN HDT HDA HDL
  clear hdy
  generalize dayD (yearR y).toNat (monOf m : Int).toNat (numT d 0 d.length).toNat = DAY at *
  generalize yearR y = YY at *
  generalize monOf m = MO at *
  generalize numT d 0 d.length = DN at *
  generalize numT y 0 y.length = YN at *
  generalize secW c = SC at *
  generalize twoR c 0 24 = H at *
  generalize twoR c 3 60 = MI at *
  generalize twoR c 6 60 = S6 at *
  generalize c.getD 2 0 = c2 at *
  generalize c.getD 5 0 = c5 at *
  generalize zoneR z = ZO at *
  go_enter Tryd.func17, Tryd.ntmps17
  go_upto_region 2 with (first
    | (go_at_call 39; refine (HLO.out _).mono ?_; rintro e w1 ⟨rfl, hb1⟩)
    | (go_at_call 48; refine (HWD.out _).mono ?_; rintro e w2 ⟨v, rfl, hown, hb2⟩; obtain ⟨g, cap, rfl, hcap, hcs⟩ := own_wordsL hws hown; clear hown; (have HCS := hid hcs); (have HB2 := hid (b_two hb1 hb2)); clear hb1 hb2 hcs)
    | fail)
  obtain ⟨bw, HBW⟩ : ∃ bw : Bool, Hid ((bw = false ∧ ws = [d, m, y, c, z]) ∨ (bw = true ∧ ∃ x, ws = [x, d, m, y, c, z] ∧ isDayN x = true)) := by
    rcases HW.out with e | e
    · exact ⟨false, .inl ⟨rfl, e⟩⟩
    · exact ⟨true, .inr ⟨rfl, e⟩⟩
  clear HW HWD hws
  go_cut [25] (fun v wx => v = .bool bw ∧ wx = w2)
  case first =>
    rcases HBW.out with ⟨rfl, e⟩ | ⟨rfl, x, e, hx⟩
    · subst e
      go_wp2_with fail
      go_meet
      case rel => exact ⟨rfl, rfl⟩
    · subst e
      have k0 := HCS.out 0 (by simp)
      have HWX := hid (HWK.out x)
      rw [hx] at HWX
      clear HCS HBW hx
      change 6 ≤ cap at hcap
      change _ = some (Value.string (asS x)) at k0
      go_wp2_with (go_at_call 49; refine (HWX.out _).mono ?_; rintro e w3 ⟨rfl, rfl⟩)
      go_meet
      case rel => exact ⟨rfl, rfl⟩
  case rest =>
  obtain ⟨rfl, hwc⟩ := hcut
  rw [← hwc] at HCS HB2
  clear hwc
  obtain ⟨w2, hw2⟩ : ∃ w2, w2 = wc := ⟨_, rfl⟩
  subst hw2
  go_upto_if 25 with (fail)
  go_cut [4] (fun v wx => ∃ o cap, v = .slice (some ⟨g, o, none⟩) 5 cap ∧ 5 ≤ cap ∧ wx.cell? ⟨g, o, none⟩ = some (.string (asS d)) ∧ wx.cell? ⟨g, o + 1, none⟩ = some (.string (asS m)) ∧ wx.cell? ⟨g, o + 2, none⟩ = some (.string (asS y)) ∧ wx.cell? ⟨g, o + 3, none⟩ = some (.string (asS c)) ∧ wx.cell? ⟨g, o + 4, none⟩ = some (.string (asS z)) ∧ wx = w2)
  case first =>
    rcases HBW.out with ⟨rfl, e⟩ | ⟨rfl, x, e, hx⟩
    · subst e
      have k0 := HCS.out 0 (by simp)
      have k1 := HCS.out 1 (by simp)
      have k2 := HCS.out 2 (by simp)
      have k3 := HCS.out 3 (by simp)
      have k4 := HCS.out 4 (by simp)
      clear HCS HBW
      change 5 ≤ cap at hcap
      go_wp2_with fail
      go_meet
      case rel => exact ⟨0, cap, rfl, hcap, k0, k1, k2, k3, k4, rfl⟩
    · subst e
      have k1 := HCS.out 1 (by simp)
      have k2 := HCS.out 2 (by simp)
      have k3 := HCS.out 3 (by simp)
      have k4 := HCS.out 4 (by simp)
      have k5 := HCS.out 5 (by simp)
      clear HCS HBW hx
      change 6 ≤ cap at hcap
      go_wp2_with fail
      go_meet
      case rel =>
        refine ⟨_, _, rfl, ?_, k1, k2, k3, k4, k5, rfl⟩
        first | omega | (simp; omega)
  case rest =>
    obtain ⟨o, cap', rfl, hcap', k0, k1, k2, k3, k4, rfl⟩ := hcut
    clear HCS HBW hcap HWK HLO
    generalize asS d = sd at *
    generalize asS m = sm at *
    generalize asS y = sy at *
    generalize asS c = sc at *
    generalize asS z = sz at *
    obtain ⟨V, hV⟩ : ∃ V, V = wc := ⟨_, rfl⟩
    subst hV
    by_cases nd : 2 < d.length
    · have gd : 2 < (sd.size : Int) := by rw [ZD.out]; omega
      have HR0 : Hid (R = none) := HN.out (fun q => by have := q.1; omega)
      clear nd
      go_wp2_with fail
      go_ret2
      exact ⟨told_none HR0.out rfl, HB2.out⟩
    · have gd : ¬ 2 < (sd.size : Int) := by rw [ZD.out]; omega
      have nd' : d.length ≤ 2 := by omega
      have HND' := hid (HND.out nd')
      clear nd HND
      by_cases ny : y.length = 4 ∨ y.length = 2
      · have HNY' := hid (HNY.out (by omega))
        have hNL := HNL.out (by omega)
        clear HNY HNL
        go_upto_region 4 with (fail)
        go_cut [51] (fun v wx => v = .bool false ∧ wx = V)
        case first =>
          rcases ny with h4 | h2
          · have g4 : ((sy.size : Int) != 4) = false := by rw [ZY.out, h4]; rfl
            clear h4
            go_wp2_with fail
            go_meet
            case rel => exact ⟨rfl, rfl⟩
          · have g4 : ((sy.size : Int) != 4) = true := by rw [ZY.out, h2]; rfl
            have g2 : ((sy.size : Int) != 2) = false := by rw [ZY.out, h2]; rfl
            clear h2
            go_wp2_with fail
            go_meet
            case rel => exact ⟨rfl, rfl⟩
        case rest =>
        obtain ⟨rfl, hwc⟩ := hcut
        rw [hwc]
        clear hwc
        go_wp2_with fail
        go_quiet ((first | (go_at_call_of 40 (Value.string sd); exact Calls.quiet_of_same (HND'.out _)) | (go_at_call_of 40 (Value.string sy); exact Calls.quiet_of_same (HNY'.out _)) | (go_at_call 50; exact Calls.quiet_of_same (HMO.out _)) | fail))
        have HB3 := hid (below_drewN V.heap.size V nq)
        have k2 := cell_below HB3.out k2
        have k3 := cell_below HB3.out k3
        have k4 := cell_below HB3.out k4
        have HB4 : Hid (Below w.heap.size w (V.drewN nq)) := b_two HB2.out HB3.out
        generalize V.drewN nq = V3 at k2 k3 k4 HB4 ⊢
        clear k0 k1 HB3 HB2 HND' HNY' HMO
        obtain ⟨bq, HBQ⟩ : ∃ bq : Bool, Hid ((bq = true ∧ y.length = 2 ∧ 0 ≤ YN ∧ ((YN < 50 ∧ YY = YN + 2000) ∨ (¬ YN < 50 ∧ YY = YN + 1900))) ∨ (bq = false ∧ YY = YN ∧ (y.length = 2 → ¬ 0 ≤ YN))) := by
          rcases HYC.out with ⟨a1, a2, a3, a4⟩ | ⟨a1, a2, a3, a4⟩ | ⟨a1, a2, a3⟩ | ⟨a1, a2⟩
          · exact ⟨true, .inl ⟨rfl, a1, a2, .inl ⟨by omega, a4⟩⟩⟩
          · exact ⟨true, .inl ⟨rfl, a1, a2, .inr ⟨by omega, a4⟩⟩⟩
          · exact ⟨false, .inr ⟨rfl, a3, fun _ => by omega⟩⟩
          · exact ⟨false, .inr ⟨rfl, a2, fun h => absurd h a1⟩⟩
        clear HYC
        go_upto_region 7 with (fail)
        go_cut [80] (fun v wx => v = .bool bq ∧ wx = V3)
        case first =>
          rcases HBQ.out with ⟨rfl, a1, a2, _⟩ | ⟨rfl, _, a3⟩
          · have g2 : ((sy.size : Int) == 2) = true := by rw [ZY.out, a1]; rfl
            clear a1
            go_wp2_with fail
            go_meet
            case rel => exact ⟨rfl, rfl⟩
          · by_cases a1 : y.length = 2
            · have a4 := a3 a1
              have g2 : ((sy.size : Int) == 2) = true := by rw [ZY.out, a1]; rfl
              have a5 : YN < 0 := by omega
              clear a1 a3
              go_wp2_with fail
              go_meet
              case rel => exact ⟨rfl, rfl⟩
            · have g2 : ((sy.size : Int) == 2) = false := by rw [ZY.out]; rw [beq_eq_false_iff_ne]; omega
              clear a1 a3
              go_wp2_with fail
              go_meet
              case rel => exact ⟨rfl, rfl⟩
        case rest =>
        obtain ⟨rfl, hwc⟩ := hcut
        rw [hwc]
        clear hwc
        go_upto_if 80 with (fail)
        go_cut [7] (fun v wx => v = .int .i64 YY ∧ wx = V3)
        case first =>
          rcases HBQ.out with ⟨rfl, a1, a2, ⟨a3, rfl⟩ | ⟨a3, rfl⟩⟩ | ⟨rfl, rfl, _⟩
          · go_wp2_with fail
            go_meet
            case rel => exact ⟨rfl, rfl⟩
          · go_wp2_with fail
            go_meet
            case rel => exact ⟨rfl, rfl⟩
          · go_wp2_with fail
            go_meet
            case rel => exact ⟨rfl, rfl⟩
        case rest => as_aux_lemma =>
        obtain ⟨rfl, hwc⟩ := hcut
        rw [hwc]
        clear hwc HBQ k2 hNL
        go_upto_if 96 with (first
          | (go_at_call_of 41 (Value.int .i64 24); refine (HT1.out _).mono ?_; rintro e w9 ⟨rfl, rfl⟩)
          | (go_at_call_of 41 (Value.int .i64 3); refine (HT2.out _).mono ?_; rintro e w9 ⟨rfl, rfl⟩)
          | fail)
        obtain ⟨V3, hV3⟩ : ∃ V3, V3 = w9 := ⟨_, rfl⟩
        subst hV3
        go_cut [11] (fun v wx => v = .int .i64 SC ∧ wx = V3)
        case first =>
          rcases HSC.out with ⟨a1, rfl⟩ | ⟨a1, rfl⟩
          · have g8 : ((sc.size : Int) == 8) = true := by rw [ZC.out, a1]; rfl
            clear a1
            go_wp2_with (first
              | (go_at_call 41; refine (HT3.out _).mono ?_; rintro e w9 ⟨rfl, rfl⟩)
              | fail)
            go_meet
            case rel => exact ⟨rfl, rfl⟩
          · have g8 : ((sc.size : Int) == 8) = false := by rw [ZC.out]; rw [beq_eq_false_iff_ne]; omega
            clear a1
            go_wp2_with fail
            go_meet
            case rel => exact ⟨rfl, rfl⟩
        case rest => as_aux_lemma =>
        obtain ⟨rfl, hwc⟩ := hcut
        rw [hwc]
        clear hwc
        have bS : -1 ≤ SC ∧ SC < 60 := by rcases HSC.out with ⟨_, a1⟩ | ⟨_, a1⟩ <;> omega
        have b1' : -1 ≤ H ∧ H < 24 := by omega
        have b2' : -1 ≤ MI ∧ MI < 60 := by omega
        clear HSC HT1 HT2 HT3 b1 b2 b3 k3
        go_wp2_with fail
        cases ZO with
        | none =>
          have HR0 : Hid (R = none) := by
            show _ = _
            rcases Classical.em (okF d y c dy H MI SC c2 c5) with h | h
            · exact HY.out h
            · exact HN.out h
          clear HY HN
          refine (HZO.out _).mono ?_
          rintro e w9 ⟨rfl, rfl⟩
          unfold optZ
          go_wp2_with fail
          go_ret2
          exact ⟨told_none HR0.out rfl, HB4.out⟩
        | some a =>
          obtain ⟨e60, ea1, ea2⟩ := HZB.out a rfl
          have HA60 := hid e60
          change Hid (∀ W : World, Calls Tryd.prog 51 #[.string sz] W fun e w' => e = .returned (.tuple #[.int .i64 (a / 60), .bool true]) ∧ w' = W) at HZO
          have bQ : -1500 ≤ a / 60 ∧ a / 60 ≤ 1500 := by omega
          generalize hQ : a / 60 = Q at *
          have HQA : Hid (Q * 60 = a) := HA60
          clear hQ e60 ea1 ea2 HA60 HZB
          refine (HZO.out _).mono ?_
          rintro e w9 ⟨rfl, rfl⟩
          clear HZO k4
          go_wp2_with fail
          cases dy with
          | false =>
            have HR0 : Hid (R = none) := HN.out (fun q => by have := q.2.2.1; simp at this)
            clear HY HN
            refine (HDT.out _).mono ?_
            rintro e w9 ⟨rfl, rfl⟩
            go_wp2_with fail
            go_ret2
            exact ⟨told_none HR0.out rfl, HB4.out⟩
          | true =>
            have HDB := hid (HDA.out (by trivial))
            have hDL := HDL.out (by trivial)
            clear HDA HDL
            refine (HDT.out _).mono ?_
            rintro e w9 ⟨rfl, rfl⟩
            by_cases cl : c.length = 5 ∨ c.length = 8
            · have HX2' := hid (HX2.out cl)
              have cl' := cl
              rcases cl with c5' | c8'
              · have g5 : ((sc.size : Int) != 5) = false := by rw [ZC.out, c5']; rfl
                have g8 : ((sc.size : Int) == 8) = false := by rw [ZC.out, c5']; rfl
                have c8 : ¬ c.length = 8 := by omega
                clear c5'
                by_cases nH : H < 0
                · have HR0 : Hid (R = none) := HN.out (fun q => by have := q.2.2.2.2.1; omega)
                  clear HY HN
                  go_wp2_with fail
                  go_ret2
                  exact ⟨told_none HR0.out rfl, HB4.out⟩
                · by_cases nM : MI < 0
                  · have HR0 : Hid (R = none) := HN.out (fun q => by have := q.2.2.2.2.2.1; omega)
                    clear HY HN
                    go_wp2_with fail
                    go_ret2
                    exact ⟨told_none HR0.out rfl, HB4.out⟩
                  · by_cases nS : SC < 0
                    · have HR0 : Hid (R = none) := HN.out (fun q => by have := q.2.2.2.2.2.2.1; omega)
                      clear HY HN
                      go_wp2_with fail
                      go_ret2
                      exact ⟨told_none HR0.out rfl, HB4.out⟩
                    · have hx2 := HX2'.out
                      by_cases e2 : c2 = 58
                      · subst e2
                        change ∀ W : World, (Instr.index 9 (.string sc) (.int .i64 2)).run Tryd.prog W = .ok (.int .u8 58) W at hx2
                        have HR0 := hid (HY.out ⟨nd', ny, rfl, cl', by omega, by omega, by omega, rfl, fun h => absurd h c8⟩)
                        change Hid (R = some (((DAY : Int) - 719162) * 86400 + H * 3600 + MI * 60 + SC - a)) at HR0
                        obtain ⟨N, hN⟩ : ∃ N : Int, (DAY : Int) - 719162 = N := ⟨_, rfl⟩
                        rw [hN] at HR0 HDB
                        have hNb : -719162 ≤ N ∧ N < 2932897 := by omega
                        clear hN hDL HY HN cl' ny
                        go_wp2_with (first
                          | (go_at_call 12; refine (HDB.out _).mono ?_; rintro e w9 ⟨rfl, rfl⟩)
                          | fail)
                        go_ret2
                        exact ⟨told_some HR0.out rfl (by have := HQA.out; omega), HB4.out⟩
                      · have HR0 : Hid (R = none) := HN.out (fun q => e2 q.2.2.2.2.2.2.2.1)
                        have b8 : ((c2.toNat : Int) != 58) = true := by rw [bne_iff_ne]; exact fun h => e2 ((u8_eq_iff c2 58).1 h)
                        clear HY HN e2
                        go_wp2_with fail
                        go_ret2
                        exact ⟨told_none HR0.out rfl, HB4.out⟩
              · have g5 : ((sc.size : Int) != 5) = true := by rw [ZC.out, c8']; rfl
                have g8 : ((sc.size : Int) == 8) = true := by rw [ZC.out, c8']; rfl
                have g8' : ((sc.size : Int) != 8) = false := by rw [ZC.out, c8']; rfl
                have hx5 := HX5.out c8'
                have c8 := c8'
                clear c8'
                by_cases nH : H < 0
                · have HR0 : Hid (R = none) := HN.out (fun q => by have := q.2.2.2.2.1; omega)
                  clear HY HN
                  go_wp2_with fail
                  go_ret2
                  exact ⟨told_none HR0.out rfl, HB4.out⟩
                · by_cases nM : MI < 0
                  · have HR0 : Hid (R = none) := HN.out (fun q => by have := q.2.2.2.2.2.1; omega)
                    clear HY HN
                    go_wp2_with fail
                    go_ret2
                    exact ⟨told_none HR0.out rfl, HB4.out⟩
                  · by_cases nS : SC < 0
                    · have HR0 : Hid (R = none) := HN.out (fun q => by have := q.2.2.2.2.2.2.1; omega)
                      clear HY HN
                      go_wp2_with fail
                      go_ret2
                      exact ⟨told_none HR0.out rfl, HB4.out⟩
                    · have hx2 := HX2'.out
                      by_cases e2 : c2 = 58
                      · subst e2
                        change ∀ W : World, (Instr.index 9 (.string sc) (.int .i64 2)).run Tryd.prog W = .ok (.int .u8 58) W at hx2
                        by_cases e5 : c5 = 58
                        · subst e5
                          change ∀ W : World, (Instr.index 9 (.string sc) (.int .i64 5)).run Tryd.prog W = .ok (.int .u8 58) W at hx5
                          have HR0 := hid (HY.out ⟨nd', ny, rfl, cl', by omega, by omega, by omega, rfl, fun _ => rfl⟩)
                          change Hid (R = some (((DAY : Int) - 719162) * 86400 + H * 3600 + MI * 60 + SC - a)) at HR0
                          obtain ⟨N, hN⟩ : ∃ N : Int, (DAY : Int) - 719162 = N := ⟨_, rfl⟩
                          rw [hN] at HR0 HDB
                          have hNb : -719162 ≤ N ∧ N < 2932897 := by omega
                          clear hN hDL HY HN cl' ny
                          go_wp2_with (first
                            | (go_at_call 12; refine (HDB.out _).mono ?_; rintro e w9 ⟨rfl, rfl⟩)
                            | fail)
                          go_ret2
                          exact ⟨told_some HR0.out rfl (by have := HQA.out; omega), HB4.out⟩
                        · have HR0 : Hid (R = none) := HN.out (fun q => e5 (q.2.2.2.2.2.2.2.2 c8))
                          have b9 : ((c5.toNat : Int) != 58) = true := by rw [bne_iff_ne]; exact fun h => e5 ((u8_eq_iff c5 58).1 h)
                          clear HY HN e5 c8 cl'
                          go_wp2_with fail
                          go_ret2
                          exact ⟨told_none HR0.out rfl, HB4.out⟩
                      · have HR0 : Hid (R = none) := HN.out (fun q => e2 q.2.2.2.2.2.2.2.1)
                        have b8 : ((c2.toNat : Int) != 58) = true := by rw [bne_iff_ne]; exact fun h => e2 ((u8_eq_iff c2 58).1 h)
                        clear HY HN e2
                        go_wp2_with fail
                        go_ret2
                        exact ⟨told_none HR0.out rfl, HB4.out⟩
            · have g5 : ((sc.size : Int) != 5) = true := by rw [ZC.out, bne_iff_ne]; omega
              have g8 : ((sc.size : Int) != 8) = true := by rw [ZC.out, bne_iff_ne]; omega
              have HR0 : Hid (R = none) := HN.out (fun q => cl q.2.2.2.1)
              clear HY HN cl
              go_wp2_with fail
              go_ret2
              exact ⟨told_none HR0.out rfl, HB4.out⟩
      · have g4 : ((sy.size : Int) != 4) = true := by rw [ZY.out, bne_iff_ne]; omega
        have g2 : ((sy.size : Int) != 2) = true := by rw [ZY.out, bne_iff_ne]; omega
        have HR0 : Hid (R = none) := HN.out (fun q => ny q.2.1)
        clear ny
        go_wp2_with fail
        go_ret2
        exact ⟨told_none HR0.out rfl, HB2.out⟩

end Go.Proofs.YthpplcadpngdiaaDoor
