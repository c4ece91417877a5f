
/- The printer: what put, escaped and inQuotes of package xml do. -/
import Derived.Test.YthjibliaofmlhaaGreatDoorXmPrB
import Derived.Test.YthjibliaofmlhaaGreatDoorXmPar
import Derived.Test.YthjibliaofmlhaaGreatDoorXmRFold
namespace Go.Proofs.YthjibliaofmlhaaGreatDoor
set_option linter.unusedVariables false
set_option linter.unusedSimpArgs false
open Go.RowKit Go.BigFrame

/-- What a printer holds, where all found room. -/
def PrQ (w : World) (p : Nat) : Option (List UInt8) → Prop
  | some o => PrS w p o false ∧ o.length ≤ 65536
  | none => ∃ o, PrS w p o true ∧ o.length ≤ 65536
def addP (q : Option (List UInt8)) (x : List UInt8) : Option (List UInt8) := q.bind fun o => if o.length + x.length ≤ 65536 then some (o ++ x) else none
theorem addP_add (q : Option (List UInt8)) (x y : List UInt8) : addP (addP q x) y = addP q (x ++ y) := by
  cases q with
  | none => rfl
  | some o =>
    unfold addP
    simp only [Option.bind_some, List.length_append]
    by_cases h1 : o.length + x.length ≤ 65536
    · rw [if_pos h1]
      simp only [Option.bind_some, List.length_append]
      by_cases h2 : o.length + x.length + y.length ≤ 65536
      · rw [if_pos h2, if_pos (by omega), List.append_assoc]
      · rw [if_neg h2, if_neg (by omega)]
    · rw [if_neg h1, if_neg (by omega)]
      rfl
theorem addP_nil (w : World) (p : Nat) (q : Option (List UInt8)) (h : PrQ w p q) : addP q [] = q := by
  cases q with
  | none => rfl
  | some o =>
    unfold addP
    simp only [Option.bind_some, List.length_nil, Nat.add_zero, List.append_nil]
    rw [if_pos h.2]
theorem addP_no {q : Option (List UInt8)} {x : List UInt8} (h : 65536 < x.length) : addP q x = none := by
  cases q with
  | none => rfl
  | some o =>
    unfold addP
    simp only [Option.bind_some]
    rw [if_neg (by omega)]
theorem PrQ.below {w w' : World} {p : Nat} {q : Option (List UInt8)} (h : PrQ w p q) (hb : Below w.heap.size w w') : PrQ w' p q := by
  cases q with
  | none =>
    obtain ⟨o, h1, h2⟩ := h
    exact ⟨o, h1.below hb, h2⟩
  | some o => exact ⟨h.1.below hb, h.2⟩
theorem PrQ.lt {w : World} {p : Nat} {q : Option (List UInt8)} (h : PrQ w p q) : p < w.heap.size := by
  cases q with
  | none => obtain ⟨o, h1, _⟩ := h; exact h1.lt
  | some o => exact h.1.lt
/-- Texts as cells. -/
def svs (l : List (List UInt8)) : List Value := l.map fun x => .string (asS x)
theorem info4b : (Tryz.prog.info? 4).map (·.size) = some 1 := by kernel_rfl
theorem PrS.full {w : World} {p : Nat} {o : List UInt8} {f : Bool} (h : PrS w p o f) : ∃ a v, w.heap[p]? = some (.cells #[a, v, .bool f] 51 (0, 0)) ∧ w.cell? ⟨p, 2, none⟩ = some (.bool f) ∧ ∀ (b : Bool) W, Only p w W → W.heap[p]? = some (.cells #[a, v, .bool b] 51 (0, 0)) → PrS W p o b := by
  obtain ⟨a, v, hr, ha, hv⟩ := h
  exact ⟨a, v, hr, cell_of_row _ _ _ _ _ _ hr, fun b W ho hW => ⟨a, v, hW, ha, hv.frame fun q hq _ => ho.block q (fun e => by subst e; have := hv.blk_ge q hq; omega)⟩⟩
set_option maxHeartbeats 1000000 in
set_option maxRecDepth 100000 in
theorem put_any (p : Nat) (q : Option (List UInt8)) (l : List (List UInt8)) (hl : ∀ x ∈ l, x.length ≤ 4000000) (hn : l.length ≤ 1000) (g c : Nat) (w : World) (hg : g ≠ p) (hr : w.heap[g]? = some (.cells (svs l).toArray 9 (0, 0))) (h : PrQ w p q) :
    Calls Tryz.prog 46 #[.pointer (some ⟨p, 0, none⟩), .slice (some ⟨g, 0, none⟩) l.length c] w fun e w' => (∃ v, e = .returned v) ∧ PrQ w' p (addP q l.flatten) ∧ Kp p w w' := by
  have HR := hid hr
  have HQ0 : Hid (PrQ w p (addP q (l.take 0).flatten)) := by show PrQ _ _ _; rw [show (l.take 0).flatten = [] from rfl, addP_nil w p q h]; exact h
  have HCE : Hid (∀ W : World, W.heap[g]? = some (.cells (svs l).toArray 9 (0, 0)) → ∀ j, j < l.length → W.cell? ⟨g, j, none⟩ = some (.string (asS (l.getD j [])))) := fun W hW j hj => by
    refine cell_of_row _ _ _ _ _ _ hW |>.trans ?_
    simp [svs, List.getD_eq_getElem?_getD, List.getElem?_eq_getElem hj]
  have HTK : Hid (∀ k, k < l.length → addP q (l.take (k + 1)).flatten = addP (addP q (l.take k).flatten) (l.getD k [])) := fun k hk => by
    rw [addP_add, take_getD l [] k hk]
    simp
  have HLX : Hid (∀ k, k < l.length → (l.getD k []).length ≤ 4000000) := fun k hk => hl _ (by rw [List.getD_eq_getElem?_getD, List.getElem?_eq_getElem hk]; exact List.getElem_mem hk)
  have HALL : Hid (l.take l.length = l) := List.take_length
  have HG := hid hg
  clear hr h hl hg
  generalize hN : l.length = n at *
  clear hN
  go_enter Tryz.func46, Tryz.ntmps46
  go_wp2_with fail
  go_loopw [8] (fun i wr => ∃ k : Nat, k ≤ n ∧ i = .int .i64 (k : Int) ∧ Hid (PrQ wr p (addP q (l.take k).flatten)) ∧ Hid (Kp p w wr)) (fun i _ => n - (intOf i).toNat)
  case atStart => exact ⟨0, Nat.zero_le _, rfl, HQ0.out, Kp.refl _ _⟩
  case round =>
    obtain ⟨k, hk, rfl, HQ, HK⟩ := hrel
    by_cases hlt : k < n
    · have hi : (k : Int) < (n : Int) := by omega
      have hcell := HCE.out wr (HK.out.row HR.out HG.out (by decide)) k hlt
      have HT := hid (HTK.out k hlt)
      have HX := hid (HLX.out k hlt)
      have hz := asS_size (l.getD k [])
      generalize hq' : addP q (l.take k).flatten = q' at HQ HT
      clear hq'
      generalize l.getD k [] = x at hcell HT HX hz
      cases q' with
      | none =>
        obtain ⟨o, hs, ho⟩ := HQ.out
        obtain ⟨a, v, hrow, c2, hput⟩ := hs.full
        have HROW := hid hrow
        have HPUT := hid (hput true)
        have HO := hid ho
        clear hs hrow hput ho
        generalize asS x = X at hcell hz
        go_wp2_with (first
          | (refine store_part rfl 4 _ _ rfl p 2 (.bool true) _ _ #[a, v, .bool true] rfl rfl info4b (by simp) rfl rfl HROW.out rfl ?_)
          | fail)
        intro W1 ho1 hr1
        have c3 : W1.cell? ⟨p, 2, none⟩ = some (.bool true) := cell_of_row _ _ _ _ _ _ hr1
        have HS1 := hid (HPUT.out W1 ho1 hr1)
        have HK1 := hid (HK.out.trans (Kp.of_only ho1))
        clear ho1 hr1
        go_wp2_with fail
        go_roundw
        case rel =>
          refine ⟨k + 1, by omega, by go_num, ?_, HK1.out⟩
          show PrQ _ _ _
          rw [HT.out]
          exact ⟨o, HS1.out, HO.out⟩
        case measure => simp [intOf]; omega
      | some o =>
        obtain ⟨hs, ho⟩ := HQ.out
        obtain ⟨a, v, hrow, c2, hput⟩ := hs.full
        have HLN := hid (prLen_any p o false wr hs)
        have HROW := hid hrow
        have HPUT := hid hput
        have HO := hid ho
        have hx := HX.out
        by_cases hf : o.length + x.length ≤ 65536
        · have HWS := hid (fun W hW => prWrite_any p o x false (by omega) W hW)
          have hb : ¬ (65536 : Int) < (o.length : Int) + ((asS x).size : Int) := by rw [hz]; omega
          have HA : Hid (addP (some o) x = some (o ++ x)) := by show _ = _; unfold addP; simp only [Option.bind_some]; rw [if_pos hf]
          have HF : Hid ((o ++ x).length ≤ 65536) := by show _ ≤ _; rw [List.length_append]; exact hf
          clear hs hrow hput hf
          have hX : (asS x).size ≤ 4000000 := by rw [hz]; exact hx
          clear hz hx
          generalize asS x = X at hcell hb HWS hX
          generalize o.length = ol at HLN hb ho
          have hbd : decide ((65536 : Int) < (ol : Int) + (X.size : Int)) = false := decide_eq_false hb
          clear hb
          go_wp2_with fail
          refine Calls.mono HLN.out ?_
          rintro e W ⟨rfl, rfl⟩
          go_wp2_with (first
            | (refine store_part rfl 4 _ _ rfl p 2 (.bool false) _ _ #[a, v, .bool false] rfl rfl info4b (by simp) rfl rfl HROW.out rfl ?_)
            | fail)
          intro W1 ho1 hr1
          have c3 : W1.cell? ⟨p, 2, none⟩ = some (.bool false) := cell_of_row _ _ _ _ _ _ hr1
          have HS1 := hid (HPUT.out false W1 ho1 hr1)
          have HK1 := hid (HK.out.trans (Kp.of_only ho1))
          clear ho1 hr1
          go_wp2_with fail
          refine Calls.mono (HWS.out _ HS1.out) ?_
          rintro e W2 ⟨⟨u, rfl⟩, hs2, hk2⟩
          have HS2 := hid hs2
          have HK2 := hid (HK1.out.trans hk2)
          clear hs2 hk2
          go_wp2_with fail
          go_roundw
          case rel =>
            refine ⟨k + 1, by omega, by go_num, ?_, HK2.out⟩
            show PrQ _ _ _
            rw [HT.out, HA.out]
            exact ⟨HS2.out, HF.out⟩
          case measure => simp [intOf]; omega
        · have hb : (65536 : Int) < (o.length : Int) + ((asS x).size : Int) := by rw [hz]; omega
          have HA : Hid (addP (some o) x = none) := by show _ = _; unfold addP; simp only [Option.bind_some]; rw [if_neg hf]
          clear hs hrow hput hf
          have hX : (asS x).size ≤ 4000000 := by rw [hz]; exact hx
          clear hz hx
          generalize asS x = X at hcell hb hX
          generalize o.length = ol at HLN hb ho
          have hbd : decide ((65536 : Int) < (ol : Int) + (X.size : Int)) = true := decide_eq_true hb
          clear hb
          go_wp2_with fail
          refine Calls.mono HLN.out ?_
          rintro e W ⟨rfl, rfl⟩
          go_wp2_with (first
            | (refine store_part rfl 4 _ _ rfl p 2 (.bool true) _ _ #[a, v, .bool true] rfl rfl info4b (by simp) rfl rfl HROW.out rfl ?_)
            | fail)
          intro W1 ho1 hr1
          have c3 : W1.cell? ⟨p, 2, none⟩ = some (.bool true) := cell_of_row _ _ _ _ _ _ hr1
          have HS1 := hid (HPUT.out true W1 ho1 hr1)
          have HK1 := hid (HK.out.trans (Kp.of_only ho1))
          clear ho1 hr1
          go_wp2_with fail
          go_roundw
          case rel =>
            refine ⟨k + 1, by omega, by go_num, ?_, HK1.out⟩
            show PrQ _ _ _
            rw [HT.out, HA.out]
            exact ⟨o, HS1.out, HO.out⟩
          case measure => simp [intOf]; omega
    · have hi : ¬ (k : Int) < (n : Int) := by omega
      have hkn : k = n := by omega
      have HF := hid HQ.out
      rw [hkn, HALL.out] at HF
      clear hkn
      go_wp2_with fail
      go_end0
      exact ⟨⟨_, rfl⟩, HF.out, HK.out⟩
/-! A text as it is written. -/
theorem esc_ge : ∀ l : List UInt8, l.length ≤ (escL l).length
  | [] => Nat.zero_le _
  | c :: r => by
    have ih := esc_ge r
    have h1 : 1 ≤ (escE c).length := by
      unfold escE
      repeat' split
      all_goals simp
    rw [escL_cons, List.length_append, List.length_cons]
    omega
/-- What escaped hands back. -/
def escP (q : Option (List UInt8)) (s : List UInt8) : List UInt8 := if q.isNone || decide (65536 < s.length) then [] else escL s
def escQ (q : Option (List UInt8)) (s : List UInt8) : Option (List UInt8) := if decide (65536 < s.length) then none else q
set_option maxHeartbeats 1000000 in
theorem escaped_any (p : Nat) (q : Option (List UInt8)) (s : List UInt8) (hx : X s = true) (w : World) (h : PrQ w p q) :
    Calls Tryz.prog 47 #[.pointer (some ⟨p, 0, none⟩), .string (asS s)] w fun e w' => e = .returned (.string (asS (escP q s))) ∧ PrQ w' p (escQ q s) ∧ Kp p w w' := by
  have hz := asS_size s
  have hplt := h.lt
  have HX := hid (fun (hl : s.length ≤ 100000) W => escape_ok s hl (by have := X_err s; rw [hx] at this; exact of_decide_eq_true this.symm) W)
  unfold escP escQ
  cases q with
  | none =>
    obtain ⟨o, hs', ho⟩ := h
    obtain ⟨a, v, hrow, c2, hput⟩ := hs'.full
    have HROW := hid hrow
    have HPUT := hid (hput true)
    have HO := hid ho
    have HQ : Hid (∀ W, Only p w W → W.heap[p]? = some (.cells #[a, v, .bool true] 51 (0, 0)) → PrQ W p none) := fun W h1 h2 => ⟨o, hput true W h1 h2, ho⟩
    have hnn : (if decide (65536 < s.length) = true then (none : Option (List UInt8)) else none) = none := by split <;> rfl
    rw [hnn]
    simp only [Option.isNone_none, Bool.true_or, if_true]
    clear hnn
    clear hs' hrow hput ho HX hz hx
    have hE : asS [] = ⟨#[]⟩ := rfl
    rw [hE]
    generalize asS s = S
    go_enter Tryz.func47, Tryz.ntmps47
    go_wp2_with (first
      | (refine store_part rfl 4 _ _ rfl p 2 (.bool true) _ _ #[a, v, .bool true] rfl rfl info4b (by simp) rfl rfl HROW.out rfl ?_)
      | fail)
    intro W1 ho1 hr1
    have HQ1 := hid (HQ.out W1 ho1 hr1)
    have HK1 := hid (Kp.of_only ho1)
    clear ho1 hr1
    go_wp2_with fail
    go_ret
    exact ⟨rfl, HQ1.out, HK1.out⟩
  | some o =>
    obtain ⟨hs', ho⟩ := h
    obtain ⟨a, v, hrow, c2, hput⟩ := hs'.full
    simp only [Option.isNone_some, Bool.false_or]
    by_cases hb : 65536 < s.length
    · rw [decide_eq_true hb]
      simp only [if_true]
      have hb' : (65536 : Int) < ((asS s).size : Int) := by rw [hz]; omega
      have HROW := hid hrow
      have HQ : Hid (∀ W, Only p w W → W.heap[p]? = some (.cells #[a, v, .bool true] 51 (0, 0)) → PrQ W p none) := fun W h1 h2 => ⟨o, hput true W h1 h2, ho⟩
      clear hs' hrow hput ho HX hz hx hb
      have hE : asS [] = ⟨#[]⟩ := rfl
      rw [hE]
      generalize asS s = S at hb' ⊢
      go_enter Tryz.func47, Tryz.ntmps47
      go_wp2_with (first
        | (refine store_part rfl 4 _ _ rfl p 2 (.bool true) _ _ #[a, v, .bool true] rfl rfl info4b (by simp) rfl rfl HROW.out rfl ?_)
        | fail)
      intro W1 ho1 hr1
      have HQ1 := hid (HQ.out W1 ho1 hr1)
      have HK1 := hid (Kp.of_only ho1)
      clear ho1 hr1
      go_wp2_with fail
      go_ret
      exact ⟨rfl, HQ1.out, HK1.out⟩
    · rw [decide_eq_false hb]
      simp only [Bool.false_eq_true, if_false]
      have hb' : ¬ (65536 : Int) < ((asS s).size : Int) := by rw [hz]; omega
      have HE := hid (HX.out (by omega))
      have HQ := hid (show PrQ w p (some o) from ⟨hs', ho⟩)
      have HPL := hid hplt
      clear hs' hrow hput ho HX hz hx hb hplt
      generalize asS s = S at hb' HE ⊢
      generalize asS (escL s) = ES at HE ⊢
      go_enter Tryz.func47, Tryz.ntmps47
      go_wp2_with fail
      refine Calls.mono (HE.out _) ?_
      rintro e W1 ⟨rfl, hb1⟩
      have HB1 := hid hb1
      clear hb1
      go_wp2_with fail
      go_ret
      exact ⟨rfl, HQ.out.below HB1.out, Kp.of_below HB1.out (by have := HPL.out; omega)⟩
/-! An escaped text as it is written in an attribute. -/
theorem rep_flat (x : UInt8) (new : List UInt8) : ∀ (f : Nat) (l : List UInt8), l.length ≤ f → repF [x] new f l = l.flatMap fun c => if c = x then new else [c]
  | 0, [], _ => rfl
  | 0, c :: r, h => by simp at h
  | f + 1, [], _ => rfl
  | f + 1, c :: r, h => by
    have ih := rep_flat x new f r (by simpa using h)
    simp only [repF]
    by_cases hc : c = x
    · subst hc
      rw [if_pos (by simp [List.isPrefixOf])]
      simp [ih]
    · have hx : ¬ (x == c) = true := by rw [beq_iff_eq]; exact fun e => hc e.symm
      rw [if_neg (by simp [List.isPrefixOf]; exact fun e => hc e.symm)]
      simp [ih, hc]
theorem replace_long (l : List UInt8) (x : UInt8) (new : List UInt8) (hl : l.length ≤ 4000000) (hn : new.length ≤ 6) (hne : [x] ≠ new) (w : World) (hT : TabE w) : Calls Tryz.prog 57 #[.string (asS l), .string (asS [x]), .string (asS new)] w fun e w' => e = .returned (.string (asS (l.flatMap fun c => if c = x then new else [c]))) ∧ Below w.heap.size w w' := by
  obtain ⟨m, hm⟩ := hT.max
  have hc := Lib.count_le l [x]
  have hb : Lib.countB (asS l) (asS [x]) = Lib.count l [x] := rfl
  have hmul : Lib.count l [x] * (asS new).size ≤ Lib.count l [x] * 6 := Nat.mul_le_mul_left _ (by rw [asS_size]; exact hn)
  refine (Tryz.strings_ReplaceAll (asS l) (asS [x]) (asS new) m w (by rw [asS_size]; omega) hm (by rw [asS_size]; exact Nat.le_refl _) (by rw [hb, asS_size l]; omega)).mono ?_
  rintro e w' ⟨rfl, hb⟩
  rw [asS_data, asS_data, asS_data, replaceAll_rep [x] new l (Nat.le_refl _) hne, rep_flat x new l.length l (Nat.le_refl _)]
  exact ⟨rfl, hb⟩
theorem tab_two (l : List UInt8) : (l.flatMap fun c => if c = 9 then [38, 35, 57, 59] else [c]).flatMap (fun c => if c = 10 then [38, 35, 49, 48, 59] else [c]) = l.flatMap tabE := by
  induction l with
  | nil => rfl
  | cons c r ih =>
    rw [List.flatMap_cons, List.flatMap_append, ih, List.flatMap_cons]
    congr 1
    unfold tabE
    by_cases h9 : c = 9
    · subst h9; decide
    · rw [if_neg h9, if_neg h9]
      by_cases h10 : c = 10
      · subst h10; decide
      · rw [if_neg h10]
        simp [h10]
theorem flat_len (f : UInt8 → List UInt8) (k : Nat) (hf : ∀ c, (f c).length ≤ k) : ∀ l : List UInt8, (l.flatMap f).length ≤ k * l.length
  | [] => by simp
  | c :: r => by
    have h1 := hf c
    have h2 := flat_len f k hf r
    rw [List.flatMap_cons, List.length_append, List.length_cons, Nat.mul_add]
    omega
theorem inQuotes_any (l : List UInt8) (hl : l.length ≤ 600000) (w : World) (hT : TabE w) : Calls Tryz.prog 48 #[.string (asS l)] w fun e w' => e = .returned (.string (asS (l.flatMap tabE))) ∧ Below w.heap.size w w' := by
  have HA : Hid (∀ W, TabE W → Calls Tryz.prog 57 #[.string (asS l), .string ⟨#[9]⟩, .string ⟨#[38, 35, 57, 59]⟩] W fun e w' => e = .returned (.string (asS (l.flatMap fun c => if c = 9 then [38, 35, 57, 59] else [c]))) ∧ Below W.heap.size W w') := fun W hW => replace_long l 9 [38, 35, 57, 59] (by omega) (by decide) (by decide) W hW
  have h2 : (l.flatMap fun c => if c = 9 then [38, 35, 57, 59] else [c]).length ≤ 4 * l.length := flat_len _ 4 (fun c => by split <;> simp) l
  have ht := tab_two l
  generalize (l.flatMap fun c => if c = 9 then [38, 35, 57, 59] else [c]) = m at HA h2 ht
  have HC : Hid (∀ W, TabE W → Calls Tryz.prog 57 #[.string (asS m), .string ⟨#[10]⟩, .string ⟨#[38, 35, 49, 48, 59]⟩] W fun e w' => e = .returned (.string (asS (l.flatMap tabE))) ∧ Below W.heap.size W w') := fun W hW => by
    have c := replace_long m 10 [38, 35, 49, 48, 59] (by omega) (by decide) (by decide) W hW
    rw [ht] at c
    exact c
  have HT := hid hT
  clear h2 ht hl hT
  generalize asS (l.flatMap tabE) = R at HC ⊢
  generalize asS l = L at HA ⊢
  generalize asS m = M at HA HC
  go_enter Tryz.func48, Tryz.ntmps48
  go_wp2_with fail
  refine Calls.mono (HA.out _ HT.out) ?_
  rintro e W1 ⟨rfl, hb1⟩
  have HB1 := hid hb1
  have HT1 := hid (HT.out.below hb1)
  clear hb1
  go_wp2_with fail
  refine Calls.mono (HC.out _ HT1.out) ?_
  rintro e W2 ⟨rfl, hb2⟩
  have HB2 := hid (HB1.out.trans (hb2.mono HB1.out.size))
  clear hb2
  go_wp2_with fail
  go_ret
  exact ⟨rfl, HB2.out⟩
end Go.Proofs.YthjibliaofmlhaaGreatDoor
