
/- The printer: what node of package xml does. -/
import Derived.Test.YthjibliaofmlhaaGreatDoorXmPrP
import Derived.Test.YthjibliaofmlhaaGreatDoorXmSame
namespace Go.Proofs.YthjibliaofmlhaaGreatDoor
set_option linter.unusedVariables false
set_option linter.unusedSimpArgs false
open Go.RowKit Go.BigFrame
attribute [local go_sem ↓] loadN_eq

theorem TabE.kp {w w' : World} {p : Nat} (h : TabE w) (hk : Kp p w w') (hp : 8 ≤ p) : TabE w' := by
  obtain ⟨m, hm⟩ := h.max
  obtain ⟨te, pe, hs⟩ := h.syn
  exact ⟨⟨m, by rw [hk.low.cell (p := ⟨0, 0, none⟩) (by show 0 < p; omega)]; exact hm⟩, ⟨te, pe, by rw [hk.low.cell (p := ⟨3, 0, none⟩) (by show 3 < p; omega)]; exact hs⟩⟩
theorem esc_put (q : Option (List UInt8)) (s : List UInt8) : addP (escQ q s) (escP q s) = addP q (escL s) := by
  unfold escQ escP
  by_cases hb : 65536 < s.length
  · rw [decide_eq_true hb]
    simp only [if_true]
    have := esc_ge s
    rw [addP_no (q := q) (x := escL s) (by omega)]
    rfl
  · rw [decide_eq_false hb]
    simp only [Bool.or_false, Bool.false_eq_true, if_false]
    cases q <;> rfl
theorem tab_ge : ∀ l : List UInt8, l.length ≤ (l.flatMap tabE).length
  | [] => Nat.zero_le _
  | c :: r => by
    have ih := tab_ge r
    have h1 : 1 ≤ (tabE c).length := by
      unfold tabE
      repeat' split
      all_goals simp
    rw [List.flatMap_cons, List.length_append, List.length_cons]
    omega
theorem att_put (q : Option (List UInt8)) (a : HdV) : addP (escQ q a.value) ([[32], a.name, [61, 34], (escP q a.value).flatMap tabE, [34]] : List (List UInt8)).flatten = addP q (attP a) := by
  unfold escQ escP
  by_cases hb : 65536 < a.value.length
  · rw [decide_eq_true hb]
    simp only [if_true]
    have h1 := esc_ge a.value
    have h2 := tab_ge (escL a.value)
    rw [addP_no (q := q) (x := attP a) (by unfold attP attE; simp only [List.length_cons, List.length_append]; omega)]
    rfl
  · rw [decide_eq_false hb]
    simp only [Bool.or_false, Bool.false_eq_true, if_false]
    cases q with
    | none => rfl
    | some o =>
      simp only [Option.isNone_some, Bool.false_eq_true, if_false]
      have e : ([[32], a.name, [61, 34], (escL a.value).flatMap tabE, [34]] : List (List UInt8)).flatten = attP a := by
        unfold attP attE
        simp
      rw [e]
theorem print_eq : ∀ (d : Nat) (t : Tr d), printT d t = if (nmT d t).isEmpty then escL (txT d t) else if (kidsT d t).isEmpty then opP (lab d t) ++ [47, 62] else opP (lab d t) ++ 62 :: ((kidsT d t).flatMap (printT (d - 1)) ++ clP (nmT d t))
  | 0, t => rfl
  | _ + 1, t => rfl
theorem may_partsN {d : Nat} {t : Tr d} (h : mayT d t = true) : ((nmT d t).isEmpty = true → X (txT d t) = true) ∧ ((nmT d t).isEmpty = false → (nmT d t).length ≤ 64 ∧ (∀ a ∈ (lab d t).2.1, a.name.length ≤ 64 ∧ X a.value = true) ∧ ∀ k ∈ kidsT d t, mayT (d - 1) k = true) := by
  have hm : mayTop (lab d t) (kidsT d t).isEmpty ((kidsT d t).all (mayT (d - 1)) && noAdj ((kidsT d t).map fun k => (nmT (d - 1) k).isEmpty)) = true := by
    cases d <;> exact h
  have e1 : (lab d t).1 = nmT d t := rfl
  have e2 : (lab d t).2.2 = txT d t := rfl
  unfold mayTop at hm
  rw [e1, e2] at hm
  constructor
  · intro he
    rw [if_pos he] at hm
    simp only [Bool.and_eq_true] at hm
    exact hm.2
  · intro he
    rw [if_neg (by rw [he]; simp)] at hm
    simp only [Bool.and_eq_true] at hm
    obtain ⟨⟨⟨h1, h2⟩, h3⟩, h4, h5⟩ := hm
    have n64 : ∀ x : List UInt8, nameX x = true → x.length ≤ 64 := fun x hx => by
      unfold nameX at hx
      simp only [Bool.and_eq_true, decide_eq_true_eq] at hx
      exact hx.1.1.2
    refine ⟨n64 _ h1, fun a ha => ?_, fun k hk => List.all_eq_true.1 h4 k hk⟩
    unfold attsOk at h3
    rw [Bool.and_eq_true] at h3
    have := List.all_eq_true.1 h3.1 a ha
    rw [Bool.and_eq_true] at this
    exact ⟨n64 _ this.1, this.2⟩
/-- node does what it is to. -/
def NodeOk (d : Nat) (t : Tr d) : Prop := ∀ (cs : Array Value) (w : World) (p : Nat) (q : Option (List UInt8)), NdAt (fun g => g < p) d w cs t → 8 ≤ p → TabE w → PrQ w p q → Calls Tryz.prog 27 #[.pointer (some ⟨p, 0, none⟩), .agg cs] w fun e w' => (∃ v, e = .returned v) ∧ PrQ w' p (addP q (printT d t)) ∧ Kp p w w'
/-- put, of texts that were just laid side by side. -/
theorem put_new (p : Nat) (l : List (List UInt8)) (hl : ∀ x ∈ l, x.length ≤ 4000000) (hn : l.length ≤ 1000) (q : Option (List UInt8)) (c : Nat) (W : World) (h : PrQ W p q) :
    Calls Tryz.prog 46 #[.pointer (some ⟨p, 0, none⟩), .slice (some ⟨W.heap.size, 0, none⟩) l.length c] (W.alloc (.cells (svs l).toArray 9 (0, 0))) fun e w' => (∃ v, e = .returned v) ∧ PrQ w' p (addP q l.flatten) ∧ Kp p W w' := by
  have hb : Below W.heap.size W (W.alloc (.cells (svs l).toArray 9 (0, 0))) := (Below.refl _ _).alloc (Nat.le_refl _) _
  have hlt := h.lt
  refine (put_any p q l hl hn W.heap.size c _ (by omega) (heap_alloc_new W _) (h.below hb)).mono ?_
  rintro e w' ⟨h1, h2, h3⟩
  exact ⟨h1, h2, (Kp.of_below hb (by omega)).trans h3⟩
set_option maxHeartbeats 2000000 in
set_option maxRecDepth 100000 in
theorem node_text (d : Nat) (t : Tr d) (hm : mayT d t = true) (he : (nmT d t).isEmpty = true) : NodeOk d t := by
  intro cs w p q hnd hp hT hq
  have hx := (may_partsN hm).1 he
  have hpe := print_eq d t
  rw [if_pos he] at hpe
  obtain ⟨aA, ac, kA, kc, rfl, hh, hks, _⟩ := hnd.parts
  unfold ndcs
  have z1 : (asS (lab d t).1).toList.isEmpty = true := by
    have : (lab d t).1 = nmT d t := rfl
    rw [this, emp8]
    cases hn : nmT d t with
    | nil => rfl
    | cons a r => rw [hn] at he; cases he
  have HES := hid (fun W hW => escaped_any p q (txT d t) hx W hW)
  have HPU : Hid (∀ W, PrQ W p (escQ q (txT d t)) → Calls Tryz.prog 46 #[.pointer (some ⟨p, 0, none⟩), .slice (some ⟨W.heap.size, 0, none⟩) 1 1] (W.alloc (.cells #[.string (asS (escP q (txT d t)))] 9 (0, 0))) fun e w' => (∃ v, e = .returned v) ∧ PrQ w' p (addP q (escL (txT d t))) ∧ Kp p W w') := fun W hW => by
    have := put_new p [escP q (txT d t)] (fun x hx => by
      simp at hx
      subst hx
      unfold escP
      split
      · simp
      · rename_i h
        simp at h
        have := escL_len (txT d t)
        omega) (by simp) (escQ q (txT d t)) 1 W hW
    rw [show ([escP q (txT d t)] : List (List UInt8)).flatten = escP q (txT d t) from by simp, esc_put] at this
    exact this
  have HB0 := hid ((Below.refl w.heap.size w).alloc (Nat.le_refl _) (.cells #[.string (asS (lab d t).1), .slice aA (lab d t).2.1.length ac, .string (asS (lab d t).2.2), .slice kA (kidsT d t).length kc] 25))
  have HQ := hid hq
  have HLT := hid hq.lt
  have etx : txT d t = (lab d t).2.2 := rfl
  rw [hpe]
  rw [etx] at HES HPU ⊢
  clear hnd hp hT hq hx hpe hh hks hm he etx
  generalize asS (lab d t).1 = NM at *
  generalize (lab d t).2.1.length = an at *
  generalize (kidsT d t).length = kn at *
  generalize escL (lab d t).2.2 = EL at *
  generalize asS (escP q (lab d t).2.2) = EP at *
  generalize escQ q (lab d t).2.2 = q2 at *
  generalize asS (lab d t).2.2 = TX at *
  go_enter Tryz.func27, Tryz.ntmps27
  go_wp2_with fail
  refine Calls.mono (HES.out _ (HQ.out.below HB0.out)) ?_
  rintro e W1 ⟨rfl, hq1, hk1⟩
  have HQ1 := hid hq1
  have HK1 := hid ((Kp.of_below HB0.out (by have := HLT.out; omega)).trans hk1)
  clear hq1 hk1
  go_wp2_with fail
  refine Calls.mono (HPU.out _ HQ1.out) ?_
  rintro e W2 ⟨⟨v, rfl⟩, hq2, hk2⟩
  have HQ2 := hid hq2
  have HK2 := hid (HK1.out.trans hk2)
  clear hq2 hk2
  go_wp2_with fail
  exact ⟨by simp, _, results_none rfl _ _ _, ⟨_, rfl⟩, HQ2.out, HK2.out⟩
theorem put_ltn (p : Nat) (nm : List UInt8) (hn : nm.length ≤ 64) (W : World) (q : Option (List UInt8)) (hW : PrQ W p q) : Calls Tryz.prog 46 #[.pointer (some ⟨p, 0, none⟩), .slice (some ⟨W.heap.size, 0, none⟩) 2 2] (W.alloc (.cells #[.string ⟨#[60]⟩, .string (asS nm)] 9 (0, 0))) fun e w' => (∃ v, e = .returned v) ∧ PrQ w' p (addP q (60 :: nm)) ∧ Kp p W w' := by
  have := put_new p [[60], nm] (fun x hx => by
    simp only [List.mem_cons, List.not_mem_nil, or_false] at hx
    rcases hx with rfl | rfl
    · decide
    · omega) (by simp) q 2 W hW
  rw [show ([[60], nm] : List (List UInt8)).flatten = 60 :: nm from by simp] at this
  exact this
theorem put_end (p : Nat) (W : World) (q : Option (List UInt8)) (hW : PrQ W p q) : Calls Tryz.prog 46 #[.pointer (some ⟨p, 0, none⟩), .slice (some ⟨W.heap.size, 0, none⟩) 1 1] (W.alloc (.cells #[.string ⟨#[47, 62]⟩] 9 (0, 0))) fun e w' => (∃ v, e = .returned v) ∧ PrQ w' p (addP q [47, 62]) ∧ Kp p W w' :=
  put_new p [[47, 62]] (fun x hx => by simp only [List.mem_cons, List.not_mem_nil, or_false] at hx; subst hx; decide) (by simp) q 1 W hW
theorem put_gt (p : Nat) (W : World) (q : Option (List UInt8)) (hW : PrQ W p q) : Calls Tryz.prog 46 #[.pointer (some ⟨p, 0, none⟩), .slice (some ⟨W.heap.size, 0, none⟩) 1 1] (W.alloc (.cells #[.string ⟨#[62]⟩] 9 (0, 0))) fun e w' => (∃ v, e = .returned v) ∧ PrQ w' p (addP q [62]) ∧ Kp p W w' :=
  put_new p [[62]] (fun x hx => by simp only [List.mem_cons, List.not_mem_nil, or_false] at hx; subst hx; decide) (by simp) q 1 W hW
theorem put_close (p : Nat) (nm : List UInt8) (hn : nm.length ≤ 64) (W : World) (q : Option (List UInt8)) (hW : PrQ W p q) : Calls Tryz.prog 46 #[.pointer (some ⟨p, 0, none⟩), .slice (some ⟨W.heap.size, 0, none⟩) 3 3] (W.alloc (.cells #[.string ⟨#[60, 47]⟩, .string (asS nm), .string ⟨#[62]⟩] 9 (0, 0))) fun e w' => (∃ v, e = .returned v) ∧ PrQ w' p (addP q (clP nm)) ∧ Kp p W w' := by
  have := put_new p [[60, 47], nm, [62]] (fun x hx => by
    simp only [List.mem_cons, List.not_mem_nil, or_false] at hx
    rcases hx with rfl | rfl | rfl
    · decide
    · omega
    · decide) (by simp) q 3 W hW
  rw [show ([[60, 47], nm, [62]] : List (List UInt8)).flatten = clP nm from by simp [clP]] at this
  exact this
theorem escP_len (q : Option (List UInt8)) (s : List UInt8) : (escP q s).length ≤ 6 * 65536 := by
  unfold escP
  split
  · simp
  · rename_i h
    simp only [Bool.or_eq_true, decide_eq_true_eq, not_or] at h
    have := escL_len s
    omega
theorem tab_le (c : UInt8) : (tabE c).length ≤ 5 := by
  unfold tabE
  repeat' split
  all_goals simp
theorem put_attr (p : Nat) (a : HdV) (ha : a.name.length ≤ 64) (W : World) (q : Option (List UInt8)) (hW : PrQ W p (escQ q a.value)) : Calls Tryz.prog 46 #[.pointer (some ⟨p, 0, none⟩), .slice (some ⟨W.heap.size, 0, none⟩) 5 5] (W.alloc (.cells #[.string ⟨#[32]⟩, .string (asS a.name), .string ⟨#[61, 34]⟩, .string (asS ((escP q a.value).flatMap tabE)), .string ⟨#[34]⟩] 9 (0, 0))) fun e w' => (∃ v, e = .returned v) ∧ PrQ w' p (addP q (attP a)) ∧ Kp p W w' := by
  have h6 := escP_len q a.value
  have h5 := flat_len tabE 5 tab_le (escP q a.value)
  have := put_new p [[32], a.name, [61, 34], (escP q a.value).flatMap tabE, [34]] (fun x hx => by
    simp only [List.mem_cons, List.not_mem_nil, or_false] at hx
    rcases hx with rfl | rfl | rfl | rfl | rfl
    · decide
    · omega
    · decide
    · omega
    · decide) (by simp) (escQ q a.value) 5 W hW
  rw [att_put] at this
  exact this
set_option maxHeartbeats 1000000 in
set_option maxRecDepth 100000 in
theorem node_core (nm : List UInt8) (al : List HdV) (d : Nat) (ks : List (Tr d)) (hn0 : nm ≠ []) (hn64 : nm.length ≤ 64) (hna : al.length ≤ 1000000) (hnk : ks.length ≤ 1000000) (hat : ∀ a ∈ al, a.name.length ≤ 64 ∧ X a.value = true) (IH : ∀ k ∈ ks, NodeOk d k)
    (aA : Option Addr) (ac : Nat) (kA : Option Addr) (kc : Nat) (TX : ByteArray) (w : World) (p : Nat) (q : Option (List UInt8)) (hh : HdsP (fun g => g < p) w aA al) (hks : NdsAt (fun g => g < p) d w kA ks) (hp : 8 ≤ p) (hT : TabE w) (hq : PrQ w p q) :
    Calls Tryz.prog 27 #[.pointer (some ⟨p, 0, none⟩), .agg #[.string (asS nm), .slice aA al.length ac, .string TX, .slice kA ks.length kc]] w fun e w' => (∃ v, e = .returned v) ∧ PrQ w' p (addP (addP (addP q (60 :: nm)) (al.flatMap attP)) (if ks.isEmpty then [47, 62] else 62 :: (ks.flatMap (printT d) ++ clP nm))) ∧ Kp p w w' := by
  have z1 : (asS nm).toList.isEmpty = false := by rw [emp8]; exact decide_eq_false hn0
  have zk : ((ks.length : Int) == 0) = ks.isEmpty := by cases ks <;> simp <;> omega
  have HP1 := hid (put_ltn p nm hn64)
  have HP2 := hid (put_end p)
  have HP3 := hid (put_gt p)
  have HP4 := hid (put_close p nm hn64)
  have HQ := hid hq
  have HLT := hid hq.lt
  have HP8 := hid hp
  have HT := hid hT
  have HAT : Hid (∀ k, k < al.length → (al.getD k zeroH).name.length ≤ 64 ∧ X (al.getD k zeroH).value = true) := fun k hk => hat _ (by rw [List.getD_eq_getElem?_getD, List.getElem?_eq_getElem hk]; exact List.getElem_mem hk)
  have HIH : Hid (∀ k, k < ks.length → NodeOk d (ks.getD k (zeroT d))) := fun k hk => IH _ (getD_mem9 hk)
  have HHD : Hid (∀ W, Below p w W → HdsAt W aA al) := fun W hb h0 => by
    obtain ⟨g, o, e1, e2, e3⟩ := hh.1 h0
    have hg : g < p := hh.2 h0 _ e1
    exact ⟨g, o, e1, Nat.lt_of_lt_of_le e2 hb.size, fun j hj => ⟨(hb.cell (p := ⟨g, o + j * 2, none⟩) hg).trans (e3 j hj).1, (hb.cell (p := ⟨g, o + j * 2 + 1, none⟩) hg).trans (e3 j hj).2⟩⟩
  have HKD : Hid (∀ W, Below p w W → NdsAt (fun g => g < p) d W kA ks) := fun W hb => hks.frame hb.size fun g hg _ => ⟨hb.block g hg, hg⟩
  have HTKA := hid (take_hd al)
  have HTKK := hid (take_getD ks (zeroT d))
  have HALA : Hid (al.take al.length = al) := List.take_length
  have HALK : Hid (ks.take ks.length = ks) := List.take_length
  obtain ⟨PT, hPT⟩ : ∃ PT, (if ks.isEmpty then [47, 62] else 62 :: (ks.flatMap (printT d) ++ clP nm)) = PT := ⟨_, rfl⟩
  rw [hPT]
  have HPE := hid hPT
  clear hPT
  generalize hqa : addP (addP q (60 :: nm)) (al.flatMap attP) = qa
  have HQAE := hid hqa
  clear hqa
  clear hh hks hp hT hq hat IH hn0 hn64
  generalize asS nm = NM at z1 HP1 HP4 ⊢
  generalize ks.isEmpty = bk at zk HPE
  generalize hnae : al.length = na at hna HAT HTKA HALA ⊢
  generalize hnke : ks.length = nk at hnk zk HIH HTKK HALK ⊢
  have HNA := hid hnae
  have HNK := hid hnke
  clear hnae hnke
  have HB0 := hid ((Below.refl w.heap.size w).alloc (Nat.le_refl _) (.cells #[.string NM, .slice aA na ac, .string TX, .slice kA nk kc] 25))
  have HROW := hid (heap_alloc_new w (.cells #[.string NM, .slice aA na ac, .string TX, .slice kA nk kc] 25))
  have HP1' := hid (HP1.out _ q (HQ.out.below HB0.out))
  rw [show (w.alloc (.cells #[.string NM, .slice aA na ac, .string TX, .slice kA nk kc] 25)).heap.size = w.heap.size + 1 from by simp] at HP1'
  go_enter Tryz.func27, Tryz.ntmps27
  go_wp2_with fail
  refine Calls.mono HP1'.out ?_
  rintro e W1 ⟨⟨v, rfl⟩, hq1, hk1⟩
  have HQ1 := hid hq1
  have hkw := (Kp.of_below HB0.out (by have := HLT.out; omega)).trans hk1
  have HK1 := hid hkw
  have hrow1 := hk1.row HROW.out (by have := HLT.out; omega) (by decide)
  have HROW1 := hid hrow1
  have c1 : W1.cell? ⟨w.heap.size, 1, none⟩ = some (.slice aA na ac) := cell_of_row _ _ _ _ _ _ hrow1
  clear hq1 hk1 hkw hrow1 HP1 HP1'
  go_wp2_with fail
  go_loopw [26] (fun i wr => ∃ k : Nat, k ≤ na ∧ i = .int .i64 (k : Int) ∧ Hid (PrQ wr p (addP (addP q (60 :: nm)) ((al.take k).flatMap attP))) ∧ Hid (Kp p w wr) ∧ Hid (wr.heap[w.heap.size]? = some (.cells #[.string NM, .slice aA na ac, .string TX, .slice kA nk kc] 25 (0, 0)))) (fun i _ => na - (intOf i).toNat)
  case atStart => exact ⟨0, Nat.zero_le _, rfl, by show PrQ _ _ _; rw [show (al.take 0).flatMap attP = [] from rfl, addP_nil W1 p _ HQ1.out]; exact HQ1.out, HK1.out, HROW1.out⟩
  case round =>
    obtain ⟨k, hk, rfl, HQK, HKK, HRK⟩ := hrel
    by_cases hlt : k < na
    · have hi : (k : Int) < (na : Int) := by omega
      obtain ⟨g0, o0, hg0, hgs, hcs⟩ := HHD.out wr HKK.out.low (by rw [HNA.out]; omega)
      obtain ⟨e1, e2⟩ := hcs k (by rw [HNA.out]; exact hlt)
      obtain ⟨ha1, ha2⟩ := HAT.out k hlt
      have HFL : Hid (addP (addP (addP q (60 :: nm)) ((al.take k).flatMap attP)) (attP (al.getD k zeroH)) = addP (addP q (60 :: nm)) ((al.take (k + 1)).flatMap attP)) := by
        show _ = _
        rw [addP_add, HTKA.out k hlt]
        simp
      generalize addP (addP q (60 :: nm)) ((al.take k).flatMap attP) = qk at HQK HFL
      generalize hqn : addP (addP q (60 :: nm)) ((al.take (k + 1)).flatMap attP) = qn at HFL
      have HQN := hid hqn
      clear hqn
      generalize al.getD k zeroH = a at e1 e2 ha1 ha2 HFL
      have hb2 : Below wr.heap.size wr (wr.alloc (.cells #[.string (asS a.name), .string (asS a.value)] 59 (0, 0))) := (Below.refl _ _).alloc (Nat.le_refl _) _
      have hb3 : Below wr.heap.size wr (wr.alloc (.cells #[.string (asS a.name), .string (asS a.value)] 59 (0, 0))).drew := hb2.drew
      have HEC : Hid (Calls Tryz.prog 47 #[.pointer (some ⟨p, 0, none⟩), .string (asS a.value)] (wr.alloc (.cells #[.string (asS a.name), .string (asS a.value)] 59 (0, 0))).drew fun x w' => ∃ u, x = .returned u ∧ (u = .string (asS (escP qk a.value)) ∧ PrQ w' p (escQ qk a.value) ∧ Kp p (wr.alloc (.cells #[.string (asS a.name), .string (asS a.value)] 59 (0, 0))).drew w')) := (escaped_any p qk a.value ha2 _ (HQK.out.below hb3)).mono fun x w' hh => ⟨_, hh.1, rfl, hh.2⟩
      have HIC : Hid (∀ W, TabE W → Calls Tryz.prog 48 #[.string (asS (escP qk a.value))] W fun x w' => ∃ u, x = .returned u ∧ (u = .string (asS ((escP qk a.value).flatMap tabE)) ∧ Below W.heap.size W w')) := fun W hW => (inQuotes_any _ (by have := escP_len qk a.value; omega) W hW).mono fun x w' hh => ⟨_, hh.1, rfl, hh.2⟩
      have HPC : Hid (∀ W, PrQ W p (escQ qk a.value) → Calls Tryz.prog 46 #[.pointer (some ⟨p, 0, none⟩), .slice (some ⟨W.heap.size, 0, none⟩) 5 5] (W.alloc (.cells #[.string ⟨#[32]⟩, .string (asS a.name), .string ⟨#[61, 34]⟩, .string (asS ((escP qk a.value).flatMap tabE)), .string ⟨#[34]⟩] 9)) fun x w' => ∃ u, x = .returned u ∧ (PrQ w' p qn ∧ Kp p W w')) := fun W hW => (put_attr p a ha1 W qk hW).mono fun x w' hh => by
        obtain ⟨⟨u, hu⟩, h1, h2⟩ := hh
        rw [HFL.out] at h1
        exact ⟨u, hu, h1, h2⟩
      have HRA := hid (heap_alloc_new wr (.cells #[.string (asS a.name), .string (asS a.value)] 59 (0, 0)))
      have HB2 := hid hb2
      clear hcs hgs ha1 ha2 hb2 hb3 HFL
      subst hg0
      generalize asS ((escP qk a.value).flatMap tabE) = IQ at *
      generalize asS (escP qk a.value) = EP at *
      generalize escQ qk a.value = qe at *
      generalize asS a.name = N1 at *
      generalize asS a.value = V1 at *
      have HENe := hid (enters_of Tryz.func47 (by kernel_rfl) rfl)
      have HENi := hid (enters_of Tryz.func48 (by kernel_rfl) rfl)
      have HENp := hid (enters_of Tryz.func46 (by kernel_rfl) rfl)
      have HGP : Hid (p < wr.heap.size) := HQK.out.lt
      go_wp2_with fail
      generalize hW2 : wr.alloc (.cells #[.string N1, .string V1] 59) = W2
      rw [hW2] at HEC HRA HB2
      clear hW2
      have f0 : W2.drew.cell? ⟨wr.heap.size, 0, none⟩ = some (.string N1) := cell_of_row (w := W2.drew) _ _ _ _ _ HRA.out
      have f1 : W2.drew.cell? ⟨wr.heap.size, 1, none⟩ = some (.string V1) := cell_of_row (w := W2.drew) _ _ _ _ _ HRA.out
      go_region_law ((first
        | (refine step_call2 (by rfl) 47 _ _ _ (by rfl) HENe.out (.pointer (some ⟨p, 0, none⟩)) (.string V1) (by rfl) (by rfl) HEC.out ?_; intro u1 w1 ha; obtain ⟨hu1, hq1, hk1⟩ := ha; subst hu1; have HQ1 := hid hq1; have HK1 := hid hk1; have hr1 := hk1.row (k := wr.heap.size) HRA.out (by have := HGP.out; omega) (by decide); have HR1 := hid hr1; have f2 : w1.cell? ⟨wr.heap.size, 0, none⟩ = some (.string N1) := cell_of_row _ _ _ _ _ _ hr1; have HT1 := hid ((((HT.out.kp HKK.out HP8.out).below HB2.out).below (show Below W2.heap.size W2 W2.drew from (Below.refl _ _).drew)).kp hk1 HP8.out); clear hq1 hk1 hr1)
        | (refine step_call1 (by rfl) 48 _ _ (by rfl) HENi.out (.string EP) (by rfl) (HIC.out w1 HT1.out) ?_; intro u2 w2 hb; obtain ⟨hu2, hb2⟩ := hb; subst hu2; have HB3 := hid hb2; have f3 : w2.cell? ⟨wr.heap.size, 0, none⟩ = some (.string N1) := cell_of_row _ _ _ _ _ _ (row_keep hb2 HR1.out); have HQ2 := hid (HQ1.out.below hb2); have HPC2 := hid (HPC.out w2 HQ2.out); clear hb2)
        | (refine step_call2 (by rfl) 46 _ _ _ (by rfl) HENp.out (.pointer (some ⟨p, 0, none⟩)) (.slice (some ⟨w2.heap.size, 0, none⟩) 5 5) (by rfl) (by rfl) HPC2.out ?_; intro u3 w3 hc; obtain ⟨hq3, hk3⟩ := hc; have HQ3 := hid hq3; have HK3 := hid hk3; clear hq3 hk3)
        | fail))
      all_goals
        have hkk : Kp p wr w3 := ((((Kp.of_below HB2.out (by have := HGP.out; omega)).trans (Kp.of_below (show Below W2.heap.size W2 W2.drew from (Below.refl _ _).drew) (by have := HB2.out.size; have := HGP.out; omega))).trans HK1.out).trans (Kp.of_below HB3.out (by have := HQ1.out.lt; omega))).trans HK3.out
        have HKX := hid (HKK.out.trans hkk)
        have HRX := hid (hkk.row HRK.out (by have := HLT.out; omega) (by decide))
        clear hkk
        go_simp
        go_wp2_with fail
        go_roundw
        case rel => exact ⟨k + 1, by omega, by go_num, by show PrQ _ _ _; rw [HQN.out]; exact HQ3.out, HKX.out, HRX.out⟩
        case measure => simp [intOf]; omega
    · have hi : ¬ (k : Int) < (na : Int) := by omega
      have hkn : k = na := by omega
      have HQA := hid HQK.out
      rw [hkn, HALA.out, HQAE.out] at HQA
      have c3 : wr.cell? ⟨w.heap.size, 3, none⟩ = some (.slice kA nk kc) := cell_of_row _ _ _ _ _ _ HRK.out
      have c0 : wr.cell? ⟨w.heap.size, 0, none⟩ = some (.string NM) := cell_of_row _ _ _ _ _ _ HRK.out
      clear hkn
      cases bk
      · have HPT : Hid (PT = 62 :: (ks.flatMap (printT d) ++ clP nm)) := by show _ = _; rw [← HPE.out, if_neg (by simp)]
        have HC3 := hid (HP3.out wr qa HQA.out)
        go_wp2_with fail
        refine Calls.mono HC3.out ?_
        rintro e W2 ⟨⟨v2, rfl⟩, hq2, hk2⟩
        have HQ2 := hid hq2
        have HK2 := hid (HKK.out.trans hk2)
        have hr2 := hk2.row HRK.out (by have := HLT.out; omega) (by decide)
        have HR2 := hid hr2
        have d3 : W2.cell? ⟨w.heap.size, 3, none⟩ = some (.slice kA nk kc) := cell_of_row _ _ _ _ _ _ hr2
        clear hq2 hk2 hr2 c0 c3 hi
        go_wp2_with fail
        go_loopw [54] (fun i wr => ∃ k : Nat, k ≤ nk ∧ i = .int .i64 (k : Int) ∧ Hid (PrQ wr p (addP (addP qa [62]) ((ks.take k).flatMap (printT d)))) ∧ Hid (Kp p w wr) ∧ Hid (wr.heap[w.heap.size]? = some (.cells #[.string NM, .slice aA na ac, .string TX, .slice kA nk kc] 25 (0, 0)))) (fun i _ => nk - (intOf i).toNat)
        case atStart => exact ⟨0, Nat.zero_le _, rfl, by show PrQ _ _ _; rw [show (ks.take 0).flatMap (printT d) = [] from rfl, addP_nil W2 p _ HQ2.out]; exact HQ2.out, HK2.out, HR2.out⟩
        case round =>
          clear HQ2 HK2 HR2 d3
          obtain ⟨j, hj, rfl, HQJ, HKJ, HRJ⟩ := hrel
          by_cases hlt2 : j < nk
          · have hi : (j : Int) < (nk : Int) := by omega
            obtain ⟨g0, o0, a, b, x, e', hg0, hgs, k1, k2, k3, k4, hnd⟩ := (HKD.out wr HKJ.out.low).at j (by rw [HNK.out]; exact hlt2)
            have hldk := loadN_mid k1 k2 k3 k4
            have ho := nd_one hnd
            have o1 : a.oneCell' = true := ho a (by simp)
            have o2 : b.oneCell' = true := ho b (by simp)
            have o3 : x.oneCell' = true := ho x (by simp)
            have o4 : e'.oneCell' = true := ho e' (by simp)
            have HND := hid hnd
            have HIC := hid (HIH.out j hlt2)
            unfold NodeOk at HIC
            have HFL : Hid (addP (addP (addP qa [62]) ((ks.take j).flatMap (printT d))) (printT d (ks.getD j (zeroT d))) = addP (addP qa [62]) ((ks.take (j + 1)).flatMap (printT d))) := by
              show _ = _
              rw [addP_add, HTKK.out j hlt2]
              simp
            clear k1 k2 k3 k4 hnd ho hgs
            subst hg0
            go_wp2_with (first
              | (refine store_msg infoN rfl _ _ rfl wr.heap.size a b x e' o1 o2 o3 o4 rfl rfl _ (heap_alloc_new wr _) rfl ?_)
              | fail)
            intro W3 ho3 hr3
            have hb3 : Below wr.heap.size wr W3 := ((Below.refl _ _).alloc (Nat.le_refl _) _).trans (ho3.below (Nat.le_refl _))
            have hl3 := loadN_run hr3 rfl
            have HK3 := hid (HKJ.out.trans (Kp.of_below hb3 (by have := HQJ.out.lt; omega)))
            have HR3 := hid (row_keep hb3 HRJ.out)
            have HC := hid (HIC.out #[a, b, x, e'] W3 p _ (HND.out.below hb3 (Nat.le_refl _)) HP8.out (HT.out.kp HK3.out HP8.out) (HQJ.out.below hb3))
            clear ho3 hr3 hb3 hldk o1 o2 o3 o4
            go_wp2_with fail
            refine Calls.mono HC.out ?_
            rintro e W4 ⟨⟨v4, rfl⟩, hq4, hk4⟩
            rw [HFL.out] at hq4
            have HQ4 := hid hq4
            have HK4 := hid (HK3.out.trans hk4)
            have HR4 := hid (hk4.row HR3.out (by have := HLT.out; omega) (by decide))
            clear hq4 hk4
            go_wp2_with fail
            go_roundw
            case rel => exact ⟨j + 1, by omega, by go_num, HQ4.out, HK4.out, HR4.out⟩
            case measure => simp [intOf]; omega
          · have hi : ¬ (j : Int) < (nk : Int) := by omega
            have hjn : j = nk := by omega
            have HQF := hid HQJ.out
            rw [hjn, HALK.out] at HQF
            have HC4 := hid (HP4.out wr _ HQF.out)
            have c0 : wr.cell? ⟨w.heap.size, 0, none⟩ = some (.string NM) := cell_of_row _ _ _ _ _ _ HRJ.out
            clear hjn
            go_wp2_with fail
            refine Calls.mono HC4.out ?_
            rintro e W5 ⟨⟨v5, rfl⟩, hq5, hk5⟩
            rw [addP_add, addP_add, show [62] ++ (ks.flatMap (printT d) ++ clP nm) = PT from HPT.out.symm] at hq5
            have HQ5 := hid hq5
            have HK5 := hid (HKJ.out.trans hk5)
            clear hq5 hk5
            go_wp2_with fail
            go_end0
            exact ⟨⟨_, rfl⟩, HQ5.out, HK5.out⟩
      · have HPT : Hid (PT = [47, 62]) := by show _ = _; rw [← HPE.out, if_pos rfl]
        have HC2 := hid (HP2.out wr qa HQA.out)
        go_wp2_with fail
        refine Calls.mono HC2.out ?_
        rintro e W2 ⟨⟨v2, rfl⟩, hq2, hk2⟩
        rw [← HPT.out] at hq2
        have HQ2 := hid hq2
        have HK2 := hid (HKK.out.trans hk2)
        clear hq2 hk2
        go_wp2_with fail
        exact ⟨by simp, _, results_none rfl _ _ _, ⟨_, rfl⟩, HQ2.out, HK2.out⟩
theorem node_all : ∀ (d : Nat) (t : Tr d), mayT d t = true → FitN 1000000 d t → NodeOk d t := by
  have step : ∀ (d : Nat) (t : Tr d), mayT d t = true → FitN 1000000 d t → (∀ k ∈ kidsT d t, NodeOk (d - 1) k) → NodeOk d t := by
    intro d t hm hf IH
    cases he : (nmT d t).isEmpty with
    | true => exact node_text d t hm he
    | false =>
      intro cs w p q hnd hp hT hq
      obtain ⟨hn64, hat, _⟩ := (may_partsN hm).2 he
      obtain ⟨hf1, hf2⟩ := hf.top
      obtain ⟨aA, ac, kA, kc, rfl, hh, hks, _⟩ := hnd.parts
      have hpe := print_eq d t
      rw [if_neg (by rw [he]; simp)] at hpe
      have hc := node_core (nmT d t) (lab d t).2.1 (d - 1) (kidsT d t) (fun e => by rw [e] at he; cases he) hn64 hf1 hf2 hat IH aA ac kA kc (asS (lab d t).2.2) w p q hh hks hp hT hq
      have hop : opP (lab d t) = (60 :: nmT d t) ++ (lab d t).2.1.flatMap attP := rfl
      have hfin : addP (addP (addP q (60 :: nmT d t)) ((lab d t).2.1.flatMap attP)) (if (kidsT d t).isEmpty then [47, 62] else 62 :: ((kidsT d t).flatMap (printT (d - 1)) ++ clP (nmT d t))) = addP q (printT d t) := by
        rw [addP_add, addP_add, hpe, hop]
        cases (kidsT d t).isEmpty <;> simp
      rw [hfin] at hc
      exact hc
  intro d
  induction d with
  | zero => exact fun t hm hf => step 0 t hm hf (fun k hk => by cases hk)
  | succ d ih =>
    intro t hm hf
    refine step (d + 1) t hm hf (fun k hk => ?_)
    cases he : (nmT (d + 1) t).isEmpty with
    | true =>
      have hm' : mayTop t.1 t.2.isEmpty (t.2.all (mayT d) && noAdj (t.2.map fun k => (nmT d k).isEmpty)) = true := hm
      have he' : t.1.1.isEmpty = true := he
      unfold mayTop at hm'
      rw [if_pos he'] at hm'
      simp only [Bool.and_eq_true] at hm'
      have hk2 : k ∈ t.2 := hk
      have : t.2 = [] := List.isEmpty_iff.1 hm'.1.2
      rw [this] at hk2
      cases hk2
    | false => exact ih k (((may_partsN hm).2 he).2.2 k hk) (hf.2.2 k hk)
end Go.Proofs.YthjibliaofmlhaaGreatDoor
