
/- A tree put together by the reference: what its Print does. -/
import Derived.Test.YthjibliaofmlhaaGreatDoorXmPrN
import Derived.Test.YthjibliaofmlhaaGreatDoorXmLen
namespace Go.Proofs.YthjibliaofmlhaaGreatDoor
set_option linter.unusedVariables false
set_option linter.unusedSimpArgs false
open Go.RowKit Go.BigFrame
attribute [local go_sem ↓] loadN_eq

theorem catB (x y : List UInt8) (h : x.length + y.length ≤ 10000000000000) : ¬ (9223372036854775807 < (asS x).size + (asS y).size) := by rw [asS_size, asS_size]; omega
/-- Print of the reference does what it is to. -/
def RprOk (d : Nat) (t : Tr d) : Prop := ∀ (P : Nat → Prop) (cs : Array Value) (w : World), NdAt P d w cs t → Calls Tryz.prog 13 #[.agg cs] w fun e w' => e = .returned (.string (asS (printT d t))) ∧ Below w.heap.size w w'
theorem rpr_text (d : Nat) (t : Tr d) (he : (nmT d t).isEmpty = true) (hl : (txT d t).length ≤ 100000) : RprOk d t := by
  intro P cs w hnd
  have hpe := print_eq d t
  rw [if_pos he] at hpe
  rw [hpe]
  obtain ⟨aA, ac, kA, kc, rfl, hh, hks, _⟩ := hnd.parts
  unfold ndcs
  have z1 : (asS (lab d t).1).toList.isEmpty = true := by
    have : (lab d t).1 = nmT d t := rfl
    rw [this, emp8]
    cases hn : nmT d t with
    | nil => rfl
    | cons a r => rw [hn] at he; cases he
  have HES := hid (refEsc_any (txT d t) hl)
  have etx : txT d t = (lab d t).2.2 := rfl
  rw [etx] at HES ⊢
  clear hnd hpe he hl etx hh hks
  generalize asS (lab d t).1 = NM at *
  generalize (lab d t).2.1.length = an at *
  generalize (kidsT d t).length = kn at *
  generalize asS (escL (lab d t).2.2) = EL at *
  generalize asS (lab d t).2.2 = TX at *
  go_enter Tryz.func13, Tryz.ntmps13
  go_wp2_with fail
  refine Calls.mono (HES.out _) ?_
  rintro e W1 ⟨rfl, rfl⟩
  go_wp2_with fail
  go_ret
  exact ⟨rfl, (Below.refl _ _).alloc (Nat.le_refl _) _⟩
theorem tab_take (v : List UInt8) (j : Nat) (hj : j < v.length) : (v.take (j + 1)).flatMap tabE = (v.take j).flatMap tabE ++ tabE (v.getD j 0) := by
  rw [List.take_succ_eq_append_getElem hj, List.flatMap_append, List.getD_eq_getElem?_getD, List.getElem?_eq_getElem hj]
  simp
set_option maxHeartbeats 1000000 in
set_option maxRecDepth 100000 in
theorem rpr_core (nm : List UInt8) (al : List HdV) (d : Nat) (ks : List (Tr d)) (hn0 : nm ≠ []) (hna : al.length ≤ 1000000) (hnk : ks.length ≤ 1000000) (hat : ∀ a ∈ al, a.value.length ≤ 100000) (IH : ∀ k ∈ ks, RprOk d k)
    (hT : ((60 :: nm) ++ al.flatMap attP).length + (ks.flatMap (printT d)).length + nm.length ≤ 1000000000000) (P : Nat → Prop) (aA : Option Addr) (ac : Nat) (kA : Option Addr) (kc : Nat) (TX : ByteArray) (w : World) (hh : HdsAt w aA al) (hks : NdsAt P d w kA ks) :
    Calls Tryz.prog 13 #[.agg #[.string (asS nm), .slice aA al.length ac, .string TX, .slice kA ks.length kc]] w fun e w' => e = .returned (.string (asS (((60 :: nm) ++ al.flatMap attP) ++ (if ks.isEmpty then [47, 62] else 62 :: (ks.flatMap (printT d) ++ clP nm))))) ∧ Below w.heap.size w w' := by
  have z1 : (asS nm).toList.isEmpty = false := by rw [emp8]; exact decide_eq_false hn0
  have zk : ((ks.length : Int) == 0) = ks.isEmpty := by cases ks <;> simp <;> omega
  have HB0 := hid ((Below.refl w.heap.size w).alloc (Nat.le_refl _) (.cells #[.string (asS nm), .slice aA al.length ac, .string TX, .slice kA ks.length kc] 25))
  have HROW := hid (heap_alloc_new w (.cells #[.string (asS nm), .slice aA al.length ac, .string TX, .slice kA ks.length kc] 25))
  have c0 : (⟨#[60]⟩ : ByteArray) ++ asS nm = asS (60 :: nm) := asS_app [60] nm
  have s0 : ¬ (9223372036854775807 < (⟨#[60]⟩ : ByteArray).size + (asS nm).size) := catB [60] nm (by simp at hT ⊢; omega)
  have HHD := hid hh
  have HKD := hid hks
  have HAT : Hid (∀ k, k < al.length → (al.getD k zeroH).value.length ≤ 100000) := fun k hk => hat _ (by rw [List.getD_eq_getElem?_getD, List.getElem?_eq_getElem hk]; exact List.getElem_mem hk)
  have HIH : Hid (∀ k, k < ks.length → RprOk d (ks.getD k (zeroT d))) := fun k hk => IH _ (getD_mem9 hk)
  have HTKA : Hid (∀ k, k < al.length → ((60 :: nm) ++ (al.take k).flatMap attP) ++ attP (al.getD k zeroH) = (60 :: nm) ++ (al.take (k + 1)).flatMap attP) := fun k hk => by rw [take_hd al k hk]; simp
  have HLA : Hid (∀ k, k ≤ al.length → ((60 :: nm) ++ (al.take k).flatMap attP).length ≤ 1000000000000) := fun k hk => by
    have h1 : ((al.take k).flatMap attP).length ≤ (al.flatMap attP).length := by
      have : al.flatMap attP = (al.take k).flatMap attP ++ (al.drop k).flatMap attP := by rw [← List.flatMap_append, List.take_append_drop]
      rw [this, List.length_append]
      omega
    rw [List.length_append] at hT ⊢
    omega
  have HALA : Hid (al.take al.length = al) := List.take_length
  have HTKK : Hid (∀ k, k < ks.length → (ks.take k).flatMap (printT d) ++ printT d (ks.getD k (zeroT d)) = (ks.take (k + 1)).flatMap (printT d)) := fun k hk => by rw [take_getD ks (zeroT d) k hk]; simp
  have HALK : Hid (ks.take ks.length = ks) := List.take_length
  have HLK : Hid (∀ k, k ≤ ks.length → ((60 :: nm) ++ al.flatMap attP).length + ((ks.take k).flatMap (printT d)).length + nm.length ≤ 1000000000000) := fun k hk => by
    have h1 : ((ks.take k).flatMap (printT d)).length ≤ (ks.flatMap (printT d)).length := by
      have : ks.flatMap (printT d) = (ks.take k).flatMap (printT d) ++ (ks.drop k).flatMap (printT d) := by rw [← List.flatMap_append, List.take_append_drop]
      rw [this, List.length_append]
      omega
    omega
  obtain ⟨PT, hPT⟩ : ∃ PT, ((60 :: nm) ++ al.flatMap attP) ++ (if ks.isEmpty then [47, 62] else 62 :: (ks.flatMap (printT d) ++ clP nm)) = PT := ⟨_, rfl⟩
  rw [hPT]
  have HPE := hid hPT
  clear hPT hT hh hks hat IH hn0
  generalize ks.isEmpty = bk at zk HPE
  generalize hnae : al.length = na at hna HAT HTKA HLA HALA HB0 HROW ⊢
  generalize hnke : ks.length = nk at hnk zk HIH HTKK HALK HLK HB0 HROW ⊢
  have HNA := hid hnae
  have HNK := hid hnke
  clear hnae hnke
  obtain ⟨NM, hNM⟩ : ∃ NM, asS nm = NM := ⟨_, rfl⟩
  rw [hNM] at z1 c0 s0 HB0 HROW ⊢
  have HNM := hid hNM
  clear hNM
  have cb1 : (w.alloc (.cells #[.string NM, .slice aA na ac, .string TX, .slice kA nk kc] 25)).cell? ⟨w.heap.size, 1, none⟩ = some (.slice aA na ac) := cell_of_row _ _ _ _ _ _ HROW.out
  have cb3 : (w.alloc (.cells #[.string NM, .slice aA na ac, .string TX, .slice kA nk kc] 25)).cell? ⟨w.heap.size, 3, none⟩ = some (.slice kA nk kc) := cell_of_row _ _ _ _ _ _ HROW.out
  have cb0 : (w.alloc (.cells #[.string NM, .slice aA na ac, .string TX, .slice kA nk kc] 25)).cell? ⟨w.heap.size, 0, none⟩ = some (.string NM) := cell_of_row _ _ _ _ _ _ HROW.out
  go_enter Tryz.func13, Tryz.ntmps13
  go_wp2_with fail
  obtain ⟨W0, hW0⟩ : ∃ W0, w.alloc (.cells #[.string NM, .slice aA na ac, .string TX, .slice kA nk kc] 25) = W0 := ⟨_, rfl⟩
  rw [hW0] at HB0 HROW cb0 cb1 cb3 ⊢
  clear hW0 c0 s0
  go_loop [3, 4] (fun v i => ∃ (k : Nat) (o : List UInt8), k ≤ na ∧ i = .int .i64 (k : Int) ∧ v = .string (asS o) ∧ Hid (o = (60 :: nm) ++ (al.take k).flatMap attP)) (fun _ i => na - (intOf i).toNat)
  case atStart => exact ⟨0, 60 :: nm, Nat.zero_le _, rfl, rfl, by show _ = _; simp⟩
  case round =>
    obtain ⟨k, o, hk, rfl, rfl, HO⟩ := hrel
    by_cases hlt : k < na
    · have hi : (k : Int) < (na : Int) := by omega
      obtain ⟨g0, o0, hg0, hgs, hcs⟩ := HHD.out.below HB0.out (Nat.le_refl _) (by rw [HNA.out]; omega)
      obtain ⟨e1, e2⟩ := hcs k (by rw [HNA.out]; exact hlt)
      have HNX := hid (HTKA.out k hlt)
      have HLX := hid (HLA.out (k + 1) (by omega))
      rw [← HO.out] at HNX
      have hev := HAT.out k hlt
      have HES := hid (refEsc_any (al.getD k zeroH).value hev)
      have hel := escL_len (al.getD k zeroH).value
      have HATE : Hid (attP (al.getD k zeroH) = 32 :: ((al.getD k zeroH).name ++ 61 :: 34 :: ((escL (al.getD k zeroH).value).flatMap tabE ++ [34]))) := rfl
      clear hcs hgs
      subst hg0
      generalize (al.getD k zeroH).name = an at e1 HATE
      generalize asS (al.getD k zeroH).value = V1 at e2 HES
      generalize attP (al.getD k zeroH) = ap at HNX HATE
      have hel2 : (escL (al.getD k zeroH).value).length ≤ 600000 := by omega
      generalize escL (al.getD k zeroH).value = ev at HES HATE hel2
      clear hel hev
      have HSZ := hid (asS_size ev)
      have HIX := hid (fun k h W => str_ix (asS ev) k h W)
      rw [asS_data] at HIX
      have HX1 : Hid (∀ k, k < ev.length → (asS ev).extract k (k + 1) = asS [ev.getD k 0]) := fun k hk => by
        rw [ext_asS, asS_data, dropE_at ev k hk, show k + 1 - k = 1 from by omega]; rfl
      have HTT := hid (tab_take ev)
      have HTA : Hid (ev.take ev.length = ev) := List.take_length
      obtain ⟨EV, hEV⟩ : ∃ EV, asS ev = EV := ⟨_, rfl⟩
      rw [hEV] at HES HSZ HIX HX1
      clear hEV
      have hES : EV.size ≤ 600000 := by rw [HSZ.out]; exact hel2
      clear hel2
      obtain ⟨AN, hAN⟩ : ∃ AN, asS an = AN := ⟨_, rfl⟩
      rw [hAN] at e1
      have HAN := hid hAN
      clear hAN
      go_wp2_with fail
      refine Calls.mono (HES.out _) ?_
      rintro e W ⟨rfl, rfl⟩
      go_wp2_with fail
      go_loop [6, 7] (fun v i => ∃ (j : Nat) (o2 : List UInt8), i = .int .i64 (j : Int) ∧ v = .string (asS o2) ∧ j ≤ EV.size ∧ o2.length ≤ 5 * j ∧ Hid (o2 = (ev.take j).flatMap tabE)) (fun _ i => EV.size - (intOf i).toNat)
      case atStart => exact ⟨0, [], rfl, rfl, by omega, by simp, rfl⟩
      case round =>
        obtain ⟨j, o2, rfl, rfl, hj, ho2, HO2⟩ := hrel
        by_cases hlt2 : j < EV.size
        · have hi2 : (j : Int) < (EV.size : Int) := by omega
          have hjl : j < ev.length := by have := HSZ.out; omega
          have hix := HIX.out j hlt2
          have hx1 := HX1.out j hjl
          have hsl := sliceE_run EV j (j + 1) (j : Int) ((j : Int) + 1) rfl (by omega) (by omega) (by omega) _ hx1
          have hle : (j : Int) + 1 ≤ (EV.size : Int) := by omega
          have HN2 := hid (HTT.out j hjl)
          rw [← HO2.out] at HN2
          generalize ev.getD j 0 = c at hix hx1 hsl HN2
          have HTC : Hid (tabE c = if c = 9 then [38, 35, 57, 59] else if c = 10 then [38, 35, 49, 48, 59] else [c]) := rfl
          have q9 := asS_app o2 [c]
          have q8 := catB o2 [c] (by simp; omega)
          clear hx1 hjl
          by_cases c9 : c = 9
          · subst c9
            have b9 : (((9 : UInt8).toNat : Int) == 9) = true := by decide
            rw [if_pos rfl] at HTC
            rw [HTC.out] at HN2
            have q1 : asS o2 ++ ⟨#[38, 35, 57, 59]⟩ = asS (o2 ++ [38, 35, 57, 59]) := asS_app o2 [38, 35, 57, 59]
            have q2 : ¬ (9223372036854775807 < (asS o2).size + (⟨#[38, 35, 57, 59]⟩ : ByteArray).size) := catB o2 [38, 35, 57, 59] (by simp; omega)
            clear hsl q8 q9
            go_wp2_with fail
            go_round
            case rel => exact ⟨j + 1, o2 ++ [38, 35, 57, 59], by go_num, by first | rfl | rw [q1], by omega, by simp; omega, HN2.out.symm⟩
            case measure => simp [intOf]; omega
          · have b9 : ((c.toNat : Int) == 9) = false := by
              rw [beq_eq_false_iff_ne]
              intro e
              exact c9 (UInt8.toNat_inj.1 (by show _ = 9; omega))
            rw [if_neg c9] at HTC
            clear c9
            by_cases c10 : c = 10
            · subst c10
              have b10 : (((10 : UInt8).toNat : Int) == 10) = true := by decide
              rw [if_pos rfl] at HTC
              rw [HTC.out] at HN2
              have q1 : asS o2 ++ ⟨#[38, 35, 49, 48, 59]⟩ = asS (o2 ++ [38, 35, 49, 48, 59]) := asS_app o2 [38, 35, 49, 48, 59]
              have q2 : ¬ (9223372036854775807 < (asS o2).size + (⟨#[38, 35, 49, 48, 59]⟩ : ByteArray).size) := catB o2 [38, 35, 49, 48, 59] (by simp; omega)
              clear hsl q8 q9
              go_wp2_with fail
              go_round
              case rel => exact ⟨j + 1, o2 ++ [38, 35, 49, 48, 59], by go_num, by first | rfl | rw [q1], by omega, by simp; omega, HN2.out.symm⟩
              case measure => simp [intOf]; omega
            · have b10 : ((c.toNat : Int) == 10) = false := by
                rw [beq_eq_false_iff_ne]
                intro e
                exact c10 (UInt8.toNat_inj.1 (by show _ = 10; omega))
              rw [if_neg c10] at HTC
              rw [HTC.out] at HN2
              clear c10
              generalize asS [c] = SC at hsl q9 q8
              go_wp2_with fail
              go_round
              case rel => exact ⟨j + 1, o2 ++ [c], by go_num, by first | rfl | rw [q9], by omega, by simp; omega, HN2.out.symm⟩
              case measure => simp [intOf]; omega
        · have hi2 : ¬ (j : Int) < (EV.size : Int) := by omega
          have hjn : j = ev.length := by have := HSZ.out; omega
          have ho2e : o2 = ev.flatMap tabE := by rw [HO2.out, hjn, HTA.out]
          rw [← ho2e] at HATE
          have HAP : Hid (((((o ++ [32]) ++ an) ++ [61, 34]) ++ o2) ++ [34] = o ++ ap) := by show _ = _; rw [HATE.out]; simp
          have HLL : Hid ((o ++ ap).length ≤ 1000000000000) := by show _ ≤ _; rw [HNX.out]; exact HLX.out
          have hll := HLL.out
          rw [← HAP.out] at hll
          simp only [List.length_append, List.length_cons, List.length_nil] at hll
          have r1 : asS o ++ ⟨#[32]⟩ = asS (o ++ [32]) := asS_app o [32]
          have t1 : ¬ (9223372036854775807 < (asS o).size + (⟨#[32]⟩ : ByteArray).size) := catB o [32] (by simp only [List.length_cons, List.length_nil]; omega)
          have r2 : asS (o ++ [32]) ++ AN = asS ((o ++ [32]) ++ an) := by rw [← HAN.out]; exact asS_app _ _
          have t2 : ¬ (9223372036854775807 < (asS (o ++ [32])).size + AN.size) := by rw [← HAN.out]; exact catB _ _ (by simp only [List.length_append, List.length_cons, List.length_nil]; omega)
          have r3 : asS ((o ++ [32]) ++ an) ++ ⟨#[61, 34]⟩ = asS (((o ++ [32]) ++ an) ++ [61, 34]) := asS_app _ [61, 34]
          have t3 : ¬ (9223372036854775807 < (asS ((o ++ [32]) ++ an)).size + (⟨#[61, 34]⟩ : ByteArray).size) := catB _ [61, 34] (by simp only [List.length_append, List.length_cons, List.length_nil]; omega)
          have r4 : asS (((o ++ [32]) ++ an) ++ [61, 34]) ++ asS o2 = asS ((((o ++ [32]) ++ an) ++ [61, 34]) ++ o2) := asS_app _ _
          have t4 : ¬ (9223372036854775807 < (asS (((o ++ [32]) ++ an) ++ [61, 34])).size + (asS o2).size) := catB _ _ (by simp only [List.length_append, List.length_cons, List.length_nil]; omega)
          have r5 : asS ((((o ++ [32]) ++ an) ++ [61, 34]) ++ o2) ++ ⟨#[34]⟩ = asS (((((o ++ [32]) ++ an) ++ [61, 34]) ++ o2) ++ [34]) := asS_app _ [34]
          have t5 : ¬ (9223372036854775807 < (asS ((((o ++ [32]) ++ an) ++ [61, 34]) ++ o2)).size + (⟨#[34]⟩ : ByteArray).size) := catB _ [34] (by simp only [List.length_append, List.length_cons, List.length_nil]; omega)
          rw [HAP.out] at r5
          clear hjn ho2e hll HATE ho2 hj
          generalize asS ((((o ++ [32]) ++ an) ++ [61, 34]) ++ o2) = A4 at r4 r5 t5
          generalize asS (((o ++ [32]) ++ an) ++ [61, 34]) = A3 at r3 t4 r4
          generalize asS ((o ++ [32]) ++ an) = A2 at r2 t3 r3
          generalize asS (o ++ [32]) = A1 at r1 t2 r2
          go_wp2_with fail
          go_round
          case rel => exact ⟨k + 1, o ++ ap, by omega, by go_num, by first | rfl | rw [r5], HNX.out⟩
          case measure => simp [intOf]; omega
    · have hi : ¬ (k : Int) < (na : Int) := by omega
      have hkn : k = na := by omega
      have hoe : o = (60 :: nm) ++ al.flatMap attP := by rw [HO.out, hkn, HALA.out]
      have HLK0 := hid HLK.out
      rw [← hoe] at HPE HLK0
      clear hkn hoe HO hk
      have hl0 := HLK0.out 0 (Nat.zero_le _)
      cases bk
      · have HPT : Hid (o ++ 62 :: (ks.flatMap (printT d) ++ clP nm) = PT) := by show _ = _; rw [← HPE.out, if_neg (by simp)]
        have r1 : asS o ++ ⟨#[62]⟩ = asS (o ++ [62]) := asS_app o [62]
        have t1 : ¬ (9223372036854775807 < (asS o).size + (⟨#[62]⟩ : ByteArray).size) := catB o [62] (by simp only [List.length_cons, List.length_nil]; omega)
        go_wp2_with fail
        clear r1 t1 cb0 cb1 cb3 hi hlt
        go_loopw [3, 8] (fun v i wr => ∃ (j : Nat) (o2 : List UInt8), j ≤ nk ∧ i = .int .i64 (j : Int) ∧ v = .string (asS o2) ∧ Hid (o2 = (o ++ [62]) ++ (ks.take j).flatMap (printT d)) ∧ Hid (Below W0.heap.size W0 wr)) (fun _ i _ => nk - (intOf i).toNat)
        case atStart => exact ⟨0, o ++ [62], Nat.zero_le _, rfl, rfl, by show _ = _; simp, Below.refl _ _⟩
        case round =>
          obtain ⟨j, o2, hj, rfl, rfl, HO2, HBJ⟩ := hrel
          have hrw := row_keep HBJ.out HROW.out
          have cj3 : wr.cell? ⟨w.heap.size, 3, none⟩ = some (.slice kA nk kc) := cell_of_row _ _ _ _ _ _ hrw
          have cj0 : wr.cell? ⟨w.heap.size, 0, none⟩ = some (.string NM) := cell_of_row _ _ _ _ _ _ hrw
          clear hrw
          by_cases hlt2 : j < nk
          · have hi2 : (j : Int) < (nk : Int) := by omega
            have hbw : Below w.heap.size w wr := HB0.out.trans (HBJ.out.mono HB0.out.size)
            obtain ⟨g0, o0, a, b, x, e', hg0, hgs, k1, k2, k3, k4, hnd⟩ := (HKD.out.below hbw (Nat.le_refl _)).at j (by rw [HNK.out]; exact hlt2)
            have hldk := loadN_mid k1 k2 k3 k4
            have HC := hid (HIH.out j hlt2 P _ wr hnd)
            have HNX := hid (HTKK.out j hlt2)
            have hl1 := HLK0.out (j + 1) (by omega)
            rw [← HNX.out, List.length_append] at hl1
            have HNX2 : Hid (o2 ++ printT d (ks.getD j (zeroT d)) = (o ++ [62]) ++ (ks.take (j + 1)).flatMap (printT d)) := by show _ = _; rw [HO2.out, List.append_assoc, HNX.out]
            have hlo : o2.length = o.length + 1 + ((ks.take j).flatMap (printT d)).length := by rw [HO2.out]; simp only [List.length_append, List.length_cons, List.length_nil]
            have r2 := asS_app o2 (printT d (ks.getD j (zeroT d)))
            have t2 := catB o2 (printT d (ks.getD j (zeroT d))) (by omega)
            clear k1 k2 k3 k4 hnd hgs hbw hl1 hlo
            subst hg0
            generalize printT d (ks.getD j (zeroT d)) = pk at HC HNX2 r2 t2
            generalize asS pk = PK at HC r2 t2
            go_wp2_with fail
            refine Calls.mono HC.out ?_
            rintro e W2 ⟨rfl, hb2⟩
            have HB2 := hid (HBJ.out.trans (hb2.mono HBJ.out.size))
            clear hb2
            go_wp2_with fail
            go_roundw
            case rel => exact ⟨j + 1, o2 ++ pk, by omega, by go_num, by first | rfl | rw [r2], HNX2.out, HB2.out⟩
            case measure => simp [intOf]; omega
          · have hi2 : ¬ (j : Int) < (nk : Int) := by omega
            have hjn : j = nk := by omega
            have ho2e : o2 = (o ++ [62]) ++ ks.flatMap (printT d) := by rw [HO2.out, hjn, HALK.out]
            have hl1 := HLK0.out nk (Nat.le_refl _)
            rw [HALK.out] at hl1
            have hlo : o2.length = o.length + 1 + (ks.flatMap (printT d)).length := by rw [ho2e]; simp only [List.length_append, List.length_cons, List.length_nil]
            have HFIN : Hid (((o2 ++ [60, 47]) ++ nm) ++ [62] = PT) := by show _ = _; rw [← HPT.out, ho2e]; simp [clP]
            have r1 : asS o2 ++ ⟨#[60, 47]⟩ = asS (o2 ++ [60, 47]) := asS_app o2 [60, 47]
            have t1 : ¬ (9223372036854775807 < (asS o2).size + (⟨#[60, 47]⟩ : ByteArray).size) := catB o2 [60, 47] (by simp only [List.length_cons, List.length_nil]; omega)
            have r2 : asS (o2 ++ [60, 47]) ++ NM = asS ((o2 ++ [60, 47]) ++ nm) := by rw [← HNM.out]; exact asS_app _ _
            have t2 : ¬ (9223372036854775807 < (asS (o2 ++ [60, 47])).size + NM.size) := by rw [← HNM.out]; exact catB _ _ (by simp only [List.length_append, List.length_cons, List.length_nil]; omega)
            have r3 : asS ((o2 ++ [60, 47]) ++ nm) ++ ⟨#[62]⟩ = asS (((o2 ++ [60, 47]) ++ nm) ++ [62]) := asS_app _ [62]
            have t3 : ¬ (9223372036854775807 < (asS ((o2 ++ [60, 47]) ++ nm)).size + (⟨#[62]⟩ : ByteArray).size) := catB _ [62] (by simp only [List.length_append, List.length_cons, List.length_nil]; omega)
            rw [HFIN.out] at r3
            clear hjn ho2e hl1 hlo
            generalize asS ((o2 ++ [60, 47]) ++ nm) = A2 at r2 r3 t3
            generalize asS (o2 ++ [60, 47]) = A1 at r1 t2 r2
            go_wp2_with fail
            go_ret
            exact ⟨by first | rfl | rw [r3], HB0.out.trans (HBJ.out.mono HB0.out.size)⟩
      · have HPT : Hid (o ++ [47, 62] = PT) := by show _ = _; rw [← HPE.out, if_pos rfl]
        have r1 : asS o ++ ⟨#[47, 62]⟩ = asS (o ++ [47, 62]) := asS_app o [47, 62]
        have t1 : ¬ (9223372036854775807 < (asS o).size + (⟨#[47, 62]⟩ : ByteArray).size) := catB o [47, 62] (by simp only [List.length_cons, List.length_nil]; omega)
        rw [HPT.out] at r1
        go_wp2_with fail
        go_ret
        exact ⟨by first | rfl | rw [r1], HB0.out⟩
theorem LeT.kids {N : Nat} : {d : Nat} → {t : Tr d} → LeT N d t → ∀ k ∈ kidsT d t, LeT N (d - 1) k
  | 0, _, _, k, hk => by cases hk
  | _ + 1, _, h, k, hk => h.2 k hk
theorem FitN.kids {N : Nat} : {d : Nat} → {t : Tr d} → FitN N d t → ∀ k ∈ kidsT d t, FitN N (d - 1) k
  | 0, _, _, k, hk => by cases hk
  | _ + 1, _, h, k, hk => h.2.2 k hk
theorem flat_mem {α : Type} (f : α → List UInt8) : ∀ (l : List α) (x : α), x ∈ l → (f x).length ≤ (l.flatMap f).length
  | [], x, h => by cases h
  | a :: r, x, h => by
    rw [List.flatMap_cons, List.length_append]
    rcases List.mem_cons.1 h with h | h
    · subst h; omega
    · have := flat_mem f r x h
      omega
theorem rpr_all : ∀ (d : Nat) (t : Tr d), LeT 65536 d t → FitN 1000000 d t → (printT d t).length ≤ 300000000000 → RprOk d t := by
  have step : ∀ (d : Nat) (t : Tr d), LeT 65536 d t → FitN 1000000 d t → (printT d t).length ≤ 300000000000 → ((nmT d t).isEmpty = false → ∀ k ∈ kidsT d t, RprOk (d - 1) k) → RprOk d t := by
    intro d t hl hf hp IH
    cases he : (nmT d t).isEmpty with
    | true => exact rpr_text d t he (by have := hl.top.1; have e : (lab d t).2.2 = txT d t := rfl; rw [e] at this; omega)
    | false =>
      intro P cs w hnd
      obtain ⟨hf1, hf2⟩ := hf.top
      obtain ⟨aA, ac, kA, kc, rfl, hh, hks, _⟩ := hnd.parts
      have hpe := print_eq d t
      rw [if_neg (by rw [he]; simp)] at hpe
      have hop : opP (lab d t) = (60 :: nmT d t) ++ (lab d t).2.1.flatMap attP := rfl
      have hfin : ((60 :: nmT d t) ++ (lab d t).2.1.flatMap attP) ++ (if (kidsT d t).isEmpty then [47, 62] else 62 :: ((kidsT d t).flatMap (printT (d - 1)) ++ clP (nmT d t))) = printT d t := by
        rw [hpe, hop]
        cases (kidsT d t).isEmpty <;> simp
      have hlen : ((60 :: nmT d t) ++ (lab d t).2.1.flatMap attP).length + ((kidsT d t).flatMap (printT (d - 1))).length + (nmT d t).length ≤ 1000000000000 := by
        rw [← hfin] at hp
        cases hk : kidsT d t with
        | nil =>
          rw [hk] at hp
          simp only [List.length_append, List.length_cons, List.length_nil, List.flatMap_nil] at hp ⊢
          omega
        | cons x y =>
          rw [hk] at hp
          simp only [List.isEmpty_cons, Bool.false_eq_true, if_false, List.length_append, List.length_cons] at hp ⊢
          omega
      have hc := rpr_core (nmT d t) (lab d t).2.1 (d - 1) (kidsT d t) (fun e => by rw [e] at he; cases he) hf1 hf2 (fun a ha => by have := hl.top.2 a ha; omega) (IH he) hlen P aA ac kA kc (asS (lab d t).2.2) w hh.1 hks
      rw [hfin] at hc
      exact hc
  intro d
  induction d with
  | zero => exact fun t hl hf hp => step 0 t hl hf hp (fun _ k hk => by cases hk)
  | succ d ih =>
    intro t hl hf hp
    refine step (d + 1) t hl hf hp (fun he k hk => ih k (hl.kids k hk) (hf.kids k hk) ?_)
    have hpe := print_eq (d + 1) t
    rw [if_neg (by rw [he]; simp)] at hpe
    have hm := flat_mem (printT d) (kidsT (d + 1) t) k hk
    have hne : (kidsT (d + 1) t).isEmpty = false := by
      cases hz : kidsT (d + 1) t with
      | nil => rw [hz] at hk; cases hk
      | cons a r => rfl
    rw [hpe, if_neg (by rw [hne]; simp)] at hp
    simp only [List.length_append, List.length_cons] at hp
    have hm' : (printT d k).length ≤ ((kidsT (d + 1) t).flatMap (printT (d + 1 - 1))).length := hm
    omega
theorem attP_len (a : HdV) (h1 : a.name.length ≤ 64) (h2 : a.value.length ≤ 65536) : (attP a).length ≤ 3000000 := by
  have h3 := escL_len a.value
  have h4 := flat_len tabE 5 tab_le (escL a.value)
  unfold attP attE
  simp only [List.length_cons, List.length_append, List.length_nil]
  omega
theorem flat_le {α : Type} (f : α → List UInt8) (g : α → Nat) (M : Nat) : ∀ (l : List α), (∀ x ∈ l, (f x).length ≤ M * g x) → (l.flatMap f).length ≤ M * (l.map g).sum
  | [], _ => by simp
  | a :: r, h => by
    have h1 := h a (by simp)
    have h2 := flat_le f g M r (fun x hx => h x (by simp [hx]))
    rw [List.flatMap_cons, List.length_append, List.map_cons, List.sum_cons, Nat.mul_add]
    omega
theorem print_len : ∀ (d : Nat) (t : Tr d), mayT d t = true → LeT 65536 d t → (printT d t).length ≤ 3000000 * manyT d t := by
  have step : ∀ (d : Nat) (t : Tr d), mayT d t = true → LeT 65536 d t → ((nmT d t).isEmpty = false → ∀ k ∈ kidsT d t, (printT (d - 1) k).length ≤ 3000000 * manyT (d - 1) k) → (printT d t).length ≤ 3000000 * manyT d t := by
    intro d t hm hl IH
    rw [print_eq, many_eq]
    cases he : (nmT d t).isEmpty with
    | true =>
      have h1 := escL_len (txT d t)
      have h2 : (txT d t).length ≤ 65536 := hl.top.1
      simp only [if_true]
      omega
    | false =>
      simp only [Bool.false_eq_true, if_false]
      obtain ⟨hn, hat, _⟩ := (may_partsN hm).2 he
      have h1 : ((lab d t).2.1.flatMap attP).length ≤ 3000000 * (lab d t).2.1.length := by
        have := flat_le attP (fun _ => 1) 3000000 (lab d t).2.1 (fun a ha => by have := attP_len a (hat a ha).1 (hl.top.2 a ha); omega)
        have hsum : ∀ l : List HdV, (l.map fun _ => 1).sum = l.length := fun l => by
          induction l with
          | nil => rfl
          | cons a r ih => rw [List.map_cons, List.sum_cons, ih, List.length_cons]; omega
        rw [hsum] at this
        exact this
      have h2 := flat_le (printT (d - 1)) (manyT (d - 1)) 3000000 (kidsT d t) (IH he)
      have h3 : (opP (lab d t)).length = 1 + (nmT d t).length + ((lab d t).2.1.flatMap attP).length := by
        show ((60 :: nmT d t) ++ (lab d t).2.1.flatMap attP).length = _
        rw [List.length_append, List.length_cons]
        omega
      split
      · rw [List.length_append, h3]
        simp only [List.length_cons, List.length_nil]
        omega
      · rw [List.length_append, h3]
        simp only [List.length_cons, List.length_append, clP, List.length_nil]
        omega
  intro d
  induction d with
  | zero => exact fun t hm hl => step 0 t hm hl (fun _ k hk => by cases hk)
  | succ d ih => exact fun t hm hl => step (d + 1) t hm hl (fun he k hk => ih k (((may_partsN hm).2 he).2.2 k hk) (hl.kids k hk))
end Go.Proofs.YthjibliaofmlhaaGreatDoor
