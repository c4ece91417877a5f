
/- A line read: what the reference's one does. -/
import Derived.Test.YtclonnpglikddaaGreatDoorHdLine
namespace Go.Proofs.YtclonnpglikddaaGreatDoor
set_option linter.unusedVariables false
set_option linter.unusedSimpArgs false
open Go.RowKit Go.BigFrame

theorem getD_app_left (a b : List UInt8) (j : Nat) (h : j < a.length) : (a ++ b).getD j 0 = a.getD j 0 := by
  simp [List.getD_eq_getElem?_getD, List.getElem?_append_left h]
theorem getD_app_right (a b : List UInt8) (j : Nat) (h : a.length ≤ j) : (a ++ b).getD j 0 = b.getD (j - a.length) 0 := by
  simp [List.getD_eq_getElem?_getD, List.getElem?_append_right h]
theorem getD_mem (a : List UInt8) (j : Nat) (h : j < a.length) : a.getD j 0 ∈ a := by
  rw [List.getD_eq_getElem?_getD, List.getElem?_eq_getElem h]; exact List.getElem_mem h
/-- A line in its parts: the name to K, blanks to A, the value to Z, blanks. -/
structure PartsH (l : List UInt8) (K A Z : Nat) (nm v : List UInt8) : Prop where
  kn : K < l.length
  ka : K + 1 ≤ A
  az : A ≤ Z
  zn : Z ≤ l.length
  name : ∀ j, j < K → l.getD j 0 ≠ 58
  mark : l.getD K 0 = 58
  lead : ∀ j, K + 1 ≤ j → j < A → blankH (l.getD j 0) = true
  trail : ∀ j, Z ≤ j → j < l.length → blankH (l.getD j 0) = true
  ends : (A = Z ∧ Z = l.length) ∨ (A < Z ∧ blankH (l.getD A 0) = false ∧ blankH (l.getD (Z - 1) 0) = false)
  nameIs : l.take K = nm
  valIs : (l.drop A).take (Z - A) = v
theorem parts9 (nm x : List UInt8) (hno : (58 : UInt8) ∉ nm) : ∃ A Z, PartsH (nm ++ 58 :: x) nm.length A Z nm (trimH x) := by
  have hname : ∀ j, j < nm.length → (nm ++ 58 :: x).getD j 0 ≠ 58 := fun j hj => by
    rw [getD_app_left _ _ j hj]
    exact fun e => hno (e ▸ getD_mem nm j hj)
  have hmark : (nm ++ 58 :: x).getD nm.length 0 = 58 := by rw [getD_app_right _ _ _ (Nat.le_refl _), Nat.sub_self]; rfl
  have hat : ∀ j, nm.length + 1 ≤ j → (nm ++ 58 :: x).getD j 0 = x.getD (j - nm.length - 1) 0 := fun j hj => by
    rw [getD_app_right _ _ _ (by omega), show j - nm.length = (j - nm.length - 1) + 1 from by omega]
    rfl
  have hlen : (nm ++ 58 :: x).length = nm.length + 1 + x.length := by rw [List.length_append, List.length_cons]; omega
  have hdrop : ∀ A, (nm ++ 58 :: x).drop (nm.length + 1 + A) = x.drop A := fun A => by
    rw [Nat.add_assoc, ← List.drop_drop, List.drop_left, Nat.add_comm 1 A, List.drop_succ_cons]
  rcases dw_dec blankH x with hall | ⟨p, c, r, rfl, hp, hc⟩
  · refine ⟨nm.length + 1 + x.length, nm.length + 1 + x.length, ⟨by omega, by omega, Nat.le_refl _, by omega, hname, hmark, fun j h1 h2 => ?_, fun j h1 h2 => by omega, .inl ⟨rfl, hlen.symm⟩, List.take_left, ?_⟩⟩
    · rw [hat j h1]; exact hall _ (getD_mem x _ (by omega))
    · rw [Nat.sub_self, List.take_zero]
      show _ = trR blankH _
      rw [dw_all _ _ hall]; rfl
  · obtain ⟨u, d, s, hcr, hd, hs⟩ : ∃ u d s, c :: r = u ++ d :: s ∧ blankH d = false ∧ ∀ e ∈ s, blankH e = true := by
      rcases tr_dec blankH (c :: r) with h | h
      · rw [h c (by simp)] at hc; cases hc
      · exact h
    have htr : trimH (p ++ c :: r) = u ++ [d] := by
      show trR blankH _ = _
      rw [dw_app _ _ _ hp, dw_neg _ c r hc, hcr, trR_at _ u d s hd hs]
    have hxl : (p ++ c :: r).length = p.length + (u.length + 1 + s.length) := by rw [List.length_append, hcr, List.length_append, List.length_cons]; omega
    have hx2 : ∀ j, p.length ≤ j → (p ++ c :: r).getD j 0 = (u ++ d :: s).getD (j - p.length) 0 := fun j hj => by rw [getD_app_right _ _ _ hj, hcr]
    refine ⟨nm.length + 1 + p.length, nm.length + 1 + p.length + (u.length + 1), ⟨by omega, by omega, by omega, by omega, hname, hmark, fun j h1 h2 => ?_, fun j h1 h2 => ?_, .inr ⟨by omega, ?_, ?_⟩, List.take_left, ?_⟩⟩
    · rw [hat j h1, getD_app_left _ _ _ (by omega)]; exact hp _ (getD_mem p _ (by omega))
    · rw [hat j (by omega), hx2 _ (by omega), getD_app_right _ _ _ (by omega)]
      rw [show j - nm.length - 1 - p.length - u.length = (j - nm.length - 1 - p.length - u.length - 1) + 1 from by omega]
      exact hs _ (getD_mem s _ (by omega))
    · rw [hat _ (by omega), getD_app_right _ _ _ (by omega), show nm.length + 1 + p.length - nm.length - 1 - p.length = 0 from by omega]
      exact hc
    · rw [hat _ (by omega), hx2 _ (by omega), getD_app_right _ _ _ (by omega), show nm.length + 1 + p.length + (u.length + 1) - 1 - nm.length - 1 - p.length - u.length = 0 from by omega]
      exact hd
    · rw [hdrop, List.drop_left, show nm.length + 1 + p.length + (u.length + 1) - (nm.length + 1 + p.length) = u.length + 1 from by omega, htr, hcr]
      rw [List.take_append, List.take_of_length_le (by omega), show u.length + 1 - u.length = 1 from by omega]
      rfl
theorem set_two {w : World} {g : Nat} {t : TypeId} {x y : Value} (a b : Value) (h : w.heap[g]? = some (.cells #[x, y] t (0, 0))) : ((w.setCell ⟨g, 0, none⟩ a).setCell ⟨g, 1, none⟩ b).heap[g]? = some (.cells #[a, b] t (0, 0)) := setCells_heap g t [a, b] 0 w #[x, y] h
theorem set_two_below {a w : World} {B g : Nat} (u v : Value) (hB : B ≤ g) (h : Below B a w) : Below B a ((w.setCell ⟨g, 0, none⟩ u).setCell ⟨g, 1, none⟩ v) := (h.setCell (p := ⟨g, 0, none⟩) hB u).setCell (p := ⟨g, 1, none⟩) hB v
set_option maxHeartbeats 4000000 in
set_option maxRecDepth 100000 in
theorem one_no (l : List UInt8) (hl : l.length ≤ 1000000) (hno : (58 : UInt8) ∉ l) (w : World) : Calls Tryz.prog 79 #[.string (asS l)] w fun e w' => e = .returned (.tuple #[.agg (hcs (oneV l)), .bool (oneB l)]) ∧ Below w.heap.size w w' := by
  have HV := hid (oneV_no l hno)
  rw [HV.out.1, HV.out.2]
  have HIX := hid (fun k hk W => str_ix (asS l) k hk W)
  have HNE : Hid (∀ k, k < (asS l).size → ((((l.getD k 0).toNat : Int)) == 58) = false) := fun k hk => by
    rw [asS_size] at hk
    have h58 := u8_beq (l.getD k 0) 58 (by decide)
    rw [show ((58 : Nat) : Int) = 58 from rfl] at h58
    rw [h58, beq_eq_false_iff_ne]
    exact fun e => hno (by have := getD_mem l k hk; rw [e] at this; exact this)
  have hsz : (asS l).size ≤ 1000000 := by rw [asS_size]; exact hl
  rw [asS_data] at HIX
  generalize asS l = S at HIX HNE hsz ⊢
  clear HV hno hl
  go_enter Tryz.func79, Tryz.ntmps79
  go_wp2_with fail
  have HB0 := hid (alloc_below (Below.refl w.heap.size w) (Nat.le_refl _) (.cells #[.string ⟨#[]⟩, .string ⟨#[]⟩] 69))
  have HR0 := hid (heap_alloc_new w (.cells #[.string ⟨#[]⟩, .string ⟨#[]⟩] 69))
  generalize w.alloc (.cells #[.string ⟨#[]⟩, .string ⟨#[]⟩] 69) = W0 at HB0 HR0 ⊢
  go_loop [4] (fun i => ∃ k : Nat, k ≤ S.size ∧ i = .int .i64 (k : Int)) (fun i => S.size - (intOf i).toNat)
  case atStart => exact ⟨0, Nat.zero_le _, rfl⟩
  case round =>
    obtain ⟨k, hk, rfl⟩ := hrel
    by_cases hlt : k < S.size
    · have hi : (k : Int) < (S.size : Int) := by omega
      have hix := HIX.out k hlt
      have hne := HNE.out k hlt
      have hne2 : ((((l.getD k 0).toNat : Int)) != 58) = true := by rw [bne, hne]; rfl
      generalize (l.getD k 0).toNat = x at hix hne hne2
      go_wp2_with fail
      go_round
      case rel => exact ⟨k + 1, by omega, by go_num⟩
      case measure => simp [intOf]; omega
    · have hi : ¬ (k : Int) < (S.size : Int) := by omega
      have he : ((k : Int) == (S.size : Int)) = true := by rw [beq_iff_eq]; omega
      go_wp2_with (first
        | (refine store_hd rfl _ _ rfl w.heap.size zeroH rfl rfl _ HR0.out rfl ?_)
        | fail)
      intro W5 ho5 hr5
      have HO5 := hid ho5
      have HR5 := hid hr5
      clear ho5 hr5
      go_wp2_with fail
      exact bodyPost_ret (ret_hd2 (p := 2) (q := 3) Tryz.results79 _ _ w.heap.size zeroH (0, 0) _ rfl rfl HR5.out) rfl ⟨rfl, HB0.out.trans (HO5.out.below (Nat.le_refl _))⟩
set_option maxHeartbeats 8000000 in
set_option maxRecDepth 100000 in
theorem one_parts (l : List UInt8) (K A Z : Nat) (nm v : List UInt8) (hp : PartsH l K A Z nm v) (hl : l.length ≤ 1000000) (w : World) : Calls Tryz.prog 79 #[.string (asS l)] w fun e w' => e = .returned (.tuple #[.agg (hcs ⟨nm, v⟩), .bool (mayH ⟨nm, v⟩)]) ∧ Below w.heap.size w w' := by
  have HP := hid hp
  have hkn := hp.kn
  have hka := hp.ka
  have haz := hp.az
  have hzn := hp.zn
  have hnl : nm.length ≤ 1000000 := by rw [← hp.nameIs, List.length_take]; omega
  have hvl : v.length ≤ 1000000 := by rw [← hp.valIs, List.length_take, List.length_drop]; omega
  have HM := hid (fun W => refMay_any ⟨nm, v⟩ (by show nm.length ≤ _; omega) (by show v.length ≤ _; omega) W)
  have HIX := hid (fun k hk W => str_ix (asS l) k hk W)
  have HBL := hid (fun c W => blank_any c W)
  have he1 : (asS l).extract 0 K = asS nm := by rw [ext8_to, hp.nameIs]
  have he2 : (asS l).extract A Z = asS v := by rw [ext_asS, asS_data, hp.valIs]
  have HRE : Hid (hcs ⟨nm, v⟩ = #[.string (asS nm), .string (asS v)]) := rfl
  have HLN : Hid ((asS l).size = l.length) := asS_size l
  have hsz := asS_size l
  rw [asS_data] at HIX
  unfold hcs at HM
  rw [← hsz] at hkn hzn hl
  generalize asS l = S at HIX HLN hsz he1 he2 hkn hzn hl ⊢
  clear hsz hp
  generalize asS nm = Nm at HM HRE he1
  generalize asS v = Vl at HM HRE he2
  generalize mayH ⟨nm, v⟩ = m at HM ⊢
  go_enter Tryz.func79, Tryz.ntmps79
  go_wp2_with fail
  have HB0 := hid (alloc_below (Below.refl w.heap.size w) (Nat.le_refl _) (.cells #[.string ⟨#[]⟩, .string ⟨#[]⟩] 69))
  have HR0 := hid (heap_alloc_new w (.cells #[.string ⟨#[]⟩, .string ⟨#[]⟩] 69))
  have hz0 : w.heap.size < (w.alloc (.cells #[.string ⟨#[]⟩, .string ⟨#[]⟩] 69)).heap.size := by simp
  generalize w.alloc (.cells #[.string ⟨#[]⟩, .string ⟨#[]⟩] 69) = W0 at HB0 HR0 hz0 ⊢
  go_loop [4] (fun i => ∃ k : Nat, k ≤ K ∧ i = .int .i64 (k : Int)) (fun i => K - (intOf i).toNat)
  case atStart => exact ⟨0, Nat.zero_le _, rfl⟩
  case round =>
    obtain ⟨k, hk, rfl⟩ := hrel
    have hi : (k : Int) < (S.size : Int) := by omega
    have hix := HIX.out k (by omega)
    by_cases hlt : k < K
    · have hne : ((((l.getD k 0).toNat : Int)) != 58) = true := by
        have h58 : ((((l.getD k 0).toNat : Int)) == 58) = (l.getD k 0 == 58) := u8_beq (l.getD k 0) 58 (by decide)
        rw [bne, h58, beq_eq_false_iff_ne.2 (HP.out.name k hlt)]; rfl
      generalize (l.getD k 0).toNat = x at hix hne
      go_wp2_with fail
      go_round
      case rel => exact ⟨k + 1, by omega, by go_num⟩
      case measure => simp [intOf]; omega
    · obtain rfl : k = K := by omega
      have hne : ((((l.getD k 0).toNat : Int)) != 58) = false := by rw [HP.out.mark]; rfl
      have he : ((k : Int) == (S.size : Int)) = false := by rw [beq_eq_false_iff_ne]; omega
      generalize (l.getD k 0).toNat = x at hix hne
      clear hlt hk
      go_wp2_with fail
      clear hix hne he
      go_loop [5] (fun i => ∃ a : Nat, i = .int .i64 (a : Int) ∧ Hid (k + 1 ≤ a ∧ a ≤ A)) (fun i => A - (intOf i).toNat)
      case atStart => exact ⟨k + 1, by go_num, Nat.le_refl _, hka⟩
      case round =>
        obtain ⟨a, rfl, HAA⟩ := hrel
        have ha1 := HAA.out.1
        have ha2 := HAA.out.2
        by_cases hlt : a < A
        · have hi2 : (a : Int) < (S.size : Int) := by omega
          have hix := HIX.out a (by omega)
          have HB2 := hid (fun W => HBL.out (l.getD a 0) W)
          rw [HP.out.lead a ha1 hlt] at HB2
          generalize (l.getD a 0).toNat = x at hix HB2
          go_wp2_with fail
          refine (HB2.out _).mono ?_
          rintro e W ⟨rfl, rfl⟩
          go_wp2_with fail
          go_round
          case rel => exact ⟨a + 1, by go_num, hid ⟨by omega, by omega⟩⟩
          case measure => simp [intOf]; omega
        · obtain rfl : a = A := by omega
          clear hlt ha2
          rcases HP.out.ends with ⟨h1, h2⟩ | ⟨h1, h2, h3⟩
          · subst h1
            have HZS : Hid (a = S.size) := by show _ = _; rw [HLN.out]; exact h2
            have hi2 : ¬ (a : Int) < (S.size : Int) := by have := HZS.out; omega
            clear h2
            go_wp2_with fail
            refine wp_loop_rounds 1 ?_
            rw [rounds_succ]
            go_wp2_with fail
            go_region
            all_goals go_wp2_with fail
            rw [show S.extract a S.size = Vl from by rw [← he2, ← HZS.out]]
            have HBA := hid (alloc_below HB0.out HB0.out.size (.cells #[.string Nm, .string Vl] 69)).drew
            have HBB := hid (alloc_below (Below.refl W0.heap.size W0) (Nat.le_refl _) (.cells #[.string Nm, .string Vl] 69)).drew
            have HRA := hid ((HBB.out.block w.heap.size hz0).trans HR0.out)
            have HRB : Hid ((W0.alloc (.cells #[.string Nm, .string Vl] 69)).drew.heap[W0.heap.size]? = some (.cells #[.string Nm, .string Vl] 69 (0, 0))) := heap_alloc_new W0 _
            generalize (W0.alloc (.cells #[.string Nm, .string Vl] 69)).drew = W8 at HBA HRA HRB ⊢
            have q1 : W8.cell? ⟨W0.heap.size, 0, none⟩ = some (.string Nm) := cell_of_row _ _ _ _ _ _ HRB.out
            have q2 : W8.cell? ⟨W0.heap.size, 1, none⟩ = some (.string Vl) := cell_of_row _ _ _ _ _ _ HRB.out
            have hz8 : W0.heap.size < W8.heap.size := (Array.getElem?_eq_some_iff.1 HRB.out).1
            have HZ8 := hid hz8
            have HZ9 : Hid (w.heap.size < W8.heap.size) := (Array.getElem?_eq_some_iff.1 HRA.out).1
            have HST : Hid (∀ W, Below W8.heap.size W8 W → W.cell? ⟨W0.heap.size, 0, none⟩ = some (.string Nm) ∧ W.cell? ⟨W0.heap.size, 1, none⟩ = some (.string Vl) ∧ W.cell? ⟨w.heap.size, 0, none⟩ = some (.string ⟨#[]⟩) ∧ W.cell? ⟨w.heap.size, 1, none⟩ = some (.string ⟨#[]⟩) ∧ W.frozen? ⟨w.heap.size, 0, none⟩ = false ∧ W.frozen? ⟨w.heap.size, 1, none⟩ = false ∧ W.heap[w.heap.size]? = some (.cells #[.string ⟨#[]⟩, .string ⟨#[]⟩] 69 (0, 0))) := fun W hb => by
              have r1 := (hb.block W0.heap.size HZ8.out).trans HRB.out
              have r2 := (hb.block w.heap.size HZ9.out).trans HRA.out
              exact ⟨cell_of_row _ _ _ _ _ _ r1, cell_of_row _ _ _ _ _ _ r1, cell_of_row _ _ _ _ _ _ r2, cell_of_row _ _ _ _ _ _ r2, frozen_of_row _ _ _ _ _ r2, frozen_of_row _ _ _ _ _ r2, r2⟩
            clear hz8
            (first | (go_region_with ((first | (go_at_call 86; refine (HM.out _).mono ?_; rintro e Wx ⟨rfl, hbx⟩; have hb8 := (below_drewN W8.heap.size W8 _).trans hbx; have hh := HST.out Wx hb8; obtain ⟨p1, p2, p3, p4, p5, p6, HP7⟩ := hh) | fail))) | fail)
            all_goals go_wp2_with fail
            all_goals exact bodyPost_ret (ret_hd2 (p := 2) (q := 3) Tryz.results79 _ _ w.heap.size ⟨nm, v⟩ (0, 0) _ rfl rfl (by rw [HRE.out]; exact set_two _ _ HP7)) rfl ⟨rfl, set_two_below _ _ (Nat.le_refl _) (HBA.out.trans (hb8.mono (Nat.le_of_lt HZ9.out)))⟩
          · have hi2 : (a : Int) < (S.size : Int) := by omega
            have hix := HIX.out a (by omega)
            have HB2 := hid (fun W => HBL.out (l.getD a 0) W)
            rw [h2] at HB2
            generalize (l.getD a 0).toNat = x at hix HB2
            clear h2
            go_wp2_with fail
            refine (HB2.out _).mono ?_
            rintro e W ⟨rfl, hWW⟩
            rw [hWW]
            clear hWW
            go_wp2_with fail
            clear hix HB2
            go_loop [6] (fun i => ∃ z : Nat, i = .int .i64 (z : Int) ∧ Hid (Z ≤ z ∧ z ≤ S.size)) (fun i => (intOf i).toNat)
            case atStart => exact ⟨S.size, rfl, hzn, Nat.le_refl _⟩
            case round =>
              obtain ⟨z, rfl, HZZ⟩ := hrel
              have hz1 := HZZ.out.1
              have hz2 := HZZ.out.2
              have hi3 : (a : Int) < (z : Int) := by omega
              have hix := HIX.out (z - 1) (by omega)
              rw [show ((z - 1 : Nat) : Int) = (z : Int) - 1 from by omega] at hix
              have HB2 := hid (fun W => HBL.out (l.getD (z - 1) 0) W)
              by_cases hlt : Z < z
              · rw [HP.out.trail (z - 1) (by omega) (by rw [← HLN.out]; omega)] at HB2
                generalize (l.getD (z - 1) 0).toNat = x at hix HB2
                have hm : 0 < z := by omega
                go_wp2_with fail
                refine (HB2.out _).mono ?_
                rintro e W ⟨rfl, rfl⟩
                go_wp2_with fail
                go_round
                case rel => exact ⟨z - 1, by exact congrArg (Value.int IntKind.i64) (by omega), hid ⟨by omega, by omega⟩⟩
                case measure => simp [intOf]; omega
              · obtain rfl : z = Z := by omega
                rw [h3] at HB2
                generalize (l.getD (z - 1) 0).toNat = x at hix HB2
                have haz2 : (a : Int) ≤ (z : Int) := by omega
                have hzn2 : (z : Int) ≤ (S.size : Int) := by omega
                clear hlt h3
                go_wp2_with fail
                refine (HB2.out _).mono ?_
                rintro e W1 ⟨rfl, hWW⟩
                rw [hWW]
                clear hWW
                go_wp2_with fail
                clear hix HB2
                go_region
                all_goals go_wp2_with fail
                have HBA := hid (alloc_below HB0.out HB0.out.size (.cells #[.string Nm, .string Vl] 69)).drew
                have HBB := hid (alloc_below (Below.refl W0.heap.size W0) (Nat.le_refl _) (.cells #[.string Nm, .string Vl] 69)).drew
                have HRA := hid ((HBB.out.block w.heap.size hz0).trans HR0.out)
                have HRB : Hid ((W0.alloc (.cells #[.string Nm, .string Vl] 69)).drew.heap[W0.heap.size]? = some (.cells #[.string Nm, .string Vl] 69 (0, 0))) := heap_alloc_new W0 _
                generalize (W0.alloc (.cells #[.string Nm, .string Vl] 69)).drew = W8 at HBA HRA HRB ⊢
                have q1 : W8.cell? ⟨W0.heap.size, 0, none⟩ = some (.string Nm) := cell_of_row _ _ _ _ _ _ HRB.out
                have q2 : W8.cell? ⟨W0.heap.size, 1, none⟩ = some (.string Vl) := cell_of_row _ _ _ _ _ _ HRB.out
                have hz8 : W0.heap.size < W8.heap.size := (Array.getElem?_eq_some_iff.1 HRB.out).1
                have HZ8 := hid hz8
                have HZ9 : Hid (w.heap.size < W8.heap.size) := (Array.getElem?_eq_some_iff.1 HRA.out).1
                have HST : Hid (∀ W, Below W8.heap.size W8 W → W.cell? ⟨W0.heap.size, 0, none⟩ = some (.string Nm) ∧ W.cell? ⟨W0.heap.size, 1, none⟩ = some (.string Vl) ∧ W.cell? ⟨w.heap.size, 0, none⟩ = some (.string ⟨#[]⟩) ∧ W.cell? ⟨w.heap.size, 1, none⟩ = some (.string ⟨#[]⟩) ∧ W.frozen? ⟨w.heap.size, 0, none⟩ = false ∧ W.frozen? ⟨w.heap.size, 1, none⟩ = false ∧ W.heap[w.heap.size]? = some (.cells #[.string ⟨#[]⟩, .string ⟨#[]⟩] 69 (0, 0))) := fun W hb => by
                  have r1 := (hb.block W0.heap.size HZ8.out).trans HRB.out
                  have r2 := (hb.block w.heap.size HZ9.out).trans HRA.out
                  exact ⟨cell_of_row _ _ _ _ _ _ r1, cell_of_row _ _ _ _ _ _ r1, cell_of_row _ _ _ _ _ _ r2, cell_of_row _ _ _ _ _ _ r2, frozen_of_row _ _ _ _ _ r2, frozen_of_row _ _ _ _ _ r2, r2⟩
                clear hz8
                (first | (go_region_with ((first | (go_at_call 86; refine (HM.out _).mono ?_; rintro e Wx ⟨rfl, hbx⟩; have hb8 := (below_drewN W8.heap.size W8 _).trans hbx; have hh := HST.out Wx hb8; obtain ⟨p1, p2, p3, p4, p5, p6, HP7⟩ := hh) | fail))) | fail)
                all_goals go_wp2_with fail
                all_goals exact bodyPost_ret (ret_hd2 (p := 2) (q := 3) Tryz.results79 _ _ w.heap.size ⟨nm, v⟩ (0, 0) _ rfl rfl (by rw [HRE.out]; exact set_two _ _ HP7)) rfl ⟨rfl, set_two_below _ _ (Nat.le_refl _) (HBA.out.trans (hb8.mono (Nat.le_of_lt HZ9.out)))⟩
end Go.Proofs.YtclonnpglikddaaGreatDoor
