
/- The reader: four digits, a rune of them, what stands behind a backslash. -/
import Derived.Test.YtlgkbdebpnbndaaGreatDoorJsDig
import Derived.Test.YtlgkbdebpnbndaaGreatDoorJsPU
namespace Go.Proofs.YtlgkbdebpnbndaaGreatDoor
set_option linter.unusedVariables false
set_option linter.unusedSimpArgs false
open Go.RowKit Go.BigFrame
attribute [local go_sem ↓] mkErr

theorem TabE.to {w w' : World} {R : Nat} (h : TabE w) (hg : w.grownBy w' (some R)) (hR : 7 < R) : TabE w' := by
  obtain ⟨m, hm⟩ := h.max
  obtain ⟨te, pe, hs⟩ := h.syn
  have l1 := block_lt_of_cell hm
  have l2 := block_lt_of_cell hs
  exact ⟨⟨m, by rw [hg.cell_far ⟨3, 0, none⟩ l1 (fun e => by injection e with e; simp at e; omega)]; exact hm⟩, ⟨te, pe, by rw [hg.cell_far ⟨4, 0, none⟩ l2 (fun e => by injection e with e; simp at e; omega)]; exact hs⟩⟩
theorem four_some {l r : List UInt8} {v : Nat} (h : fourJ l = some (v, r)) : 4 ≤ l.length ∧ okD 16 (l.take 4) = true ∧ v = numE 16 (l.take 4) ∧ r = l.drop 4 ∧ v < 65536 := by
  unfold fourJ at h
  split at h
  · cases h
  · rename_i hl
    split at h
    · rename_i hok
      injection h with h
      injection h with h1 h2
      refine ⟨by omega, hok, h1.symm, h2.symm, ?_⟩
      have := numE_lt hok
      rw [List.length_take, Nat.min_eq_left (by omega)] at this
      rw [← h1]
      exact this
    · cases h
set_option maxHeartbeats 2000000 in
set_option maxRecDepth 100000 in
theorem hex_j (l : List UInt8) (n d R : Nat) (hl : l.length ≤ 1000000) (hR : 7 < R) (w : World) (hT : TabE w) (h : Rj w R l n d) : Calls Tryz.prog 144 #[.pointer (some ⟨R, 0, none⟩)] w fun e w' => (∀ v r, fourJ l = some (v, r) → e = .returned (.int .i32 (v : Nat)) ∧ Rj w' R r n d) ∧ (fourJ l = none → e = dieJ 5) ∧ w.grownBy w' (some R) := by
  by_cases h4 : l.length < 4
  · have HTK : Hid (Calls Tryz.prog 110 #[.pointer (some ⟨R, 0, none⟩), .int .i64 4] w fun e w' => e = dieJ 5 ∧ w' = w) := take_no l n d R 4 h4 hl w h
    have hf : fourJ l = none := by unfold fourJ; rw [if_pos h4]
    rw [hf]
    clear h hT hf h4 hl
    go_enter Tryz.func144, Tryz.ntmps144
    go_wp2_with fail
    refine HTK.out.mono ?_
    rintro e W ⟨rfl, rfl⟩
    exact ⟨rfl, (fun v r h => by cases h), fun _ => rfl, to_refl _ _⟩
  · have HTK : Hid (Calls Tryz.prog 110 #[.pointer (some ⟨R, 0, none⟩), .int .i64 4] w fun e w' => e = .returned (.string (asS (l.take 4))) ∧ Rj w' R (l.drop 4) n d ∧ Only R w w') := take_ok l n d R 4 (by omega) (by omega) hl w h
    have hlt : (l.take 4).length = 4 := by rw [List.length_take]; omega
    have hne : l.take 4 ≠ [] := fun e => by rw [e] at hlt; cases hlt
    have HTT := hid (fun (W : World) (ho : Only R w W) => hT.to (to_only ho) hR)
    cases hok : okD 16 (l.take 4) with
    | true =>
      have hf : fourJ l = some (numE 16 (l.take 4), l.drop 4) := by unfold fourJ; rw [if_neg h4, if_pos hok]
      have hv := (four_some hf).2.2.2.2
      have HPU := hid (fun W => pubE16_ok (l.take 4) (Nat.le_of_eq hlt) hne hok W)
      rw [hf]
      clear h hT hf h4 hl hlt hne hok
      generalize numE 16 (l.take 4) = V at HPU hv ⊢
      generalize asS (l.take 4) = S at HTK HPU
      generalize l.drop 4 = D at HTK ⊢
      have hv2 : (V : Int) < 65536 := by omega
      go_enter Tryz.func144, Tryz.ntmps144
      go_wp2_with fail
      refine HTK.out.mono ?_
      rintro e W ⟨rfl, hr, ho⟩
      have HR := hid hr
      have HO := hid ho
      clear hr ho HTT HTK
      go_wp2_with fail
      refine (HPU.out W).mono ?_
      rintro e W2 ⟨rfl, hb⟩
      have HR2 := hid (HR.out.below hb)
      have HG := hid ((to_only HO.out).trans (to_below hb))
      clear hb HPU HR HO
      go_wp2_with fail
      go_ret
      refine ⟨(fun v r h => ?_), (fun h => by cases h), HG.out⟩
      injection h with h
      injection h with h1 h2
      subst h1 h2
      exact ⟨rfl, HR2.out⟩
    | false =>
      have hf : fourJ l = none := by unfold fourJ; rw [if_neg h4, if_neg (by rw [hok]; simp)]
      have HPU := hid (fun W (hW : TabE W) => pubE16_err (l.take 4) (Nat.le_of_eq hlt) (.inr hok) W hW)
      rw [hf]
      clear h hT hf h4 hl hlt hne hok
      generalize asS (l.take 4) = S at HTK HPU
      generalize l.drop 4 = D at HTK
      go_enter Tryz.func144, Tryz.ntmps144
      go_wp2_with fail
      refine HTK.out.mono ?_
      rintro e W ⟨rfl, hr, ho⟩
      have HP2 := hid (HPU.out W (HTT.out W ho))
      have HO := hid ho
      clear hr ho HTT HTK HPU
      go_wp2_with fail
      refine HP2.out.mono ?_
      rintro e W2 ⟨t, p, rfl, hb⟩
      have HG := hid ((to_only HO.out).trans (to_below hb))
      clear hb HP2 HO
      go_wp2_with fail
      exact ⟨rfl, (fun v r h => by cases h), fun _ => rfl, HG.out⟩
theorem pick_some {P : Program} {f : Nat} {args : Array Value} {w : World} {X : Option (Nat × List UInt8)} {A : Nat → List UInt8 → Ending → World → Prop} {N : Ending → World → Prop} {G : World → Prop} (h : Calls P f args w fun e w' => (∀ v r, X = some (v, r) → A v r e w') ∧ (X = none → N e w') ∧ G w') {v : Nat} {r : List UInt8} (hx : X = some (v, r)) : Calls P f args w fun e w' => A v r e w' ∧ G w' := h.mono fun e w' hh => ⟨hh.1 v r hx, hh.2.2⟩
theorem pick_none {P : Program} {f : Nat} {args : Array Value} {w : World} {X : Option (Nat × List UInt8)} {A : Nat → List UInt8 → Ending → World → Prop} {N : Ending → World → Prop} {G : World → Prop} (h : Calls P f args w fun e w' => (∀ v r, X = some (v, r) → A v r e w') ∧ (X = none → N e w') ∧ G w') (hx : X = none) : Calls P f args w fun e w' => N e w' ∧ G w' := h.mono fun e w' hh => ⟨hh.2.1 hx, hh.2.2⟩
theorem pair_valid {a b : Nat} (h1 : ¬ (a < 55296 ∨ 57344 ≤ a)) (h2 : ¬ (56320 ≤ a ∨ b < 56320 ∨ 57344 ≤ b)) : pairJ a b = 65536 + (a - 55296) * 1024 + (b - 56320) ∧ ((pairJ a b : Nat) : Int) = 65536 + ((a : Int) - 55296) * 1024 + ((b : Int) - 56320) ∧ 65536 ≤ pairJ a b ∧ pairJ a b ≤ 1114111 := by
  refine ⟨rfl, ?_, ?_, ?_⟩ <;> unfold pairJ <;> omega
theorem uni_valid {l r : List UInt8} {v : Nat} (h : uniJ l = some (v, r)) : validR v = true := by
  rw [validR_iff]
  unfold uniJ at h
  split at h
  · cases h
  · rename_i a r1 h4
    have ha := (four_some h4).2.2.2.2
    split at h
    · rename_i hs
      injection h with h
      injection h with h _
      subst h
      omega
    · rename_i hs
      split at h
      · split at h
        · cases h
        · rename_i b r2 h5
          split at h
          · cases h
          · rename_i hb
            injection h with h
            injection h with h _
            subst h
            have := pair_valid hs hb
            omega
      · cases h
set_option maxHeartbeats 4000000 in
set_option maxRecDepth 100000 in
theorem hexRune_j (l : List UInt8) (n d R : Nat) (hl : l.length ≤ 1000000) (hR : 7 < R) (w : World) (hT : TabE w) (h : Rj w R l n d) : Calls Tryz.prog 132 #[.pointer (some ⟨R, 0, none⟩)] w fun e w' => (∀ v r, uniJ l = some (v, r) → e = .returned (.int .i32 (v : Nat)) ∧ Rj w' R r n d) ∧ (uniJ l = none → e = dieJ 5) ∧ w.grownBy w' (some R) := by
  have HX0 := hex_j l n d R hl hR w hT h
  have HTT := hid (fun (W : World) (hg : w.grownBy W (some R)) => hT.to hg hR)
  clear h hT
  cases h4 : fourJ l with
  | none =>
    have hu : uniJ l = none := by unfold uniJ; rw [h4]
    rw [hu]
    have HX := hid (pick_none HX0 h4)
    clear hu h4 HX0
    go_enter Tryz.func132, Tryz.ntmps132
    go_wp2_with fail
    refine HX.out.mono ?_
    rintro e W ⟨rfl, hg⟩
    exact ⟨rfl, (fun v r h => by cases h), fun _ => rfl, hg⟩
  | some q =>
    obtain ⟨a, r1⟩ := q
    have ha := (four_some h4).2.2.2.2
    have hr1 : r1.length ≤ 1000000 := by have := four_len h4; omega
    have HX := hid (pick_some HX0 h4)
    clear HX0
    by_cases hs : a < 55296 ∨ 57344 ≤ a
    · have hu : uniJ l = some (a, r1) := by
        unfold uniJ
        rw [h4]
        exact if_pos hs
      rw [hu]
      clear hu h4
      by_cases h1 : a < 55296
      · have i1 : (a : Int) < 55296 := by omega
        go_enter Tryz.func132, Tryz.ntmps132
        go_wp2_with fail
        refine HX.out.mono ?_
        rintro e W ⟨⟨rfl, hr⟩, hg⟩
        have HR := hid hr
        have HG := hid hg
        clear hr hg
        go_wp2_with fail
        go_ret
        refine ⟨(fun v r h => ?_), (fun h => by cases h), HG.out⟩
        injection h with h
        injection h with h1 h2
        subst h1 h2
        exact ⟨rfl, HR.out⟩
      · have i1 : ¬ (a : Int) < 55296 := by omega
        have i2 : (57344 : Int) ≤ (a : Int) := by omega
        go_enter Tryz.func132, Tryz.ntmps132
        go_wp2_with fail
        refine HX.out.mono ?_
        rintro e W ⟨⟨rfl, hr⟩, hg⟩
        have HR := hid hr
        have HG := hid hg
        clear hr hg
        go_wp2_with fail
        go_ret
        refine ⟨(fun v r h => ?_), (fun h => by cases h), HG.out⟩
        injection h with h
        injection h with h1 h2
        subst h1 h2
        exact ⟨rfl, HR.out⟩
    · have i1 : ¬ (a : Int) < 55296 := by omega
      have i2 : ¬ (57344 : Int) ≤ (a : Int) := by omega
      generalize hI : ((a : Nat) : Int) = ai at i1 i2 HX
      have HI := hid hI
      clear hI
      have HND : Hid (∀ W, Rj W R r1 n d → Calls Tryz.prog 107 #[.pointer (some ⟨R, 0, none⟩), .string ⟨#[92, 117]⟩] W fun e w' => Rj w' R (passJ [92, 117] r1) n d ∧ Only R W w' ∧ e = (if preX [92, 117] r1 then .returned (.tuple #[]) else dieJ 5)) := fun W h => need_any r1 [92, 117] n d R W h
      cases hp : preX [92, 117] r1 with
      | false =>
        have hu : uniJ l = none := by
          unfold uniJ
          rw [h4]
          show (if _ then _ else _) = _
          rw [if_neg hs, hp]
          rfl
        rw [hu]
        rw [hp] at HND
        clear hu h4 hp hs
        go_enter Tryz.func132, Tryz.ntmps132
        go_wp2_with fail
        refine HX.out.mono ?_
        rintro e W ⟨⟨rfl, hr⟩, hg⟩
        have HN2 := hid (HND.out W hr)
        have HG := hid hg
        clear hr hg HND HX
        go_wp2_with fail
        refine HN2.out.mono ?_
        rintro e W2 ⟨hr, ho, rfl⟩
        exact ⟨rfl, (fun v r h => by cases h), (fun _ => rfl), HG.out.trans (to_only ho)⟩
      | true =>
        have hr2 : (r1.drop 2).length ≤ 1000000 := by rw [List.length_drop]; omega
        have HX2 := hid (fun W (hg : w.grownBy W (some R)) h => hex_j (r1.drop 2) n d R hr2 hR W (HTT.out W hg) h)
        have hpj : passJ [92, 117] r1 = r1.drop 2 := passJ_yes hp
        rw [hp, hpj] at HND
        have hu0 : uniJ l = (match fourJ (r1.drop 2) with
            | none => none
            | some (b, r2) => if 56320 ≤ a ∨ b < 56320 ∨ 57344 ≤ b then none else some (pairJ a b, r2)) := by
          unfold uniJ
          rw [h4]
          show (if _ then _ else _) = _
          rw [if_neg hs, hp]
          rfl
        rw [hu0]
        generalize r1.drop 2 = D at HND HX2 ⊢
        cases h5 : fourJ D with
        | none =>
          have HX2 := hid (fun W hg h => pick_none (HX2.out W hg h) h5)
          clear hu0 h4 hp hpj hs h5
          go_enter Tryz.func132, Tryz.ntmps132
          go_wp2_with fail
          refine HX.out.mono ?_
          rintro e W ⟨⟨rfl, hr⟩, hg⟩
          have HN2 := hid (HND.out W hr)
          have HG := hid hg
          clear hr hg HND HX
          go_wp2_with fail
          refine HN2.out.mono ?_
          rintro e W2 ⟨hr, ho, rfl⟩
          have HG2 := hid (HG.out.trans (to_only ho))
          have HX3 := hid (HX2.out W2 HG2.out hr)
          clear hr ho HN2 HX2 HG
          go_wp2_with fail
          refine HX3.out.mono ?_
          rintro e W3 ⟨rfl, hg⟩
          exact ⟨rfl, (fun v r h => by cases h), (fun _ => rfl), HG2.out.trans hg⟩
        | some q =>
          obtain ⟨b, r2⟩ := q
          have hb := (four_some h5).2.2.2.2
          have HX2 := hid (fun W hg h => pick_some (HX2.out W hg h) h5)
          generalize hJ : ((b : Nat) : Int) = bi at HX2
          have HJ := hid hJ
          clear hJ
          show Calls _ _ _ _ fun e w' => (∀ v r, (if 56320 ≤ a ∨ b < 56320 ∨ 57344 ≤ b then none else some (pairJ a b, r2)) = some (v, r) → _) ∧ ((if 56320 ≤ a ∨ b < 56320 ∨ 57344 ≤ b then none else some (pairJ a b, r2)) = none → _) ∧ _
          by_cases hbad : 56320 ≤ a ∨ b < 56320 ∨ 57344 ≤ b
          · rw [if_pos hbad]
            have walk : ∀ (t1 t2 t3 : Bool), decide ((56320 : Int) ≤ ai) = t1 → decide (bi < 56320) = t2 → decide ((57344 : Int) ≤ bi) = t3 → (t1 || t2 || t3) = true → Calls Tryz.prog 132 #[.pointer (some ⟨R, 0, none⟩)] w fun e w' => (∀ (v : Nat) (r : List UInt8), (none : Option (Nat × List UInt8)) = some (v, r) → e = .returned (.int .i32 (v : Nat)) ∧ Rj w' R r n d) ∧ ((none : Option (Nat × List UInt8)) = none → e = dieJ 5) ∧ w.grownBy w' (some R) := by
              intro t1 t2 t3 q1 q2 q3 ht
              clear hu0 h4 hp hpj hs h5 hbad
              cases t1 <;> cases t2 <;> cases t3 <;> first | (cases ht; done) | skip
              all_goals
                clear ht
                go_enter Tryz.func132, Tryz.ntmps132
                go_wp2_with fail
                refine HX.out.mono ?_
                rintro e W ⟨⟨rfl, hr⟩, hg⟩
                have HN2 := hid (HND.out W hr)
                have HG := hid hg
                clear hr hg
                go_wp2_with fail
                refine HN2.out.mono ?_
                rintro e W2 ⟨hr, ho, rfl⟩
                have HG2 := hid (HG.out.trans (to_only ho))
                have HX3 := hid (HX2.out W2 HG2.out hr)
                clear hr ho HN2 HG
                go_wp2_with fail
                refine HX3.out.mono ?_
                rintro e W3 ⟨⟨rfl, hr⟩, hg⟩
                have HG3 := hid (HG2.out.trans hg)
                clear hr hg
                go_wp2_with fail
                exact ⟨rfl, (fun v r h => by cases h), (fun _ => rfl), HG3.out⟩
            refine walk _ _ _ rfl rfl rfl ?_
            simp only [Bool.or_eq_true, decide_eq_true_eq]
            have e1 := HI.out
            have e2 := HJ.out
            omega
          · rw [if_neg hbad]
            obtain ⟨-, hpv, hp1, hp2⟩ := pair_valid hs hbad
            have e1 := HI.out
            have e2 := HJ.out
            have q1 : ¬ (56320 : Int) ≤ ai := by omega
            have q2 : ¬ bi < 56320 := by omega
            have q3 : ¬ (57344 : Int) ≤ bi := by omega
            have q4 : (55296 : Int) ≤ ai := by omega
            have q5 : ai < 56320 := by omega
            have q6 : (56320 : Int) ≤ bi := by omega
            have q7 : bi < 57344 := by omega
            rw [e1, e2] at hpv
            have HPV := hid hpv
            clear hu0 h4 hp hpj hs h5 hbad hpv e1 e2 hp1 hp2 ha hb
            go_enter Tryz.func132, Tryz.ntmps132
            go_wp2_with fail
            refine HX.out.mono ?_
            rintro e W ⟨⟨rfl, hr⟩, hg⟩
            have HN2 := hid (HND.out W hr)
            have HG := hid hg
            clear hr hg HND HX
            go_wp2_with fail
            refine HN2.out.mono ?_
            rintro e W2 ⟨hr, ho, rfl⟩
            have HG2 := hid (HG.out.trans (to_only ho))
            have HX3 := hid (HX2.out W2 HG2.out hr)
            clear hr ho HN2 HG HX2
            go_wp2_with fail
            refine HX3.out.mono ?_
            rintro e W3 ⟨⟨rfl, hr⟩, hg⟩
            have HG3 := hid (HG2.out.trans hg)
            have HR3 := hid hr
            clear hr hg HX3 HG2
            go_wp2_with fail
            go_ret
            refine ⟨(fun v r h => ?_), (fun h => by cases h), HG3.out⟩
            injection h with h
            injection h with h1 h2
            subst h1 h2
            refine ⟨?_, HR3.out⟩
            rw [HPV.out]
            rfl
/-! What stands behind a backslash. -/
def escC : List UInt8 := [34, 92, 47, 98, 102, 110, 114, 116]
def meanC : List UInt8 := [34, 92, 47, 8, 12, 10, 13, 9]
theorem plain_fin : ∀ n : Fin 256, (plainE (UInt8.ofNat n.val) = none → Lib.indexByte escC (UInt8.ofNat n.val) < 0) ∧ (∀ v, plainE (UInt8.ofNat n.val) = some v → 0 ≤ Lib.indexByte escC (UInt8.ofNat n.val) ∧ Lib.indexByte escC (UInt8.ofNat n.val) < 8 ∧ (meanC.getD (Lib.indexByte escC (UInt8.ofNat n.val)).toNat 0).toNat = v ∧ v < 128) := by
  have h : ∀ n : Fin 256, (match plainE (UInt8.ofNat n.val) with
    | none => decide (Lib.indexByte escC (UInt8.ofNat n.val) < 0)
    | some v => decide (0 ≤ Lib.indexByte escC (UInt8.ofNat n.val)) && decide (Lib.indexByte escC (UInt8.ofNat n.val) < 8) && decide ((meanC.getD (Lib.indexByte escC (UInt8.ofNat n.val)).toNat 0).toNat = v) && decide (v < 128)) = true := by decide +kernel
  intro n
  have hn := h n
  cases hp : plainE (UInt8.ofNat n.val) with
  | none =>
    rw [hp] at hn
    exact ⟨fun _ => of_decide_eq_true hn, fun v h => by cases h⟩
  | some v =>
    rw [hp] at hn
    simp only [Bool.and_eq_true, decide_eq_true_eq] at hn
    exact ⟨(fun h => by cases h), fun v' h => by injection h with h; subst h; exact ⟨hn.1.1.1, hn.1.1.2, hn.1.2, hn.2⟩⟩
theorem plain_of (c : UInt8) : (plainE c = none → Lib.indexByte escC c < 0) ∧ (∀ v, plainE c = some v → 0 ≤ Lib.indexByte escC c ∧ Lib.indexByte escC c < 8 ∧ (meanC.getD (Lib.indexByte escC c).toNat 0).toNat = v ∧ v < 128) := by
  have := plain_fin ⟨c.toNat, c.toNat_lt⟩
  simp only [UInt8.ofNat_toNat] at this
  exact this
theorem esc_valid {l r : List UInt8} {v : Nat} (h : escJ l = some (v, r)) : validR v = true := by
  unfold escJ at h
  split at h
  · cases h
  · rename_i c r1
    split at h
    · exact uni_valid h
    · cases hp : plainE c with
      | none => rw [hp] at h; cases h
      | some v' =>
        rw [hp] at h
        injection h with h
        injection h with h _
        subst h
        have := ((plain_of c).2 v' hp).2.2.2
        rw [validR_iff]
        omega
theorem escIx_any (c : UInt8) (w : World) : Calls Tryz.prog 133 #[.string ⟨#[34, 92, 47, 98, 102, 110, 114, 116]⟩, .string (asS [c])] w fun e w' => e = .returned (.int .i64 (Lib.indexByte escC c)) ∧ w' = w := Tryz.strings_Index_one ⟨#[34, 92, 47, 98, 102, 110, 114, 116]⟩ c w
set_option maxHeartbeats 4000000 in
set_option maxRecDepth 100000 in
theorem escaped_j (l : List UInt8) (n d R : Nat) (hl : l.length ≤ 1000000) (hR : 7 < R) (w : World) (hT : TabE w) (h : Rj w R l n d) : Calls Tryz.prog 109 #[.pointer (some ⟨R, 0, none⟩)] w fun e w' => (∀ v r, escJ l = some (v, r) → e = .returned (.int .i32 (v : Nat)) ∧ Rj w' R r n d) ∧ (escJ l = none → e = dieJ 5) ∧ w.grownBy w' (some R) := by
  have HPS : Hid (Calls Tryz.prog 88 #[.pointer (some ⟨R, 0, none⟩), .string ⟨#[117]⟩] w fun e w' => e = .returned (.bool (preX [117] l)) ∧ Rj w' R (passJ [117] l) n d ∧ Only R w w') := passJ_any l [117] n d R w h
  have HTT := hid (fun (W : World) (ho : Only R w W) => hT.to (to_only ho) hR)
  clear hT h
  cases l with
  | nil =>
    have hp : preX [117] ([] : List UInt8) = false := rfl
    have hpj : passJ [117] ([] : List UInt8) = [] := rfl
    rw [hp, hpj] at HPS
    have HTK : Hid (∀ W, Rj W R [] n d → Calls Tryz.prog 110 #[.pointer (some ⟨R, 0, none⟩), .int .i64 1] W fun e w' => e = dieJ 5 ∧ w' = W) := fun W h => take_no [] n d R 1 (by simp) (by simp) W h
    have he : escJ [] = none := rfl
    rw [he]
    go_enter Tryz.func109, Tryz.ntmps109
    go_wp2_with fail
    refine HPS.out.mono ?_
    rintro e W ⟨rfl, hr, ho⟩
    have HO := hid ho
    have HT2 := hid (HTK.out W hr)
    clear hr ho HTK HPS
    go_wp2_with fail
    refine HT2.out.mono ?_
    rintro e W2 ⟨rfl, rfl⟩
    exact ⟨rfl, (fun v r h => by cases h), (fun _ => rfl), to_only HO.out⟩
  | cons c r =>
    by_cases hc : c = 117
    · subst hc
      have hp : preX [117] ((117 : UInt8) :: r) = true := rfl
      have hpj : passJ [117] ((117 : UInt8) :: r) = r := rfl
      rw [hp, hpj] at HPS
      have hr1 : r.length ≤ 1000000 := by simp only [List.length_cons] at hl; omega
      have HX := hid (fun W (ho : Only R w W) h => hexRune_j r n d R hr1 hR W (HTT.out W ho) h)
      have he : escJ ((117 : UInt8) :: r) = uniJ r := rfl
      rw [he]
      cases hu : uniJ r with
      | none =>
        have HXn := hid (fun W ho h => pick_none (HX.out W ho h) hu)
        clear HX he hp hpj hl
        go_enter Tryz.func109, Tryz.ntmps109
        go_wp2_with fail
        refine HPS.out.mono ?_
        rintro e W ⟨rfl, hr, ho⟩
        have HO := hid ho
        have HX2 := hid (HXn.out W ho hr)
        clear hr ho HXn HPS
        go_wp2_with fail
        refine HX2.out.mono ?_
        rintro e W2 ⟨rfl, hg⟩
        exact ⟨rfl, (fun v r h => by cases h), (fun _ => rfl), (to_only HO.out).trans hg⟩
      | some q =>
        obtain ⟨v, r2⟩ := q
        have HXn := hid (fun W ho h => pick_some (HX.out W ho h) hu)
        clear HX he hp hpj hl
        go_enter Tryz.func109, Tryz.ntmps109
        go_wp2_with fail
        refine HPS.out.mono ?_
        rintro e W ⟨rfl, hr, ho⟩
        have HO := hid ho
        have HX2 := hid (HXn.out W ho hr)
        clear hr ho HXn HPS
        go_wp2_with fail
        refine HX2.out.mono ?_
        rintro e W2 ⟨⟨rfl, hr⟩, hg⟩
        have HG := hid ((to_only HO.out).trans hg)
        have HR := hid hr
        clear hr hg
        go_wp2_with fail
        go_ret
        refine ⟨(fun v r h => ?_), (fun h => by cases h), HG.out⟩
        injection h with h
        injection h with h1 h2
        subst h1 h2
        exact ⟨rfl, HR.out⟩
    · have hp : preX [117] (c :: r) = false := by
        show ((117 : UInt8) == c && _) = false
        rw [show ((117 : UInt8) == c) = false by rw [beq_eq_false_iff_ne]; exact fun e => hc e.symm]
        rfl
      have hpj : passJ [117] (c :: r) = c :: r := passJ_no hp
      rw [hp, hpj] at HPS
      have HTK : Hid (∀ W, Rj W R (c :: r) n d → Calls Tryz.prog 110 #[.pointer (some ⟨R, 0, none⟩), .int .i64 1] W fun e w' => e = .returned (.string (asS [c])) ∧ Rj w' R r n d ∧ Only R W w') := fun W h => take_ok (c :: r) n d R 1 (Nat.le_refl _) (by simp) hl W h
      have HIX := hid (fun W => escIx_any c W)
      have he : escJ (c :: r) = (plainE c).map fun n => (n, r) := by
        show (if _ then _ else _) = _
        rw [if_neg hc]
      rw [he]
      obtain ⟨p1, p2⟩ := plain_of c
      generalize Lib.indexByte escC c = i at HIX p1 p2
      cases hpl : plainE c with
      | none =>
        have hi : i < 0 := p1 hpl
        clear p1 p2 he hp hpj hl hc hpl
        show Calls _ _ _ _ fun e w' => (∀ v r', (none : Option (Nat × List UInt8)) = some (v, r') → _) ∧ ((none : Option (Nat × List UInt8)) = none → _) ∧ _
        generalize asS [c] = C at HTK HIX
        go_enter Tryz.func109, Tryz.ntmps109
        go_wp2_with fail
        refine HPS.out.mono ?_
        rintro e W ⟨rfl, hr, ho⟩
        have HO := hid ho
        have HT2 := hid (HTK.out W hr)
        clear hr ho HTK HPS
        go_wp2_with fail
        refine HT2.out.mono ?_
        rintro e W2 ⟨rfl, hr, ho⟩
        have HO2 := hid ((to_only HO.out).trans (to_only ho))
        clear hr ho HO
        go_wp2_with fail
        refine (HIX.out W2).mono ?_
        rintro e W3 ⟨rfl, rfl⟩
        go_wp2_with fail
        exact ⟨rfl, (fun v r h => by cases h), (fun _ => rfl), HO2.out⟩
      | some v =>
        obtain ⟨q1, q2, q3, q4⟩ := p2 v hpl
        clear p1 p2 he hp hpj hl hc hpl
        show Calls _ _ _ _ fun e w' => (∀ v' r', some (v, r) = some (v', r') → _) ∧ (some (v, r) = none → _) ∧ _
        obtain ⟨k, rfl⟩ := Int.eq_ofNat_of_zero_le q1
        rw [Int.toNat_natCast] at q3
        have hk : k < 8 := by omega
        have hix : ∀ W, (Instr.index 9 (.string ⟨#[34, 92, 47, 8, 12, 10, 13, 9]⟩) (.int .i64 (k : Int))).run Tryz.prog W = .ok (.int .u8 (v : Nat)) W := fun W => by
          have := str_ix ⟨#[34, 92, 47, 8, 12, 10, 13, 9]⟩ k hk W
          rw [show ((ByteArray.mk #[34, 92, 47, 8, 12, 10, 13, 9]).data.toList.getD k 0).toNat = v from q3] at this
          exact this
        have q5 : ¬ (k : Int) < 0 := by omega
        have hv : (v : Int) < 128 := by omega
        clear q1 q2 q3 q4 hk
        generalize asS [c] = C at HTK HIX
        go_enter Tryz.func109, Tryz.ntmps109
        go_wp2_with fail
        refine HPS.out.mono ?_
        rintro e W ⟨rfl, hr, ho⟩
        have HO := hid ho
        have HT2 := hid (HTK.out W hr)
        clear hr ho HTK HPS
        go_wp2_with fail
        refine HT2.out.mono ?_
        rintro e W2 ⟨rfl, hr, ho⟩
        have HO2 := hid ((to_only HO.out).trans (to_only ho))
        have HR := hid hr
        clear hr ho HO
        go_wp2_with fail
        refine (HIX.out W2).mono ?_
        rintro e W3 ⟨rfl, rfl⟩
        go_wp2_with fail
        go_ret
        refine ⟨(fun v r h => ?_), (fun h => by cases h), HO2.out⟩
        injection h with h
        injection h with h1 h2
        subst h1 h2
        exact ⟨rfl, HR.out⟩
end Go.Proofs.YtlgkbdebpnbndaaGreatDoor
