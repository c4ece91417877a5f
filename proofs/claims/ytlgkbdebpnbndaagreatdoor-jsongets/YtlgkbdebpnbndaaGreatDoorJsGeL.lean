
/- The law JsonGets, whole. -/
import Derived.Test.YtlgkbdebpnbndaaGreatDoorJsSaL
import Derived.Test.YtlgkbdebpnbndaaGreatDoorJsTxt
import Derived.Test.YtlgkbdebpnbndaaGreatDoorJsRGet
namespace Go.Proofs.YtlgkbdebpnbndaaGreatDoor
set_option linter.unusedVariables false
set_option linter.unusedSimpArgs false
open Go.RowKit Go.BigFrame
attribute [local go_sem ↓] loadV_eq

set_option maxHeartbeats 16000000 in
set_option maxRecDepth 100000 in
theorem gets_go (a0 a1 a2 a3 a4 : Value) (NM : ByteArray) (w : World) (kY nY : Int) (tY : List UInt8) (yt : VJ 39) (hlab : (labJ 39 yt).1 = kY ∧ (labJ 39 yt).2.1 = nY ∧ (labJ 39 yt).2.2.1 = tY) (b : Bool) (ST : ByteArray) (EV FV NV : Int)
    (hcase : (b = false ∧ EV = 4 ∧ FV = 4 ∧ ST = ⟨#[]⟩ ∧ NV = 0) ∨ (b = true ∧ kY = 3 ∧ EV = 0 ∧ FV = 1 ∧ ST = asS tY ∧ NV = 0) ∨ (b = true ∧ kY = 2 ∧ EV = 1 ∧ FV = 0 ∧ ST = ⟨#[]⟩ ∧ NV = nY) ∨ (b = true ∧ kY ≠ 3 ∧ kY ≠ 2 ∧ EV = 1 ∧ FV = 1 ∧ ST = ⟨#[]⟩ ∧ NV = 0))
    (HL : Hid (∀ W, Below w.heap.size w W → Calls Tryz.prog 8 #[.agg #[a0, a1, a2, a3, a4]] W fun e w' => e = .returned (.bool true) ∧ Below W.heap.size W w'))
    (HG : Hid (∀ W, Below w.heap.size w W → Calls Tryz.prog 18 #[.agg #[a0, a1, a2, a3, a4], .string NM] W fun e w' => (∃ cx, e = .returned (.tuple #[.agg cx, .bool b]) ∧ Hid (VAt (fun _ => True) 39 w' cx yt)) ∧ Below W.heap.size W w'))
    (HR : Hid (∀ W, Below w.heap.size w W → Calls Tryz.prog 19 #[.agg #[a0, a1, a2, a3, a4], .string NM] W fun e w' => (∃ cx, e = .returned (.tuple #[.agg cx, .bool b]) ∧ Hid (VAt (fun _ => True) 39 w' cx yt)) ∧ Below W.heap.size W w'))
    (HT : Hid (∀ W, Below w.heap.size w W → Calls Tryz.prog 20 #[.agg #[a0, a1, a2, a3, a4], .string NM] W fun e w' => e = .returned (.tuple #[.string ST, .int .i64 EV]) ∧ Below W.heap.size W w'))
    (HN : Hid (∀ W, Below w.heap.size w W → Calls Tryz.prog 21 #[.agg #[a0, a1, a2, a3, a4], .string NM] W fun e w' => e = .returned (.tuple #[.int .i64 NV, .int .i64 FV]) ∧ Below W.heap.size W w'))
    (HS : Hid (∀ cx cy W, VAt (fun _ => True) 39 W cx yt → VAt (fun _ => True) 39 W cy yt → Calls Tryz.prog 15 #[.agg cx, .agg cy] W fun x w' => x = .returned (.bool true) ∧ Below W.heap.size W w'))
    (HAW : Hid (∀ W, Below w.heap.size w W → Calls Tryz.prog 9 #[] W fun x w' => x = .returned (.bool true) ∧ Below W.heap.size W w')) :
    Calls Tryz.prog 5 #[.agg #[a0, a1, a2, a3, a4], .string NM] w fun e w' => e = .returned (.bool true) ∧ Below w.heap.size w w' := by
  have HB0 := hid ((Below.refl w.heap.size w).alloc (Nat.le_refl _) (.cells #[a0, a1, a2, a3, a4] 25))
  have HX0 := hid (heap_alloc_new w (.cells #[a0, a1, a2, a3, a4] 25 (0, 0)))
  obtain ⟨W0, hW0⟩ : ∃ W0, w.alloc (.cells #[a0, a1, a2, a3, a4] 25) = W0 := ⟨_, rfl⟩
  rw [hW0] at HB0 HX0
  have HL1 := hid (HL.out W0 HB0.out)
  have HLAB := hid hlab
  have HCS := hid hcase
  clear hlab hcase HL
  go_enter Tryz.func5, Tryz.ntmps5
  go_wp2_with (first
    | (refine load_msg rfl _ rfl w.heap.size #[a0, a1, a2, a3, a4] rfl (load_v5 HX0.out rfl) ?_)
    | fail)
  refine HL1.out.mono ?_
  rintro e W1 ⟨rfl, hb⟩
  have HB1 := hid (HB0.out.trans (hb.mono HB0.out.size))
  have HX1 := hid (row_keep hb HX0.out)
  have HG1 := hid (HG.out W1 HB1.out)
  clear hb HL1 HB0 HX0 HG hW0
  go_wp2_with (first
    | (refine load_msg rfl _ rfl w.heap.size #[a0, a1, a2, a3, a4] rfl (load_v5 HX1.out rfl) ?_)
    | fail)
  refine HG1.out.mono ?_
  rintro e W2 ⟨⟨cx, rfl, HV2⟩, hb⟩
  have HB2 := hid (HB1.out.trans (hb.mono HB1.out.size))
  have HX2 := hid (row_keep hb HX1.out)
  have HN2 := hid (heap_alloc_new W2 (.cells #[.int .i64 0, .int .i64 0, .string ⟨#[]⟩, .slice none 0 0, .slice none 0 0] 25 (0, 0)))
  have HA2 := hid ((Below.refl W2.heap.size W2).alloc (Nat.le_refl _) (.cells #[.int .i64 0, .int .i64 0, .string ⟨#[]⟩, .slice none 0 0, .slice none 0 0] 25))
  clear hb HG1 HB1 HX1
  go_wp2_with (first
    | (refine wpList_store_abs rfl 25 (.tmp 5) (.tmp 21) rfl W2.heap.size 0 cx rfl rfl 25 _ HN2.out (by rw [HV2.out.size]; exact Nat.le_refl _) (by rw [HV2.out.size]; exact infoVj) (vcs_one HV2.out) ?_; intro V2 hO hW; rw [over_whole #[.int .i64 0, .int .i64 0, .string ⟨#[]⟩, .slice none 0 0, .slice none 0 0] cx (by rw [HV2.out.size]; rfl)] at hW; have hBW : Below W2.heap.size W2 V2 := HA2.out.trans (hO.below (Nat.le_refl _)); have HBV2 : Hid (Below w.heap.size w V2) := HB2.out.trans (hBW.mono HB2.out.size); have HXV2 := hid (row_keep hBW HX2.out); have HRX := hid hW; have HVX := hid (HV2.out.below hBW (Nat.le_refl _)); have HR1 := hid (HR.out V2 HBV2.out); clear hO hW hBW)
    | (refine load_msg rfl _ rfl w.heap.size #[a0, a1, a2, a3, a4] rfl (load_v5 HXV2.out rfl) ?_)
    | fail)
  clear HR HV2 HN2 HA2 HB2 HX2
  refine HR1.out.mono ?_
  rintro e W3 ⟨⟨cy, rfl, HV3⟩, hb⟩
  have HB3 := hid (HBV2.out.trans (hb.mono HBV2.out.size))
  have HX3 := hid (row_keep hb HXV2.out)
  have HRX3 := hid (row_keep hb HRX.out)
  have HVX3 := hid (HVX.out.below hb (Nat.le_refl _))
  have HN3 := hid (heap_alloc_new W3 (.cells #[.int .i64 0, .int .i64 0, .string ⟨#[]⟩, .slice none 0 0, .slice none 0 0] 25 (0, 0)))
  have HA3 := hid ((Below.refl W3.heap.size W3).alloc (Nat.le_refl _) (.cells #[.int .i64 0, .int .i64 0, .string ⟨#[]⟩, .slice none 0 0, .slice none 0 0] 25))
  clear hb HR1 HBV2 HXV2 HRX HVX
  go_wp2_with (first
    | (refine wpList_store_abs rfl 25 (.tmp 7) (.tmp 27) rfl W3.heap.size 0 cy rfl rfl 25 _ HN3.out (by rw [HV3.out.size]; exact Nat.le_refl _) (by rw [HV3.out.size]; exact infoVj) (vcs_one HV3.out) ?_; intro V3 hO hW; rw [over_whole #[.int .i64 0, .int .i64 0, .string ⟨#[]⟩, .slice none 0 0, .slice none 0 0] cy (by rw [HV3.out.size]; rfl)] at hW; have hBW : Below W3.heap.size W3 V3 := HA3.out.trans (hO.below (Nat.le_refl _)); have HBV3 : Hid (Below w.heap.size w V3) := HB3.out.trans (hBW.mono HB3.out.size); have HXV3 := hid (row_keep hBW HX3.out); have HRXV := hid (row_keep hBW HRX3.out); have HVXV := hid (HVX3.out.below hBW (Nat.le_refl _)); have HRY := hid hW; have HVY := hid (HV3.out.below hBW (Nat.le_refl _)); have HT1 := hid (HT.out V3 HBV3.out); clear hO hW hBW)
    | (refine load_msg rfl _ rfl w.heap.size #[a0, a1, a2, a3, a4] rfl (load_v5 HXV3.out rfl) ?_)
    | fail)
  clear HT HV3 HN3 HA3 HB3 HX3 HRX3 HVX3
  refine HT1.out.mono ?_
  rintro e W4 ⟨rfl, hb⟩
  have HB4 := hid (HBV3.out.trans (hb.mono HBV3.out.size))
  have HX4 := hid (row_keep hb HXV3.out)
  have HRX4 := hid (row_keep hb HRXV.out)
  have HRY4 := hid (row_keep hb HRY.out)
  have HVX4 := hid (HVXV.out.below hb (Nat.le_refl _))
  have HVY4 := hid (HVY.out.below hb (Nat.le_refl _))
  have HN1 := hid (HN.out W4 HB4.out)
  clear hb HT1 HBV3 HXV3 HRXV HVXV HRY HVY HN
  go_wp2_with (first
    | (refine load_msg rfl _ rfl w.heap.size #[a0, a1, a2, a3, a4] rfl (load_v5 HX4.out rfl) ?_)
    | fail)
  refine HN1.out.mono ?_
  rintro e W5 ⟨rfl, hb⟩
  have HB5 := hid (HB4.out.trans (hb.mono HB4.out.size))
  have HRX5 := hid (row_keep hb HRX4.out)
  have HRY5 := hid (row_keep hb HRY4.out)
  have HVX5 := hid (HVX4.out.below hb (Nat.le_refl _))
  have HVY5 := hid (HVY4.out.below hb (Nat.le_refl _))
  have HS1 := hid (HS.out cx cy W5 HVX5.out HVY5.out)
  clear hb HN1 HB4 HX4 HRX4 HRY4 HVX4 HVY4 HS
  obtain ⟨kA, kc, nA, nc, hcy, _⟩ := HVY5.out.parts
  obtain ⟨l1, l2, l3⟩ := HLAB.out
  have hzx := HVX5.out.size
  have hzy := HVY5.out.size
  unfold vcs at hcy
  rw [l1, l2, l3] at hcy
  have HZY := hid hzy
  have HZX := hid hzx
  have HCY := hid hcy
  clear l1 l2 l3 HLAB hzx hzy hcy
  have hbb : (b != b) = false := by cases b <;> rfl
  have hldx := loadV_run HRX5.out HZX.out
  have hldy := loadV_run HRY5.out HZY.out
  go_wp2_with fail
  clear hldx hldy
  refine HS1.out.mono ?_
  rintro e W6 ⟨rfl, hb⟩
  have HB6 := hid (HB5.out.trans (hb.mono HB5.out.size))
  have hry := row_keep hb HRY5.out
  rw [HCY.out] at hry
  have g0 : W6.cell? ⟨W3.heap.size, 0, none⟩ = some (.int .i64 kY) := cell_of_row _ _ _ _ _ _ hry
  have g1 : W6.cell? ⟨W3.heap.size, 1, none⟩ = some (.int .i64 nY) := cell_of_row _ _ _ _ _ _ hry
  have g2 : W6.cell? ⟨W3.heap.size, 2, none⟩ = some (.string (asS tY)) := cell_of_row _ _ _ _ _ _ hry
  have HA := hid (HAW.out W6 HB6.out)
  have hcase := HCS.out
  clear hb HS1 HB5 HRX5 HRY5 HVX5 HVY5 hry HCY HZX HZY HAW HCS
  generalize asS tY = TY at g2 hcase
  have hself : (TY.toList == TY.toList) = true := by simp
  rcases hcase with ⟨rfl, rfl, rfl, rfl, rfl⟩ | ⟨rfl, rfl, rfl, rfl, rfl, rfl⟩ | ⟨rfl, rfl, rfl, rfl, rfl, rfl⟩ | ⟨rfl, h3, h2, rfl, rfl, rfl, rfl⟩
  · go_wp2_with fail
    refine HA.out.mono ?_
    rintro e W7 ⟨rfl, hb⟩
    have HB7 := hid (HB6.out.trans (hb.mono HB6.out.size))
    clear hb
    go_wp2_with fail
    go_ret
    exact ⟨rfl, HB7.out⟩
  · go_wp2_with fail
    refine HA.out.mono ?_
    rintro e W7 ⟨rfl, hb⟩
    have HB7 := hid (HB6.out.trans (hb.mono HB6.out.size))
    clear hb
    go_wp2_with fail
    go_ret
    exact ⟨rfl, HB7.out⟩
  · have hnn : (NV == NV) = true := by simp
    go_wp2_with fail
    refine HA.out.mono ?_
    rintro e W7 ⟨rfl, hb⟩
    have HB7 := hid (HB6.out.trans (hb.mono HB6.out.size))
    clear hb
    go_wp2_with fail
    go_ret
    exact ⟨rfl, HB7.out⟩
  · have e3 : (kY == 3) = false := by simpa using h3
    have e2 : (kY == 2) = false := by simpa using h2
    go_wp2_with fail
    refine HA.out.mono ?_
    rintro e W7 ⟨rfl, hb⟩
    have HB7 := hid (HB6.out.trans (hb.mono HB6.out.size))
    clear hb
    go_wp2_with fail
    go_ret
    exact ⟨rfl, HB7.out⟩
theorem VAt.any {P : Nat → Prop} {d : Nat} {w : World} {cs : Array Value} {t : VJ d} (h : VAt P d w cs t) : VAt (fun _ => True) d w cs t := h.mono fun _ _ _ => trivial
theorem vzero (w : World) : VAt (fun _ => True) 39 w #[.int .i64 0, .int .i64 0, .string ⟨#[]⟩, .slice none 0 0, .slice none 0 0] (leafJ 39 zeroL) := VAt.mk0 (l := zeroL) (kA := none) (kc := 0) (nA := none) (nc := 0) (NmsP.nil _ _ _)
set_option maxHeartbeats 4000000 in
set_option maxRecDepth 100000 in
theorem gets_law (D : Nat) (t : VJ D) (cs : Array Value) (nm : ByteArray) (w : World) (hs : StrJ 140737488355328 D t) (h : VAt (fun q => q < w.heap.size) D w cs t) (hT : TabX w) :
    Calls Tryz.prog 5 #[.agg cs, .string nm] w fun e w' => e = .returned (.bool true) ∧ Below w.heap.size w w' := by
  have HLA := hid (fun W (hb : Below w.heap.size w W) => light_any _ D t hs cs W (h.below hb (Nat.le_refl _)))
  have HAW := hid (fun W (hb : Below w.heap.size w W) => awake16 W (Nat.lt_of_lt_of_le hT.2 hb.size) (hT.1.below hb))
  obtain ⟨a0, a1, a2, a3, a4, hcs⟩ : ∃ a b c e f, cs = #[a, b, c, e, f] := by
    obtain ⟨kA, kc, nA, nc, e1, _⟩ := h.parts
    exact ⟨_, _, _, _, _, e1⟩
  by_cases hl : 0 < szJ D t 0 8000
  · obtain ⟨t2, ht, hw⟩ := light_cut h hl
    have hw2 : wtJ 40 t2 ≤ 100000 := by omega
    obtain ⟨NL, hNL⟩ : ∃ NL : List UInt8, asS NL = nm := ⟨nm.data.toList, asS_back nm⟩
    subst hNL
    have HTX := hid (fun W (hb : Below w.heap.size w W) => text_any hw2 NL cs W (ht.below hb (Nat.le_refl _)))
    have HNB := hid (fun W (hb : Below w.heap.size w W) => numb_any hw2 NL cs W (ht.below hb (Nat.le_refl _)))
    have HRG := hid (fun W (hb : Below w.heap.size w W) => refGet_any (ht.below hb (Nat.le_refl _)) hw2 NL)
    have HLT : Hid (∀ W, Below w.heap.size w W → Calls Tryz.prog 8 #[.agg cs] W fun e w' => e = .returned (.bool true) ∧ Below W.heap.size W w') := fun W hb => (HLA.out W hb).mono fun e w' hh => ⟨by rw [hh.1, decide_eq_true hl], hh.2⟩
    cases hp : placeJ 40 t2 NL with
    | none =>
      have e1 : errJ 3 40 t2 NL = 4 := by unfold errJ; rw [hp]
      have e2 : errJ 2 40 t2 NL = 4 := by unfold errJ; rw [hp]
      have e3 : txtJ 40 t2 NL = [] := by unfold txtJ; rw [hp]
      have e4 : numberJ 40 t2 NL = 0 := by unfold numberJ; rw [hp]
      have HGN : Hid (∀ W, Below w.heap.size w W → Calls Tryz.prog 18 #[.agg cs, .string (asS NL)] W fun e w' => (∃ cx, e = .returned (.tuple #[.agg cx, .bool false]) ∧ Hid (VAt (fun _ => True) 39 w' cx (leafJ 39 zeroL))) ∧ Below W.heap.size W w') := fun W hb => (get_none (ht.below hb (Nat.le_refl _)) hw2 NL hp).mono fun e w' hh => ⟨⟨_, hh.1, vzero w'⟩, hh.2⟩
      have HRN : Hid (∀ W, Below w.heap.size w W → Calls Tryz.prog 19 #[.agg cs, .string (asS NL)] W fun e w' => (∃ cx, e = .returned (.tuple #[.agg cx, .bool false]) ∧ Hid (VAt (fun _ => True) 39 w' cx (leafJ 39 zeroL))) ∧ Below W.heap.size W w') := fun W hb => (HRG.out W hb).mono fun e w' hh => ⟨⟨_, hh.1 hp, vzero w'⟩, hh.2.2⟩
      have HTN : Hid (∀ W, Below w.heap.size w W → Calls Tryz.prog 20 #[.agg cs, .string (asS NL)] W fun e w' => e = .returned (.tuple #[.string ⟨#[]⟩, .int .i64 4]) ∧ Below W.heap.size W w') := fun W hb => (HTX.out W hb).mono fun e w' hh => ⟨by rw [hh.1, e1, e3]; rfl, hh.2⟩
      have HNN : Hid (∀ W, Below w.heap.size w W → Calls Tryz.prog 21 #[.agg cs, .string (asS NL)] W fun e w' => e = .returned (.tuple #[.int .i64 0, .int .i64 4]) ∧ Below W.heap.size W w') := fun W hb => (HNB.out W hb).mono fun e w' hh => ⟨by rw [hh.1, e2, e4]; rfl, hh.2⟩
      have HSN : Hid (∀ cx cy W, VAt (fun _ => True) 39 W cx (leafJ 39 zeroL) → VAt (fun _ => True) 39 W cy (leafJ 39 zeroL) → Calls Tryz.prog 15 #[.agg cx, .agg cy] W fun x w' => x = .returned (.bool true) ∧ Below W.heap.size W w') := fun cx cy W h1 h2 => (sameR_any 39 _ _ (by decide) (by decide) _ _ cx cy W h1 h2).mono fun e w' hh => ⟨by rw [hh.1, eqJ_yes rfl], hh.2⟩
      subst hcs
      exact gets_go a0 a1 a2 a3 a4 (asS NL) w _ _ _ (leafJ 39 zeroL) ⟨rfl, rfl, rfl⟩ false ⟨#[]⟩ 4 4 0 (.inl ⟨rfl, rfl, rfl, rfl, rfl⟩) HLT HGN HRN HTN HNN HSN HAW
    | some i =>
      have hin : i < (kidsJ 40 t2).length := by
        have hp2 := hp
        unfold placeJ at hp2
        split at hp2
        · rename_i h3
          injection hp2 with hp2
          omega
        · cases hp2
      have hwk : wtJ 39 (kidAt 40 t2 i) ≤ 100000 := (wtJ_parts hw2).2.2.2.2 _ (getD_mem9 (z := zeroJ 39) hin)
      have e1 : errJ 3 40 t2 NL = if (labJ 39 (kidAt 40 t2 i)).1 = 3 then 0 else 1 := by unfold errJ; rw [hp]
      have e2 : errJ 2 40 t2 NL = if (labJ 39 (kidAt 40 t2 i)).1 = 2 then 0 else 1 := by unfold errJ; rw [hp]
      have e3 : txtJ 40 t2 NL = if (labJ 39 (kidAt 40 t2 i)).1 = 3 then (labJ 39 (kidAt 40 t2 i)).2.2.1 else [] := by unfold txtJ; rw [hp]
      have e4 : numberJ 40 t2 NL = if (labJ 39 (kidAt 40 t2 i)).1 = 2 then (labJ 39 (kidAt 40 t2 i)).2.1 else 0 := by unfold numberJ; rw [hp]
      have HGN : Hid (∀ W, Below w.heap.size w W → Calls Tryz.prog 18 #[.agg cs, .string (asS NL)] W fun e w' => (∃ cx, e = .returned (.tuple #[.agg cx, .bool true]) ∧ Hid (VAt (fun _ => True) 39 w' cx (kidAt 40 t2 i))) ∧ Below W.heap.size W w') := fun W hb => (get_some (ht.below hb (Nat.le_refl _)) hw2 NL i hp).mono fun e w' hh => by
        obtain ⟨⟨cx, h1, h2⟩, h3⟩ := hh
        exact ⟨⟨cx, h1, VAt.any h2⟩, h3⟩
      have HRN : Hid (∀ W, Below w.heap.size w W → Calls Tryz.prog 19 #[.agg cs, .string (asS NL)] W fun e w' => (∃ cx, e = .returned (.tuple #[.agg cx, .bool true]) ∧ Hid (VAt (fun _ => True) 39 w' cx (kidAt 40 t2 i))) ∧ Below W.heap.size W w') := fun W hb => (HRG.out W hb).mono fun e w' hh => by
        obtain ⟨cx, h1, h2⟩ := hh.2.1 i hp
        exact ⟨⟨cx, h1, VAt.any h2⟩, hh.2.2⟩
      have HSN : Hid (∀ cx cy W, VAt (fun _ => True) 39 W cx (kidAt 40 t2 i) → VAt (fun _ => True) 39 W cy (kidAt 40 t2 i) → Calls Tryz.prog 15 #[.agg cx, .agg cy] W fun x w' => x = .returned (.bool true) ∧ Below W.heap.size W w') := fun cx cy W h1 h2 => (sameR_any 39 _ _ hwk hwk _ _ cx cy W h1 h2).mono fun e w' hh => ⟨by rw [hh.1, eqJ_yes rfl], hh.2⟩
      generalize kidAt 40 t2 i = y at *
      by_cases h3 : (labJ 39 y).1 = 3
      · rw [if_pos h3] at e1 e3
        rw [if_neg (by rw [h3]; decide)] at e2 e4
        have HTN : Hid (∀ W, Below w.heap.size w W → Calls Tryz.prog 20 #[.agg cs, .string (asS NL)] W fun e w' => e = .returned (.tuple #[.string (asS (labJ 39 y).2.2.1), .int .i64 0]) ∧ Below W.heap.size W w') := fun W hb => (HTX.out W hb).mono fun e w' hh => ⟨by rw [hh.1, e1, e3]; rfl, hh.2⟩
        have HNN : Hid (∀ W, Below w.heap.size w W → Calls Tryz.prog 21 #[.agg cs, .string (asS NL)] W fun e w' => e = .returned (.tuple #[.int .i64 0, .int .i64 1]) ∧ Below W.heap.size W w') := fun W hb => (HNB.out W hb).mono fun e w' hh => ⟨by rw [hh.1, e2, e4]; rfl, hh.2⟩
        subst hcs
        exact gets_go a0 a1 a2 a3 a4 (asS NL) w _ _ _ y ⟨rfl, rfl, rfl⟩ true _ 0 1 0 (.inr (.inl ⟨rfl, h3, rfl, rfl, rfl, rfl⟩)) HLT HGN HRN HTN HNN HSN HAW
      · rw [if_neg h3] at e1 e3
        by_cases h2 : (labJ 39 y).1 = 2
        · rw [if_pos h2] at e2 e4
          have HTN : Hid (∀ W, Below w.heap.size w W → Calls Tryz.prog 20 #[.agg cs, .string (asS NL)] W fun e w' => e = .returned (.tuple #[.string ⟨#[]⟩, .int .i64 1]) ∧ Below W.heap.size W w') := fun W hb => (HTX.out W hb).mono fun e w' hh => ⟨by rw [hh.1, e1, e3]; rfl, hh.2⟩
          have HNN : Hid (∀ W, Below w.heap.size w W → Calls Tryz.prog 21 #[.agg cs, .string (asS NL)] W fun e w' => e = .returned (.tuple #[.int .i64 (labJ 39 y).2.1, .int .i64 0]) ∧ Below W.heap.size W w') := fun W hb => (HNB.out W hb).mono fun e w' hh => ⟨by rw [hh.1, e2, e4]; rfl, hh.2⟩
          subst hcs
          exact gets_go a0 a1 a2 a3 a4 (asS NL) w _ _ _ y ⟨rfl, rfl, rfl⟩ true _ 1 0 _ (.inr (.inr (.inl ⟨rfl, h2, rfl, rfl, rfl, rfl⟩))) HLT HGN HRN HTN HNN HSN HAW
        · rw [if_neg h2] at e2 e4
          have HTN : Hid (∀ W, Below w.heap.size w W → Calls Tryz.prog 20 #[.agg cs, .string (asS NL)] W fun e w' => e = .returned (.tuple #[.string ⟨#[]⟩, .int .i64 1]) ∧ Below W.heap.size W w') := fun W hb => (HTX.out W hb).mono fun e w' hh => ⟨by rw [hh.1, e1, e3]; rfl, hh.2⟩
          have HNN : Hid (∀ W, Below w.heap.size w W → Calls Tryz.prog 21 #[.agg cs, .string (asS NL)] W fun e w' => e = .returned (.tuple #[.int .i64 0, .int .i64 1]) ∧ Below W.heap.size W w') := fun W hb => (HNB.out W hb).mono fun e w' hh => ⟨by rw [hh.1, e2, e4]; rfl, hh.2⟩
          subst hcs
          exact gets_go a0 a1 a2 a3 a4 (asS NL) w _ _ _ y ⟨rfl, rfl, rfl⟩ true _ 1 1 0 (.inr (.inr (.inr ⟨rfl, h3, h2, rfl, rfl, rfl, rfl⟩))) HLT HGN HRN HTN HNN HSN HAW
  · have HL1 := hid (HLA.out _ ((Below.refl w.heap.size w).alloc (Nat.le_refl _) (.cells cs 25)))
    rw [decide_eq_false hl] at HL1
    have HB0 := hid ((Below.refl w.heap.size w).alloc (Nat.le_refl _) (.cells cs 25))
    have HX0 := hid (heap_alloc_new w (.cells cs 25 (0, 0)))
    subst hcs
    clear h hs hT HLA hl
    go_enter Tryz.func5, Tryz.ntmps5
    go_wp2_with (first
      | (refine load_msg rfl _ rfl w.heap.size #[a0, a1, a2, a3, a4] rfl (load_v5 HX0.out rfl) ?_)
      | fail)
    refine HL1.out.mono ?_
    rintro e W1 ⟨rfl, hb⟩
    have HB1 := hid (HB0.out.trans (hb.mono HB0.out.size))
    have HA1 := hid (HAW.out W1 HB1.out)
    clear hb
    go_wp2_with fail
    refine HA1.out.mono ?_
    rintro e W2 ⟨rfl, hb⟩
    have HB2 := hid (HB1.out.trans (hb.mono HB1.out.size))
    clear hb
    go_wp2_with fail
    go_ret
    exact ⟨rfl, HB2.out⟩
end Go.Proofs.YtlgkbdebpnbndaaGreatDoor
