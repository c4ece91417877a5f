
/- The law CidrHas, walked. -/
import Derived.Test.YtocdjgehjiolhaaCiMeet
import Derived.Test.YtocdjgehjiolhaaCiRef
namespace Go.Proofs.Ytocdjgehjiolhaa
open Go.RowKit Go.BigFrame
attribute [local go_sem ↓] loadA_eq loadN_eq

abbrev LDN0 (V : World) (g : Nat) (X : Array Value) : Prop := ∀ d os, (loadI 26 (.pointer (some ⟨g, 0, none⟩))).run Try.prog (Sort.grow (redrawn V d) os) = .ok (.agg X) (Sort.grow (redrawn V d) os)
set_option maxHeartbeats 8000000 in
set_option maxRecDepth 100000 in
theorem has_law (a : NetV) (ha : a.B.length = 16) (b : NetV) (hb : b.B.length = 16) (u : Bool) (C : List UInt8) (hC : C.length = 16) (w : World) : Calls Try.prog 3 #[.agg (ncs a), .agg (ncs b), .agg (acs u C)] w fun e w' => e = .returned (.bool true) ∧ Below w.heap.size w w' := by
  have HMA := hid (fun W => refMay_net a ha W)
  have HMB := hid (fun W => refMay_net b hb W)
  have HMX := hid (fun W => refmay_any u C hC W)
  have HHX := hid (fun W => has_any a ha u C hC W)
  have HHY := hid (fun W => has_any b hb u C hC W)
  have HE1 := hid (fun W => meet_any a b ha hb W)
  have HE2 : Hid (∀ W, Calls Try.prog 10 #[.agg (ncs b), .agg (ncs a)] W fun e w' => e = .returned (.bool (meetV a b)) ∧ Below W.heap.size W w') := fun W => by rw [meet_sym]; exact meet_any b a hb ha W
  have HAW := hid awake6
  have HRX : Hid (mayV a = true → ∀ W, Calls Try.prog 9 #[.agg (ncs a), .agg (acs u C)] W fun e w' => e = .returned (.bool (hasV a u C)) ∧ Below W.heap.size W w') := fun h W => by
    obtain ⟨_, h0, h1⟩ := mayN_parts h
    exact refHas_net a ha a.k.toNat (by omega) (by omega) u C hC W
  have HRB : Hid (mayV a = true → ∀ W, Calls Try.prog 9 #[.agg (ncs a), .agg (acs b.v b.B)] W fun e w' => e = .returned (.bool (hasV a b.v b.B)) ∧ Below W.heap.size W w') := fun h W => by
    obtain ⟨_, h0, h1⟩ := mayN_parts h
    exact refHas_net a ha a.k.toNat (by omega) (by omega) b.v b.B hb W
  have HRA : Hid (mayV b = true → ∀ W, Calls Try.prog 9 #[.agg (ncs b), .agg (acs a.v a.B)] W fun e w' => e = .returned (.bool (hasV b a.v a.B)) ∧ Below W.heap.size W w') := fun h W => by
    obtain ⟨_, h0, h1⟩ := mayN_parts h
    exact refHas_net b hb b.k.toNat (by omega) (by omega) a.v a.B ha W
  have HME : Hid (meetV a b = (mayV a && mayV b && ((decide (a.k ≤ b.k) && hasV a b.v b.B) || (decide (b.k ≤ a.k) && hasV b a.v a.B)))) := rfl
  have HXE : Hid (hasR a u C = (mayV a && mayB u C && hasV a u C)) := rfl
  have HIM : Hid (hasR a u C = true → hasR b u C = true → meetV a b = true) := fun h1 h2 => by
    unfold hasR at h1 h2
    simp only [Bool.and_eq_true] at h1 h2
    exact has_meet a b u C h1.1.1 h2.1.1 h1.2 h2.2
  have HIA := hid (ncs_bits a ha)
  have HIB := hid (ncs_bits b hb)
  have HLA : Hid (∀ {W : World} {g : Nat}, W.heap[g]? = some (.cells (ncs a) 26 (0, 0)) → (loadI 26 (.pointer (some ⟨g, 0, none⟩))).run Try.prog W = .ok (.agg (ncs a)) W ∧ (loadI 24 (.pointer (some ⟨g, 0, none⟩))).run Try.prog W = .ok (.agg (acs a.v a.B)) W ∧ LDN0 W g (ncs a)) := fun h => ⟨loadN_row ha h, loadNA_row ha h, fun d os => loadN_re0 ha h d os⟩
  have HLB : Hid (∀ {W : World} {g : Nat}, W.heap[g]? = some (.cells (ncs b) 26 (0, 0)) → (loadI 26 (.pointer (some ⟨g, 0, none⟩))).run Try.prog W = .ok (.agg (ncs b)) W ∧ (loadI 24 (.pointer (some ⟨g, 0, none⟩))).run Try.prog W = .ok (.agg (acs b.v b.B)) W ∧ LDN0 W g (ncs b)) := fun h => ⟨loadN_row hb h, loadNA_row hb h, fun d os => loadN_re0 hb h d os⟩
  have HLX : Hid (∀ {W : World} {g : Nat}, W.heap[g]? = some (.cells (acs u C) 24 (0, 0)) → (loadI 24 (.pointer (some ⟨g, 0, none⟩))).run Try.prog W = .ok (.agg (acs u C)) W) := fun h => loadA_row hC h
  generalize meetV a b = mt at HE1 HE2 HME HIM
  generalize hasR a u C = hx at HHX HXE HIM
  generalize hasR b u C = hy at HHY HIM
  generalize mayV a = p at HMA HRX HRB HME HXE
  generalize mayV b = q at HMB HRA HME
  generalize mayB u C = mx at HMX HXE
  generalize hasV a u C = vx at HRX HXE
  generalize hasV a b.v b.B = v1 at HRB HME
  generalize hasV b a.v a.B = v2 at HRA HME
  generalize acs a.v a.B = AA at HRA HLA
  generalize acs b.v b.B = AB at HRB HLB
  generalize acs u C = X at HMX HHX HHY HRX HLX ⊢
  generalize ncs a = A at HMA HHX HE1 HE2 HRX HRB HIA HLA ⊢
  generalize ncs b = B at HMB HHY HE1 HE2 HRA HIB HLB ⊢
  generalize a.k = ka at HME HIA
  generalize b.k = kb at HME HIB
  go_enter Try.func3, Try.ntmps3
  go_wp2_with fail
  obtain ⟨V, hV⟩ : ∃ V, V = ((w.alloc (Obj.cells A 26)).alloc (Obj.cells B 26)).alloc (Obj.cells X 24) := ⟨_, rfl⟩
  obtain ⟨r3, r2, r1, rb, rz⟩ := row3 (w := w) (W := V) (A := Obj.cells A 26) (B := Obj.cells B 26) (C := Obj.cells X 24) (by rw [hV]; exact Below.refl _ _)
  have HR1 := hid r1; have HR2 := hid r2; have HR3 := hid r3; have HB := hid rb; have hz := rz
  rw [← hV]
  clear hV r1 r2 r3 rb rz
  have HFA : Hid (∀ W, Below V.heap.size V W → (loadI 26 (.pointer (some ⟨w.heap.size, 0, none⟩))).run Try.prog W = .ok (.agg A) W ∧ (loadI 24 (.pointer (some ⟨w.heap.size, 0, none⟩))).run Try.prog W = .ok (.agg AA) W ∧ W.cell? ⟨w.heap.size, 17, none⟩ = some (.int .i64 ka)) := fun W hW => by
    have h := (hW.block _ (by omega)).trans HR1.out
    exact ⟨(HLA.out h).1, (HLA.out h).2.1, by rw [cell_of_row _ _ _ _ _ _ h]; exact HIA.out⟩
  have HFB : Hid (∀ W, Below V.heap.size V W → (loadI 26 (.pointer (some ⟨w.heap.size + 1, 0, none⟩))).run Try.prog W = .ok (.agg B) W ∧ (loadI 24 (.pointer (some ⟨w.heap.size + 1, 0, none⟩))).run Try.prog W = .ok (.agg AB) W ∧ W.cell? ⟨w.heap.size + 1, 17, none⟩ = some (.int .i64 kb)) := fun W hW => by
    have h := (hW.block _ (by omega)).trans HR2.out
    exact ⟨(HLB.out h).1, (HLB.out h).2.1, by rw [cell_of_row _ _ _ _ _ _ h]; exact HIB.out⟩
  have HFX : Hid (∀ W, Below V.heap.size V W → (loadI 24 (.pointer (some ⟨w.heap.size + 1 + 1, 0, none⟩))).run Try.prog W = .ok (.agg X) W) := fun W hW => HLX.out ((hW.block _ (by omega)).trans HR3.out)
  have k1 := (HLA.out HR1.out).2.2
  have k2 := (HLB.out HR2.out).2.2
  have c1 : REG 6 #[.agg A] V (.bool p) := fun d os => Calls.regrown_of (HMA.out _)
  have c2 : REG 6 #[.agg B] V (.bool q) := fun d os => Calls.regrown_of (HMB.out _)
  refine wp_region_quiet_below (by kernel_rfl) (by kernel_rfl) ?_
  repeat (go_big_quiet_step (first | (go_at_call_of 6 (Value.agg A); exact c1 _ _) | (go_at_call_of 6 (Value.agg B); exact c2 _ _)))
  refine wpQuiet_nil ?_
  rintro W1 ⟨⟨dq, osq⟩, hw⟩
  have HB1 : Hid (Below V.heap.size V W1) := by rw [hw]; exact below_regrown V dq osq
  clear hw k1 k2 c1 c2 HLA HLB HLX HR1 HR2 HR3
  go_upto_region 2 with (fail)
  go_cut [27] (fun v wx => v = .bool false ∧ Hid (Below V.heap.size V wx))
  case first =>
    have l1 := (HFA.out W1 HB1.out).1
    have l2 := HFX.out W1 HB1.out
    go_wp2_with fail
    refine (HHX.out _).mono ?_
    rintro e W2 ⟨rfl, hb2⟩
    have HB2 : Hid (Below V.heap.size V W2) := HB1.out.trans (hb2.mono HB1.out.size)
    clear hb2 l1 l2
    cases p
    · obtain rfl : hx = false := by rw [HXE.out]; rfl
      go_wp2_with fail
      go_meet
      case rel => exact ⟨rfl, HB2⟩
    have l3 := HFX.out W2 HB2.out
    go_wp2_with fail
    refine (HMX.out _).mono ?_
    rintro e W3 ⟨rfl, hb3⟩
    have HB3 : Hid (Below V.heap.size V W3) := HB2.out.trans (hb3.mono HB2.out.size)
    clear hb3 l3
    cases mx
    · obtain rfl : hx = false := by rw [HXE.out]; rfl
      go_wp2_with fail
      go_meet
      case rel => exact ⟨rfl, HB3⟩
    obtain rfl : hx = vx := by rw [HXE.out]; rfl
    have l4 := (HFA.out W3 HB3.out).1
    have l5 := HFX.out W3 HB3.out
    have HRX' := hid (HRX.out (by first | rfl | trivial))
    go_wp2_with fail
    refine (HRX'.out _).mono ?_
    rintro e W4 ⟨rfl, hb4⟩
    have HB4 : Hid (Below V.heap.size V W4) := HB3.out.trans (hb4.mono HB3.out.size)
    clear hb4 l4 l5
    cases hx
    · go_wp2_with fail
      go_meet
      case rel => exact ⟨rfl, HB4⟩
    · go_wp2_with fail
      go_meet
      case rel => exact ⟨rfl, HB4⟩
  case rest =>
    obtain ⟨rfl, HBc⟩ := hcut
    clear HRX HXE HMX HB1
    obtain ⟨W5, hW5⟩ : ∃ W5, W5 = wc := ⟨_, rfl⟩
    subst hW5
    go_upto_region 4 with (fail)
    go_cut [9] (fun v wx => v = .bool mt ∧ Hid (Below V.heap.size V wx))
    case first =>
      cases p
      · obtain rfl : mt = false := by rw [HME.out]; rfl
        go_wp2_with fail
        go_meet
        case rel => exact ⟨rfl, HBc⟩
      cases q
      · obtain rfl : mt = false := by rw [HME.out]; rfl
        go_wp2_with fail
        go_meet
        case rel => exact ⟨rfl, HBc⟩
      have HRB' := hid (HRB.out (by first | rfl | trivial))
      have HRA' := hid (HRA.out (by first | rfl | trivial))
      obtain ⟨l1, l1', g1⟩ := HFA.out W5 HBc.out
      obtain ⟨l2, l2', g2⟩ := HFB.out W5 HBc.out
      by_cases h1 : ka ≤ kb
      · go_wp2_with fail
        refine (HRB'.out _).mono ?_
        rintro e W6 ⟨rfl, hb6⟩
        have HB6 : Hid (Below V.heap.size V W6) := HBc.out.trans (hb6.mono HBc.out.size)
        clear hb6 l1 l1' g1 l2 l2' g2
        cases v1
        · obtain ⟨l1, l1', g1⟩ := HFA.out W6 HB6.out
          obtain ⟨l2, l2', g2⟩ := HFB.out W6 HB6.out
          by_cases h2 : kb ≤ ka
          · obtain rfl : mt = v2 := by rw [HME.out, decide_eq_true h2]; simp
            go_wp2_with fail
            refine (HRA'.out _).mono ?_
            rintro e W7 ⟨rfl, hb7⟩
            have HB7 : Hid (Below V.heap.size V W7) := HB6.out.trans (hb7.mono HB6.out.size)
            clear hb7 l1 l1' g1 l2 l2' g2
            go_wp2_with fail
            go_meet
            case rel => exact ⟨rfl, HB7⟩
          · obtain rfl : mt = false := by rw [HME.out, decide_eq_false h2]; simp
            go_wp2_with fail
            go_meet
            case rel => exact ⟨rfl, HB6⟩
        · obtain rfl : mt = true := by rw [HME.out, decide_eq_true h1]; rfl
          go_wp2_with fail
          go_meet
          case rel => exact ⟨rfl, HB6⟩
      · have h2 : kb ≤ ka := by omega
        obtain rfl : mt = v2 := by rw [HME.out, decide_eq_false h1, decide_eq_true h2]; simp
        go_wp2_with fail
        refine (HRA'.out _).mono ?_
        rintro e W7 ⟨rfl, hb7⟩
        have HB7 : Hid (Below V.heap.size V W7) := HBc.out.trans (hb7.mono HBc.out.size)
        clear hb7 l1 l1' g1 l2 l2' g2
        go_wp2_with fail
        go_meet
        case rel => exact ⟨rfl, HB7⟩
    case rest =>
      obtain ⟨rfl, HBd⟩ := hcut
      clear HRB HRA HME HBc
      have l1 := (HFA.out wc HBd.out).1
      have l2 := (HFB.out wc HBd.out).1
      go_wp2_with fail
      refine (HE1.out _).mono ?_
      rintro e W6 ⟨rfl, hb6⟩
      have HB6 : Hid (Below V.heap.size V W6) := HBd.out.trans (hb6.mono HBd.out.size)
      clear hb6 l1 l2
      have hmm : (mt != mt) = false := by cases mt <;> rfl
      have l1 := (HFA.out W6 HB6.out).1
      have l2 := (HFB.out W6 HB6.out).1
      go_wp2_with fail
      refine (HE2.out _).mono ?_
      rintro e W7 ⟨rfl, hb7⟩
      have HB7 : Hid (Below V.heap.size V W7) := HB6.out.trans (hb7.mono HB6.out.size)
      clear hb7 l1 l2
      have l1 := (HFA.out W7 HB7.out).1
      have l2 := HFX.out W7 HB7.out
      go_wp2_with fail
      refine (HHX.out _).mono ?_
      rintro e W8 ⟨rfl, hb8⟩
      have HB8 : Hid (Below V.heap.size V W8) := HB7.out.trans (hb8.mono HB7.out.size)
      clear hb8 l1 l2
      cases hx
      · go_wp2_with fail
        refine (HAW.out _).mono ?_
        rintro e W9 ⟨rfl, hb9⟩
        go_wp2_with fail
        go_ret
        exact ⟨rfl, HB.out.trans ((HB8.out.trans (hb9.mono HB8.out.size)).mono HB.out.size)⟩
      have l1 := (HFB.out W8 HB8.out).1
      have l2 := HFX.out W8 HB8.out
      go_wp2_with fail
      refine (HHY.out _).mono ?_
      rintro e W9 ⟨rfl, hb9⟩
      have HB9 : Hid (Below V.heap.size V W9) := HB8.out.trans (hb9.mono HB8.out.size)
      clear hb9 l1 l2
      cases hy
      · go_wp2_with fail
        refine (HAW.out _).mono ?_
        rintro e W10 ⟨rfl, hb10⟩
        go_wp2_with fail
        go_ret
        exact ⟨rfl, HB.out.trans ((HB9.out.trans (hb10.mono HB9.out.size)).mono HB.out.size)⟩
      obtain rfl : mt = true := HIM.out (by first | rfl | trivial) (by first | rfl | trivial)
      go_wp2_with fail
      refine (HAW.out _).mono ?_
      rintro e W10 ⟨rfl, hb10⟩
      go_wp2_with fail
      go_ret
      exact ⟨rfl, HB.out.trans ((HB9.out.trans (hb10.mono HB9.out.size)).mono HB.out.size)⟩
end Go.Proofs.Ytocdjgehjiolhaa
