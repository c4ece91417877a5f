
/- What the reference's Allow of layer 6 does. -/
import Derived.Test.YtocdjgehjiolhaaCiRFo
import Derived.Test.YtocdjgehjiolhaaCiRIn
import Derived.Test.YtocdjgehjiolhaaCiAll
import Derived.Test.YtocdjgehjiolhaaIpRefM
namespace Go.Proofs.Ytocdjgehjiolhaa
open Go.RowKit Go.BigFrame
attribute [local go_sem ↓] loadA_eq loadN_eq

theorem tail_last (B : List UInt8) : tailL B 12 = lastL B := rfl
theorem any_take_snoc (l : List NetV) (k : Nat) (n : NetV) (hn : l[k]? = some n) : (l.take (k + 1)).any (fun n => !mayV n) = ((l.take k).any (fun n => !mayV n) || !mayV n) := any_snoc _ l k n hn
set_option maxHeartbeats 8000000 in
theorem rallow_gen (v : Bool) (B : List UInt8) (hB : B.length = 16) (l : List NetV) (hl : l.length ≤ 1000000) (h16 : ∀ n ∈ l, n.B.length = 16) (s : Value) (w : World) (hs : NetsAt w s l)
    (hrec : ∀ C, embO (unmV v B) (unmB v B) = some C → ∀ W, Below w.heap.size w W → Calls Try.prog 13 #[.agg (acs false C), s] W fun e w' => e = .returned (.int .i64 (allowV false C l)) ∧ Below W.heap.size W w') :
    Calls Try.prog 13 #[.agg (acs v B), s] w fun e w' => e = .returned (.int .i64 (allowV v B l)) ∧ Below w.heap.size w w' := by
  have HC := hid (fun W => refmay_any v B hB W)
  have HMP := hid (fun W => refMapped_any v B hB W)
  have HTL : Hid (∀ W, Calls Try.prog 30 #[.agg (acs v B), .int .i64 12] W fun e w' => e = .returned (.agg (acs false (tailL B 12))) ∧ Below W.heap.size W w') := fun W => refTail_any v B hB 12 (by omega) W
  have HUL := hid (unm_len v B hB)
  have HE := hid (fun W => refEmb_any (unmV v B) (unmB v B) HUL.out W)
  have HREC := hid hrec
  have HF := hid refForb_any
  have HAV : Hid (allowV v B l = if mayB v B = false then 1 else if (l.any fun n => !mayV n) then 1 else reachV (unmV v B) (unmB v B) l) := rfl
  have HU1 : Hid (isH mapH v B = true → unmV v B = false ∧ unmB v B = tailL B 12) := fun h => by unfold unmV unmB; rw [h]; exact ⟨rfl, rfl⟩
  have HU2 : Hid (isH mapH v B = false → unmV v B = v ∧ unmB v B = B) := fun h => by unfold unmV unmB; rw [h]; exact ⟨rfl, rfl⟩
  have HMN : Hid (∀ n ∈ l, ∀ W, Calls Try.prog 6 #[.agg (ncs n)] W fun e w' => e = .returned (.bool (mayV n)) ∧ Below W.heap.size W w') := fun n hn W => refMay_net n (h16 n hn) W
  have HA1 : Hid (∀ W b c rest, W.heap[b]? = some (.cells (forbCells ++ rest).toArray 26 (0, 0)) → Calls Try.prog 31 #[.slice (some ⟨b, 0, none⟩) 26 c, .agg (acs (unmV v B) (unmB v B))] W fun e w' => e = .returned (.bool (inV forbL (unmV v B) (unmB v B))) ∧ Below W.heap.size W w') := fun W b c rest hb =>
    refIn_any forbL (by decide) (fun n hn => forb_ok n hn) _ _ HUL.out _ W (NetsAt.of_row (l := forbL) forb16 hb)
  have HA2 : Hid ((l.any fun n => !mayV n) = false → ∀ W, Below w.heap.size w W → Calls Try.prog 31 #[s, .agg (acs (unmV v B) (unmB v B))] W fun e w' => e = .returned (.bool (inV l (unmV v B) (unmB v B))) ∧ Below W.heap.size W w') := fun hd W hW =>
    refIn_any l hl (fun n hn => ⟨h16 n hn, all_may hd n hn⟩) _ _ HUL.out _ W (hs.below hW (Nat.le_refl _))
  have HR1 : Hid ((inV forbL (unmV v B) (unmB v B) || inV l (unmV v B) (unmB v B)) = true → reachV (unmV v B) (unmB v B) l = 8) := fun h => by unfold reachV; rw [h]; rfl
  have HR2 : Hid ((inV forbL (unmV v B) (unmB v B) || inV l (unmV v B) (unmB v B)) = false → embO (unmV v B) (unmB v B) = none → reachV (unmV v B) (unmB v B) l = 0) := fun h h2 => by unfold reachV; rw [h, h2]; rfl
  have HR3 : Hid ((inV forbL (unmV v B) (unmB v B) || inV l (unmV v B) (unmB v B)) = false → (l.any fun n => !mayV n) = false → ∀ C, embO (unmV v B) (unmB v B) = some C → reachV (unmV v B) (unmB v B) l = allowV false C l) := fun h hd C h2 => reach_some _ _ C l h h2 hd
  have HEL : Hid (∀ C, embO (unmV v B) (unmB v B) = some C → C.length = 16) := fun C h => (emb_may h).2
  have HNA := hid hs
  have HLNS : Hid (∀ W, Below w.heap.size w W → ∀ b off c, s = .slice (some ⟨b, off, none⟩) l.length c → ∀ j n, l[j]? = some n → (loadI 26 (.pointer (some ⟨b, off + j * 18, none⟩))).run Try.prog W = .ok (.agg (ncs n)) W) := fun W hW b off c hsv j n hn => by
    rcases hs.below hW (Nat.le_refl _) with ⟨h, _⟩ | ⟨b', off', c', h1, h2, h3⟩
    · rw [h] at hn; cases hn
    · rw [h1] at hsv
      injection hsv with h4 h5 h6
      injection h4 with h4
      injection h4 with h7 h8
      rw [← h7, ← h8]
      exact loadN_range (h16 n (List.mem_of_getElem? hn)) (h3 j n hn)
  have HAT : Hid (∀ k, k < l.length → ∃ n, l[k]? = some n ∧ n ∈ l) := fun k hk => ⟨l[k], List.getElem?_eq_getElem hk, List.getElem_mem hk⟩
  have HSN := hid (any_take_snoc l)
  have HHIT := hid (any_take_true (fun n => !mayV n) l)
  have HEND : Hid (l.take l.length = l) := List.take_length
  obtain ⟨P, c, hsv, hP⟩ : ∃ P c, s = .slice P l.length c ∧ (l ≠ [] → ∃ b off, P = some ⟨b, off, none⟩) := by
    rcases hs with ⟨rfl, P, c, rfl⟩ | ⟨b, off, c, rfl, _, _⟩
    · exact ⟨P, c, rfl, fun h => absurd rfl h⟩
    · exact ⟨some ⟨b, off, none⟩, c, rfl, fun _ => ⟨b, off, rfl⟩⟩
  have HP : Hid (∀ k, k < l.length → ∃ b off, P = some ⟨b, off, none⟩) := fun k hk => hP (fun e => by rw [e] at hk; cases hk)
  clear hs hrec h16 hP HNA
  generalize allowV v B l = R at HAV ⊢
  generalize mayB v B = m at HC HAV
  obtain ⟨d, hd⟩ : ∃ d, d = l.any fun n => !mayV n := ⟨_, rfl⟩
  have HDE := hid hd
  rw [← hd] at HAV HA2 HR3
  clear hd
  generalize reachV (unmV v B) (unmB v B) l = rr at HAV HR1 HR2 HR3
  generalize inV forbL (unmV v B) (unmB v B) = t1 at HA1 HR1 HR2 HR3
  generalize inV l (unmV v B) (unmB v B) = t2 at HA2 HR1 HR2 HR3
  generalize embO (unmV v B) (unmB v B) = eo at HE HREC HR2 HR3 HEL
  generalize unmV v B = uv at HE HA1 HA2 HU1 HU2
  generalize unmB v B = ub at HE HA1 HA2 HUL HU1 HU2
  generalize isH mapH v B = mp at HMP HU1 HU2
  have HLA : Hid (∀ {W : World} {g : Nat}, W.heap[g]? = some (.cells (acs v B) 24 (0, 0)) → (loadI 24 (.pointer (some ⟨g, 0, none⟩))).run Try.prog W = .ok (.agg (acs v B)) W) := fun h => loadA_row hB h
  have HLU : Hid (∀ {W : World} {g : Nat}, W.heap[g]? = some (.cells (acs uv ub) 24 (0, 0)) → (loadI 24 (.pointer (some ⟨g, 0, none⟩))).run Try.prog W = .ok (.agg (acs uv ub)) W) := fun h => loadA_row HUL.out h
  have HXS : Hid ((acs v B).size = 17) := acs_size v B hB
  have HXU : Hid (mp = false → acs v B = acs uv ub) := fun h => by rw [(HU2.out h).1, (HU2.out h).2]
  have HXT : Hid (mp = true → acs false (tailL B 12) = acs uv ub) := fun h => by rw [(HU1.out h).1, (HU1.out h).2]
  have HTLL : Hid ((tailL B 12).length = 16) := rfl
  generalize acs v B = X at HC HMP HTL HLA HXS HXU ⊢
  have l0 : (loadI 24 (.pointer (some ⟨w.heap.size, 0, none⟩))).run Try.prog (w.alloc (.cells X 24)) = .ok (.agg X) (w.alloc (.cells X 24)) := HLA.out (heap_alloc_new w _)
  subst hsv
  obtain ⟨M, hM⟩ : ∃ M, M = l.length := ⟨_, rfl⟩
  rw [← hM] at hl HREC HA2 HLNS HAT HP HEND ⊢
  clear hM
  go_enter Try.func13, Try.ntmps13
  go_wp2_with fail
  refine (HC.out _).mono ?_
  rintro e W1 ⟨rfl, hb1⟩
  obtain ⟨r1, b1, z1⟩ := row1 hb1
  have HRW := hid r1; have HB := hid b1
  clear r1 b1 hb1 l0
  cases m
  · have HQ : Hid (R = 1) := by show _ = _; rw [HAV.out]; rfl
    go_wp2_with fail
    go_ret
    exact ⟨by rw [HQ.out]; rfl, HB.out⟩
  simp only [Bool.true_eq_false, if_false] at HAV
  go_wp2_with fail
  go_loopw [5] (fun iv wx => ∃ k : Nat, k ≤ M ∧ iv = .int .i64 (k : Int) ∧ Hid (Below W1.heap.size W1 wx) ∧ Hid ((l.take k).any (fun n => !mayV n) = false)) (fun i _ => M - (intOf i).toNat)
  case atStart => exact ⟨0, by omega, rfl, Below.refl _ _, rfl⟩
  case round =>
    obtain ⟨k, hk, rfl, HBk, HAk⟩ := hrel
    obtain ⟨U, hU⟩ : ∃ U, U = wr := ⟨_, rfl⟩
    subst hU
    have HBw : Hid (Below w.heap.size w U) := HB.out.trans (HBk.out.mono HB.out.size)
    by_cases hkm : (k : Int) < (M : Int)
    · obtain ⟨n, hn, hmem⟩ := HAT.out k (by omega)
      obtain ⟨b, off, rfl⟩ := HP.out k (by omega)
      have lk := HLNS.out U HBw.out b off c rfl k n hn
      have HMK := hid (HMN.out n hmem)
      have HS := hid (HSN.out k n hn)
      have HH := hid (HHIT.out k n hn)
      clear hn
      generalize ncs n = NX at lk HMK
      generalize mayV n = mn at HMK HS HH
      go_wp2_with fail
      refine (HMK.out _).mono ?_
      rintro e W2 ⟨rfl, hb2⟩
      have HB2 : Hid (Below W1.heap.size W1 W2) := HBk.out.trans (hb2.mono HBk.out.size)
      clear hb2 lk
      cases mn
      · have HQ : Hid (R = 1) := by show _ = _; rw [HAV.out, HDE.out, HH.out rfl]; rfl
        go_wp2_with fail
        go_ret
        exact ⟨by rw [HQ.out]; rfl, HB.out.trans (HB2.out.mono HB.out.size)⟩
      · have HNX : Hid ((l.take (k + 1)).any (fun n => !mayV n) = false) := by show _ = _; rw [HS.out, HAk.out]; rfl
        go_wp2_with fail
        go_roundw
        case rel => exact ⟨k + 1, by omega, by go_num, HB2, HNX⟩
        case measure => simp [intOf]; omega
    · have hk' : k = M := by omega
      subst hk'
      rw [HEND.out] at HAk
      obtain rfl : d = false := by rw [HDE.out, HAk.out]
      have HQ : Hid (R = rr) := by show _ = _; rw [HAV.out]; rfl
      have HA2'' := hid (HA2.out rfl)
      have HR3' := hid (fun h => HR3.out h rfl)
      have HRU : Hid (U.heap[w.heap.size]? = some (.cells X 24 (0, 0))) := (HBk.out.block _ z1).trans HRW.out
      have zU : w.heap.size + 1 ≤ U.heap.size := Nat.le_trans z1 HBk.out.size
      clear HAV HA2 HR3 HDE HAk HMN HAT HSN HHIT HLNS
      have l1 := HLA.out HRU.out
      go_wp2_with fail
      refine (HMP.out _).mono ?_
      rintro e W3 ⟨rfl, hb3⟩
      have HRW3 : Hid (W3.heap[w.heap.size]? = some (.cells X 24 (0, 0))) := (hb3.block _ zU).trans HRU.out
      have HB3 : Hid (Below w.heap.size w W3) := HBw.out.trans (hb3.mono HBw.out.size)
      have z3 : w.heap.size + 1 ≤ W3.heap.size := Nat.le_trans zU hb3.size
      clear hb3 l1 HRU zU
      go_upto_if 24 with (fail)
      go_cut [] (fun wx => w.heap.size + 1 ≤ wx.heap.size ∧ Hid (wx.heap[w.heap.size]? = some (.cells (acs uv ub) 24 (0, 0))) ∧ Hid (Below w.heap.size w wx))
      case first =>
        cases mp
        · have HXX := hid (HXU.out rfl)
          rw [HXX.out] at HRW3
          go_wp2_with fail
          go_meet
          case rel => exact ⟨z3, HRW3, HB3⟩
        · have HXX := hid (HXT.out rfl)
          have l2 := HLA.out HRW3.out
          go_wp2_with fail
          refine (HTL.out _).mono ?_
          rintro e W4 ⟨rfl, hb4⟩
          have HRW4 : Hid (W4.heap[w.heap.size]? = some (.cells X 24 (0, 0))) := (hb4.block _ z3).trans HRW3.out
          have HB4 : Hid (Below w.heap.size w W4) := HB3.out.trans (hb4.mono HB3.out.size)
          have z4 : w.heap.size + 1 ≤ W4.heap.size := Nat.le_trans z3 hb4.size
          clear hb4 l2
          go_wp2_with (first
            | (refine store_addr rfl _ _ rfl w.heap.size false (tailL B 12) HTLL.out rfl rfl _ HRW4.out HXS.out ?_)
            | fail)
          intro W5 hO5 hW5
          rw [HXX.out] at hW5
          have HW5 := hid hW5
          have HB5 : Hid (Below w.heap.size w W5) := HB4.out.trans (hO5.below (Nat.le_refl _))
          have z5 : w.heap.size + 1 ≤ W5.heap.size := by rw [hO5.size]; exact z4
          clear hO5 hW5
          go_wp2_with fail
          go_meet
          case rel => exact ⟨z5, HW5, HB5⟩
      case rest =>
        obtain ⟨zV, HV, HBV⟩ := hcut
        obtain ⟨V, hV⟩ : ∃ V, V = wc := ⟨_, rfl⟩
        subst hV
        clear HMP HTL HXU HXT HU1 HU2 HLA HXS HRW3 HB3 z3 HBk HBw
        have HLD : Hid (∀ W, Below V.heap.size V W → (loadI 24 (.pointer (some ⟨w.heap.size, 0, none⟩))).run Try.prog W = .ok (.agg (acs uv ub)) W) := fun W hW => HLU.out ((hW.block _ zV).trans HV.out)
        generalize acs uv ub = UU at HE HA1 HA2'' HLD
        go_wp2_with fail
        cases t1
        case true =>
          have HQ8 : Hid (R = 8) := by show _ = _; rw [HQ.out]; exact HR1.out rfl
          have ld := HLD.out V.drew (below_drewN _ _ 1)
          go_cut [34] (fun v wx => v = .bool true ∧ Hid (Below w.heap.size w wx))
          case first =>
            first
              | (go_region_with ((first
                | (go_at_call 16; refine (HF.out _).mono ?_; rintro e w1 ⟨g, cc, rfl, hge, ⟨rest, hrow⟩, hb⟩; have HG := hid hrow; have HB1 := hid (drew_below hb); have ld1 := HLD.out w1 HB1.out; clear hge hrow hb)
                | (go_at_call 31; refine (HA1.out _ g cc rest HG.out).mono ?_; rintro e w2 ⟨rfl, hb2⟩))))
              | fail
            all_goals
              go_wp2_with fail
              go_meet
              case rel => exact ⟨rfl, HBV.out.trans ((HB1.out.trans (hb2.mono HB1.out.size)).mono HBV.out.size)⟩
          case rest =>
            obtain ⟨rfl, HBx⟩ := hcut
            clear ld
            go_wp2_with fail
            go_ret
            exact ⟨by rw [HQ8.out]; rfl, HBx.out⟩
        case false =>
          have ld := HLD.out V.drew (below_drewN _ _ 1)
          go_cut [34] (fun v wx => v = .bool t2 ∧ Hid (Below V.heap.size V wx))
          case first =>
            first
              | (go_region_with ((first
                | (go_at_call 16; refine (HF.out _).mono ?_; rintro e w1 ⟨g, cc, rfl, hge, ⟨rest, hrow⟩, hb⟩; have HG := hid hrow; have HB1 := hid (drew_below hb); have ld1 := HLD.out w1 HB1.out; clear hge hrow hb)
                | (go_at_call_of 31 (Value.slice (some ⟨g, 0, none⟩) 26 cc); refine (HA1.out _ g cc rest HG.out).mono ?_; rintro e w2 ⟨rfl, hb2⟩; have HB2 := hid (HB1.out.trans (hb2.mono HB1.out.size)); have ld2 := HLD.out w2 HB2.out; clear hb2)
                | (go_at_call_of 31 (Value.slice P k c); refine (HA2''.out _ (HBV.out.trans (HB2.out.mono HBV.out.size))).mono ?_; rintro e w3 ⟨rfl, hb3⟩))))
              | fail
            all_goals
              go_wp2_with fail
              go_meet
              case rel => exact ⟨rfl, HB2.out.trans (hb3.mono HB2.out.size)⟩
          case rest =>
            obtain ⟨rfl, HBx⟩ := hcut
            clear ld
            cases t2
            case true =>
              have HQ8 : Hid (R = 8) := by show _ = _; rw [HQ.out]; exact HR1.out rfl
              go_wp2_with fail
              go_ret
              exact ⟨by rw [HQ8.out]; rfl, HBV.out.trans (HBx.out.mono HBV.out.size)⟩
            have HBw : Hid (Below w.heap.size w wc) := HBV.out.trans (HBx.out.mono HBV.out.size)
            have ld := HLD.out wc HBx.out
            go_wp2_with fail
            refine (HE.out _).mono ?_
            rintro e W5 ⟨rfl, hb5⟩
            have HB5 : Hid (Below w.heap.size w W5) := HBw.out.trans (hb5.mono HBw.out.size)
            clear hb5 ld
            cases eo with
            | none =>
              have HQ0 : Hid (R = 0) := by show _ = _; rw [HQ.out]; exact HR2.out rfl rfl
              go_wp2_with (first
                | (refine store_addr rfl _ _ rfl W5.heap.size false (zer 16) rfl rfl rfl _ (heap_alloc_new W5 _) rfl ?_)
                | fail)
              intro W6 hO6 hW6
              have HB6 : Hid (Below w.heap.size w W6) := (alloc_below HB5.out HB5.out.size _).trans (hO6.below HB5.out.size)
              clear hO6 hW6
              go_wp2_with fail
              go_ret
              exact ⟨by rw [HQ0.out]; rfl, HB6.out⟩
            | some C =>
              have HQ3 : Hid (R = allowV false C l) := by show _ = _; rw [HQ.out]; exact HR3'.out rfl C rfl
              have HCL := hid (HEL.out C rfl)
              have HRC := hid (HREC.out C rfl)
              go_wp2_with (first
                | (refine store_addr rfl _ _ rfl W5.heap.size false C HCL.out rfl rfl _ (heap_alloc_new W5 _) rfl ?_)
                | fail)
              intro W6 hO6 hW6
              have HB6 : Hid (Below w.heap.size w W6) := (alloc_below HB5.out HB5.out.size _).trans (hO6.below HB5.out.size)
              have l6 := loadA_row HCL.out hW6
              clear hO6 hW6
              go_wp2_with fail
              refine (HRC.out _ HB6.out).mono ?_
              rintro e W7 ⟨rfl, hb7⟩
              clear l6
              go_wp2_with fail
              go_ret
              exact ⟨by rw [HQ3.out]; rfl, HB6.out.trans (hb7.mono HB6.out.size)⟩
theorem rallow_v4 (B : List UInt8) (hB : B.length = 16) (l : List NetV) (hl : l.length ≤ 1000000) (h16 : ∀ n ∈ l, n.B.length = 16) (s : Value) (w : World) (hs : NetsAt w s l) : Calls Try.prog 13 #[.agg (acs false B), s] w fun e w' => e = .returned (.int .i64 (allowV false B l)) ∧ Below w.heap.size w w' :=
  rallow_gen false B hB l hl h16 s w hs fun C hC => by
    rw [(unm_four B).1, emb_no] at hC
    cases hC
theorem rallow_any (v : Bool) (B : List UInt8) (hB : B.length = 16) (l : List NetV) (hl : l.length ≤ 1000000) (h16 : ∀ n ∈ l, n.B.length = 16) (s : Value) (w : World) (hs : NetsAt w s l) : Calls Try.prog 13 #[.agg (acs v B), s] w fun e w' => e = .returned (.int .i64 (allowV v B l)) ∧ Below w.heap.size w w' :=
  rallow_gen v B hB l hl h16 s w hs fun C hC W hW => rallow_v4 C (emb_may hC).2 l hl h16 s W (hs.below hW (Nat.le_refl _))
end Go.Proofs.Ytocdjgehjiolhaa
