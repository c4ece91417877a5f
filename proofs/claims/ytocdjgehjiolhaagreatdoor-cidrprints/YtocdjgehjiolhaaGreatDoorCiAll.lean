
/- What cidr.Allow does. -/
import Derived.Test.YtocdjgehjiolhaaGreatDoorCiFor
import Derived.Test.YtocdjgehjiolhaaGreatDoorCiAllow
import Derived.Test.YtocdjgehjiolhaaGreatDoorIpEmb
namespace Go.Proofs.YtocdjgehjiolhaaGreatDoor
open Go.RowKit Go.BigFrame
attribute [local go_sem ↓] loadA_eq

theorem NetsAt.of_row {w : World} {b c : Nat} {l : List NetV} {rest : List Value} {t : TypeId} {fr : Nat × Nat} (h16 : ∀ n ∈ l, n.B.length = 16) (h : w.heap[b]? = some (.cells (l.flatMap nvs ++ rest).toArray t fr)) : NetsAt w (.slice (some ⟨b, 0, none⟩) l.length c) l :=
  .inr ⟨b, 0, c, rfl, (Array.getElem?_eq_some_iff.1 h).1, fun j n hn i v hv => by
    have hi : i < 18 := by rw [← nvs_len n (h16 n (List.mem_of_getElem? hn))]; exact (List.getElem?_eq_some_iff.1 hv).1
    have hj : j < l.length := (List.getElem?_eq_some_iff.1 hn).1
    rw [cell_of_row _ _ _ _ _ _ h, List.getElem?_toArray, List.getElem?_append_left (by rw [flat_len l h16]; omega), flat_at l h16, Nat.zero_add, show (j * 18 + i) / 18 = j from by omega, show (j * 18 + i) % 18 = i from by omega, hn]
    exact hv⟩
theorem forb_nets {w : World} {b : Nat} (h : w.heap[b]? = some (.cells forbCells.toArray 26 (0, 0))) : NetsAt w (.slice (some ⟨b, 0, none⟩) 26 26) forbL :=
  NetsAt.of_row (rest := []) (l := forbL) forb16 (by rw [List.append_nil]; exact h)
theorem drew_below {V W : World} (h : Below V.drew.heap.size V.drew W) : Below V.heap.size V W := ((Below.refl V.heap.size V).drew).trans h
set_option maxHeartbeats 4000000 in
theorem allow_gen (v : Bool) (B : List UInt8) (hB : B.length = 16) (l : List NetV) (hl : l.length ≤ 1000000) (h16 : ∀ n ∈ l, n.B.length = 16) (s : Value) (w : World) (hs : NetsAt w s l)
    (hrec : ∀ C, embO (unmV v B) (unmB v B) = some C → ∀ W, Below w.heap.size w W → Calls Tryz.prog 19 #[.agg (acs false C), s] W fun e w' => e = .returned (.int .i64 (allowV false C l)) ∧ Below W.heap.size W w') :
    Calls Tryz.prog 19 #[.agg (acs v B), s] w fun e w' => e = .returned (.int .i64 (allowV v B l)) ∧ Below w.heap.size w w' := by
  have HC := hid (fun W => ipcheck_any v B hB W)
  have HD : Hid (∀ W, Below w.heap.size w W → Calls Tryz.prog 36 #[s, .func (.func 37) #[] #[]] W fun e w' => e = .returned (.bool (l.any fun n => !mayV n)) ∧ Below W.heap.size W w') := fun W hW => denied_any l hl h16 s W (hs.below hW (Nat.le_refl _))
  have HU := hid (fun W => unmap_any v B hB W)
  have HUL := hid (unm_len v B hB)
  have HE := hid (fun W => embeds_any (unmV v B) (unmB v B) HUL.out W)
  have HREC := hid hrec
  have HF := hid forbidden_any
  have HAV : Hid (allowV v B l = if mayB v B = false then 1 else if (l.any fun n => !mayV n) then 1 else reachV (unmV v B) (unmB v B) l) := rfl
  have HA1 : Hid (mayB v B = true → ∀ W b, W.heap[b]? = some (.cells forbCells.toArray 26 (0, 0)) → Calls Tryz.prog 38 #[.slice (some ⟨b, 0, none⟩) 26 26, .agg (acs (unmV v B) (unmB v B))] W fun e w' => e = .returned (.bool (inV forbL (unmV v B) (unmB v B))) ∧ Below W.heap.size W w') := fun hm W b hb =>
    among_any forbL (by decide) (fun n hn => forb_ok n hn) _ _ HUL.out (unm_may v B hm) _ W (forb_nets hb)
  have HA2 : Hid (mayB v B = true → (l.any fun n => !mayV n) = false → ∀ W, Below w.heap.size w W → Calls Tryz.prog 38 #[s, .agg (acs (unmV v B) (unmB v B))] W fun e w' => e = .returned (.bool (inV l (unmV v B) (unmB v B))) ∧ Below W.heap.size W w') := fun hm hd W hW =>
    among_any l hl (fun n hn => ⟨h16 n hn, all_may hd n hn⟩) _ _ HUL.out (unm_may v B hm) _ W (hs.below hW (Nat.le_refl _))
  have HR1 : Hid ((inV forbL (unmV v B) (unmB v B) || inV l (unmV v B) (unmB v B)) = true → reachV (unmV v B) (unmB v B) l = 8) := fun h => by unfold reachV; rw [h]; rfl
  have HR2 : Hid ((inV forbL (unmV v B) (unmB v B) || inV l (unmV v B) (unmB v B)) = false → embO (unmV v B) (unmB v B) = none → reachV (unmV v B) (unmB v B) l = 0) := fun h h2 => by unfold reachV; rw [h, h2]; rfl
  have HR3 : Hid ((inV forbL (unmV v B) (unmB v B) || inV l (unmV v B) (unmB v B)) = false → (l.any fun n => !mayV n) = false → ∀ C, embO (unmV v B) (unmB v B) = some C → reachV (unmV v B) (unmB v B) l = allowV false C l) := fun h hd C h2 => reach_some _ _ C l h h2 hd
  have HEL : Hid (∀ C, embO (unmV v B) (unmB v B) = some C → C.length = 16) := fun C h => (emb_may h).2
  clear hs hrec h16
  generalize allowV v B l = R at HAV ⊢
  generalize mayB v B = m at HC HAV HA1 HA2
  generalize (l.any fun n => !mayV n) = d at HD HAV HA2 HR3
  generalize reachV (unmV v B) (unmB v B) l = rr at HAV HR1 HR2 HR3
  generalize inV forbL (unmV v B) (unmB v B) = t1 at HA1 HR1 HR2 HR3
  generalize inV l (unmV v B) (unmB v B) = t2 at HA2 HR1 HR2 HR3
  generalize embO (unmV v B) (unmB v B) = eo at HE HREC HR2 HR3 HEL
  generalize unmV v B = uv at HU HE HA1 HA2
  generalize unmB v B = ub at HU HE HA1 HA2 HUL
  have HLA : Hid (∀ {W : World} {g : Nat}, W.heap[g]? = some (.cells (acs v B) 24 (0, 0)) → (loadI 24 (.pointer (some ⟨g, 0, none⟩))).run Tryz.prog W = .ok (.agg (acs v B)) W) := fun h => loadA_row hB h
  have HLU : Hid (∀ {W : World} {g : Nat}, W.heap[g]? = some (.cells (acs uv ub) 24 (0, 0)) → (loadI 24 (.pointer (some ⟨g, 0, none⟩))).run Tryz.prog W = .ok (.agg (acs uv ub)) W) := fun h => loadA_row HUL.out h
  have HXS : Hid ((acs v B).size = 17) := acs_size v B hB
  generalize acs v B = X at HC HU HLA HXS ⊢
  generalize forbCells.toArray = FC at HF HA1
  have l0 : (loadI 24 (.pointer (some ⟨w.heap.size, 0, none⟩))).run Tryz.prog (w.alloc (.cells X 24)) = .ok (.agg X) (w.alloc (.cells X 24)) := HLA.out (heap_alloc_new w _)
  go_enter Tryz.func19, Tryz.ntmps19
  go_wp2_with fail
  refine (HC.out _).mono ?_
  rintro e W1 ⟨rfl, hb1⟩
  obtain ⟨r1, b1, z1⟩ := row1 hb1
  have HRW := hid r1; have HB := hid b1
  clear r1 b1 hb1 l0
  cases m
  · have HQ : Hid (R = 1) := by show _ = _; rw [HAV.out]; rfl
    go_wp2_with fail
    go_ret
    exact ⟨by rw [HQ.out]; rfl, HB.out⟩
  simp only [Bool.true_eq_false, if_false] at HAV
  have HA1' := hid (HA1.out rfl)
  have HA2' := hid (HA2.out rfl)
  clear HA1 HA2
  go_wp2_with fail
  refine (HD.out _ HB.out).mono ?_
  rintro e W2 ⟨rfl, hb2⟩
  have HRW2 : Hid (W2.heap[w.heap.size]? = some (.cells X 24 (0, 0))) := (hb2.block _ z1).trans HRW.out
  have HB2 : Hid (Below w.heap.size w W2) := HB.out.trans (hb2.mono HB.out.size)
  have z2 : w.heap.size + 1 ≤ W2.heap.size := Nat.le_trans z1 hb2.size
  clear hb2 HRW HB z1
  cases d
  case true =>
    have HQ : Hid (R = 1) := by show _ = _; rw [HAV.out]; rfl
    go_wp2_with fail
    go_ret
    exact ⟨by rw [HQ.out]; rfl, HB2.out⟩
  have HQ : Hid (R = rr) := by show _ = _; rw [HAV.out]; rfl
  have HA2'' := hid (HA2'.out rfl)
  have HR3' := hid (fun h => HR3.out h rfl)
  clear HAV HA2' HR3
  have l1 := HLA.out HRW2.out
  go_wp2_with fail
  refine (HU.out _).mono ?_
  rintro e W3 ⟨rfl, hb3⟩
  have HRW3 : Hid (W3.heap[w.heap.size]? = some (.cells X 24 (0, 0))) := (hb3.block _ z2).trans HRW2.out
  have HB3 : Hid (Below w.heap.size w W3) := HB2.out.trans (hb3.mono HB2.out.size)
  have z3 : w.heap.size + 1 ≤ W3.heap.size := Nat.le_trans z2 hb3.size
  clear hb3 HRW2 HB2 z2 l1
  go_wp2_with (first
    | (refine store_addr rfl _ _ rfl w.heap.size uv ub HUL.out rfl rfl _ HRW3.out HXS.out ?_)
    | fail)
  intro V hO hV
  have HV := hid hV
  have HBV : Hid (Below w.heap.size w V) := HB3.out.trans (hO.below (Nat.le_refl _))
  have zV : w.heap.size + 1 ≤ V.heap.size := by rw [hO.size]; exact z3
  clear hO hV HRW3 HB3 z3 HXS
  have HLD : Hid (∀ W, Below V.heap.size V W → (loadI 24 (.pointer (some ⟨w.heap.size, 0, none⟩))).run Tryz.prog W = .ok (.agg (acs uv ub)) W) := fun W hW => HLU.out ((hW.block _ zV).trans HV.out)
  generalize acs uv ub = U at HE HA1' HA2'' HLD
  go_wp2_with fail
  cases t1
  case true =>
    have HQ8 : Hid (R = 8) := by show _ = _; rw [HQ.out]; exact HR1.out rfl
    have ld := HLD.out V.drew (below_drewN _ _ 1)
    go_cut [23] (fun v wx => v = .bool true ∧ Hid (Below w.heap.size w wx))
    case first =>
      first
        | (go_region_with ((first
          | (go_at_call 20; refine (HF.out _).mono ?_; rintro e w1 ⟨g, rfl, hge, hrow, hb⟩; have HG := hid hrow; have HB1 := hid (drew_below hb); have ld1 := HLD.out w1 HB1.out; clear hge hrow hb)
          | (go_at_call 38; refine (HA1'.out _ g HG.out).mono ?_; rintro e w2 ⟨rfl, hb2⟩))))
        | fail
      all_goals
        go_wp2_with fail
        go_meet
        case rel => exact ⟨rfl, HBV.out.trans ((HB1.out.trans (hb2.mono HB1.out.size)).mono HBV.out.size)⟩
    case rest =>
      obtain ⟨rfl, HBx⟩ := hcut
      clear ld
      go_wp2_with fail
      go_ret
      exact ⟨by rw [HQ8.out]; rfl, HBx.out⟩
  case false =>
    have ld := HLD.out V.drew (below_drewN _ _ 1)
    go_cut [23] (fun v wx => v = .bool t2 ∧ Hid (Below V.heap.size V wx))
    case first =>
      first
        | (go_region_with ((first
          | (go_at_call 20; refine (HF.out _).mono ?_; rintro e w1 ⟨g, rfl, hge, hrow, hb⟩; have HG := hid hrow; have HB1 := hid (drew_below hb); have ld1 := HLD.out w1 HB1.out; clear hge hrow hb)
          | (go_at_call_of 38 (Value.slice (some ⟨g, 0, none⟩) 26 26); refine (HA1'.out _ g HG.out).mono ?_; rintro e w2 ⟨rfl, hb2⟩; have HB2 := hid (HB1.out.trans (hb2.mono HB1.out.size)); have ld2 := HLD.out w2 HB2.out; clear hb2)
          | (go_at_call_of 38 s; refine (HA2''.out _ (HBV.out.trans (HB2.out.mono HBV.out.size))).mono ?_; rintro e w3 ⟨rfl, hb3⟩))))
        | fail
      all_goals
        go_wp2_with fail
        go_meet
        case rel => exact ⟨rfl, HB2.out.trans (hb3.mono HB2.out.size)⟩
    case rest =>
      obtain ⟨rfl, HBx⟩ := hcut
      clear ld
      cases t2
      case true =>
        have HQ8 : Hid (R = 8) := by show _ = _; rw [HQ.out]; exact HR1.out rfl
        go_wp2_with fail
        go_ret
        exact ⟨by rw [HQ8.out]; rfl, HBV.out.trans (HBx.out.mono HBV.out.size)⟩
      have HBw : Hid (Below w.heap.size w wc) := HBV.out.trans (HBx.out.mono HBV.out.size)
      have ld := HLD.out wc HBx.out
      go_wp2_with fail
      refine (HE.out _).mono ?_
      rintro e W5 ⟨rfl, hb5⟩
      have HB5 : Hid (Below w.heap.size w W5) := HBw.out.trans (hb5.mono HBw.out.size)
      clear hb5 ld
      cases eo with
      | none =>
        have HQ0 : Hid (R = 0) := by show _ = _; rw [HQ.out]; exact HR2.out rfl rfl
        go_wp2_with (first
          | (refine store_addr rfl _ _ rfl W5.heap.size false (zer 16) rfl rfl rfl _ (heap_alloc_new W5 _) rfl ?_)
          | fail)
        intro W6 hO6 hW6
        have HB6 : Hid (Below w.heap.size w W6) := (alloc_below HB5.out HB5.out.size _).trans (hO6.below HB5.out.size)
        clear hO6 hW6
        go_wp2_with fail
        go_ret
        exact ⟨by rw [HQ0.out]; rfl, HB6.out⟩
      | some C =>
        have HQ3 : Hid (R = allowV false C l) := by show _ = _; rw [HQ.out]; exact HR3'.out rfl C rfl
        have HCL := hid (HEL.out C rfl)
        have HRC := hid (HREC.out C rfl)
        go_wp2_with (first
          | (refine store_addr rfl _ _ rfl W5.heap.size false C HCL.out rfl rfl _ (heap_alloc_new W5 _) rfl ?_)
          | fail)
        intro W6 hO6 hW6
        have HB6 : Hid (Below w.heap.size w W6) := (alloc_below HB5.out HB5.out.size _).trans (hO6.below HB5.out.size)
        have l6 := loadA_row HCL.out hW6
        clear hO6 hW6
        go_wp2_with fail
        refine (HRC.out _ HB6.out).mono ?_
        rintro e W7 ⟨rfl, hb7⟩
        clear l6
        go_wp2_with fail
        go_ret
        exact ⟨by rw [HQ3.out]; rfl, HB6.out.trans (hb7.mono HB6.out.size)⟩
theorem allow_v4 (B : List UInt8) (hB : B.length = 16) (l : List NetV) (hl : l.length ≤ 1000000) (h16 : ∀ n ∈ l, n.B.length = 16) (s : Value) (w : World) (hs : NetsAt w s l) : Calls Tryz.prog 19 #[.agg (acs false B), s] w fun e w' => e = .returned (.int .i64 (allowV false B l)) ∧ Below w.heap.size w w' :=
  allow_gen false B hB l hl h16 s w hs fun C hC => by
    rw [(unm_four B).1, emb_no] at hC
    cases hC
theorem allow_any (v : Bool) (B : List UInt8) (hB : B.length = 16) (l : List NetV) (hl : l.length ≤ 1000000) (h16 : ∀ n ∈ l, n.B.length = 16) (s : Value) (w : World) (hs : NetsAt w s l) : Calls Tryz.prog 19 #[.agg (acs v B), s] w fun e w' => e = .returned (.int .i64 (allowV v B l)) ∧ Below w.heap.size w w' :=
  allow_gen v B hB l hl h16 s w hs fun C hC W hW => allow_v4 C (emb_may hC).2 l hl h16 s W (hs.below hW (Nat.le_refl _))
theorem allow_nil (v : Bool) (B : List UInt8) (hB : B.length = 16) (w : World) : Calls Tryz.prog 19 #[.agg (acs v B), .slice none 0 0] w fun e w' => e = .returned (.int .i64 (allowV v B [])) ∧ Below w.heap.size w w' :=
  allow_any v B hB [] (by simp) (fun n hn => by cases hn) _ w (.inl ⟨rfl, none, 0, rfl⟩)
end Go.Proofs.YtocdjgehjiolhaaGreatDoor
