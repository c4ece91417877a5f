
/- What path.Normal does. -/
import Derived.Test.YtlblefcmilfjdaaGreatDoorPaRes
import Derived.Deep.RegionHeld3
namespace Go.Proofs.YtlblefcmilfjdaaGreatDoor
set_option linter.unusedVariables false
set_option linter.unusedSimpArgs false
open Go.RowKit Go.BigFrame

/-- A URL's normal form, its port p. -/
def normN (u : UrlV) : UrlV := { scheme := u.scheme.map lowB, user := [], hasUser := false, host := tidyU lowB u.host, port := [], hasPort := false, hasAuth := true, path := orU (dotsU (tidyU id u.path)) [47], query := tidyU id u.query, hasQuery := u.hasQuery, frag := [], hasFrag := false }
def normU (u : UrlV) : UrlV := if portU u = usualU (u.scheme.map lowB) then normN u else { normN u with port := Lib.decDigits (portU u), hasPort := true }
theorem num_le (l : List UInt8) : numU l ≤ 65535 := by unfold numU; split <;> omega
theorem port_le (u : UrlV) : portU u ≤ 65535 := by
  have h1 := num_le u.port
  have h2 := usual_le (u.scheme.map lowB)
  unfold portU
  split
  · split <;> omega
  · omega
def buildI (t : TypeId) (ps : Array (Nat × Value)) := Instr.build t ps
theorem buildU_eq (ps : Array (Nat × Value)) : Instr.build 26 ps = buildI 26 ps := rfl
theorem built_url6 (a b c d : ByteArray) (q : Bool) : Tryz.prog.built 26 [(0, .string a), (6, .bool true), (3, .string b), (7, .string c), (8, .string d), (9, .bool q)] = some #[.string a, .string ⟨#[]⟩, .bool false, .string b, .string ⟨#[]⟩, .bool false, .bool true, .string c, .string d, .bool q, .string ⟨#[]⟩, .bool false] := by kernel_rfl
theorem run_buildU (a b c d : ByteArray) (q : Bool) (W : World) : (buildI 26 #[(0, .string a), (6, .bool true), (3, .string b), (7, .string c), (8, .string d), (9, .bool q)]).run Tryz.prog W = .ok (.agg #[.string a, .string ⟨#[]⟩, .bool false, .string b, .string ⟨#[]⟩, .bool false, .bool true, .string c, .string d, .bool q, .string ⟨#[]⟩, .bool false]) W := run_build W _ _ _ (built_url6 a b c d q)
theorem step_store_url {ops : Array Oper} {o : Oper} {a : Act} {w : World} {K : Act → World → Prop} {Q : Exit → Act → World → Prop} {E : Prop} (hgd : o.guard = none) (x y : Operand)
    (ho : o.op = .store 26 x y) (b : Nat) (u : UrlV) (hx : a.eval x = .pointer (some ⟨b, 0, none⟩)) (hy : a.eval y = .agg (ucs u)) (cs : Array Value) (hrow : w.heap[b]? = some (.cells cs 26 (0, 0))) (hcs : cs.size = 12)
    (h : ∀ W, Only b w W → W.heap[b]? = some (.cells (ucs u) 26 (0, 0)) → K (a.put o.dst undef) W) :
    if Region.wanted o (yielded ops a.tmps) = true then Oper.wp Tryz.prog o a w K Q else E := by
  have hw : Region.wanted o (yielded ops a.tmps) = true := by simp [Region.wanted, hgd]
  rw [if_pos hw]
  have hr : (Instr.storeAt 26 (.pointer (some ⟨b, 0, none⟩)) (.agg (ucs u))).run Tryz.prog w = .ok () (putU w b u) := storeU_row hrow hcs
  unfold Oper.wp
  simp only [execOp, ho, hx, hy, Sem.run_bind, Sem.run_pure, hr, Result.andThen_ok]
  exact h _ (putU_only w b u) (putU_row hrow hcs)
attribute [local go_sem ↓] loadU_eq storeU_eq buildU_eq
set_option maxHeartbeats 8000000 in
set_option maxRecDepth 100000 in
theorem normal_any (u : UrlV) (hu : LenU 100000 u) (hst : forUs u = true → StandsI u.host ∧ StandsI u.path ∧ StandsI u.query ∧ u.path.length ≤ 2048) (w : World) (hT : TabX w) : Calls Tryz.prog 10 #[.agg (ucs u)] w fun e w' => e = .returned (.tuple #[.agg (ucs (if portU u = 0 then zeroU else normU u)), .int .i64 (portE u)]) ∧ Below w.heap.size w w' := by
  have HT := hid hT
  have HPO := hid (fun W h => port_any u hu W h)
  have HPE : Hid (portE u = if portU u = 0 then 1 else 0) := rfl
  have HFU : Hid (portU u ≠ 0 → forUs u = true) := fun h => by
    cases hf : forUs u with
    | true => rfl
    | false => exact absurd (port_no u hf).1 h
  have HRR : Hid ((if portU u = 0 then zeroU else normU u) = if portU u = 0 then zeroU else normU u) := rfl
  generalize hR : (if portU u = 0 then zeroU else normU u) = R at HRR ⊢
  have HR := hid hR
  clear hR HRR
  have HRB : Hid (((w.alloc (.cells (ucs u) 26)).alloc (.cells (ucs zeroU) 26)).heap[w.heap.size]? = some (.cells (ucs u) 26 (0, 0)) ∧ ((w.alloc (.cells (ucs u) 26)).alloc (.cells (ucs zeroU) 26)).heap[w.heap.size + 1]? = some (.cells (ucs zeroU) 26 (0, 0))) := ⟨heap_old (heap_alloc_new w _), heap_at _ _ _ (by simp)⟩
  have HB0 : Hid (Below w.heap.size w ((w.alloc (.cells (ucs u) 26)).alloc (.cells (ucs zeroU) 26))) := alloc_below (alloc_below (Below.refl _ w) (Nat.le_refl _) _) (by simp) _
  have HST := hid hst
  have HLEN := hid hu
  clear hT hst hu
  go_enter Tryz.func10, Tryz.ntmps10
  go_upto_region 1 with (fail)
  show Code.wp Tryz.prog _ _ _ ((w.alloc (.cells (ucs u) 26)).alloc (.cells (ucs zeroU) 26))
  generalize ((w.alloc (.cells (ucs u) 26)).alloc (.cells (ucs zeroU) 26)) = V at HRB HB0 ⊢
  have l0 := loadU_row HRB.out.1
  go_wp2_with fail
  refine (HPO.out _ (HT.out.below HB0.out)).mono ?_
  rintro e W1 ⟨rfl, hb1⟩
  have HR1 : Hid (W1.heap[w.heap.size]? = some (.cells (ucs u) 26 (0, 0)) ∧ W1.heap[w.heap.size + 1]? = some (.cells (ucs zeroU) 26 (0, 0))) := ⟨row_keep hb1 HRB.out.1, row_keep hb1 HRB.out.2⟩
  have HB1 := hid (HB0.out.trans (hb1.mono HB0.out.size))
  clear hb1 l0
  by_cases h0 : portU u = 0
  · rw [if_pos h0] at HR HPE
    obtain rfl := HR.out
    have HE2 : Hid (portE u = 1) := HPE.out
    rw [h0, HE2.out]
    clear HR
    go_wp2_with (first
      | (refine wpList_built rfl 26 _ rfl (ucs zeroU) built_urlZ ?_)
      | (refine store_url rfl _ _ rfl (w.heap.size + 1) zeroU rfl rfl _ HR1.out.2 rfl ?_)
      | fail)
    intro W2 hO2 hW2
    have HB2 := hid (HB1.out.trans (hO2.below (B := w.heap.size) (by omega)))
    have HW2 := hid hW2
    clear hO2 hW2
    go_wp2_with fail
    exact bodyPost_ret (ret_url2 (p := 2) (q := 3) Tryz.results10 _ _ (w.heap.size + 1) zeroU (0, 0) _ rfl rfl HW2.out) rfl ⟨by rw [HE2.out]; rfl, HB2.out⟩
  · rw [if_neg h0] at HR HPE
    obtain ⟨sh, sp, sq, hpl⟩ := HST.out (HFU.out h0)
    have HE2 : Hid (portE u = 0) := HPE.out
    have HLO := hid (fun W => lower_any u.scheme W (by have := HLEN.out.scheme; omega))
    have HNH := hid (fun W => host8_any u.host HLEN.out.host sh W)
    have HNP := hid (fun W => signs_any u.path HLEN.out.path sp W)
    have HNQ := hid (fun W => signs_any u.query HLEN.out.query sq W)
    have HDO := hid (fun W h => Dots_any (tidyU id u.path) (Nat.le_trans (tidy_len id sp) hpl) W h)
    have HOR : Hid (∀ n W, W.heap[n]? = some (.cells #[.string (asS (dotsU (tidyU id u.path))), .string ⟨#[47]⟩] 9 (0, 0)) → Calls Tryz.prog 26 #[.slice (some ⟨n, 0, none⟩) 2 2] W fun e w' => e = .returned (.string (asS (orU (dotsU (tidyU id u.path)) [47]))) ∧ w' = W) := fun n W h => or_any _ [47] n W h
    have HUS := hid (fun W => usual_any (u.scheme.map lowB) W)
    have HNN : Hid (#[.string (asS (u.scheme.map lowB)), .string ⟨#[]⟩, .bool false, .string (asS (tidyU lowB u.host)), .string ⟨#[]⟩, .bool false, .bool true, .string (asS (orU (dotsU (tidyU id u.path)) [47])), .string (asS (tidyU id u.query)), .bool u.hasQuery, .string ⟨#[]⟩, .bool false] = ucs (normN u)) := rfl
    have HNU : Hid (normU u = if portU u = usualU (u.scheme.map lowB) then normN u else { normN u with port := Lib.decDigits (portU u), hasPort := true }) := rfl
    rw [HE2.out]
    clear sh sp sq hpl HST HFU
    generalize asS (u.scheme.map lowB) = X1 at HLO HNN HUS
    generalize asS (tidyU lowB u.host) = X2 at HNH HNN
    generalize asS (tidyU id u.path) = X3 at HNP HDO
    generalize asS (dotsU (tidyU id u.path)) = X4 at HDO HOR
    generalize asS (orU (dotsU (tidyU id u.path)) [47]) = X5 at HOR HNN
    generalize asS (tidyU id u.query) = X6 at HNQ HNN
    generalize hps : asS u.path = P0 at HNP
    generalize hqs : asS u.query = Q0 at HNQ
    generalize hhs : asS u.host = H0 at HNH
    generalize hss : asS u.scheme = S0 at HLO
    have HSK : Hid (∀ W, Below W1.heap.size W1 W → W.cell? ⟨w.heap.size, 0, none⟩ = some (.string S0) ∧ W.cell? ⟨w.heap.size, 3, none⟩ = some (.string H0) ∧ W.cell? ⟨w.heap.size, 7, none⟩ = some (.string P0) ∧ W.cell? ⟨w.heap.size, 8, none⟩ = some (.string Q0) ∧ W.cell? ⟨w.heap.size, 9, none⟩ = some (.bool u.hasQuery) ∧ Hid (Below W1.heap.size W1 W)) := fun W h => by
      have hr := row_keep h HR1.out.1
      exact ⟨cellU hr 0 _ (by rw [← hss]; rfl), cellU hr 3 _ (by rw [← hhs]; rfl), cellU hr 7 _ (by rw [← hps]; rfl), cellU hr 8 _ (by rw [← hqs]; rfl), cellU hr 9 _ rfl, h⟩
    obtain ⟨PG, hsto, HPB, HPR⟩ : ∃ PG : World → Nat → World, (∀ (W : World) (g : Nat), W.heap[g]? = some (.cells #[.string ⟨#[]⟩, .string ⟨#[]⟩, .bool false, .string ⟨#[]⟩, .string ⟨#[]⟩, .bool false, .bool false, .string ⟨#[]⟩, .string ⟨#[]⟩, .bool false, .string ⟨#[]⟩, .bool false] 26 (0, 0)) → (storeI 26 (.pointer (some ⟨g, 0, none⟩)) (.agg #[.string X1, .string ⟨#[]⟩, .bool false, .string X2, .string ⟨#[]⟩, .bool false, .bool true, .string X5, .string X6, .bool u.hasQuery, .string ⟨#[]⟩, .bool false])).run Tryz.prog W = .ok () (PG W g)) ∧ Hid (∀ W g, W1.heap.size ≤ g → Below W1.heap.size W1 W → Below W1.heap.size W1 (PG W g)) ∧ Hid (∀ (W : World) (g : Nat), W.heap[g]? = some (.cells #[.string ⟨#[]⟩, .string ⟨#[]⟩, .bool false, .string ⟨#[]⟩, .string ⟨#[]⟩, .bool false, .bool false, .string ⟨#[]⟩, .string ⟨#[]⟩, .bool false, .string ⟨#[]⟩, .bool false] 26 (0, 0)) → (PG W g).heap[g]? = some (.cells (ucs (normN u)) 26 (0, 0))) := by
      refine ⟨fun W g => putU W g (normN u), fun W g h => ?_, fun W g h1 h2 => ?_, fun W g h => ?_⟩
      · rw [HNN.out]
        exact storeU_row h rfl
      · exact h2.trans ((putU_only _ _ _).below h1)
      · exact putU_row h rfl
    have hnew : ∀ W : World, (W.alloc (.cells #[.string ⟨#[]⟩, .string ⟨#[]⟩, .bool false, .string ⟨#[]⟩, .string ⟨#[]⟩, .bool false, .bool false, .string ⟨#[]⟩, .string ⟨#[]⟩, .bool false, .string ⟨#[]⟩, .bool false] 26)).heap[W.heap.size]? = some (.cells #[.string ⟨#[]⟩, .string ⟨#[]⟩, .bool false, .string ⟨#[]⟩, .string ⟨#[]⟩, .bool false, .bool false, .string ⟨#[]⟩, .string ⟨#[]⟩, .bool false, .string ⟨#[]⟩, .bool false] 26 (0, 0)) := fun W => heap_alloc_new W _
    have hstoA := fun W => hsto _ _ (hnew W)
    have HSTO := hid hsto
    clear hsto hnew
    have hzW1 : w.heap.size + 1 < W1.heap.size := row_lt HR1.out.2
    have hbu := fun W => run_buildU X1 X2 X5 X6 u.hasQuery W
    clear hps hqs hhs hss
    have HNN0 := HNN
    go_upto_region 4 with (fail)
    go_cut [6] (fun v wx => ∃ g, v = .pointer (some ⟨g, 0, none⟩) ∧ w.heap.size + 1 < g ∧ Hid (wx.heap[g]? = some (.cells (ucs (normN u)) 26 (0, 0))) ∧ Hid (Below W1.heap.size W1 wx))
    case first =>
      go_region_held3 (fun W => W.cell? ⟨w.heap.size, 0, none⟩ = some (.string S0) ∧ W.cell? ⟨w.heap.size, 3, none⟩ = some (.string H0) ∧ W.cell? ⟨w.heap.size, 7, none⟩ = some (.string P0) ∧ W.cell? ⟨w.heap.size, 8, none⟩ = some (.string Q0) ∧ W.cell? ⟨w.heap.size, 9, none⟩ = some (.bool u.hasQuery) ∧ Hid (Below W1.heap.size W1 W))
        (first
          | exact HSK.out _ (below_drewN _ _ 1)
          | (go_split_ands
             refine HSK.out _ ?_
             first
               | exact HPB.out _ _ (by have z1 := hbLO.size; have z2 := hbNH.size; have z3 := hbNP.size; have z4 := hbDO.size; have z5 := hbNQ.size; simp only [World.alloc, Array.size_push, World.drew] at z1 z2 z3 z4 z5 ⊢; omega) (Hid.out (by assumption))
               | exact Hid.out (by assumption)
               | exact Below.alloc (Hid.out (by assumption)) (Below.size (Hid.out (by assumption))) _
               | exact Below.trans (Hid.out (by assumption)) (hbNQ.mono (Below.size (Hid.out (by assumption))))
               | exact Below.trans (Hid.out (by assumption)) (hbDO.mono (Below.size (Hid.out (by assumption))))
               | exact Below.trans (Hid.out (by assumption)) (hbNP.mono (Below.size (Hid.out (by assumption))))
               | exact Below.trans (Hid.out (by assumption)) (hbNH.mono (Below.size (Hid.out (by assumption))))
               | exact Below.trans (Hid.out (by assumption)) (hbLO.mono (Below.size (Hid.out (by assumption))))))
        ((first
          | (go_at_call 24; refine (HLO.out _).mono ?_; rintro e w9 ⟨rfl, hbLO⟩; first | (have hrw : _ = some (Obj.cells #[.string ⟨#[]⟩, .string ⟨#[]⟩, .bool false, .string ⟨#[]⟩, .string ⟨#[]⟩, .bool false, .bool false, .string ⟨#[]⟩, .string ⟨#[]⟩, .bool false, .string ⟨#[]⟩, .bool false] 26 (0, 0)) := row_keep hbLO (by first | assumption | exact heap_second _ _ _ | exact heap_alloc_new _ _ | exact heap_old (by assumption) | exact heap_old (heap_alloc_new _ _))) | skip)
          | (go_at_call 25; refine (HNH.out _).mono ?_; rintro e w9 ⟨rfl, hbNH⟩; first | (have hrw : _ = some (Obj.cells #[.string ⟨#[]⟩, .string ⟨#[]⟩, .bool false, .string ⟨#[]⟩, .string ⟨#[]⟩, .bool false, .bool false, .string ⟨#[]⟩, .string ⟨#[]⟩, .bool false, .string ⟨#[]⟩, .bool false] 26 (0, 0)) := row_keep hbNH (by first | assumption | exact heap_second _ _ _ | exact heap_alloc_new _ _ | exact heap_old (by assumption) | exact heap_old (heap_alloc_new _ _))) | skip)
          | (go_at_call_of 27 (Value.string P0); refine (HNP.out _).mono ?_; rintro e w9 ⟨rfl, hbNP⟩; first | (have hrw : _ = some (Obj.cells #[.string ⟨#[]⟩, .string ⟨#[]⟩, .bool false, .string ⟨#[]⟩, .string ⟨#[]⟩, .bool false, .bool false, .string ⟨#[]⟩, .string ⟨#[]⟩, .bool false, .string ⟨#[]⟩, .bool false] 26 (0, 0)) := row_keep hbNP (by first | assumption | exact heap_second _ _ _ | exact heap_alloc_new _ _ | exact heap_old (by assumption) | exact heap_old (heap_alloc_new _ _))) | skip)
          | (go_at_call_of 27 (Value.string Q0); refine (HNQ.out _).mono ?_; rintro e w9 ⟨rfl, hbNQ⟩; first | (have hrw : _ = some (Obj.cells #[.string ⟨#[]⟩, .string ⟨#[]⟩, .bool false, .string ⟨#[]⟩, .string ⟨#[]⟩, .bool false, .bool false, .string ⟨#[]⟩, .string ⟨#[]⟩, .bool false, .string ⟨#[]⟩, .bool false] 26 (0, 0)) := row_keep hbNQ (by first | assumption | exact heap_second _ _ _ | exact heap_alloc_new _ _ | exact heap_old (by assumption) | exact heap_old (heap_alloc_new _ _)); have hsx := HSTO.out _ _ hrw) | skip)
          | (go_at_call 6; go_split_ands; refine (HDO.out _ (HT.out.tab.below (HB1.out.trans ((Hid.out (by assumption) : Below W1.heap.size W1 _).mono HB1.out.size)))).mono ?_; rintro e w9 ⟨rfl, hbDO⟩; first | (have hrw : _ = some (Obj.cells #[.string ⟨#[]⟩, .string ⟨#[]⟩, .bool false, .string ⟨#[]⟩, .string ⟨#[]⟩, .bool false, .bool false, .string ⟨#[]⟩, .string ⟨#[]⟩, .bool false, .string ⟨#[]⟩, .bool false] 26 (0, 0)) := row_keep hbDO (by first | assumption | exact heap_second _ _ _ | exact heap_alloc_new _ _ | exact heap_old (by assumption) | exact heap_old (heap_alloc_new _ _))) | skip)
          | (go_at_call 26; refine (HOR.out _ _ (by first | exact heap_second _ _ _ | exact heap_alloc_new _ _ | exact heap_old (heap_alloc_new _ _))).mono ?_; rintro e w9 ⟨rfl, rfl⟩)
          | fail))
      all_goals
        go_wp2_with fail
        go_meet
        case rel => exact ⟨_, rfl, by have z1 := hbLO.size; have z2 := hbNH.size; have z3 := hbNP.size; have z4 := hbDO.size; have z5 := hbNQ.size; simp only [World.alloc, Array.size_push, World.drew] at z1 z2 z3 z4 z5 ⊢; omega, HPR.out _ _ (by first | assumption | exact heap_alloc_new _ _), by go_split_ands; assumption⟩
    case rest =>
      obtain ⟨g, rfl, hg, HG, HBG⟩ := hcut
      have HX1 : Hid ((ucs (normN u))[0]? = some (.string X1)) := by show _ = _; rw [← HNN.out]; rfl
      have HRS : Hid (wc.heap[w.heap.size + 1]? = some (.cells (ucs zeroU) 26 (0, 0))) := row_keep HBG.out HR1.out.2
      have HB2 := hid (HB1.out.trans (HBG.out.mono HB1.out.size))
      have HIT : Hid (portU u ≤ 65535 → ∀ W, TabX W → Calls Tryz.prog 29 #[.int .i64 (portU u : Int)] W fun e w' => e = .returned (.string (asS (Lib.decDigits (portU u)))) ∧ Below W.heap.size W w') := fun h W ht => itoa8 _ h W ht
      clear hstoA HSTO HPB HPR hbu HSK HLO HNH HNP HNQ HDO HOR HBG
      have c0 := cellU HG.out 0 _ HX1.out
      go_wp2_with fail
      refine (HUS.out _).mono ?_
      rintro e W4 ⟨rfl, rfl⟩
      clear c0
      by_cases hpu : portU u = usualU (u.scheme.map lowB)
      · rw [if_pos hpu] at HNU
        have hq : ((portU u : Int) == (usualU (u.scheme.map lowB) : Int)) = true := by rw [hpu]; simp
        have HRN : Hid (R = normN u) := by show _ = _; rw [← HR.out, HNU.out]
        have ld := loadU_row HG.out
        clear hpu HIT HUS
        generalize (usualU (u.scheme.map lowB) : Int) = us at hq ⊢
        generalize (portU u : Int) = pu at hq ⊢
        go_wp2_with (first
          | (refine store_url rfl _ _ rfl (w.heap.size + 1) (normN u) rfl rfl _ HRS.out rfl ?_)
          | fail)
        intro W5 hO5 hW5
        have HB5 := hid (HB2.out.trans (hO5.below (B := w.heap.size) (by omega)))
        have HW5 := hid hW5
        clear hO5 hW5
        go_wp2_with fail
        exact bodyPost_ret (ret_url2 (p := 2) (q := 3) Tryz.results10 _ _ (w.heap.size + 1) (normN u) (0, 0) _ rfl rfl HW5.out) rfl ⟨by rw [HRN.out, HE2.out]; rfl, HB5.out⟩
      · rw [if_neg hpu] at HNU
        have hq : ((portU u : Int) == (usualU (u.scheme.map lowB) : Int)) = false := by rw [beq_eq_false_iff_ne]; omega
        have HRN : Hid (R = { normN u with port := Lib.decDigits (portU u), hasPort := true }) := by show _ = _; rw [← HR.out, HNU.out]
        have HI2 := hid (HIT.out (port_le u))
        clear hpu HIT HUS
        generalize (usualU (u.scheme.map lowB) : Int) = us at hq ⊢
        generalize (portU u : Int) = pu at hq HI2 ⊢
        go_wp2_with fail
        refine (HI2.out _ (HT.out.below HB2.out)).mono ?_
        rintro e W5 ⟨rfl, hb5⟩
        have HG5 := hid (row_keep hb5 HG.out)
        have HS5 := hid (row_keep hb5 HRS.out)
        have HB5 := hid (HB2.out.trans (hb5.mono HB2.out.size))
        clear hb5
        go_wp2_with (first
          | (refine store_fld rfl 9 _ _ rfl g 4 (.string (asS (Lib.decDigits (portU u)))) (normN u) { normN u with port := Lib.decDigits (portU u) } rfl rfl info9 (by omega) rfl rfl HG5.out rfl ?_)
          | fail)
        intro W6 hO6 hW6
        have HS6 := hid ((hO6.block (w.heap.size + 1) (by omega)).trans HS5.out)
        have HB6 := hid (HB5.out.trans (hO6.below (B := w.heap.size) (by omega)))
        have HG6 := hid hW6
        clear hO6 hW6
        go_wp2_with (first
          | (refine store_fld rfl 4 _ _ rfl g 5 (.bool true) { normN u with port := Lib.decDigits (portU u) } { normN u with port := Lib.decDigits (portU u), hasPort := true } rfl rfl info4 (by omega) rfl rfl HG6.out rfl ?_)
          | fail)
        intro W7 hO7 hW7
        have HS7 := hid ((hO7.block (w.heap.size + 1) (by omega)).trans HS6.out)
        have HB7 := hid (HB6.out.trans (hO7.below (B := w.heap.size) (by omega)))
        rw [← HRN.out] at hW7
        have ld := loadU_row hW7
        clear hO7 hW7
        go_wp2_with (first
          | (refine store_url rfl _ _ rfl (w.heap.size + 1) R rfl rfl _ HS7.out rfl ?_)
          | fail)
        intro W8 hO8 hW8
        have HB8 := hid (HB7.out.trans (hO8.below (B := w.heap.size) (by omega)))
        have HW8 := hid hW8
        clear hO8 hW8
        go_wp2_with fail
        exact bodyPost_ret (ret_url2 (p := 2) (q := 3) Tryz.results10 _ _ (w.heap.size + 1) R (0, 0) _ rfl rfl HW8.out) rfl ⟨by rw [HE2.out]; rfl, HB8.out⟩
end Go.Proofs.YtlblefcmilfjdaaGreatDoor
