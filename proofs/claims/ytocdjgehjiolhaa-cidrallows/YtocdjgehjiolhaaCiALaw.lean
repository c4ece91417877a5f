
/- The law CidrAllows, walked. -/
import Derived.Test.YtocdjgehjiolhaaCiRAl
import Derived.Test.YtocdjgehjiolhaaCiAwake
namespace Go.Proofs.Ytocdjgehjiolhaa
open Go.RowKit Go.BigFrame
attribute [local go_sem ↓] loadA_eq loadN_eq

theorem src_nets {w : World} {s : Value} {l : List NetV} (h16 : ∀ n ∈ l, n.B.length = 16) (h : NetsAt w s l) : Src Try.prog 18 33 s l.length (l.flatMap nvs) w := by
  have h1 : ∀ u ∈ l.flatMap nvs, u.oneCell' = true := fun u hu => by
    obtain ⟨n, _, hn⟩ := List.mem_flatMap.1 hu
    exact nvs_one n u hn
  rcases h with ⟨rfl, P, c, rfl⟩ | ⟨b, off, c, rfl, hb, hc⟩
  · cases P with
    | none => exact Src.ofNil w Try.underlying33 c
    | some a => exact Src.ofSlice w Try.underlying33 a 0 c [] rfl (fun j u hu => by cases hu) (fun u hu => by cases hu)
  · refine Src.ofSlice w Try.underlying33 ⟨b, off, none⟩ l.length c _ (flat_len l h16) (fun j u hu => ?_) h1
    rw [flat_at l h16] at hu
    obtain ⟨n, hn, hu⟩ := Option.bind_eq_some_iff.1 hu
    rw [Addr.add_mid]
    have := hc (j / 18) n hn (j % 18) u hu
    rwa [show off + j / 18 * 18 + j % 18 = off + j from by omega] at this
/-- append onto no nets: a slice of one's own. -/
theorem step_freshK {ops : Array Oper} {o : Oper} {a : Act} {w : World} {K : Act → World → Prop} {Q : Exit → Act → World → Prop} {E : Prop} (hgd : o.guard = none) (s x : Operand)
    (ho : o.op = .call { callee := .builtin .append, args := #[s, x], argTypes := #[33, 33] })
    (g : Nat) (l : List NetV) (h16 : ∀ n ∈ l, n.B.length = 16) (xv : Value) (hs : a.eval s = .slice (some ⟨g, 0, none⟩) 0 0) (hx : a.eval x = xv)
    (hA : NetsAt w xv l) (hn : l.length ≤ 1000000)
    (h : ∀ A c w', NetsAt w' (.slice A l.length c) l → Below w.heap.size w w' → K (a.put o.dst (.slice A l.length c)) w') :
    if Region.wanted o (yielded ops a.tmps) = true then Oper.wp Try.prog o a w K Q else E := by
  have hw : Region.wanted o (yielded ops a.tmps) = true := by simp [Region.wanted, hgd]
  rw [if_pos hw]
  have hsrc := src_nets h16 hA
  obtain ⟨i0, z, hi, hz0, hz1, hz2, hzc⟩ := (cellN).info
  have hsrc' : Src Try.prog i0.size 33 xv l.length (l.flatMap nvs) w := by rw [hz1]; exact hsrc
  by_cases h0 : l = []
  · subst h0
    have hr := run_append_room_src w 33 33 o.type 26 i0 cellN.sl hi g 0 0 0 xv 0 [] hsrc' (Nat.le_refl _) (fun j hj => by cases hj) (fun j hj => by cases hj)
    unfold Oper.wp
    simp [execOp, ho, resolve, invoke, builtin, hs, hx, Result.andThen]
    rw [show (0 : Nat) = 0 + ([] : List NetV).length from rfl] at hr
    simp at hr
    rw [hr]
    exact h _ _ _ (.inl ⟨rfl, _, _, rfl⟩) (Below.refl _ _)
  · have hlp : 0 < l.length := List.length_pos_iff.2 h0
    have hold : (Builtin.firstCells i0.size 0 (.slice (some ⟨g, 0, none⟩) 0 0)).run Try.prog w.drew = .ok ([] : List Value).toArray w.drew :=
      run_firstCells_some w.drew i0.size 0 ⟨g, 0, none⟩ 0 0 [] (by simp) (fun j u hu => by cases hu)
    have hr := run_append_grow_src w 33 33 o.type 26 i0 z cellN.sl hi hz0 (some ⟨g, 0, none⟩) 0 0 [] hold xv l.length _ hsrc' (by omega) (by omega) (growslice_fits (by omega) (by
      have : (0 + l.length) * i0.bytes ≤ 1000000 * 100 := Nat.mul_le_mul (by omega) hz2
      omega))
    unfold Oper.wp
    simp [execOp, ho, resolve, invoke, builtin, hs, hx, Result.andThen]
    simp at hr
    rw [hr]
    refine h _ _ _ ?_ ?_
    · refine NetsAt.of_row (rest := (Builtin.zeroCells z.cells (grownCap w l.length 0 26 - l.length)).toList) (t := 26) (fr := (0, 0)) h16 ?_
      rw [show w.heap.size = w.drew.heap.size from rfl, heap_alloc_new w.drew _]
      congr 2
      apply Array.ext'
      simp
    · exact (Below.refl w.heap.size w).drew.trans (alloc_below (Below.refl _ w.drew) (Nat.le_refl _) _)
theorem row_lt {w : World} {g : Nat} {o : Obj} (h : w.heap[g]? = some o) : g < w.heap.size := (Array.getElem?_eq_some_iff.1 h).1
set_option maxHeartbeats 8000000 in
set_option maxRecDepth 100000 in
theorem allows_law (v : Bool) (B : List UInt8) (hB : B.length = 16) (l : List NetV) (s : Value) (h16 : ∀ n ∈ l, n.B.length = 16) (w : World) (hs : ∀ W, Below w.heap.size w W → NetsAt W s l) : Calls Try.prog 4 #[.agg (acs v B), s] w fun e w' => e = .returned (.bool true) ∧ Below w.heap.size w w' := by
  obtain ⟨P, c, hsv⟩ : ∃ P c, s = .slice P l.length c := by
    rcases hs w (Below.refl _ _) with ⟨rfl, P, c, rfl⟩ | ⟨b, off, c, rfl, _, _⟩
    · exact ⟨P, c, rfl⟩
    · exact ⟨some ⟨b, off, none⟩, c, rfl⟩
  have HAW := hid awake6
  by_cases hl : (100 : Int) < (l.length : Int)
  · subst hsv
    generalize acs v B = X
    generalize l.length = M at hl ⊢
    go_enter Try.func4, Try.ntmps4
    go_wp2_with fail
    refine (HAW.out _).mono ?_
    rintro e W1 ⟨rfl, hb1⟩
    have HB1 := hid (row1 hb1).2.1
    clear hb1
    go_wp2_with fail
    go_ret
    exact ⟨rfl, HB1.out⟩
  · have HAL : Hid (∀ W A cc, NetsAt W (.slice A l.length cc) l → Calls Try.prog 12 #[.agg (acs v B), .slice A l.length cc] W fun e w' => e = .returned (.int .i64 (allowV v B l)) ∧ Below W.heap.size W w') := fun W A cc h => allow_any v B hB l (by omega) h16 _ W h
    have HRA : Hid (∀ W, NetsAt W s l → Calls Try.prog 13 #[.agg (acs v B), s] W fun e w' => e = .returned (.int .i64 (allowV v B l)) ∧ Below W.heap.size W w') := fun W h => rallow_any v B hB l (by omega) h16 s W h
    have HF := hid forbidden_any
    have HRF := hid refForb_any
    have HSM : Hid (∀ W b b2 c2 rest, W.heap[b]? = some (.cells forbCells.toArray 26 (0, 0)) → W.heap[b2]? = some (.cells (forbCells ++ rest).toArray 26 (0, 0)) → Calls Try.prog 14 #[.slice (some ⟨b, 0, none⟩) 26 26, .slice (some ⟨b2, 0, none⟩) 26 c2] W fun e w' => e = .returned (.bool true) ∧ Below W.heap.size W w') := fun W b b2 c2 rest h1 h2 => by
      have n1 := forb_nets h1
      have n2 : NetsAt W (.slice (some ⟨b2, 0, none⟩) 26 c2) forbL := NetsAt.of_row (l := forbL) forb16 h2
      rcases n1 with ⟨h, _⟩ | ⟨b', off, c', e1, g1, g2⟩
      · exact absurd (congrArg List.length h) (by decide)
      · rcases n2 with ⟨h, _⟩ | ⟨b'', off2, c'', e2, g3, g4⟩
        · exact absurd (congrArg List.length h) (by decide)
        · rw [e1, e2]
          exact same_row forbL (by decide) forb16 b' off c' b'' off2 c'' W g1 g3 g2 g4
    have HNA := hid hs
    have H16 := hid h16
    have HLX : Hid (∀ {W : World} {g : Nat}, W.heap[g]? = some (.cells (acs v B) 24 (0, 0)) → (loadI 24 (.pointer (some ⟨g, 0, none⟩))).run Try.prog W = .ok (.agg (acs v B)) W) := fun h => loadA_row hB h
    generalize acs v B = X at HAL HRA HLX ⊢
    generalize allowV v B l = R at HAL HRA
    generalize forbCells.toArray = FC at HF HSM
    clear hs h16
    subst hsv
    obtain ⟨M, hM⟩ : ∃ M, M = l.length := ⟨_, rfl⟩
    have HM := hid hM
    rw [← hM] at hl HAL HRA HNA ⊢
    clear hM
    go_enter Try.func4, Try.ntmps4
    go_wp2_with fail
    obtain ⟨V, hV⟩ : ∃ V, V = w.alloc (Obj.cells X 24) := ⟨_, rfl⟩
    have HR : Hid (V.heap[w.heap.size]? = some (.cells X 24 (0, 0))) := by rw [hV]; exact heap_alloc_new w _
    have HB : Hid (Below w.heap.size w V) := by rw [hV]; exact alloc_below (Below.refl _ w) (Nat.le_refl _) _
    have hz : w.heap.size < V.heap.size := by rw [hV]; simp
    rw [← hV]
    clear hV
    have HSK : Hid (∀ W, Below V.heap.size V W → (loadI 24 (.pointer (some ⟨w.heap.size, 0, none⟩))).run Try.prog W = .ok (.agg X) W ∧ Hid (Below V.heap.size V W)) := fun W h => ⟨HLX.out ((h.block _ hz).trans HR.out), h⟩
    have HNV : Hid (∀ W, Below V.heap.size V W → NetsAt W (.slice P M c) l) := fun W h => HNA.out W (HB.out.trans (h.mono HB.out.size))
    have HFK : Hid (∀ {ops : Array Oper} {o : Oper} {a : Act} {W : World} {K : Act → World → Prop} {Q : Exit → Act → World → Prop} {E : Prop}, o.guard = none → ∀ (s x : Operand), o.op = .call { callee := .builtin .append, args := #[s, x], argTypes := #[33, 33] } → ∀ (g : Nat) (xv : Value), a.eval s = .slice (some ⟨g, 0, none⟩) 0 0 → a.eval x = xv → NetsAt W xv l → (∀ A c w', NetsAt w' (.slice A M c) l → Below W.heap.size W w' → K (a.put o.dst (.slice A M c)) w') → if Region.wanted o (yielded ops a.tmps) = true then Oper.wp Try.prog o a W K Q else E) := fun h1 s x h2 g xv h3 h4 h5 h6 =>
      step_freshK h1 s x h2 g l H16.out xv h3 h4 h5 (by rw [← HM.out]; omega) (by rw [← HM.out]; exact h6)
    go_cut [4] (fun v wx => v = .bool true ∧ Hid (Below V.heap.size V wx))
    case first =>
      go_region_held3 (fun W => (loadI 24 (.pointer (some ⟨w.heap.size, 0, none⟩))).run Try.prog W = .ok (.agg X) W ∧ Hid (Below V.heap.size V W))
        (first
          | exact HSK.out _ (below_drewN _ _ 1)
          | (go_split_ands
             refine HSK.out _ ?_
             first
               | exact Below.alloc (Hid.out (by assumption)) (Below.size (Hid.out (by assumption))) _
               | exact Below.trans (Hid.out (by assumption)) (hbA.mono (Below.size (Hid.out (by assumption))))
               | exact Below.trans (Hid.out (by assumption)) (hbS.mono (Below.size (Hid.out (by assumption))))
               | exact Below.trans (Hid.out (by assumption)) (hbH.mono (Below.size (Hid.out (by assumption))))
               | exact Below.trans (Hid.out (by assumption)) (hbG.mono (Below.size (Hid.out (by assumption))))
               | exact Below.trans (Hid.out (by assumption)) (hbB.mono (Below.size (Hid.out (by assumption))))
               | exact Below.trans (Hid.out (by assumption)) (hbC.mono (Below.size (Hid.out (by assumption))))
               | exact Below.trans (Hid.out (by assumption)) (hbF.mono (Below.size (Hid.out (by assumption))))))
        ((first
          | (go_at_call 12; refine (HAL.out _ AF cF (by first | exact hNF | exact hNF.below hbC (Nat.le_refl _))).mono ?_; rintro e wB ⟨rfl, hbB⟩)
          | (go_at_call 13; go_split_ands; refine (HRA.out _ (HNV.out _ (Hid.out (by assumption)))).mono ?_; rintro e wC ⟨rfl, hbC⟩)
          | (go_at_call 15; refine (HF.out _).mono ?_; rintro e wG ⟨gf, rfl, _, hrowf, hbG⟩)
          | (go_at_call 16; refine (HRF.out _).mono ?_; rintro e wH ⟨gr, cr, rfl, _, ⟨restr, hrowr⟩, hbH⟩)
          | (go_at_call 14; refine (HSM.out _ gf gr cr restr (by first | exact hrowf | exact (hbH.block _ (row_lt hrowf)).trans hrowf) (by first | exact hrowr | exact (hbG.block _ (row_lt hrowr)).trans hrowr)).mono ?_; rintro e wS ⟨rfl, hbS⟩)
          | (go_at_call 11; refine (HAW.out _).mono ?_; rintro e wA ⟨rfl, hbA⟩)
          | (go_split_ands; refine HFK.out (by rfl) (.tmp 10) (.tmp 11) (by rfl) _ _ (by rfl) (by rfl) (HNV.out _ (Hid.out (by assumption))) ?_; intro AF cF wF hNF hbF)
          | fail))
      all_goals
        go_wp2_with fail
        go_meet
        case rel => exact ⟨rfl, by go_split_ands; assumption⟩
    case rest =>
      obtain ⟨rfl, HBx⟩ := hcut
      go_wp2_with fail
      go_ret
      exact ⟨rfl, HB.out.trans (HBx.out.mono HB.out.size)⟩
end Go.Proofs.Ytocdjgehjiolhaa
