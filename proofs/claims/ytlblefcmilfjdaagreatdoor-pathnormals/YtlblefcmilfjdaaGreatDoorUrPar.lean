
/- What url.Parse does. -/
import Derived.Test.YtlblefcmilfjdaaGreatDoorUrPt
namespace Go.Proofs.YtlblefcmilfjdaaGreatDoor
set_option linter.unusedVariables false
set_option linter.unusedSimpArgs false
open Go.RowKit Go.BigFrame

theorem clone_any (s : ByteArray) (hs : s.size ≤ 1000000) (w : World) : Calls Tryz.prog 19 #[.string s] w fun e w' => e = .returned (.string s) ∧ Below w.heap.size w w' := by
  have HC := hid (fun W => Tryz.stringslite_Clone s W (by omega))
  go_enter Tryz.func19, Tryz.ntmps19
  go_wp2_with fail
  refine (HC.out _).mono ?_
  rintro e W ⟨rfl, hb⟩
  go_wp2_with fail
  go_ret
  exact ⟨rfl, hb⟩
theorem byte_asc (c : UInt8) (h : byteU c = true) : c.toNat < 128 := by
  rw [byteU_eq, Bool.and_eq_true, decide_eq_true_iff] at h
  omega
theorem stands_asc : ∀ l : List UInt8, standsU l = true → Asc l
  | [], _ => fun c hc => by cases hc
  | d :: r, h => fun c hc => by
    rw [stands_cons, Bool.and_eq_true, Bool.and_eq_true] at h
    rcases List.mem_cons.1 hc with rfl | hc
    · exact byte_asc _ h.1.1
    · exact stands_asc r h.2 c hc
def puV (l : List UInt8) : UrlV := if 2048 < l.length then zeroU else (parseU l).getD zeroU
def puE (l : List UInt8) : Int := if 2048 < l.length then 3 else if (parseU l).isSome then 0 else 5
set_option maxHeartbeats 4000000 in
set_option maxRecDepth 100000 in
theorem parseUrl_all (l : List UInt8) (w : World) (hT : TabS w) : Calls Tryz.prog 39 #[.string (asS l)] w fun e w' => e = .returned (.tuple #[.agg (ucs (puV l)), .int .i64 (puE l)]) ∧ Below w.heap.size w w' := by
  have hsz := asS_size l
  have HV : Hid (puV l = if 2048 < l.length then zeroU else (parseU l).getD zeroU) := rfl
  have HE : Hid (puE l = if 2048 < l.length then 3 else if (parseU l).isSome then 0 else 5) := rfl
  generalize puV l = RV at HV ⊢
  generalize puE l = RE at HE ⊢
  by_cases hb : 2048 < l.length
  · have hi : (2048 : Int) < ((asS l).size : Int) := by rw [hsz]; omega
    rw [if_pos hb] at HV HE
    generalize asS l = S at hi ⊢
    clear hb hsz
    go_enter Tryz.func39, Tryz.ntmps39
    go_wp2_with (first
      | (refine wpList_built rfl 26 _ rfl (ucs zeroU) built_urlZ ?_)
      | (refine store_url rfl _ _ rfl w.heap.size zeroU rfl rfl _ (heap_alloc_new w _) rfl ?_)
      | fail)
    intro Wf hOf hWf
    go_wp2
    refine bodyPost_ret (ret_url2 (p := 2) (q := 3) Tryz.results39 _ _ w.heap.size zeroU (0, 0) _ rfl rfl hWf) rfl ⟨?_, (alloc_below (Below.refl _ w) (Nat.le_refl _) _).trans (hOf.below (Nat.le_refl _))⟩
    rw [HV.out, HE.out]; rfl
  · rw [if_neg hb] at HV HE
    have hi : ¬ (2048 : Int) < ((asS l).size : Int) := by rw [hsz]; omega
    have HMS := hid (fun W => mayStand_any (asS l) (by rw [asS_size]; omega) W)
    cases hst : standsU l with
    | false =>
      have hp : parseU l = none := by unfold parseU; rw [hst, if_pos rfl]
      rw [hp] at HV HE
      have HM2 : Hid (∀ W, Calls Tryz.prog 64 #[.string (asS l)] W fun e w' => e = .returned (.bool false) ∧ Below W.heap.size W w') := fun W => by have := HMS.out W; rw [asS_data, hst] at this; exact this
      generalize asS l = S at hi HM2 ⊢
      clear hb hsz HMS hst hp
      go_enter Tryz.func39, Tryz.ntmps39
      go_wp2_with fail
      generalize hV : w.alloc _ = V
      have HR : Hid (∃ cs, V.heap[w.heap.size]? = some (.cells cs 26 (0, 0)) ∧ cs.size = 12) := ⟨_, by rw [← hV]; exact heap_alloc_new w _, rfl⟩
      have HB : Hid (Below w.heap.size w V) := by rw [← hV]; exact alloc_below (Below.refl _ w) (Nat.le_refl _) _
      have z : w.heap.size < V.heap.size := by rw [← hV]; simp
      clear hV
      obtain ⟨CZ, hCZ, hZS⟩ := HR.out
      have HCZ := hid hCZ; have HZS := hid hZS
      clear HR hCZ hZS
      refine (HM2.out _).mono ?_
      rintro e W1 ⟨rfl, hb1⟩
      have HB1 := hid hb1
      clear hb1
      go_wp2_with (first
        | (refine wpList_built rfl 26 _ rfl (ucs zeroU) built_urlZ ?_)
        | (refine store_url rfl _ _ rfl w.heap.size zeroU rfl rfl _ (row_keep HB1.out HCZ.out) HZS.out ?_)
        | fail)
      intro Wf hOf hWf
      go_wp2
      refine bodyPost_ret (ret_url2 (p := 2) (q := 3) Tryz.results39 _ _ w.heap.size zeroU (0, 0) _ rfl rfl hWf) rfl ⟨?_, HB.out.trans ((HB1.out.mono (by omega)).trans (hOf.below (Nat.le_refl _)))⟩
      rw [HV.out, HE.out]; rfl
    | true =>
      have hp := partsC_parse l hst
      rw [hp] at HV HE
      have HM2 : Hid (∀ W, Calls Tryz.prog 64 #[.string (asS l)] W fun e w' => e = .returned (.bool true) ∧ Below W.heap.size W w') := fun W => by have := HMS.out W; rw [asS_data, hst] at this; exact this
      have HCL := hid (fun W => clone_any (asS l) (by rw [asS_size]; omega) W)
      have HPT := hid (fun W h => parts_any l (by omega) (stands_asc l hst) W h)
      generalize (partsC l).1 = U at HV HPT
      generalize (partsC l).2 = ok at HV HE HPT
      generalize asS l = S at hi HM2 HCL HPT ⊢
      have HT := hid hT
      clear hb hsz HMS hst hp hT
      go_enter Tryz.func39, Tryz.ntmps39
      go_wp2_with fail
      generalize hV : w.alloc _ = V
      have HR : Hid (∃ cs, V.heap[w.heap.size]? = some (.cells cs 26 (0, 0)) ∧ cs.size = 12) := ⟨_, by rw [← hV]; exact heap_alloc_new w _, rfl⟩
      have HB : Hid (Below w.heap.size w V) := by rw [← hV]; exact alloc_below (Below.refl _ w) (Nat.le_refl _) _
      have z : w.heap.size < V.heap.size := by rw [← hV]; simp
      clear hV
      obtain ⟨CZ, hCZ, hZS⟩ := HR.out
      have HCZ := hid hCZ; have HZS := hid hZS
      clear HR hCZ hZS
      refine (HM2.out _).mono ?_
      rintro e W1 ⟨rfl, hb1⟩
      have HB1 := hid hb1
      clear hb1
      go_wp2_with fail
      refine (HCL.out _).mono ?_
      rintro e W2 ⟨rfl, hb2⟩
      have HB2 := hid (HB1.out.trans (hb2.mono HB1.out.size))
      clear hb2
      go_wp2_with fail
      refine (HPT.out _ (HT.out.below (HB.out.trans (HB2.out.mono (by omega))))).mono ?_
      rintro e W3 ⟨rfl, hb3⟩
      have HB3 := hid (HB2.out.trans (hb3.mono HB2.out.size))
      clear hb3
      go_wp2_with (first
        | (refine store_url rfl _ _ rfl W3.heap.size U rfl rfl _ (heap_alloc_new W3 _) rfl ?_)
        | fail)
      intro W4 hO4 hW4
      have HB4 : Hid (Below V.heap.size V W4) := (alloc_below HB3.out HB3.out.size _).trans (hO4.below HB3.out.size)
      have HW4 := hid hW4
      clear hO4 hW4
      cases ok with
      | false =>
        go_wp2_with (first
          | (refine wpList_built rfl 26 _ rfl (ucs zeroU) built_urlZ ?_)
          | (refine store_url rfl _ _ rfl w.heap.size zeroU rfl rfl _ (row_keep HB4.out HCZ.out) HZS.out ?_)
          | fail)
        intro Wf hOf hWf
        go_wp2
        refine bodyPost_ret (ret_url2 (p := 2) (q := 3) Tryz.results39 _ _ w.heap.size zeroU (0, 0) _ rfl rfl hWf) rfl ⟨?_, HB.out.trans ((HB4.out.mono (by omega)).trans (hOf.below (Nat.le_refl _)))⟩
        rw [HV.out, HE.out]; rfl
      | true =>
        go_wp2_with (first
          | (refine load_url rfl _ rfl W3.heap.size U rfl (0, 0) HW4.out ?_)
          | (refine store_url rfl _ _ rfl w.heap.size U rfl rfl _ (row_keep HB4.out HCZ.out) HZS.out ?_)
          | fail)
        intro Wf hOf hWf
        go_wp2
        refine bodyPost_ret (ret_url2 (p := 2) (q := 3) Tryz.results39 _ _ w.heap.size U (0, 0) _ rfl rfl hWf) rfl ⟨?_, HB.out.trans ((HB4.out.mono (by omega)).trans (hOf.below (Nat.le_refl _)))⟩
        rw [HV.out, HE.out]; rfl
theorem parseUrl_any (l : List UInt8) (hl : l.length ≤ 1000000) (w : World) (hT : TabS w) : Calls Tryz.prog 39 #[.string (asS l)] w fun e w' => e = .returned (.tuple #[.agg (ucs (puV l)), .int .i64 (puE l)]) ∧ Below w.heap.size w w' := parseUrl_all l w hT
end Go.Proofs.YtlblefcmilfjdaaGreatDoor
