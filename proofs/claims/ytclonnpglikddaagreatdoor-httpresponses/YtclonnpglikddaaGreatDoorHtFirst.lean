
/- First lines and lengths read: what readRequestLine, readResponseLine and readLengths of package http do. -/
import Derived.Test.YtclonnpglikddaaGreatDoorHtNum
import Derived.Test.YtclonnpglikddaaGreatDoorHdAll
import Derived.Test.YtclonnpglikddaaGreatDoorHdSets
namespace Go.Proofs.YtclonnpglikddaaGreatDoor
set_option linter.unusedVariables false
set_option linter.unusedSimpArgs false
open Go.RowKit Go.BigFrame

theorem loadS_eq (x : Value) : Instr.loadAt 9 x = loadI 9 x := rfl
theorem loadS_cell {w : World} {p : Addr} {s : ByteArray} (h : w.cell? p = some (.string s)) : (loadI 9 (.pointer (some p))).run Tryz.prog w = .ok (.string s) w := by
  unfold loadI
  simp [go_sem, h]
theorem loadS_re {w : World} {p : Addr} {s : ByteArray} (h : w.cell? p = some (.string s)) (d : Nat) (os : Array Obj) : (loadI 9 (.pointer (some p))).run Tryz.prog (Sort.grow (redrawn w d) os) = .ok (.string s) (Sort.grow (redrawn w d) os) :=
  loadS_cell (by rw [(below_regrown w d os).cell (block_lt_of_cell h)]; exact h)
/-- strings.Split at a blank. -/
theorem split32_any (l : List UInt8) (hl : l.length ≤ 1000000) (w : World) (hT : TabS w) : Calls Tryz.prog 66 #[.string (asS l), .string ⟨#[32]⟩] w fun e w' => e = .returned (.slice (some ⟨w.heap.size, 0, none⟩) (Lib.split l [32]).length (Lib.split l [32]).length) ∧ w'.heap[w.heap.size]? = some (.cells (stvs (Lib.split l [32])).toArray 9 (0, 0)) ∧ Below w.heap.size w w' := by
  obtain ⟨m, hm⟩ := hT.max
  have hz : (asS l).size < 4294967281 := by rw [asS_size]; omega
  refine (Tryz.strings_Split (asS l) ⟨#[32]⟩ m w hz hm (Nat.le_refl 1)).mono ?_
  rintro e w' ⟨rfl, rfl⟩
  have hd : (Lib.splitB ⟨#[32]⟩ 0 (Lib.countB (asS l) ⟨#[32]⟩) (asS l)).map (·.data.toList) = Lib.split l [32] := Lib.splitB_data _ _ _ _
  have hn : Lib.countB (asS l) ⟨#[32]⟩ + 1 = (Lib.split l [32]).length := by
    rw [← hd, List.length_map, Lib.splitB_all ⟨#[32]⟩ (Nat.le_refl 1) 0 _ (asS l) rfl]
  have hs : (Lib.splitB ⟨#[32]⟩ 0 (Lib.countB (asS l) ⟨#[32]⟩) (asS l)).map Value.string = stvs (Lib.split l [32]) := by
    rw [← hd]
    unfold stvs
    rw [List.map_map]
    refine List.map_congr_left fun x _ => ?_
    show Value.string x = Value.string (asS x.data.toList)
    rw [asS_of]
  rw [hn, hs]
  exact ⟨rfl, heap_alloc_new w _, alloc_below (Below.refl _ w) (Nat.le_refl _) _⟩
def reqM (s : List UInt8) : List UInt8 := if okReq (cutM 8 s) then (cutM 8 s).getD 0 [] else []
def reqT (s : List UInt8) : List UInt8 := if okReq (cutM 8 s) then (cutM 8 s).getD 1 [] else []
theorem stv_at {w : World} {g : Nat} {L : List (List UInt8)} {t : TypeId} {fr : Nat × Nat} (h : w.heap[g]? = some (.cells (stvs L).toArray t fr)) (j : Nat) (hj : j < L.length) : w.cell? ⟨g, j, none⟩ = some (.string (asS (L.getD j []))) := by
  rw [cell_of_row _ _ _ _ _ _ h, List.getElem?_toArray]
  exact stvs_at L j hj
theorem okReq_three (a b c : List UInt8) : okReq [a, b, c] = (tokenH a && targetM b && decide (c = verM)) := by
  unfold okReq
  simp
theorem cut_small (k : Nat) (s : List UInt8) : ∀ x ∈ cutM k s, x.length ≤ s.length := by
  induction k generalizing s with
  | zero => intro x hx; simp [cutM] at hx; subst hx; exact Nat.le_refl _
  | succ k ih =>
    intro x hx
    rcases first_dec 32 s with h | ⟨a, y, rfl, h⟩
    · rw [cut_end _ s h] at hx
      simp at hx; subst hx; exact Nat.le_refl _
    · rw [cut_step k a y h] at hx
      rcases List.mem_cons.1 hx with rfl | hx
      · simp
      · have := ih y x hx
        simp; omega
theorem split_small (s : List UInt8) (j : Nat) (h : j < (Lib.split s [32]).length) : ((Lib.split s [32]).getD j []).length ≤ s.length := by
  have e : Lib.split s [32] = cutM (Lib.count s [32]) s := split_cut _ _
  rw [e] at h ⊢
  refine cut_small (Lib.count s [32]) s _ ?_
  rw [List.getD_eq_getElem?_getD, List.getElem?_eq_getElem h]
  exact List.getElem_mem h
attribute [local go_sem ↓] loadS_eq in
set_option maxHeartbeats 2000000 in
set_option maxRecDepth 100000 in
theorem readReq_any (l : List UInt8) (hl : l.length ≤ 1000000) (w : World) (hT : TabS w) : Calls Tryz.prog 37 #[.string (asS l)] w fun e w' => e = .returned (.tuple #[.string (asS (reqM l)), .string (asS (reqT l)), .bool (okReq (cutM 8 l))]) ∧ Below w.heap.size w w' := by
  have HSP := hid (split32_any l hl w hT)
  obtain ⟨hf1, hf2⟩ := req_full l
  have HF1 := hid hf1
  have HF2 := hid hf2
  have HS3 : Hid (∀ j, j < (Lib.split l [32]).length → ((Lib.split l [32]).getD j []).length ≤ 1000000) := fun j hj => Nat.le_trans (split_small l j hj) hl
  have HM : Hid (reqM l = if okReq (cutM 8 l) then (cutM 8 l).getD 0 [] else []) := rfl
  have HTT : Hid (reqT l = if okReq (cutM 8 l) then (cutM 8 l).getD 1 [] else []) := rfl
  clear hf1 hf2
  generalize reqM l = RM at HM ⊢
  generalize reqT l = RT at HTT ⊢
  generalize cutM 8 l = C8 at HF1 HF2 HM HTT ⊢
  generalize Lib.split l [32] = L at HSP HF1 HF2 HS3
  generalize asS l = S at HSP ⊢
  by_cases h3 : L.length = 3
  · obtain ⟨p0, p1, p2, rfl⟩ : ∃ a b c, L = [a, b, c] := by
      match L, h3 with
      | [a, b, c], _ => exact ⟨a, b, c, rfl⟩
    rw [okReq_three] at HF1
    have s0 : p0.length ≤ 1000000 := HS3.out 0 (by simp)
    have s1 : p1.length ≤ 1000000 := HS3.out 1 (by simp)
    have HTK := hid (fun W => token_any p0 (by omega) W)
    have HTG := hid (fun W => isTarget_any p1 (by omega) W)
    have HC0 := hid (fun W => clone8 (asS p0) (by rw [asS_size]; omega) W)
    have HC1 := hid (fun W => clone8 (asS p1) (by rw [asS_size]; omega) W)
    have q2 := tl_eq p2 [72, 84, 84, 80, 47, 49, 46, 49]
    have HVE : Hid (decide (p2 = verM) = decide (p2 = [72, 84, 84, 80, 47, 49, 46, 49])) := rfl
    have HROW : Hid (∀ W : World, W.heap[w.heap.size]? = some (.cells (stvs [p0, p1, p2]).toArray 9 (0, 0)) → W.cell? ⟨w.heap.size, 0, none⟩ = some (.string (asS p0)) ∧ W.cell? ⟨w.heap.size, 1, none⟩ = some (.string (asS p1)) ∧ W.cell? ⟨w.heap.size, 2, none⟩ = some (.string (asS p2))) := fun W h => ⟨stv_at h 0 (by simp), stv_at h 1 (by simp), stv_at h 2 (by simp)⟩
    rw [HVE.out] at HF1
    generalize tokenH p0 = tb at HTK HF1
    generalize targetM p1 = gb at HTG HF1
    generalize decide (p2 = [72, 84, 84, 80, 47, 49, 46, 49]) = vb at q2 HF1
    have HP0 : Hid (okReq C8 = true → RM = p0 ∧ RT = p1) := fun h => by
      rw [HM.out, HTT.out, h, ← HF2.out h]; exact ⟨rfl, rfl⟩
    have HPN : Hid (okReq C8 = false → RM = [] ∧ RT = []) := fun h => by
      rw [HM.out, HTT.out, h]; exact ⟨rfl, rfl⟩
    clear HM HTT HF2 HS3 HVE
    generalize okReq C8 = ok at HF1 HP0 HPN ⊢
    rw [show ([p0, p1, p2] : List (List UInt8)).length = 3 from rfl] at HSP
    generalize hP0 : asS p0 = P0 at HTK HC0 HROW
    generalize hP1 : asS p1 = P1 at HTG HC1 HROW
    generalize asS p2 = P2 at q2 HROW
    generalize (stvs [p0, p1, p2]).toArray = ROW at HSP HROW
    have HE0 := hid hP0
    have HE1 := hid hP1
    clear hP0 hP1 s0 s1 h3 hl hT
    go_enter Tryz.func37, Tryz.ntmps37
    go_wp2_with fail
    refine HSP.out.mono ?_
    rintro e W1 ⟨rfl, hrow, hb1⟩
    obtain ⟨r0, r1, r2⟩ := HROW.out W1 hrow
    have k0 := loadS_cell r0
    have k1 := loadS_cell r1
    have k2 := loadS_cell r2
    have HB1 := hid hb1
    clear hb1 hrow HSP
    cases tb
    · have HN : Hid (ok = false) := by show _ = _; rw [← HF1.out]; rfl
      go_wp2_with fail
      refine (HTK.out _).mono ?_
      rintro e W2 ⟨rfl, rfl⟩
      go_wp2_with fail
      go_ret3
      exact ⟨by rw [(HPN.out HN.out).1, (HPN.out HN.out).2, HN.out]; rfl, HB1.out⟩
    · cases gb
      · have HN : Hid (ok = false) := by show _ = _; rw [← HF1.out]; rfl
        go_wp2_with fail
        refine (HTK.out _).mono ?_
        rintro e W2 ⟨rfl, rfl⟩
        go_wp2_with fail
        refine (HTG.out _).mono ?_
        rintro e W2 ⟨rfl, rfl⟩
        go_wp2_with fail
        go_ret3
        exact ⟨by rw [(HPN.out HN.out).1, (HPN.out HN.out).2, HN.out]; rfl, HB1.out⟩
      · cases vb
        · have HN : Hid (ok = false) := by show _ = _; rw [← HF1.out]; rfl
          go_wp2_with fail
          refine (HTK.out _).mono ?_
          rintro e W2 ⟨rfl, rfl⟩
          go_wp2_with fail
          refine (HTG.out _).mono ?_
          rintro e W2 ⟨rfl, rfl⟩
          go_wp2_with fail
          go_ret3
          exact ⟨by rw [(HPN.out HN.out).1, (HPN.out HN.out).2, HN.out]; rfl, HB1.out⟩
        · have HN : Hid (ok = true) := by show _ = _; rw [← HF1.out]; rfl
          go_wp2_with fail
          refine (HTK.out _).mono ?_
          rintro e W2 ⟨rfl, rfl⟩
          go_wp2_with fail
          refine (HTG.out _).mono ?_
          rintro e W2 ⟨rfl, rfl⟩
          go_wp2_with fail
          have c0 : REG 67 #[.string P0] W2 (.string P0) := fun d os => Calls.regrown_of (HC0.out _)
          have c1 : REG 67 #[.string P1] W2 (.string P1) := fun d os => Calls.regrown_of (HC1.out _)
          have m0 := loadS_re r0
          have m1 := loadS_re r1
          refine wp_region_quiet_below (by kernel_rfl) (by kernel_rfl) ?_
          repeat (go_big_quiet_step (first | (go_at_call_of 67 (Value.string P0); exact c0 _ _) | (go_at_call_of 67 (Value.string P1); exact c1 _ _)))
          refine wpQuiet_nil ?_
          rintro W3 ⟨⟨dq, osq⟩, hw⟩
          have HB3 : Hid (Below w.heap.size w W3) := by
            have hb3 : Below W2.heap.size W2 W3 := by rw [hw]; exact below_regrown W2 dq osq
            exact HB1.out.trans (hb3.mono HB1.out.size)
          clear hw
          go_wp2_with fail
          go_ret3
          exact ⟨by rw [(HP0.out HN.out).1, (HP0.out HN.out).2, HE0.out, HE1.out, HN.out]; rfl, HB3.out⟩
  · have hn3 : ((L.length : Int) == 3) = false := by rw [beq_eq_false_iff_ne]; omega
    have HN : Hid (okReq C8 = false) := by
      show _ = _
      rw [← HF1.out]
      unfold okReq
      rw [decide_eq_false h3]
      rfl
    have HPN : Hid (RM = [] ∧ RT = []) := by
      show _ ∧ _
      rw [HM.out, HTT.out, HN.out]; exact ⟨rfl, rfl⟩
    generalize okReq C8 = ok at HN ⊢
    clear HF1 HF2 HM HTT HS3
    generalize (stvs L).toArray = ROW at HSP
    generalize L.length = n at HSP hn3 h3
    have h3i : ¬ (n : Int) = 3 := by omega
    clear hl hT h3
    go_enter Tryz.func37, Tryz.ntmps37
    go_wp2_with fail
    refine HSP.out.mono ?_
    rintro e W1 ⟨rfl, hrow, hb1⟩
    have HB1 := hid hb1
    clear hb1 hrow HSP
    go_wp2_with fail
    go_ret3
    exact ⟨by rw [HPN.out.1, HPN.out.2, HN.out]; rfl, HB1.out⟩
end Go.Proofs.YtclonnpglikddaaGreatDoor
namespace Go.Proofs.YtclonnpglikddaaGreatDoor
set_option linter.unusedVariables false
set_option linter.unusedSimpArgs false
open Go.RowKit Go.BigFrame

theorem cut32_any (l : List UInt8) (hl : l.length ≤ 1000000) (w : World) (hT : TabS w) : Calls Tryz.prog 77 #[.string (asS l), .string ⟨#[32]⟩] w fun e w' => e = .returned (.tuple #[.string (asS (Lib.cut l [32]).1), .string (asS (Lib.cut l [32]).2.1), .bool (Lib.cut l [32]).2.2]) ∧ Below w.heap.size w w' := by
  obtain ⟨m, hm⟩ := hT.max
  refine (Tryz.strings_Cut (asS l) ⟨#[32]⟩ m w (by rw [asS_size]; omega) hm).mono ?_
  rintro e w' ⟨rfl, n, rfl⟩
  exact ⟨rfl, below_drewN _ _ _⟩
theorem cutVer_any (l : List UInt8) (w : World) : Calls Tryz.prog 76 #[.string (asS l), .string ⟨#[72, 84, 84, 80, 47, 49, 46, 49, 32]⟩] w fun e w' => e = .returned (.tuple #[.string (asS (restM l)), .bool (versB l)]) ∧ w' = w := by
  refine (Tryz.strings_CutPrefix (asS l) ⟨#[72, 84, 84, 80, 47, 49, 46, 49, 32]⟩ w).mono ?_
  rintro e w' ⟨rfl, rfl⟩
  exact ⟨rfl, rfl⟩
theorem rest_len (l : List UInt8) : (restM l).length ≤ l.length := by
  unfold restM Lib.trimPrefix
  split
  · simp
  · exact Nat.le_refl _
theorem dig_len (l : List UInt8) : (digM l).length ≤ l.length ∧ (reaM l).length ≤ l.length := by
  have h := rest_len l
  unfold digM reaM Lib.cut
  split
  · refine ⟨?_, ?_⟩
    · simp only [List.length_take]; omega
    · simp only [List.length_drop]; omega
  · exact ⟨h, by simp⟩
def resS (l : List UInt8) : Int := if lineB l then (valD (digM l) : Int) else 0
def resR (l : List UInt8) : List UInt8 := if lineB l then reaM l else []
set_option maxHeartbeats 2000000 in
set_option maxRecDepth 100000 in
theorem readRes_any (l : List UInt8) (hl : l.length ≤ 1000000) (w : World) (hT : TabC w) : Calls Tryz.prog 47 #[.string (asS l)] w fun e w' => e = .returned (.tuple #[.int .i64 (resS l), .string (asS (resR l)), .bool (lineB l)]) ∧ Below w.heap.size w w' := by
  obtain ⟨hd, hr⟩ := dig_len l
  have HCP := hid (fun W => cutVer_any l W)
  have HCU : Hid (∀ W, TabS W → Calls Tryz.prog 77 #[.string (asS (restM l)), .string ⟨#[32]⟩] W fun e w' => e = .returned (.tuple #[.string (asS (digM l)), .string (asS (reaM l)), .bool (Lib.cut (restM l) [32]).2.2]) ∧ Below W.heap.size W w') := fun W hW => cut32_any (restM l) (Nat.le_trans (rest_len l) hl) W hW
  have HNU := hid (fun W hW => readNumber_any (digM l) 3 3 rfl (by decide) (by omega) W hW)
  have HRE := hid (fun W => isReason_any (reaM l) (by omega) W)
  have HCL := hid (fun W => clone8 (asS (reaM l)) (by rw [asS_size]; omega) W)
  have HLB : Hid (lineB l = (versB l && numB 3 (digM l) && decide (100 ≤ valD (digM l) ∧ valD (digM l) ≤ 599) && reasonB (reaM l))) := rfl
  have HNV : Hid (numV 3 (digM l) = if numB 3 (digM l) then (valD (digM l) : Int) else 0) := rfl
  have HS : Hid (resS l = if lineB l then (valD (digM l) : Int) else 0) := rfl
  have HR : Hid (asS (resR l) = if lineB l then asS (reaM l) else ⟨#[]⟩) := by
    show _ = _
    unfold resR
    cases lineB l <;> rfl
  have HT := hid hT
  clear hd hr hT hl
  generalize (Lib.cut (restM l) [32]).2.2 = b3 at HCU
  generalize asS (restM l) = SR at HCP HCU
  generalize asS (digM l) = SD at HCU HNU
  generalize asS (resR l) = RR at HR ⊢
  generalize asS (reaM l) = SE at HCU HRE HCL HR
  generalize resS l = RS at HS ⊢
  generalize lineB l = LB at HLB HS HR ⊢
  generalize versB l = vb at HCP HLB
  generalize numV 3 (digM l) = NV at HNU HNV
  generalize numB 3 (digM l) = nb at HNU HNV HLB
  generalize reasonB (reaM l) = rb at HRE HLB
  generalize valD (digM l) = V at HLB HNV HS
  generalize asS l = S at HCP ⊢
  have HF : Hid (LB = false → RS = 0 ∧ RR = ⟨#[]⟩) := fun h => by rw [HS.out, HR.out, h]; exact ⟨rfl, rfl⟩
  have HG : Hid (LB = true → RS = (V : Int) ∧ RR = SE) := fun h => by rw [HS.out, HR.out, h]; exact ⟨rfl, rfl⟩
  clear HS HR
  go_enter Tryz.func47, Tryz.ntmps47
  go_wp2_with fail
  refine (HCP.out _).mono ?_
  rintro e W1 ⟨rfl, rfl⟩
  go_wp2_with fail
  refine (HCU.out _ HT.out.tab).mono ?_
  rintro e W2 ⟨rfl, hb2⟩
  have HB2 := hid hb2
  clear hb2
  go_wp2_with fail
  refine (HNU.out _ (HT.out.below HB2.out)).mono ?_
  rintro e W3 ⟨rfl, hb3⟩
  have HB3 := hid (HB2.out.trans (hb3.mono HB2.out.size))
  clear hb3
  cases vb
  · have HN : Hid (LB = false) := by show _ = _; rw [HLB.out]; rfl
    go_wp2_with fail
    go_ret3
    exact ⟨by rw [(HF.out HN.out).1, (HF.out HN.out).2, HN.out]; rfl, HB3.out⟩
  cases nb
  · have HN : Hid (LB = false) := by show _ = _; rw [HLB.out]; rfl
    go_wp2_with fail
    go_ret3
    exact ⟨by rw [(HF.out HN.out).1, (HF.out HN.out).2, HN.out]; rfl, HB3.out⟩
  have hnv : NV = (V : Int) := by rw [HNV.out]; rfl
  subst hnv
  by_cases h1 : (V : Int) < 100
  · have HN : Hid (LB = false) := by show _ = _; rw [HLB.out, decide_eq_false (by omega)]; rfl
    go_wp2_with fail
    go_ret3
    exact ⟨by rw [(HF.out HN.out).1, (HF.out HN.out).2, HN.out]; rfl, HB3.out⟩
  by_cases h2 : (599 : Int) < (V : Int)
  · have HN : Hid (LB = false) := by show _ = _; rw [HLB.out, decide_eq_false (by omega)]; rfl
    go_wp2_with fail
    go_ret3
    exact ⟨by rw [(HF.out HN.out).1, (HF.out HN.out).2, HN.out]; rfl, HB3.out⟩
  have HQ : Hid (LB = rb) := by show _ = _; rw [HLB.out, decide_eq_true (by omega)]; rfl
  cases rb
  · go_wp2_with fail
    refine (HRE.out _).mono ?_
    rintro e W4 ⟨rfl, rfl⟩
    go_wp2_with fail
    go_ret3
    exact ⟨by rw [(HF.out HQ.out).1, (HF.out HQ.out).2, HQ.out]; rfl, HB3.out⟩
  · go_wp2_with fail
    refine (HRE.out _).mono ?_
    rintro e W4 ⟨rfl, rfl⟩
    go_wp2_with fail
    refine (HCL.out _).mono ?_
    rintro e W5 ⟨rfl, hb5⟩
    have HB5 := hid (HB3.out.trans (hb5.mono HB3.out.size))
    clear hb5
    go_wp2_with fail
    go_ret3
    exact ⟨by rw [(HG.out HQ.out).1, (HG.out HQ.out).2, HQ.out]; rfl, HB5.out⟩
end Go.Proofs.YtclonnpglikddaaGreatDoor
namespace Go.Proofs.YtclonnpglikddaaGreatDoor
set_option linter.unusedVariables false
set_option linter.unusedSimpArgs false
open Go.RowKit Go.BigFrame

theorem same_no (L : List (List UInt8)) (k : Nat) (hk : k < L.length) (h : L.getD k [] ≠ L.getD 0 []) : sameB L = false := by
  rw [Bool.eq_false_iff]
  intro hs
  unfold sameB at hs
  have := List.all_eq_true.1 hs (L.getD k []) (by rw [List.getD_eq_getElem?_getD, List.getElem?_eq_getElem hk]; exact List.getElem_mem hk)
  have e : L.headD [] = L.getD 0 [] := by cases L <;> rfl
  rw [e] at this
  exact h (of_decide_eq_true this)
theorem same_yes (L : List (List UInt8)) (k : Nat) (hk : L.length ≤ k) (h : ∀ j, j < k → L.getD j [] = L.getD 0 []) : sameB L = true := by
  unfold sameB
  refine List.all_eq_true.2 fun x hx => ?_
  obtain ⟨j, hj, rfl⟩ := List.mem_iff_getElem.1 hx
  have e : L.headD [] = L.getD 0 [] := by cases L <;> rfl
  rw [e]
  have := h j (by omega)
  rw [List.getD_eq_getElem?_getD, List.getElem?_eq_getElem hj] at this
  exact decide_eq_true this
def lenB (L : List (List UInt8)) : Bool := sameB L && numB 8 (L.getD 0 [])
def lenV (L : List (List UInt8)) : Int := if lenB L then (valD (L.getD 0 []) : Int) else 0
set_option maxHeartbeats 2000000 in
set_option maxRecDepth 100000 in
theorem readLens_any (L : List (List UInt8)) (A : Option Addr) (c : Nat) (hl : L.length ≤ 1000000) (hne : 0 < L.length) (hs : (L.getD 0 []).length ≤ 1000000) (w : World) (hT : TabC w) (hA : StrsAt w A L) : Calls Tryz.prog 73 #[.slice A L.length c] w fun e w' => e = .returned (.tuple #[.int .i64 (lenV L), .bool (lenB L)]) ∧ Below w.heap.size w w' := by
  have HNU := hid (readNumber_any (L.getD 0 []) 8 8 rfl (by decide) hs w hT)
  obtain ⟨q, o, hq, hqs, hcs⟩ := hA hne
  subst hq
  have HC := hid hcs
  have h0 := hcs 0 hne
  rw [Nat.add_zero] at h0
  have HV : Hid (lenB L = false → lenV L = 0) := fun h => by unfold lenV; rw [h]; rfl
  have HB0 : Hid (sameB L = false → lenB L = false) := fun h => by unfold lenB; rw [h]; rfl
  have HB1 : Hid (sameB L = true → lenB L = numB 8 (L.getD 0 []) ∧ lenV L = numV 8 (L.getD 0 [])) := fun h => by
    unfold lenV lenB numV; rw [h]; exact ⟨rfl, rfl⟩
  have HNO := hid (same_no L)
  have HYE := hid (same_yes L)
  clear hcs hqs hT hA hs
  generalize lenB L = RB at HV HB0 HB1 ⊢
  generalize lenV L = RV at HV HB1 ⊢
  generalize hn : L.length = n at hl hne HC HNO HYE ⊢
  have HD : Hid (asS (L.getD 0 []) = asS (L.getD 0 [])) := rfl
  generalize hd : L.getD 0 [] = d at HNU h0 HB1 HNO HYE
  generalize hD : asS d = D at HNU h0
  have HDE := hid hD
  clear hn HD hd hD
  have hn0 : (0 : Int) < (n : Int) := by omega
  clear hne
  go_enter Tryz.func73, Tryz.ntmps73
  go_wp2_with fail
  go_loop [8] (fun i => ∃ k : Nat, k ≤ n ∧ i = .int .i64 (k : Int) ∧ Hid (∀ j, j < k → L.getD j [] = d)) (fun i => n - (intOf i).toNat)
  case atStart => exact ⟨0, Nat.zero_le _, rfl, fun j hj => by omega⟩
  case round =>
    obtain ⟨k, hk, rfl, HP⟩ := hrel
    by_cases hlt : k < n
    · have hi : (k : Int) < (n : Int) := by omega
      have hkc := HC.out k hlt
      by_cases hx : L.getD k [] = d
      · rw [hx, HDE.out] at hkc
        have HS : Hid (∀ j, j < k + 1 → L.getD j [] = d) := fun j hj => by
          rcases Nat.lt_succ_iff_lt_or_eq.1 hj with h1 | rfl
          · exact HP.out j h1
          · exact hx
        clear hx
        go_wp2_with fail
        go_round
        case rel => exact ⟨k + 1, by omega, by go_num, HS⟩
        case measure => simp [intOf]; omega
      · have HF := hid (HB0.out (HNO.out k hlt hx))
        have hxx := tl_two (L.getD k []) d
        rw [decide_eq_false hx, HDE.out] at hxx
        clear hx
        generalize asS (L.getD k []) = X at hkc hxx
        go_wp2_with fail
        go_ret2
        exact ⟨by rw [HV.out HF.out, HF.out]; rfl, Below.refl _ _⟩
    · have hi : ¬ (k : Int) < (n : Int) := by omega
      have HY := hid (HB1.out (HYE.out k (by omega) HP.out))
      clear HC
      go_wp2_with fail
      refine HNU.out.mono ?_
      rintro e W2 ⟨rfl, hb2⟩
      have HB2 := hid hb2
      clear hb2
      go_wp2_with fail
      go_ret2
      exact ⟨by rw [HY.out.1, HY.out.2]; rfl, HB2.out⟩
end Go.Proofs.YtclonnpglikddaaGreatDoor
