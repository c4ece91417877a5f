
/- The law BlockOwns. -/
import Derived.Test.YtkjpdfcemdhnpaaBlDump
namespace Go.Proofs.Ytkjpdfcemdhnpaa
set_option linter.unusedVariables false
set_option linter.unusedSimpArgs false
open Go.RowKit Go.BigFrame
theorem dumpB {w0 w : World} {F N L n : Nat} {S : Bool} {k t : Int} {O : Bool} {B : List UInt8} {W : List WrB} (h : FilB w0 F N L n S k t O B W w) : Calls Try.prog 15 #[.pointer (some ⟨F, 0, none⟩)] w fun x w' => DumpP (foldB B W) n w x w' := by
  obtain ⟨wv, h1, -⟩ := h
  exact dump_any F N L n wv S k t O B W w h1
theorem FilB.only {w0 w w' : World} {F N L n R : Nat} {S : Bool} {k t : Int} {O : Bool} {B : List UInt8} {W : List WrB} (h : FilB w0 F N L n S k t O B W w) (ho : Only R w w') (hR : ∀ wv, Fil F N L n wv S k t O B W w → F < R ∧ N < R ∧ L < R ∧ ∀ q, blk wv = some q → q ≠ R) (h0 : w0.heap.size ≤ R) : FilB w0 F N L n S k t O B W w' := by
  obtain ⟨wv, h1, h2, h3⟩ := h
  obtain ⟨a, b, c, d⟩ := hR wv h1
  exact ⟨wv, Fil.only h1 ho a b c d, h2.trans (ho.below h0), h3⟩
theorem FilB.ge {w0 w : World} {F N L n : Nat} {S : Bool} {k t : Int} {O : Bool} {B : List UInt8} {W : List WrB} (h : FilB w0 F N L n S k t O B W w) : Below w0.heap.size w0 w ∧ w0.heap.size ≤ w.heap.size := by
  obtain ⟨wv, h1, h2, h3⟩ := h
  exact ⟨h2, h2.size⟩
/-- What a file lies in was there at w1. -/
theorem fil_apart {w0 w1 w : World} {F N L n g : Nat} {S : Bool} {k t : Int} {O : Bool} {B : List UInt8} {W : List WrB} (h1 : FilB w0 F N L n S k t O B W w1) (hb : Below w1.heap.size w1 w) (hg : w1.heap.size ≤ g) (w' : World) (ho : Only g w w') : FilB w0 F N L n S k t O B W w' := by
  obtain ⟨wv, a1, a2, a3⟩ := h1
  have hl := a1.lt
  have h2 := a1.below hb
  refine ⟨wv, Fil.only h2 ho (by omega) (by omega) (by omega) (fun q e => ?_), (a2.trans (hb.mono a2.size)).trans (ho.below (Nat.le_trans a2.size hg)), a3⟩
  have := (a1.ws.blk_P q e).2
  omega
theorem step_gG0 {ops : Array Oper} {o : Oper} {a : Act} {w : World} {K : Act → World → Prop} {Q : Exit → Act → World → Prop} {E : Prop} (hw : Region.wanted o (yielded ops a.tmps) = true) (f : FuncId) (ts : Array TypeId)
    (ho : o.op = .call { callee := .value (.func f), args := #[], argTypes := ts }) (eg : ∀ args w, (callFunc f args).run Try.prog w = .ok (.enter f args) w)
    {R : Value → World → Prop} (hc : Calls Try.prog f #[] w fun e w' => ∃ v, e = .returned v ∧ R v w') (h : ∀ v w', R v w' → K (a.put o.dst v) w') :
    if Region.wanted o (yielded ops a.tmps) = true then Oper.wp Try.prog o a w K Q else E :=
  step_gG hw f #[] ts ho eg #[] (by simp) hc h
set_option maxHeartbeats 8000000 in
set_option maxRecDepth 100000 in
theorem owns_law (n : Int) (X : Int) (w : World) (hX : (Lit.int .u8 X).wf = true) : Calls Try.prog 6 #[.int .i64 n, .int .u8 X] w fun e w' => e = .returned (.bool true) ∧ Below w.heap.size w w' := by
  obtain ⟨c, rfl⟩ : ∃ c : UInt8, X = (c.toNat : Int) := ⟨UInt8.ofNat X.toNat, by have := bounds_u8 hX; rw [UInt8.toNat_ofNat']; omega⟩
  clear hX
  by_cases hn : 1 ≤ n ∧ n ≤ 4096
  · obtain ⟨m, rfl⟩ : ∃ m : Nat, n = (m : Int) := ⟨n.toNat, by omega⟩
    have i1 : ¬ (m : Int) < 1 := by omega
    have i2 : ¬ (4096 : Int) < (m : Int) := by omega
    have HNW := hid (newB m (by omega) (by omega) w)
    have hm1 : 1 ≤ m := by omega
    have hm2 : m ≤ 4096 := by omega
    have hw64 : wrap64 (64 * (m : Int)) = 64 * (m : Int) := by unfold wrap64; omega
    have HE20 := hid (enters_of Try.func20 (by kernel_rfl) rfl)
    have HE9 := hid (enters_of Try.func9 (by kernel_rfl) rfl)
    have HFL := hid (fun W => filled_any c W)
    obtain ⟨X, hX⟩ : ∃ X : Int, X = (c.toNat : Int) := ⟨_, rfl⟩
    have HXX := hid hX
    rw [← hX] at HFL ⊢
    clear hn hX
    go_enter Try.func6, Try.ntmps6
    go_wp2_with fail
    refine HNW.out.mono ?_
    rintro x W1 ⟨F, N, L, rfl, hf⟩
    have HF1 := hid hf
    have HC1 := hid (HFL.out W1)
    clear hf HNW
    go_wp2_with fail
    refine HC1.out.mono ?_
    rintro x W2 ⟨g1, rfl, -, hg, hb⟩
    have HW2 := hid (writeB (HF1.out.below hb) (by decide) (by decide) 0 (by omega) (filB c) g1 hg (filB_len c))
    clear hg hb HC1 HF1
    go_wp2_with fail
    refine HW2.out.mono ?_
    rintro x W3 ⟨rfl, hf⟩
    have HF3 := hid hf
    have HR3 := hid (readB hf 0 (by omega))
    clear hf HW2
    go_wp2_with fail
    refine HR3.out.mono ?_
    rintro x W4 ⟨g, rfl, hge, hg, hb⟩
    have HG4 := hid hg
    have HB4 := hid hb
    have hz : (blkB (foldB (zer (64 * m)) ([] ++ [(0, filB c)])) 0).length = 64 := blkB_len (n := m) (foldB_len _ _ (zer_len _) (fun q hq => by rw [List.nil_append, List.mem_singleton] at hq; subst hq; exact ⟨by omega, Nat.le_of_eq (filB_len c)⟩)) (by omega)
    have HRC : Hid (blkB (foldB (zer (64 * m)) ([] ++ [(0, filB c)])) 0 = filB c) := by
      show _ = _
      rw [List.nil_append, show foldB (zer (64 * m)) [(0, filB c)] = putB (zer (64 * m)) (64 * 0) (filB c) from rfl, blkB_put (filB_len c) (by rw [zer_len]; omega)]
    obtain ⟨v5, h5⟩ : ∃ v5 : UInt8, W4.cell? ⟨g, 5, none⟩ = some (.int .u8 v5.toNat) := ⟨_, by rw [cell_of_row _ _ _ _ _ _ hg]; exact bcs_at _ 5 (by rw [hz]; decide)⟩
    have hsz : (bcs (blkB (foldB (zer (64 * m)) ([] ++ [(0, filB c)])) 0)).size = 64 := by rw [bcs_size, hz]
    have HSZ := hid hsz
    have HV5 := hid (rfl : (0:Nat) = 0)
    clear hg hb HR3 hz hsz
    generalize (v5.toNat : Int) = V5 at h5
    go_wp2_with (first
      | (refine store_part rfl 5 _ _ rfl g 5 (.int .u8 (IntKind.u8.wrap (V5 + 1))) _ _ _ rfl rfl size5 (by rw [HSZ.out]; decide) rfl rfl HG4.out rfl ?_; intro W5 ho hr; have HF5 := hid (fil_apart HF3.out HB4.out hge _ ho); clear ho hr)
      | fail)
    have HD5 := hid (dumpB HF5.out)
    clear h5 HG4 HB4 HSZ HF3
    refine HD5.out.mono ?_
    rintro x W6 ⟨gd, rfl, hge, hg, hb⟩
    have HG6 := hid hg
    have HB6 := hid hb
    have hzl : (foldB (zer (64 * m)) ([] ++ [(0, filB c)])).length = 64 * m := foldB_len _ _ (zer_len _) (fun q hq => by rw [List.nil_append, List.mem_singleton] at hq; subst hq; exact ⟨by omega, Nat.le_of_eq (filB_len c)⟩)
    obtain ⟨v6, h6⟩ : ∃ v6 : UInt8, W6.cell? ⟨gd, 6, none⟩ = some (.int .u8 v6.toNat) := ⟨_, by rw [cell_of_row _ _ _ _ _ _ hg]; exact bcs_at _ 6 (by rw [hzl]; omega)⟩
    have HSD : Hid ((bcs (foldB (zer (64 * m)) ([] ++ [(0, filB c)]))).size = 64 * m) := by show _ = _; rw [bcs_size, hzl]
    have i6 : (6 : Int) < 64 * (m : Int) := by omega
    clear hg hb HD5 hzl
    generalize (v6.toNat : Int) = V6 at h6
    go_wp2_with (first
      | (refine store_part rfl 5 _ _ rfl gd 6 (.int .u8 (IntKind.u8.wrap (V6 + 1))) _ _ _ rfl rfl size5 (by rw [HSD.out]; omega) rfl rfl HG6.out rfl ?_; intro W7 ho hr; have HF7 := hid (fil_apart HF5.out HB6.out hge _ ho); clear ho hr)
      | fail)
    have HR7 := hid (readB HF7.out 0 (by omega))
    clear h6 HG6 HB6 HSD HF5
    refine HR7.out.mono ?_
    rintro x W8 ⟨g3, rfl, -, hg, hb⟩
    rw [HRC.out] at hg
    have HG8 := hid hg
    have HB8 : Hid (Below w.heap.size w W8) := HF7.out.ge.1.trans (hb.mono HF7.out.ge.2)
    have hcv : (convert 22 9 (.slice (some ⟨g3, 0, none⟩) 64 64)).run Try.prog W8.drew = .ok (.string ⟨(filB c).toArray⟩) W8.drew := str_row (BytesAt.of_row (w := W8.drew) hg) (filB_len c)
    have HFC : Hid (Calls Try.prog 20 #[.int .u8 X] W8.drew fun x w' => ∃ v, x = .returned v ∧ ∃ g, v = .slice (some ⟨g, 0, none⟩) 64 64 ∧ w'.heap[g]? = some (.cells (bcs (filB c)) 5 (0, 0)) ∧ Below W8.drew.heap.size W8.drew w') := (HFL.out _).mono (fun x w' hh => by obtain ⟨g, h1, h2, h3, h4⟩ := hh; exact ⟨_, h1, g, rfl, h3, h4⟩)
    have HB8d : Hid (Below w.heap.size w W8.drew) := HB8.out.trans (((Below.refl _ _).drew).mono HB8.out.size)
    clear hg hb HR7 HF7
    go_wp2_with fail
    go_region_law ((first
      | (refine step_gG1 (by rfl) 20 _ _ (by rfl) HE20.out (.int .u8 X) (by rfl) HFC.out ?_; intro v1 w1 ha; obtain ⟨g4, rfl, hg4, hb4⟩ := ha; have hc1 : (convert 22 9 (.slice (some ⟨g3, 0, none⟩) 64 64)).run Try.prog w1 = .ok (.string ⟨(filB c).toArray⟩) w1 := str_row (BytesAt.of_row (row_keep hb4 HG8.out)) (filB_len c); have hc2 : (convert 22 9 (.slice (some ⟨g4, 0, none⟩) 64 64)).run Try.prog w1 = .ok (.string ⟨(filB c).toArray⟩) w1 := str_row (BytesAt.of_row hg4) (filB_len c); have HB1 := hid (HB8d.out.trans (hb4.mono HB8d.out.size)); have HAW : Hid (Calls Try.prog 9 #[] w1 fun x w' => ∃ v, x = .returned v ∧ (v = .bool true ∧ Below w1.heap.size w1 w')) := (awake_any w1).mono (fun x w' hh => ⟨_, hh.1, rfl, hh.2⟩); clear hg4 hb4)
      | (refine step_gG0 (by rfl) 9 _ (by rfl) HE9.out HAW.out ?_; intro v2 w2 hb; obtain ⟨rfl, hb⟩ := hb; have HB2 := hid (HB1.out.trans (hb.mono HB1.out.size)); clear hb)
      | fail))
    all_goals
      go_wp2_with fail
      go_ret
      exact ⟨rfl, HB2.out⟩
  · have HNW : Hid (Calls Try.prog 17 #[.int .i64 n] w fun x w' => x = .returned (.tuple #[.pointer none, .int .i64 1]) ∧ Below w.heap.size w w') := (new_any n w).mono fun x w' hh => ⟨hh.1 hn, hh.2.2⟩
    by_cases i1 : n < 1
    · clear hn
      go_enter Try.func6, Try.ntmps6
      go_wp2_with fail
      refine HNW.out.mono ?_
      rintro x W1 ⟨rfl, hb⟩
      have HB1 := hid hb
      have HA := hid (awake_any W1)
      clear hb HNW
      go_wp2_with fail
      refine HA.out.mono ?_
      rintro x W2 ⟨rfl, hb⟩
      have HB2 := hid (HB1.out.trans (hb.mono HB1.out.size))
      clear hb HA
      go_wp2_with fail
      go_ret
      exact ⟨rfl, HB2.out⟩
    · have i2 : (4096 : Int) < n := by omega
      clear hn
      go_enter Try.func6, Try.ntmps6
      go_wp2_with fail
      refine HNW.out.mono ?_
      rintro x W1 ⟨rfl, hb⟩
      have HB1 := hid hb
      have HA := hid (awake_any W1)
      clear hb HNW
      go_wp2_with fail
      refine HA.out.mono ?_
      rintro x W2 ⟨rfl, hb⟩
      have HB2 := hid (HB1.out.trans (hb.mono HB1.out.size))
      clear hb HA
      go_wp2_with fail
      go_ret
      exact ⟨rfl, HB2.out⟩
theorem owns_lawC (n X : Int) (w : World) (_ : (Lit.int .i64 n).wf = true) (hX : (Lit.int .u8 X).wf = true) : Calls Try.prog 6 #[.int .i64 n, .int .u8 X] w fun e w' => e = .returned (.bool true) ∧ Below w.heap.size w w' := owns_law n X w hX
end Go.Proofs.Ytkjpdfcemdhnpaa
