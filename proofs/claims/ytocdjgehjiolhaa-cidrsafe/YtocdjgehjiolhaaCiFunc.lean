
/- What cidr.holds, mayNotBe, the library's IndexFunc and ContainsFunc at nets, and cidr.among do. -/
import Derived.Test.YtocdjgehjiolhaaCiChk
namespace Go.Proofs.Ytocdjgehjiolhaa
open Go.RowKit Go.BigFrame
attribute [local go_sem ↓] loadA_eq

set_option maxHeartbeats 1000000 in
theorem holds_any (n : NetV) (hB : n.B.length = 16) (h0 : 0 ≤ n.k) (h1 : n.k ≤ 128) (u : Bool) (C : List UInt8) (hC : C.length = 16) (w : World) : Calls Try.prog 22 #[.agg (ncs n), .agg (acs u C)] w fun e w' => e = .returned (.bool (holdV n u C)) ∧ Below w.heap.size w w' := by
  have HF : Hid (∀ W, Calls Try.prog 36 #[.agg (acs u C), .int .i64 n.k] W fun e w' => e = .returned (.agg (acs u (firstB C (offB u + n.k.toNat)))) ∧ Below W.heap.size W w') := fun W => by
    have := first_any u C hC n.k.toNat (by omega) W
    rwa [Int.toNat_of_nonneg h0] at this
  have q1 := fun W => eqV u n.v (firstB C (offB u + n.k.toNat)) n.B (firstB_len _ _) hB (holdV n u C) rfl W
  have hg := guardA
  have HLN : Hid (∀ {W : World} {g : Nat}, W.heap[g]? = some (.cells (ncs n) 26 (0, 0)) → LDA W g (acs n.v n.B)) := fun h => loadNA_re hB h
  have HLA : Hid (∀ {W : World} {g : Nat}, W.heap[g]? = some (.cells (acs u C) 24 (0, 0)) → LDA W g (acs u C)) := fun h d os => loadA_re hC h d os
  have HBI := hid (ncs_bits n hB)
  generalize acs u (firstB C (offB u + n.k.toNat)) = FX at HF q1
  generalize acs n.v n.B = NX at q1 HLN
  generalize acs u C = AX at HF HLA ⊢
  generalize holdV n u C = t at q1 ⊢
  generalize ncs n = X at HLN HBI ⊢
  generalize n.k = k at HF HBI
  go_enter Try.func22, Try.ntmps22
  go_wp2_with fail
  obtain ⟨V, hV⟩ : ∃ V, V = (w.alloc (Obj.cells X 26)).alloc (Obj.cells AX 24) := ⟨_, rfl⟩
  have HR : Hid (V.heap[w.heap.size]? = some (.cells X 26 (0, 0))) := by rw [hV]; exact (Below.heap_alloc _ _ _ (by simp)).trans (heap_alloc_new w _)
  have HR2 : Hid (V.heap[w.heap.size + 1]? = some (.cells AX 24 (0, 0))) := by rw [hV, ← sz_alloc w (Obj.cells X 26)]; exact heap_alloc_new _ _
  have HB : Hid (Below w.heap.size w V) := by rw [hV]; exact alloc_below (alloc_below (Below.refl _ w) (Nat.le_refl _) _) (by simp) _
  have hz : w.heap.size < V.heap.size := by rw [hV]; simp; omega
  rw [← hV]
  clear hV
  have k0 := cell_regrown (w := V) (a := ⟨w.heap.size, 17, none⟩) (v := .int .i64 k) (by rw [cell_of_row _ _ _ _ _ _ HR.out]; exact HBI.out)
  have k1 := HLN.out HR.out
  have k2 := HLA.out HR2.out
  have c1 : REG 36 #[.agg AX, .int .i64 k] V (.agg FX) := fun d os => Calls.regrown_of (HF.out _)
  refine wp_region_quiet_below (by kernel_rfl) (by kernel_rfl) ?_
  repeat (go_big_quiet_step (first | (go_at_call 36; exact c1 _ _)))
  refine wpQuiet_nil ?_
  rintro W9 ⟨⟨dq, osq⟩, hw⟩
  have HB9 : Hid (Below V.heap.size V W9) := by rw [hw]; exact below_regrown V dq osq
  clear hw k0 k1 k2 c1 q1 hg
  go_wp2_with fail
  go_ret
  exact ⟨rfl, HB.out.trans (HB9.out.mono (by omega))⟩

set_option maxHeartbeats 1000000 in
theorem mayNot_any (n : NetV) (hB : n.B.length = 16) (w : World) : Calls Try.prog 25 #[.agg (ncs n)] w fun e w' => e = .returned (.bool (!mayV n)) ∧ Below w.heap.size w w' := by
  have HC := hid (fun W => check_net n hB W)
  have HLD : Hid (∀ {W : World} {ops : Array Oper} {rest : List Oper} {op : Oper} {a : Act} {Q : Exit → Act → World → Prop}, op.guard = none → ∀ (x : Operand), op.op = .load 26 x → ∀ b, a.eval x = .pointer (some ⟨b, 0, none⟩) → W.heap[b]? = some (.cells (ncs n) 26 (0, 0)) → wpList Try.prog ops Q rest (a.put op.dst (.agg (ncs n))) W → wpList Try.prog ops Q (op :: rest) a W) := fun h1 x h2 b h3 h4 h5 => load_net h1 x h2 b n hB h3 (0, 0) h4 h5
  generalize ncs n = X at HC HLD ⊢
  generalize mayV n = m at HC ⊢
  go_enter Try.func25, Try.ntmps25
  go_wp2_with (first
    | (refine HLD.out rfl _ rfl w.heap.size rfl (heap_alloc_new w _) ?_)
    | fail)
  refine (HC.out _).mono ?_
  rintro e W1 ⟨rfl, hb1⟩
  have HB := hid (row1 hb1).2.1
  clear hb1
  cases m
  · go_wp2_with fail
    go_ret
    exact ⟨rfl, HB.out⟩
  · go_wp2_with fail
    go_ret
    exact ⟨rfl, HB.out⟩

/-- The nets of a slice. -/
def NetsAt (w : World) (s : Value) (l : List NetV) : Prop := (l = [] ∧ ∃ P c, s = .slice P 0 c) ∨ ∃ b off c, s = .slice (some ⟨b, off, none⟩) l.length c ∧ b < w.heap.size ∧ ∀ j n, l[j]? = some n → w.rangeAt b (off + j * 18) (nvs n)
theorem NetsAt.below {w w' : World} {s : Value} {l : List NetV} {B : Nat} (h : NetsAt w s l) (hb : Below B w w') (hB : w.heap.size ≤ B) : NetsAt w' s l := by
  rcases h with h | ⟨b, off, c, h1, h2, h3⟩
  · exact .inl h
  · exact .inr ⟨b, off, c, h1, Nat.lt_of_lt_of_le h2 hb.size, fun j n hn i v hv => (hb.cell (p := ⟨b, off + j * 18 + i, none⟩) (Nat.lt_of_lt_of_le h2 hB)).trans (h3 j n hn i v hv)⟩
/-- What is asked of a test of nets: its value, at every net of a list, wherever what was there stands. -/
def PredN (f : Nat) (lb : Array Value) (p : NetV → Bool) (l : List NetV) (V : World) : Prop := ∀ n ∈ l, ∀ W, Below V.heap.size V W → Calls Try.prog f (#[.agg (ncs n)] ++ lb) W fun e w' => e = .returned (.bool (p n)) ∧ Below W.heap.size W w'
end Go.Proofs.Ytocdjgehjiolhaa
namespace Go.Proofs.Ytocdjgehjiolhaa
open Go.RowKit Go.BigFrame
attribute [local go_sem ↓] loadA_eq loadN_eq

/-- The first net of which p holds; -1: none. -/
def idxN (p : NetV → Bool) (l : List NetV) : Int := match l.findIdx? p with
  | some j => (j : Int)
  | none => -1
theorem idxN_hit (p : NetV → Bool) (l : List NetV) (k : Nat) (n : NetV) (hn : l[k]? = some n) (hp : p n = true) (hb : (l.take k).any p = false) : idxN p l = (k : Int) := by
  have : l.findIdx? p = some k := by
    rw [List.findIdx?_eq_some_iff_getElem]
    have hk : k < l.length := (List.getElem?_eq_some_iff.1 hn).1
    refine ⟨hk, ?_, fun j hj => ?_⟩
    · rw [(List.getElem?_eq_some_iff.1 hn).2]; exact hp
    · have := List.any_eq_false.1 hb l[j] (by
        rw [List.mem_take_iff_getElem]
        exact ⟨j, by omega, rfl⟩)
      simpa using this
  unfold idxN
  rw [this]
theorem idxN_miss (p : NetV → Bool) (l : List NetV) (hb : l.any p = false) : idxN p l = -1 := by
  have : l.findIdx? p = none := by
    rw [List.findIdx?_eq_none_iff]
    intro x hx
    have := List.any_eq_false.1 hb x hx
    simpa using this
  unfold idxN
  rw [this]
theorem idxN_any (p : NetV → Bool) (l : List NetV) : decide (0 ≤ idxN p l) = l.any p := by
  unfold idxN
  cases h : l.findIdx? p with
  | none =>
    rw [List.findIdx?_eq_none_iff] at h
    have : l.any p = false := List.any_eq_false.2 fun x hx => by rw [h x hx]; simp
    rw [this]; rfl
  | some j =>
    obtain ⟨h1, h2, _⟩ := List.findIdx?_eq_some_iff_getElem.1 h
    have : l.any p = true := List.any_eq_true.2 ⟨l[j], List.getElem_mem h1, h2⟩
    rw [this]
    simp
theorem any_snoc (p : NetV → Bool) (l : List NetV) (k : Nat) (n : NetV) (hn : l[k]? = some n) : (l.take (k + 1)).any p = ((l.take k).any p || p n) := by
  have hk : k < l.length := (List.getElem?_eq_some_iff.1 hn).1
  rw [List.take_succ_eq_append_getElem hk, List.any_append, (List.getElem?_eq_some_iff.1 hn).2]
  simp
theorem loadN_range {w : World} {b o : Nat} {n : NetV} (hB : n.B.length = 16) (h : w.rangeAt b o (nvs n)) : (loadI 26 (.pointer (some ⟨b, o, none⟩))).run Try.prog w = .ok (.agg (ncs n)) w :=
  run_loadAt_mid w b o 26 (nvs n) _ h Try.underlying26 rfl (by rw [ncs_info n hB]; simp [ncs])
set_option maxHeartbeats 1000000 in
theorem index_nil (g : Nat) (lb : Array Value) (p : NetV → Bool) (P : Option Addr) (c : Nat) (w : World) : Calls Try.prog 41 #[.slice P 0 c, .func (.func g) #[] lb] w fun e w' => e = .returned (.int .i64 (idxN p [])) ∧ Below w.heap.size w w' := by
  go_enter Try.func41, Try.ntmps41
  go_wp2_with fail
  go_loop [5, 8] (fun _ iv => iv = .int .i64 0) (fun _ _ => 0)
  case atStart => rfl
  case round =>
    subst hrel
    go_wp2_with fail
    go_ret
    exact ⟨rfl, Below.refl _ _⟩
set_option maxHeartbeats 2000000 in
theorem index_any (g : Nat) (lb : Array Value) (p : NetV → Bool) (l : List NetV) (eg : ∀ args w, (callFunc g args).run Try.prog w = .ok (.enter g args) w) (hl : l.length ≤ 1000000) (hl16 : ∀ n ∈ l, n.B.length = 16) (b off c : Nat) (w : World) (hb : b < w.heap.size)
    (hc : ∀ j n, l[j]? = some n → w.rangeAt b (off + j * 18) (nvs n)) (hp : PredN g lb p l w) : Calls Try.prog 41 #[.slice (some ⟨b, off, none⟩) l.length c, .func (.func g) #[] lb] w fun e w' => e = .returned (.int .i64 (idxN p l)) ∧ Below w.heap.size w w' := by
  have HP := hid hp
  have HLO : Hid (∀ W, Below w.heap.size w W → ∀ j n, l[j]? = some n → (loadI 26 (.pointer (some ⟨b, off + j * 18, none⟩))).run Try.prog W = .ok (.agg (ncs n)) W) := fun W hW j n hn => by
    refine loadN_range (hl16 n (List.mem_of_getElem? hn)) fun i v hv => ?_
    rw [hW.cell (p := ⟨b, off + j * 18 + i, none⟩) hb]
    exact hc j n hn i v hv
  have HAT : Hid (∀ k, k < l.length → ∃ n, l[k]? = some n ∧ n ∈ l) := fun k hk => ⟨l[k], List.getElem?_eq_getElem hk, List.getElem_mem hk⟩
  have HHIT := hid (idxN_hit p l)
  have HMISS := hid (idxN_miss p l)
  have HSN := hid (any_snoc p l)
  have HEND : Hid (l.take l.length = l) := List.take_length
  generalize idxN p l = R at HHIT HMISS ⊢
  clear hp hc hl16
  obtain ⟨m, hm⟩ : ∃ m, m = l.length := ⟨_, rfl⟩
  rw [← hm] at hl HAT HEND ⊢
  clear hm
  go_enter Try.func41, Try.ntmps41
  go_wp2_with fail
  go_loopw [5, 8] (fun _ iv wr => ∃ k : Nat, k ≤ m ∧ iv = .int .i64 (k : Int) ∧ Hid (Below w.heap.size w wr) ∧ Hid ((l.take k).any p = false)) (fun _ i _ => m - (intOf i).toNat)
  case atStart => exact ⟨0, by omega, rfl, Below.refl _ _, rfl⟩
  case round =>
    obtain ⟨k, hk, rfl, HB, HA⟩ := hrel
    by_cases hkm : (k : Int) < (m : Int)
    · obtain ⟨n, hn, hmem⟩ := HAT.out k (by omega)
      have HN := hid hn
      have hlo := HLO.out wr HB.out k n hn
      have HCL := hid (HP.out n hmem wr HB.out)
      clear hn
      generalize ncs n = X at hlo HCL
      cases hq : p n with
      | true =>
        have HR := hid (HHIT.out k n HN.out hq HA.out)
        rw [hq] at HCL
        clear hq
        go_wp2_with (go_at_fn g; refine HCL.out.mono ?_; rintro e w' ⟨rfl, hb'⟩)
        go_ret
        exact ⟨by rw [HR.out]; rfl, HB.out.trans (hb'.mono HB.out.size)⟩
      | false =>
        have HNX : Hid ((l.take (k + 1)).any p = false) := by show _ = _; rw [HSN.out k n HN.out, HA.out, hq]; rfl
        rw [hq] at HCL
        clear hq
        go_wp2_with (go_at_fn g; refine HCL.out.mono ?_; rintro e w' ⟨rfl, hb'⟩)
        go_roundw
        case rel => exact ⟨k + 1, by omega, by go_num, HB.out.trans (hb'.mono HB.out.size), HNX⟩
        case measure => simp [intOf]; omega
    · have hk' : k = m := by omega
      subst hk'
      rw [HEND.out] at HA
      have HR := hid (HMISS.out HA.out)
      go_wp2_with fail
      go_ret
      exact ⟨by rw [HR.out]; rfl, HB.out⟩
end Go.Proofs.Ytocdjgehjiolhaa
namespace Go.Proofs.Ytocdjgehjiolhaa
open Go.RowKit Go.BigFrame
attribute [local go_sem ↓] loadA_eq loadN_eq

theorem okNet {l : List NetV} (h : ∀ n ∈ l, n.B.length = 16 ∧ mayV n = true) : ∀ n ∈ l, n.B.length = 16 ∧ 0 ≤ n.k ∧ n.k ≤ 128 := fun n hn => by
  obtain ⟨h1, h2⟩ := h n hn
  have := mayN_parts h2
  have := tot_le n.v
  exact ⟨h1, by omega, by omega⟩
set_option maxHeartbeats 1000000 in
theorem containsN_any (g : Nat) (lb : Array Value) (p : NetV → Bool) (l : List NetV) (eg : ∀ args w, (callFunc g args).run Try.prog w = .ok (.enter g args) w) (hl : l.length ≤ 1000000) (hl16 : ∀ n ∈ l, n.B.length = 16) (s : Value) (w : World) (hs : NetsAt w s l) (hp : PredN g lb p l w) :
    Calls Try.prog 24 #[s, .func (.func g) #[] lb] w fun e w' => e = .returned (.bool (l.any p)) ∧ Below w.heap.size w w' := by
  have HI : Hid (∀ W, W = w → Calls Try.prog 41 #[s, .func (.func g) #[] lb] W fun e w' => e = .returned (.int .i64 (idxN p l)) ∧ Below W.heap.size W w') := fun W hW => by
    subst hW
    rcases hs with ⟨rfl, P, c, rfl⟩ | ⟨b, off, c, rfl, h2, h3⟩
    · exact index_nil g lb p P c W
    · exact index_any g lb p l eg hl hl16 b off c W h2 h3 hp
  have hi := idxN_any p l
  generalize idxN p l = R at HI hi
  generalize l.any p = t at hi ⊢
  clear eg hs hp hl hl16
  go_enter Try.func24, Try.ntmps24
  go_wp2_with fail
  refine (HI.out _ rfl).mono ?_
  rintro e W1 ⟨rfl, hb1⟩
  go_wp2_with fail
  go_ret
  exact ⟨rfl, hb1⟩

set_option maxHeartbeats 1000000 in
theorem closure_any (n : NetV) (hB : n.B.length = 16) (h0 : 0 ≤ n.k) (h1 : n.k ≤ 128) (u : Bool) (C : List UInt8) (hC : C.length = 16) (B : Nat) (w : World) (hw : w.heap[B]? = some (.cells (acs u C) 24 (0, 0))) : Calls Try.prog 43 #[.agg (ncs n), .pointer (some ⟨B, 0, none⟩)] w fun e w' => e = .returned (.bool (holdV n u C)) ∧ Below w.heap.size w w' := by
  have HH := hid (fun W => holds_any n hB h0 h1 u C hC W)
  have HLN : Hid (∀ {W : World} {g : Nat}, W.heap[g]? = some (.cells (ncs n) 26 (0, 0)) → (loadI 26 (.pointer (some ⟨g, 0, none⟩))).run Try.prog W = .ok (.agg (ncs n)) W) := fun h => loadN_row hB h
  have HLA : Hid (∀ {W : World} {g : Nat}, W.heap[g]? = some (.cells (acs u C) 24 (0, 0)) → (loadI 24 (.pointer (some ⟨g, 0, none⟩))).run Try.prog W = .ok (.agg (acs u C)) W) := fun h => loadA_row hC h
  have HW := hid hw
  clear hw
  generalize holdV n u C = t at HH ⊢
  generalize ncs n = X at HH HLN ⊢
  generalize acs u C = AX at HH HLA HW
  have l1 : (loadI 26 (.pointer (some ⟨w.heap.size, 0, none⟩))).run Try.prog (w.alloc (.cells X 26)) = .ok (.agg X) (w.alloc (.cells X 26)) := HLN.out (heap_alloc_new w _)
  have l2 : (loadI 24 (.pointer (some ⟨B, 0, none⟩))).run Try.prog (w.alloc (.cells X 26)) = .ok (.agg AX) (w.alloc (.cells X 26)) := HLA.out ((Below.heap_alloc _ _ _ (Array.getElem?_eq_some_iff.1 HW.out).1).trans HW.out)
  go_enter Try.func43, Try.ntmps43
  go_wp2_with fail
  refine (HH.out _).mono ?_
  rintro e W1 ⟨rfl, hb1⟩
  have HB := hid (row1 hb1).2.1
  clear hb1 l1 l2
  go_wp2_with fail
  go_ret
  exact ⟨rfl, HB.out⟩

theorem enters_closure : ∀ args w, (callFunc 43 args).run Try.prog w = .ok (.enter 43 args) w := enters_of Try.func43 (by kernel_rfl) rfl
theorem enters_mayNot : ∀ args w, (callFunc 25 args).run Try.prog w = .ok (.enter 25 args) w := enters_of Try.func25 (by kernel_rfl) rfl
set_option maxHeartbeats 1000000 in
theorem among_any (l : List NetV) (hl : l.length ≤ 1000000) (hok : ∀ n ∈ l, n.B.length = 16 ∧ mayV n = true) (u : Bool) (C : List UInt8) (hC : C.length = 16) (hm : mayB u C = true) (s : Value) (w : World) (hs : NetsAt w s l) :
    Calls Try.prog 27 #[s, .agg (acs u C)] w fun e w' => e = .returned (.bool (inV l u C)) ∧ Below w.heap.size w w' := by
  rw [← among_in l hok u C hC hm]
  have HCO : Hid (∀ V, V = w.alloc (.cells (acs u C) 24) → Calls Try.prog 24 #[s, .func (.func 43) #[] #[.pointer (some ⟨w.heap.size, 0, none⟩)]] V fun e w' => e = .returned (.bool (l.any fun n => holdV n u C)) ∧ Below V.heap.size V w') := fun V hV => by
    refine containsN_any 43 #[.pointer (some ⟨w.heap.size, 0, none⟩)] _ l enters_closure hl (fun n hn => (hok n hn).1) s V (by rw [hV]; exact hs.below (alloc_below (Below.refl _ w) (Nat.le_refl _) _) (Nat.le_refl _)) ?_
    intro n hn W hW
    have h3 := okNet hok n hn
    refine closure_any n h3.1 h3.2.1 h3.2.2 u C hC w.heap.size W ?_
    have : V.heap[w.heap.size]? = some (.cells (acs u C) 24 (0, 0)) := by rw [hV]; exact heap_alloc_new w _
    exact (hW.block _ (Array.getElem?_eq_some_iff.1 this).1).trans this
  generalize (l.any fun n => holdV n u C) = t at HCO ⊢
  generalize acs u C = AX at HCO ⊢
  clear hs hok
  go_enter Try.func27, Try.ntmps27
  go_wp2_with fail
  refine (HCO.out _ rfl).mono ?_
  rintro e W1 ⟨rfl, hb1⟩
  have HB := hid (row1 hb1).2.1
  clear hb1
  go_wp2_with fail
  go_ret
  exact ⟨rfl, HB.out⟩
theorem denied_any (l : List NetV) (hl : l.length ≤ 1000000) (hok : ∀ n ∈ l, n.B.length = 16) (s : Value) (w : World) (hs : NetsAt w s l) : Calls Try.prog 24 #[s, .func (.func 25) #[] #[]] w fun e w' => e = .returned (.bool (l.any fun n => !mayV n)) ∧ Below w.heap.size w w' :=
  containsN_any 25 #[] _ l enters_mayNot hl hok s w hs fun n hn W _ => mayNot_any n (hok n hn) W
end Go.Proofs.Ytocdjgehjiolhaa
