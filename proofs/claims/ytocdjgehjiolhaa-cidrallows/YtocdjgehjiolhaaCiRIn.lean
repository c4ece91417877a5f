
/- What the reference's in and Same of layer 6 do. -/
import Derived.Test.YtocdjgehjiolhaaCiRef
import Derived.Test.YtocdjgehjiolhaaCiFunc
namespace Go.Proofs.Ytocdjgehjiolhaa
open Go.RowKit Go.BigFrame
attribute [local go_sem ↓] loadA_eq loadN_eq

theorem loadN_reR {w : World} {b o : Nat} {n : NetV} (hb : b < w.heap.size) (hB : n.B.length = 16) (h : w.rangeAt b o (nvs n)) (d : Nat) (os : Array Obj) : (loadI 26 (.pointer (some ⟨b, o, none⟩))).run Try.prog (Sort.grow (redrawn w d) os) = .ok (.agg (ncs n)) (Sort.grow (redrawn w d) os) :=
  loadN_range hB fun i v hv => ((below_regrown w d os).cell (p := ⟨b, o + i, none⟩) hb).trans (h i v hv)
abbrev LDR (V : World) (b o : Nat) (X : Array Value) : Prop := ∀ d os, (loadI 26 (.pointer (some ⟨b, o, none⟩))).run Try.prog (Sort.grow (redrawn V d) os) = .ok (.agg X) (Sort.grow (redrawn V d) os)
theorem any_take_true (p : NetV → Bool) (l : List NetV) (k : Nat) (n : NetV) (hn : l[k]? = some n) (hp : p n = true) : l.any p = true := List.any_eq_true.2 ⟨n, List.mem_of_getElem? hn, hp⟩
set_option maxHeartbeats 1000000 in
theorem refIn_nil (u : Bool) (C : List UInt8) (P : Option Addr) (c : Nat) (w : World) : Calls Try.prog 31 #[.slice P 0 c, .agg (acs u C)] w fun e w' => e = .returned (.bool (inV [] u C)) ∧ Below w.heap.size w w' := by
  have e : inV [] u C = false := rfl
  rw [e]
  generalize acs u C = AX
  go_enter Try.func31, Try.ntmps31
  go_wp2_with fail
  go_loop [5] (fun iv => iv = .int .i64 0) (fun _ => 0)
  case atStart => rfl
  case round =>
    subst hrel
    go_wp2_with fail
    go_ret
    exact ⟨rfl, alloc_below (Below.refl _ w) (Nat.le_refl _) _⟩
set_option maxHeartbeats 2000000 in
theorem refIn_row (l : List NetV) (hl : l.length ≤ 1000000) (hok : ∀ n ∈ l, n.B.length = 16 ∧ mayV n = true) (u : Bool) (C : List UInt8) (hC : C.length = 16) (b off c : Nat) (w : World) (hb : b < w.heap.size)
    (hc : ∀ j n, l[j]? = some n → w.rangeAt b (off + j * 18) (nvs n)) : Calls Try.prog 31 #[.slice (some ⟨b, off, none⟩) l.length c, .agg (acs u C)] w fun e w' => e = .returned (.bool (inV l u C)) ∧ Below w.heap.size w w' := by
  have HH : Hid (∀ n ∈ l, ∀ W, Calls Try.prog 9 #[.agg (ncs n), .agg (acs u C)] W fun e w' => e = .returned (.bool (hasV n u C)) ∧ Below W.heap.size W w') := fun n hn W => by
    obtain ⟨h16, hm⟩ := hok n hn
    obtain ⟨_, h0, h1⟩ := mayN_parts hm
    exact refHas_net n h16 n.k.toNat (by omega) (by omega) u C hC W
  have HLO : Hid (∀ W, Below w.heap.size w W → ∀ j n, l[j]? = some n → LDR W b (off + j * 18) (ncs n)) := fun W hW j n hn d os =>
    loadN_reR (Nat.lt_of_lt_of_le hb hW.size) (hok n (List.mem_of_getElem? hn)).1 (fun i v hv => by
      rw [hW.cell (p := ⟨b, off + j * 18 + i, none⟩) hb]
      exact hc j n hn i v hv) d os
  have HLA : Hid (∀ {W : World} {g : Nat}, W.heap[g]? = some (.cells (acs u C) 24 (0, 0)) → LDA W g (acs u C)) := fun h d os => loadA_re hC h d os
  have HAT : Hid (∀ k, k < l.length → ∃ n, l[k]? = some n ∧ n ∈ l) := fun k hk => ⟨l[k], List.getElem?_eq_getElem hk, List.getElem_mem hk⟩
  have HEND : Hid (l.take l.length = l) := List.take_length
  have HIN : Hid (inV l u C = l.any fun n => hasV n u C) := rfl
  generalize inV l u C = R at HIN ⊢
  obtain ⟨p, hp⟩ : ∃ p : NetV → Bool, p = fun n => hasV n u C := ⟨_, rfl⟩
  have HSN := hid (any_snoc p l)
  have HHIT := hid (any_take_true p l)
  rw [← hp] at HIN
  have HHP : Hid (∀ n ∈ l, ∀ W, Calls Try.prog 9 #[.agg (ncs n), .agg (acs u C)] W fun e w' => e = .returned (.bool (p n)) ∧ Below W.heap.size W w') := by rw [hp]; exact HH
  clear hp HH
  generalize acs u C = AX at HHP HLA ⊢
  clear hc hok
  obtain ⟨m, hm⟩ : ∃ m, m = l.length := ⟨_, rfl⟩
  rw [← hm] at hl HAT HEND ⊢
  clear hm
  go_enter Try.func31, Try.ntmps31
  go_wp2_with fail
  obtain ⟨V, hV⟩ : ∃ V, V = w.alloc (Obj.cells AX 24) := ⟨_, rfl⟩
  have HR : Hid (V.heap[w.heap.size]? = some (.cells AX 24 (0, 0))) := by rw [hV]; exact heap_alloc_new w _
  have HB : Hid (Below w.heap.size w V) := by rw [hV]; exact alloc_below (Below.refl _ w) (Nat.le_refl _) _
  have hz : w.heap.size < V.heap.size := by rw [hV]; simp
  rw [← hV]
  clear hV
  go_loopw [5] (fun iv wr => ∃ k : Nat, k ≤ m ∧ iv = .int .i64 (k : Int) ∧ Hid (Below V.heap.size V wr) ∧ Hid ((l.take k).any p = false)) (fun i _ => m - (intOf i).toNat)
  case atStart => exact ⟨0, by omega, rfl, Below.refl _ _, rfl⟩
  case round =>
    obtain ⟨k, hk, rfl, HBr, HA⟩ := hrel
    by_cases hkm : (k : Int) < (m : Int)
    · obtain ⟨n, hn, hmem⟩ := HAT.out k (by omega)
      have HN := hid hn
      have k1 := HLO.out wr (HB.out.trans (HBr.out.mono HB.out.size)) k n hn
      have k2 := HLA.out ((HBr.out.block _ hz).trans HR.out)
      have HCL := hid (HHP.out n hmem)
      clear hn
      generalize ncs n = X at k1 HCL
      have c1 : REG 9 #[.agg X, .agg AX] wr (.bool (p n)) := fun d os => Calls.regrown_of (HCL.out _)
      cases hq : p n with
      | true =>
        have HF : Hid (R = true) := by show _ = _; rw [HIN.out]; exact HHIT.out k n HN.out hq
        rw [hq] at c1
        clear hq
        go_wp2_with fail
        refine wp_region_quiet_below (by kernel_rfl) (by kernel_rfl) ?_
        repeat (go_big_quiet_step (first | (go_at_call 9; exact c1 _ _)))
        refine wpQuiet_nil ?_
        rintro W9 ⟨⟨dq, osq⟩, hw⟩
        have HB9 : Hid (Below V.heap.size V W9) := by rw [hw]; exact HBr.out.trans ((below_regrown wr dq osq).mono HBr.out.size)
        clear hw k1 k2 c1
        go_wp2_with fail
        go_ret
        exact ⟨by rw [HF.out]; rfl, HB.out.trans (HB9.out.mono (by omega))⟩
      | false =>
        have HNX : Hid ((l.take (k + 1)).any p = false) := by show _ = _; rw [HSN.out k n HN.out, HA.out, hq]; rfl
        rw [hq] at c1
        clear hq
        go_wp2_with fail
        refine wp_region_quiet_below (by kernel_rfl) (by kernel_rfl) ?_
        repeat (go_big_quiet_step (first | (go_at_call 9; exact c1 _ _)))
        refine wpQuiet_nil ?_
        rintro W9 ⟨⟨dq, osq⟩, hw⟩
        have HB9 : Hid (Below V.heap.size V W9) := by rw [hw]; exact HBr.out.trans ((below_regrown wr dq osq).mono HBr.out.size)
        clear hw k1 k2 c1
        go_wp2_with fail
        go_roundw
        case rel => exact ⟨k + 1, by omega, by go_num, HB9, HNX⟩
        case measure => simp [intOf]; omega
    · have hk' : k = m := by omega
      subst hk'
      rw [HEND.out] at HA
      have HF : Hid (R = false) := by show _ = _; rw [HIN.out]; exact HA.out
      go_wp2_with fail
      go_ret
      exact ⟨by rw [HF.out]; rfl, HB.out.trans (HBr.out.mono (by omega))⟩
theorem refIn_any (l : List NetV) (hl : l.length ≤ 1000000) (hok : ∀ n ∈ l, n.B.length = 16 ∧ mayV n = true) (u : Bool) (C : List UInt8) (hC : C.length = 16) (s : Value) (w : World) (hs : NetsAt w s l) :
    Calls Try.prog 31 #[s, .agg (acs u C)] w fun e w' => e = .returned (.bool (inV l u C)) ∧ Below w.heap.size w w' := by
  rcases hs with ⟨rfl, P, c, rfl⟩ | ⟨b, off, c, rfl, h2, h3⟩
  · exact refIn_nil u C P c w
  · exact refIn_row l hl hok u C hC b off c w h2 h3
theorem guardN : Try.prog.eqGuardType Try.prog.depth 26 = false := by kernel_rfl
set_option maxHeartbeats 2000000 in
/-- Same, of two lists that are alike. -/
theorem same_row (l : List NetV) (hl : l.length ≤ 1000000) (h16 : ∀ n ∈ l, n.B.length = 16) (b off c b2 off2 c2 : Nat) (w : World) (hb : b < w.heap.size) (hb2 : b2 < w.heap.size)
    (hc : ∀ j n, l[j]? = some n → w.rangeAt b (off + j * 18) (nvs n)) (hc2 : ∀ j n, l[j]? = some n → w.rangeAt b2 (off2 + j * 18) (nvs n)) : Calls Try.prog 14 #[.slice (some ⟨b, off, none⟩) l.length c, .slice (some ⟨b2, off2, none⟩) l.length c2] w fun e w' => e = .returned (.bool true) ∧ Below w.heap.size w w' := by
  have HLO : Hid (∀ W, Below w.heap.size w W → ∀ j n, l[j]? = some n → LDR W b (off + j * 18) (ncs n) ∧ LDR W b2 (off2 + j * 18) (ncs n)) := fun W hW j n hn =>
    ⟨fun d os => loadN_reR (Nat.lt_of_lt_of_le hb hW.size) (h16 n (List.mem_of_getElem? hn)) (fun i v hv => by
      rw [hW.cell (p := ⟨b, off + j * 18 + i, none⟩) hb]
      exact hc j n hn i v hv) d os, fun d os => loadN_reR (Nat.lt_of_lt_of_le hb2 hW.size) (h16 n (List.mem_of_getElem? hn)) (fun i v hv => by
      rw [hW.cell (p := ⟨b2, off2 + j * 18 + i, none⟩) hb2]
      exact hc2 j n hn i v hv) d os⟩
  have HAT : Hid (∀ k, k < l.length → ∃ n, l[k]? = some n ∧ n.B.length = 16) := fun k hk => ⟨l[k], List.getElem?_eq_getElem hk, h16 _ (List.getElem_mem hk)⟩
  have hg := guardN
  clear hc hc2 h16
  obtain ⟨m, hm⟩ : ∃ m, m = l.length := ⟨_, rfl⟩
  rw [← hm] at hl HAT ⊢
  clear hm
  go_enter Try.func14, Try.ntmps14
  go_wp2_with fail
  go_loopw [5] (fun iv wr => ∃ k : Nat, k ≤ m ∧ iv = .int .i64 (k : Int) ∧ Hid (Below w.heap.size w wr)) (fun i _ => m - (intOf i).toNat)
  case atStart => exact ⟨0, by omega, rfl, Below.refl _ _⟩
  case round =>
    obtain ⟨k, hk, rfl, HBr⟩ := hrel
    by_cases hkm : (k : Int) < (m : Int)
    · obtain ⟨n, hn, hn16⟩ := HAT.out k (by omega)
      obtain ⟨k1, k2⟩ := HLO.out wr HBr.out k n hn
      have q1 : ∀ W, (Op.equalIn 10000 26 (.agg (ncs n)) (.agg (ncs n))).run Try.prog W = .ok true W := fun W => by
        have := eqN n n hn16 hn16 W
        rwa [eqNV_self] at this
      clear hn
      generalize ncs n = X at k1 k2 q1
      go_wp2_with fail
      refine wp_region_quiet_below (by kernel_rfl) (by kernel_rfl) ?_
      repeat (go_big_quiet_step (fail))
      refine wpQuiet_nil ?_
      rintro W9 ⟨⟨dq, osq⟩, hw⟩
      have HB9 : Hid (Below w.heap.size w W9) := by rw [hw]; exact HBr.out.trans ((below_regrown wr dq osq).mono HBr.out.size)
      clear hw k1 k2 q1
      go_wp2_with fail
      go_roundw
      case rel => exact ⟨k + 1, by omega, by go_num, HB9⟩
      case measure => simp [intOf]; omega
    · go_wp2_with fail
      go_ret
      exact ⟨rfl, HBr.out⟩
end Go.Proofs.Ytocdjgehjiolhaa
