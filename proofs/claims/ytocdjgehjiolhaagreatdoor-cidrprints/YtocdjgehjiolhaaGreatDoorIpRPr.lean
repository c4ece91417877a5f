
/- What lanternref05.Print does. -/
import Derived.Test.YtocdjgehjiolhaaGreatDoorIpSTo
import Derived.Test.YtocdjgehjiolhaaGreatDoorIpGrp
import Derived.Test.YtocdjgehjiolhaaGreatDoorIpPr6
namespace Go.Proofs.YtocdjgehjiolhaaGreatDoor
open Go.RowKit

set_option maxRecDepth 100000 in
set_option maxHeartbeats 1000000 in
theorem refPrint4 (B : List UInt8) (hB : B.length = 16) (w : World) : Calls Tryz.prog 24 #[.agg (acs false B)] w fun e w' => e = .returned (.string (asS (lastB B))) ∧ Below w.heap.size w w' := by
  have HD := hid (fun W => refDots_any false B hB W)
  have c0 := acs_zero false B
  have HLD : Hid (∀ {W : World} {ops : Array Oper} {rest : List Oper} {op : Oper} {a : Act} {Q : Exit → Act → World → Prop}, op.guard = none → ∀ (x : Operand), op.op = .load 24 x → ∀ b, a.eval x = .pointer (some ⟨b, 0, none⟩) → W.heap[b]? = some (.cells (acs false B) 24 (0, 0)) → wpList Tryz.prog ops Q rest (a.put op.dst (.agg (acs false B))) W → wpList Tryz.prog ops Q (op :: rest) a W) := fun h1 x h2 b h3 h4 h5 => load_addr h1 x h2 b false B hB h3 (0, 0) h4 h5
  generalize acs false B = X at c0 HD HLD ⊢
  generalize lastB B = L at HD ⊢
  have c1 : (w.alloc (.cells X 24)).cell? ⟨w.heap.size, 0, none⟩ = some (.bool false) := by rw [cell_of_row _ _ _ _ _ _ (heap_alloc_new w _)]; exact c0
  go_enter Tryz.func24, Tryz.ntmps24
  go_wp2_with (first
    | (refine HLD.out rfl _ rfl w.heap.size rfl (heap_alloc_new w _) ?_)
    | fail)
  refine (HD.out _).mono ?_
  rintro e W1 ⟨rfl, hb1⟩
  have HR := hid (row1 hb1)
  clear hb1
  go_wp2_with fail
  go_ret
  exact ⟨rfl, HR.out.2.1⟩
set_option maxRecDepth 100000 in
set_option maxHeartbeats 1000000 in
theorem refPrintM (B : List UInt8) (hB : B.length = 16) (hm : mappedB B = true) (w : World) : Calls Tryz.prog 24 #[.agg (acs true B)] w fun e w' => e = .returned (.string (asS (FFFF ++ lastB B))) ∧ Below w.heap.size w w' := by
  have HD := hid (fun W => refDots_any true B hB W)
  have HM := hid (fun W => refMapped_any true B hB W)
  rw [mapped_is B hB, hm] at HM
  have c0 := acs_zero true B
  have HLD : Hid (∀ {W : World} {ops : Array Oper} {rest : List Oper} {op : Oper} {a : Act} {Q : Exit → Act → World → Prop}, op.guard = none → ∀ (x : Operand), op.op = .load 24 x → ∀ b, a.eval x = .pointer (some ⟨b, 0, none⟩) → W.heap[b]? = some (.cells (acs true B) 24 (0, 0)) → wpList Tryz.prog ops Q rest (a.put op.dst (.agg (acs true B))) W → wpList Tryz.prog ops Q (op :: rest) a W) := fun h1 x h2 b h3 h4 h5 => load_addr h1 x h2 b true B hB h3 (0, 0) h4 h5
  generalize acs true B = X at c0 HD HM HLD ⊢
  have hl : (lastB B).length ≤ 84 := by rw [← dotsTo_four]; exact dots_len B 4 (by omega)
  generalize lastB B = L at HD hl ⊢
  have a1 : (⟨#[58, 58, 102, 102, 102, 102, 58]⟩ : ByteArray) ++ asS L = asS (FFFF ++ L) := asS_app [58, 58, 102, 102, 102, 102, 58] L
  have s1 : (asS L).size ≤ 84 := by rw [asS_size]; exact hl
  have c1 : (w.alloc (.cells X 24)).cell? ⟨w.heap.size, 0, none⟩ = some (.bool true) := by rw [cell_of_row _ _ _ _ _ _ (heap_alloc_new w _)]; exact c0
  clear hm
  go_enter Tryz.func24, Tryz.ntmps24
  go_wp2_with (first
    | (refine HLD.out rfl _ rfl w.heap.size rfl (heap_alloc_new w _) ?_)
    | fail)
  refine (HM.out _).mono ?_
  rintro e W1 ⟨rfl, hb1⟩
  have HR := hid (row1 hb1)
  have hz : w.heap.size + 1 ≤ W1.heap.size := HR.out.2.2
  clear hb1 c1
  go_wp2_with (first
    | (refine HLD.out rfl _ rfl w.heap.size rfl HR.out.1 ?_)
    | fail)
  refine (HD.out _).mono ?_
  rintro e W2 ⟨rfl, hb2⟩
  go_wp2_with fail
  go_ret
  exact ⟨rfl, HR.out.2.1.trans (hb2.mono (by omega))⟩

theorem src_intsD (w : World) (l : List Int) (c n : Nat) (hn : n = l.length) : Src Tryz.prog 1 66 (.slice (some ⟨w.heap.size, 0, none⟩) n c) n (ints l) (w.alloc (.cells (ints l).toArray 3)).drew := by
  subst hn
  have := src_lit cellI (w.alloc (.cells (ints l).toArray 3)).drew w.heap.size c (ints l) (heap_alloc_new w _) (fun u hu => by obtain ⟨x, _, rfl⟩ := List.mem_map.1 hu; rfl)
  rw [ints_len] at this
  exact this
def nints (l : List Nat) : List Int := l.map fun (x : Nat) => (x : Int)
set_option maxRecDepth 100000 in
set_option maxHeartbeats 4000000 in
theorem refPrintS (B : List UInt8) (hB : B.length = 16) (hm : mappedB B = false) (w : World) : Calls Tryz.prog 24 #[.agg (acs true B)] w fun e w' => e = .returned (.string (asS (shortB (toG B) (best (toG B)).1 (best (toG B)).2))) ∧ Below w.heap.size w w' := by
  have HM := hid (fun W => refMapped_any true B hB W)
  rw [mapped_is B hB, hm] at HM
  have c0 := acs_zero true B
  have HC : Hid (∀ k, k < 16 → (acs true B)[k + 1]? = some (.int .u8 (B.getD k 0).toNat)) := fun k hk => acs_at true B k (by omega)
  have HLD : Hid (∀ {W : World} {ops : Array Oper} {rest : List Oper} {op : Oper} {a : Act} {Q : Exit → Act → World → Prop}, op.guard = none → ∀ (x : Operand), op.op = .load 24 x → ∀ b, a.eval x = .pointer (some ⟨b, 0, none⟩) → W.heap[b]? = some (.cells (acs true B) 24 (0, 0)) → wpList Tryz.prog ops Q rest (a.put op.dst (.agg (acs true B))) W → wpList Tryz.prog ops Q (op :: rest) a W) := fun h1 x h2 b h3 h4 h5 => load_addr h1 x h2 b true B hB h3 (0, 0) h4 h5
  generalize acs true B = X at c0 HC HM HLD ⊢
  have hGL : (toG B).length = 8 := by rw [toG_len, hB]
  have HGA : Hid (∀ k, k < 8 → (toG B).getD k 0 = (B.getD (2 * k) 0).toNat * 256 + (B.getD (2 * k + 1) 0).toNat) := fun k hk => toG_at B k (by omega)
  have HLT : Hid (∀ j, j < 8 → (toG B).getD j 0 < 65536) := fun j hj => toG_lt' B hB j hj
  have HSH : Hid (sTo (toG B) (best (toG B)).1 (best (toG B)).2 8 = shortB (toG B) (best (toG B)).1 (best (toG B)).2) := sTo_short _ _ _ hGL (best_run _).1
  rw [← HSH.out]
  clear HSH hm
  generalize toG B = G at hGL HGA HLT ⊢
  have HGL := hid hGL
  clear hGL
  have c1 : (w.alloc (.cells X 24)).cell? ⟨w.heap.size, 0, none⟩ = some (.bool true) := by rw [cell_of_row _ _ _ _ _ _ (heap_alloc_new w _)]; exact c0
  go_enter Tryz.func24, Tryz.ntmps24
  go_wp2_with (first
    | (refine HLD.out rfl _ rfl w.heap.size rfl (heap_alloc_new w _) ?_)
    | fail)
  refine (HM.out _).mono ?_
  rintro e W1 ⟨rfl, hb1⟩
  have HR := hid (row1 hb1)
  have hz : w.heap.size + 1 ≤ W1.heap.size := HR.out.2.2
  clear hb1 c1 c0
  go_wp2_with fail
  go_loopw [3, 4] (fun pv iv wx => ∃ k g c : Nat, k ≤ 8 ∧ iv = .int .i64 (k : Int) ∧ pv = .slice (some ⟨g, 0, none⟩) k c ∧ Hid (OwnV wx 3 W1.heap.size g k c (ints (nints (G.take k)))) ∧ Hid (Below W1.heap.size W1 wx)) (fun _ i _ => 8 - (intOf i).toNat)
  case atStart => exact ⟨0, W1.heap.size, 0, by omega, rfl, rfl, OwnV.zero W1 3 _ (Nat.le_refl _), alloc_below (Below.refl _ W1) (Nat.le_refl _) _⟩
  case round =>
    obtain ⟨k, g, c, hk, rfl, rfl, HO, HB⟩ := hrel
    have hsz := HB.out.size
    by_cases hk8 : (k : Int) < 8
    · obtain ⟨x, hx⟩ : ∃ x, x = B.getD (2 * k) 0 := ⟨_, rfl⟩
      obtain ⟨y, hy⟩ : ∃ y, y = B.getD (2 * k + 1) 0 := ⟨_, rfl⟩
      have HX : Hid (wr.heap[w.heap.size]? = some (.cells X 24 (0, 0))) := (HB.out.block _ (by omega)).trans HR.out.1
      have c1 : wr.cell? ⟨w.heap.size, 1 + 2 * k, none⟩ = some (.int .u8 x.toNat) := by
        rw [cell_of_row _ _ _ _ _ _ HX.out, Nat.add_comm, HC.out (2 * k) (by omega), hx]
      have c2 : wr.cell? ⟨w.heap.size, 1 + (2 * k + 1), none⟩ = some (.int .u8 y.toNat) := by
        rw [cell_of_row _ _ _ _ _ _ HX.out, Nat.add_comm, HC.out (2 * k + 1) (by omega), hy]
      have HV : Hid (ints (nints (G.take (k + 1))) = ints (nints (G.take k)) ++ ints [((x.toNat * 256 + y.toNat : Nat) : Int)]) := by
        have h1 := HGA.out k (by omega)
        rw [← hx, ← hy] at h1
        show _ = _
        have h2 : G.take (k + 1) = G.take k ++ [G.getD k 0] := by
          rw [List.take_succ_eq_append_getElem (by rw [HGL.out]; omega)]
          simp [List.getD_eq_getElem?_getD, HGL.out, (by omega : k < 8)]
        rw [h2, h1]
        simp [ints, nints]
      have hx2 := x.toNat_lt
      have hy2 := y.toNat_lt
      clear hx hy
      have b1 : IntKind.i64.wrap (2 * (k : Int)) = 2 * (k : Int) := by rw [IntKind.wrap_i64]; omega
      have b2 : IntKind.i64.wrap (2 * (k : Int) + 1) = 2 * (k : Int) + 1 := by rw [IntKind.wrap_i64]; omega
      have b3 : (2 * (k : Int)).toNat = 2 * k := by omega
      have b4 : (2 * (k : Int) + 1).toNat = 2 * k + 1 := by omega
      have b5 : (2 * (k : Int)) < 16 := by omega
      have b6 : (2 * (k : Int) + 1) < 16 := by omega
      have b7 : 0 ≤ 2 * (k : Int) := by omega
      have b8 : 0 ≤ 2 * (k : Int) + 1 := by omega
      obtain ⟨z, hz2⟩ : ∃ z, z = x.toNat * 256 + y.toNat := ⟨_, rfl⟩
      rw [← hz2] at HV
      have b9 : IntKind.i64.wrap ((x.toNat : Int) * 256) = (x.toNat : Int) * 256 := by rw [IntKind.wrap_i64]; omega
      have b10 : IntKind.i64.wrap ((x.toNat : Int) * 256 + (y.toNat : Int)) = (z : Int) := by rw [IntKind.wrap_i64]; omega
      have b11 : IntKind.i64.wrap (x.toNat : Int) = (x.toNat : Int) := by rw [IntKind.wrap_i64]; omega
      have b12 : IntKind.i64.wrap (y.toNat : Int) = (y.toNat : Int) := by rw [IntKind.wrap_i64]; omega
      clear hz2 hx2 hy2
      go_wp2_with fail
      go_region_law ((refine step_ownV cellI (by rfl) _ _ (by rfl) W1.heap.size g k c 1 (ints (nints (G.take k))) (ints [(z : Int)]) _ (by rfl) (by rfl) (by exact (HO.out.alloc _).drew) (by exact src_intsD wr [(z : Int)] 1 1 rfl) (by omega) (by show W1.heap.size ≤ (wr.alloc _).heap.size; simp <;> omega) ?_; intro g7 c7 W7 hown7 hgr7 hg7))
      all_goals
        have HO7 : Hid (OwnV W7 3 W1.heap.size g7 (k + 1) c7 (ints (nints (G.take (k + 1))))) := by show OwnV _ _ _ _ _ _ _; rw [HV.out]; exact hown7
        have hgr8 : (wr.alloc (.cells (ints [(z : Int)]).toArray 3)).drew.grownBy W7 (some g) := hgr7
        have HB7 : Hid (Below W1.heap.size W1 W7) := ((HO.out.alloc _).drew).grown ((HB.out.alloc hsz _).drew) (by show W1.heap.size ≤ (wr.alloc _).heap.size; simp <;> omega) hgr8
        clear hown7 hgr7 hgr8 hg7 c1 c2 b1 b2 b3 b4 b5 b6 b7 b8 b9 b10 b11 b12
        go_wp2_with fail
        go_roundw
        case rel => exact ⟨k + 1, g7, c7, by omega, by go_num, rfl, HO7, HB7⟩
        case measure => simp [intOf]; omega
    · have hk' : k = 8 := by omega
      subst hk'
      have HC2 : Hid (∀ j, j < 8 → wr.cell? ⟨g, j, none⟩ = some (.int .i64 (G.getD j 0 : Nat))) := fun j hj => by
        refine HO.out.at j _ ?_
        rw [List.take_of_length_le (by rw [HGL.out]; exact Nat.le_refl _)]
        simp [ints, nints, List.getD_eq_getElem?_getD, HGL.out, hj]
      have hgl : g < wr.heap.size := HO.out.lt
      clear HO hk
      obtain ⟨V1, hV1⟩ : ∃ V1, V1 = wr := ⟨_, rfl⟩
      subst hV1
      go_wp2_with fail
      go_loop [5, 6, 7] (fun av nv iv => ∃ i a n : Nat, i ≤ 8 ∧ iv = .int .i64 (i : Int) ∧ av = .int .i64 (a : Int) ∧ nv = .int .i64 (n : Int) ∧ n ≤ 8 ∧ Hid (outerB G i = (a, n))) (fun _ _ i => 8 - (intOf i).toNat)
      case atStart => exact ⟨0, 0, 0, by omega, rfl, rfl, rfl, by omega, rfl⟩
      case round =>
        obtain ⟨i, a, n, hi, rfl, rfl, rfl, hn8, HOB⟩ := hrel
        by_cases hi8 : (i : Int) < 8
        · go_wp2_with fail
          go_loop [5, 6, 8] (fun av nv ev => ∃ e a' n' : Nat, i ≤ e ∧ e ≤ 8 ∧ ev = .int .i64 (e : Int) ∧ av = .int .i64 (a' : Int) ∧ nv = .int .i64 (n' : Int) ∧ n' ≤ 8 ∧ Hid (innerB G i (8 - e) (outerB G i) = (a', n'))) (fun _ _ e => (intOf e).toNat)
          case atStart => exact ⟨8, a, n, by omega, by omega, rfl, rfl, rfl, hn8, HOB⟩
          case round =>
            obtain ⟨e, a', n', hie, he8, rfl, rfl, rfl, hn8', HIB⟩ := hrel
            by_cases hei : (e : Int) > i
            · have HSTEP : Hid (innerB G i (8 - (e - 1)) (outerB G i) = if allz G i e && decide (n' < e - i) then (i, e - i) else (a', n')) := by
                show _ = _
                rw [show 8 - (e - 1) = (8 - e) + 1 from by omega, innerB, HIB.out, show 8 - (8 - e) = e from by omega]
                rfl
              go_wp2_with fail
              go_loop [9, 10] (fun tv mv => ∃ (m : Nat) (t : Bool), i ≤ m ∧ m ≤ e ∧ mv = .int .i64 (m : Int) ∧ tv = .bool t ∧ Hid (allz G i m = t)) (fun _ m => e - (intOf m).toNat)
              case atStart => exact ⟨i, true, by omega, by omega, rfl, rfl, allz_self G i⟩
              case round =>
                obtain ⟨m, t, him, hme, rfl, rfl, HTZ⟩ := hrel
                by_cases hm : (m : Int) < e
                · have hc4 : V1.cell? ⟨g, m, none⟩ = some (.int .i64 (G.getD m 0 : Nat)) := HC2.out m (by omega)
                  have HAZ := hid (allz_snoc G i m him)
                  generalize G.getD m 0 = x at hc4 HAZ
                  cases t
                  · go_wp2_with fail
                    go_round
                    case rel => exact ⟨m + 1, false, by omega, by omega, by go_num, rfl, by show _ = _; rw [HAZ.out, HTZ.out]; rfl⟩
                    case measure => simp [intOf]; omega
                  · by_cases hx0 : (x : Int) = 0
                    · have hx0' : x = 0 := by omega
                      subst hx0'
                      clear hx0
                      go_wp2_with fail
                      go_round
                      case rel => exact ⟨m + 1, true, by omega, by omega, by go_num, rfl, by show _ = _; rw [HAZ.out, HTZ.out]; rfl⟩
                      case measure => simp [intOf]; omega
                    · have hxb : ((x : Int) == 0) = false := by rw [beq_eq_false_iff_ne]; exact hx0
                      have HX0 : Hid (¬ x = 0) := by show ¬ _; omega
                      clear hx0
                      go_wp2_with fail
                      go_round
                      case rel => exact ⟨m + 1, false, by omega, by omega, by go_num, rfl, by show _ = _; rw [HAZ.out, HTZ.out, decide_eq_false HX0.out]; rfl⟩
                      case measure => simp [intOf]; omega
                · have hm' : m = e := by omega
                  subst hm'
                  clear hm
                  cases t
                  · go_wp2_with fail
                    go_round
                    case rel => exact ⟨m - 1, a', n', by omega, by omega, by go_num, rfl, rfl, hn8', by show _ = _; rw [HSTEP.out, HTZ.out]; rfl⟩
                    case measure => simp [intOf]; omega
                  · by_cases hlt : (m : Int) - (i : Int) > n'
                    · go_wp2_with fail
                      go_round
                      case rel => exact ⟨m - 1, i, m - i, by omega, by omega, by go_num, rfl, by go_num, by omega, by show _ = _; rw [HSTEP.out, HTZ.out, decide_eq_true (by omega)]; rfl⟩
                      case measure => simp [intOf]; omega
                    · go_wp2_with fail
                      go_round
                      case rel => exact ⟨m - 1, a', n', by omega, by omega, by go_num, rfl, rfl, hn8', by show _ = _; rw [HSTEP.out, HTZ.out, decide_eq_false (by omega)]; rfl⟩
                      case measure => simp [intOf]; omega
            · have hei' : e = i := by omega
              subst hei'
              clear hei
              go_wp2_with fail
              go_round
              case rel => exact ⟨e + 1, a', n', by omega, by go_num, rfl, rfl, hn8', HIB⟩
              case measure => simp [intOf]; omega
        · have hi' : i = 8 := by omega
          subst hi'
          have HBE : Hid (best G = (a, n)) := HOB.out
          have hrun := best_run G
          rw [HBE.out] at hrun
          have han : a + n ≤ 8 := hrun.1
          obtain ⟨F, hF⟩ : ∃ F : Nat → List UInt8, F = fun k => sTo G a n k := ⟨_, rfl⟩
          have HF : Hid (∀ k, sTo G a n k = F k) := fun k => by rw [hF]
          have HF0 : Hid (F 0 = []) := by show _ = _; rw [hF]; rfl
          have HFL : Hid (∀ k, k ≤ 8 → (F k).length ≤ 184) := fun k hk => by rw [← HF.out]; exact Nat.le_trans (sTo_len G a n k) (by omega)
          have HGOAL : Hid (sTo G (best G).1 (best G).2 8 = F 8) := by show _ = _; rw [HBE.out]; exact HF.out 8
          clear hF hrun hi8 hi
          go_wp2_with fail
          go_loopw [11, 12] (fun sv iv wx => ∃ k : Nat, k ≤ 8 ∧ iv = .int .i64 (k : Int) ∧ sv = .string (asS (F k)) ∧ Hid (Below V1.heap.size V1 wx)) (fun _ i _ => 8 - (intOf i).toNat)
          case atStart => exact ⟨0, by omega, rfl, by rw [HF0.out]; rfl, Below.refl _ _⟩
          case round =>
            obtain ⟨k, hk, rfl, rfl, HB5⟩ := hrel
            by_cases hk8 : (k : Int) < 8
            · have hc5 : wr.cell? ⟨g, k, none⟩ = some (.int .i64 (G.getD k 0 : Nat)) := by
                rw [HB5.out.cell (p := ⟨g, k, none⟩) hgl]; exact HC2.out k (by omega)
              have hx5 := HLT.out k (by omega)
              obtain ⟨x, hx⟩ : ∃ x, x = G.getD k 0 := ⟨_, rfl⟩
              rw [← hx] at hc5 hx5
              have HD := hid (fun W => digits_at16 x (by omega) W)
              have hds := digs_short 16 x
              obtain ⟨D, hD⟩ : ∃ D, D = digs 16 x := ⟨_, rfl⟩
              rw [← hD] at HD hds
              have HDD : Hid (digs 16 (G.getD k 0) = D) := by show _ = _; rw [hD, hx]
              clear hD hx
              have hz1 : (asS D).size ≤ 20 := by rw [asS_size]; exact hds
              have hfl := HFL.out k (by omega)
              have hz2 : (asS (F k)).size ≤ 184 := by rw [asS_size]; exact hfl
              by_cases hn2 : (n : Int) ≥ 2
              · by_cases hka : (k : Int) < a
                · have e1 : ((k : Int) == (a : Int)) = false := by rw [beq_eq_false_iff_ne]; omega
                  have e2 : ((k : Int) == (a : Int) + (n : Int)) = false := by rw [beq_eq_false_iff_ne]; omega
                  have e3 : ¬ (k : Int) ≥ a := by omega
                  by_cases hk0 : (k : Int) > 0
                  · have HN : Hid (F (k + 1) = F k ++ [58] ++ D) := by show _ = _; rw [← HF.out, sTo, if_neg (by omega), if_pos ⟨by omega, by omega⟩, HF.out, HDD.out]
                    have a1 : asS (F k) ++ ⟨#[58]⟩ = asS (F k ++ [58]) := asS_app (F k) [58]
                    have a2 := asS_app (F k ++ [58]) D
                    have s3 : (asS (F k ++ [58])).size ≤ 185 := by rw [asS_size, List.length_append]; simp; omega
                    go_wp2_with fail
                    refine (HD.out _).mono ?_
                    rintro e W5 ⟨rfl, hb5⟩
                    have HB6 : Hid (Below V1.heap.size V1 W5) := HB5.out.trans (hb5.mono HB5.out.size)
                    clear hb5 hc5
                    go_wp2_with fail
                    go_roundw
                    case rel => exact ⟨k + 1, by omega, by go_num, by rw [HN.out]; simp, HB6⟩
                    case measure => simp [intOf]; omega
                  · have HN : Hid (F (k + 1) = F k ++ D) := by show _ = _; rw [← HF.out, sTo, if_neg (by omega), if_neg (by omega), HF.out, HDD.out]
                    have a1 := asS_app (F k) D
                    go_wp2_with fail
                    refine (HD.out _).mono ?_
                    rintro e W5 ⟨rfl, hb5⟩
                    have HB6 : Hid (Below V1.heap.size V1 W5) := HB5.out.trans (hb5.mono HB5.out.size)
                    clear hb5 hc5
                    go_wp2_with fail
                    go_roundw
                    case rel => exact ⟨k + 1, by omega, by go_num, by rw [HN.out], HB6⟩
                    case measure => simp [intOf]; omega
                · have e3 : (k : Int) ≥ a := by omega
                  by_cases hke : (k : Int) = a
                  · have e1 : ((k : Int) == (a : Int)) = true := by rw [beq_iff_eq]; omega
                    have e4 : (k : Int) < (a : Int) + (n : Int) := by omega
                    have hke' : k = a := by omega
                    have HKE := hid hke'
                    clear hke hke'
                    have HN : Hid (F (k + 1) = F k ++ [58, 58]) := by show _ = _; rw [← HF.out, sTo, if_pos ⟨by omega, by omega, by omega⟩, if_pos HKE.out, HF.out]
                    have a1 : asS (F k) ++ ⟨#[58, 58]⟩ = asS (F k ++ [58, 58]) := asS_app (F k) [58, 58]
                    go_wp2_with fail
                    go_roundw
                    case rel => exact ⟨k + 1, by omega, by go_num, by rw [HN.out], HB5⟩
                    case measure => simp [intOf]; omega
                  · have e1 : ((k : Int) == (a : Int)) = false := by rw [beq_eq_false_iff_ne]; omega
                    by_cases e4 : (k : Int) < (a : Int) + (n : Int)
                    · have HN : Hid (F (k + 1) = F k) := by show _ = _; rw [← HF.out, sTo, if_pos ⟨by omega, by omega, by omega⟩, if_neg (by omega), HF.out]
                      go_wp2_with fail
                      go_roundw
                      case rel => exact ⟨k + 1, by omega, by go_num, by rw [HN.out], HB5⟩
                      case measure => simp [intOf]; omega
                    · have hk0 : (k : Int) > 0 := by omega
                      by_cases hkn : (k : Int) = (a : Int) + (n : Int)
                      · have e2 : ((k : Int) == (a : Int) + (n : Int)) = true := by rw [beq_iff_eq]; omega
                        have HKN := hid hkn
                        have hkn' : ¬ (0 < k ∧ ¬ (2 ≤ n ∧ k = a + n)) := by omega
                        have HKN' := hid hkn'
                        clear hkn hkn'
                        have HN : Hid (F (k + 1) = F k ++ D) := by show _ = _; rw [← HF.out, sTo, if_neg (by omega), if_neg HKN'.out, HF.out, HDD.out]
                        have a1 := asS_app (F k) D
                        go_wp2_with fail
                        refine (HD.out _).mono ?_
                        rintro e W5 ⟨rfl, hb5⟩
                        have HB6 : Hid (Below V1.heap.size V1 W5) := HB5.out.trans (hb5.mono HB5.out.size)
                        clear hb5 hc5
                        go_wp2_with fail
                        go_roundw
                        case rel => exact ⟨k + 1, by omega, by go_num, by rw [HN.out], HB6⟩
                        case measure => simp [intOf]; omega
                      · have e2 : ((k : Int) == (a : Int) + (n : Int)) = false := by rw [beq_eq_false_iff_ne]; omega
                        have HN : Hid (F (k + 1) = F k ++ [58] ++ D) := by show _ = _; rw [← HF.out, sTo, if_neg (by omega), if_pos ⟨by omega, by omega⟩, HF.out, HDD.out]
                        have a1 : asS (F k) ++ ⟨#[58]⟩ = asS (F k ++ [58]) := asS_app (F k) [58]
                        have a2 := asS_app (F k ++ [58]) D
                        have s3 : (asS (F k ++ [58])).size ≤ 185 := by rw [asS_size, List.length_append]; simp; omega
                        go_wp2_with fail
                        refine (HD.out _).mono ?_
                        rintro e W5 ⟨rfl, hb5⟩
                        have HB6 : Hid (Below V1.heap.size V1 W5) := HB5.out.trans (hb5.mono HB5.out.size)
                        clear hb5 hc5
                        go_wp2_with fail
                        go_roundw
                        case rel => exact ⟨k + 1, by omega, by go_num, by rw [HN.out]; simp, HB6⟩
                        case measure => simp [intOf]; omega
              · by_cases hk0 : (k : Int) > 0
                · have HN : Hid (F (k + 1) = F k ++ [58] ++ D) := by show _ = _; rw [← HF.out, sTo, if_neg (by omega), if_pos ⟨by omega, by omega⟩, HF.out, HDD.out]
                  have a1 : asS (F k) ++ ⟨#[58]⟩ = asS (F k ++ [58]) := asS_app (F k) [58]
                  have a2 := asS_app (F k ++ [58]) D
                  have s3 : (asS (F k ++ [58])).size ≤ 185 := by rw [asS_size, List.length_append]; simp; omega
                  go_wp2_with fail
                  refine (HD.out _).mono ?_
                  rintro e W5 ⟨rfl, hb5⟩
                  have HB6 : Hid (Below V1.heap.size V1 W5) := HB5.out.trans (hb5.mono HB5.out.size)
                  clear hb5 hc5
                  go_wp2_with fail
                  go_roundw
                  case rel => exact ⟨k + 1, by omega, by go_num, by rw [HN.out]; simp, HB6⟩
                  case measure => simp [intOf]; omega
                · have HN : Hid (F (k + 1) = F k ++ D) := by show _ = _; rw [← HF.out, sTo, if_neg (by omega), if_neg (by omega), HF.out, HDD.out]
                  have a1 := asS_app (F k) D
                  go_wp2_with fail
                  refine (HD.out _).mono ?_
                  rintro e W5 ⟨rfl, hb5⟩
                  have HB6 : Hid (Below V1.heap.size V1 W5) := HB5.out.trans (hb5.mono HB5.out.size)
                  clear hb5 hc5
                  go_wp2_with fail
                  go_roundw
                  case rel => exact ⟨k + 1, by omega, by go_num, by rw [HN.out], HB6⟩
                  case measure => simp [intOf]; omega
            · have hk' : k = 8 := by omega
              subst hk'
              go_wp2_with fail
              go_ret
              exact ⟨by rw [HGOAL.out]; rfl, HR.out.2.1.trans ((HB.out.trans (HB5.out.mono hsz)).mono (by omega))⟩
end Go.Proofs.YtocdjgehjiolhaaGreatDoor
