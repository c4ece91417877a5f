
/- All values of a name: what All of package header does, and the reference's Alike and All; whether texts are alike. -/
import Derived.Test.YtclonnpglikddaaGreatDoorHdGet
import Derived.Test.YtclonnpglikddaaGreatDoorHdArg
namespace Go.Proofs.YtclonnpglikddaaGreatDoor
set_option linter.unusedVariables false
set_option linter.unusedSimpArgs false
open Go.RowKit Go.BigFrame

/-! Rows of texts of one's own. -/
def stvs (l : List (List UInt8)) : List Value := l.map fun s => .string (asS s)
theorem stvs_len (l : List (List UInt8)) : (stvs l).length = l.length := by simp [stvs]
theorem stvs_at (l : List (List UInt8)) (j : Nat) (h : j < l.length) : (stvs l)[j]? = some (.string (asS (l.getD j []))) := by
  simp [stvs, List.getD_eq_getElem?_getD, h]
theorem stvs_app (a b : List (List UInt8)) : stvs (a ++ b) = stvs a ++ stvs b := by simp [stvs]
theorem stK : KCells Tryz.prog 1 75 9 := ⟨Tryz.underlying75, by
  obtain ⟨i, h1, h2, h3, h4⟩ := info_parts (show (Tryz.prog.info? 9).map (fun i => (i.zero, i.size, i.bytes)) = some (some (.string ⟨#[]⟩), 1, 16) from by kernel_rfl)
  exact ⟨i, _, h1, h2, h3, by omega, rfl⟩⟩
def OwnS (w : World) (b : Nat) (v : Value) (l : List (List UInt8)) : Prop := (v = .slice none 0 0 ∧ l = []) ∨ ∃ g cap, v = .slice (some ⟨g, 0, none⟩) l.length cap ∧ OwnK w 1 9 b g l.length cap (stvs l)
theorem OwnS.below {w w' : World} {b : Nat} {v : Value} {l : List (List UInt8)} (h : OwnS w b v l) (hb : Below w.heap.size w w') : OwnS w' b v l := by
  rcases h with h | ⟨g, cap, h1, h2⟩
  · exact .inl h
  · exact .inr ⟨g, cap, h1, h2.below hb (Nat.le_refl _)⟩
theorem OwnS.shape {w : World} {b : Nat} {v : Value} {l : List (List UInt8)} (h : OwnS w b v l) : ∃ A c, v = .slice A l.length c := by
  rcases h with ⟨rfl, rfl⟩ | ⟨g, cap, rfl, h2⟩
  · exact ⟨none, 0, rfl⟩
  · exact ⟨_, cap, rfl⟩
/-- The texts l are answered so. -/
def StrsV (w : World) (v : Value) (l : List (List UInt8)) : Prop := ∃ A c, v = .slice A l.length c ∧ StrsAt w A l
theorem StrsV.below {w w' : World} {v : Value} {l : List (List UInt8)} (h : StrsV w v l) (hb : Below w.heap.size w w') : StrsV w' v l := by
  obtain ⟨A, c, h1, h2⟩ := h
  exact ⟨A, c, h1, h2.below hb (Nat.le_refl _)⟩
theorem OwnS.strs {w : World} {b : Nat} {v : Value} {l : List (List UInt8)} (h : OwnS w b v l) : StrsV w v l := by
  rcases h with ⟨rfl, rfl⟩ | ⟨g, cap, rfl, h2⟩
  · exact ⟨none, 0, rfl, fun h => absurd h (by simp)⟩
  · exact ⟨_, cap, rfl, fun _ => ⟨g, 0, rfl, h2.lt, fun j hj => by rw [Nat.zero_add]; exact h2.at _ _ (stvs_at l j hj)⟩⟩
theorem run_st (ty : TypeId) {w : World} {b : Nat} {v x : Value} {l ys : List (List UInt8)} (h : OwnS w b v l) (hs : Src Tryz.prog 1 75 x ys.length (stvs ys) w) (h0 : 0 < ys.length) (hn : l.length + ys.length ≤ 1000000) (hb : b ≤ w.heap.size) :
    ∃ v' w', (Builtin.append_ #[75, 75] ty #[v, x]).run Tryz.prog w = .ok v' w' ∧ OwnS w' b v' (l ++ ys) ∧ Below b w w' := by
  rcases h with ⟨rfl, rfl⟩ | ⟨g, cap, rfl, h2⟩
  · obtain ⟨cap, w', h1, h2, h3⟩ := run_nilK stK ty x hs h0 (by omega) hb
    exact ⟨_, w', h1, .inr ⟨_, cap, rfl, h2⟩, h3.mono hb⟩
  · obtain ⟨g', cap', w', h1, h3, h4, _⟩ := h2.run_app stK ty x hs (by omega) hb
    refine ⟨_, w', h1, .inr ⟨g', cap', by rw [List.length_append], by rw [List.length_append, stvs_app]; exact h3⟩, h2.grown (Below.refl _ _) hb h4⟩
theorem wpList_st {ops : Array Oper} {rest : List Oper} {o : Oper} {a : Act} {w : World} {Q : Exit → Act → World → Prop} (hgd : o.guard = none) (s x : Operand)
    (ho : o.op = .call { callee := .builtin .append, args := #[s, x], argTypes := #[75, 75] })
    (base : Nat) (v xv : Value) (l ys : List (List UInt8)) (hs : a.eval s = v) (hx : a.eval x = xv) (hown : OwnS w base v l)
    (hA : Src Tryz.prog 1 75 xv ys.length (stvs ys) w) (h0 : 0 < ys.length) (hn : l.length + ys.length ≤ 1000000) (hbase : base ≤ w.heap.size)
    (h : ∀ v' w', OwnS w' base v' (l ++ ys) → Below base w w' → wpList Tryz.prog ops Q rest (a.put o.dst v') w') : wpList Tryz.prog ops Q (o :: rest) a w := by
  refine wpList_plain hgd fun _ hK => ?_
  obtain ⟨v', w', hr, h2, h3⟩ := run_st o.type hown hA h0 hn hbase
  unfold Oper.wp execOp
  simp only [ho, resolve, invoke, builtin, Sem.run_bind, Sem.run_pure, Result.andThen_ok, List.map_toArray, List.map_cons, List.map_nil, hs, hx, hr]
  exact hK _ _ (h v' w' h2 h3)
theorem src_st (w : World) (x : List UInt8) (N : ByteArray) (hN : N = asS x) (c : Nat) : Src Tryz.prog 1 75 (.slice (some ⟨w.heap.size, 0, none⟩) 1 c) [x].length (stvs [x]) (w.alloc (.cells #[.string N] 9)) := by
  subst hN
  exact src_litK stK _ w.heap.size 1 c (stvs [x]) rfl (heap_alloc_new w _) (fun u hu => by
    simp only [stvs, List.map_cons, List.map_nil, List.mem_cons, List.not_mem_nil, or_false] at hu
    subst hu; rfl)
/-! Alike, All. -/
set_option maxHeartbeats 1000000 in
theorem alike_any (a b : List UInt8) (ha : a.length ≤ 1000000) (hb : b.length ≤ 1000000) (w : World) : Calls Tryz.prog 85 #[.string (asS a), .string (asS b)] w fun e w' => e = .returned (.bool (likeH a b)) ∧ Below w.heap.size w w' := by
  have H1 := hid (fun W => refLower_any a W ha)
  have H2 := hid (fun W => refLower_any b W hb)
  have he : ((asS (a.map lowB)).toList == (asS (b.map lowB)).toList) = likeH a b := tl_two _ _
  generalize asS (a.map lowB) = LA at H1 he
  generalize asS (b.map lowB) = LB at H2 he
  generalize asS a = SA at H1 ⊢
  generalize asS b = SB at H2 ⊢
  generalize likeH a b = m at he ⊢
  clear ha hb
  go_enter Tryz.func85, Tryz.ntmps85
  go_wp2_with fail
  refine (H1.out _).mono ?_
  rintro e W1 ⟨rfl, hb1⟩
  have HB1 := hid hb1
  clear hb1
  go_wp2_with fail
  refine (H2.out _).mono ?_
  rintro e W2 ⟨rfl, hb2⟩
  have HB2 := hid (HB1.out.trans (hb2.mono HB1.out.size))
  clear hb2
  go_wp2_with fail
  go_ret
  exact ⟨rfl, HB2.out⟩
theorem all_take9 (l : List HdV) (name : List UInt8) (k : Nat) (h : k < l.length) : allH (l.take (k + 1)) name = allH (l.take k) name ++ (if likeH (l.getD k zeroH).name name then [(l.getD k zeroH).value] else []) := by
  rw [take_hd l k h]
  unfold allH
  rw [List.filter_append, List.map_append]
  congr 1
  rw [List.filter_cons, List.filter_nil]
  split <;> rfl
theorem all_len (l : List HdV) (name : List UInt8) : (allH l name).length ≤ l.length := by
  unfold allH
  rw [List.length_map]
  exact List.length_filter_le _ _
set_option maxHeartbeats 1000000 in
set_option maxRecDepth 100000 in
theorem all9_any (l : List HdV) (name : List UInt8) (A : Option Addr) (c : Nat) (hl : l.length ≤ 100000) (hs : SmallH l) (hn : name.length ≤ 1000000) (w : World) (hA : HdsAt w A l) : Calls Tryz.prog 70 #[.slice A l.length c, .string (asS name)] w fun e w' => ∃ v, e = .returned v ∧ StrsV w' v (allH l name) ∧ Below w.heap.size w w' := by
  have HA := hid hA
  have HSM := hid hs
  have HTK := hid (all_take9 l name)
  have HAL := hid (fun k => Nat.le_trans (all_len (l.take k) name) (by rw [List.length_take]; omega : _ ≤ l.length))
  have HALL : Hid (l.take l.length = l) := List.take_length
  have HLO := hid (fun W => lower_any name W hn)
  have HLX := hid (fun (x : List UInt8) hx W => lower_any x W hx)
  have HCX := hid (fun (x : List UInt8) (hx : x.length ≤ 1000000) W => clone8 (asS x) (by rw [asS_size]; omega) W)
  have HLK : Hid (∀ x : List UInt8, ((asS (x.map lowB)).toList == (asS (name.map lowB)).toList) = likeH x name) := fun x => tl_two _ _
  clear hA hs
  generalize hln : l.length = n at hl HTK HAL HALL ⊢
  have HN := hid hln
  clear hln
  generalize asS (name.map lowB) = LO at HLO HLK
  generalize asS name = NA at HLO ⊢
  go_enter Tryz.func70, Tryz.ntmps70
  go_wp2_with fail
  refine (HLO.out _).mono ?_
  rintro e W0 ⟨rfl, hb0⟩
  have HB0 := hid hb0
  clear hb0
  go_wp2_with fail
  go_loopw [6, 13] (fun v i wr => ∃ k : Nat, i = .int .i64 (k : Int) ∧ Hid (k ≤ n) ∧ Hid (OwnS wr w.heap.size v (allH (l.take k) name)) ∧ Hid (Below w.heap.size w wr)) (fun v i wr => n - (intOf i).toNat)
  case atStart => exact ⟨0, rfl, Nat.zero_le _, .inl ⟨rfl, rfl⟩, HB0⟩
  case round =>
    obtain ⟨k, rfl, HK, HO, HB⟩ := hrel
    by_cases hlt : k < n
    · have hi : (k : Int) < (n : Int) := by omega
      have HQ := hid (HA.out (by have := HN.out; omega))
      obtain ⟨q, o, hq, hqs, hcs⟩ := HQ.out
      have hc := hcs k (by have := HN.out; omega)
      have k1 := (HB.out.cell (p := ⟨q, o + k * 2, none⟩) hqs).trans hc.1
      have HK2 : Hid (∀ W, Below w.heap.size w W → W.cell? ⟨q, o + k * 2 + 1, none⟩ = some (.string (asS (l.getD k zeroH).value))) := fun W hb => (hb.cell (p := ⟨q, o + k * 2 + 1, none⟩) hqs).trans hc.2
      have k2 := HK2.out wr HB.out
      clear hcs hc hqs HQ
      subst hq
      have hsm := HSM.out k (by have := HN.out; omega)
      unfold hdl at hsm
      have HL2 := hid (fun W => HLX.out (l.getD k zeroH).name (by omega) W)
      have HTK2 := hid (HTK.out k hlt)
      have hlen := HAL.out k
      have HC2 := hid (fun W => HCX.out (l.getD k zeroH).value (by omega) W)
      have hlk := HLK.out (l.getD k zeroH).name
      generalize asS ((l.getD k zeroH).name.map lowB) = LN at HL2 hlk
      generalize likeH (l.getD k zeroH).name name = m at hlk HTK2
      generalize asS (l.getD k zeroH).name = N at k1 HL2
      generalize hvv : (l.getD k zeroH).value = vv at k2 HK2 HTK2 HC2
      clear hsm hvv
      obtain ⟨AV, cv, hv⟩ := HO.out.shape
      subst hv
      generalize hAK : allH (l.take k) name = ak at HO HTK2 hlen
      clear hAK
      generalize hV : asS vv = V at k2 HK2 HC2
      have HV := hid hV
      clear hV
      generalize hLL : ak.length = L at HO hlen ⊢
      have HLL := hid hLL
      clear hLL
      cases m
      · have HT3 : Hid (allH (l.take (k + 1)) name = ak) := by show _ = _; rw [HTK2.out]; simp
        go_wp2_with fail
        refine (HL2.out _).mono ?_
        rintro e W ⟨rfl, hb⟩
        have HB2 := hid ((alloc_below HB.out HB.out.size (.cells #[.string N, .string V] 69)).trans (hb.mono (alloc_below HB.out HB.out.size _).size))
        have HO2 := hid ((HO.out.below (alloc_below (Below.refl _ wr) (Nat.le_refl _) (.cells #[.string N, .string V] 69))).below hb)
        clear hb k1 k2
        go_wp2_with fail
        go_roundw
        case rel => exact ⟨k + 1, by go_num, hid (by omega), by rw [HT3.out]; exact HO2, HB2⟩
        case measure => simp [intOf]; omega
      · have HT3 : Hid (allH (l.take (k + 1)) name = ak ++ [vv]) := by show _ = _; rw [HTK2.out]; simp
        go_wp2_with fail
        refine (HL2.out _).mono ?_
        rintro e W ⟨rfl, hb⟩
        have HB2 := hid ((alloc_below HB.out HB.out.size (.cells #[.string N, .string V] 69)).trans (hb.mono (alloc_below HB.out HB.out.size _).size))
        have HO2 := hid ((HO.out.below (alloc_below (Below.refl _ wr) (Nat.le_refl _) (.cells #[.string N, .string V] 69))).below hb)
        have q2 : W.cell? ⟨wr.heap.size, 1, none⟩ = some (.string V) := (hb.cell (p := ⟨wr.heap.size, 1, none⟩) (by simp)).trans (cell_of_row _ _ _ _ _ _ (heap_alloc_new wr _))
        clear hb k1 k2
        go_wp2_with fail
        refine (HC2.out _).mono ?_
        rintro e W3 ⟨rfl, hb⟩
        have HB3 := hid (HB2.out.trans (hb.mono HB2.out.size))
        have HO3 := hid ((HO2.out.below hb).below (alloc_below (Below.refl _ W3) (Nat.le_refl _) (.cells #[.string V] 9)))
        have HB4 := hid (alloc_below HB3.out HB3.out.size (.cells #[.string V] 9))
        have HSR := hid (src_st W3 vv V HV.out.symm 1)
        have HLE : Hid (ak.length + [vv].length ≤ 1000000) := by show _ ≤ _; rw [HLL.out]; simp; omega
        clear hb q2
        go_wp2_with (first
          | (refine wpList_st rfl _ _ rfl w.heap.size _ _ ak [vv] rfl rfl HO3.out HSR.out (by simp) HLE.out HB4.out.size ?_)
          | fail)
        intro v5 W5 hown5 hb5
        have HB5 := hid (HB4.out.trans hb5)
        have HO5 := hid hown5
        clear hown5 hb5
        go_wp2_with fail
        go_roundw
        case rel => exact ⟨k + 1, by go_num, hid (by omega), by rw [HT3.out]; exact HO5, HB5⟩
        case measure => simp [intOf]; omega
    · have hi : ¬ (k : Int) < (n : Int) := by omega
      have HKE : Hid (l.take k = l) := by
        show _ = _
        rw [show k = n from by have := HK.out; omega, HALL.out]
      go_wp2_with fail
      go_ret
      exact ⟨_, rfl, by have := HO.out.strs; rw [HKE.out] at this; exact this, HB.out⟩
set_option maxHeartbeats 1000000 in
set_option maxRecDepth 100000 in
theorem refAll_any (l : List HdV) (name : List UInt8) (A : Option Addr) (c : Nat) (hl : l.length ≤ 100000) (hs : SmallH l) (hn : name.length ≤ 1000000) (w : World) (hA : HdsAt w A l) : Calls Tryz.prog 56 #[.slice A l.length c, .string (asS name)] w fun e w' => ∃ v, e = .returned v ∧ StrsV w' v (allH l name) ∧ Below w.heap.size w w' := by
  have HA := hid hA
  have HSM := hid hs
  have HTK := hid (all_take9 l name)
  have HAL := hid (fun k => Nat.le_trans (all_len (l.take k) name) (by rw [List.length_take]; omega : _ ≤ l.length))
  have HALL : Hid (l.take l.length = l) := List.take_length
  have HLX := hid (fun (x : List UInt8) hx W => alike_any x name hx hn W)
  clear hA hs
  generalize hln : l.length = n at hl HTK HAL HALL ⊢
  have HN := hid hln
  clear hln
  generalize asS name = NA at HLX ⊢
  go_enter Tryz.func56, Tryz.ntmps56
  go_wp2_with fail
  have HB0 := hid (alloc_below (Below.refl w.heap.size w) (Nat.le_refl _) (.cells #[] 9))
  have HO0 : Hid (OwnS (w.alloc (.cells #[] 9)) w.heap.size (.slice (some ⟨w.heap.size, 0, none⟩) 0 0) []) := .inr ⟨_, 0, rfl, OwnK.zero w 1 9 w.heap.size (Nat.le_refl _)⟩
  go_loopw [5, 6] (fun v i wr => ∃ k : Nat, i = .int .i64 (k : Int) ∧ Hid (k ≤ n) ∧ Hid (OwnS wr w.heap.size v (allH (l.take k) name)) ∧ Hid (Below w.heap.size w wr)) (fun v i wr => n - (intOf i).toNat)
  case atStart => exact ⟨0, rfl, Nat.zero_le _, HO0, HB0⟩
  case round =>
    obtain ⟨k, rfl, HK, HO, HB⟩ := hrel
    by_cases hlt : k < n
    · have hi : (k : Int) < (n : Int) := by omega
      have HQ := hid (HA.out (by have := HN.out; omega))
      obtain ⟨q, o, hq, hqs, hcs⟩ := HQ.out
      have hc := hcs k (by have := HN.out; omega)
      have k1 := (HB.out.cell (p := ⟨q, o + k * 2, none⟩) hqs).trans hc.1
      have HK2 : Hid (∀ W, Below w.heap.size w W → W.cell? ⟨q, o + k * 2 + 1, none⟩ = some (.string (asS (l.getD k zeroH).value))) := fun W hb => (hb.cell (p := ⟨q, o + k * 2 + 1, none⟩) hqs).trans hc.2
      have k2 := HK2.out wr HB.out
      clear hcs hc hqs HQ
      subst hq
      have hsm := HSM.out k (by have := HN.out; omega)
      unfold hdl at hsm
      have HL2 := hid (fun W => HLX.out (l.getD k zeroH).name (by omega) W)
      have HTK2 := hid (HTK.out k hlt)
      have hlen := HAL.out k
      generalize likeH (l.getD k zeroH).name name = m at HL2 HTK2
      generalize asS (l.getD k zeroH).name = N at k1 HL2
      generalize hvv : (l.getD k zeroH).value = vv at k2 HK2 HTK2
      clear hsm hvv
      obtain ⟨AV, cv, hv⟩ := HO.out.shape
      subst hv
      generalize hAK : allH (l.take k) name = ak at HO HTK2 hlen
      clear hAK
      generalize hV : asS vv = V at k2 HK2
      have HV := hid hV
      clear hV
      generalize hLL : ak.length = L at HO hlen ⊢
      have HLL := hid hLL
      clear hLL
      cases m
      · have HT3 : Hid (allH (l.take (k + 1)) name = ak) := by show _ = _; rw [HTK2.out]; simp
        go_wp2_with fail
        refine (HL2.out _).mono ?_
        rintro e W ⟨rfl, hb⟩
        have HB2 := hid (HB.out.trans (hb.mono HB.out.size))
        have HO2 := hid (HO.out.below hb)
        clear hb k1 k2
        go_wp2_with fail
        go_roundw
        case rel => exact ⟨k + 1, by go_num, hid (by omega), by rw [HT3.out]; exact HO2, HB2⟩
        case measure => simp [intOf]; omega
      · have HT3 : Hid (allH (l.take (k + 1)) name = ak ++ [vv]) := by show _ = _; rw [HTK2.out]; simp
        go_wp2_with fail
        refine (HL2.out _).mono ?_
        rintro e W3 ⟨rfl, hb⟩
        have HB3 := hid (HB.out.trans (hb.mono HB.out.size))
        have HO3 := hid ((HO.out.below hb).below (alloc_below (Below.refl _ W3) (Nat.le_refl _) (.cells #[.string V] 9)))
        have HB4 := hid (alloc_below HB3.out HB3.out.size (.cells #[.string V] 9))
        have HSR := hid (src_st W3 vv V HV.out.symm 1)
        have HLE : Hid (ak.length + [vv].length ≤ 1000000) := by show _ ≤ _; rw [HLL.out]; simp; omega
        clear hb k1 k2
        have k3 := HK2.out W3 HB3.out
        go_wp2_with (first
          | (refine wpList_st rfl _ _ rfl w.heap.size _ _ ak [vv] rfl rfl HO3.out HSR.out (by simp) HLE.out HB4.out.size ?_)
          | fail)
        intro v5 W5 hown5 hb5
        have HB5 := hid (HB4.out.trans hb5)
        have HO5 := hid hown5
        clear hown5 hb5 k3
        go_wp2_with fail
        go_roundw
        case rel => exact ⟨k + 1, by go_num, hid (by omega), by rw [HT3.out]; exact HO5, HB5⟩
        case measure => simp [intOf]; omega
    · have hi : ¬ (k : Int) < (n : Int) := by omega
      have HKE : Hid (l.take k = l) := by
        show _ = _
        rw [show k = n from by have := HK.out; omega, HALL.out]
      go_wp2_with fail
      go_ret
      exact ⟨_, rfl, by have := HO.out.strs; rw [HKE.out] at this; exact this, HB.out⟩
end Go.Proofs.YtclonnpglikddaaGreatDoor
