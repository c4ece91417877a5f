import Derived.Test.YtgoiafndapemjaaGreatDoorQ06
import Derived.Deep.RegionLaw
import Derived.Laws.IdiomCopy
set_option linter.unusedVariables false
set_option linter.unusedSimpArgs false
set_option maxHeartbeats 1000000
namespace Go.Proofs.YtgoiafndapemjaaGreatDoor
open Go.RowKit
def St.l (s : St) : List UInt32 := [s.a, s.b, s.c, s.d, s.e, s.f, s.g, s.h]
theorem St.cs_eq (s : St) : s.cs = (wvs s.l).toArray := rfl
theorem index36 (cs : Array Value) (k : Nat) (v : Value) (hk : k < 64) (hv : cs[k]? = some v) (w : World) : (Instr.index 108 (.agg cs) (.int .i64 (k : Int))).run Tryz.prog w = .ok v w := by
 have h1 : (0 : Int) ≤ (k : Int) ∧ (k : Int) < 64 := by omega
 simp [Instr.index, asIntOf, run_underlying Tryz.underlying108, part, Tryz.sizeOf106, Tryz.isAgg106, hv]; omega
theorem index35 (cs : Array Value) (k : Nat) (v : Value) (hk : k < 8) (hv : cs[k]? = some v) (w : World) : (Instr.index 107 (.agg cs) (.int .i64 (k : Int))).run Tryz.prog w = .ok v w := by
 have h1 : (0 : Int) ≤ (k : Int) ∧ (k : Int) < 8 := by omega
 simp [Instr.index, asIntOf, run_underlying Tryz.underlying107, part, Tryz.sizeOf106, Tryz.isAgg106, hv]; omega
theorem wvs_at (l : List UInt32) (j : Nat) (h : j < l.length) : (wvs l).toArray[j]? = some (.int .u32 (nv (l.getD j 0))) := by
 simp [wvs, List.getD_eq_getElem?_getD, h]
def TabS (w : World) : Prop := w.rangeAt 0 0 (wvs H0.l) ∧ w.rangeAt 1 0 (wvs KSs)
theorem TabS.lt {w : World} (h : TabS w) : 1 < w.heap.size := block_lt_of_cell (h.2 0 _ rfl)
theorem TabS.below {B : Nat} {w w' : World} (h : TabS w) (hb : Below B w w') (hB : 1 < B) : TabS w' :=
 ⟨fun j v hv => by rw [hb.cell (p := ⟨0, 0 + j, none⟩) (by simp; omega)]; exact h.1 j v hv, fun j v hv => by rw [hb.cell (p := ⟨1, 0 + j, none⟩) (by simp; omega)]; exact h.2 j v hv⟩
theorem KS_len : KSs.length = 64 := rfl
theorem TabS.k {w : World} (h : TabS w) (j : Nat) (hj : j < 64) : w.cell? ⟨1, j, none⟩ = some (.int .u32 (nv (KSs.getD j 0))) := by
 have := h.2 j (.int .u32 (nv (KSs.getD j 0))) (by have := wvs_at KSs j (by rw [KS_len]; exact hj); simpa using this)
 simpa using this
theorem size36 : (Tryz.prog.info? 108).map (·.size) = some 64 := by kernel_rfl
theorem size35 : (Tryz.prog.info? 107).map (·.size) = some 8 := by kernel_rfl
theorem size49 : (Tryz.prog.info? 159).map (·.size) = some 64 := by kernel_rfl
theorem size3 (w : World) (A B C : Obj) : (((w.alloc A).alloc B).alloc C).heap.size = w.heap.size + 3 := by
 show (((w.heap.push A).push B).push C).size = _
 simp
theorem below3 (w : World) (A B C : Obj) : Below w.heap.size w (((w.alloc A).alloc B).alloc C) :=
 (((Below.refl _ _).alloc (Nat.le_refl _) _).alloc (by simp) _).alloc (by simp; omega) _
structure Four (w W : World) (A B C D : Obj) (M : Nat) : Prop where
 a : W.heap[w.heap.size]? = some A
 b : W.heap[w.heap.size + 1]? = some B
 c : W.heap[w.heap.size + 1 + 1]? = some C
 d : W.heap[M]? = some D
 lt : w.heap.size + 3 ≤ M
 ltM : M < W.heap.size
 bel : Below w.heap.size w W
theorem four_mk {w w1 W : World} {A B C : Obj} {X Y : Array Value} {t : TypeId} (h1 : Below (((w.alloc A).alloc B).alloc C).heap.size (((w.alloc A).alloc B).alloc C) w1)
  (hO : Only w1.heap.size (w1.alloc (.cells X t)) W) (hW : W.heap[w1.heap.size]? = some (.cells (over X 0 Y.toList) t (0, 0))) (hs : Y.size = X.size) : Four w W A B C (.cells Y t (0, 0)) w1.heap.size := by
 have hz := h1.size
 rw [size3] at hz
 have old : ∀ k, k < w.heap.size + 3 → W.heap[k]? = (((w.alloc A).alloc B).alloc C).heap[k]? := fun k hk => by
  rw [hO.block k (by omega), Below.heap_alloc w1 _ k (by omega), h1.block k (by rw [size3]; exact hk)]
 refine ⟨?_, ?_, ?_, ?_, hz, ?_, ?_⟩
 ·rw [old _ (by omega)]; exact heap3_0 _ _ _ _
 ·rw [old _ (by omega)]; exact heap3_1 _ _ _ _
 ·rw [old _ (by omega)]; exact heap3_2 _ _ _ _
 ·rw [hW, over_whole X Y hs]
 ·rw [hO.size]; simp
 ·refine (below3 w A B C).trans (Below.mono ?_ (Nat.le_of_lt (by rw [size3]; omega) : w.heap.size ≤ (((w.alloc A).alloc B).alloc C).heap.size))
  exact (h1.alloc (by rw [size3]; exact hz) _).trans (hO.below (by rw [size3]; exact hz))
theorem mix_at (T S : List UInt32) (n k : Nat) (hT : T.length = n) (hS : S.length = n) (hk : k < n) : (T.take k ++ S.drop k).getD k 0 = S.getD k 0 := by
 rw [List.getD_eq_getElem?_getD, List.getElem?_append_right (by simp; omega)]
 have e : k - (T.take k).length = 0 := by simp; omega
 rw [e, List.getElem?_drop, List.getD_eq_getElem?_getD, Nat.add_zero]
theorem mix_set (T S : List UInt32) (n k : Nat) (hT : T.length = n) (hS : S.length = n) (hk : k < n) : (wvs (T.take k ++ S.drop k)).toArray.setIfInBounds k (.int .u32 (nv (T.getD k 0))) = (wvs (T.take (k + 1) ++ S.drop (k + 1))).toArray := by
 have e1 : (T.take k ++ S.drop k).set k (T.getD k 0) = T.take (k + 1) ++ S.drop (k + 1) := by
  rw [List.set_append_right _ _ (by simp; omega)]
  have e : k - (T.take k).length = 0 := by simp; omega
  rw [e, List.drop_eq_getElem_cons (by omega), List.set_cons_zero, List.take_succ_eq_append_getElem (by omega)]
  have e2 : T.getD k 0 = T[k] := by simp [List.getD_eq_getElem?_getD, hT, hk]
  rw [e2]
  simp only [List.append_assoc, List.cons_append, List.nil_append]
 rw [← e1]
 simp [wvs, List.map_set]
theorem mix_len (T S : List UInt32) (n k : Nat) (hT : T.length = n) (hS : S.length = n) : (T.take k ++ S.drop k).length = n := by simp; omega
theorem addS_at (s S : St) (k : Nat) (hk : k < 8) : (addS s S).l.getD k 0 = s.l.getD k 0 + S.l.getD k 0 := by
 match k, hk with
 | 0, _ => rfl
 | 1, _ => rfl
 | 2, _ => rfl
 | 3, _ => rfl
 | 4, _ => rfl
 | 5, _ => rfl
 | 6, _ => rfl
 | 7, _ => rfl
theorem cs_one (s : St) : s.cs.all (·.oneCell') = true := wvs_one s.l
theorem cs_size (s : St) : s.cs.size = 8 := rfl
theorem size35' (s : St) : (Tryz.prog.info? 107).map (·.size) = some s.cs.size := by rw [cs_size]; exact size35
theorem mix_full (T s : St) (j : Nat) (h : j = 8) : (wvs (T.l.take j ++ s.l.drop j)).toArray = T.cs := by
 subst h
 have h1 : T.l.take 8 = T.l := List.take_of_length_le (Nat.le_refl 8)
 have h2 : s.l.drop 8 = [] := List.drop_of_length_le (Nat.le_refl 8)
 rw [h1, h2, List.append_nil, St.cs_eq]
theorem over8 (X : Array Value) (s : St) (h : X.size = 8) : over X 0 s.cs.toList = s.cs := over_whole X s.cs (by rw [h, cs_size])
theorem rnd_a (S : St) (y x : UInt32) : Value.int .u32 (nv (((((S.h + big1 S.e) + ((S.e &&& S.f) ^^^ ((S.e ^^^ 4294967295) &&& S.g))) + y) + x) + (big0 S.a + (((S.a &&& S.b) ^^^ (S.a &&& S.c)) ^^^ (S.b &&& S.c))))) = .int .u32 (nv (rnd S y x).a) := by
 simp only [rnd, tOne, tTwo, choice, most]
theorem rnd_b (S : St) (y x : UInt32) : Value.int .u32 (nv S.a) = .int .u32 (nv (rnd S y x).b) := by simp only [rnd]
theorem rnd_c (S : St) (y x : UInt32) : Value.int .u32 (nv S.b) = .int .u32 (nv (rnd S y x).c) := by simp only [rnd]
theorem rnd_d (S : St) (y x : UInt32) : Value.int .u32 (nv S.c) = .int .u32 (nv (rnd S y x).d) := by simp only [rnd]
theorem rnd_e (S : St) (y x : UInt32) : Value.int .u32 (nv (S.d + ((((S.h + big1 S.e) + ((S.e &&& S.f) ^^^ ((S.e ^^^ 4294967295) &&& S.g))) + y) + x))) = .int .u32 (nv (rnd S y x).e) := by
 simp only [rnd, tOne, choice]
theorem rnd_f (S : St) (y x : UInt32) : Value.int .u32 (nv S.e) = .int .u32 (nv (rnd S y x).f) := by simp only [rnd]
theorem rnd_g (S : St) (y x : UInt32) : Value.int .u32 (nv S.f) = .int .u32 (nv (rnd S y x).g) := by simp only [rnd]
theorem rnd_h (S : St) (y x : UInt32) : Value.int .u32 (nv S.g) = .int .u32 (nv (rnd S y x).h) := by simp only [rnd]
theorem mixE (x : UInt32) (w : World) : Calls Tryz.prog 171 #[.int .u32 (nv x), .int .i64 6, .int .i64 11, .int .i64 25] w fun e w' => e = .returned (.int .u32 (nv (big1 x))) ∧ w' = w :=
 mixed_any x 6 11 25 w ⟨by omega, by omega⟩ ⟨by omega, by omega⟩ ⟨by omega, by omega⟩
theorem mixA (x : UInt32) (w : World) : Calls Tryz.prog 171 #[.int .u32 (nv x), .int .i64 2, .int .i64 13, .int .i64 22] w fun e w' => e = .returned (.int .u32 (nv (big0 x))) ∧ w' = w :=
 mixed_any x 2 13 22 w ⟨by omega, by omega⟩ ⟨by omega, by omega⟩ ⟨by omega, by omega⟩
set_option maxRecDepth 100000 in
set_option maxHeartbeats 2000000 in
theorem turned_any (s : St) (b : List UInt8) (hb : b.length = 64) (w : World) (hT : TabS w) :
  Calls Tryz.prog 147 #[.agg s.cs, .agg (bcs b)] w fun e w' => e = .returned (.agg (turnS s b).cs) ∧ Below w.heap.size w w' := by
 have H31 := hid (fun W => schedule_any b hb W)
 have HTT : Hid (∀ R, R = rnds KSs (wl b 64) s 64 → turnS s b = addS s R) := fun R hR => by rw [hR]; rfl
 generalize turnS s b = T at HTT ⊢
 have HLn : Hid ((wl b 64).length = 64) := wl_len b 64
 generalize wl b 64 = L at H31 HTT HLn
 have HR : Hid (∀ k S, k = 64 → S = rnds KSs L s k → T = addS s S) := fun k S hk hS => HTT.out S (by rw [hS, hk])
 clear HTT
 have HI49 : Hid ((Tryz.prog.info? 159).map (·.size) = some (bcs b).size) := by show _ = _; rw [size49, bcs_size, hb]
 have HI36 : Hid ((Tryz.prog.info? 108).map (·.size) = some (wvs L).toArray.size) := by show _ = _; rw [size36]; simp [wvs, HLn.out]
 have HLs : Hid ((wvs L).toArray.size = 64) := by show _ = _; simp [wvs, HLn.out]
 have HO := hid (wvs_one L)
 have HT := hid hT
 clear hb hT
 go_enter Tryz.func147, Tryz.ntmps147
 go_wp2_with (refine wpList_load_row rfl 159 (.tmp 3) rfl (w.heap.size + 1) rfl 159 (bcs b) (0, 0) (.array 64 5) (heap3_1 _ _ _ _) Tryz.underlying159 rfl HI49.out ?_)
 refine (H31.out _).mono ?_
 rintro e w1 ⟨rfl, hb1⟩
 have HB1 := hid hb1
 clear hb1
 go_wp2_with (refine wpList_store_abs rfl 108 (.tmp 5) (.tmp 23) rfl w1.heap.size 0 (wvs L).toArray rfl rfl 108 _ (heap_alloc_new w1 _) (by rw [HLs.out]; exact Nat.le_refl _) HI36.out HO.out ?_; intro W hO hW)
 have F := four_mk (Y := (wvs L).toArray) HB1.out hO hW (by rw [HLs.out]; rfl)
 have HF := hid F
 have HTW := hid (HT.out.below F.bel HT.out.lt)
 have hc : ∀ j v, s.cs[j]? = some v → W.cell? ⟨w.heap.size, j, none⟩ = some v := fun j v hv => by
  rw [cell_of_row _ _ _ _ _ _ F.a]; exact hv
 have c0 : W.cell? ⟨w.heap.size, 0, none⟩ = some (.int .u32 (nv s.a)) := hc 0 _ rfl
 have c1 : W.cell? ⟨w.heap.size, 1, none⟩ = some (.int .u32 (nv s.b)) := hc 1 _ rfl
 have c2 : W.cell? ⟨w.heap.size, 2, none⟩ = some (.int .u32 (nv s.c)) := hc 2 _ rfl
 have c3 : W.cell? ⟨w.heap.size, 3, none⟩ = some (.int .u32 (nv s.d)) := hc 3 _ rfl
 have c4 : W.cell? ⟨w.heap.size, 4, none⟩ = some (.int .u32 (nv s.e)) := hc 4 _ rfl
 have c5 : W.cell? ⟨w.heap.size, 5, none⟩ = some (.int .u32 (nv s.f)) := hc 5 _ rfl
 have c6 : W.cell? ⟨w.heap.size, 6, none⟩ = some (.int .u32 (nv s.g)) := hc 6 _ rfl
 have c7 : W.cell? ⟨w.heap.size, 7, none⟩ = some (.int .u32 (nv s.h)) := hc 7 _ rfl
 clear hc F hO hW HB1 H31 HT HI49
 generalize w1.heap.size = M at HF ⊢
 go_quiet (fail)
 go_wp2_with fail
 go_quiet (fail)
 clear c0 c1 c2 c3 c4 c5 c6 c7
 go_wp2_with (refine wpList_load_row rfl 108 (.tmp 5) rfl M rfl 108 (wvs L).toArray (0, 0) (.array 64 106) HF.out.d Tryz.underlying108 rfl HI36.out ?_)
 go_loopw [6, 7, 8, 9, 10, 11, 12, 13, 41] (fun va vb vc vd ve vf vg vh i wr => ∃ (k : Nat) (S : St), k ≤ 64 ∧ i = .int .i64 k ∧ va = .int .u32 (nv S.a) ∧ vb = .int .u32 (nv S.b) ∧ vc = .int .u32 (nv S.c) ∧ vd = .int .u32 (nv S.d) ∧ ve = .int .u32 (nv S.e) ∧ vf = .int .u32 (nv S.f) ∧ vg = .int .u32 (nv S.g) ∧ vh = .int .u32 (nv S.h) ∧ Hid (S = rnds KSs L s k) ∧ Hid (∃ n, wr = W.drewN n)) (fun _ _ _ _ _ _ _ _ i _ => 64 - (intOf i).toNat)
 case atStart => exact ⟨0, s, by omega, rfl, rfl, rfl, rfl, rfl, rfl, rfl, rfl, rfl, rfl, _, rfl⟩
 case round =>
  obtain ⟨k, S, hk, rfl, rfl, rfl, rfl, rfl, rfl, rfl, rfl, rfl, HS, HW⟩ := hrel
  by_cases hlt : k < 64
  ·obtain ⟨x, ex⟩ : ∃ x, Hid (x = L.getD k 0) := ⟨_, rfl⟩
   obtain ⟨y, ey⟩ : ∃ y, Hid (y = KSs.getD k 0) := ⟨_, rfl⟩
   have hidx : ∀ W, (Instr.index 108 (.agg (wvs L).toArray) (.int .i64 (k : Int))).run Tryz.prog W = .ok (.int .u32 (nv x)) W := fun W => index36 _ k _ hlt (by rw [wvs_at L k (by rw [HLn.out]; exact hlt), ex.out]) W
   have ck : wr.cell? ⟨1, k, none⟩ = some (.int .u32 (nv y)) := by
    obtain ⟨n, hn⟩ := HW.out
    rw [hn, World.cell?_drewN, HTW.out.k k hlt, ey.out]
   have hx := nv_xor
   have ha := nv_add
   have hand := nv_and
   have hnot : ∀ a, bits .xor .u32 IntKind.u32.max (nv a) = nv (a ^^^ 4294967295) := nv_not
   go_wp2_with fail
   go_quiet ((go_at_call 171; exact Calls.quiet_of_same (mixE _ _)))
   go_wp2_with (go_at_call 171; refine (mixA _ _).mono ?_; rintro e w' ⟨rfl, rfl⟩)
   go_roundw
   case rel => exact ⟨k + 1, rnd S y x, by omega, by go_num, (by rw [nv_add]; exact rnd_a S y x), rnd_b S y x, rnd_c S y x, rnd_d S y x, (by rw [nv_add]; exact rnd_e S y x), rnd_f S y x, rnd_g S y x, rnd_h S y x, by show _ = _; rw [rnds, ← HS.out, ← ex.out, ← ey.out], by obtain ⟨n, hn⟩ := HW.out; exact ⟨n + nq, by rw [hn, World.drewN_drewN]⟩⟩
   case measure => simp [intOf]; omega
  ·have HTT : Hid (T = addS s S) := HR.out k S (by omega) HS.out
   clear HR HS HTW HLn HLs HO HI36
   go_wp2_with fail
   obtain ⟨X, hX⟩ : ∃ X : Array Value, Hid (X = (wvs S.l).toArray) := ⟨_, rfl⟩
   rw [show (#[Value.int .u32 (nv S.a), .int .u32 (nv S.b), .int .u32 (nv S.c), .int .u32 (nv S.d), .int .u32 (nv S.e), .int .u32 (nv S.f), .int .u32 (nv S.g), .int .u32 (nv S.h)] : Array Value) = X from hX.out.symm]
   go_loopw [102] (fun i wr => ∃ k : Nat, k ≤ 8 ∧ i = .int .i64 k ∧ Hid (wr.heap[w.heap.size]? = some (.cells (wvs (T.l.take k ++ s.l.drop k)).toArray 107 (0, 0))) ∧ Hid (Only w.heap.size W wr)) (fun i _ => 8 - (intOf i).toNat)
   case atStart =>
    obtain ⟨n, hn⟩ := HW.out
    exact ⟨0, by omega, rfl, by rw [hn]; exact HF.out.a, by rw [hn]; exact ⟨rfl, rfl, rfl, rfl, fun _ _ => rfl⟩⟩
   case round =>
    obtain ⟨j, hj, rfl, HA, HOn⟩ := hrel
    by_cases hj8 : j < 8
    ·obtain ⟨x, ex⟩ : ∃ x, Hid (x = S.l.getD j 0) := ⟨_, rfl⟩
     obtain ⟨y, ey⟩ : ∃ y, Hid (y = s.l.getD j 0) := ⟨_, rfl⟩
     have HV : Hid (T.l.getD j 0 = y + x) := by show _ = _; rw [HTT.out, addS_at _ _ _ hj8, ex.out, ey.out]
     have hidx : ∀ W, (Instr.index 107 (.agg X) (.int .i64 (j : Int))).run Tryz.prog W = .ok (.int .u32 (nv x)) W := fun W => index35 _ j _ hj8 (by rw [hX.out, wvs_at S.l j hj8, ex.out]) W
     have cj : wr.cell? ⟨w.heap.size, j, none⟩ = some (.int .u32 (nv y)) := by
      rw [cell_of_row _ _ _ _ _ _ HA.out, wvs_at _ _ (by rw [mix_len T.l s.l 8 j rfl rfl]; exact hj8), mix_at T.l s.l 8 j rfl rfl hj8, ey.out]
     have fj : wr.frozen? ⟨w.heap.size, j, none⟩ = false := frozen_of_row _ _ _ _ _ HA.out
     have ha := nv_add
     go_wp2_with fail
     go_roundw
     case rel =>
      refine ⟨j + 1, by omega, by go_num, ?_, ?_⟩
      ·show _ = _
       rw [heap_setCell_same _ _ _ _ _ _ HA.out, ← mix_set T.l s.l 8 j rfl rfl hj8, HV.out]
      ·have := HOn.out
       exact ⟨this.os, this.tape, this.output, by rw [← this.size]; simp [World.setCell], fun k hk => (heap_setCell_other _ _ _ _ hk).trans (this.block k hk)⟩
     case measure => simp [intOf]; omega
    ·have h0 := HA.out
     rw [mix_full T s j (by omega)] at h0
     have H0 := hid h0
     have HZ := hid ((HOn.out.block (w.heap.size + 1 + 1) (by omega)).trans HF.out.c)
     have HBW := hid (HF.out.bel.trans (HOn.out.below (Nat.le_refl _)))
     have HOT := hid (cs_one T)
     have HI35 := hid (size35' T)
     have HT8 : Hid (T.cs.size = 8) := cs_size T
     clear h0 HA HOn HF HW HTT
     go_wp2_with (first
      | (refine wpList_load_row rfl 107 (.tmp 2) rfl w.heap.size rfl 107 T.cs (0, 0) (.array 8 106) H0.out Tryz.underlying107 rfl HI35.out ?_)
      | (refine wpList_store_abs rfl 107 (.tmp 4) (.tmp 113) rfl (w.heap.size + 1 + 1) 0 T.cs rfl rfl 107 _ HZ.out (by rw [HT8.out]; exact Nat.le_refl 8) HI35.out HOT.out ?_; intro W2 hO2 hW2))
     rw [over8 _ T (by rfl)] at hW2
     exact bodyPost_ret (v := .agg T.cs) (results_cell_row (p := 4) (ty := 107) Tryz.results147 _ _ (w.heap.size + 1 + 1) 107 _ (0, 0) (.array 8 106) rfl hW2 Tryz.underlying107 rfl HI35.out) rfl ⟨rfl, HBW.out.trans (hO2.below (by omega))⟩
def bytesOf (x : UInt32) : List UInt8 := [UInt8.ofNat (x.toNat / 16777216), UInt8.ofNat (x.toNat / 65536), UInt8.ofNat (x.toNat / 256), UInt8.ofNat x.toNat]
def digS (s : St) : List UInt8 := s.l.flatMap bytesOf
theorem bytes_len (l : List UInt32) : (l.flatMap bytesOf).length = 4 * l.length := by
 induction l with
 | nil => rfl
 | cons x r ih => rw [List.flatMap_cons, List.length_append, ih, List.length_cons]; show 4 + 4 * r.length = _; omega
theorem dig_lenS (s : St) : (digS s).length = 32 := bytes_len s.l
theorem byte_eq (x : UInt32) (n : Nat) : nv x / (n : Int) % 256 = ((UInt8.ofNat (x.toNat / n)).toNat : Int) := by
 unfold nv
 rw [UInt8.toNat_ofNat']
 simp
theorem put4_eq (w : World) (g o : Nat) (x : UInt32) : put4 w g o x = w.setCells g o (bvs (bytesOf x)) := by
 have h1 : nv x / 16777216 % 256 = ((UInt8.ofNat (x.toNat / 16777216)).toNat : Int) := byte_eq x 16777216
 have h2 : nv x / 65536 % 256 = ((UInt8.ofNat (x.toNat / 65536)).toNat : Int) := byte_eq x 65536
 have h3 : nv x / 256 % 256 = ((UInt8.ofNat (x.toNat / 256)).toNat : Int) := byte_eq x 256
 have h4 : nv x % 256 = ((UInt8.ofNat x.toNat).toNat : Int) := by
  have := byte_eq x 1
  simpa using this
 unfold put4
 rw [h1, h2, h3, h4]
 rfl
theorem put4_row {w : World} {g : Nat} {t : TypeId} (a z c : List UInt8) (x : UInt32) (hz : z.length = 4) (h : w.heap[g]? = some (.cells (bcs (a ++ (z ++ c))) t (0, 0))) (o : Nat) (ho : o = a.length) :
  (put4 w g o x).heap[g]? = some (.cells (bcs (a ++ (bytesOf x ++ c))) t (0, 0)) ∧ Only g w (put4 w g o x) := by
 rw [put4_eq]
 refine ⟨?_, only_setCells g _ o w⟩
 rw [setCells_heap g t _ o w _ h]
 have := over_mid (bvs z) (bvs (bytesOf x)) (bvs a) (bvs c) (by rw [bvs_len, bvs_len, hz]; rfl)
 rw [bvs_len, ← ho] at this
 have e1 : bcs (a ++ (z ++ c)) = (bvs a ++ (bvs z ++ bvs c)).toArray := by simp [bcs, bvs]
 have e2 : bcs (a ++ (bytesOf x ++ c)) = (bvs a ++ (bvs (bytesOf x) ++ bvs c)).toArray := by simp only [bcs, bvs, List.map_append]
 rw [e1, this, e2]
theorem size24 : (Tryz.prog.info? 74).map (·.size) = some 32 := by kernel_rfl
theorem size24' (b : List UInt8) (h : b.length = 32) : (Tryz.prog.info? 74).map (·.size) = some (bcs b).size := by rw [size24, bcs_size, h]
theorem size49' (b : List UInt8) (h : b.length = 64) : (Tryz.prog.info? 159).map (·.size) = some (bcs b).size := by rw [size49, bcs_size, h]
theorem zer_split (n : Nat) (h : 4 ≤ n) : zer n = zer 4 ++ zer (n - 4) := by
 unfold zer; rw [List.replicate_append_replicate]; congr 1; omega
def digTo (s : St) (k : Nat) : List UInt8 := (s.l.take k).flatMap bytesOf
theorem digTo_len (s : St) (k : Nat) (h : k ≤ 8) : (digTo s k).length = 4 * k := by
 unfold digTo; rw [bytes_len, List.length_take]; show 4 * min k 8 = _; omega
theorem digTo_succ (s : St) (k : Nat) (h : k < 8) : digTo s (k + 1) = digTo s k ++ bytesOf (s.l.getD k 0) := by
 unfold digTo
 have h' : k < s.l.length := h
 rw [List.take_succ_eq_append_getElem h', List.flatMap_append]
 simp [List.getD_eq_getElem?_getD, h']
theorem digTo_full (s : St) (k : Nat) (h : k = 8) : digTo s k = digS s := by
 subst h
 unfold digTo digS
 rw [List.take_of_length_le (Nat.le_refl 8)]
def DigAt (s : St) (w wr : World) (k : Nat) : Prop :=
 wr.heap[w.heap.size + 1]? = some (.cells (bcs (zer 32)) 74 (0, 0)) ∧ wr.heap[w.heap.size + 1 + 1]? = some (.cells (bcs (digTo s k ++ zer (32 - 4 * k))) 74 (0, 0)) ∧ Below w.heap.size w wr
set_option maxRecDepth 100000 in
theorem digest_any (s : St) (w : World) :
  Calls Tryz.prog 149 #[.agg s.cs] w fun e w' => e = .returned (.agg (bcs (digS s))) ∧ Below w.heap.size w w' := by
 have HI35 := hid (size35' s)
 obtain ⟨X, hX⟩ : ∃ X : Array Value, Hid (X = s.cs) := ⟨_, rfl⟩
 have HX : Hid (∀ j, j < 8 → X[j]? = some (.int .u32 (nv (s.l.getD j 0)))) := fun j hj => by rw [hX.out, St.cs_eq]; exact wvs_at s.l j hj
 rw [← hX.out] at HI35 ⊢
 clear hX
 have HD : Hid (∀ k, k = 8 → digTo s k = digS s) := fun k => digTo_full s k
 have HDL := hid (dig_lenS s)
 generalize digS s = D at HD HDL ⊢
 go_enter Tryz.func149, Tryz.ntmps149
 go_wp2_with (refine wpList_load_row rfl 107 (.tmp 1) rfl w.heap.size rfl 107 X (0, 0) (.array 8 106) (heap3_0 _ _ _ _) Tryz.underlying107 rfl HI35.out ?_)
 go_loopw [7] (fun i wr => ∃ k : Nat, k ≤ 8 ∧ i = .int .i64 k ∧ Hid (DigAt s w wr k)) (fun i _ => 8 - (intOf i).toNat)
 case atStart =>
  refine ⟨0, by omega, rfl, ?_, ?_, ?_⟩
  ·exact heap3_1 _ _ _ _
  ·exact heap3_2 _ _ _ _
  ·exact below3 _ _ _ _
 case round =>
  obtain ⟨k, hk, rfl, HS⟩ := hrel
  by_cases hlt : k < 8
  ·obtain ⟨x, ex⟩ : ∃ x, Hid (x = s.l.getD k 0) := ⟨_, rfl⟩
   have hidx : ∀ W, (Instr.index 107 (.agg X) (.int .i64 (k : Int))).run Tryz.prog W = .ok (.int .u32 (nv x)) W := fun W => index35 _ k _ hlt (by rw [HX.out k hlt, ex.out]) W
   have hsl := slice_from (P := Tryz.prog) 74 32 5 Tryz.underlying74 Tryz.sizeOf5 (w.heap.size + 1 + 1) 0 (4 * k) (4 * (k : Int)) (by omega) (by omega)
   simp only [Nat.zero_add] at hsl
   have HN : Hid (digTo s k ++ zer (32 - 4 * k) = digTo s k ++ (zer 4 ++ zer (32 - 4 * (k + 1)))) := by
    show _ = _
    rw [zer_split (32 - 4 * k) (by omega)]
    rw [show 32 - 4 * (k + 1) = 32 - 4 * k - 4 from by omega]
   have h2 := HS.out.2.1
   rw [HN.out] at h2
   have H2 := hid h2
   clear h2
   have HZ : Hid (4 * k + 4 ≤ (bcs (digTo s k ++ (zer 4 ++ zer (32 - 4 * (k + 1))))).size) := by
    show _ ≤ _
    rw [bcs_size, List.length_append, List.length_append, digTo_len s k hk]; simp [zer]
   go_wp2_with (go_at_call 148; refine (putWord_any _ _ _ _ x _ (by omega) _ 74 H2.out HZ.out).mono ?_; rintro e w' ⟨rfl, rfl⟩)
   have hp := put4_row (digTo s k) (zer 4) (zer (32 - 4 * (k + 1))) x rfl H2.out (4 * k) (digTo_len s k hk).symm
   go_roundw
   case rel =>
    refine ⟨k + 1, by omega, by go_num, ?_, ?_, ?_⟩
    ·rw [hp.2.block _ (by omega)]; exact HS.out.1
    ·rw [hp.1, digTo_succ s k hlt, List.append_assoc, ex.out]
    ·exact HS.out.2.2.trans (hp.2.below (by omega))
   case measure => simp [intOf]; omega
  ·obtain ⟨h1, h2, h3⟩ := HS.out
   rw [HD.out k (by omega), show 32 - 4 * k = 0 from by omega, show zer 0 = [] from rfl, List.append_nil] at h2
   have H1 := hid h1
   have H2 := hid h2
   have H3 := hid h3
   have HI := hid (size24' D HDL.out)
   have HO := hid (bvs_one D)
   clear h1 h2 h3 HS
   go_wp2_with (first
    | (refine wpList_load_row rfl 74 (.tmp 3) rfl (w.heap.size + 1 + 1) rfl 74 (bcs D) (0, 0) (.array 32 5) H2.out Tryz.underlying74 rfl HI.out ?_)
    | (refine wpList_store_abs rfl 74 (.tmp 2) (.tmp 17) rfl (w.heap.size + 1) 0 (bcs D) rfl rfl 74 _ H1.out (by rw [bcs_size, bcs_size, HDL.out]; exact Nat.le_refl 32) HI.out HO.out ?_; intro W2 hO2 hW2))
   rw [over_bytes _ D (by rw [bcs_size, HDL.out]; rfl)] at hW2
   exact bodyPost_ret (v := .agg (bcs D)) (results_cell_row (p := 2) (ty := 74) Tryz.results149 _ _ (w.heap.size + 1) 74 _ (0, 0) (.array 32 5) rfl hW2 Tryz.underlying74 rfl HI.out) rfl ⟨rfl, H3.out.trans (hO2.below (by omega))⟩
def hcsS (s : St) (r : List UInt8) (n : Nat) (m : Bool) : List Value := wvs s.l ++ (bvs r ++ [Value.int .i64 n, .bool m])
theorem hcs_len (s : St) (r : List UInt8) (n : Nat) (m : Bool) (h : r.length = 64) : (hcsS s r n m).length = 74 := by
 simp [hcsS, wvs, bvs, St.l, h]
theorem built_new : Tryz.prog.built 161 [(0, .agg (wvs H0.l).toArray), (3, .bool true)] = some (hcsS H0 (zer 64) 0 true).toArray := by kernel_rfl
theorem built_rest : Tryz.prog.built 159 [] = some (bcs (zer 64)) := by kernel_rfl
set_option maxRecDepth 100000 in
theorem new_any (w : World) (hT : TabS w) :
  Calls Tryz.prog 116 #[] w fun e w' => e = .returned (.pointer (some ⟨w.heap.size, 0, none⟩)) ∧ w' = w.alloc (.cells (hcsS H0 (zer 64) 0 true).toArray 161) := by
 have HB := hid built_new
 have HR : Hid (w.rangeAt 0 0 (wvs H0.l)) := hT.1
 have HS : Hid ((Tryz.prog.info? 107).map (·.size) = some (wvs H0.l).length) := size35
 clear hT
 generalize (hcsS H0 (zer 64) 0 true).toArray = C at HB ⊢
 generalize wvs H0.l = L at HB HR HS
 go_enter Tryz.func116, Tryz.ntmps116
 go_wp2_with (first
  | (refine wpList_load_mid rfl 107 (.global 0) rfl 0 0 rfl L (.array 8 106) HR.out Tryz.underlying107 rfl HS.out ?_)
  | (refine wpList_built rfl 161 _ rfl C HB.out ?_))
 go_ret
 exact ⟨rfl, rfl⟩
theorem hash_n {w : World} {g : Nat} {s : St} {r : List UInt8} {n : Nat} {m : Bool} (hr : r.length = 64) (h : w.heap[g]? = some (.cells (hcsS s r n m).toArray 161 (0, 0))) : w.cell? ⟨g, 72, none⟩ = some (.int .i64 n) := by
 rw [cell_of_row _ _ _ _ _ _ h]
 have h1 : (wvs s.l).length = 8 := rfl
 have h2 : (bvs r).length = 64 := by rw [bvs_len, hr]
 unfold hcsS
 rw [List.getElem?_toArray, List.getElem?_append_right (by omega), List.getElem?_append_right (by omega), h1, h2]
 rfl
theorem hash_m {w : World} {g : Nat} {s : St} {r : List UInt8} {n : Nat} {m : Bool} (hr : r.length = 64) (h : w.heap[g]? = some (.cells (hcsS s r n m).toArray 161 (0, 0))) : w.cell? ⟨g, 73, none⟩ = some (.bool m) := by
 rw [cell_of_row _ _ _ _ _ _ h]
 have h1 : (wvs s.l).length = 8 := rfl
 have h2 : (bvs r).length = 64 := by rw [bvs_len, hr]
 unfold hcsS
 rw [List.getElem?_toArray, List.getElem?_append_right (by omega), List.getElem?_append_right (by omega), h1, h2]
 rfl
def blkS (l : List UInt8) (i : Nat) : List UInt8 := (l.drop (64 * i)).take 64
def stTo (l : List UInt8) : Nat → St
 | 0 => H0
 | i + 1 => turnS (stTo l i) (blkS l i)
def stOf (l : List UInt8) : St := stTo l (l.length / 64)
def tailOf (l : List UInt8) : List UInt8 := l.drop (64 * (l.length / 64))
def restOf (l : List UInt8) : List UInt8 := tailOf l ++ zer (64 - l.length % 64)
def hash (l : List UInt8) : List Value := hcsS (stOf l) (restOf l) l.length true
theorem tail_len (l : List UInt8) : (tailOf l).length = l.length % 64 := by
 unfold tailOf; rw [List.length_drop]; omega
theorem rest_len (l : List UInt8) : (restOf l).length = 64 := by
 unfold restOf; rw [List.length_append, tail_len, zer_len]; omega
theorem blk_app (l m : List UInt8) (i : Nat) (h : 64 * (i + 1) ≤ l.length) : blkS (l ++ m) i = blkS l i := by
 unfold blkS
 rw [List.drop_append_of_le_length (by omega), List.take_append_of_le_length (by rw [List.length_drop]; omega)]
theorem stTo_app (l m : List UInt8) : ∀ n, 64 * n ≤ l.length → stTo (l ++ m) n = stTo l n
 | 0, _ => rfl
 | n + 1, h => by rw [stTo, stTo, stTo_app l m n (by omega), blk_app l m n h]
theorem tail_app (l m : List UInt8) (h : (l ++ m).length / 64 = l.length / 64) : tailOf (l ++ m) = tailOf l ++ m := by
 unfold tailOf
 rw [h, List.drop_append_of_le_length (by omega)]
theorem hash_short (l m : List UInt8) (h : l.length % 64 + m.length < 64) : hash (l ++ m) = hcsS (stOf l) (tailOf l ++ (m ++ zer (64 - l.length % 64 - m.length))) (l.length + m.length) true := by
 have hq : (l ++ m).length / 64 = l.length / 64 := by rw [List.length_append]; omega
 have hr : (l ++ m).length % 64 = l.length % 64 + m.length := by rw [List.length_append]; omega
 unfold hash restOf stOf
 rw [hq, hr, tail_app l m hq, stTo_app l m _ (by omega), List.length_append, List.append_assoc, show 64 - (l.length % 64 + m.length) = 64 - l.length % 64 - m.length from by omega]
theorem hash_full (l m : List UInt8) (h : l.length % 64 + m.length = 64) : hash (l ++ m) = hcsS (turnS (stOf l) (tailOf l ++ m)) (zer 64) (l.length + m.length) true := by
 have hq : (l ++ m).length / 64 = l.length / 64 + 1 := by rw [List.length_append]; omega
 have hr : (l ++ m).length % 64 = 0 := by rw [List.length_append]; omega
 have ht : tailOf (l ++ m) = [] := by
  unfold tailOf; rw [hq]; exact List.drop_of_length_le (by rw [List.length_append]; omega)
 have hb : blkS (l ++ m) (l.length / 64) = tailOf l ++ m := by
  unfold blkS tailOf
  rw [List.drop_append_of_le_length (by omega)]
  exact List.take_of_length_le (by rw [List.length_append, List.length_drop]; omega)
 unfold hash restOf stOf
 rw [hr, ht, hq, stTo, hb, stTo_app l m _ (by omega), List.length_append]
 rfl
theorem rest_split (l : List UInt8) (n : Nat) (h : l.length % 64 + n ≤ 64) : restOf l = tailOf l ++ (zer n ++ zer (64 - l.length % 64 - n)) := by
 unfold restOf
 rw [show 64 - l.length % 64 = n + (64 - l.length % 64 - n) from by omega]
 congr 1
 unfold zer
 rw [List.replicate_append_replicate]
 congr 1
 omega
theorem over_rest (s : St) (a z c m : List UInt8) (n : Nat) (b : Bool) (hz : m.length = z.length) (o : Nat) (ho : o = 8 + a.length) :
  over (hcsS s (a ++ (z ++ c)) n b).toArray o (bvs m) = (hcsS s (a ++ (m ++ c)) n b).toArray := by
 have := over_mid (bvs z) (bvs m) (wvs s.l ++ bvs a) (bvs c ++ [Value.int .i64 n, .bool b]) (by rw [bvs_len, bvs_len, hz])
 have h1 : (wvs s.l).length = 8 := rfl
 rw [List.length_append, h1, bvs_len, ← ho] at this
 have e : ∀ x : List UInt8, hcsS s (a ++ (x ++ c)) n b = (wvs s.l ++ bvs a) ++ (bvs x ++ (bvs c ++ [Value.int .i64 n, .bool b])) := fun x => by
  simp only [hcsS, bvs, List.map_append, List.append_assoc]
 rw [e z, this, ← e m]
theorem over_state (s t : St) (r : List UInt8) (n : Nat) (b : Bool) : over (hcsS s r n b).toArray 0 (wvs t.l) = (hcsS t r n b).toArray :=
 over_mid (wvs s.l) (wvs t.l) [] (bvs r ++ [Value.int .i64 n, .bool b]) rfl
theorem over_whole_rest (s : St) (r r' : List UInt8) (n : Nat) (b : Bool) (h : r'.length = r.length) : over (hcsS s r n b).toArray 8 (bvs r') = (hcsS s r' n b).toArray := by
 have := over_rest s [] r [] r' n b h 8 rfl
 simpa using this
theorem set_taken (s : St) (r : List UInt8) (n n' : Nat) (b : Bool) (hr : r.length = 64) : (hcsS s r n b).toArray.setIfInBounds 72 (.int .i64 n') = (hcsS s r n' b).toArray := by
 have := over_mid [Value.int .i64 n] [Value.int .i64 n'] (wvs s.l ++ bvs r) [.bool b] rfl
 have h1 : (wvs s.l).length = 8 := rfl
 rw [List.length_append, h1, bvs_len, hr] at this
 simp only [hcsS]
 rw [← List.append_assoc, ← List.append_assoc]
 simpa [over] using this
theorem hash_range_state {w : World} {g : Nat} {s : St} {r : List UInt8} {n : Nat} {m : Bool} (h : w.heap[g]? = some (.cells (hcsS s r n m).toArray 161 (0, 0))) : w.rangeAt g 0 (wvs s.l) :=
 range_row (a := []) h 0 rfl
theorem hash_range_rest {w : World} {g : Nat} {s : St} {r : List UInt8} {n : Nat} {m : Bool} (h : w.heap[g]? = some (.cells (hcsS s r n m).toArray 161 (0, 0))) : w.rangeAt g 8 (bvs r) :=
 range_row (a := wvs s.l) h 8 rfl
end Go.Proofs.YtgoiafndapemjaaGreatDoor
