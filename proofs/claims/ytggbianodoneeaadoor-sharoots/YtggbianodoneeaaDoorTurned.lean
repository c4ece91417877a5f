
/- What sha.turned does: one block more. -/
import Derived.Test.YtggbianodoneeaaDoorSched
namespace Go.Proofs.YtggbianodoneeaaDoor
open Go.RowKit

def St.l (s : St) : List UInt32 := [s.a, s.b, s.c, s.d, s.e, s.f, s.g, s.h]
theorem St.cs_eq (s : St) : s.cs = (wvs s.l).toArray := rfl
theorem index36 (cs : Array Value) (k : Nat) (v : Value) (hk : k < 64) (hv : cs[k]? = some v) (w : World) : (Instr.index 24 (.agg cs) (.int .i64 (k : Int))).run Tryd.prog w = .ok v w := by
  have h1 : (0 : Int) ≤ (k : Int) ∧ (k : Int) < 64 := by omega
  simp [Instr.index, asIntOf, run_underlying Tryd.underlying24, part, Tryd.sizeOf22, Tryd.isAgg22, hv]; omega
theorem index35 (cs : Array Value) (k : Nat) (v : Value) (hk : k < 8) (hv : cs[k]? = some v) (w : World) : (Instr.index 23 (.agg cs) (.int .i64 (k : Int))).run Tryd.prog w = .ok v w := by
  have h1 : (0 : Int) ≤ (k : Int) ∧ (k : Int) < 8 := by omega
  simp [Instr.index, asIntOf, run_underlying Tryd.underlying23, part, Tryd.sizeOf22, Tryd.isAgg22, hv]; omega

theorem wvs_at (l : List UInt32) (j : Nat) (h : j < l.length) : (wvs l).toArray[j]? = some (.int .u32 (nv (l.getD j 0))) := by
  simp [wvs, List.getD_eq_getElem?_getD, h]
/-- sha's two tables. -/
def TabS (w : World) : Prop := w.rangeAt 0 0 (wvs H0.l) ∧ w.rangeAt 1 0 (wvs KS)
theorem TabS.lt {w : World} (h : TabS w) : 1 < w.heap.size := block_lt_of_cell (h.2 0 _ rfl)
theorem TabS.below {B : Nat} {w w' : World} (h : TabS w) (hb : Below B w w') (hB : 1 < B) : TabS w' :=
  ⟨fun j v hv => by rw [hb.cell (p := ⟨0, 0 + j, none⟩) (by simp; omega)]; exact h.1 j v hv, fun j v hv => by rw [hb.cell (p := ⟨1, 0 + j, none⟩) (by simp; omega)]; exact h.2 j v hv⟩
theorem KS_len : KS.length = 64 := rfl
theorem TabS.k {w : World} (h : TabS w) (j : Nat) (hj : j < 64) : w.cell? ⟨1, j, none⟩ = some (.int .u32 (nv (KS.getD j 0))) := by
  have := h.2 j (.int .u32 (nv (KS.getD j 0))) (by have := wvs_at KS j (by rw [KS_len]; exact hj); simpa using this)
  simpa using this
theorem size36 : (Tryd.prog.info? 24).map (·.size) = some 64 := by kernel_rfl
theorem size35 : (Tryd.prog.info? 23).map (·.size) = some 8 := by kernel_rfl
theorem size49 : (Tryd.prog.info? 69).map (·.size) = some 64 := by kernel_rfl
theorem bcs_size (b : List UInt8) : (bcs b).size = b.length := by simp [bcs]

theorem size3 (w : World) (A B C : Obj) : (((w.alloc A).alloc B).alloc C).heap.size = w.heap.size + 3 := by
  show (((w.heap.push A).push B).push C).size = _
  simp
theorem below3 (w : World) (A B C : Obj) : Below w.heap.size w (((w.alloc A).alloc B).alloc C) :=
  (((Below.refl _ _).alloc (Nat.le_refl _) _).alloc (by simp) _).alloc (by simp; omega) _

/-- Behind three blocks of the call's own, a callee, and a fourth block that an array has gone into. -/
structure Four (w W : World) (A B C D : Obj) (M : Nat) : Prop where
  a : W.heap[w.heap.size]? = some A
  b : W.heap[w.heap.size + 1]? = some B
  c : W.heap[w.heap.size + 1 + 1]? = some C
  d : W.heap[M]? = some D
  lt : w.heap.size + 3 ≤ M
  ltM : M < W.heap.size
  bel : Below w.heap.size w W
theorem four_mk {w w1 W : World} {A B C : Obj} {X Y : Array Value} {t : TypeId} (h1 : Below (((w.alloc A).alloc B).alloc C).heap.size (((w.alloc A).alloc B).alloc C) w1)
    (hO : Only w1.heap.size (w1.alloc (.cells X t)) W) (hW : W.heap[w1.heap.size]? = some (.cells (over X 0 Y.toList) t (0, 0))) (hs : Y.size = X.size) : Four w W A B C (.cells Y t (0, 0)) w1.heap.size := by
  have hz := h1.size
  rw [size3] at hz
  have old : ∀ k, k < w.heap.size + 3 → W.heap[k]? = (((w.alloc A).alloc B).alloc C).heap[k]? := fun k hk => by
    rw [hO.block k (by omega), Below.heap_alloc w1 _ k (by omega), h1.block k (by rw [size3]; exact hk)]
  refine ⟨?_, ?_, ?_, ?_, hz, ?_, ?_⟩
  · rw [old _ (by omega)]; exact heap3_0 _ _ _ _
  · rw [old _ (by omega)]; exact heap3_1 _ _ _ _
  · rw [old _ (by omega)]; exact heap3_2 _ _ _ _
  · rw [hW, over_whole X Y hs]
  · rw [hO.size]; simp
  · refine (below3 w A B C).trans (Below.mono ?_ (Nat.le_of_lt (by rw [size3]; omega) : w.heap.size ≤ (((w.alloc A).alloc B).alloc C).heap.size))
    exact (h1.alloc (by rw [size3]; exact hz) _).trans (hO.below (by rw [size3]; exact hz))

theorem mix_at (T S : List UInt32) (n k : Nat) (hT : T.length = n) (hS : S.length = n) (hk : k < n) : (T.take k ++ S.drop k).getD k 0 = S.getD k 0 := by
  rw [List.getD_eq_getElem?_getD, List.getElem?_append_right (by simp; omega)]
  have e : k - (T.take k).length = 0 := by simp; omega
  rw [e, List.getElem?_drop, List.getD_eq_getElem?_getD, Nat.add_zero]
theorem mix_set (T S : List UInt32) (n k : Nat) (hT : T.length = n) (hS : S.length = n) (hk : k < n) : (wvs (T.take k ++ S.drop k)).toArray.setIfInBounds k (.int .u32 (nv (T.getD k 0))) = (wvs (T.take (k + 1) ++ S.drop (k + 1))).toArray := by
  have e1 : (T.take k ++ S.drop k).set k (T.getD k 0) = T.take (k + 1) ++ S.drop (k + 1) := by
    rw [List.set_append_right _ _ (by simp; omega)]
    have e : k - (T.take k).length = 0 := by simp; omega
    rw [e, List.drop_eq_getElem_cons (by omega), List.set_cons_zero, List.take_succ_eq_append_getElem (by omega)]
    have e2 : T.getD k 0 = T[k] := by simp [List.getD_eq_getElem?_getD, hT, hk]
    rw [e2]
    simp only [List.append_assoc, List.cons_append, List.nil_append]
  rw [← e1]
  simp [wvs, List.map_set]
theorem mix_len (T S : List UInt32) (n k : Nat) (hT : T.length = n) (hS : S.length = n) : (T.take k ++ S.drop k).length = n := by simp; omega
theorem addS_at (s S : St) (k : Nat) (hk : k < 8) : (addS s S).l.getD k 0 = s.l.getD k 0 + S.l.getD k 0 := by
  match k, hk with
  | 0, _ => rfl
  | 1, _ => rfl
  | 2, _ => rfl
  | 3, _ => rfl
  | 4, _ => rfl
  | 5, _ => rfl
  | 6, _ => rfl
  | 7, _ => rfl
theorem cs_one (s : St) : s.cs.all (·.oneCell') = true := wvs_one s.l
theorem cs_size (s : St) : s.cs.size = 8 := rfl
theorem size35' (s : St) : (Tryd.prog.info? 23).map (·.size) = some s.cs.size := by rw [cs_size]; exact size35
theorem mix_full (T s : St) (j : Nat) (h : j = 8) : (wvs (T.l.take j ++ s.l.drop j)).toArray = T.cs := by
  subst h
  have h1 : T.l.take 8 = T.l := List.take_of_length_le (Nat.le_refl 8)
  have h2 : s.l.drop 8 = [] := List.drop_of_length_le (Nat.le_refl 8)
  rw [h1, h2, List.append_nil, St.cs_eq]
theorem over8 (X : Array Value) (s : St) (h : X.size = 8) : over X 0 s.cs.toList = s.cs := over_whole X s.cs (by rw [h, cs_size])
theorem rnd_a (S : St) (y x : UInt32) : Value.int .u32 (nv (((((S.h + big1 S.e) + ((S.e &&& S.f) ^^^ ((S.e ^^^ 4294967295) &&& S.g))) + y) + x) + (big0 S.a + (((S.a &&& S.b) ^^^ (S.a &&& S.c)) ^^^ (S.b &&& S.c))))) = .int .u32 (nv (rnd S y x).a) := by
  simp only [rnd, tOne, tTwo, choice, most]
theorem rnd_b (S : St) (y x : UInt32) : Value.int .u32 (nv S.a) = .int .u32 (nv (rnd S y x).b) := by simp only [rnd]
theorem rnd_c (S : St) (y x : UInt32) : Value.int .u32 (nv S.b) = .int .u32 (nv (rnd S y x).c) := by simp only [rnd]
theorem rnd_d (S : St) (y x : UInt32) : Value.int .u32 (nv S.c) = .int .u32 (nv (rnd S y x).d) := by simp only [rnd]
theorem rnd_e (S : St) (y x : UInt32) : Value.int .u32 (nv (S.d + ((((S.h + big1 S.e) + ((S.e &&& S.f) ^^^ ((S.e ^^^ 4294967295) &&& S.g))) + y) + x))) = .int .u32 (nv (rnd S y x).e) := by
  simp only [rnd, tOne, choice]
theorem rnd_f (S : St) (y x : UInt32) : Value.int .u32 (nv S.e) = .int .u32 (nv (rnd S y x).f) := by simp only [rnd]
theorem rnd_g (S : St) (y x : UInt32) : Value.int .u32 (nv S.f) = .int .u32 (nv (rnd S y x).g) := by simp only [rnd]
theorem rnd_h (S : St) (y x : UInt32) : Value.int .u32 (nv S.g) = .int .u32 (nv (rnd S y x).h) := by simp only [rnd]
theorem mixE (x : UInt32) (w : World) : Calls Tryd.prog 50 #[.int .u32 (nv x), .int .i64 6, .int .i64 11, .int .i64 25] w fun e w' => e = .returned (.int .u32 (nv (big1 x))) ∧ w' = w :=
  mixed_any x 6 11 25 w ⟨by omega, by omega⟩ ⟨by omega, by omega⟩ ⟨by omega, by omega⟩
theorem mixA (x : UInt32) (w : World) : Calls Tryd.prog 50 #[.int .u32 (nv x), .int .i64 2, .int .i64 13, .int .i64 22] w fun e w' => e = .returned (.int .u32 (nv (big0 x))) ∧ w' = w :=
  mixed_any x 2 13 22 w ⟨by omega, by omega⟩ ⟨by omega, by omega⟩ ⟨by omega, by omega⟩

set_option maxRecDepth 100000 in
set_option maxHeartbeats 2000000 in
theorem turned_any (s : St) (b : List UInt8) (hb : b.length = 64) (w : World) (hT : TabS w) :
    Calls Tryd.prog 45 #[.agg s.cs, .agg (bcs b)] w fun e w' => e = .returned (.agg (turnS s b).cs) ∧ Below w.heap.size w w' := by
  have H31 := hid (fun W => schedule_any b hb W)
  have HTT : Hid (∀ R, R = rnds KS (wl b 64) s 64 → turnS s b = addS s R) := fun R hR => by rw [hR]; rfl
  generalize turnS s b = T at HTT ⊢
  have HLn : Hid ((wl b 64).length = 64) := wl_len b 64
  generalize wl b 64 = L at H31 HTT HLn
  have HR : Hid (∀ k S, k = 64 → S = rnds KS L s k → T = addS s S) := fun k S hk hS => HTT.out S (by rw [hS, hk])
  clear HTT
  have HI49 : Hid ((Tryd.prog.info? 69).map (·.size) = some (bcs b).size) := by show _ = _; rw [size49, bcs_size, hb]
  have HI36 : Hid ((Tryd.prog.info? 24).map (·.size) = some (wvs L).toArray.size) := by show _ = _; rw [size36]; simp [wvs, HLn.out]
  have HLs : Hid ((wvs L).toArray.size = 64) := by show _ = _; simp [wvs, HLn.out]
  have HO := hid (wvs_one L)
  have HT := hid hT
  clear hb hT
  go_enter Tryd.func45, Tryd.ntmps45
  go_wp2_with (refine wpList_load_row rfl 69 (.tmp 3) rfl (w.heap.size + 1) rfl 69 (bcs b) (0, 0) (.array 64 5) (heap3_1 _ _ _ _) Tryd.underlying69 rfl HI49.out ?_)
  refine (H31.out _).mono ?_
  rintro e w1 ⟨rfl, hb1⟩
  have HB1 := hid hb1
  clear hb1
  go_wp2_with (refine wpList_store_abs rfl 24 (.tmp 5) (.tmp 23) rfl w1.heap.size 0 (wvs L).toArray rfl rfl 24 _ (heap_alloc_new w1 _) (by rw [HLs.out]; exact Nat.le_refl _) HI36.out HO.out ?_; intro W hO hW)
  have F := four_mk (Y := (wvs L).toArray) HB1.out hO hW (by rw [HLs.out]; rfl)
  have HF := hid F
  have HTW := hid (HT.out.below F.bel HT.out.lt)
  have hc : ∀ j v, s.cs[j]? = some v → W.cell? ⟨w.heap.size, j, none⟩ = some v := fun j v hv => by
    rw [cell_of_row _ _ _ _ _ _ F.a]; exact hv
  have c0 : W.cell? ⟨w.heap.size, 0, none⟩ = some (.int .u32 (nv s.a)) := hc 0 _ rfl
  have c1 : W.cell? ⟨w.heap.size, 1, none⟩ = some (.int .u32 (nv s.b)) := hc 1 _ rfl
  have c2 : W.cell? ⟨w.heap.size, 2, none⟩ = some (.int .u32 (nv s.c)) := hc 2 _ rfl
  have c3 : W.cell? ⟨w.heap.size, 3, none⟩ = some (.int .u32 (nv s.d)) := hc 3 _ rfl
  have c4 : W.cell? ⟨w.heap.size, 4, none⟩ = some (.int .u32 (nv s.e)) := hc 4 _ rfl
  have c5 : W.cell? ⟨w.heap.size, 5, none⟩ = some (.int .u32 (nv s.f)) := hc 5 _ rfl
  have c6 : W.cell? ⟨w.heap.size, 6, none⟩ = some (.int .u32 (nv s.g)) := hc 6 _ rfl
  have c7 : W.cell? ⟨w.heap.size, 7, none⟩ = some (.int .u32 (nv s.h)) := hc 7 _ rfl
  clear hc F hO hW HB1 H31 HT HI49
  generalize w1.heap.size = M at HF ⊢
  go_quiet (fail)
  go_wp2_with fail
  go_quiet (fail)
  clear c0 c1 c2 c3 c4 c5 c6 c7
  go_wp2_with (refine wpList_load_row rfl 24 (.tmp 5) rfl M rfl 24 (wvs L).toArray (0, 0) (.array 64 22) HF.out.d Tryd.underlying24 rfl HI36.out ?_)
  go_loopw [6, 7, 8, 9, 10, 11, 12, 13, 41] (fun va vb vc vd ve vf vg vh i wr => ∃ (k : Nat) (S : St), k ≤ 64 ∧ i = .int .i64 k ∧ va = .int .u32 (nv S.a) ∧ vb = .int .u32 (nv S.b) ∧ vc = .int .u32 (nv S.c) ∧ vd = .int .u32 (nv S.d) ∧ ve = .int .u32 (nv S.e) ∧ vf = .int .u32 (nv S.f) ∧ vg = .int .u32 (nv S.g) ∧ vh = .int .u32 (nv S.h) ∧ Hid (S = rnds KS L s k) ∧ Hid (∃ n, wr = W.drewN n)) (fun _ _ _ _ _ _ _ _ i _ => 64 - (intOf i).toNat)
  case atStart => exact ⟨0, s, by omega, rfl, rfl, rfl, rfl, rfl, rfl, rfl, rfl, rfl, rfl, _, rfl⟩
  case round =>
    obtain ⟨k, S, hk, rfl, rfl, rfl, rfl, rfl, rfl, rfl, rfl, rfl, HS, HW⟩ := hrel
    by_cases hlt : k < 64
    · obtain ⟨x, ex⟩ : ∃ x, Hid (x = L.getD k 0) := ⟨_, rfl⟩
      obtain ⟨y, ey⟩ : ∃ y, Hid (y = KS.getD k 0) := ⟨_, rfl⟩
      have hidx : ∀ W, (Instr.index 24 (.agg (wvs L).toArray) (.int .i64 (k : Int))).run Tryd.prog W = .ok (.int .u32 (nv x)) W := fun W => index36 _ k _ hlt (by rw [wvs_at L k (by rw [HLn.out]; exact hlt), ex.out]) W
      have ck : wr.cell? ⟨1, k, none⟩ = some (.int .u32 (nv y)) := by
        obtain ⟨n, hn⟩ := HW.out
        rw [hn, World.cell?_drewN, HTW.out.k k hlt, ey.out]
      have hx := nv_xor
      have ha := nv_add
      have hand := nv_and
      have hnot : ∀ a, bits .xor .u32 IntKind.u32.max (nv a) = nv (a ^^^ 4294967295) := nv_not
      go_wp2_with fail
      go_quiet ((go_at_call 50; exact Calls.quiet_of_same (mixE _ _)))
      go_wp2_with (go_at_call 50; refine (mixA _ _).mono ?_; rintro e w' ⟨rfl, rfl⟩)
      go_roundw
      case rel => exact ⟨k + 1, rnd S y x, by omega, by go_num, (by rw [nv_add]; exact rnd_a S y x), rnd_b S y x, rnd_c S y x, rnd_d S y x, (by rw [nv_add]; exact rnd_e S y x), rnd_f S y x, rnd_g S y x, rnd_h S y x, by show _ = _; rw [rnds, ← HS.out, ← ex.out, ← ey.out], by obtain ⟨n, hn⟩ := HW.out; exact ⟨n + nq, by rw [hn, World.drewN_drewN]⟩⟩
      case measure => simp [intOf]; omega
    · have HTT : Hid (T = addS s S) := HR.out k S (by omega) HS.out
      clear HR HS HTW HLn HLs HO HI36
      go_wp2_with fail
      obtain ⟨X, hX⟩ : ∃ X : Array Value, Hid (X = (wvs S.l).toArray) := ⟨_, rfl⟩
      rw [show (#[Value.int .u32 (nv S.a), .int .u32 (nv S.b), .int .u32 (nv S.c), .int .u32 (nv S.d), .int .u32 (nv S.e), .int .u32 (nv S.f), .int .u32 (nv S.g), .int .u32 (nv S.h)] : Array Value) = X from hX.out.symm]
      go_loopw [102] (fun i wr => ∃ k : Nat, k ≤ 8 ∧ i = .int .i64 k ∧ Hid (wr.heap[w.heap.size]? = some (.cells (wvs (T.l.take k ++ s.l.drop k)).toArray 23 (0, 0))) ∧ Hid (Only w.heap.size W wr)) (fun i _ => 8 - (intOf i).toNat)
      case atStart =>
        obtain ⟨n, hn⟩ := HW.out
        exact ⟨0, by omega, rfl, by rw [hn]; exact HF.out.a, by rw [hn]; exact ⟨rfl, rfl, rfl, rfl, fun _ _ => rfl⟩⟩
      case round =>
        obtain ⟨j, hj, rfl, HA, HOn⟩ := hrel
        by_cases hj8 : j < 8
        · obtain ⟨x, ex⟩ : ∃ x, Hid (x = S.l.getD j 0) := ⟨_, rfl⟩
          obtain ⟨y, ey⟩ : ∃ y, Hid (y = s.l.getD j 0) := ⟨_, rfl⟩
          have HV : Hid (T.l.getD j 0 = y + x) := by show _ = _; rw [HTT.out, addS_at _ _ _ hj8, ex.out, ey.out]
          have hidx : ∀ W, (Instr.index 23 (.agg X) (.int .i64 (j : Int))).run Tryd.prog W = .ok (.int .u32 (nv x)) W := fun W => index35 _ j _ hj8 (by rw [hX.out, wvs_at S.l j hj8, ex.out]) W
          have cj : wr.cell? ⟨w.heap.size, j, none⟩ = some (.int .u32 (nv y)) := by
            rw [cell_of_row _ _ _ _ _ _ HA.out, wvs_at _ _ (by rw [mix_len T.l s.l 8 j rfl rfl]; exact hj8), mix_at T.l s.l 8 j rfl rfl hj8, ey.out]
          have fj : wr.frozen? ⟨w.heap.size, j, none⟩ = false := frozen_of_row _ _ _ _ _ HA.out
          have ha := nv_add
          go_wp2_with fail
          go_roundw
          case rel =>
            refine ⟨j + 1, by omega, by go_num, ?_, ?_⟩
            · show _ = _
              rw [heap_setCell_same _ _ _ _ _ _ HA.out, ← mix_set T.l s.l 8 j rfl rfl hj8, HV.out]
            · have := HOn.out
              exact ⟨this.os, this.tape, this.output, by rw [← this.size]; simp [World.setCell], fun k hk => (heap_setCell_other _ _ _ _ hk).trans (this.block k hk)⟩
          case measure => simp [intOf]; omega
        · have h0 := HA.out
          rw [mix_full T s j (by omega)] at h0
          have H0 := hid h0
          have HZ := hid ((HOn.out.block (w.heap.size + 1 + 1) (by omega)).trans HF.out.c)
          have HBW := hid (HF.out.bel.trans (HOn.out.below (Nat.le_refl _)))
          have HOT := hid (cs_one T)
          have HI35 := hid (size35' T)
          have HT8 : Hid (T.cs.size = 8) := cs_size T
          clear h0 HA HOn HF HW HTT
          go_wp2_with (first
            | (refine wpList_load_row rfl 23 (.tmp 2) rfl w.heap.size rfl 23 T.cs (0, 0) (.array 8 22) H0.out Tryd.underlying23 rfl HI35.out ?_)
            | (refine wpList_store_abs rfl 23 (.tmp 4) (.tmp 113) rfl (w.heap.size + 1 + 1) 0 T.cs rfl rfl 23 _ HZ.out (by rw [HT8.out]; exact Nat.le_refl 8) HI35.out HOT.out ?_; intro W2 hO2 hW2))
          rw [over8 _ T (by rfl)] at hW2
          exact bodyPost_ret (v := .agg T.cs) (results_cell_row (p := 4) (ty := 23) Tryd.results45 _ _ (w.heap.size + 1 + 1) 23 _ (0, 0) (.array 8 22) rfl hW2 Tryd.underlying23 rfl HI35.out) rfl ⟨rfl, HBW.out.trans (hO2.below (by omega))⟩

end Go.Proofs.YtggbianodoneeaaDoor
