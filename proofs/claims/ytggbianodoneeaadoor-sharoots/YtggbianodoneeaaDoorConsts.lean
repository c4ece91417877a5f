
/- What the reference's Consts does. -/
import Derived.Test.YtggbianodoneeaaDoorApp
import Derived.Test.YtggbianodoneeaaDoorPad
import Derived.Test.YtggbianodoneeaaDoorRefStep
namespace Go.Proofs.YtggbianodoneeaaDoor
open Go.RowKit
set_option linter.unusedSimpArgs false
set_option linter.unusedVariables false

theorem built_H0 : Tryd.prog.built 23 [(0, Value.int .u32 1779033703), (1, Value.int .u32 3144134277), (2, Value.int .u32 1013904242), (3, Value.int .u32 2773480762), (4, Value.int .u32 1359893119), (5, Value.int .u32 2600822924), (6, Value.int .u32 528734635), (7, Value.int .u32 1541459225)] = some H0.cs := by kernel_rfl
theorem built_KS : Tryd.prog.built 24 [(0, Value.int .u32 1116352408), (1, Value.int .u32 1899447441), (2, Value.int .u32 3049323471), (3, Value.int .u32 3921009573), (4, Value.int .u32 961987163), (5, Value.int .u32 1508970993), (6, Value.int .u32 2453635748), (7, Value.int .u32 2870763221), (8, Value.int .u32 3624381080), (9, Value.int .u32 310598401), (10, Value.int .u32 607225278), (11, Value.int .u32 1426881987), (12, Value.int .u32 1925078388), (13, Value.int .u32 2162078206), (14, Value.int .u32 2614888103), (15, Value.int .u32 3248222580), (16, Value.int .u32 3835390401), (17, Value.int .u32 4022224774), (18, Value.int .u32 264347078), (19, Value.int .u32 604807628), (20, Value.int .u32 770255983), (21, Value.int .u32 1249150122), (22, Value.int .u32 1555081692), (23, Value.int .u32 1996064986), (24, Value.int .u32 2554220882), (25, Value.int .u32 2821834349), (26, Value.int .u32 2952996808), (27, Value.int .u32 3210313671), (28, Value.int .u32 3336571891), (29, Value.int .u32 3584528711), (30, Value.int .u32 113926993), (31, Value.int .u32 338241895), (32, Value.int .u32 666307205), (33, Value.int .u32 773529912), (34, Value.int .u32 1294757372), (35, Value.int .u32 1396182291), (36, Value.int .u32 1695183700), (37, Value.int .u32 1986661051), (38, Value.int .u32 2177026350), (39, Value.int .u32 2456956037), (40, Value.int .u32 2730485921), (41, Value.int .u32 2820302411), (42, Value.int .u32 3259730800), (43, Value.int .u32 3345764771), (44, Value.int .u32 3516065817), (45, Value.int .u32 3600352804), (46, Value.int .u32 4094571909), (47, Value.int .u32 275423344), (48, Value.int .u32 430227734), (49, Value.int .u32 506948616), (50, Value.int .u32 659060556), (51, Value.int .u32 883997877), (52, Value.int .u32 958139571), (53, Value.int .u32 1322822218), (54, Value.int .u32 1537002063), (55, Value.int .u32 1747873779), (56, Value.int .u32 1955562222), (57, Value.int .u32 2024104815), (58, Value.int .u32 2227730452), (59, Value.int .u32 2361852424), (60, Value.int .u32 2428436474), (61, Value.int .u32 2756734187), (62, Value.int .u32 3204031479), (63, Value.int .u32 3329325298)] = some (wvs KS).toArray := by kernel_rfl
theorem size36k : (Tryd.prog.info? 24).map (·.size) = some (wvs KS).toArray.size := size36

theorem results_two_rows {P : Program} {fn : Func} {p p' : Tmp} {ty ty' : TypeId} (h : fn.results = #[.cell p ty, .cell p' ty']) (tmps : Array Value) (w : World) (g g' : Nat) (t t' : TypeId) (cs cs' : Array Value) (fr fr' : Nat × Nat) (d d' : TypeDesc)
    (hp : tmps[p]? = some (.pointer (some ⟨g, 0, none⟩))) (hp' : tmps[p']? = some (.pointer (some ⟨g', 0, none⟩))) (hg : w.heap[g]? = some (.cells cs t fr)) (hg' : w.heap[g']? = some (.cells cs' t' fr')) (hu : P.underlying ty = some d) (hu' : P.underlying ty' = some d') (hd : (match d with | .struct _ | .array _ _ => true | _ => false) = true) (hd' : (match d' with | .struct _ | .array _ _ => true | _ => false) = true) (hi : (P.info? ty).map (·.size) = some cs.size) (hi' : (P.info? ty').map (·.size) = some cs'.size) :
    (results fn tmps).run P w = .ok (.tuple #[.agg cs, .agg cs']) w := by
  simp [results, h, hp, hp', asAddr, run_loadVar_row w g t ty cs fr d hg hu hd hi, run_loadVar_row w g' t' ty' cs' fr' d' hg' hu' hd' hi']

set_option maxRecDepth 100000 in
set_option maxHeartbeats 1000000 in
theorem consts_any (w : World) :
    Calls Tryd.prog 9 #[] w fun e w' => e = .returned (.tuple #[.agg H0.cs, .agg (wvs KS).toArray]) ∧ Below w.heap.size w w' := by
  have HB1 := hid built_H0
  have HB2 := hid built_KS
  have HS1 := hid (size35' H0)
  have HS2 := hid size36k
  have HO1 := hid (cs_one H0)
  have HO2 := hid (wvs_one KS)
  have HZ1 : Hid (H0.cs.size = 8) := rfl
  have HZ2 : Hid ((wvs KS).toArray.size = 64) := rfl
  have HL : Hid (wvs KS = (wvs KS).toArray.toList) := rfl
  generalize (wvs KS).toArray = C2 at HB2 HS2 HO2 HZ2 HL ⊢
  generalize H0.cs = C1 at HB1 HS1 HO1 HZ1 ⊢
  go_enter Tryd.func9, Tryd.ntmps9
  go_wp2_with (first
    | (refine wpList_built rfl 23 _ rfl C1 HB1.out ?_)
    | (refine wpList_built rfl 24 _ rfl C2 HB2.out ?_)
    | (refine wpList_store_abs rfl 23 (.tmp 0) (.tmp 2) rfl w.heap.size 0 C1 rfl rfl 23 _ (heap_alloc2_old w _ _) (by rw [HZ1.out]; exact Nat.le_refl 8) HS1.out HO1.out ?_; intro W1 hO1 hW1)
    | (refine wpList_store_abs rfl 24 (.tmp 1) (.tmp 3) rfl (w.heap.size + 1) 0 C2 rfl rfl 24 _ ((hO1.block _ (by omega)).trans (heap_alloc2_new w _ _)) (by rw [HZ2.out]; exact Nat.le_refl 64) HS2.out HO2.out ?_; intro W2 hO2 hW2))
  rw [over_whole _ C1 (by rw [HZ1.out]; rfl)] at hW1
  rw [over_whole _ C2 (by rw [HZ2.out]; rfl)] at hW2
  have hW3 := (hO2.block w.heap.size (by omega)).trans hW1
  have hB : Below w.heap.size w W2 := ((((Below.refl _ _).alloc (Nat.le_refl _) _).alloc (by simp) _).trans (hO1.below (Nat.le_refl _))).trans (hO2.below (by omega))
  exact bodyPost_ret (v := .tuple #[.agg C1, .agg C2]) (results_two_rows (p := 0) (p' := 1) (ty := 23) (ty' := 24) Tryd.results9 _ _ w.heap.size (w.heap.size + 1) 23 24 C1 C2 (0, 0) (0, 0) (.array 8 22) (.array 64 22) rfl rfl hW3 hW2 Tryd.underlying23 Tryd.underlying24 rfl rfl HS1.out HS2.out) rfl ⟨rfl, hB⟩

end Go.Proofs.YtggbianodoneeaaDoor
