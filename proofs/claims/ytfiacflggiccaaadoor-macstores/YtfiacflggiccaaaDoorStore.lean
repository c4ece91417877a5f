/- What mac.Store, mac.Match and the reference's Secret do. -/
import Derived.Test.YtfiacflggiccaaaDoorRefMac
import Derived.Test.YtfiacflggiccaaaDoorSameLaw
import Derived.Lib.ConvBytes
namespace Go.Proofs.YtfiacflggiccaaaDoor
open Go.RowKit
set_option linter.unusedSimpArgs false
set_option linter.unusedVariables false

theorem size44 : (Tryd.prog.info? 44).map (·.size) = some 16 := by kernel_rfl
theorem size44' (b : List UInt8) (h : b.length = 16) : (Tryd.prog.info? 44).map (·.size) = some (bcs b).size := by rw [size44, bcs_size, h]
theorem conv_in (w : World) (s : ByteArray) : ∃ cap W1, (convert 9 22 (.string s)).run Tryd.prog w = .ok (.slice (some ⟨w.heap.size, 0, none⟩) s.size cap) W1 ∧ BytesAt W1 (some ⟨w.heap.size, 0, none⟩) s.data.toList ∧ Below w.heap.size w W1 ∧ s.size ≤ cap := by
  refine ⟨_, _, Lib.run_convert_string_bytes w 9 22 5 s Tryd.underlying9 Tryd.underlying22 Tryd.underlying5, fun _ => ⟨w.heap.size, 0, rfl, by rw [Lib.bytesWorld_size]; omega, fun j hj => ?_⟩, ⟨rfl, rfl, rfl, by rw [Lib.bytesWorld_size]; omega, fun k hk => Lib.bytesWorld_at_old w 5 s k hk⟩, grownCap_ge _ _ _ _⟩
  rw [Nat.zero_add]
  exact Lib.bytesWorld_cell w 5 s j (by simpa using hj)
theorem results_row_tmp {P : Program} {fn : Func} {p q : Tmp} {ty : TypeId} (h : fn.results = #[.cell p ty, .tmp q]) (tmps : Array Value) (w : World) (g : Nat) (t : TypeId) (cs : Array Value) (fr : Nat × Nat) (d : TypeDesc) (v : Value)
    (hp : tmps[p]? = some (.pointer (some ⟨g, 0, none⟩))) (hq : tmps[q]? = some v) (hg : w.heap[g]? = some (.cells cs t fr)) (hu : P.underlying ty = some d) (hd : (match d with | .struct _ | .array _ _ => true | _ => false) = true) (hi : (P.info? ty).map (·.size) = some cs.size) :
    (results fn tmps).run P w = .ok (.tuple #[.agg cs, v]) w := by
  simp [results, h, hp, hq, asAddr, run_loadVar_row w g t ty cs fr d hg hu hd hi]
def errNo (s : ByteArray) : Int := if s.size < 8 then 1 else if 128 < s.size then 3 else 0
theorem err_ok {s : ByteArray} (he : errNo s = 0) : s.size ≤ 128 := by
  unfold errNo at he
  by_cases h2 : 128 < s.size
  · by_cases h1 : s.size < 8
    · omega
    · rw [if_neg h1, if_pos h2] at he; cases he
  · omega
def stored (salt : List UInt8) (s : ByteArray) : List UInt8 := if errNo s = 0 then hmac salt s.data.toList else zer 32
theorem stored_len (salt : List UInt8) (s : ByteArray) : (stored salt s).length = 32 := by unfold stored; split; exact hmac_len _ _; exact zer_len 32
theorem ba_len (s : ByteArray) : s.data.toList.length = s.size := by simp

set_option maxRecDepth 100000 in
set_option maxHeartbeats 2000000 in
theorem store_any (salt : List UInt8) (hs : salt.length = 16) (s : ByteArray) (w : World) (hT : TabS w) :
    Calls Tryd.prog 23 #[.agg (bcs salt), .string s] w fun e w' => e = .returned (.tuple #[.agg (bcs (stored salt s)), .int .i64 (errNo s)]) ∧ Below w.heap.size w w' := by
  have HT := hid hT
  have hT1 := hT.lt
  have HS := hid hs
  have HCH : Hid (∀ W, Calls Tryd.prog 24 #[.string s] W fun e w' => e = .returned (.int .i64 (errNo s)) ∧ w' = W) := fun W => check_any s W _ rfl
  have HB2 : Hid (∀ o1 o2, Below w.heap.size w ((w.alloc o1).alloc o2)) := fun o1 o2 => ((Below.refl _ _).alloc (Nat.le_refl _) o1).alloc (by simp) o2
  have HDL := hid (stored_len salt s)
  clear hT hs
  by_cases he : errNo s = 0
  · have hsz : s.size ≤ 128 := err_ok he
    have HOF : Hid (∀ W g h c, TabS W → W.heap[g]? = some (.cells (bcs salt) 44 (0, 0)) → BytesAt W (some ⟨h, 0, none⟩) s.data.toList → s.size ≤ c → Calls Tryd.prog 20 #[.slice (some ⟨g, 0, none⟩) 16 16, .slice (some ⟨h, 0, none⟩) s.size c] W fun e w' => e = .returned (.agg (bcs (hmac salt s.data.toList))) ∧ Below W.heap.size W w') := fun W g h c h1 h2 h3 h4 => by
      have := macOf_any salt s.data.toList (some ⟨g, 0, none⟩) (some ⟨h, 0, none⟩) 16 c W h1 (BytesAt.of_row h2) h3 (by rw [HS.out]; omega) (by rw [ba_len]; exact h4) (by rw [HS.out]; omega) (by rw [ba_len]; omega)
      rw [HS.out, ba_len] at this
      exact this
    have hD : stored salt s = hmac salt s.data.toList := by unfold stored; rw [if_pos he]
    rw [← hD] at HOF
    generalize stored salt s = D at HOF HDL ⊢
    rw [he] at HCH ⊢
    clear hD he
    go_enter Tryd.func23, Tryd.ntmps23
    go_wp2_with fail
    refine (HCH.out _).mono ?_
    rintro e W1 ⟨rfl, hW1⟩
    have HR0 : Hid (W1.heap[w.heap.size]? = some (.cells (bcs salt) 44 (0, 0))) := by rw [hW1]; exact heap_alloc2_old w _ _
    have HR1 : Hid (W1.heap[w.heap.size + 1]? = some (.cells (bcs (zer 32)) 24 (0, 0))) := by rw [hW1]; exact heap_alloc2_new w _ _
    have HB1 : Hid (Below w.heap.size w W1) := by rw [hW1]; exact HB2.out _ _
    have hz1 : w.heap.size + 1 < W1.heap.size := (Array.getElem?_eq_some_iff.1 HR1.out).1
    clear hW1
    obtain ⟨c, W2, hcv, hba, hb2, hc⟩ := conv_in W1 s
    have HBA := hid hba
    have HB22 := hid hb2
    have HC := hid hc
    clear hba hb2 hc
    go_wp2_with fail
    refine (HOF.out _ _ _ _ (HT.out.below (HB1.out.trans (HB22.out.mono (by omega))) hT1) ((HB22.out.block _ (by omega)).trans HR0.out) HBA.out HC.out).mono ?_
    rintro e W3 ⟨rfl, hb3⟩
    have hz2 := HB22.out.size
    have HR3 := hid ((hb3.block (w.heap.size + 1) (by omega)).trans ((HB22.out.block _ hz1).trans HR1.out))
    have HB3 := hid ((HB1.out.trans (HB22.out.mono (by omega))).trans (hb3.mono (by omega)))
    clear hb3 hcv
    go_wp2_with (refine wpList_store_abs rfl 24 (.tmp 4) (.tmp 16) rfl (w.heap.size + 1) 0 (bcs D) rfl rfl 24 _ HR3.out (by rw [bcs_size, bcs_size, HDL.out]; exact Nat.le_refl 32) (size24' D HDL.out) (bvs_one D) ?_; intro W9 hO9 hW9)
    rw [over_bytes _ D (by rw [bcs_size, HDL.out]; rfl)] at hW9
    exact bodyPost_ret (v := .tuple #[.agg (bcs D), .int .i64 0]) (results_row_tmp (p := 4) (q := 5) (ty := 24) Tryd.results23 _ _ (w.heap.size + 1) 24 _ (0, 0) (.array 32 5) _ rfl rfl hW9 Tryd.underlying24 rfl (size24' D HDL.out)) rfl ⟨rfl, HB3.out.trans (hO9.below (by omega))⟩
  · have hD : stored salt s = zer 32 := by unfold stored; rw [if_neg he]
    rw [hD]
    generalize errNo s = E at HCH he ⊢
    have HBZ := hid built24
    have HS24 := hid (size24' (zer 32) (zer_len 32))
    have HO24 := hid (bvs_one (zer 32))
    obtain ⟨Z, hZ⟩ : ∃ Z, Hid (Z = bcs (zer 32)) := ⟨_, rfl⟩
    rw [← hZ.out] at HBZ HS24 HO24 ⊢
    have HZS : Hid (Z.size = 32) := by rw [hZ.out]; rfl
    clear hD HDL
    go_enter Tryd.func23, Tryd.ntmps23
    go_wp2_with fail
    refine (HCH.out _).mono ?_
    rintro e W1 ⟨rfl, hW1⟩
    have HR1 : Hid (W1.heap[w.heap.size + 1]? = some (.cells (bcs (zer 32)) 24 (0, 0))) := by rw [hW1]; exact heap_alloc2_new w _ _
    have HB1 : Hid (Below w.heap.size w W1) := by rw [hW1]; exact HB2.out _ _
    clear hW1
    go_wp2_with (first
      | (refine wpList_built rfl 24 _ rfl Z HBZ.out ?_)
      | (refine wpList_store_abs rfl 24 (.tmp 4) (.tmp 11) rfl (w.heap.size + 1) 0 Z rfl rfl 24 _ HR1.out (by rw [HZS.out]; exact Nat.le_refl 32) HS24.out HO24.out ?_; intro W9 hO9 hW9))
    rw [over_whole _ Z (by rw [HZS.out]; rfl)] at hW9
    exact bodyPost_ret (v := .tuple #[.agg Z, .int .i64 E]) (results_row_tmp (p := 4) (q := 5) (ty := 24) Tryd.results23 _ _ (w.heap.size + 1) 24 _ (0, 0) (.array 32 5) _ rfl rfl hW9 Tryd.underlying24 rfl HS24.out) rfl ⟨rfl, HB1.out.trans (hO9.below (by omega))⟩

end Go.Proofs.YtfiacflggiccaaaDoor
