import Derived.Test.YtgoiafndapemjaaGreatDoorQ07
import Derived.Shelf.Spec.SlicesInsert
set_option linter.unusedVariables false
set_option linter.unusedSimpArgs false
set_option maxHeartbeats 1000000
namespace Go.Proofs.YtgoiafndapemjaaGreatDoor
open Go.RowKit
structure KeepsS (g : Nat) (w w' : World) : Prop where
 os : w'.os = w.os
 tape : w'.tape = w.tape
 output : w'.output = w.output
 size : w.heap.size ≤ w'.heap.size
 block : ∀ k, k < w.heap.size → k ≠ g → w'.heap[k]? = w.heap[k]?
theorem KeepsS.refl (g : Nat) (w : World) : KeepsS g w w := ⟨rfl, rfl, rfl, Nat.le_refl _, fun _ _ _ => rfl⟩
theorem KeepsS.trans {g : Nat} {a b c : World} (h : KeepsS g a b) (k : KeepsS g b c) : KeepsS g a c :=
 ⟨k.os.trans h.os, k.tape.trans h.tape, k.output.trans h.output, Nat.le_trans h.size k.size, fun i hi hg => (k.block i (Nat.lt_of_lt_of_le hi h.size) hg).trans (h.block i hi hg)⟩
theorem KeepsS.of_only {g : Nat} {w w' : World} (h : Only g w w') : KeepsS g w w' := ⟨h.os, h.tape, h.output, by rw [h.size]; exact Nat.le_refl _, fun k _ hk => h.block k hk⟩
theorem KeepsS.below {g B : Nat} {w w' : World} (h : KeepsS g w w') (hB : B ≤ g) (hg : g ≤ w.heap.size) : Below B w w' := ⟨h.os, h.tape, h.output, h.size, fun k hk => h.block k (by omega) (by omega)⟩
theorem KeepsS.tabs {g : Nat} {w w' : World} (h : KeepsS g w w') (hg : 1 < g) (hT : TabS w) : TabS w' :=
 hT.below (B := 2) ⟨h.os, h.tape, h.output, h.size, fun k hk => h.block k (by have := hT.lt; omega) (by omega)⟩ (by omega)
def lenV : Value → Nat | .slice _ n _ => n | _ => 0
theorem step_copy_abs {P : Program} {ops : Array Oper} {o : Oper} {a : Act} {w : World} {K : Act → World → Prop} {Q : Exit → Act → World → Prop} {E : Prop}
  (hgd : o.guard = none) (d x : Operand) (dT sT : TypeId) (hop : o.op = Op.call { callee := Callee.builtin Builtin.copy, args := #[d, x], argTypes := #[dT, sT] })
  (g oo dLen dCap : Nat) (A : Addr) (sLen sCap : Nat) (hd : a.eval d = .slice (some ⟨g, oo, none⟩) dLen dCap) (hx : a.eval x = .slice (some A) sLen sCap)
  (elem : TypeId) (hu : P.underlying dT = some (.slice elem)) (hs : (P.info? elem).map (·.size) = some 1) (cs : List Value) (hn : cs.length = Nat.min sLen dLen)
  (hsrc : ∀ j v, cs[j]? = some v → w.cell? (A.add j) = some v) (t : TypeId) (cur : Array Value) (hrow : w.heap[g]? = some (.cells cur t (0, 0))) (hfit : oo + cs.length ≤ cur.size) (h1 : ∀ v ∈ cs, v.oneCell' = true)
  (n : Nat) (hcn : cs.length = n)
  (hK : ∀ W, Only g w W → W.heap[g]? = some (.cells (over cur oo cs) t (0, 0)) → K (a.put o.dst (.int .i64 (n : Int))) W) :
  if Region.wanted o (yielded ops a.tmps) = true then Oper.wp P o a w K Q else E :=
 step_copy_runI hgd d x dT sT hop _ _ hd hx
  (run_copy_cells w dT sT o.type elem g oo dLen dCap A sLen sCap cs hu hs hn hsrc (fun j hj => ((there_row hrow oo cs.length hfit) j hj).1) (fun j hj => ((there_row hrow oo cs.length hfit) j hj).2) h1)
  (by rw [hcn]; exact hK _ (only_setCells g cs oo w) (setCells_heap g t cs oo w cur hrow))
theorem load35_eq (x : Value) : Instr.loadAt 107 x = loadI 107 x := rfl
theorem load49_eq (x : Value) : Instr.loadAt 159 x = loadI 159 x := rfl
theorem load24_eq (x : Value) : Instr.loadAt 74 x = loadI 74 x := rfl
theorem store35_eq (x v : Value) : Instr.storeAt 107 x v = storeI 107 x v := rfl
theorem store49_eq (x v : Value) : Instr.storeAt 159 x v = storeI 159 x v := rfl
theorem store24_eq (x v : Value) : Instr.storeAt 74 x v = storeI 74 x v := rfl
theorem load35_row {w : World} {g o : Nat} {s : St} (h : w.rangeAt g o (wvs s.l)) : (loadI 107 (.pointer (some ⟨g, o, none⟩))).run Tryz.prog w = .ok (.agg s.cs) w :=
 run_loadAt_mid w g o 107 (wvs s.l) _ h Tryz.underlying107 rfl size35
theorem load49_row {w : World} {g o : Nat} {r : List UInt8} (hr : r.length = 64) (h : w.rangeAt g o (bvs r)) : (loadI 159 (.pointer (some ⟨g, o, none⟩))).run Tryz.prog w = .ok (.agg (bcs r)) w :=
 run_loadAt_mid w g o 159 (bvs r) _ h Tryz.underlying159 rfl (by rw [size49, bvs_len, hr])
theorem store35_row {w : World} {g o : Nat} {t : TypeId} {cs : Array Value} (h : w.heap[g]? = some (.cells cs t (0, 0))) (ho : o + 8 ≤ cs.size) (s : St) :
  ∃ W, (storeI 107 (.pointer (some ⟨g, o, none⟩)) (.agg s.cs)).run Tryz.prog w = .ok () W ∧ Only g w W ∧ W.heap[g]? = some (.cells (over cs o (wvs s.l)) t (0, 0)) :=
 ⟨_, run_storeAt_mid w g o 107 s.cs (there_row h o 8 ho) (size35' s) (cs_one s), only_setCells g _ o w, setCells_heap g t _ o w cs h⟩
theorem store49_row {w : World} {g o : Nat} {t : TypeId} {cs : Array Value} (h : w.heap[g]? = some (.cells cs t (0, 0))) (ho : o + 64 ≤ cs.size) (r : List UInt8) (hr : r.length = 64) :
  ∃ W, (storeI 159 (.pointer (some ⟨g, o, none⟩)) (.agg (bcs r))).run Tryz.prog w = .ok () W ∧ Only g w W ∧ W.heap[g]? = some (.cells (over cs o (bvs r)) t (0, 0)) :=
 ⟨_, run_storeAt_mid w g o 159 (bcs r) (there_row h o _ (by rw [bcs_size, hr]; exact ho)) (size49' r hr) (bvs_one r), only_setCells g _ o w, setCells_heap g t _ o w cs h⟩
theorem hash_next (all l : List UInt8) (k m p N : Nat) (hk : k + m ≤ l.length) (hN : (all ++ l.take k).length = N) (hp : p = N % 64) (hm : p + m ≤ 64) :
  ∃ S R, R.length = 64 ∧ over (hash (all ++ l.take k)).toArray (8 + p) (bvs ((l.drop k).take m)) = (hcsS S R N true).toArray ∧ (p + m < 64 → hash (all ++ l.take (k + m)) = hcsS S R (N + m) true) ∧ (p + m = 64 → hash (all ++ l.take (k + m)) = hcsS (turnS S R) (zer 64) (N + m) true) := by
 have hM : ((l.drop k).take m).length = m := by rw [List.length_take, List.length_drop]; omega
 have e : all ++ l.take (k + m) = (all ++ l.take k) ++ (l.drop k).take m := by rw [List.append_assoc, List.take_add]
 rw [e]
 generalize (l.drop k).take m = M at hM
 generalize all ++ l.take k = L at hN
 subst hN
 subst hp
 refine ⟨stOf L, tailOf L ++ (M ++ zer (64 - L.length % 64 - m)), ?_, ?_, ?_, ?_⟩
 ·simp only [List.length_append, tail_len, zer_len, hM]; omega
 ·unfold hash
  rw [rest_split L m hm, over_rest _ _ _ _ _ _ _ (by rw [zer_len, hM]) _ (by rw [tail_len])]
 ·intro h
  rw [hash_short L M (by rw [hM]; exact h), hM]
 ·intro h
  rw [hash_full L M (by rw [hM]; exact h), hM, show 64 - L.length % 64 - m = 0 from by omega]
  simp [zer]
attribute [local go_sem ↓] load35_eq load49_eq store35_eq store49_eq
set_option maxRecDepth 100000 in
theorem write_any (g : Nat) (all l : List UInt8) (A : Option Addr) (cap q o : Nat) (w : World) (hT : TabS w) (hg1 : 1 < g) (hg : w.heap[g]? = some (.cells (hash all).toArray 161 (0, 0)))
  (hA : 0 < l.length → A = some ⟨q, o, none⟩) (hq : q ≠ g) (hqs : q < w.heap.size) (hsrc : ∀ j, j < l.length → w.cell? ⟨q, o + j, none⟩ = some (.int .u8 (l.getD j 0).toNat)) (hcap : l.length ≤ cap) (hlen : all.length + l.length ≤ 1000000) :
  Calls Tryz.prog 117 #[.pointer (some ⟨g, 0, none⟩), .slice A l.length cap] w fun e w' => e = .returned (.tuple #[]) ∧ w'.heap[g]? = some (.cells (hash (all ++ l)).toArray 161 (0, 0)) ∧ KeepsS g w w' := by
 have hm := hash_m (rest_len all) hg
 have HT := hid hT
 have HG := hid hg
 have HA := hid hA
 have HSRC := hid hsrc
 clear hT hg hA hsrc
 go_enter Tryz.func117, Tryz.ntmps117
 go_wp2_with fail
 clear hm
 go_loopw [1] (fun v wr => ∃ (k : Nat) (A : Option Addr) (C : Nat), k ≤ l.length ∧ v = .slice A (l.length - k) C ∧ Hid (k < l.length → A = some ⟨q, o + k, none⟩) ∧ l.length - k ≤ C ∧ Hid (wr.heap[g]? = some (.cells (hash (all ++ l.take k)).toArray 161 (0, 0))) ∧ Hid (KeepsS g w wr)) (fun v _ => lenV v)
 case atStart => exact ⟨0, A, cap, Nat.zero_le _, rfl, HA, hcap, by rw [List.take_zero, List.append_nil]; exact HG, KeepsS.refl _ _⟩
 case round =>
  obtain ⟨k, A, C, hk, rfl, HA, hC, HG, HK⟩ := hrel
  by_cases hlt : k < l.length
  ·obtain rfl := HA.out hlt
   obtain ⟨N, hN⟩ : ∃ N, Hid (N = all.length + k) := ⟨_, rfl⟩
   obtain ⟨p, hp⟩ : ∃ p, Hid (p = N % 64) := ⟨_, rfl⟩
   have hp64 : p < 64 := by rw [hp.out]; omega
   have htm : (N : Int).tmod 64 = (p : Int) := by rw [hp.out]; simp [Int.tmod_eq_emod_of_nonneg]
   have hem : (N : Int) % 64 = (p : Int) := by rw [hp.out]; omega
   obtain ⟨m, hm⟩ : ∃ m, Hid (m = min (l.length - k) (64 - p)) := ⟨_, rfl⟩
   have hm1 : 1 ≤ m ∧ m ≤ l.length - k ∧ m ≤ 64 - p := by rw [hm.out]; omega
   obtain ⟨r, hr⟩ : ∃ r, r = l.length - k := ⟨_, rfl⟩
   have hNN : Hid ((all ++ l.take k).length = N) := by show _ = _; rw [List.length_append, List.length_take, hN.out]; omega
   have hNb : N ≤ 1000000 := by rw [hN.out]; omega
   have cN : wr.cell? ⟨g, 72, none⟩ = some (.int .i64 N) := by rw [hash_n (rest_len _) HG.out, hNN.out]
   have hsl := slice_from (P := Tryz.prog) 159 64 5 Tryz.underlying159 Tryz.sizeOf5 g 8 p (p : Int) rfl hp64
   obtain ⟨M, hM⟩ : ∃ M, Hid (M = (l.drop k).take m) := ⟨_, rfl⟩
   have HML : Hid (M.length = m) := by show _ = _; rw [hM.out, List.length_take, List.length_drop]; omega
   have HMN : Hid ((bvs M).length = Nat.min r (64 - p)) := by show _ = _; rw [bvs_len, HML.out, hm.out, hr]
   have HMS : Hid (∀ j v, (bvs M)[j]? = some v → wr.cell? ((⟨q, o + k, none⟩ : Addr).add j) = some v) := fun j v hv => by
    have hj : j < m := by have := (List.getElem?_eq_some_iff.1 hv).1; rw [bvs_len, HML.out] at this; exact this
    rw [Addr.add_mid, World.cell?_of_block (w := w) (HK.out.block q hqs hq), Nat.add_assoc, HSRC.out (k + j) (by omega), ← hv, hM.out]
    simp [bvs, List.getD_eq_getElem?_getD, hj, List.getElem?_drop, show k + j < l.length by omega]
   have HFT : Hid (8 + p + (bvs M).length ≤ (hash (all ++ l.take k)).toArray.size) := by
    show _ ≤ _
    rw [bvs_len, HML.out, List.size_toArray, hash, hcs_len _ _ _ _ (rest_len _)]; omega
   have HON := hid (bvs_one' M)
   have HCM : Hid ((bvs M).length = m) := by show _ = _; rw [bvs_len, HML.out]
   rw [← hr]
   have hrpos : 0 < r := by omega
   have HR : Hid (r = l.length - k) := hr
   have hmr : m ≤ r := by omega
   clear hr
   go_wp2_with fail
   go_region_law ((refine step_copy_abs (by rfl) _ _ 42 42 (by rfl) g (8 + p) (64 - p) (64 - p) ⟨q, o + k, none⟩ r C (by rfl) (by rfl) 5 Tryz.underlying42 size5 (bvs M) HMN.out HMS.out 161 _ HG.out HFT.out HON.out m HCM.out ?_; intro W hO hW))
   obtain ⟨S, R, hRl, hov, hsh, hfu⟩ := hash_next all l k m p N (by omega) hNN.out hp.out (by omega)
   rw [← hM.out] at hov
   rw [hov] at hW
   have HW := hid hW
   have HRl := hid hRl
   have HSH := hid hsh
   have HFU := hid hfu
   have HO := hid hO
   have cN2 : W.cell? ⟨g, 72, none⟩ = some (.int .i64 N) := hash_n hRl hW
   have fN2 : W.frozen? ⟨g, 72, none⟩ = false := frozen_of_row _ _ _ _ _ hW
   clear hov hW hO hRl hsh hfu cN hsl HMN HMS HFT HON HCM HML hM
   obtain ⟨A', hA'⟩ : ∃ A', (if C = m then some (⟨q, o + k, none⟩ : Addr) else some ⟨q, o + k + m, none⟩) = A' := ⟨_, rfl⟩
   have HA' : Hid (k + m < l.length → A' = some ⟨q, o + (k + m), none⟩) := fun h => by
    have := HR.out
    rw [← hA', if_neg (by omega), Nat.add_assoc]
   have HO' : Only g wr W := ⟨HO.out.os, HO.out.tape, HO.out.output, HO.out.size, HO.out.block⟩
   have HK2 := hid (HK.out.trans (KeepsS.of_only HO'))
   clear HO'
   have hset : ∀ v : Int, v = ((N + m : Nat) : Int) → (W.setCell ⟨g, 72, none⟩ (.int .i64 v)).heap[g]? = some (.cells (hcsS S R (N + m) true).toArray 161 (0, 0)) ∧ KeepsS g w (W.setCell ⟨g, 72, none⟩ (.int .i64 v)) := fun v hv => by
    rw [heap_setCell_same _ _ _ _ _ _ HW.out, hv, set_taken S R N (N + m) true HRl.out]
    exact ⟨rfl, HK2.out.trans (KeepsS.of_only (only_set g 72 _ W))⟩
   have HSET := hid hset
   clear hset HK
   by_cases hfull : p + m = 64
   ·have h64 : ((N : Int) + (m : Int)) % 64 = 0 := by have := hp.out; omega
    have h65 : (((N : Int) + (m : Int)) % 64 == 0) = true := by rw [h64]; rfl
    go_wp2_with fail
    obtain ⟨hW3, hK3⟩ := HSET.out ((N : Int) + (m : Int)) (by omega)
    generalize W.setCell ⟨g, 72, none⟩ (.int .i64 ((N : Int) + (m : Int))) = W3 at hW3 hK3 ⊢
    have HW3 := hid hW3
    have HK3 := hid hK3
    have HT3 := hid (hK3.tabs hg1 HT.out)
    have hl1 : (loadI 107 (.pointer (some ⟨g, 0, none⟩))).run Tryz.prog W3.drew = .ok (.agg S.cs) W3.drew := load35_row (hash_range_state hW3)
    have hl2 : (loadI 159 (.pointer (some ⟨g, 8, none⟩))).run Tryz.prog W3.drew = .ok (.agg (bcs R)) W3.drew := load49_row HRl.out (hash_range_rest hW3)
    have H24 := hid (fun W (hW : TabS W) => turned_any S R HRl.out W hW)
    have hg3 : g < W3.heap.size := (Array.getElem?_eq_some_iff.1 hW3).1
    have HFU' := HFU.out hfull
    generalize turnS S R = T at H24 HFU'
    have HFU2 := hid HFU'
    have HSTO : Hid (∀ w1, Below W3.drew.heap.size W3.drew w1 → ∃ W, (storeI 107 (.pointer (some ⟨g, 0, none⟩)) (.agg T.cs)).run Tryz.prog w1 = .ok () W ∧ ∃ W', (storeI 159 (.pointer (some ⟨g, 8, none⟩)) (.agg (bcs (zer 64)))).run Tryz.prog W = .ok () W' ∧ KeepsS g w W' ∧ W'.heap[g]? = some (.cells (hcsS T (zer 64) (N + m) true).toArray 161 (0, 0))) := fun w1 h1 => by
     have hr := (h1.block g hg3).trans HW3.out
     obtain ⟨W, h2, h3, h4⟩ := store35_row hr (o := 0) (by rw [List.size_toArray, hcs_len _ _ _ _ HRl.out]; omega) T
     rw [over_state] at h4
     obtain ⟨W', h5, h6, h7⟩ := store49_row h4 (o := 8) (by rw [List.size_toArray, hcs_len _ _ _ _ HRl.out]; omega) (zer 64) (zer_len 64)
     rw [over_whole_rest _ _ _ _ _ (by rw [zer_len, HRl.out])] at h7
     refine ⟨W, h2, W', h5, ?_, h7⟩
     have e1 : KeepsS g W3 w1 := ⟨h1.os, h1.tape, h1.output, h1.size, fun k hk _ => h1.block k hk⟩
     exact ((HK3.out.trans e1).trans (KeepsS.of_only h3)).trans (KeepsS.of_only h6)
    clear hW3 hK3 cN2 fN2 h64 h65 htm hem HFU HFU'
    have HBR := hid built_rest
    generalize bcs (zer 64) = Z at HSTO HBR
    go_region_with ((go_at_call 147; refine (H24.out _ (by exact HT3.out)).mono ?_; rintro e w1 ⟨rfl, hb1⟩; obtain ⟨W4, hst, W5, hst5, hK5, hW5⟩ := HSTO.out w1 hb1; have HK5 := hid hK5; have HW5 := hid hW5; clear hb1 hK5 hW5))
    all_goals
     go_wp2_with (refine wpList_built rfl 159 _ rfl Z HBR.out ?_)
     refine ⟨⟨k + m, A', C - m, by omega, by rw [HR.out, Nat.sub_sub], HA', by have := HR.out; omega, ?_, HK5.out⟩, by simp [lenV]; omega⟩
     show _ = _
     rw [HW5.out, HFU2.out]
   ·have h64 : ((N : Int) + (m : Int)) % 64 = ((p + m : Nat) : Int) := by have := hp.out; omega
    have hpos : 0 < p + m := by omega
    go_wp2_with fail
    obtain ⟨hW3, hK3⟩ := HSET.out ((N : Int) + (m : Int)) (by omega)
    refine ⟨⟨k + m, A', C - m, by omega, by rw [HR.out, Nat.sub_sub], HA', by have := HR.out; omega, ?_, hK3⟩, by simp [lenV]; omega⟩
    show _ = _
    rw [hW3, HSH.out (by omega)]
  ·have HE : Hid (all ++ l.take k = all ++ l) := by show _ = _; rw [List.take_of_length_le (by omega)]
   have HG2 := HG.out
   rw [HE.out] at HG2
   have HG3 := hid HG2
   have h0 : l.length - k = 0 := by omega
   clear HG2 HE HG
   go_wp2_with fail
   go_end0
   exact ⟨rfl, HG3.out, HK.out⟩
end Go.Proofs.YtgoiafndapemjaaGreatDoor
