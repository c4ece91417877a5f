import Derived.Test.YtgoiafndapemjaaGreatDoorP08
import Derived.Deep.RegionLaw
import Derived.Laws.IdiomCopy
import Derived.Shelf.Spec.SlicesInsert
set_option linter.unusedVariables false
set_option linter.unusedSimpArgs false
set_option maxHeartbeats 1000000
namespace Go.Proofs.YtgoiafndapemjaaGreatDoor
open Go.RowKit
def bytesOf (x : UInt32) : List UInt8 := [UInt8.ofNat (x.toNat / 16777216), UInt8.ofNat (x.toNat / 65536), UInt8.ofNat (x.toNat / 256), UInt8.ofNat x.toNat]
def digS (s : St) : List UInt8 := s.l.flatMap bytesOf
theorem bytes_len (l : List UInt32) : (l.flatMap bytesOf).length = 4 * l.length := by
 induction l with
 | nil => rfl
 | cons x r ih => rw [List.flatMap_cons, List.length_append, ih, List.length_cons]; show 4 + 4 * r.length = _; omega
theorem dig_lenS (s : St) : (digS s).length = 32 := bytes_len s.l
theorem byte_eq (x : UInt32) (n : Nat) : nv x / (n : Int) % 256 = ((UInt8.ofNat (x.toNat / n)).toNat : Int) := by
 unfold nv
 rw [UInt8.toNat_ofNat']
 simp
theorem put4_eq (w : World) (g o : Nat) (x : UInt32) : put4 w g o x = w.setCells g o (bvs (bytesOf x)) := by
 have h1 : nv x / 16777216 % 256 = ((UInt8.ofNat (x.toNat / 16777216)).toNat : Int) := byte_eq x 16777216
 have h2 : nv x / 65536 % 256 = ((UInt8.ofNat (x.toNat / 65536)).toNat : Int) := byte_eq x 65536
 have h3 : nv x / 256 % 256 = ((UInt8.ofNat (x.toNat / 256)).toNat : Int) := byte_eq x 256
 have h4 : nv x % 256 = ((UInt8.ofNat x.toNat).toNat : Int) := by
  have := byte_eq x 1
  simpa using this
 unfold put4
 rw [h1, h2, h3, h4]
 rfl
theorem put4_row {w : World} {g : Nat} {t : TypeId} (a z c : List UInt8) (x : UInt32) (hz : z.length = 4) (h : w.heap[g]? = some (.cells (bcs (a ++ (z ++ c))) t (0, 0))) (o : Nat) (ho : o = a.length) :
  (put4 w g o x).heap[g]? = some (.cells (bcs (a ++ (bytesOf x ++ c))) t (0, 0)) ∧ Only g w (put4 w g o x) := by
 rw [put4_eq]
 refine ⟨?_, only_setCells g _ o w⟩
 rw [setCells_heap g t _ o w _ h]
 have := over_mid (bvs z) (bvs (bytesOf x)) (bvs a) (bvs c) (by rw [bvs_len, bvs_len, hz]; rfl)
 rw [bvs_len, ← ho] at this
 have e1 : bcs (a ++ (z ++ c)) = (bvs a ++ (bvs z ++ bvs c)).toArray := by simp [bcs, bvs]
 have e2 : bcs (a ++ (bytesOf x ++ c)) = (bvs a ++ (bvs (bytesOf x) ++ bvs c)).toArray := by simp only [bcs, bvs, List.map_append]
 rw [e1, this, e2]
theorem size24 : (Tryz.prog.info? 74).map (·.size) = some 32 := by kernel_rfl
theorem size24' (b : List UInt8) (h : b.length = 32) : (Tryz.prog.info? 74).map (·.size) = some (bcs b).size := by rw [size24, bcs_size, h]
theorem size49' (b : List UInt8) (h : b.length = 64) : (Tryz.prog.info? 159).map (·.size) = some (bcs b).size := by rw [size49, bcs_size, h]
theorem zer_split (n : Nat) (h : 4 ≤ n) : zer n = zer 4 ++ zer (n - 4) := by
 unfold zer; rw [List.replicate_append_replicate]; congr 1; omega
def digTo (s : St) (k : Nat) : List UInt8 := (s.l.take k).flatMap bytesOf
theorem digTo_len (s : St) (k : Nat) (h : k ≤ 8) : (digTo s k).length = 4 * k := by
 unfold digTo; rw [bytes_len, List.length_take]; show 4 * min k 8 = _; omega
theorem digTo_succ (s : St) (k : Nat) (h : k < 8) : digTo s (k + 1) = digTo s k ++ bytesOf (s.l.getD k 0) := by
 unfold digTo
 have h' : k < s.l.length := h
 rw [List.take_succ_eq_append_getElem h', List.flatMap_append]
 simp [List.getD_eq_getElem?_getD, h']
theorem digTo_full (s : St) (k : Nat) (h : k = 8) : digTo s k = digS s := by
 subst h
 unfold digTo digS
 rw [List.take_of_length_le (Nat.le_refl 8)]
def DigAt (s : St) (w wr : World) (k : Nat) : Prop :=
 wr.heap[w.heap.size + 1]? = some (.cells (bcs (zer 32)) 74 (0, 0)) ∧ wr.heap[w.heap.size + 1 + 1]? = some (.cells (bcs (digTo s k ++ zer (32 - 4 * k))) 74 (0, 0)) ∧ Below w.heap.size w wr
set_option maxRecDepth 100000 in
theorem digest_any (s : St) (w : World) :
  Calls Tryz.prog 149 #[.agg s.cs] w fun e w' => e = .returned (.agg (bcs (digS s))) ∧ Below w.heap.size w w' := by
 have HI35 := hid (size35' s)
 obtain ⟨X, hX⟩ : ∃ X : Array Value, Hid (X = s.cs) := ⟨_, rfl⟩
 have HX : Hid (∀ j, j < 8 → X[j]? = some (.int .u32 (nv (s.l.getD j 0)))) := fun j hj => by rw [hX.out, St.cs_eq]; exact wvs_at s.l j hj
 rw [← hX.out] at HI35 ⊢
 clear hX
 have HD : Hid (∀ k, k = 8 → digTo s k = digS s) := fun k => digTo_full s k
 have HDL := hid (dig_lenS s)
 generalize digS s = D at HD HDL ⊢
 go_enter Tryz.func149, Tryz.ntmps149
 go_wp2_with (refine wpList_load_row rfl 107 (.tmp 1) rfl w.heap.size rfl 107 X (0, 0) (.array 8 106) (heap3_0 _ _ _ _) Tryz.underlying107 rfl HI35.out ?_)
 go_loopw [7] (fun i wr => ∃ k : Nat, k ≤ 8 ∧ i = .int .i64 k ∧ Hid (DigAt s w wr k)) (fun i _ => 8 - (intOf i).toNat)
 case atStart =>
  refine ⟨0, by omega, rfl, ?_, ?_, ?_⟩
  ·exact heap3_1 _ _ _ _
  ·exact heap3_2 _ _ _ _
  ·exact below3 _ _ _ _
 case round =>
  obtain ⟨k, hk, rfl, HS⟩ := hrel
  by_cases hlt : k < 8
  ·obtain ⟨x, ex⟩ : ∃ x, Hid (x = s.l.getD k 0) := ⟨_, rfl⟩
   have hidx : ∀ W, (Instr.index 107 (.agg X) (.int .i64 (k : Int))).run Tryz.prog W = .ok (.int .u32 (nv x)) W := fun W => index35 _ k _ hlt (by rw [HX.out k hlt, ex.out]) W
   have hsl := slice_from (P := Tryz.prog) 74 32 5 Tryz.underlying74 Tryz.sizeOf5 (w.heap.size + 1 + 1) 0 (4 * k) (4 * (k : Int)) (by omega) (by omega)
   simp only [Nat.zero_add] at hsl
   have HN : Hid (digTo s k ++ zer (32 - 4 * k) = digTo s k ++ (zer 4 ++ zer (32 - 4 * (k + 1)))) := by
    show _ = _
    rw [zer_split (32 - 4 * k) (by omega)]
    rw [show 32 - 4 * (k + 1) = 32 - 4 * k - 4 from by omega]
   have h2 := HS.out.2.1
   rw [HN.out] at h2
   have H2 := hid h2
   clear h2
   have HZ : Hid (4 * k + 4 ≤ (bcs (digTo s k ++ (zer 4 ++ zer (32 - 4 * (k + 1))))).size) := by
    show _ ≤ _
    rw [bcs_size, List.length_append, List.length_append, digTo_len s k hk]; simp [zer]
   go_wp2_with (go_at_call 148; refine (putWord_any _ _ _ _ x _ (by omega) _ 74 H2.out HZ.out).mono ?_; rintro e w' ⟨rfl, rfl⟩)
   have hp := put4_row (digTo s k) (zer 4) (zer (32 - 4 * (k + 1))) x rfl H2.out (4 * k) (digTo_len s k hk).symm
   go_roundw
   case rel =>
    refine ⟨k + 1, by omega, by go_num, ?_, ?_, ?_⟩
    ·rw [hp.2.block _ (by omega)]; exact HS.out.1
    ·rw [hp.1, digTo_succ s k hlt, List.append_assoc, ex.out]
    ·exact HS.out.2.2.trans (hp.2.below (by omega))
   case measure => simp [intOf]; omega
  ·obtain ⟨h1, h2, h3⟩ := HS.out
   rw [HD.out k (by omega), show 32 - 4 * k = 0 from by omega, show zer 0 = [] from rfl, List.append_nil] at h2
   have H1 := hid h1
   have H2 := hid h2
   have H3 := hid h3
   have HI := hid (size24' D HDL.out)
   have HO := hid (bvs_one D)
   clear h1 h2 h3 HS
   go_wp2_with (first
    | (refine wpList_load_row rfl 74 (.tmp 3) rfl (w.heap.size + 1 + 1) rfl 74 (bcs D) (0, 0) (.array 32 5) H2.out Tryz.underlying74 rfl HI.out ?_)
    | (refine wpList_store_abs rfl 74 (.tmp 2) (.tmp 17) rfl (w.heap.size + 1) 0 (bcs D) rfl rfl 74 _ H1.out (by rw [bcs_size, bcs_size, HDL.out]; exact Nat.le_refl 32) HI.out HO.out ?_; intro W2 hO2 hW2))
   rw [over_bytes _ D (by rw [bcs_size, HDL.out]; rfl)] at hW2
   exact bodyPost_ret (v := .agg (bcs D)) (results_cell_row (p := 2) (ty := 74) Tryz.results149 _ _ (w.heap.size + 1) 74 _ (0, 0) (.array 32 5) rfl hW2 Tryz.underlying74 rfl HI.out) rfl ⟨rfl, H3.out.trans (hO2.below (by omega))⟩
def hcsS (s : St) (r : List UInt8) (n : Nat) (m : Bool) : List Value := wvs s.l ++ (bvs r ++ [Value.int .i64 n, .bool m])
theorem hcs_len (s : St) (r : List UInt8) (n : Nat) (m : Bool) (h : r.length = 64) : (hcsS s r n m).length = 74 := by
 simp [hcsS, wvs, bvs, St.l, h]
theorem built_new : Tryz.prog.built 161 [(0, .agg (wvs H0.l).toArray), (3, .bool true)] = some (hcsS H0 (zer 64) 0 true).toArray := by kernel_rfl
theorem built_rest : Tryz.prog.built 159 [] = some (bcs (zer 64)) := by kernel_rfl
set_option maxRecDepth 100000 in
theorem new_any (w : World) (hT : TabS w) :
  Calls Tryz.prog 116 #[] w fun e w' => e = .returned (.pointer (some ⟨w.heap.size, 0, none⟩)) ∧ w' = w.alloc (.cells (hcsS H0 (zer 64) 0 true).toArray 161) := by
 have HB := hid built_new
 have HR : Hid (w.rangeAt 0 0 (wvs H0.l)) := hT.1
 have HS : Hid ((Tryz.prog.info? 107).map (·.size) = some (wvs H0.l).length) := size35
 clear hT
 generalize (hcsS H0 (zer 64) 0 true).toArray = C at HB ⊢
 generalize wvs H0.l = L at HB HR HS
 go_enter Tryz.func116, Tryz.ntmps116
 go_wp2_with (first
  | (refine wpList_load_mid rfl 107 (.global 0) rfl 0 0 rfl L (.array 8 106) HR.out Tryz.underlying107 rfl HS.out ?_)
  | (refine wpList_built rfl 161 _ rfl C HB.out ?_))
 go_ret
 exact ⟨rfl, rfl⟩
theorem hash_n {w : World} {g : Nat} {s : St} {r : List UInt8} {n : Nat} {m : Bool} (hr : r.length = 64) (h : w.heap[g]? = some (.cells (hcsS s r n m).toArray 161 (0, 0))) : w.cell? ⟨g, 72, none⟩ = some (.int .i64 n) := by
 rw [cell_of_row _ _ _ _ _ _ h]
 have h1 : (wvs s.l).length = 8 := rfl
 have h2 : (bvs r).length = 64 := by rw [bvs_len, hr]
 unfold hcsS
 rw [List.getElem?_toArray, List.getElem?_append_right (by omega), List.getElem?_append_right (by omega), h1, h2]
 rfl
theorem hash_m {w : World} {g : Nat} {s : St} {r : List UInt8} {n : Nat} {m : Bool} (hr : r.length = 64) (h : w.heap[g]? = some (.cells (hcsS s r n m).toArray 161 (0, 0))) : w.cell? ⟨g, 73, none⟩ = some (.bool m) := by
 rw [cell_of_row _ _ _ _ _ _ h]
 have h1 : (wvs s.l).length = 8 := rfl
 have h2 : (bvs r).length = 64 := by rw [bvs_len, hr]
 unfold hcsS
 rw [List.getElem?_toArray, List.getElem?_append_right (by omega), List.getElem?_append_right (by omega), h1, h2]
 rfl
def blkS (l : List UInt8) (i : Nat) : List UInt8 := (l.drop (64 * i)).take 64
def stTo (l : List UInt8) : Nat → St
 | 0 => H0
 | i + 1 => turnS (stTo l i) (blkS l i)
def stOf (l : List UInt8) : St := stTo l (l.length / 64)
def tailOf (l : List UInt8) : List UInt8 := l.drop (64 * (l.length / 64))
def restOf (l : List UInt8) : List UInt8 := tailOf l ++ zer (64 - l.length % 64)
def hash (l : List UInt8) : List Value := hcsS (stOf l) (restOf l) l.length true
theorem tail_len (l : List UInt8) : (tailOf l).length = l.length % 64 := by
 unfold tailOf; rw [List.length_drop]; omega
theorem rest_len (l : List UInt8) : (restOf l).length = 64 := by
 unfold restOf; rw [List.length_append, tail_len, zer_len]; omega
theorem blk_app (l m : List UInt8) (i : Nat) (h : 64 * (i + 1) ≤ l.length) : blkS (l ++ m) i = blkS l i := by
 unfold blkS
 rw [List.drop_append_of_le_length (by omega), List.take_append_of_le_length (by rw [List.length_drop]; omega)]
theorem stTo_app (l m : List UInt8) : ∀ n, 64 * n ≤ l.length → stTo (l ++ m) n = stTo l n
 | 0, _ => rfl
 | n + 1, h => by rw [stTo, stTo, stTo_app l m n (by omega), blk_app l m n h]
theorem tail_app (l m : List UInt8) (h : (l ++ m).length / 64 = l.length / 64) : tailOf (l ++ m) = tailOf l ++ m := by
 unfold tailOf
 rw [h, List.drop_append_of_le_length (by omega)]
theorem hash_short (l m : List UInt8) (h : l.length % 64 + m.length < 64) : hash (l ++ m) = hcsS (stOf l) (tailOf l ++ (m ++ zer (64 - l.length % 64 - m.length))) (l.length + m.length) true := by
 have hq : (l ++ m).length / 64 = l.length / 64 := by rw [List.length_append]; omega
 have hr : (l ++ m).length % 64 = l.length % 64 + m.length := by rw [List.length_append]; omega
 unfold hash restOf stOf
 rw [hq, hr, tail_app l m hq, stTo_app l m _ (by omega), List.length_append, List.append_assoc, show 64 - (l.length % 64 + m.length) = 64 - l.length % 64 - m.length from by omega]
theorem hash_full (l m : List UInt8) (h : l.length % 64 + m.length = 64) : hash (l ++ m) = hcsS (turnS (stOf l) (tailOf l ++ m)) (zer 64) (l.length + m.length) true := by
 have hq : (l ++ m).length / 64 = l.length / 64 + 1 := by rw [List.length_append]; omega
 have hr : (l ++ m).length % 64 = 0 := by rw [List.length_append]; omega
 have ht : tailOf (l ++ m) = [] := by
  unfold tailOf; rw [hq]; exact List.drop_of_length_le (by rw [List.length_append]; omega)
 have hb : blkS (l ++ m) (l.length / 64) = tailOf l ++ m := by
  unfold blkS tailOf
  rw [List.drop_append_of_le_length (by omega)]
  exact List.take_of_length_le (by rw [List.length_append, List.length_drop]; omega)
 unfold hash restOf stOf
 rw [hr, ht, hq, stTo, hb, stTo_app l m _ (by omega), List.length_append]
 rfl
theorem rest_split (l : List UInt8) (n : Nat) (h : l.length % 64 + n ≤ 64) : restOf l = tailOf l ++ (zer n ++ zer (64 - l.length % 64 - n)) := by
 unfold restOf
 rw [show 64 - l.length % 64 = n + (64 - l.length % 64 - n) from by omega]
 congr 1
 unfold zer
 rw [List.replicate_append_replicate]
 congr 1
 omega
theorem over_rest (s : St) (a z c m : List UInt8) (n : Nat) (b : Bool) (hz : m.length = z.length) (o : Nat) (ho : o = 8 + a.length) :
  over (hcsS s (a ++ (z ++ c)) n b).toArray o (bvs m) = (hcsS s (a ++ (m ++ c)) n b).toArray := by
 have := over_mid (bvs z) (bvs m) (wvs s.l ++ bvs a) (bvs c ++ [Value.int .i64 n, .bool b]) (by rw [bvs_len, bvs_len, hz])
 have h1 : (wvs s.l).length = 8 := rfl
 rw [List.length_append, h1, bvs_len, ← ho] at this
 have e : ∀ x : List UInt8, hcsS s (a ++ (x ++ c)) n b = (wvs s.l ++ bvs a) ++ (bvs x ++ (bvs c ++ [Value.int .i64 n, .bool b])) := fun x => by
  simp only [hcsS, bvs, List.map_append, List.append_assoc]
 rw [e z, this, ← e m]
theorem over_state (s t : St) (r : List UInt8) (n : Nat) (b : Bool) : over (hcsS s r n b).toArray 0 (wvs t.l) = (hcsS t r n b).toArray :=
 over_mid (wvs s.l) (wvs t.l) [] (bvs r ++ [Value.int .i64 n, .bool b]) rfl
theorem over_whole_rest (s : St) (r r' : List UInt8) (n : Nat) (b : Bool) (h : r'.length = r.length) : over (hcsS s r n b).toArray 8 (bvs r') = (hcsS s r' n b).toArray := by
 have := over_rest s [] r [] r' n b h 8 rfl
 simpa using this
theorem set_taken (s : St) (r : List UInt8) (n n' : Nat) (b : Bool) (hr : r.length = 64) : (hcsS s r n b).toArray.setIfInBounds 72 (.int .i64 n') = (hcsS s r n' b).toArray := by
 have := over_mid [Value.int .i64 n] [Value.int .i64 n'] (wvs s.l ++ bvs r) [.bool b] rfl
 have h1 : (wvs s.l).length = 8 := rfl
 rw [List.length_append, h1, bvs_len, hr] at this
 simp only [hcsS]
 rw [← List.append_assoc, ← List.append_assoc]
 simpa [over] using this
theorem hash_range_state {w : World} {g : Nat} {s : St} {r : List UInt8} {n : Nat} {m : Bool} (h : w.heap[g]? = some (.cells (hcsS s r n m).toArray 161 (0, 0))) : w.rangeAt g 0 (wvs s.l) :=
 range_row (a := []) h 0 rfl
theorem hash_range_rest {w : World} {g : Nat} {s : St} {r : List UInt8} {n : Nat} {m : Bool} (h : w.heap[g]? = some (.cells (hcsS s r n m).toArray 161 (0, 0))) : w.rangeAt g 8 (bvs r) :=
 range_row (a := wvs s.l) h 8 rfl
structure KeepsS (g : Nat) (w w' : World) : Prop where
 os : w'.os = w.os
 tape : w'.tape = w.tape
 output : w'.output = w.output
 size : w.heap.size ≤ w'.heap.size
 block : ∀ k, k < w.heap.size → k ≠ g → w'.heap[k]? = w.heap[k]?
theorem KeepsS.refl (g : Nat) (w : World) : KeepsS g w w := ⟨rfl, rfl, rfl, Nat.le_refl _, fun _ _ _ => rfl⟩
theorem KeepsS.trans {g : Nat} {a b c : World} (h : KeepsS g a b) (k : KeepsS g b c) : KeepsS g a c :=
 ⟨k.os.trans h.os, k.tape.trans h.tape, k.output.trans h.output, Nat.le_trans h.size k.size, fun i hi hg => (k.block i (Nat.lt_of_lt_of_le hi h.size) hg).trans (h.block i hi hg)⟩
theorem KeepsS.of_only {g : Nat} {w w' : World} (h : Only g w w') : KeepsS g w w' := ⟨h.os, h.tape, h.output, by rw [h.size]; exact Nat.le_refl _, fun k _ hk => h.block k hk⟩
theorem KeepsS.below {g B : Nat} {w w' : World} (h : KeepsS g w w') (hB : B ≤ g) (hg : g ≤ w.heap.size) : Below B w w' := ⟨h.os, h.tape, h.output, h.size, fun k hk => h.block k (by omega) (by omega)⟩
theorem KeepsS.tabs {g : Nat} {w w' : World} (h : KeepsS g w w') (hg : 1 < g) (hT : TabS w) : TabS w' :=
 hT.below (B := 2) ⟨h.os, h.tape, h.output, h.size, fun k hk => h.block k (by have := hT.lt; omega) (by omega)⟩ (by omega)
def lenV : Value → Nat | .slice _ n _ => n | _ => 0
theorem step_copy_abs {P : Program} {ops : Array Oper} {o : Oper} {a : Act} {w : World} {K : Act → World → Prop} {Q : Exit → Act → World → Prop} {E : Prop}
  (hgd : o.guard = none) (d x : Operand) (dT sT : TypeId) (hop : o.op = Op.call { callee := Callee.builtin Builtin.copy, args := #[d, x], argTypes := #[dT, sT] })
  (g oo dLen dCap : Nat) (A : Addr) (sLen sCap : Nat) (hd : a.eval d = .slice (some ⟨g, oo, none⟩) dLen dCap) (hx : a.eval x = .slice (some A) sLen sCap)
  (elem : TypeId) (hu : P.underlying dT = some (.slice elem)) (hs : (P.info? elem).map (·.size) = some 1) (cs : List Value) (hn : cs.length = Nat.min sLen dLen)
  (hsrc : ∀ j v, cs[j]? = some v → w.cell? (A.add j) = some v) (t : TypeId) (cur : Array Value) (hrow : w.heap[g]? = some (.cells cur t (0, 0))) (hfit : oo + cs.length ≤ cur.size) (h1 : ∀ v ∈ cs, v.oneCell' = true)
  (n : Nat) (hcn : cs.length = n)
  (hK : ∀ W, Only g w W → W.heap[g]? = some (.cells (over cur oo cs) t (0, 0)) → K (a.put o.dst (.int .i64 (n : Int))) W) :
  if Region.wanted o (yielded ops a.tmps) = true then Oper.wp P o a w K Q else E :=
 step_copy_runI hgd d x dT sT hop _ _ hd hx
  (run_copy_cells w dT sT o.type elem g oo dLen dCap A sLen sCap cs hu hs hn hsrc (fun j hj => ((there_row hrow oo cs.length hfit) j hj).1) (fun j hj => ((there_row hrow oo cs.length hfit) j hj).2) h1)
  (by rw [hcn]; exact hK _ (only_setCells g cs oo w) (setCells_heap g t cs oo w cur hrow))
theorem load35_eq (x : Value) : Instr.loadAt 107 x = loadI 107 x := rfl
theorem load49_eq (x : Value) : Instr.loadAt 159 x = loadI 159 x := rfl
theorem load24_eq (x : Value) : Instr.loadAt 74 x = loadI 74 x := rfl
theorem store35_eq (x v : Value) : Instr.storeAt 107 x v = storeI 107 x v := rfl
theorem store49_eq (x v : Value) : Instr.storeAt 159 x v = storeI 159 x v := rfl
theorem store24_eq (x v : Value) : Instr.storeAt 74 x v = storeI 74 x v := rfl
theorem load35_row {w : World} {g o : Nat} {s : St} (h : w.rangeAt g o (wvs s.l)) : (loadI 107 (.pointer (some ⟨g, o, none⟩))).run Tryz.prog w = .ok (.agg s.cs) w :=
 run_loadAt_mid w g o 107 (wvs s.l) _ h Tryz.underlying107 rfl size35
theorem load49_row {w : World} {g o : Nat} {r : List UInt8} (hr : r.length = 64) (h : w.rangeAt g o (bvs r)) : (loadI 159 (.pointer (some ⟨g, o, none⟩))).run Tryz.prog w = .ok (.agg (bcs r)) w :=
 run_loadAt_mid w g o 159 (bvs r) _ h Tryz.underlying159 rfl (by rw [size49, bvs_len, hr])
theorem store35_row {w : World} {g o : Nat} {t : TypeId} {cs : Array Value} (h : w.heap[g]? = some (.cells cs t (0, 0))) (ho : o + 8 ≤ cs.size) (s : St) :
  ∃ W, (storeI 107 (.pointer (some ⟨g, o, none⟩)) (.agg s.cs)).run Tryz.prog w = .ok () W ∧ Only g w W ∧ W.heap[g]? = some (.cells (over cs o (wvs s.l)) t (0, 0)) :=
 ⟨_, run_storeAt_mid w g o 107 s.cs (there_row h o 8 ho) (size35' s) (cs_one s), only_setCells g _ o w, setCells_heap g t _ o w cs h⟩
theorem store49_row {w : World} {g o : Nat} {t : TypeId} {cs : Array Value} (h : w.heap[g]? = some (.cells cs t (0, 0))) (ho : o + 64 ≤ cs.size) (r : List UInt8) (hr : r.length = 64) :
  ∃ W, (storeI 159 (.pointer (some ⟨g, o, none⟩)) (.agg (bcs r))).run Tryz.prog w = .ok () W ∧ Only g w W ∧ W.heap[g]? = some (.cells (over cs o (bvs r)) t (0, 0)) :=
 ⟨_, run_storeAt_mid w g o 159 (bcs r) (there_row h o _ (by rw [bcs_size, hr]; exact ho)) (size49' r hr) (bvs_one r), only_setCells g _ o w, setCells_heap g t _ o w cs h⟩
theorem hash_next (all l : List UInt8) (k m p N : Nat) (hk : k + m ≤ l.length) (hN : (all ++ l.take k).length = N) (hp : p = N % 64) (hm : p + m ≤ 64) :
  ∃ S R, R.length = 64 ∧ over (hash (all ++ l.take k)).toArray (8 + p) (bvs ((l.drop k).take m)) = (hcsS S R N true).toArray ∧ (p + m < 64 → hash (all ++ l.take (k + m)) = hcsS S R (N + m) true) ∧ (p + m = 64 → hash (all ++ l.take (k + m)) = hcsS (turnS S R) (zer 64) (N + m) true) := by
 have hM : ((l.drop k).take m).length = m := by rw [List.length_take, List.length_drop]; omega
 have e : all ++ l.take (k + m) = (all ++ l.take k) ++ (l.drop k).take m := by rw [List.append_assoc, List.take_add]
 rw [e]
 generalize (l.drop k).take m = M at hM
 generalize all ++ l.take k = L at hN
 subst hN
 subst hp
 refine ⟨stOf L, tailOf L ++ (M ++ zer (64 - L.length % 64 - m)), ?_, ?_, ?_, ?_⟩
 ·simp only [List.length_append, tail_len, zer_len, hM]; omega
 ·unfold hash
  rw [rest_split L m hm, over_rest _ _ _ _ _ _ _ (by rw [zer_len, hM]) _ (by rw [tail_len])]
 ·intro h
  rw [hash_short L M (by rw [hM]; exact h), hM]
 ·intro h
  rw [hash_full L M (by rw [hM]; exact h), hM, show 64 - L.length % 64 - m = 0 from by omega]
  simp [zer]
attribute [local go_sem ↓] load35_eq load49_eq store35_eq store49_eq
set_option maxRecDepth 100000 in
theorem write_any (g : Nat) (all l : List UInt8) (A : Option Addr) (cap q o : Nat) (w : World) (hT : TabS w) (hg1 : 1 < g) (hg : w.heap[g]? = some (.cells (hash all).toArray 161 (0, 0)))
  (hA : 0 < l.length → A = some ⟨q, o, none⟩) (hq : q ≠ g) (hqs : q < w.heap.size) (hsrc : ∀ j, j < l.length → w.cell? ⟨q, o + j, none⟩ = some (.int .u8 (l.getD j 0).toNat)) (hcap : l.length ≤ cap) (hlen : all.length + l.length ≤ 1000000) :
  Calls Tryz.prog 117 #[.pointer (some ⟨g, 0, none⟩), .slice A l.length cap] w fun e w' => e = .returned (.tuple #[]) ∧ w'.heap[g]? = some (.cells (hash (all ++ l)).toArray 161 (0, 0)) ∧ KeepsS g w w' := by
 have hm := hash_m (rest_len all) hg
 have HT := hid hT
 have HG := hid hg
 have HA := hid hA
 have HSRC := hid hsrc
 clear hT hg hA hsrc
 go_enter Tryz.func117, Tryz.ntmps117
 go_wp2_with fail
 clear hm
 go_loopw [1] (fun v wr => ∃ (k : Nat) (A : Option Addr) (C : Nat), k ≤ l.length ∧ v = .slice A (l.length - k) C ∧ Hid (k < l.length → A = some ⟨q, o + k, none⟩) ∧ l.length - k ≤ C ∧ Hid (wr.heap[g]? = some (.cells (hash (all ++ l.take k)).toArray 161 (0, 0))) ∧ Hid (KeepsS g w wr)) (fun v _ => lenV v)
 case atStart => exact ⟨0, A, cap, Nat.zero_le _, rfl, HA, hcap, by rw [List.take_zero, List.append_nil]; exact HG, KeepsS.refl _ _⟩
 case round =>
  obtain ⟨k, A, C, hk, rfl, HA, hC, HG, HK⟩ := hrel
  by_cases hlt : k < l.length
  ·obtain rfl := HA.out hlt
   obtain ⟨N, hN⟩ : ∃ N, Hid (N = all.length + k) := ⟨_, rfl⟩
   obtain ⟨p, hp⟩ : ∃ p, Hid (p = N % 64) := ⟨_, rfl⟩
   have hp64 : p < 64 := by rw [hp.out]; omega
   have htm : (N : Int).tmod 64 = (p : Int) := by rw [hp.out]; simp [Int.tmod_eq_emod_of_nonneg]
   have hem : (N : Int) % 64 = (p : Int) := by rw [hp.out]; omega
   obtain ⟨m, hm⟩ : ∃ m, Hid (m = min (l.length - k) (64 - p)) := ⟨_, rfl⟩
   have hm1 : 1 ≤ m ∧ m ≤ l.length - k ∧ m ≤ 64 - p := by rw [hm.out]; omega
   obtain ⟨r, hr⟩ : ∃ r, r = l.length - k := ⟨_, rfl⟩
   have hNN : Hid ((all ++ l.take k).length = N) := by show _ = _; rw [List.length_append, List.length_take, hN.out]; omega
   have hNb : N ≤ 1000000 := by rw [hN.out]; omega
   have cN : wr.cell? ⟨g, 72, none⟩ = some (.int .i64 N) := by rw [hash_n (rest_len _) HG.out, hNN.out]
   have hsl := slice_from (P := Tryz.prog) 159 64 5 Tryz.underlying159 Tryz.sizeOf5 g 8 p (p : Int) rfl hp64
   obtain ⟨M, hM⟩ : ∃ M, Hid (M = (l.drop k).take m) := ⟨_, rfl⟩
   have HML : Hid (M.length = m) := by show _ = _; rw [hM.out, List.length_take, List.length_drop]; omega
   have HMN : Hid ((bvs M).length = Nat.min r (64 - p)) := by show _ = _; rw [bvs_len, HML.out, hm.out, hr]
   have HMS : Hid (∀ j v, (bvs M)[j]? = some v → wr.cell? ((⟨q, o + k, none⟩ : Addr).add j) = some v) := fun j v hv => by
    have hj : j < m := by have := (List.getElem?_eq_some_iff.1 hv).1; rw [bvs_len, HML.out] at this; exact this
    rw [Addr.add_mid, World.cell?_of_block (w := w) (HK.out.block q hqs hq), Nat.add_assoc, HSRC.out (k + j) (by omega), ← hv, hM.out]
    simp [bvs, List.getD_eq_getElem?_getD, hj, List.getElem?_drop, show k + j < l.length by omega]
   have HFT : Hid (8 + p + (bvs M).length ≤ (hash (all ++ l.take k)).toArray.size) := by
    show _ ≤ _
    rw [bvs_len, HML.out, List.size_toArray, hash, hcs_len _ _ _ _ (rest_len _)]; omega
   have HON := hid (bvs_one' M)
   have HCM : Hid ((bvs M).length = m) := by show _ = _; rw [bvs_len, HML.out]
   rw [← hr]
   have hrpos : 0 < r := by omega
   have HR : Hid (r = l.length - k) := hr
   have hmr : m ≤ r := by omega
   clear hr
   go_wp2_with fail
   go_region_law ((refine step_copy_abs (by rfl) _ _ 42 42 (by rfl) g (8 + p) (64 - p) (64 - p) ⟨q, o + k, none⟩ r C (by rfl) (by rfl) 5 Tryz.underlying42 size5 (bvs M) HMN.out HMS.out 161 _ HG.out HFT.out HON.out m HCM.out ?_; intro W hO hW))
   obtain ⟨S, R, hRl, hov, hsh, hfu⟩ := hash_next all l k m p N (by omega) hNN.out hp.out (by omega)
   rw [← hM.out] at hov
   rw [hov] at hW
   have HW := hid hW
   have HRl := hid hRl
   have HSH := hid hsh
   have HFU := hid hfu
   have HO := hid hO
   have cN2 : W.cell? ⟨g, 72, none⟩ = some (.int .i64 N) := hash_n hRl hW
   have fN2 : W.frozen? ⟨g, 72, none⟩ = false := frozen_of_row _ _ _ _ _ hW
   clear hov hW hO hRl hsh hfu cN hsl HMN HMS HFT HON HCM HML hM
   obtain ⟨A', hA'⟩ : ∃ A', (if C = m then some (⟨q, o + k, none⟩ : Addr) else some ⟨q, o + k + m, none⟩) = A' := ⟨_, rfl⟩
   have HA' : Hid (k + m < l.length → A' = some ⟨q, o + (k + m), none⟩) := fun h => by
    have := HR.out
    rw [← hA', if_neg (by omega), Nat.add_assoc]
   have HO' : Only g wr W := ⟨HO.out.os, HO.out.tape, HO.out.output, HO.out.size, HO.out.block⟩
   have HK2 := hid (HK.out.trans (KeepsS.of_only HO'))
   clear HO'
   have hset : ∀ v : Int, v = ((N + m : Nat) : Int) → (W.setCell ⟨g, 72, none⟩ (.int .i64 v)).heap[g]? = some (.cells (hcsS S R (N + m) true).toArray 161 (0, 0)) ∧ KeepsS g w (W.setCell ⟨g, 72, none⟩ (.int .i64 v)) := fun v hv => by
    rw [heap_setCell_same _ _ _ _ _ _ HW.out, hv, set_taken S R N (N + m) true HRl.out]
    exact ⟨rfl, HK2.out.trans (KeepsS.of_only (only_set g 72 _ W))⟩
   have HSET := hid hset
   clear hset HK
   by_cases hfull : p + m = 64
   ·have h64 : ((N : Int) + (m : Int)) % 64 = 0 := by have := hp.out; omega
    have h65 : (((N : Int) + (m : Int)) % 64 == 0) = true := by rw [h64]; rfl
    go_wp2_with fail
    obtain ⟨hW3, hK3⟩ := HSET.out ((N : Int) + (m : Int)) (by omega)
    generalize W.setCell ⟨g, 72, none⟩ (.int .i64 ((N : Int) + (m : Int))) = W3 at hW3 hK3 ⊢
    have HW3 := hid hW3
    have HK3 := hid hK3
    have HT3 := hid (hK3.tabs hg1 HT.out)
    have hl1 : (loadI 107 (.pointer (some ⟨g, 0, none⟩))).run Tryz.prog W3.drew = .ok (.agg S.cs) W3.drew := load35_row (hash_range_state hW3)
    have hl2 : (loadI 159 (.pointer (some ⟨g, 8, none⟩))).run Tryz.prog W3.drew = .ok (.agg (bcs R)) W3.drew := load49_row HRl.out (hash_range_rest hW3)
    have H24 := hid (fun W (hW : TabS W) => turned_any S R HRl.out W hW)
    have hg3 : g < W3.heap.size := (Array.getElem?_eq_some_iff.1 hW3).1
    have HFU' := HFU.out hfull
    generalize turnS S R = T at H24 HFU'
    have HFU2 := hid HFU'
    have HSTO : Hid (∀ w1, Below W3.drew.heap.size W3.drew w1 → ∃ W, (storeI 107 (.pointer (some ⟨g, 0, none⟩)) (.agg T.cs)).run Tryz.prog w1 = .ok () W ∧ ∃ W', (storeI 159 (.pointer (some ⟨g, 8, none⟩)) (.agg (bcs (zer 64)))).run Tryz.prog W = .ok () W' ∧ KeepsS g w W' ∧ W'.heap[g]? = some (.cells (hcsS T (zer 64) (N + m) true).toArray 161 (0, 0))) := fun w1 h1 => by
     have hr := (h1.block g hg3).trans HW3.out
     obtain ⟨W, h2, h3, h4⟩ := store35_row hr (o := 0) (by rw [List.size_toArray, hcs_len _ _ _ _ HRl.out]; omega) T
     rw [over_state] at h4
     obtain ⟨W', h5, h6, h7⟩ := store49_row h4 (o := 8) (by rw [List.size_toArray, hcs_len _ _ _ _ HRl.out]; omega) (zer 64) (zer_len 64)
     rw [over_whole_rest _ _ _ _ _ (by rw [zer_len, HRl.out])] at h7
     refine ⟨W, h2, W', h5, ?_, h7⟩
     have e1 : KeepsS g W3 w1 := ⟨h1.os, h1.tape, h1.output, h1.size, fun k hk _ => h1.block k hk⟩
     exact ((HK3.out.trans e1).trans (KeepsS.of_only h3)).trans (KeepsS.of_only h6)
    clear hW3 hK3 cN2 fN2 h64 h65 htm hem HFU HFU'
    have HBR := hid built_rest
    generalize bcs (zer 64) = Z at HSTO HBR
    go_region_with ((go_at_call 147; refine (H24.out _ (by exact HT3.out)).mono ?_; rintro e w1 ⟨rfl, hb1⟩; obtain ⟨W4, hst, W5, hst5, hK5, hW5⟩ := HSTO.out w1 hb1; have HK5 := hid hK5; have HW5 := hid hW5; clear hb1 hK5 hW5))
    all_goals
     go_wp2_with (refine wpList_built rfl 159 _ rfl Z HBR.out ?_)
     refine ⟨⟨k + m, A', C - m, by omega, by rw [HR.out, Nat.sub_sub], HA', by have := HR.out; omega, ?_, HK5.out⟩, by simp [lenV]; omega⟩
     show _ = _
     rw [HW5.out, HFU2.out]
   ·have h64 : ((N : Int) + (m : Int)) % 64 = ((p + m : Nat) : Int) := by have := hp.out; omega
    have hpos : 0 < p + m := by omega
    go_wp2_with fail
    obtain ⟨hW3, hK3⟩ := HSET.out ((N : Int) + (m : Int)) (by omega)
    refine ⟨⟨k + m, A', C - m, by omega, by rw [HR.out, Nat.sub_sub], HA', by have := HR.out; omega, ?_, hK3⟩, by simp [lenV]; omega⟩
    show _ = _
    rw [hW3, HSH.out (by omega)]
  ·have HE : Hid (all ++ l.take k = all ++ l) := by show _ = _; rw [List.take_of_length_le (by omega)]
   have HG2 := HG.out
   rw [HE.out] at HG2
   have HG3 := hid HG2
   have h0 : l.length - k = 0 := by omega
   clear HG2 HE HG
   go_wp2_with fail
   go_end0
   exact ⟨rfl, HG3.out, HK.out⟩
end Go.Proofs.YtgoiafndapemjaaGreatDoor
