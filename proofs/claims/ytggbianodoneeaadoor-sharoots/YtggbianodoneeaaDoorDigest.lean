
/- What sha.digest does: the state as bytes. -/
import Derived.Test.YtggbianodoneeaaDoorTurned
namespace Go.Proofs.YtggbianodoneeaaDoor
open Go.RowKit

def bytesOf (x : UInt32) : List UInt8 := [UInt8.ofNat (x.toNat / 16777216), UInt8.ofNat (x.toNat / 65536), UInt8.ofNat (x.toNat / 256), UInt8.ofNat x.toNat]
def bvs (b : List UInt8) : List Value := b.map fun c => Value.int .u8 c.toNat
def dig (s : St) : List UInt8 := s.l.flatMap bytesOf
theorem bcs_eq (b : List UInt8) : bcs b = (bvs b).toArray := rfl
theorem bvs_len (b : List UInt8) : (bvs b).length = b.length := by simp [bvs]
theorem bytes_len (l : List UInt32) : (l.flatMap bytesOf).length = 4 * l.length := by
  induction l with
  | nil => rfl
  | cons x r ih => rw [List.flatMap_cons, List.length_append, ih, List.length_cons]; show 4 + 4 * r.length = _; omega
theorem dig_len (s : St) : (dig s).length = 32 := bytes_len s.l
theorem byte_eq (x : UInt32) (n : Nat) : nv x / (n : Int) % 256 = ((UInt8.ofNat (x.toNat / n)).toNat : Int) := by
  unfold nv
  rw [UInt8.toNat_ofNat']
  simp
theorem put4_eq (w : World) (g o : Nat) (x : UInt32) : put4 w g o x = w.setCells g o (bvs (bytesOf x)) := by
  have h1 : nv x / 16777216 % 256 = ((UInt8.ofNat (x.toNat / 16777216)).toNat : Int) := byte_eq x 16777216
  have h2 : nv x / 65536 % 256 = ((UInt8.ofNat (x.toNat / 65536)).toNat : Int) := byte_eq x 65536
  have h3 : nv x / 256 % 256 = ((UInt8.ofNat (x.toNat / 256)).toNat : Int) := byte_eq x 256
  have h4 : nv x % 256 = ((UInt8.ofNat x.toNat).toNat : Int) := by
    have := byte_eq x 1
    simpa using this
  unfold put4
  rw [h1, h2, h3, h4]
  rfl
def zer (n : Nat) : List UInt8 := List.replicate n 0
/-- Four bytes into a row: what is ahead and what is behind stays. -/
theorem put4_row {w : World} {g : Nat} {t : TypeId} (a z c : List UInt8) (x : UInt32) (hz : z.length = 4) (h : w.heap[g]? = some (.cells (bcs (a ++ (z ++ c))) t (0, 0))) (o : Nat) (ho : o = a.length) :
    (put4 w g o x).heap[g]? = some (.cells (bcs (a ++ (bytesOf x ++ c))) t (0, 0)) ∧ Only g w (put4 w g o x) := by
  rw [put4_eq]
  refine ⟨?_, only_setCells g _ o w⟩
  rw [setCells_heap g t _ o w _ h]
  have := over_mid (bvs z) (bvs (bytesOf x)) (bvs a) (bvs c) (by rw [bvs_len, bvs_len, hz]; rfl)
  rw [bvs_len, ← ho] at this
  have e1 : bcs (a ++ (z ++ c)) = (bvs a ++ (bvs z ++ bvs c)).toArray := by simp [bcs, bvs]
  have e2 : bcs (a ++ (bytesOf x ++ c)) = (bvs a ++ (bvs (bytesOf x) ++ bvs c)).toArray := by simp only [bcs, bvs, List.map_append]
  rw [e1, this, e2]
theorem bvs_one (b : List UInt8) : (bcs b).all (·.oneCell') = true := by
  refine all_oneCell_toArray fun v hv => ?_
  simp only [List.mem_map] at hv
  obtain ⟨x, _, rfl⟩ := hv
  rfl
theorem size24 : (Tryd.prog.info? 54).map (·.size) = some 32 := by kernel_rfl
theorem size24' (b : List UInt8) (h : b.length = 32) : (Tryd.prog.info? 54).map (·.size) = some (bcs b).size := by rw [size24, bcs_size, h]
theorem size49' (b : List UInt8) (h : b.length = 64) : (Tryd.prog.info? 69).map (·.size) = some (bcs b).size := by rw [size49, bcs_size, h]
theorem zer_split (n : Nat) (h : 4 ≤ n) : zer n = zer 4 ++ zer (n - 4) := by
  unfold zer; rw [List.replicate_append_replicate]; congr 1; omega
theorem over_bytes (X : Array Value) (b : List UInt8) (h : X.size = b.length) : over X 0 (bcs b).toList = bcs b := over_whole X (bcs b) (by rw [h, bcs_size])
/-- The state's first k words, as bytes. -/
def digTo (s : St) (k : Nat) : List UInt8 := (s.l.take k).flatMap bytesOf
theorem digTo_len (s : St) (k : Nat) (h : k ≤ 8) : (digTo s k).length = 4 * k := by
  unfold digTo; rw [bytes_len, List.length_take]; show 4 * min k 8 = _; omega
theorem digTo_succ (s : St) (k : Nat) (h : k < 8) : digTo s (k + 1) = digTo s k ++ bytesOf (s.l.getD k 0) := by
  unfold digTo
  have h' : k < s.l.length := h
  rw [List.take_succ_eq_append_getElem h', List.flatMap_append]
  simp [List.getD_eq_getElem?_getD, h']
theorem digTo_full (s : St) (k : Nat) (h : k = 8) : digTo s k = dig s := by
  subst h
  unfold digTo dig
  rw [List.take_of_length_le (Nat.le_refl 8)]

def DigAt (s : St) (w wr : World) (k : Nat) : Prop :=
  wr.heap[w.heap.size + 1]? = some (.cells (bcs (zer 32)) 54 (0, 0)) ∧ wr.heap[w.heap.size + 1 + 1]? = some (.cells (bcs (digTo s k ++ zer (32 - 4 * k))) 54 (0, 0)) ∧ Below w.heap.size w wr

set_option maxRecDepth 100000 in
set_option maxHeartbeats 1000000 in
theorem digest_any (s : St) (w : World) :
    Calls Tryd.prog 47 #[.agg s.cs] w fun e w' => e = .returned (.agg (bcs (dig s))) ∧ Below w.heap.size w w' := by
  have HI35 := hid (size35' s)
  obtain ⟨X, hX⟩ : ∃ X : Array Value, Hid (X = s.cs) := ⟨_, rfl⟩
  have HX : Hid (∀ j, j < 8 → X[j]? = some (.int .u32 (nv (s.l.getD j 0)))) := fun j hj => by rw [hX.out, St.cs_eq]; exact wvs_at s.l j hj
  rw [← hX.out] at HI35 ⊢
  clear hX
  have HD : Hid (∀ k, k = 8 → digTo s k = dig s) := fun k => digTo_full s k
  have HDL := hid (dig_len s)
  generalize dig s = D at HD HDL ⊢
  go_enter Tryd.func47, Tryd.ntmps47
  go_wp2_with (refine wpList_load_row rfl 23 (.tmp 1) rfl w.heap.size rfl 23 X (0, 0) (.array 8 22) (heap3_0 _ _ _ _) Tryd.underlying23 rfl HI35.out ?_)
  go_loopw [7] (fun i wr => ∃ k : Nat, k ≤ 8 ∧ i = .int .i64 k ∧ Hid (DigAt s w wr k)) (fun i _ => 8 - (intOf i).toNat)
  case atStart =>
    refine ⟨0, by omega, rfl, ?_, ?_, ?_⟩
    · exact heap3_1 _ _ _ _
    · exact heap3_2 _ _ _ _
    · exact below3 _ _ _ _
  case round =>
    obtain ⟨k, hk, rfl, HS⟩ := hrel
    by_cases hlt : k < 8
    · obtain ⟨x, ex⟩ : ∃ x, Hid (x = s.l.getD k 0) := ⟨_, rfl⟩
      have hidx : ∀ W, (Instr.index 23 (.agg X) (.int .i64 (k : Int))).run Tryd.prog W = .ok (.int .u32 (nv x)) W := fun W => index35 _ k _ hlt (by rw [HX.out k hlt, ex.out]) W
      have hsl := slice_from (P := Tryd.prog) 54 32 5 Tryd.underlying54 Tryd.sizeOf5 (w.heap.size + 1 + 1) 0 (4 * k) (4 * (k : Int)) (by omega) (by omega)
      simp only [Nat.zero_add] at hsl
      have HN : Hid (digTo s k ++ zer (32 - 4 * k) = digTo s k ++ (zer 4 ++ zer (32 - 4 * (k + 1)))) := by
        show _ = _
        rw [zer_split (32 - 4 * k) (by omega)]
        rw [show 32 - 4 * (k + 1) = 32 - 4 * k - 4 from by omega]
      have h2 := HS.out.2.1
      rw [HN.out] at h2
      have H2 := hid h2
      clear h2
      have HZ : Hid (4 * k + 4 ≤ (bcs (digTo s k ++ (zer 4 ++ zer (32 - 4 * (k + 1))))).size) := by
        show _ ≤ _
        rw [bcs_size, List.length_append, List.length_append, digTo_len s k hk]; simp [zer]
      go_wp2_with (go_at_call 46; refine (putWord_any _ _ _ _ x _ (by omega) _ 54 H2.out HZ.out).mono ?_; rintro e w' ⟨rfl, rfl⟩)
      have hp := put4_row (digTo s k) (zer 4) (zer (32 - 4 * (k + 1))) x rfl H2.out (4 * k) (digTo_len s k hk).symm
      go_roundw
      case rel =>
        refine ⟨k + 1, by omega, by go_num, ?_, ?_, ?_⟩
        · rw [hp.2.block _ (by omega)]; exact HS.out.1
        · rw [hp.1, digTo_succ s k hlt, List.append_assoc, ex.out]
        · exact HS.out.2.2.trans (hp.2.below (by omega))
      case measure => simp [intOf]; omega
    · obtain ⟨h1, h2, h3⟩ := HS.out
      rw [HD.out k (by omega), show 32 - 4 * k = 0 from by omega, show zer 0 = [] from rfl, List.append_nil] at h2
      have H1 := hid h1
      have H2 := hid h2
      have H3 := hid h3
      have HI := hid (size24' D HDL.out)
      have HO := hid (bvs_one D)
      clear h1 h2 h3 HS
      go_wp2_with (first
        | (refine wpList_load_row rfl 54 (.tmp 3) rfl (w.heap.size + 1 + 1) rfl 54 (bcs D) (0, 0) (.array 32 5) H2.out Tryd.underlying54 rfl HI.out ?_)
        | (refine wpList_store_abs rfl 54 (.tmp 2) (.tmp 17) rfl (w.heap.size + 1) 0 (bcs D) rfl rfl 54 _ H1.out (by rw [bcs_size, bcs_size, HDL.out]; exact Nat.le_refl 32) HI.out HO.out ?_; intro W2 hO2 hW2))
      rw [over_bytes _ D (by rw [bcs_size, HDL.out]; rfl)] at hW2
      exact bodyPost_ret (v := .agg (bcs D)) (results_cell_row (p := 2) (ty := 54) Tryd.results47 _ _ (w.heap.size + 1) 54 _ (0, 0) (.array 32 5) rfl hW2 Tryd.underlying54 rfl HI.out) rfl ⟨rfl, H3.out.trans (hO2.below (by omega))⟩

end Go.Proofs.YtggbianodoneeaaDoor
