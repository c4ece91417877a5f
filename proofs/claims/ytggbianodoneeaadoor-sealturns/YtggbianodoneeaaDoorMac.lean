
/- What mac.laid, mac.padded and mac.Of do: RFC 2104's tag. -/
import Derived.Test.YtggbianodoneeaaDoorOfLaw
import Derived.Laws.CopyOwn
namespace Go.Proofs.YtggbianodoneeaaDoor
open Go.RowKit
set_option linter.unusedSimpArgs false
set_option linter.unusedVariables false

def keyB (k : List UInt8) : List UInt8 := if 64 < k.length then sha k ++ zer 32 else k ++ zer (64 - k.length)
def xorB (b : List UInt8) (p : UInt8) : List UInt8 := b.map fun c => c ^^^ p
def hmac (k b : List UInt8) : List UInt8 := sha (xorB (keyB k) 92 ++ sha (xorB (keyB k) 54 ++ b))
theorem keyB_len (k : List UInt8) : (keyB k).length = 64 := by
  unfold keyB; split
  · rw [List.length_append, sha_len, zer_len]
  · rw [List.length_append, zer_len]; omega
theorem xorB_len (b : List UInt8) (p : UInt8) : (xorB b p).length = b.length := by simp [xorB]
theorem hmac_len (k b : List UInt8) : (hmac k b).length = 32 := sha_len _
theorem u8_xor (a b : UInt8) : bits .xor .u8 (a.toNat : Int) (b.toNat : Int) = ((a ^^^ b).toNat : Int) := by
  have ha : BitVec.ofInt 8 (a.toNat : Int) = a.toBitVec := by
    rw [BitVec.ofInt_natCast]; exact BitVec.eq_of_toNat_eq (by simp)
  have hb : BitVec.ofInt 8 (b.toNat : Int) = b.toBitVec := by
    rw [BitVec.ofInt_natCast]; exact BitVec.eq_of_toNat_eq (by simp)
  unfold bits
  simp only [IntKind.bits, ha, hb]
  have hw : ∀ v : BitVec 8, IntKind.u8.wrap (v.toNat : Int) = (v.toNat : Int) := fun v => by
    rw [IntKind.wrap_u8]; have := v.isLt; omega
  exact hw _

theorem write_at (g : Nat) (all l : List UInt8) (A : Option Addr) (cap : Nat) (W : World) (hT : TabS W) (hg : 1 < g) (hr : W.heap[g]? = some (.cells (hash all).toArray 75 (0, 0))) (hA : BytesAt W A l) (hne : ∀ x, A = some x → 0 < l.length → x.block ≠ g) (hcap : l.length ≤ cap) (hlen : all.length + l.length ≤ 1000000) :
    Calls Tryd.prog 38 #[.pointer (some ⟨g, 0, none⟩), .slice A l.length cap] W fun e w' => e = .returned (.tuple #[]) ∧ w'.heap[g]? = some (.cells (hash (all ++ l)).toArray 75 (0, 0)) ∧ Keeps g W w' := by
  by_cases h0 : 0 < l.length
  · obtain ⟨q, o, h1, h2, h3⟩ := hA h0
    exact write_any g all l A cap q o W hT hg hr (fun _ => h1) (hne _ h1 h0) h2 h3 hcap hlen
  · exact write_any g all l A cap 0 0 W hT hg hr (fun h => absurd h h0) (by omega) (Nat.lt_trans Nat.zero_lt_one hT.lt) (fun j hj => absurd hj (by omega)) hcap hlen

/-- copy(row[o:..], bytes), for the walk: a plain region. -/
theorem run_copy_in (ty : TypeId) {w : World} {A : Option Addr} {l : List UInt8} {g o dLen dCap c : Nat} {t : TypeId} {cur : Array Value} (hA : BytesAt w A l) (hle : l.length ≤ dLen) (hrow : w.heap[g]? = some (.cells cur t (0, 0))) (hfit : o + l.length ≤ cur.size) :
    ∃ W, (Builtin.copy_ #[31, 31] ty #[.slice (some ⟨g, o, none⟩) dLen dCap, .slice A l.length c]).run Tryd.prog w = .ok (.int .i64 (l.length : Int)) W ∧ Only g w W ∧ W.heap[g]? = some (.cells (over cur o (bvs l)) t (0, 0)) := by
  by_cases h0 : l.length = 0
  · obtain rfl := List.length_eq_zero_iff.1 h0
    exact ⟨w, run_copy_none w 31 31 ty 5 _ _ _ _ _ _ Tryd.underlying31 size5 (by simp), ⟨rfl, rfl, rfl, rfl, fun _ _ => rfl⟩, hrow⟩
  · obtain ⟨q, oo, rfl, hq, hc⟩ := hA (by omega)
    have hth := there_row hrow o (bvs l).length (by rw [bvs_len]; exact hfit)
    have := run_copy_cells w 31 31 ty 5 g o dLen dCap ⟨q, oo, none⟩ l.length c (bvs l) Tryd.underlying31 size5 (by rw [bvs_len]; exact (Nat.min_eq_left hle).symm) (fun j v hv => by
      have hj : j < l.length := by have := (List.getElem?_eq_some_iff.1 hv).1; rw [bvs_len] at this; exact this
      rw [Addr.add_mid, hc j hj, ← hv]; simp [bvs, List.getD_eq_getElem?_getD, hj]) (fun j hj => (hth j hj).1) (fun j hj => (hth j hj).2) (bvs_one' l)
    rw [bvs_len] at this
    exact ⟨_, this, only_setCells g _ o w, setCells_heap g t _ o w cur hrow⟩
theorem wpList_copy_in {ops : Array Oper} {rest : List Oper} {o : Oper} {a : Act} {w : World} {Q : Exit → Act → World → Prop} (hgd : o.guard = none) (d s : Operand)
    (ho : o.op = .call { callee := .builtin .copy, args := #[d, s], argTypes := #[31, 31] }) (g off dLen dCap c m : Nat) (A : Option Addr) (l : List UInt8) (hd : a.eval d = .slice (some ⟨g, off, none⟩) dLen dCap) (hs : a.eval s = .slice A m c) (hm : m = l.length)
    (t : TypeId) (cur : Array Value) (hA : BytesAt w A l) (hle : l.length ≤ dLen) (hrow : w.heap[g]? = some (.cells cur t (0, 0))) (hfit : off + l.length ≤ cur.size)
    (h : ∀ W, Only g w W → W.heap[g]? = some (.cells (over cur off (bvs l)) t (0, 0)) → wpList Tryd.prog ops Q rest (a.put o.dst (.int .i64 (m : Int))) W) : wpList Tryd.prog ops Q (o :: rest) a w := by
  subst hm
  obtain ⟨W, h1, h2, h3⟩ := run_copy_in o.type (c := c) (dCap := dCap) hA hle hrow hfit
  exact Go.Proofs.wpList_copy_runI w hgd d s 31 31 ho _ _ hd hs h1 (h W h2 h3)
theorem step_copy_in {ops : Array Oper} {o : Oper} {a : Act} {w : World} {K : Act → World → Prop} {Q : Exit → Act → World → Prop} {E : Prop} (hgd : o.guard = none) (d s : Operand)
    (ho : o.op = .call { callee := .builtin .copy, args := #[d, s], argTypes := #[31, 31] }) (g off dLen dCap c m : Nat) (A : Option Addr) (l : List UInt8) (hd : a.eval d = .slice (some ⟨g, off, none⟩) dLen dCap) (hs : a.eval s = .slice A m c) (hm : m = l.length)
    (t : TypeId) (cur : Array Value) (hA : BytesAt w A l) (hle : l.length ≤ dLen) (hrow : w.heap[g]? = some (.cells cur t (0, 0))) (hfit : off + l.length ≤ cur.size)
    (h : ∀ W, Only g w W → W.heap[g]? = some (.cells (over cur off (bvs l)) t (0, 0)) → K (a.put o.dst (.int .i64 (m : Int))) W) :
    if Region.wanted o (yielded ops a.tmps) = true then Oper.wp Tryd.prog o a w K Q else E := by
  subst hm
  obtain ⟨W, h1, h2, h3⟩ := run_copy_in o.type (c := c) (dCap := dCap) hA hle hrow hfit
  exact Go.Proofs.step_copy_runI hgd d s 31 31 ho _ _ hd hs h1 (h W h2 h3)
theorem over_front (l : List UInt8) (n : Nat) (h : l.length ≤ n) : over (bcs (zer n)) 0 (bvs l) = bcs (l ++ zer (n - l.length)) := by
  have := over_mid (bvs (zer l.length)) (bvs l) [] (bvs (zer (n - l.length))) (by rw [bvs_len, bvs_len, zer_len])
  have e : bcs (zer n) = ([] ++ (bvs (zer l.length) ++ bvs (zer (n - l.length)))).toArray := by
    rw [List.nil_append, ← bvs_app, ← zer_cut n l.length h]; rfl
  rw [e]
  exact this.trans (by rw [List.nil_append, ← bvs_app]; rfl)

set_option maxRecDepth 100000 in
set_option maxHeartbeats 2000000 in
theorem laid_any (key : List UInt8) (A : Option Addr) (cap : Nat) (w : World) (hT : TabS w) (hA : BytesAt w A key) (hcap : key.length ≤ cap) (hlen : key.length ≤ 100000) :
    Calls Tryd.prog 40 #[.slice A key.length cap] w fun e w' => e = .returned (.agg (bcs (keyB key))) ∧ Below w.heap.size w w' := by
  have HT := hid hT
  have hT1 := hT.lt
  have HA := hid hA
  have HKL := hid (keyB_len key)
  have HOF : Hid (∀ W A c, TabS W → BytesAt W A key → key.length ≤ c → Calls Tryd.prog 25 #[.slice A key.length c] W fun e w' => e = .returned (.agg (bcs (sha key))) ∧ Below W.heap.size W w') := fun W A c h1 h2 h3 => of_at key A c W h1 h2 h3 (by omega)
  have hB2 : ∀ o1 o2, Below w.heap.size w ((w.alloc o1).alloc o2) := fun o1 o2 => ((Below.refl _ _).alloc (Nat.le_refl _) o1).alloc (by simp) o2
  have HB2 := hid hB2
  clear hT hA hB2
  by_cases hlong : (64 : Int) < (key.length : Int)
  · have HKE : Hid (keyB key = sha key ++ zer 32) := by show _ = _; unfold keyB; rw [if_pos (by omega)]
    have HSL := hid (sha_len key)
    generalize keyB key = KB at HKL HKE ⊢
    generalize sha key = D at HOF HKE HSL
    go_enter Tryd.func40, Tryd.ntmps40
    go_wp2_with fail
    refine (HOF.out _ _ _ (HT.out.below (HB2.out _ _) hT1) (HA.out.below (HB2.out _ _) (Nat.le_refl _)) hcap).mono ?_
    rintro e W1 ⟨rfl, hb1⟩
    have h0 : W1.heap[w.heap.size]? = some (.cells (bcs (zer 64)) 69 (0, 0)) := (hb1.block _ (by simp; omega)).trans (heap_alloc2_old w _ _)
    have h1 : W1.heap[w.heap.size + 1]? = some (.cells (bcs (zer 64)) 69 (0, 0)) := (hb1.block _ (by simp)).trans (heap_alloc2_new w _ _)
    have HB3 := hid ((HB2.out _ _).trans (hb1.mono (by simp; omega)))
    have H0 := hid h0
    have H1 := hid h1
    have hlt : w.heap.size + 1 < W1.heap.size := (Array.getElem?_eq_some_iff.1 h1).1
    clear h0 h1 hb1
    have HI := hid (size24' D HSL.out)
    have HO := hid (bvs_one D)
    go_wp2_with (refine wpList_store_abs rfl 54 (.tmp 4) (.tmp 9) rfl W1.heap.size 0 (bcs D) rfl rfl 54 _ (heap_alloc_new W1 _) (by rw [bcs_size, HSL.out]; exact Nat.le_refl 32) HI.out HO.out ?_; intro W2 hO2 hW2)
    rw [over_bytes _ D (by rw [HSL.out]; rfl)] at hW2
    have HR1 : Hid (W2.heap[w.heap.size + 1]? = some (.cells (bcs (zer 64)) 69 (0, 0))) := by
      show _ = _
      rw [hO2.block _ (by omega), Below.heap_alloc W1 _ _ (by omega)]; exact H1.out
    have HR0 : Hid (W2.heap[w.heap.size]? = some (.cells (bcs (zer 64)) 69 (0, 0))) := by
      show _ = _
      rw [hO2.block _ (by omega), Below.heap_alloc W1 _ _ (by omega)]; exact H0.out
    have HB4 : Hid (Below w.heap.size w W2) := (HB3.out.alloc (by omega) _).trans (hO2.below (by omega))
    have HBA := hid (BytesAt.of_row hW2)
    clear hO2 hW2 H0 H1 HB3
    have h56 : Hid (over (bcs (zer 64)) 0 (bvs D) = bcs KB) := by show _ = _; rw [HKE.out, over_front D 64 (by rw [HSL.out]; omega), HSL.out]
    go_wp2_with fail
    go_region_law ((refine step_copy_in (by rfl) _ _ (by rfl) (w.heap.size + 1) 0 64 64 32 32 (some ⟨W1.heap.size, 0, none⟩) D (by rfl) (by rfl) HSL.out.symm 69 (bcs (zer 64)) (by exact HBA.out) (by rw [HSL.out]; omega) (by exact HR1.out) (by rw [HSL.out, bcs_size, zer_len]; omega) ?_; intro W3 hO3 hW3))
    all_goals
    rw [h56.out] at hW3
    have HR0' := hid ((hO3.block w.heap.size (by omega)).trans HR0.out)
    have HB9 : Hid (Below w.heap.size w W3) := (HB4.out.trans (below_drewN _ _ 1)).trans (hO3.below (by omega))
    have HR1 := hid hW3
    clear HR0 hO3 hW3
    have HR0 := HR0'
    have HI56 := hid (size49' KB HKL.out)
    have HO56 := hid (bvs_one KB)
    go_wp2_with (first
      | (refine wpList_load_row rfl 69 (.tmp 3) rfl (w.heap.size + 1) rfl 69 (bcs KB) (0, 0) (.array 64 5) HR1.out Tryd.underlying69 rfl HI56.out ?_)
      | (refine wpList_store_abs rfl 69 (.tmp 2) (.tmp 16) rfl w.heap.size 0 (bcs KB) rfl rfl 69 _ HR0.out (by rw [bcs_size, bcs_size, HKL.out]; exact Nat.le_refl 64) HI56.out HO56.out ?_; intro W9 hO9 hW9))
    rw [over_bytes _ KB (by rw [bcs_size, HKL.out]; rfl)] at hW9
    exact bodyPost_ret (v := .agg (bcs KB)) (results_cell_row (p := 2) (ty := 69) Tryd.results40 _ _ w.heap.size 69 _ (0, 0) (.array 64 5) rfl hW9 Tryd.underlying69 rfl HI56.out) rfl ⟨rfl, HB9.out.trans (hO9.below (Nat.le_refl _))⟩
  · have HKE : Hid (keyB key = key ++ zer (64 - key.length)) := by show _ = _; unfold keyB; rw [if_neg (by omega)]
    generalize keyB key = KB at HKL HKE ⊢
    have hA2 : ∀ o1 o2, BytesAt ((w.alloc o1).alloc o2) A key := fun o1 o2 => HA.out.below (HB2.out o1 o2) (Nat.le_refl _)
    have HA2 := hid hA2
    clear hA2
    have h56 : Hid (over (bcs (zer 64)) 0 (bvs key) = bcs KB) := by show _ = _; rw [HKE.out, over_front key 64 (by omega)]
    have HFT : Hid (0 + key.length ≤ (bcs (zer 64)).size) := by show _ ≤ _; rw [bcs_size, zer_len]; omega
    go_enter Tryd.func40, Tryd.ntmps40
    have HI56 := hid (size49' KB HKL.out)
    have HO56 := hid (bvs_one KB)
    go_wp2_with (first
      | (refine wpList_copy_in rfl (.tmp 13) (.tmp 14) rfl (w.heap.size + 1) 0 64 64 cap key.length A key rfl rfl rfl 69 _ (HA2.out _ _) (by omega) (heap_alloc2_new w _ _) (by exact HFT.out) ?_; intro W3 hO3 hW3;
         have HR0 : Hid (W3.heap[w.heap.size]? = some (.cells (bcs (zer 64)) 69 (0, 0))) := (hO3.block w.heap.size (by omega)).trans (heap_alloc2_old w _ _)
         have HB9 : Hid (Below w.heap.size w W3) := (HB2.out _ _).trans (hO3.below (by omega))
         have HR1 : Hid (W3.heap[w.heap.size + 1]? = some (.cells (bcs KB) 69 (0, 0))) := by rw [← h56.out]; exact hW3
         clear hO3 hW3)
      | (refine wpList_load_row rfl 69 (.tmp 3) rfl (w.heap.size + 1) rfl 69 (bcs KB) (0, 0) (.array 64 5) HR1.out Tryd.underlying69 rfl HI56.out ?_)
      | (refine wpList_store_abs rfl 69 (.tmp 2) (.tmp 16) rfl w.heap.size 0 (bcs KB) rfl rfl 69 _ HR0.out (by rw [bcs_size, bcs_size, HKL.out]; exact Nat.le_refl 64) HI56.out HO56.out ?_; intro W9 hO9 hW9))
    rw [over_bytes _ KB (by rw [bcs_size, HKL.out]; rfl)] at hW9
    exact bodyPost_ret (v := .agg (bcs KB)) (results_cell_row (p := 2) (ty := 69) Tryd.results40 _ _ w.heap.size 69 _ (0, 0) (.array 64 5) rfl hW9 Tryd.underlying69 rfl HI56.out) rfl ⟨rfl, HB9.out.trans (hO9.below (Nat.le_refl _))⟩

end Go.Proofs.YtggbianodoneeaaDoor
