import Derived.Test.YtgoiafndapemjaaGreatDoorQ09
import Derived.OwnWalk
import Derived.Laws.BytesString
import Derived.Deep.AppendLies
import Derived.Test.YtgoiafndapemjaaGreatDoorQ05
set_option linter.unusedVariables false
set_option linter.unusedSimpArgs false
set_option maxHeartbeats 1000000
namespace Go.Proofs.YtgoiafndapemjaaGreatDoor
open Go.RowKit
def sha (l : List UInt8) : List UInt8 := fin (stOf l) (restOf l) l.length
theorem fin_len (s : St) (r : List UInt8) (n : Nat) : (fin s r n).length = 32 := by
 unfold fin; split <;> exact dig_lenS _
theorem sha_len (l : List UInt8) : (sha l).length = 32 := fin_len _ _ _
theorem sum_hash (g : Nat) (l : List UInt8) (w : World) (hT : TabS w) (hg : w.heap[g]? = some (.cells (hash l).toArray 161 (0, 0))) (hn : l.length ≤ 1000000) :
  Calls Tryz.prog 118 #[.pointer (some ⟨g, 0, none⟩)] w fun e w' => e = .returned (.agg (bcs (sha l))) ∧ Below w.heap.size w w' :=
 sum_any g (stOf l) (restOf l) l.length w hT (rest_len l) hg hn
set_option maxRecDepth 100000 in
theorem of_any (l : List UInt8) (A : Option Addr) (cap q o : Nat) (w : World) (hT : TabS w) (hA : 0 < l.length → A = some ⟨q, o, none⟩) (hqs : q < w.heap.size)
  (hsrc : ∀ j, j < l.length → w.cell? ⟨q, o + j, none⟩ = some (.int .u8 (l.getD j 0).toNat)) (hcap : l.length ≤ cap) (hlen : l.length ≤ 1000000) :
  Calls Tryz.prog 82 #[.slice A l.length cap] w fun e w' => e = .returned (.agg (bcs (sha l))) ∧ Below w.heap.size w w' := by
 have HT := hid hT
 have hT1 := hT.lt
 have HN := hid new_any
 have HWR : Hid (∀ W g, TabS W → 1 < g → W.heap[g]? = some (.cells (hash []).toArray 161 (0, 0)) → q ≠ g → q < W.heap.size → (∀ j, j < l.length → W.cell? ⟨q, o + j, none⟩ = some (.int .u8 (l.getD j 0).toNat)) →
   Calls Tryz.prog 117 #[.pointer (some ⟨g, 0, none⟩), .slice A l.length cap] W fun e w' => e = .returned (.tuple #[]) ∧ w'.heap[g]? = some (.cells (hash l).toArray 161 (0, 0)) ∧ KeepsS g W w') := fun W g h1 h2 h3 h4 h5 h6 =>
  write_any g [] l A cap q o W h1 h2 h3 hA h4 h5 h6 hcap (by simpa using hlen)
 have HSU : Hid (∀ W g, TabS W → W.heap[g]? = some (.cells (hash l).toArray 161 (0, 0)) → Calls Tryz.prog 118 #[.pointer (some ⟨g, 0, none⟩)] W fun e w' => e = .returned (.agg (bcs (sha l))) ∧ Below W.heap.size W w') := fun W g h1 h2 => sum_hash g l W h1 h2 hlen
 have HSRC := hid hsrc
 have HFL := hid (sha_len l)
 have HH0 : Hid ((hcsS H0 (zer 64) 0 true).toArray = (hash []).toArray) := rfl
 generalize sha l = F at HSU HFL ⊢
 clear hT hsrc hA
 go_enter Tryz.func82, Tryz.ntmps82
 go_wp2_with fail
 refine (HN.out _ ?_).mono ?_
 ·exact HT.out.below ((Below.refl _ _).alloc (Nat.le_refl _) _) hT1
 rintro e w1 ⟨rfl, hw1⟩
 rw [HH0.out] at hw1
 have hz1 : w1.heap.size = w.heap.size + 1 + 1 := by rw [hw1]; simp
 have hb1 : Below w.heap.size w w1 := by rw [hw1]; exact ((Below.refl _ _).alloc (Nat.le_refl _) _).alloc (by simp) _
 have hr1 : w1.heap[w.heap.size + 1]? = some (.cells (hash []).toArray 161 (0, 0)) := by rw [hw1]; exact heap_alloc2_new w _ _
 have hr0 : w1.heap[w.heap.size]? = some (.cells (bcs (zer 32)) 74 (0, 0)) := by rw [hw1]; exact heap_alloc2_old w _ _
 clear hw1
 have HB1 := hid hb1
 have HR1 := hid hr1
 have HR0 := hid hr0
 have HZ1 := hid hz1
 clear hb1 hr1 hr0 hz1
 go_wp2_with fail
 refine (HWR.out _ (w.heap.size + 1) (HT.out.below HB1.out hT1) (by omega) HR1.out (by omega) (by rw [HZ1.out]; omega) (fun j hj => (HB1.out.cell (p := ⟨q, o + j, none⟩) hqs).trans (HSRC.out j hj))).mono ?_
 rintro e w2 ⟨rfl, hr2, hk2⟩
 have HB2 := hid (HB1.out.trans (hk2.below (B := w.heap.size) (by omega) (by rw [HZ1.out]; omega)))
 have HR2 := hid hr2
 have HR3 := hid ((hk2.block w.heap.size (by rw [HZ1.out]; omega) (by omega)).trans HR0.out)
 clear hr2 hk2
 go_wp2_with fail
 refine (HSU.out _ (w.heap.size + 1) (HT.out.below HB2.out hT1) HR2.out).mono ?_
 rintro e w3 ⟨rfl, hb3⟩
 have hsz : w.heap.size < w2.heap.size := (Array.getElem?_eq_some_iff.1 HR3.out).1
 have HR4 := hid ((hb3.block _ hsz).trans HR3.out)
 have HB3 := hid (HB2.out.trans (hb3.mono (Nat.le_of_lt hsz)))
 clear hb3
 go_wp2_with (refine wpList_store_abs rfl 74 (.tmp 2) (.tmp 9) rfl w.heap.size 0 (bcs F) rfl rfl 74 _ HR4.out (by rw [bcs_size, bcs_size, HFL.out]; exact Nat.le_refl 32) (size24' F HFL.out) (bvs_one F) ?_; intro W2 hO2 hW2)
 rw [over_bytes _ F (by rw [bcs_size, HFL.out]; rfl)] at hW2
 exact bodyPost_ret (v := .agg (bcs F)) (results_cell_row (p := 2) (ty := 74) Tryz.results82 _ _ w.heap.size 74 _ (0, 0) (.array 32 5) rfl hW2 Tryz.underlying74 rfl (size24' F HFL.out)) rfl ⟨rfl, HB3.out.trans (hO2.below (Nat.le_refl _))⟩
def DIG : List UInt8 := [48, 49, 50, 51, 52, 53, 54, 55, 56, 57, 97, 98, 99, 100, 101, 102]
def hd (n : Nat) : UInt8 := DIG.getD n 0
def hex2 (c : UInt8) : List UInt8 := [hd (c.toNat / 16), hd (c.toNat % 16)]
def hexB (l : List UInt8) : List UInt8 := l.flatMap hex2
theorem hexB_len (l : List UInt8) : (hexB l).length = 2 * l.length := by
 induction l with
 | nil => rfl
 | cons x r ih => unfold hexB at ih ⊢; rw [List.flatMap_cons, List.length_append, ih, List.length_cons]; show 2 + 2 * r.length = _; omega
theorem hexB_snoc (l : List UInt8) (k : Nat) (h : k < l.length) : hexB (l.take (k + 1)) = hexB (l.take k) ++ hex2 (l.getD k 0) := by
 unfold hexB
 rw [List.take_succ_eq_append_getElem h, List.flatMap_append]
 simp [List.getD_eq_getElem?_getD, h]
theorem and15 (c : UInt8) : bits .and .u8 (c.toNat : Int) 15 = (c.toNat : Int) % 16 := by
 have := c.toNat_lt
 exact u8_and15 _ (by omega) (by omega)
theorem dig_finS : ∀ n : Fin 16, (⟨#[48, 49, 50, 51, 52, 53, 54, 55, 56, 57, 97, 98, 99, 100, 101, 102]⟩ : ByteArray)[n.val]? = some (hd n.val) := by decide +kernel
theorem index_dig (i : Int) (n : Nat) (hi : i = (n : Int)) (h : n < 16) (w : World) : (Instr.index 9 (.string ⟨#[48, 49, 50, 51, 52, 53, 54, 55, 56, 57, 97, 98, 99, 100, 101, 102]⟩) (.int .u8 i)).run Tryz.prog w = .ok (.int .u8 (hd n).toNat) w := by
 subst hi
 have e := dig_finS ⟨n, h⟩
 simp only at e
 simp [Instr.index, asIntOf, run_underlying Tryz.underlying9, e]
set_option maxRecDepth 100000 in
theorem hex_any (l : List UInt8) (A : Option Addr) (cap q o : Nat) (w : World) (hA : 0 < l.length → A = some ⟨q, o, none⟩) (hqs : q < w.heap.size)
  (hsrc : ∀ j, j < l.length → w.cell? ⟨q, o + j, none⟩ = some (.int .u8 (l.getD j 0).toNat)) (hlen : l.length ≤ 1000000) :
  Calls Tryz.prog 83 #[.slice A l.length cap] w fun e w' => e = .returned (.string ⟨(hexB l).toArray⟩) ∧ Below w.heap.size w w' := by
 have HSRC := hid hsrc
 have HA := hid hA
 obtain ⟨i0, hi, hz0, hz1, hz2⟩ := info_parts info5
 have HI := hid hi
 have HI0 := hid hz0
 have HI1 := hid hz1
 have HI2 := hid hz2
 have HX : Hid (∀ k, l.length ≤ k → hexB (l.take k) = hexB l) := fun k hk => by rw [List.take_of_length_le hk]
 have HXL := hid (hexB_len l)
 generalize hexB l = X at HX HXL ⊢
 clear hsrc hA hi hz0 hz1 hz2
 go_enter Tryz.func83, Tryz.ntmps83
 go_wp2_with (at_make; refine wpList_make_own _ rfl _ _ 42 rfl w.heap.size 5 i0 (.int .u8 0) 1 Tryz.underlying42 HI.out HI0.out HI1.out _ _ _ (2 * l.length) rfl rfl (by omega) (by rw [HI2.out]; omega) (by unfold maxLen; omega) (Nat.le_refl _) ?_; intro w1 hown1 hgr1)
 have HO1 := hid hown1
 have HB1 := hid ((Below.refl w.heap.size w).grown hgr1 (Nat.le_refl _) (fun k hk => by cases hk))
 clear hown1 hgr1
 go_wp2_with fail
 go_loopw [3, 12] (fun v i wr => ∃ (k g c : Nat), k ≤ l.length ∧ i = .int .i64 k ∧ v = .slice (some ⟨g, 0, none⟩) (2 * k) c ∧ Hid (wr.ownsRow w.heap.size 5 1 (.slice (some ⟨g, 0, none⟩) (2 * k) c) (2 * k) (bvs (hexB (l.take k)))) ∧ Hid (Below w.heap.size w wr)) (fun _ i _ => l.length - (intOf i).toNat)
 case atStart => exact ⟨0, w.heap.size, 2 * l.length, Nat.zero_le _, rfl, rfl, HO1, HB1⟩
 case round =>
  obtain ⟨k, g, c, hk, rfl, rfl, HO, HB⟩ := hrel
  by_cases hlt : k < l.length
  ·obtain rfl := HA.out (by omega)
   obtain ⟨x, ex⟩ : ∃ x, Hid (x = l.getD k 0) := ⟨_, rfl⟩
   have hx256 := x.toNat_lt
   have cx : wr.cell? ⟨q, o + k, none⟩ = some (.int .u8 x.toNat) := by rw [HB.out.cell (p := ⟨q, o + k, none⟩) hqs, HSRC.out k hlt, ex.out]
   have h15 := and15 x
   have hi1 := index_dig ((x.toNat : Int) / 16) (x.toNat / 16) (by omega) (by omega)
   have hi2 := index_dig ((x.toNat : Int) % 16) (x.toNat % 16) (by omega) (by omega)
   go_wp2_with fail
   have HON : Hid (∀ u ∈ [Value.int .u8 (hd (x.toNat / 16)).toNat, .int .u8 (hd (x.toNat % 16)).toNat], u.oneCell' = true) := fun u hu => by
    simp only [List.mem_cons, List.not_mem_nil, or_false] at hu
    rcases hu with rfl | rfl <;> rfl
   have hsz : w.heap.size ≤ wr.heap.size := HB.out.size
   go_region_law ((refine step_append_lies _ (by rfl) _ _ 42 (by rfl) w.heap.size 5 i0 (.int .u8 0) 1 1 Tryz.underlying42 HI.out HI0.out HI1.out HI2.out rfl (by decide) _ (2 * k) (bvs (hexB (l.take k))) (by rfl) (by exact HO.out.alloc _) ⟨wr.heap.size, 0, none⟩ 2 2 [Value.int .u8 (hd (x.toNat / 16)).toNat, .int .u8 (hd (x.toNat % 16)).toNat] (by rfl) rfl (by exact World.news_of_block (heap_alloc_new wr _)) HON.out (by omega) (by unfold maxLen; omega) (by omega) (by simp; omega) (wr.heap.size + 1) (by simp) ?_; intro g2 c2 w2 hown2 hgr2 hat2 hlt2))
   all_goals
    have HO2 := hid hown2
    have hgr3 : (wr.alloc (.cells #[Value.int .u8 (hd (x.toNat / 16)).toNat, .int .u8 (hd (x.toNat % 16)).toNat] 5)).drew.grownBy w2 (some g) := hgr2
    have hB2 : Below w.heap.size w w2 := by
     refine ((HB.out.alloc hsz _).drew).grown hgr3 ?_ ?_
     ·simp; omega
     ·intro k hk
      cases hk
      rcases HO.out.2 with ⟨h0, _⟩ | ⟨g', c', cur, h1, h2, _⟩
      ·cases h0
      ·cases h1; exact h2
    have HB2 := hid hB2
    clear hown2 hgr2 hgr3 hat2 hlt2 hB2
    go_wp2_with fail
    go_roundw
    case rel =>
     refine ⟨k + 1, g2, c2, by omega, by go_num, by rw [Nat.mul_add], ?_, HB2⟩
     show World.ownsRow _ _ _ _ _ _ _
     rw [hexB_snoc l k hlt, ← ex.out, Nat.mul_add]
     have e : bvs (hexB (l.take k) ++ hex2 x) = bvs (hexB (l.take k)) ++ [Value.int .u8 (hd (x.toNat / 16)).toNat, .int .u8 (hd (x.toNat % 16)).toNat] := by simp [bvs, hex2]
     rw [e]
     exact HO2.out
    case measure => simp [intOf]; omega
  ·have ho := HO.out
   rw [HX.out k (by omega)] at ho
   have hback := str_of c (own_cells ho) (2 * k) (by rw [HXL.out]; omega)
   clear ho HO
   go_wp2_with fail
   go_ret
   exact ⟨rfl, HB.out⟩
end Go.Proofs.YtgoiafndapemjaaGreatDoor
namespace Go.Proofs.YtgoiafndapemjaaGreatDoor
def headA (s : ByteArray) (n : Nat) : ByteArray := if vld s = true then s.extract 0 (placeFrom s n 0) else ⟨#[]⟩
def sqzA (s : ByteArray) : ByteArray := ⟨(sqz s).toArray⟩
def shL (l : List UInt8) : List UInt8 := (headA (sqzA (asS l)) 128).data.toList
def markN : List UInt8 := [110, 58]
def markC : List UInt8 := [99, 58]
def digL (l : List UInt8) : List UInt8 := hexB (sha l)
def idL (name title body : List UInt8) : List UInt8 := if name = [] then markC ++ digL (title ++ [0] ++ body) else markN ++ digL name
theorem asS_sh (l : List UInt8) : asS (shL l) = headA (sqzA (asS l)) 128 := asS_of _
theorem headA_le (s : ByteArray) (n : Nat) : (headA s n).size ≤ s.size := by
 unfold headA; split
 ·exact cut_le s 0 _
 ·exact Nat.zero_le _
theorem sqzA_le (s : ByteArray) : (sqzA s).size ≤ s.size := sqz_le s
theorem shL_len (l : List UInt8) : (shL l).length ≤ l.length := by
 have h1 := headA_le (sqzA (asS l)) 128
 have h2 := sqzA_le (asS l)
 have h3 := asS_size l
 have h4 := ba_len (headA (sqzA (asS l)) 128)
 unfold shL
 omega
end Go.Proofs.YtgoiafndapemjaaGreatDoor
