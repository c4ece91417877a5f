
/- The Hash in memory; sha.New, Len. -/
import Derived.Test.YtggbianodoneeaaDoorDigest
import Derived.Deep.RegionLaw
import Derived.Laws.IdiomCopy
namespace Go.Proofs.YtggbianodoneeaaDoor
open Go.RowKit

/-- A Hash's cells: the state, the rest, how many were taken, whether New gave it. -/
def hcs (s : St) (r : List UInt8) (n : Nat) (m : Bool) : List Value := wvs s.l ++ (bvs r ++ [Value.int .i64 n, .bool m])
theorem hcs_len (s : St) (r : List UInt8) (n : Nat) (m : Bool) (h : r.length = 64) : (hcs s r n m).length = 74 := by
  simp [hcs, wvs, bvs, St.l, h]

theorem wpList_built {P : Program} {ops : Array Oper} {rest : List Oper} {o : Oper} {a : Act} {w : World} {Q : Exit → Act → World → Prop} (hg : o.guard = none) (t : TypeId) (parts : Array (Nat × Operand)) (ho : o.op = .build t parts)
    (cells : Array Value) (hc : P.built t (parts.toList.map fun p => (p.1, a.eval p.2)) = some cells)
    (h : wpList P ops Q rest (a.put o.dst (.agg cells)) w) : wpList P ops Q (o :: rest) a w := by
  have e : (parts.map fun (i, x) => (i, a.eval x)).toList = parts.toList.map fun p => (p.1, a.eval p.2) := by simp
  refine wpList_build hg t parts ho (by rw [e, hc]; rfl) ?_
  rw [e, hc]
  exact h
def Z0 : St := ⟨0, 0, 0, 0, 0, 0, 0, 0⟩
theorem built_new : Tryd.prog.built 75 [(0, .agg (wvs H0.l).toArray), (3, .bool true)] = some (hcs H0 (zer 64) 0 true).toArray := by kernel_rfl
theorem built_zero : Tryd.prog.built 75 [] = some (hcs Z0 (zer 64) 0 false).toArray := by kernel_rfl
theorem built_rest : Tryd.prog.built 69 [] = some (bcs (zer 64)) := by kernel_rfl

set_option maxRecDepth 100000 in
set_option maxHeartbeats 1000000 in
theorem new_any (w : World) (hT : TabS w) :
    Calls Tryd.prog 37 #[] w fun e w' => e = .returned (.pointer (some ⟨w.heap.size, 0, none⟩)) ∧ w' = w.alloc (.cells (hcs H0 (zer 64) 0 true).toArray 75) := by
  have HB := hid built_new
  have HR : Hid (w.rangeAt 0 0 (wvs H0.l)) := hT.1
  have HS : Hid ((Tryd.prog.info? 23).map (·.size) = some (wvs H0.l).length) := size35
  clear hT
  generalize (hcs H0 (zer 64) 0 true).toArray = C at HB ⊢
  generalize wvs H0.l = L at HB HR HS
  go_enter Tryd.func37, Tryd.ntmps37
  go_wp2_with (first
    | (refine wpList_load_mid rfl 23 (.global 0) rfl 0 0 rfl L (.array 8 22) HR.out Tryd.underlying23 rfl HS.out ?_)
    | (refine wpList_built rfl 75 _ rfl C HB.out ?_))
  go_ret
  exact ⟨rfl, rfl⟩

theorem hash_n {w : World} {g : Nat} {s : St} {r : List UInt8} {n : Nat} {m : Bool} (hr : r.length = 64) (h : w.heap[g]? = some (.cells (hcs s r n m).toArray 75 (0, 0))) : w.cell? ⟨g, 72, none⟩ = some (.int .i64 n) := by
  rw [cell_of_row _ _ _ _ _ _ h]
  have h1 : (wvs s.l).length = 8 := rfl
  have h2 : (bvs r).length = 64 := by rw [bvs_len, hr]
  unfold hcs
  rw [List.getElem?_toArray, List.getElem?_append_right (by omega), List.getElem?_append_right (by omega), h1, h2]
  rfl
theorem hash_m {w : World} {g : Nat} {s : St} {r : List UInt8} {n : Nat} {m : Bool} (hr : r.length = 64) (h : w.heap[g]? = some (.cells (hcs s r n m).toArray 75 (0, 0))) : w.cell? ⟨g, 73, none⟩ = some (.bool m) := by
  rw [cell_of_row _ _ _ _ _ _ h]
  have h1 : (wvs s.l).length = 8 := rfl
  have h2 : (bvs r).length = 64 := by rw [bvs_len, hr]
  unfold hcs
  rw [List.getElem?_toArray, List.getElem?_append_right (by omega), List.getElem?_append_right (by omega), h1, h2]
  rfl

end Go.Proofs.YtggbianodoneeaaDoor
