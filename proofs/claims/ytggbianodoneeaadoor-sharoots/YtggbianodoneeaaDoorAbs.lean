
/- How a Hash stands behind bytes: plain mathematics. -/
import Derived.Test.YtggbianodoneeaaDoorHash
namespace Go.Proofs.YtggbianodoneeaaDoor
open Go.RowKit

def blk (l : List UInt8) (i : Nat) : List UInt8 := (l.drop (64 * i)).take 64
def stTo (l : List UInt8) : Nat → St
  | 0 => H0
  | i + 1 => turnS (stTo l i) (blk l i)
def stOf (l : List UInt8) : St := stTo l (l.length / 64)
def tailOf (l : List UInt8) : List UInt8 := l.drop (64 * (l.length / 64))
def restOf (l : List UInt8) : List UInt8 := tailOf l ++ zer (64 - l.length % 64)
def hash (l : List UInt8) : List Value := hcs (stOf l) (restOf l) l.length true

theorem zer_len (n : Nat) : (zer n).length = n := by simp [zer]
theorem tail_len (l : List UInt8) : (tailOf l).length = l.length % 64 := by
  unfold tailOf; rw [List.length_drop]; omega
theorem rest_len (l : List UInt8) : (restOf l).length = 64 := by
  unfold restOf; rw [List.length_append, tail_len, zer_len]; omega
theorem blk_app (l m : List UInt8) (i : Nat) (h : 64 * (i + 1) ≤ l.length) : blk (l ++ m) i = blk l i := by
  unfold blk
  rw [List.drop_append_of_le_length (by omega), List.take_append_of_le_length (by rw [List.length_drop]; omega)]
theorem stTo_app (l m : List UInt8) : ∀ n, 64 * n ≤ l.length → stTo (l ++ m) n = stTo l n
  | 0, _ => rfl
  | n + 1, h => by rw [stTo, stTo, stTo_app l m n (by omega), blk_app l m n h]
theorem tail_app (l m : List UInt8) (h : (l ++ m).length / 64 = l.length / 64) : tailOf (l ++ m) = tailOf l ++ m := by
  unfold tailOf
  rw [h, List.drop_append_of_le_length (by omega)]
/-- Not yet a block. -/
theorem hash_short (l m : List UInt8) (h : l.length % 64 + m.length < 64) : hash (l ++ m) = hcs (stOf l) (tailOf l ++ (m ++ zer (64 - l.length % 64 - m.length))) (l.length + m.length) true := by
  have hq : (l ++ m).length / 64 = l.length / 64 := by rw [List.length_append]; omega
  have hr : (l ++ m).length % 64 = l.length % 64 + m.length := by rw [List.length_append]; omega
  unfold hash restOf stOf
  rw [hq, hr, tail_app l m hq, stTo_app l m _ (by omega), List.length_append, List.append_assoc, show 64 - (l.length % 64 + m.length) = 64 - l.length % 64 - m.length from by omega]
/-- A block is full. -/
theorem hash_full (l m : List UInt8) (h : l.length % 64 + m.length = 64) : hash (l ++ m) = hcs (turnS (stOf l) (tailOf l ++ m)) (zer 64) (l.length + m.length) true := by
  have hq : (l ++ m).length / 64 = l.length / 64 + 1 := by rw [List.length_append]; omega
  have hr : (l ++ m).length % 64 = 0 := by rw [List.length_append]; omega
  have ht : tailOf (l ++ m) = [] := by
    unfold tailOf; rw [hq]; exact List.drop_of_length_le (by rw [List.length_append]; omega)
  have hb : blk (l ++ m) (l.length / 64) = tailOf l ++ m := by
    unfold blk tailOf
    rw [List.drop_append_of_le_length (by omega)]
    exact List.take_of_length_le (by rw [List.length_append, List.length_drop]; omega)
  unfold hash restOf stOf
  rw [hr, ht, hq, stTo, hb, stTo_app l m _ (by omega), List.length_append]
  rfl
/-- The rest, split where the next bytes go. -/
theorem rest_split (l : List UInt8) (n : Nat) (h : l.length % 64 + n ≤ 64) : restOf l = tailOf l ++ (zer n ++ zer (64 - l.length % 64 - n)) := by
  unfold restOf
  rw [show 64 - l.length % 64 = n + (64 - l.length % 64 - n) from by omega]
  congr 1
  unfold zer
  rw [List.replicate_append_replicate]
  congr 1
  omega
/-- The cells of a Hash behind 'copy'. -/
theorem over_rest (s : St) (a z c m : List UInt8) (n : Nat) (b : Bool) (hz : m.length = z.length) (o : Nat) (ho : o = 8 + a.length) :
    over (hcs s (a ++ (z ++ c)) n b).toArray o (bvs m) = (hcs s (a ++ (m ++ c)) n b).toArray := by
  have := over_mid (bvs z) (bvs m) (wvs s.l ++ bvs a) (bvs c ++ [Value.int .i64 n, .bool b]) (by rw [bvs_len, bvs_len, hz])
  have h1 : (wvs s.l).length = 8 := rfl
  rw [List.length_append, h1, bvs_len, ← ho] at this
  have e : ∀ x : List UInt8, hcs s (a ++ (x ++ c)) n b = (wvs s.l ++ bvs a) ++ (bvs x ++ (bvs c ++ [Value.int .i64 n, .bool b])) := fun x => by
    simp only [hcs, bvs, List.map_append, List.append_assoc]
  rw [e z, this, ← e m]
theorem over_state (s t : St) (r : List UInt8) (n : Nat) (b : Bool) : over (hcs s r n b).toArray 0 (wvs t.l) = (hcs t r n b).toArray :=
  over_mid (wvs s.l) (wvs t.l) [] (bvs r ++ [Value.int .i64 n, .bool b]) rfl
theorem over_whole_rest (s : St) (r r' : List UInt8) (n : Nat) (b : Bool) (h : r'.length = r.length) : over (hcs s r n b).toArray 8 (bvs r') = (hcs s r' n b).toArray := by
  have := over_rest s [] r [] r' n b h 8 rfl
  simpa using this
theorem set_taken (s : St) (r : List UInt8) (n n' : Nat) (b : Bool) (hr : r.length = 64) : (hcs s r n b).toArray.setIfInBounds 72 (.int .i64 n') = (hcs s r n' b).toArray := by
  have := over_mid [Value.int .i64 n] [Value.int .i64 n'] (wvs s.l ++ bvs r) [.bool b] rfl
  have h1 : (wvs s.l).length = 8 := rfl
  rw [List.length_append, h1, bvs_len, hr] at this
  simp only [hcs]
  rw [← List.append_assoc, ← List.append_assoc]
  simpa [over] using this
theorem hash_nil : hash [] = hcs H0 (zer 64) 0 true := rfl
theorem hash_range_state {w : World} {g : Nat} {s : St} {r : List UInt8} {n : Nat} {m : Bool} (h : w.heap[g]? = some (.cells (hcs s r n m).toArray 75 (0, 0))) : w.rangeAt g 0 (wvs s.l) :=
  range_row (a := []) h 0 rfl
theorem hash_range_rest {w : World} {g : Nat} {s : St} {r : List UInt8} {n : Nat} {m : Bool} (h : w.heap[g]? = some (.cells (hcs s r n m).toArray 75 (0, 0))) : w.rangeAt g 8 (bvs r) :=
  range_row (a := wvs s.l) h 8 rfl

end Go.Proofs.YtggbianodoneeaaDoor
