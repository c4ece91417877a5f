
/- What ip.dotted does. -/
import Derived.Test.YtocdjgehjiolhaaDoorIpLo
import Derived.Test.YtocdjgehjiolhaaDoorOwnV
namespace Go.Proofs.YtocdjgehjiolhaaDoor
open Go.RowKit

theorem cellS : OneCell Tryd.prog 56 9 := ⟨Tryd.underlying56, by
  obtain ⟨i, hi, hz0, hz1, hz2⟩ := info_parts (show (Tryd.prog.info? 9).map (fun i => (i.zero, i.size, i.bytes)) = some (some (.string ByteArray.empty), 1, 16) by kernel_rfl)
  exact ⟨i, _, hi, hz0, hz1, by omega, rfl⟩⟩
def asS (l : List UInt8) : ByteArray := ⟨l.toArray⟩
theorem asS_data (l : List UInt8) : (asS l).data.toList = l := rfl
def strs (L : List (List UInt8)) : List Value := L.map fun x => .string (asS x)
theorem strs_app (L M : List (List UInt8)) : strs (L ++ M) = strs L ++ strs M := by simp [strs]
theorem strs_len (L : List (List UInt8)) : (strs L).length = L.length := by simp [strs]
theorem make_strs (n c : Nat) (hn : n ≤ c) (hc : c ≤ 100000) (w : World) : (Instr.makeSlice 56 (.int .i64 (n : Int)) (.int .i64 (c : Int))).run Tryd.prog w = .ok (.slice (some ⟨w.heap.size, 0, none⟩) n c) (w.alloc (.cells (List.replicate c (.string ByteArray.empty)).toArray 9)) := by
  obtain ⟨i, hi, hz0, hz1, hz2⟩ := info_parts (show (Tryd.prog.info? 9).map (fun i => (i.zero, i.size, i.bytes)) = some (some (.string ByteArray.empty), 1, 16) by kernel_rfl)
  have e : madeCells #[Value.string ByteArray.empty] c = (List.replicate c (Value.string ByteArray.empty)).toArray := by
    apply Array.ext
    · rw [size_madeCells]; simp
    · intro i h1 h2
      simp [madeCells, Nat.mod_one]
  rw [run_makeSlice w 56 9 i (.string ByteArray.empty) Tryd.underlying56 hi hz0 .i64 .i64 (n : Int) (c : Int) (by omega) (by omega) (by rw [hz1]; omega) (by rw [hz2]; omega) (by omega), hz1, Int.toNat_natCast, Int.toNat_natCast, Nat.mul_one, ← e]
  rfl
theorem own_made (w : World) (c b : Nat) (hb : b ≤ w.heap.size) : OwnV (w.alloc (.cells (List.replicate c (.string ByteArray.empty)).toArray 9)) 9 b w.heap.size 0 c (strs []) :=
  ⟨hb, rfl, _, heap_alloc_new w _, by simp⟩
theorem join_lib (b : UInt8) : ∀ L : List (List UInt8), Lib.join L [b] = joinL b L
  | [] => rfl
  | [x] => by rw [Lib.join_one]; rfl
  | x :: y :: r => by
    have ih := join_lib b (y :: r)
    rw [joinL, ← ih, Lib.join_cons, Lib.join_cons]
    simp [Lib.joinTail]
theorem itoa_fin : ∀ n : Fin 256, Lib.itoa (n.val : Int) = digs 10 n.val := by decide +kernel
theorem itoa_digs (n : UInt8) : Lib.itoa (n.toNat : Int) = digs 10 n.toNat := itoa_fin ⟨n.toNat, n.toNat_lt⟩
theorem itoaB (n : UInt8) (w : World) (h : TabS w) : Calls Tryd.prog 13 #[.int .i64 n.toNat] w fun e w' => e = .returned (.string (asS (digs 10 n.toNat))) ∧ Below w.heap.size w w' := by
  have := itoa_any n.toNat (by have := n.toNat_lt; omega) w h
  rw [itoa_digs] at this
  exact this
theorem joinL_len (b : UInt8) (m : Nat) : ∀ L : List (List UInt8), (∀ x ∈ L, x.length ≤ m) → (joinL b L).length ≤ L.length * (m + 1)
  | [], _ => by simp [joinL]
  | [x], h => by have := h x (by simp); simp [joinL]; omega
  | x :: y :: r, h => by
    have ih := joinL_len b m (y :: r) (fun z hz => h z (by simp only [List.mem_cons] at hz ⊢; exact Or.inr hz))
    have := h x (by simp)
    simp only [joinL, List.length_append, List.length_cons] at ih ⊢
    have e : (r.length + 1 + 1) * (m + 1) = (r.length + 1) * (m + 1) + (m + 1) := by rw [Nat.add_mul]; omega
    omega
/-- The first k numbers, written. -/
def dotsTo (B : List UInt8) (k : Nat) : List (List UInt8) := (List.range k).map fun j => digs 10 (B.getD (12 + j) 0).toNat
theorem dotsTo_len (B : List UInt8) (k : Nat) : (dotsTo B k).length = k := by simp [dotsTo]
theorem dotsTo_succ (B : List UInt8) (k : Nat) : dotsTo B (k + 1) = dotsTo B k ++ [digs 10 (B.getD (12 + k) 0).toNat] := by simp [dotsTo, List.range_succ]
theorem dotsTo_four (B : List UInt8) : joinL 46 (dotsTo B 4) = lastB B := rfl
theorem digs_short (base n : Nat) : (digs base n).length ≤ 20 := by
  unfold digs
  have : ∀ f n, (digsF base f n).length ≤ f := by
    intro f
    induction f with
    | zero => intro n; simp [digsF]
    | succ f ih =>
      intro n
      unfold digsF
      split
      · simp
      · have := ih (n / base); simp; omega
  exact this 20 n
theorem dotsTo_short (B : List UInt8) (k : Nat) : ∀ x ∈ dotsTo B k, x.length ≤ 100 := fun x hx => by
  obtain ⟨j, _, rfl⟩ := List.mem_map.1 hx
  have := digs_short 10 (B.getD (12 + j) 0).toNat
  omega
theorem src_new (w : World) (x : List UInt8) (c : Nat) : Src Tryd.prog 1 56 (.slice (some ⟨w.heap.size, 0, none⟩) 1 c) 1 (strs [x]) (w.alloc (.cells #[.string (asS x)] 9)) :=
  src_lit cellS _ _ c (strs [x]) (heap_alloc_new w _) (fun u hu => by simp [strs] at hu; subst hu; rfl)

end Go.Proofs.YtocdjgehjiolhaaDoor
