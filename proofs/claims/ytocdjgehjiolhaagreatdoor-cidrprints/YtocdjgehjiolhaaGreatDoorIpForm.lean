
/- What the law's own form does: a number, written in one of three ways. -/
import Derived.Test.YtocdjgehjiolhaaGreatDoorIpRefLo
import Derived.BigQuiet
namespace Go.Proofs.YtocdjgehjiolhaaGreatDoor
open Go.RowKit

theorem digsF_fuel (base : Nat) (hb : 2 ≤ base) : ∀ f n, n < base ^ (f + 1) → digsF base (f + 2) n = digsF base (f + 1) n
  | 0, n, h => by
    rw [Nat.zero_add, Nat.pow_one] at h
    rw [digsF, if_pos h, digsF, if_pos h]
  | f + 1, n, h => by
    rw [digsF]
    conv => rhs; rw [digsF]
    split
    · rfl
    · rw [digsF_fuel base hb f (n / base) (by rw [Nat.div_lt_iff_lt_mul (by omega)]; rw [Nat.pow_succ] at h; exact h)]
theorem digs_step (base n : Nat) (hb : 2 ≤ base) (h1 : base ≤ n) (h : n < base ^ 20) : digs base n = digs base (n / base) ++ [dch (n % base)] := by
  have e : digsF base 20 (n / base) = digsF base 19 (n / base) := digsF_fuel base hb 18 (n / base) (by
    rw [Nat.div_lt_iff_lt_mul (by omega)]; rw [Nat.pow_succ] at h; exact h)
  unfold digs
  rw [e]
  rw [digsF, if_neg (by omega)]
theorem digs_one (base n : Nat) (h : n < base) : digs base n = [dch n] := by
  unfold digs; rw [digsF, if_pos h]
/-- What is written and what is still to be written. -/
def Wri (base n k : Nat) (x : List UInt8) : Prop := (x = [] ∧ k = n) ∨ (x ≠ [] ∧ ((k = 0 ∧ x = digs base n) ∨ (0 < k ∧ digs base k ++ x = digs base n)))
theorem Wri.next {base n k : Nat} {x : List UInt8} (hb : 2 ≤ base) (hk : k < base ^ 20) (h : Wri base n k x) (hc : 0 < k ∨ x = []) : Wri base n (k / base) (dch (k % base) :: x) := by
  have h1 : digs base k ++ x = digs base n := by
    rcases h with ⟨rfl, rfl⟩ | ⟨hx, h | h⟩
    · simp
    · rcases hc with hc | hc
      · omega
      · exact absurd hc hx
    · exact h.2
  refine Or.inr ⟨by simp, ?_⟩
  by_cases hlt : k < base
  · left
    refine ⟨Nat.div_eq_of_lt hlt, ?_⟩
    rw [← h1, digs_one base k hlt, Nat.mod_eq_of_lt hlt]; rfl
  · right
    refine ⟨Nat.div_pos (by omega) (by omega), ?_⟩
    rw [← h1, digs_step base k hb (by omega) hk, List.append_assoc]; rfl
theorem Wri.short {base n k : Nat} {x : List UInt8} (h : Wri base n k x) : x.length ≤ 20 := by
  have hd := digs_short base n
  rcases h with ⟨rfl, _⟩ | ⟨_, ⟨_, h⟩ | ⟨_, h⟩⟩
  · simp
  · rw [h]; exact hd
  · rw [← h, List.length_append] at hd; omega
theorem Wri.done {base n k : Nat} {x : List UInt8} (h : Wri base n k x) (hk : k = 0) (hx : x ≠ []) : x = digs base n := by
  rcases h with ⟨rfl, _⟩ | ⟨_, ⟨_, h⟩ | ⟨h, _⟩⟩
  · exact absurd rfl hx
  · exact h
  · omega
theorem lit_fin : ∀ r : Fin 16, (⟨#[48, 49, 50, 51, 52, 53, 54, 55, 56, 57, 97, 98, 99, 100, 101, 102]⟩ : ByteArray).extract r.val (r.val + 1) = asS [dch r.val] := by decide +kernel
theorem lit_at (r : Nat) (h : r < 16) : (⟨#[48, 49, 50, 51, 52, 53, 54, 55, 56, 57, 97, 98, 99, 100, 101, 102]⟩ : ByteArray).extract r (r + 1) = asS [dch r] := lit_fin ⟨r, h⟩
theorem slice_lit (r : Nat) (h : r < 16) (W : World) : (Instr.slice 9 (.string ⟨#[48, 49, 50, 51, 52, 53, 54, 55, 56, 57, 97, 98, 99, 100, 101, 102]⟩) (some (.int .u64 (r : Int))) (some (.int .u64 ((r : Int) + 1))) none).run Tryz.prog W = .ok (.string (asS [dch r])) W := by
  rcases (show r = 0 ∨ r = 1 ∨ r = 2 ∨ r = 3 ∨ r = 4 ∨ r = 5 ∨ r = 6 ∨ r = 7 ∨ r = 8 ∨ r = 9 ∨ r = 10 ∨ r = 11 ∨ r = 12 ∨ r = 13 ∨ r = 14 ∨ r = 15 by omega) with rfl | rfl | rfl | rfl | rfl | rfl | rfl | rfl | rfl | rfl | rfl | rfl | rfl | rfl | rfl | rfl <;> kernel_rfl
theorem asS_app (x y : List UInt8) : asS x ++ asS y = asS (x ++ y) := by
  apply ByteArray.ext
  apply Array.ext'
  rw [ByteArray.data_append, Array.toList_append]
  rfl
def meF (sv kv : Value) : Nat := (intOf kv).toNat + (match sv with
  | .string b => if b.size = 0 then 1 else 0
  | _ => 0)

end Go.Proofs.YtocdjgehjiolhaaGreatDoor
