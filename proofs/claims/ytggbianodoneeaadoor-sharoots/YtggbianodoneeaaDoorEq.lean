
/- Two arrays of bytes that are alike are equal. -/
import Derived.Test.YtggbianodoneeaaDoorAbc
import Derived.ChangeKeysEq
namespace Go.Proofs.YtggbianodoneeaaDoor
open Go.RowKit

theorem cellsOf5 : Tryd.prog.cellsOf 5 = 1 := by kernel_rfl
theorem items_same (d : Nat) (F : List UInt8) (w : World) : ∀ is : List Nat, (∀ i ∈ is, i < F.length) → (Op.eqItems (d + 1) 5 (Tryd.prog.cellsOf 5) (bcs F) (bcs F) is).run Tryd.prog w = .ok true w
  | [], _ => by simp [Op.eqItems]
  | i :: is, h => by
    have hp : (part 5 (bcs F) i).run Tryd.prog w = .ok (.int .u8 (F.getD i 0).toNat) w := by
      simp [part, Tryd.isAgg5, bcs_at F i (h i (by simp))]
    have he := run_equalIn_int (P := Tryd.prog) w d 5 .u8 .u8 (F.getD i 0).toNat (F.getD i 0).toNat Tryd.underlying5
    have ih := items_same d F w is (fun j hj => h j (by simp [hj]))
    simp only [Op.eqItems, Sem.run_bind]
    rw [cellsOf5, Nat.mul_one, hp]
    simp only [Result.andThen_ok]
    rw [hp]
    simp only [Result.andThen_ok]
    rw [he]
    simp only [Result.andThen_ok, beq_self_eq_true, Bool.not_true, Bool.false_eq_true, if_false]
    rw [cellsOf5] at ih
    exact ih
theorem eq24 (F : List UInt8) (hF : F.length = 32) (w : World) : (Op.equalIn 10000 54 (.agg (bcs F)) (.agg (bcs F))).run Tryd.prog w = .ok true w := by
  obtain ⟨i, hi, _⟩ := info_parts info5
  rw [show (10000 : Nat) = 9998 + 1 + 1 from rfl, run_equalIn_array w (9998 + 1) _ _ Tryd.underlying54 hi]
  exact items_same 9998 F w _ (fun i hi => by rw [List.mem_range] at hi; omega)

end Go.Proofs.YtggbianodoneeaaDoor
