
/- What ip.parseV6 and ip.Parse do. -/
import Derived.Test.YtocdjgehjiolhaaIpRG
import Derived.Test.YtocdjgehjiolhaaIpRefLo
namespace Go.Proofs.Ytocdjgehjiolhaa
open Go.RowKit

theorem over_part (v : Bool) (X b : List UInt8) (o : Nat) (h : o + b.length ≤ X.length) : over (acs v X) (1 + o) (bvs b) = acs v (X.take o ++ b ++ X.drop (o + b.length)) := by
  have e : acs v X = ((Value.bool v :: bvs (X.take o)) ++ (bvs ((X.drop o).take b.length) ++ bvs (X.drop (o + b.length)))).toArray := by
    have e1 : X = X.take o ++ ((X.drop o).take b.length ++ X.drop (o + b.length)) := by
      rw [← List.drop_drop, List.take_append_drop, List.take_append_drop]
    conv => lhs; rw [e1]
    unfold acs
    rw [bvs_app, bvs_app]; rfl
  rw [e]
  have := over_mid (bvs ((X.drop o).take b.length)) (bvs b) (Value.bool v :: bvs (X.take o)) (bvs (X.drop (o + b.length))) (by rw [bvs_len, bvs_len, List.length_take, List.length_drop]; omega)
  have hl : (Value.bool v :: bvs (X.take o)).length = 1 + o := by rw [List.length_cons, bvs_len, List.length_take]; omega
  rw [hl] at this
  rw [this]
  unfold acs
  rw [bvs_app, bvs_app]; simp
theorem over_one (b1 : List UInt8) (h : b1.length ≤ 16) : over (acs true (zer 16)) 1 (bvs b1) = acs true (b1 ++ zer (16 - b1.length)) := by
  have := over_part true (zer 16) b1 0 (by rw [zer_len]; omega)
  rw [Nat.add_zero, Nat.zero_add, List.take_zero, List.nil_append] at this
  rw [this]
  unfold zer
  rw [List.drop_replicate]
theorem over_two (b1 b2 : List UInt8) (h : b1.length + b2.length ≤ 16) : over (acs true (b1 ++ zer (16 - b1.length))) (1 + (16 - b2.length)) (bvs b2) = acs true (b1 ++ List.replicate (16 - (b1.length + b2.length)) 0 ++ b2) := by
  rw [over_part true _ b2 (16 - b2.length) (by rw [List.length_append, zer_len]; omega)]
  have t1 : (b1 ++ zer (16 - b1.length)).take (16 - b2.length) = b1 ++ List.replicate (16 - (b1.length + b2.length)) 0 := by
    rw [List.take_append, List.take_of_length_le (by omega)]
    unfold zer
    rw [List.take_replicate, show min (16 - b2.length - b1.length) (16 - b1.length) = 16 - (b1.length + b2.length) from by omega]
  have t2 : (b1 ++ zer (16 - b1.length)).drop (16 - b2.length + b2.length) = [] := List.drop_eq_nil_of_le (by rw [List.length_append, zer_len]; omega)
  rw [t1, t2, List.append_nil]
theorem left_len (l : List UInt8) : (leftP l).length ≤ l.length ∧ (rightP l).length ≤ l.length := by
  unfold leftP rightP Lib.cut
  split
  · simp; omega
  · simp
theorem asS_all (s : ByteArray) : asS s.data.toList = s := by simp [asS]
end Go.Proofs.Ytocdjgehjiolhaa
