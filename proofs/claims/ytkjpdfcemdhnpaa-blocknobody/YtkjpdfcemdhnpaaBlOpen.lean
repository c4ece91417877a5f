
/- An act by value that came in, laid open. -/
import Derived.Test.YtkjpdfcemdhnpaaBlNone
import Derived.ProofKit
import Derived.OpenShut
namespace Go.Proofs.Ytkjpdfcemdhnpaa
open Go.RowKit Go.ChangeShapes Go.WideShapes Go.ChangeAt
set_option linter.unusedSimpArgs false
set_option linter.unusedVariables false
set_option maxRecDepth 100000

/-- The cells of an act. -/
def actB (D I : Int) (b : UInt8) (K T : Int) : Array Value := #[.int .i64 D, .int .i64 I, .int .u8 b.toNat, .int .i64 K, .int .i64 T]
def In64 (n : Int) : Prop := -9223372036854775808 ≤ n ∧ n ≤ 9223372036854775807
theorem open_cellsT {H : Type} {enc : TypeId × Value → H} {W : World} {m : Nat} {cs : List Value} {d : DataW H × List MemPlace} (hsz : cs.length = 5) (hf : DataW.trod enc Try.prog W 0 (fun _ => true) true m 36 cs = some d) :
    ∃ (D I : Int) (b : UInt8) (K T : Int), In64 D ∧ In64 I ∧ In64 K ∧ In64 T ∧ cs = (actB D I b K T).toList := by
  have hc3 : Try.prog.cellsOf 3 = 1 := by kernel_rfl
  have hc5 : Try.prog.cellsOf 5 = 1 := by kernel_rfl
  obtain ⟨xs, m, _, _, _, hn, hx⟩ := DataW.trod_struct Try.underlying36 hf
  have hn2 : xs.length = 5 := hn
  have h0 : DataW.trod enc Try.prog W 0 (fun _ => true) true m 3 ((cs.drop 0).take (Try.prog.cellsOf 3)) = xs[0]? := hx 0 _ rfl
  have h1 : DataW.trod enc Try.prog W 0 (fun _ => true) true m 3 ((cs.drop 1).take (Try.prog.cellsOf 3)) = xs[1]? := hx 1 _ rfl
  have h2 : DataW.trod enc Try.prog W 0 (fun _ => true) true m 5 ((cs.drop 2).take (Try.prog.cellsOf 5)) = xs[2]? := hx 2 _ rfl
  have h3 : DataW.trod enc Try.prog W 0 (fun _ => true) true m 3 ((cs.drop 3).take (Try.prog.cellsOf 3)) = xs[3]? := hx 3 _ rfl
  have h4 : DataW.trod enc Try.prog W 0 (fun _ => true) true m 3 ((cs.drop 4).take (Try.prog.cellsOf 3)) = xs[4]? := hx 4 _ rfl
  clear hx hn hf
  rw [hc3] at h0 h1 h3 h4
  rw [hc5] at h2
  rw [List.getElem?_eq_getElem (by omega)] at h0 h1 h2 h3 h4
  obtain ⟨D, e0, _, w0⟩ := DataW.trod_int Try.underlying3 h0
  obtain ⟨I, e1, _, w1⟩ := DataW.trod_int Try.underlying3 h1
  obtain ⟨b, e2, _, w2⟩ := DataW.trod_int Try.underlying5 h2
  obtain ⟨K, e3, _, w3⟩ := DataW.trod_int Try.underlying3 h3
  obtain ⟨T, e4, _, w4⟩ := DataW.trod_int Try.underlying3 h4
  have hb := bounds_u8 w2
  refine ⟨D, I, UInt8.ofNat b.toNat, K, T, bounds_i64 w0, bounds_i64 w1, bounds_i64 w3, bounds_i64 w4, ?_⟩
  match cs, hsz with
  | [c0, c1, c2, c3, c4], _ =>
    have f0 : c0 = .int .i64 D := by simpa using e0
    have f1 : c1 = .int .i64 I := by simpa using e1
    have f2 : c2 = .int .u8 b := by simpa using e2
    have f3 : c3 = .int .i64 K := by simpa using e3
    have f4 : c4 = .int .i64 T := by simpa using e4
    have hbb : (((UInt8.ofNat b.toNat).toNat : Nat) : Int) = b := by rw [UInt8.toNat_ofNat']; omega
    rw [f0, f1, f2, f3, f4]
    unfold actB
    rw [hbb]
theorem open_act {H : Type} {enc : TypeId × Value → H} {W : World} {b0 : Nat} {v : Value} {d : DataW H} {ps : List MemPlace} (hval : Value.okWide Try.prog W .any b0 36 v) (hd : DataW.Trod enc Try.prog W 0 (fun _ => true) true 36 v d ps) :
    ∃ (D I : Int) (b : UInt8) (K T : Int), v = .agg (actB D I b K T) := by
  have hc : Try.prog.cellsOf 36 = 5 := by kernel_rfl
  obtain ⟨cs, rfl, hsz⟩ : ∃ cs : Array Value, v = .agg cs ∧ cs.size = 5 := by
    simp only [Value.okWide, Try.underlying36] at hval
    obtain ⟨cs, h1, h2, _⟩ := hval
    exact ⟨cs, h1, by rw [h2, hc]⟩
  obtain ⟨fuel, hf⟩ := hd
  obtain ⟨D, I, b, K, T, -, -, -, -, h3⟩ := open_cellsT (cs := (Value.agg cs).cells.toList) (show cs.toList.length = 5 by simpa using hsz) hf
  refine ⟨D, I, b, K, T, congrArg Value.agg ?_⟩
  have : cs.toList = (actB D I b K T).toList := h3
  exact Array.toList_inj.1 this
end Go.Proofs.Ytkjpdfcemdhnpaa
