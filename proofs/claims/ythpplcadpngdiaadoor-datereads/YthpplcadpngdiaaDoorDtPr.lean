
/- What date's padded and Print do. -/
import Derived.Test.YthpplcadpngdiaaDoorDtRefM
namespace Go.Proofs.YthpplcadpngdiaaDoor
set_option linter.unusedVariables false
set_option linter.unusedSimpArgs false
open Go.RowKit Go.BigFrame

theorem itoa_decD (n : Nat) : Lib.itoa (n : Int) = Lib.decDigits n := by
  unfold Lib.itoa
  rw [if_neg (by omega)]
  congr 1
theorem itoaD (n : Nat) (hn : n ≤ 65535) (w : World) (h : TabD w) : Calls Tryd.prog 66 #[.int .i64 (n : Int)] w fun e w' => e = .returned (.string (asS (Lib.decDigits n))) ∧ Below w.heap.size w w' := by
  refine (Any.strconv_Itoa Tryd.laysM171 (n : Int) (by omega) (by omega) w h.pow).mono ?_
  rintro e w' ⟨rfl, k, os, rfl⟩
  exact ⟨by rw [itoa_decD]; rfl, Lib.below_grow _ w (Nat.le_refl _) k os⟩
theorem pad_dig : ∀ (k n : Nat), n < 10 ^ (k + 1) → List.replicate (k + 1 - (Lib.decDigits n).length) 48 ++ Lib.decDigits n = dig (k + 1) n ∧ (Lib.decDigits n).length ≤ k + 1
  | k, n, h => by
    by_cases h1 : n < 10
    · rw [Lib.decDigits_one h1, dig, Nat.div_eq_of_lt h1, dig_zero, Nat.mod_eq_of_lt h1]
      exact ⟨rfl, by simp⟩
    · cases k with
      | zero => simp at h; omega
      | succ k =>
        have h2 : n / 10 < 10 ^ (k + 1) := by rw [Nat.pow_succ] at h; omega
        obtain ⟨e, hl⟩ := pad_dig k (n / 10) h2
        have he : Lib.decDigits n = Lib.decDigits (n / 10) ++ [UInt8.ofNat (48 + n % 10)] := by
          conv => lhs; rw [Lib.decDigits]
          rw [dif_neg h1]
        rw [dig, ← e, he, List.length_append, List.append_assoc]
        refine ⟨?_, by simp; omega⟩
        rw [show k + 1 + 1 - ((Lib.decDigits (n / 10)).length + [UInt8.ofNat (48 + n % 10)].length) = k + 1 - (Lib.decDigits (n / 10)).length by simp]
theorem repeat_48 : ∀ c, Lib.repeatL [48] c = List.replicate c 48
  | 0 => rfl
  | c + 1 => by rw [Lib.repeatL, repeat_48 c]; rfl
set_option maxHeartbeats 1000000 in
theorem padded_any (n k : Nat) (hk : k ≤ 3) (hn : n < 10 ^ (k + 1)) (w : World) (hT : TabD w) : Calls Tryd.prog 54 #[.int .i64 (n : Int), .int .i64 ((k + 1 : Nat) : Int)] w fun e w' => e = .returned (.string (asS (dig (k + 1) n))) ∧ Below w.heap.size w w' := by
  have h1 : n ≤ 65535 := by
    have : 10 ^ (k + 1) ≤ 10 ^ 4 := Nat.pow_le_pow_right (by omega) (by omega)
    omega
  have HI := hid (itoaD n h1 w hT)
  obtain ⟨hp, hl⟩ := pad_dig k n hn
  have hz : (asS (Lib.decDigits n)).size = (Lib.decDigits n).length := asS_size _
  have HP : Hid (asS (List.replicate (k + 1 - (Lib.decDigits n).length) 48) ++ asS (Lib.decDigits n) = asS (dig (k + 1) n)) := by
    show _ = _; rw [← hp]; exact asS_app _ _
  generalize asS (dig (k + 1) n) = R at HP ⊢
  generalize (Lib.decDigits n).length = L at hz hl HP
  generalize asS (Lib.decDigits n) = D at *
  have HR : Hid (∀ W : World, Calls Tryd.prog 67 #[.string ⟨#[48]⟩, .int .i64 ((k + 1 - L : Nat) : Int)] W fun e w' => e = .returned (.string (asS (List.replicate (k + 1 - L) 48))) ∧ Below W.heap.size W w') := fun W => by
    have := Tryd.strings_Repeat ⟨#[48]⟩ (k + 1 - L) W (by omega) (by simp [ByteArray.size]; omega)
    rw [show (⟨#[48]⟩ : ByteArray).data.toList = [48] from rfl, repeat_48] at this
    exact this
  have hs : (asS (List.replicate (k + 1 - L) 48)).size ≤ 4 := by rw [asS_size, List.length_replicate]; omega
  have hc : ((k + 1 : Nat) : Int) - (L : Int) = ((k + 1 - L : Nat) : Int) := by omega
  generalize asS (List.replicate (k + 1 - L) 48) = Z at HP HR hs
  have hcb : k + 1 - L ≤ 4 := by omega
  generalize k + 1 - L = c at *
  have hL : L ≤ 4 := by omega
  have hK : k + 1 ≤ 4 := by omega
  generalize k + 1 = K at *
  have hmx : max (c : Int) 0 = (c : Int) := by omega
  have hDz : D.size ≤ 4 := by omega
  clear hp hl hk hn h1 hT
  have hzi : ((D.size : Nat) : Int) = (L : Int) := by omega
  clear hz
  go_enter Tryd.func54, Tryd.ntmps54
  go_wp2_with (first
    | (go_at_call 66; refine HI.out.mono ?_; rintro e w1 ⟨rfl, hb1⟩)
    | (go_at_call 67; refine (HR.out _).mono ?_; rintro e w2 ⟨rfl, hb2⟩)
    | fail)
  go_ret
  exact ⟨by rw [← HP.out]; rfl, b_two hb1 hb2⟩
end Go.Proofs.YthpplcadpngdiaaDoor
