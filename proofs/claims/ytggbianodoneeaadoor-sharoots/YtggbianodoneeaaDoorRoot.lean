
/- What the reference's Root does; the primes and their roots, reckoned by the kernel. -/
import Derived.Test.YtggbianodoneeaaDoorTimes
import Derived.Test.YtggbianodoneeaaDoorPrime
namespace Go.Proofs.YtggbianodoneeaaDoor
open Go.RowKit
set_option linter.unusedSimpArgs false
set_option linter.unusedVariables false

/-- The root's first k bits, from the 39th on. -/
def rtTo (p root : Nat) : Nat → Nat
  | 0 => 0
  | k + 1 => if (rtTo p root k + 2 ^ (39 - k)) ^ root ≤ p * 65536 ^ (2 * root) then rtTo p root k + 2 ^ (39 - k) else rtTo p root k
def rt (p root : Nat) : Nat := rtTo p root 40 % 4294967296
theorem rtTo_le (p root : Nat) : ∀ k, k ≤ 40 → rtTo p root k + 2 ^ (40 - k) ≤ 2 ^ 40
  | 0, _ => by simp [rtTo]
  | k + 1, h => by
    have ih := rtTo_le p root k (by omega)
    have e : 2 ^ (40 - k) = 2 ^ (39 - k) + 2 ^ (39 - k) := by rw [show 40 - k = (39 - k) + 1 from by omega, Nat.pow_succ]; omega
    have e2 : 2 ^ (40 - (k + 1)) = 2 ^ (39 - k) := by rw [show 40 - (k + 1) = 39 - k from by omega]
    rw [e] at ih
    rw [rtTo, e2]
    generalize 2 ^ (39 - k) = q at ih ⊢
    split <;> omega
def PR : List Nat := [2, 3, 5, 7, 11, 13, 17, 19, 23, 29, 31, 37, 41, 43, 47, 53, 59, 61, 67, 71, 73, 79, 83, 89, 97, 101, 103, 107, 109, 113, 127, 131, 137, 139, 149, 151, 157, 163, 167, 173, 179, 181, 191, 193, 197, 199, 211, 223, 227, 229, 233, 239, 241, 251, 257, 263, 269, 271, 277, 281, 283, 293, 307, 311]
set_option maxRecDepth 100000 in
theorem cnt_PR : ∀ i : Fin 64, i.val < cnt (PR.getD i.val 0) ∧ cnt (PR.getD i.val 0 - 1) ≤ i.val := by decide +kernel
theorem cnt_mono : ∀ d p, cnt p ≤ cnt (p + d)
  | 0, p => Nat.le_refl _
  | d + 1, p => by
    have := cnt_mono d p
    rw [← Nat.add_assoc, cnt]
    omega
theorem prime_is (i : Nat) (hi : i < 64) (p : Nat) (h1 : i < cnt p) (h2 : ∀ q, q < p → cnt q ≤ i) : p = PR.getD i 0 := by
  obtain ⟨h3, h4⟩ := cnt_PR ⟨i, hi⟩
  have h3' : i < cnt (PR.getD i 0) := h3
  have h4' : cnt (PR.getD i 0 - 1) ≤ i := h4
  generalize PR.getD i 0 = q at h3' h4'
  rcases Nat.lt_trichotomy p q with h | h | h
  · have := cnt_mono (q - 1 - p) p
    rw [show p + (q - 1 - p) = q - 1 from by omega] at this
    omega
  · exact h
  · have := h2 q h
    omega
set_option maxRecDepth 100000 in
theorem roots_K : ∀ i : Fin 64, nv (KS.getD i.val 0) = ((rt (PR.getD i.val 0) 3 : Nat) : Int) := by decide +kernel
set_option maxRecDepth 100000 in
theorem roots_H : ∀ i : Fin 8, nv (H0.l.getD i.val 0) = ((rt (PR.getD i.val 0) 2 : Nat) : Int) := by decide +kernel

set_option maxRecDepth 100000 in
set_option maxHeartbeats 1000000 in
theorem root_any (p root : Nat) (hr1 : 2 ≤ root) (hr : root ≤ 3) (hp : p ≤ 311) (w : World) :
    Calls Tryd.prog 10 #[.int .i64 (p : Int), .int .i64 (root : Int)] w fun e w' => e = .returned (.int .u32 ((rt p root : Nat) : Int)) ∧ Below w.heap.size w w' := by
  have HTI : Hid (∀ x W t, x < 1099511627776 → t = decide (x ^ root ≤ p * 65536 ^ (2 * root)) → Calls Tryd.prog 24 #[.int .u64 (x : Int), .int .i64 (root : Int), .int .i64 (p : Int)] W fun e w' => e = .returned (.bool t) ∧ Below W.heap.size W w') := fun x W t hx ht => times_any x root p hx hr1 hr hp W t ht
  have HLE := hid (rtTo_le p root)
  have HSU : Hid (∀ k, rtTo p root (k + 1) = if (rtTo p root k + 2 ^ (39 - k)) ^ root ≤ p * 65536 ^ (2 * root) then rtTo p root k + 2 ^ (39 - k) else rtTo p root k) := fun k => rfl
  have HRT : Hid (rt p root = rtTo p root 40 % 4294967296) := rfl
  have HR0 : Hid (rtTo p root 0 = 0) := rfl
  generalize rt p root = D at HRT ⊢
  generalize rtTo p root = R at HLE HSU HRT HR0
  go_enter Tryd.func10, Tryd.ntmps10
  go_wp2_with fail
  go_loopw [5, 6] (fun xv bv wx => ∃ (k x : Nat), k ≤ 40 ∧ x < 1099511627776 ∧ xv = .int .u64 (x : Int) ∧ bv = .int .i64 (39 - (k : Int)) ∧ Hid (x = R k) ∧ Hid (Below w.heap.size w wx)) (fun _ bv _ => ((intOf bv) + 1).toNat)
  case atStart => exact ⟨0, 0, by omega, by omega, rfl, rfl, HR0.out.symm, Below.refl _ _⟩
  case round =>
    obtain ⟨k, x, hk, hx, rfl, rfl, HX, HB⟩ := hrel
    by_cases hlt : k < 40
    · obtain ⟨b, hb⟩ : ∃ b, b = 39 - k := ⟨_, rfl⟩
      have eb : (39 : Int) - (k : Int) = (b : Int) := by omega
      rw [eb]
      have h0b : (0 : Int) ≤ (b : Int) := by omega
      obtain ⟨q, hq⟩ : ∃ q, q = 2 ^ b := ⟨_, rfl⟩
      have hqx : x + q < 1099511627776 := by
        have h1 := HLE.out k (by omega)
        rw [← HX.out, show 40 - k = b + 1 from by omega, Nat.pow_succ, ← hq] at h1
        have : 0 < q := by rw [hq]; exact Nat.pow_pos (by decide)
        omega
      have HNX : Hid (R (k + 1) = if (x + q) ^ root ≤ p * 65536 ^ (2 * root) then x + q else x) := by show _ = _; rw [HSU.out, ← HX.out, ← hb, ← hq]
      have hbl : b < 40 := by omega
      obtain ⟨y, hy⟩ : ∃ y, y = x + q := ⟨_, rfl⟩
      have sh1 : IntKind.u64.wrap ((2 : Int) ^ b) = (q : Int) := by
        have e : ((2 : Int) ^ b) = (q : Int) := by rw [hq]; exact (Int.natCast_pow 2 b).symm
        rw [e, IntKind.wrap_u64]
        omega
      have sh2 : IntKind.u64.wrap ((x : Int) + (q : Int)) = (y : Int) := by rw [IntKind.wrap_u64]; omega
      have hy40 : y < 1099511627776 := by omega
      rw [← hy] at HNX
      have HBK := hid hb
      clear hb hq hy hqx eb
      by_cases hle : y ^ root ≤ p * 65536 ^ (2 * root)
      · have HC := hid (HTI.out y wr true hy40 (by simp [hle]))
        have HN2 : Hid (y = R (k + 1)) := by show _ = _; rw [HNX.out, if_pos hle]
        clear hle HNX
        go_wp2_with fail
        refine HC.out.mono ?_
        rintro e W2 ⟨rfl, hb2⟩
        have HB2 := hid (HB.out.trans (hb2.mono HB.out.size))
        clear hb2
        go_wp2_with fail
        go_roundw
        case rel => exact ⟨k + 1, y, by omega, hy40, rfl, (by have := HBK.out; congr 1; omega), HN2, HB2⟩
        case measure => simp [intOf] <;> omega
      · have HC := hid (HTI.out y wr false hy40 (by simp [hle]))
        have HN2 : Hid (x = R (k + 1)) := by show _ = _; rw [HNX.out, if_neg hle]
        clear hle HNX
        go_wp2_with fail
        refine HC.out.mono ?_
        rintro e W2 ⟨rfl, hb2⟩
        have HB2 := hid (HB.out.trans (hb2.mono HB.out.size))
        clear hb2
        go_wp2_with fail
        go_roundw
        case rel => exact ⟨k + 1, x, by omega, hx, rfl, (by have := HBK.out; congr 1; omega), HN2, HB2⟩
        case measure => simp [intOf] <;> omega
    · obtain rfl : k = 40 := by omega
      obtain ⟨z, hz⟩ : ∃ z, z = x % 4294967296 := ⟨_, rfl⟩
      have HDZ : Hid (D = z) := by show _ = _; rw [HRT.out, ← HX.out, hz]
      have hz32 : z < 4294967296 := by omega
      have r1 : (x : Int).tmod 4294967296 = (z : Int) := by rw [Int.tmod_eq_emod_of_nonneg (by omega)]; omega
      have r2 : (x : Int) % 4294967296 = (z : Int) := by omega
      have r3 : IntKind.u32.wrap (z : Int) = (z : Int) := by rw [IntKind.wrap_u32]; omega
      have r4 : IntKind.u64.wrap (z : Int) = (z : Int) := by rw [IntKind.wrap_u64]; omega
      have hneg : ¬ (0 : Int) ≤ 39 - ((40 : Nat) : Int) := by omega
      clear hz
      go_wp2_with fail
      go_ret
      exact ⟨by rw [HDZ.out]; rfl, HB.out⟩

end Go.Proofs.YtggbianodoneeaaDoor
