
/- What the reference's Mapped, Tail and Embeds do. -/
import Derived.Test.YtocdjgehjiolhaaGreatDoorIpEmb
import Derived.Test.YtocdjgehjiolhaaGreatDoorIpRefLo
import Derived.Test.YtocdjgehjiolhaaGreatDoorIpLLaw
namespace Go.Proofs.YtocdjgehjiolhaaGreatDoor
open Go.RowKit

theorem beh_iff (h B : List UInt8) (hh : h.length = 12) (hB : B.length = 16) : B = behL h (lastL B) ↔ B.take 12 = h := by
  obtain ⟨b0, b1, b2, b3, b4, b5, b6, b7, b8, b9, b10, b11, b12, b13, b14, b15, rfl⟩ := letters B hB
  have e : behL h (lastL [b0, b1, b2, b3, b4, b5, b6, b7, b8, b9, b10, b11, b12, b13, b14, b15]) = h ++ [b12, b13, b14, b15] := rfl
  rw [e]
  have e2 : [b0, b1, b2, b3, b4, b5, b6, b7, b8, b9, b10, b11, b12, b13, b14, b15] = [b0, b1, b2, b3, b4, b5, b6, b7, b8, b9, b10, b11] ++ [b12, b13, b14, b15] := rfl
  rw [e2]
  constructor
  · intro h1
    have := List.append_inj_left h1 (by rw [hh]; rfl)
    rw [← this]; rfl
  · intro h1
    rw [← h1]; rfl
theorem isH_take (h : List UInt8) (hh : h.length = 12) (v : Bool) (B : List UInt8) (hB : B.length = 16) : isH h v B = decide (v = true ∧ B.take 12 = h) := by
  unfold isH
  exact decide_eq_decide.2 (by rw [beh_iff h B hh hB])
theorem map_getD (k : Nat) (hk : k < 12) : mapH.getD k 0 = if k < 10 then 0 else 255 := by
  rcases (show k = 0 ∨ k = 1 ∨ k = 2 ∨ k = 3 ∨ k = 4 ∨ k = 5 ∨ k = 6 ∨ k = 7 ∨ k = 8 ∨ k = 9 ∨ k = 10 ∨ k = 11 by omega) with rfl | rfl | rfl | rfl | rfl | rfl | rfl | rfl | rfl | rfl | rfl | rfl <;> rfl
theorem take_next (B h : List UInt8) (k : Nat) (hB : k < B.length) (hh : k < h.length) (h1 : B.take k = h.take k) (h2 : B.getD k 0 = h.getD k 0) : B.take (k + 1) = h.take (k + 1) := by
  rw [take_snoc B k hB, take_snoc h k hh, h1, h2]
theorem take_ne (B h : List UInt8) (k n : Nat) (hk : k < n) (h2 : B.getD k 0 ≠ h.getD k 0) : B.take n ≠ h.take n := fun e => by
  apply h2
  have : (B.take n)[k]? = (h.take n)[k]? := by rw [e]
  rw [List.getElem?_take, List.getElem?_take, if_pos hk, if_pos hk] at this
  rw [List.getD_eq_getElem?_getD, List.getD_eq_getElem?_getD, this]
set_option maxHeartbeats 2000000 in
theorem refMapped_any (v : Bool) (B : List UInt8) (hB : B.length = 16) (w : World) : Calls Tryz.prog 49 #[.agg (acs v B)] w fun e w' => e = .returned (.bool (isH mapH v B)) ∧ Below w.heap.size w w' := by
  have HIS := hid (isH_take mapH rfl v B hB)
  have c0 := acs_zero v B
  have HAT : Hid (∀ j, j < 16 → (acs v B)[1 + j]? = some (.int .u8 (B.getD j 0).toNat)) := fun j hj => by rw [Nat.add_comm]; exact acs_at v B j (by omega)
  generalize acs v B = X at c0 HAT ⊢
  have HX0 := hid c0
  clear c0
  go_enter Tryz.func49, Tryz.ntmps49
  go_wp2_with fail
  obtain ⟨V, hV⟩ : ∃ V, V = w.alloc (Obj.cells X 24) := ⟨_, rfl⟩
  have HR : Hid (V.heap[w.heap.size]? = some (.cells X 24 (0, 0))) := by rw [hV]; exact heap_alloc_new w _
  have HB : Hid (Below w.heap.size w V) := by rw [hV]; exact alloc_below (Below.refl _ w) (Nat.le_refl _) _
  rw [← hV]
  clear hV
  go_loop [3] (fun iv => ∃ k : Nat, k ≤ 12 ∧ iv = .int .i64 (k : Int) ∧ Hid (B.take k = mapH.take k)) (fun i => 12 - (intOf i).toNat)
  case atStart => exact ⟨0, by omega, rfl, rfl⟩
  case round =>
    obtain ⟨k, hk, rfl, HK⟩ := hrel
    by_cases hk12 : (k : Int) < 12
    · have hc : V.cell? ⟨w.heap.size, 1 + k, none⟩ = some (.int .u8 (B.getD k 0).toNat) := by rw [cell_of_row _ _ _ _ _ _ HR.out]; exact HAT.out k (by omega)
      have HM := hid (map_getD k (by omega))
      have HYES : Hid (B.getD k 0 = mapH.getD k 0 → B.take (k + 1) = mapH.take (k + 1)) := fun h => take_next B mapH k (by omega) (by show k < 12; omega) HK.out h
      have HNO : Hid (B.getD k 0 ≠ mapH.getD k 0 → isH mapH v B = false) := fun h => by
        rw [HIS.out, decide_eq_false_iff_not]
        intro h2
        exact take_ne B mapH k 12 (by omega) h h2.2
      generalize B.getD k 0 = b at hc HYES HNO
      by_cases hk10 : (k : Int) < 10
      · rw [HM.out, if_pos (by omega)] at HYES HNO
        by_cases hb : b = 0
        · subst hb
          have HN := hid (HYES.out rfl)
          go_wp2_with fail
          go_round
          case rel => exact ⟨k + 1, by omega, by go_num, HN⟩
          case measure => simp [intOf]; omega
        · have HF := hid (HNO.out hb)
          have hbb : (((b.toNat : Nat) : Int) == 0) = false := by
            rw [beq_eq_false_iff_ne]; intro h; exact hb (UInt8.toNat_inj.1 (by simpa using (by omega : b.toNat = 0)))
          have hbn : ¬ b.toNat = 0 := fun h => hb (UInt8.toNat_inj.1 (by simpa using h))
          have hbi : ¬ ((b.toNat : Nat) : Int) = 0 := by omega
          have hbp : (b == 0) = false := by simpa using hb
          go_wp2_with fail
          go_ret
          exact ⟨by rw [HF.out]; rfl, HB.out⟩
      · have hk10' : (10 : Int) ≤ (k : Int) := by omega
        rw [HM.out, if_neg (by omega)] at HYES HNO
        by_cases hb : b = 255
        · subst hb
          have HN := hid (HYES.out rfl)
          go_wp2_with fail
          go_round
          case rel => exact ⟨k + 1, by omega, by go_num, HN⟩
          case measure => simp [intOf]; omega
        · have HF := hid (HNO.out hb)
          have hbb : (((b.toNat : Nat) : Int) == 255) = false := by
            rw [beq_eq_false_iff_ne]; intro h; exact hb (UInt8.toNat_inj.1 (by simpa using (by omega : b.toNat = 255)))
          go_wp2_with fail
          go_ret
          exact ⟨by rw [HF.out]; rfl, HB.out⟩
    · have hk' : k = 12 := by omega
      subst hk'
      have HF : Hid (isH mapH v B = v) := by
        show _ = _
        rw [HIS.out]
        have : B.take 12 = mapH := HK.out
        cases v <;> simp [this]
      have hc : V.cell? ⟨w.heap.size, 0, none⟩ = some (.bool v) := by rw [cell_of_row _ _ _ _ _ _ HR.out]; exact HX0.out
      go_wp2_with fail
      go_ret
      exact ⟨by rw [HF.out]; rfl, HB.out⟩

/-- The first k bytes from at on, as a number. -/
def tailN (B : List UInt8) (at_ : Nat) : Nat → Nat
  | 0 => 0
  | k + 1 => tailN B at_ k * 256 + (B.getD (at_ + k) 0).toNat
theorem tailN_lt (B : List UInt8) (a : Nat) : ∀ k, tailN B a k < 256 ^ k
  | 0 => by simp [tailN]
  | k + 1 => by
    have ih := tailN_lt B a k
    have := (B.getD (a + k) 0).toNat_lt
    rw [tailN, Nat.pow_succ]; omega
def tailL (B : List UInt8) (a : Nat) : List UInt8 := v4L (B.getD a 0) (B.getD (a + 1) 0) (B.getD (a + 2) 0) (B.getD (a + 3) 0)
theorem tail_v4 (B : List UInt8) (a : Nat) : v4B (tailN B a 4) = tailL B a := by
  have := v4_bytes (B.getD a 0) (B.getD (a + 1) 0) (B.getD (a + 2) 0) (B.getD (a + 3) 0)
  have e : tailN B a 4 = ((((B.getD a 0).toNat * 256 + (B.getD (a + 1) 0).toNat) * 256 + (B.getD (a + 2) 0).toNat) * 256 + (B.getD (a + 3) 0).toNat) := by simp [tailN]
  rw [e, this]; rfl
end Go.Proofs.YtocdjgehjiolhaaGreatDoor
