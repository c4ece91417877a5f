
/- What lanternref05.dots does. -/
import Derived.Test.YtocdjgehjiolhaaGreatDoorIpRD
namespace Go.Proofs.YtocdjgehjiolhaaGreatDoor
open Go.RowKit

theorem joinL_snoc (b : UInt8) : ∀ (L : List (List UInt8)) (x : List UInt8), joinL b (L ++ [x]) = if L = [] then x else joinL b L ++ b :: x
  | [], x => rfl
  | [y], x => rfl
  | y :: z :: r, x => by
    have ih := joinL_snoc b (z :: r) x
    simp only [List.cons_append] at ih ⊢
    rw [joinL, ih, if_neg (by simp), if_neg (by simp), joinL]
    simp
theorem dots_len (B : List UInt8) (k : Nat) (hk : k ≤ 4) : (joinL 46 (dotsTo B k)).length ≤ 84 := by
  have h1 := joinL_len 46 20 (dotsTo B k) (fun x hx => by obtain ⟨j, _, rfl⟩ := List.mem_map.1 hx; exact digs_short 10 _)
  rw [dotsTo_len] at h1
  omega
set_option maxHeartbeats 2000000 in
theorem refDots_any (v : Bool) (B : List UInt8) (hB : B.length = 16) (w : World) : Calls Tryz.prog 48 #[.agg (acs v B)] w fun e w' => e = .returned (.string (asS (lastB B))) ∧ Below w.heap.size w w' := by
  have HAT : Hid (∀ j, j < 16 → (acs v B)[1 + j]? = some (.int .u8 (B.getD j 0).toNat)) := fun j hj => by rw [Nat.add_comm]; exact acs_at v B j (by omega)
  generalize acs v B = X at HAT ⊢
  rw [← dotsTo_four]
  have HJ : Hid (∀ k, k < 4 → joinL 46 (dotsTo B (k + 1)) = if k = 0 then digs 10 (B.getD (12 + k) 0).toNat else joinL 46 (dotsTo B k) ++ 46 :: digs 10 (B.getD (12 + k) 0).toNat) := fun k hk => by
    rw [dotsTo_succ, joinL_snoc]
    by_cases h : k = 0
    · subst h; rfl
    · rw [if_neg h, if_neg (by intro e; have := dotsTo_len B k; rw [e] at this; simp at this; omega)]
  have HL : Hid (∀ k, k ≤ 4 → (joinL 46 (dotsTo B k)).length ≤ 84) := fun k hk => dots_len B k hk
  obtain ⟨F, hF⟩ : ∃ F : Nat → List UInt8, F = fun k => joinL 46 (dotsTo B k) := ⟨_, rfl⟩
  have HF : Hid (∀ k, joinL 46 (dotsTo B k) = F k) := fun k => by rw [hF]
  have HF0 : Hid (F 0 = []) := by show _ = _; rw [hF]; rfl
  clear hF
  rw [HF.out]
  go_enter Tryz.func48, Tryz.ntmps48
  go_wp2_with fail
  go_loopw [3, 4] (fun sv iv wx => ∃ k : Nat, k ≤ 4 ∧ iv = .int .i64 (12 + (k : Int)) ∧ sv = .string (asS (F k)) ∧ Hid (wx.heap[w.heap.size]? = some (.cells X 24 (0, 0))) ∧ Hid (Below w.heap.size w wx)) (fun _ i _ => 16 - (intOf i).toNat)
  case atStart => exact ⟨0, by omega, rfl, by rw [HF0.out]; rfl, heap_alloc_new w _, alloc_below (Below.refl _ w) (Nat.le_refl _) _⟩
  case round =>
    obtain ⟨k, hk, rfl, rfl, HR, HB⟩ := hrel
    have hsz := HB.out.size
    have hxl : w.heap.size < wr.heap.size := (Array.getElem?_eq_some_iff.1 HR.out).1
    by_cases hk4 : (12 : Int) + (k : Int) < 16
    · obtain ⟨b, hb⟩ : ∃ b, b = B.getD (12 + k) 0 := ⟨_, rfl⟩
      have hc : wr.cell? ⟨w.heap.size, 1 + (12 + k), none⟩ = some (.int .u8 b.toNat) := by
        rw [cell_of_row _ _ _ _ _ _ HR.out, HAT.out (12 + k) (by omega), hb]
      have htn : ((12 : Int) + (k : Int)).toNat = 12 + k := by omega
      have hbl : b.toNat < 256 := b.toNat_lt
      have HD := hid (fun W => digits_at10 b.toNat (by omega) W)
      have hJ := HJ.out k (by omega)
      rw [HF.out, HF.out, ← hb] at hJ
      have hs := digs_short 10 b.toNat
      have hsF := HL.out k (by omega)
      rw [HF.out] at hsF
      clear hb
      generalize digs 10 b.toNat = D at HD hJ hs
      have hz1 : (asS D).size ≤ 20 := by rw [asS_size]; exact hs
      by_cases hk0 : (12 : Int) + (k : Int) > 12
      · rw [if_neg (by omega)] at hJ
        have HN := hid hJ
        have a1 : asS (F k) ++ ⟨#[46]⟩ = asS (F k ++ [46]) := asS_app (F k) [46]
        have a2 := asS_app (F k ++ [46]) D
        have hz2 : (asS (F k)).size ≤ 84 := by rw [asS_size]; exact hsF
        have hz3 : (asS (F k ++ [46])).size ≤ 85 := by rw [asS_size, List.length_append]; simp; omega
        clear hJ
        go_wp2_with fail
        refine (HD.out _).mono ?_
        rintro e W1 ⟨rfl, hb1⟩
        have HR1 : Hid (W1.heap[w.heap.size]? = some (.cells X 24 (0, 0))) := (hb1.block _ hxl).trans HR.out
        have HB1 : Hid (Below w.heap.size w W1) := HB.out.trans (hb1.mono hsz)
        clear hb1 hc
        go_wp2_with fail
        go_roundw
        case rel => exact ⟨k + 1, by omega, by go_num, by rw [HN.out], HR1, HB1⟩
        case measure => simp [intOf]; omega
      · have hk00 : k = 0 := by omega
        have HFK : Hid (F k = []) := by show _ = _; rw [hk00]; exact HF0.out
        rw [if_pos hk00] at hJ
        have HN := hid hJ
        have a2 := asS_app (F k) D
        have hz2 : (asS (F k)).size ≤ 84 := by rw [asS_size]; exact hsF
        clear hJ hk00
        go_wp2_with fail
        refine (HD.out _).mono ?_
        rintro e W1 ⟨rfl, hb1⟩
        have HR1 : Hid (W1.heap[w.heap.size]? = some (.cells X 24 (0, 0))) := (hb1.block _ hxl).trans HR.out
        have HB1 : Hid (Below w.heap.size w W1) := HB.out.trans (hb1.mono hsz)
        clear hb1 hc
        go_wp2_with fail
        go_roundw
        case rel => exact ⟨k + 1, by omega, by go_num, by rw [HN.out, HFK.out]; rfl, HR1, HB1⟩
        case measure => simp [intOf]; omega
    · have hk' : k = 4 := by omega
      subst hk'
      go_wp2_with fail
      go_ret
      exact ⟨rfl, HB.out⟩
end Go.Proofs.YtocdjgehjiolhaaGreatDoor
