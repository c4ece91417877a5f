
/- What the reference's digits and dots of layer 5 do. -/
import Derived.Test.YtocdjgehjiolhaaGreatDoorIpForm
namespace Go.Proofs.YtocdjgehjiolhaaGreatDoor
open Go.RowKit

theorem slice_dg (r : Nat) (h : r < 16) (W : World) : (Instr.slice 9 (.string ⟨#[48, 49, 50, 51, 52, 53, 54, 55, 56, 57, 97, 98, 99, 100, 101, 102]⟩) (some (.int .i64 (r : Int))) (some (.int .i64 ((r : Int) + 1))) none).run Tryz.prog W = .ok (.string (asS [dch r])) W := by
  rcases (show r = 0 ∨ r = 1 ∨ r = 2 ∨ r = 3 ∨ r = 4 ∨ r = 5 ∨ r = 6 ∨ r = 7 ∨ r = 8 ∨ r = 9 ∨ r = 10 ∨ r = 11 ∨ r = 12 ∨ r = 13 ∨ r = 14 ∨ r = 15 by omega) with rfl | rfl | rfl | rfl | rfl | rfl | rfl | rfl | rfl | rfl | rfl | rfl | rfl | rfl | rfl | rfl <;> kernel_rfl
theorem digsF_short (base : Nat) : ∀ f n, (digsF base f n).length ≤ f := by
  intro f
  induction f with
  | zero => intro n; simp [digsF]
  | succ f ih =>
    intro n
    unfold digsF
    split
    · simp
    · have := ih (n / base); simp; omega

set_option maxRecDepth 100000 in
set_option maxHeartbeats 1000000 in
theorem digits10 : ∀ (f n : Nat) (w : World), f ≤ 19 → n < 10 ^ (f + 1) → n ≤ 1000000 → Calls Tryz.prog 50 #[.int .i64 n, .int .i64 10] w fun e w' => e = .returned (.string (asS (digsF 10 (f + 1) n))) ∧ Below w.heap.size w w' := by
  intro f
  induction f with
  | zero =>
    intro n w hf hn hn2
    have hlt : (n : Int) < 10 := by simp at hn; omega
    have hlit := fun W => slice_dg (n % 10) (by omega) W
    have hmr : (n : Int).tmod 10 = ((n % 10 : Nat) : Int) := by rw [Int.tmod_eq_emod_of_nonneg (by omega)]; omega
    have HE : Hid (digsF 10 (0 + 1) n = [dch (n % 10)]) := by show _ = _; rw [digsF, if_pos (by omega), Nat.mod_eq_of_lt (by omega)]
    obtain ⟨r, hr⟩ : ∃ r, r = n % 10 := ⟨_, rfl⟩
    rw [← hr] at hlit hmr HE
    have hrl : r < 10 := by omega
    have hw : IntKind.i64.wrap ((r : Int) + 1) = (r : Int) + 1 := by rw [IntKind.wrap_i64]; omega
    rw [HE.out]
    clear hr
    generalize [dch r] = D at hlit ⊢
    go_enter Tryz.func50, Tryz.ntmps50
    go_wp2_with fail
    go_quiet (fail)
    go_wp2_with fail
    go_ret
    exact ⟨rfl, below_drewN _ _ _⟩
  | succ f ih =>
    intro n w hf hn hn2
    have hlit := fun W => slice_dg (n % 10) (by omega) W
    have hmr : (n : Int).tmod 10 = ((n % 10 : Nat) : Int) := by rw [Int.tmod_eq_emod_of_nonneg (by omega)]; omega
    obtain ⟨r, hr⟩ : ∃ r, r = n % 10 := ⟨_, rfl⟩
    rw [← hr] at hlit hmr
    have hrl : r < 10 := by omega
    have hw : IntKind.i64.wrap ((r : Int) + 1) = (r : Int) + 1 := by rw [IntKind.wrap_i64]; omega
    by_cases hlt : (n : Int) < 10
    · have HE : Hid (digsF 10 (f + 1 + 1) n = [dch r]) := by show _ = _; rw [digsF, if_pos (by omega), hr, Nat.mod_eq_of_lt (by omega)]
      rw [HE.out]
      clear hr ih
      generalize [dch r] = D at hlit ⊢
      go_enter Tryz.func50, Tryz.ntmps50
      go_wp2_with fail
      go_quiet (fail)
      go_wp2_with fail
      go_ret
      exact ⟨rfl, below_drewN _ _ _⟩
    · have HE : Hid (digsF 10 (f + 1 + 1) n = digsF 10 (f + 1) (n / 10) ++ [dch r]) := by show _ = _; rw [digsF, if_neg (by omega), hr]
      rw [HE.out]
      have c1 := hid (fun W => ih (n / 10) W (by omega) (by rw [Nat.div_lt_iff_lt_mul (by omega), ← Nat.pow_succ]; exact hn) (by omega))
      have hsz := digsF_short 10 (f + 1) (n / 10)
      have hap := asS_app (digsF 10 (f + 1) (n / 10)) [dch r]
      have hs1 : (asS (digsF 10 (f + 1) (n / 10))).size ≤ 20 := by rw [asS_size]; omega
      have hs2 : (asS [dch r]).size = 1 := rfl
      clear hr ih hsz
      generalize digsF 10 (f + 1) (n / 10) = E at c1 hap hs1 ⊢
      obtain ⟨q, hq⟩ : ∃ q, q = n / 10 := ⟨_, rfl⟩
      rw [← hq] at c1
      have hd : (n : Int).tdiv 10 = (q : Int) := by rw [Int.tdiv_eq_ediv_of_nonneg (by omega)]; omega
      have hd2 : (n : Int) / 10 = (q : Int) := by omega
      clear hq
      generalize [dch r] = D at hlit hap hs2 ⊢
      go_enter Tryz.func50, Tryz.ntmps50
      go_wp2_with fail
      go_quiet (fail)
      go_wp2_with fail
      refine (c1.out _).mono ?_
      rintro e W1 ⟨rfl, hb1⟩
      go_wp2_with fail
      go_ret
      exact ⟨rfl, (below_drewN _ _ _).trans (hb1.mono (Nat.le_refl _))⟩

set_option maxRecDepth 100000 in
set_option maxHeartbeats 1000000 in
theorem digits16 : ∀ (f n : Nat) (w : World), f ≤ 19 → n < 16 ^ (f + 1) → n ≤ 1000000 → Calls Tryz.prog 50 #[.int .i64 n, .int .i64 16] w fun e w' => e = .returned (.string (asS (digsF 16 (f + 1) n))) ∧ Below w.heap.size w w' := by
  intro f
  induction f with
  | zero =>
    intro n w hf hn hn2
    have hlt : (n : Int) < 16 := by simp at hn; omega
    have hlit := fun W => slice_dg (n % 16) (by omega) W
    have hmr : (n : Int).tmod 16 = ((n % 16 : Nat) : Int) := by rw [Int.tmod_eq_emod_of_nonneg (by omega)]; omega
    have HE : Hid (digsF 16 (0 + 1) n = [dch (n % 16)]) := by show _ = _; rw [digsF, if_pos (by omega), Nat.mod_eq_of_lt (by omega)]
    obtain ⟨r, hr⟩ : ∃ r, r = n % 16 := ⟨_, rfl⟩
    rw [← hr] at hlit hmr HE
    have hrl : r < 16 := by omega
    have hw : IntKind.i64.wrap ((r : Int) + 1) = (r : Int) + 1 := by rw [IntKind.wrap_i64]; omega
    rw [HE.out]
    clear hr
    generalize [dch r] = D at hlit ⊢
    go_enter Tryz.func50, Tryz.ntmps50
    go_wp2_with fail
    go_quiet (fail)
    go_wp2_with fail
    go_ret
    exact ⟨rfl, below_drewN _ _ _⟩
  | succ f ih =>
    intro n w hf hn hn2
    have hlit := fun W => slice_dg (n % 16) (by omega) W
    have hmr : (n : Int).tmod 16 = ((n % 16 : Nat) : Int) := by rw [Int.tmod_eq_emod_of_nonneg (by omega)]; omega
    obtain ⟨r, hr⟩ : ∃ r, r = n % 16 := ⟨_, rfl⟩
    rw [← hr] at hlit hmr
    have hrl : r < 16 := by omega
    have hw : IntKind.i64.wrap ((r : Int) + 1) = (r : Int) + 1 := by rw [IntKind.wrap_i64]; omega
    by_cases hlt : (n : Int) < 16
    · have HE : Hid (digsF 16 (f + 1 + 1) n = [dch r]) := by show _ = _; rw [digsF, if_pos (by omega), hr, Nat.mod_eq_of_lt (by omega)]
      rw [HE.out]
      clear hr ih
      generalize [dch r] = D at hlit ⊢
      go_enter Tryz.func50, Tryz.ntmps50
      go_wp2_with fail
      go_quiet (fail)
      go_wp2_with fail
      go_ret
      exact ⟨rfl, below_drewN _ _ _⟩
    · have HE : Hid (digsF 16 (f + 1 + 1) n = digsF 16 (f + 1) (n / 16) ++ [dch r]) := by show _ = _; rw [digsF, if_neg (by omega), hr]
      rw [HE.out]
      have c1 := hid (fun W => ih (n / 16) W (by omega) (by rw [Nat.div_lt_iff_lt_mul (by omega), ← Nat.pow_succ]; exact hn) (by omega))
      have hsz := digsF_short 16 (f + 1) (n / 16)
      have hap := asS_app (digsF 16 (f + 1) (n / 16)) [dch r]
      have hs1 : (asS (digsF 16 (f + 1) (n / 16))).size ≤ 20 := by rw [asS_size]; omega
      have hs2 : (asS [dch r]).size = 1 := rfl
      clear hr ih hsz
      generalize digsF 16 (f + 1) (n / 16) = E at c1 hap hs1 ⊢
      obtain ⟨q, hq⟩ : ∃ q, q = n / 16 := ⟨_, rfl⟩
      rw [← hq] at c1
      have hd : (n : Int).tdiv 16 = (q : Int) := by rw [Int.tdiv_eq_ediv_of_nonneg (by omega)]; omega
      have hd2 : (n : Int) / 16 = (q : Int) := by omega
      clear hq
      generalize [dch r] = D at hlit hap hs2 ⊢
      go_enter Tryz.func50, Tryz.ntmps50
      go_wp2_with fail
      go_quiet (fail)
      go_wp2_with fail
      refine (c1.out _).mono ?_
      rintro e W1 ⟨rfl, hb1⟩
      go_wp2_with fail
      go_ret
      exact ⟨rfl, (below_drewN _ _ _).trans (hb1.mono (Nat.le_refl _))⟩

theorem digits_at10 (n : Nat) (h : n ≤ 1000000) (w : World) : Calls Tryz.prog 50 #[.int .i64 n, .int .i64 10] w fun e w' => e = .returned (.string (asS (digs 10 n))) ∧ Below w.heap.size w w' :=
  digits10 19 n w (by omega) (Nat.lt_of_le_of_lt h (by decide)) h
theorem digits_at16 (n : Nat) (h : n ≤ 1000000) (w : World) : Calls Tryz.prog 50 #[.int .i64 n, .int .i64 16] w fun e w' => e = .returned (.string (asS (digs 16 n))) ∧ Below w.heap.size w w' :=
  digits16 19 n w (by omega) (Nat.lt_of_le_of_lt h (by decide)) h
end Go.Proofs.YtocdjgehjiolhaaGreatDoor
namespace Go.Proofs.YtocdjgehjiolhaaGreatDoor
open Go.RowKit

theorem joinL_snoc (b : UInt8) : ∀ (L : List (List UInt8)) (x : List UInt8), joinL b (L ++ [x]) = if L = [] then x else joinL b L ++ b :: x
  | [], x => rfl
  | [y], x => rfl
  | y :: z :: r, x => by
    have ih := joinL_snoc b (z :: r) x
    simp only [List.cons_append] at ih ⊢
    rw [joinL, ih, if_neg (by simp), if_neg (by simp), joinL]
    simp
theorem dots_len (B : List UInt8) (k : Nat) (hk : k ≤ 4) : (joinL 46 (dotsTo B k)).length ≤ 84 := by
  have h1 := joinL_len 46 20 (dotsTo B k) (fun x hx => by obtain ⟨j, _, rfl⟩ := List.mem_map.1 hx; exact digs_short 10 _)
  rw [dotsTo_len] at h1
  omega
set_option maxHeartbeats 2000000 in
theorem refDots_any (v : Bool) (B : List UInt8) (hB : B.length = 16) (w : World) : Calls Tryz.prog 48 #[.agg (acs v B)] w fun e w' => e = .returned (.string (asS (lastB B))) ∧ Below w.heap.size w w' := by
  have HAT : Hid (∀ j, j < 16 → (acs v B)[1 + j]? = some (.int .u8 (B.getD j 0).toNat)) := fun j hj => by rw [Nat.add_comm]; exact acs_at v B j (by omega)
  generalize acs v B = X at HAT ⊢
  rw [← dotsTo_four]
  have HJ : Hid (∀ k, k < 4 → joinL 46 (dotsTo B (k + 1)) = if k = 0 then digs 10 (B.getD (12 + k) 0).toNat else joinL 46 (dotsTo B k) ++ 46 :: digs 10 (B.getD (12 + k) 0).toNat) := fun k hk => by
    rw [dotsTo_succ, joinL_snoc]
    by_cases h : k = 0
    · subst h; rfl
    · rw [if_neg h, if_neg (by intro e; have := dotsTo_len B k; rw [e] at this; simp at this; omega)]
  have HL : Hid (∀ k, k ≤ 4 → (joinL 46 (dotsTo B k)).length ≤ 84) := fun k hk => dots_len B k hk
  obtain ⟨F, hF⟩ : ∃ F : Nat → List UInt8, F = fun k => joinL 46 (dotsTo B k) := ⟨_, rfl⟩
  have HF : Hid (∀ k, joinL 46 (dotsTo B k) = F k) := fun k => by rw [hF]
  have HF0 : Hid (F 0 = []) := by show _ = _; rw [hF]; rfl
  clear hF
  rw [HF.out]
  go_enter Tryz.func48, Tryz.ntmps48
  go_wp2_with fail
  go_loopw [3, 4] (fun sv iv wx => ∃ k : Nat, k ≤ 4 ∧ iv = .int .i64 (12 + (k : Int)) ∧ sv = .string (asS (F k)) ∧ Hid (wx.heap[w.heap.size]? = some (.cells X 24 (0, 0))) ∧ Hid (Below w.heap.size w wx)) (fun _ i _ => 16 - (intOf i).toNat)
  case atStart => exact ⟨0, by omega, rfl, by rw [HF0.out]; rfl, heap_alloc_new w _, alloc_below (Below.refl _ w) (Nat.le_refl _) _⟩
  case round =>
    obtain ⟨k, hk, rfl, rfl, HR, HB⟩ := hrel
    have hsz := HB.out.size
    have hxl : w.heap.size < wr.heap.size := (Array.getElem?_eq_some_iff.1 HR.out).1
    by_cases hk4 : (12 : Int) + (k : Int) < 16
    · obtain ⟨b, hb⟩ : ∃ b, b = B.getD (12 + k) 0 := ⟨_, rfl⟩
      have hc : wr.cell? ⟨w.heap.size, 1 + (12 + k), none⟩ = some (.int .u8 b.toNat) := by
        rw [cell_of_row _ _ _ _ _ _ HR.out, HAT.out (12 + k) (by omega), hb]
      have htn : ((12 : Int) + (k : Int)).toNat = 12 + k := by omega
      have hbl : b.toNat < 256 := b.toNat_lt
      have HD := hid (fun W => digits_at10 b.toNat (by omega) W)
      have hJ := HJ.out k (by omega)
      rw [HF.out, HF.out, ← hb] at hJ
      have hs := digs_short 10 b.toNat
      have hsF := HL.out k (by omega)
      rw [HF.out] at hsF
      clear hb
      generalize digs 10 b.toNat = D at HD hJ hs
      have hz1 : (asS D).size ≤ 20 := by rw [asS_size]; exact hs
      by_cases hk0 : (12 : Int) + (k : Int) > 12
      · rw [if_neg (by omega)] at hJ
        have HN := hid hJ
        have a1 : asS (F k) ++ ⟨#[46]⟩ = asS (F k ++ [46]) := asS_app (F k) [46]
        have a2 := asS_app (F k ++ [46]) D
        have hz2 : (asS (F k)).size ≤ 84 := by rw [asS_size]; exact hsF
        have hz3 : (asS (F k ++ [46])).size ≤ 85 := by rw [asS_size, List.length_append]; simp; omega
        clear hJ
        go_wp2_with fail
        refine (HD.out _).mono ?_
        rintro e W1 ⟨rfl, hb1⟩
        have HR1 : Hid (W1.heap[w.heap.size]? = some (.cells X 24 (0, 0))) := (hb1.block _ hxl).trans HR.out
        have HB1 : Hid (Below w.heap.size w W1) := HB.out.trans (hb1.mono hsz)
        clear hb1 hc
        go_wp2_with fail
        go_roundw
        case rel => exact ⟨k + 1, by omega, by go_num, by rw [HN.out], HR1, HB1⟩
        case measure => simp [intOf]; omega
      · have hk00 : k = 0 := by omega
        have HFK : Hid (F k = []) := by show _ = _; rw [hk00]; exact HF0.out
        rw [if_pos hk00] at hJ
        have HN := hid hJ
        have a2 := asS_app (F k) D
        have hz2 : (asS (F k)).size ≤ 84 := by rw [asS_size]; exact hsF
        clear hJ hk00
        go_wp2_with fail
        refine (HD.out _).mono ?_
        rintro e W1 ⟨rfl, hb1⟩
        have HR1 : Hid (W1.heap[w.heap.size]? = some (.cells X 24 (0, 0))) := (hb1.block _ hxl).trans HR.out
        have HB1 : Hid (Below w.heap.size w W1) := HB.out.trans (hb1.mono hsz)
        clear hb1 hc
        go_wp2_with fail
        go_roundw
        case rel => exact ⟨k + 1, by omega, by go_num, by rw [HN.out, HFK.out]; rfl, HR1, HB1⟩
        case measure => simp [intOf]; omega
    · have hk' : k = 4 := by omega
      subst hk'
      go_wp2_with fail
      go_ret
      exact ⟨rfl, HB.out⟩
end Go.Proofs.YtocdjgehjiolhaaGreatDoor
