
/- What the law's own form does: a number, written in one of three ways. -/
import Derived.Test.YtggjblnbjigjmaaDoorIpRefLo
import Derived.BigQuiet
namespace Go.Proofs.YtggjblnbjigjmaaDoor
open Go.RowKit

theorem digsF_fuel (base : Nat) (hb : 2 ≤ base) : ∀ f n, n < base ^ (f + 1) → digsF base (f + 2) n = digsF base (f + 1) n
  | 0, n, h => by
    rw [Nat.zero_add, Nat.pow_one] at h
    rw [digsF, if_pos h, digsF, if_pos h]
  | f + 1, n, h => by
    rw [digsF]
    conv => rhs; rw [digsF]
    split
    · rfl
    · rw [digsF_fuel base hb f (n / base) (by rw [Nat.div_lt_iff_lt_mul (by omega)]; rw [Nat.pow_succ] at h; exact h)]
theorem digs_step (base n : Nat) (hb : 2 ≤ base) (h1 : base ≤ n) (h : n < base ^ 20) : digs base n = digs base (n / base) ++ [dch (n % base)] := by
  have e : digsF base 20 (n / base) = digsF base 19 (n / base) := digsF_fuel base hb 18 (n / base) (by
    rw [Nat.div_lt_iff_lt_mul (by omega)]; rw [Nat.pow_succ] at h; exact h)
  unfold digs
  rw [e]
  rw [digsF, if_neg (by omega)]
theorem digs_one (base n : Nat) (h : n < base) : digs base n = [dch n] := by
  unfold digs; rw [digsF, if_pos h]
/-- What is written and what is still to be written. -/
def Wri (base n k : Nat) (x : List UInt8) : Prop := (x = [] ∧ k = n) ∨ (x ≠ [] ∧ ((k = 0 ∧ x = digs base n) ∨ (0 < k ∧ digs base k ++ x = digs base n)))
theorem Wri.next {base n k : Nat} {x : List UInt8} (hb : 2 ≤ base) (hk : k < base ^ 20) (h : Wri base n k x) (hc : 0 < k ∨ x = []) : Wri base n (k / base) (dch (k % base) :: x) := by
  have h1 : digs base k ++ x = digs base n := by
    rcases h with ⟨rfl, rfl⟩ | ⟨hx, h | h⟩
    · simp
    · rcases hc with hc | hc
      · omega
      · exact absurd hc hx
    · exact h.2
  refine Or.inr ⟨by simp, ?_⟩
  by_cases hlt : k < base
  · left
    refine ⟨Nat.div_eq_of_lt hlt, ?_⟩
    rw [← h1, digs_one base k hlt, Nat.mod_eq_of_lt hlt]; rfl
  · right
    refine ⟨Nat.div_pos (by omega) (by omega), ?_⟩
    rw [← h1, digs_step base k hb (by omega) hk, List.append_assoc]; rfl
theorem Wri.short {base n k : Nat} {x : List UInt8} (h : Wri base n k x) : x.length ≤ 20 := by
  have hd := digs_short base n
  rcases h with ⟨rfl, _⟩ | ⟨_, ⟨_, h⟩ | ⟨_, h⟩⟩
  · simp
  · rw [h]; exact hd
  · rw [← h, List.length_append] at hd; omega
theorem Wri.done {base n k : Nat} {x : List UInt8} (h : Wri base n k x) (hk : k = 0) (hx : x ≠ []) : x = digs base n := by
  rcases h with ⟨rfl, _⟩ | ⟨_, ⟨_, h⟩ | ⟨h, _⟩⟩
  · exact absurd rfl hx
  · exact h
  · omega
theorem lit_fin : ∀ r : Fin 16, (⟨#[48, 49, 50, 51, 52, 53, 54, 55, 56, 57, 97, 98, 99, 100, 101, 102]⟩ : ByteArray).extract r.val (r.val + 1) = asS [dch r.val] := by decide +kernel
theorem lit_at (r : Nat) (h : r < 16) : (⟨#[48, 49, 50, 51, 52, 53, 54, 55, 56, 57, 97, 98, 99, 100, 101, 102]⟩ : ByteArray).extract r (r + 1) = asS [dch r] := lit_fin ⟨r, h⟩
theorem slice_lit (r : Nat) (h : r < 16) (W : World) : (Instr.slice 9 (.string ⟨#[48, 49, 50, 51, 52, 53, 54, 55, 56, 57, 97, 98, 99, 100, 101, 102]⟩) (some (.int .u64 (r : Int))) (some (.int .u64 ((r : Int) + 1))) none).run Tryd.prog W = .ok (.string (asS [dch r])) W := by
  rcases (show r = 0 ∨ r = 1 ∨ r = 2 ∨ r = 3 ∨ r = 4 ∨ r = 5 ∨ r = 6 ∨ r = 7 ∨ r = 8 ∨ r = 9 ∨ r = 10 ∨ r = 11 ∨ r = 12 ∨ r = 13 ∨ r = 14 ∨ r = 15 by omega) with rfl | rfl | rfl | rfl | rfl | rfl | rfl | rfl | rfl | rfl | rfl | rfl | rfl | rfl | rfl | rfl <;> kernel_rfl
theorem asS_app (x y : List UInt8) : asS x ++ asS y = asS (x ++ y) := by
  apply ByteArray.ext
  apply Array.ext'
  rw [ByteArray.data_append, Array.toList_append]
  rfl
def meF (sv kv : Value) : Nat := (intOf kv).toNat + (match sv with
  | .string b => if b.size = 0 then 1 else 0
  | _ => 0)

set_option maxHeartbeats 2000000 in
theorem form_8 (c : UInt8) (hc : (c.toNat : Int) % 3 = 1) (n : Nat) (hn : n < 4294967296) (w : World) : Calls Tryd.prog 24 #[.int .u64 n, .int .u8 c.toNat] w fun e w' => e = .returned (.string (asS (48 :: digs 8 n))) ∧ Below w.heap.size w w' := by
  have h20 : 4294967296 ≤ 8 ^ 20 := by decide
  have H20 := hid h20
  clear h20
  go_enter Tryd.func24, Tryd.ntmps24
  go_wp2_with fail
  clear hc
  go_loopw [6, 7] (fun sv kv wx => ∃ (k : Nat) (x : List UInt8), sv = .string (asS x) ∧ kv = .int .u64 (k : Int) ∧ k < 4294967296 ∧ Hid (Wri 8 n k x) ∧ Hid (Below w.heap.size w wx)) (fun sv kv _ => meF sv kv)
  case atStart => exact ⟨n, [], rfl, rfl, hn, Or.inl ⟨rfl, rfl⟩, Below.refl _ _⟩
  case round =>
    obtain ⟨k, x, rfl, rfl, hk, HW, HB⟩ := hrel
    have hxs := HW.out.short
    have hxz : (asS x).size ≤ 20 := by rw [asS_size]; exact hxs
    have go : 0 < k ∨ x = [] → Hid (Wri 8 n (k / 8) (dch (k % 8) :: x)) := fun h => HW.out.next (by omega) (Nat.lt_of_lt_of_le hk H20.out) h
    have hlit := fun W => slice_lit (k % 8) (by omega) W
    have happ := asS_app [dch (k % 8)] x
    have hone : (asS [dch (k % 8)]).size = 1 := rfl
    have hmr : (k : Int).tmod 8 = ((k % 8 : Nat) : Int) := by rw [Int.tmod_eq_emod_of_nonneg (by omega)]; omega
    obtain ⟨r, hr⟩ : ∃ r, r = k % 8 := ⟨_, rfl⟩
    rw [← hr] at hlit happ hone hmr go
    have hrl : r < 8 := by omega
    have hw64 : IntKind.u64.wrap ((r : Int) + 1) = (r : Int) + 1 := by rw [IntKind.wrap_u64]; omega
    have HRE := hid hr
    clear hr
    by_cases hc : 0 < k ∨ x = []
    · have HN := go hc
      clear go
      have hx2 : Hid (meF (.string (asS (dch r :: x))) (.int .u64 ((k / 8 : Nat) : Int)) < meF (.string (asS x)) (.int .u64 (k : Int))) := by
        show _ < _
        unfold meF
        simp only [intOf, asS_size, Int.toNat_natCast, List.length_cons]
        rcases hc with h | h
        · rw [if_neg (by omega)]; split <;> omega
        · rw [h]; simp; omega
      have hgo : ∀ (K : Prop), K → K := fun _ h => h
      by_cases hk0 : (0 : Int) < (k : Int)
      · clear hc hgo
        go_wp2_with fail
        go_quiet (fail)
        go_wp2_with fail
        go_roundw
        case rel => exact ⟨k / 8, dch r :: x, rfl, by go_num, by omega, HN, HB.out.trans (below_drewN _ _ _)⟩
        case measure => exact hx2.out
      · have hxe : (asS x).toList.isEmpty = true := by
          rw [empty_iff, asS_size]
          rcases hc with h | h
          · omega
          · simp [h]
        have hk00 : k = 0 := by omega
        subst hk00
        have hr0 : r = 0 := by rw [HRE.out]
        subst hr0
        have HN' : Hid (Wri 8 n 0 (dch 0 :: x)) := by have := HN.out; rw [Nat.zero_div] at this; exact this
        have hx3 : Hid (meF (.string (asS (dch 0 :: x))) (.int .u64 0) < meF (.string (asS x)) (.int .u64 0)) := by have := hx2.out; rw [Nat.zero_div] at this; exact this
        have hlit' := lit_at 0 (by omega)
        clear hc hgo hlit hmr hw64 HN hx2
        go_wp2_with fail
        go_quiet (fail)
        go_wp2_with fail
        go_roundw
        case rel => exact ⟨0, dch 0 :: x, rfl, by go_num, by omega, HN', HB.out.trans (below_drewN _ _ _)⟩
        case measure => exact hx3.out
    · have hk0 : k = 0 := by omega
      have hxn : x ≠ [] := fun h => hc (Or.inr h)
      have HD := hid (HW.out.done hk0 hxn)
      have hxe : (asS x).toList.isEmpty = false := by
        rw [empty_iff, asS_size]
        have := List.length_pos_iff.2 hxn
        simp; omega
      subst hk0
      clear hc go hlit happ hone hmr
      go_wp2_with fail
      go_ret
      refine ⟨?_, HB.out⟩
      rw [← HD.out]; rfl

set_option maxHeartbeats 2000000 in
theorem form_16 (c : UInt8) (hc : (c.toNat : Int) % 3 = 2) (n : Nat) (hn : n < 4294967296) (w : World) : Calls Tryd.prog 24 #[.int .u64 n, .int .u8 c.toNat] w fun e w' => e = .returned (.string (asS (48 :: 120 :: digs 16 n))) ∧ Below w.heap.size w w' := by
  have h20 : 4294967296 ≤ 16 ^ 20 := by decide
  have H20 := hid h20
  clear h20
  go_enter Tryd.func24, Tryd.ntmps24
  go_wp2_with fail
  clear hc
  go_loopw [6, 7] (fun sv kv wx => ∃ (k : Nat) (x : List UInt8), sv = .string (asS x) ∧ kv = .int .u64 (k : Int) ∧ k < 4294967296 ∧ Hid (Wri 16 n k x) ∧ Hid (Below w.heap.size w wx)) (fun sv kv _ => meF sv kv)
  case atStart => exact ⟨n, [], rfl, rfl, hn, Or.inl ⟨rfl, rfl⟩, Below.refl _ _⟩
  case round =>
    obtain ⟨k, x, rfl, rfl, hk, HW, HB⟩ := hrel
    have hxs := HW.out.short
    have hxz : (asS x).size ≤ 20 := by rw [asS_size]; exact hxs
    have go : 0 < k ∨ x = [] → Hid (Wri 16 n (k / 16) (dch (k % 16) :: x)) := fun h => HW.out.next (by omega) (Nat.lt_of_lt_of_le hk H20.out) h
    have hlit := fun W => slice_lit (k % 16) (by omega) W
    have happ := asS_app [dch (k % 16)] x
    have hone : (asS [dch (k % 16)]).size = 1 := rfl
    have hmr : (k : Int).tmod 16 = ((k % 16 : Nat) : Int) := by rw [Int.tmod_eq_emod_of_nonneg (by omega)]; omega
    obtain ⟨r, hr⟩ : ∃ r, r = k % 16 := ⟨_, rfl⟩
    rw [← hr] at hlit happ hone hmr go
    have hrl : r < 16 := by omega
    have hw64 : IntKind.u64.wrap ((r : Int) + 1) = (r : Int) + 1 := by rw [IntKind.wrap_u64]; omega
    have HRE := hid hr
    clear hr
    by_cases hc : 0 < k ∨ x = []
    · have HN := go hc
      clear go
      have hx2 : Hid (meF (.string (asS (dch r :: x))) (.int .u64 ((k / 16 : Nat) : Int)) < meF (.string (asS x)) (.int .u64 (k : Int))) := by
        show _ < _
        unfold meF
        simp only [intOf, asS_size, Int.toNat_natCast, List.length_cons]
        rcases hc with h | h
        · rw [if_neg (by omega)]; split <;> omega
        · rw [h]; simp; omega
      have hgo : ∀ (K : Prop), K → K := fun _ h => h
      by_cases hk0 : (0 : Int) < (k : Int)
      · clear hc hgo
        go_wp2_with fail
        go_quiet (fail)
        go_wp2_with fail
        go_roundw
        case rel => exact ⟨k / 16, dch r :: x, rfl, by go_num, by omega, HN, HB.out.trans (below_drewN _ _ _)⟩
        case measure => exact hx2.out
      · have hxe : (asS x).toList.isEmpty = true := by
          rw [empty_iff, asS_size]
          rcases hc with h | h
          · omega
          · simp [h]
        have hk00 : k = 0 := by omega
        subst hk00
        have hr0 : r = 0 := by rw [HRE.out]
        subst hr0
        have HN' : Hid (Wri 16 n 0 (dch 0 :: x)) := by have := HN.out; rw [Nat.zero_div] at this; exact this
        have hx3 : Hid (meF (.string (asS (dch 0 :: x))) (.int .u64 0) < meF (.string (asS x)) (.int .u64 0)) := by have := hx2.out; rw [Nat.zero_div] at this; exact this
        have hlit' := lit_at 0 (by omega)
        clear hc hgo hlit hmr hw64 HN hx2
        go_wp2_with fail
        go_quiet (fail)
        go_wp2_with fail
        go_roundw
        case rel => exact ⟨0, dch 0 :: x, rfl, by go_num, by omega, HN', HB.out.trans (below_drewN _ _ _)⟩
        case measure => exact hx3.out
    · have hk0 : k = 0 := by omega
      have hxn : x ≠ [] := fun h => hc (Or.inr h)
      have HD := hid (HW.out.done hk0 hxn)
      have hxe : (asS x).toList.isEmpty = false := by
        rw [empty_iff, asS_size]
        have := List.length_pos_iff.2 hxn
        simp; omega
      subst hk0
      clear hc go hlit happ hone hmr
      go_wp2_with fail
      go_ret
      refine ⟨?_, HB.out⟩
      rw [← HD.out]; rfl

set_option maxHeartbeats 2000000 in
theorem form_10 (c : UInt8) (hc : (c.toNat : Int) % 3 = 0) (n : Nat) (hn : n < 4294967296) (w : World) : Calls Tryd.prog 24 #[.int .u64 n, .int .u8 c.toNat] w fun e w' => e = .returned (.string (asS (digs 10 n))) ∧ Below w.heap.size w w' := by
  have h20 : 4294967296 ≤ 10 ^ 20 := by decide
  have H20 := hid h20
  clear h20
  go_enter Tryd.func24, Tryd.ntmps24
  go_wp2_with fail
  clear hc
  go_loopw [6, 7] (fun sv kv wx => ∃ (k : Nat) (x : List UInt8), sv = .string (asS x) ∧ kv = .int .u64 (k : Int) ∧ k < 4294967296 ∧ Hid (Wri 10 n k x) ∧ Hid (Below w.heap.size w wx)) (fun sv kv _ => meF sv kv)
  case atStart => exact ⟨n, [], rfl, rfl, hn, Or.inl ⟨rfl, rfl⟩, Below.refl _ _⟩
  case round =>
    obtain ⟨k, x, rfl, rfl, hk, HW, HB⟩ := hrel
    have hxs := HW.out.short
    have hxz : (asS x).size ≤ 20 := by rw [asS_size]; exact hxs
    have go : 0 < k ∨ x = [] → Hid (Wri 10 n (k / 10) (dch (k % 10) :: x)) := fun h => HW.out.next (by omega) (Nat.lt_of_lt_of_le hk H20.out) h
    have hlit := fun W => slice_lit (k % 10) (by omega) W
    have happ := asS_app [dch (k % 10)] x
    have hone : (asS [dch (k % 10)]).size = 1 := rfl
    have hmr : (k : Int).tmod 10 = ((k % 10 : Nat) : Int) := by rw [Int.tmod_eq_emod_of_nonneg (by omega)]; omega
    obtain ⟨r, hr⟩ : ∃ r, r = k % 10 := ⟨_, rfl⟩
    rw [← hr] at hlit happ hone hmr go
    have hrl : r < 10 := by omega
    have hw64 : IntKind.u64.wrap ((r : Int) + 1) = (r : Int) + 1 := by rw [IntKind.wrap_u64]; omega
    have HRE := hid hr
    clear hr
    by_cases hc : 0 < k ∨ x = []
    · have HN := go hc
      clear go
      have hx2 : Hid (meF (.string (asS (dch r :: x))) (.int .u64 ((k / 10 : Nat) : Int)) < meF (.string (asS x)) (.int .u64 (k : Int))) := by
        show _ < _
        unfold meF
        simp only [intOf, asS_size, Int.toNat_natCast, List.length_cons]
        rcases hc with h | h
        · rw [if_neg (by omega)]; split <;> omega
        · rw [h]; simp; omega
      have hgo : ∀ (K : Prop), K → K := fun _ h => h
      by_cases hk0 : (0 : Int) < (k : Int)
      · clear hc hgo
        go_wp2_with fail
        go_quiet (fail)
        go_wp2_with fail
        go_roundw
        case rel => exact ⟨k / 10, dch r :: x, rfl, by go_num, by omega, HN, HB.out.trans (below_drewN _ _ _)⟩
        case measure => exact hx2.out
      · have hxe : (asS x).toList.isEmpty = true := by
          rw [empty_iff, asS_size]
          rcases hc with h | h
          · omega
          · simp [h]
        have hk00 : k = 0 := by omega
        subst hk00
        have hr0 : r = 0 := by rw [HRE.out]
        subst hr0
        have HN' : Hid (Wri 10 n 0 (dch 0 :: x)) := by have := HN.out; rw [Nat.zero_div] at this; exact this
        have hx3 : Hid (meF (.string (asS (dch 0 :: x))) (.int .u64 0) < meF (.string (asS x)) (.int .u64 0)) := by have := hx2.out; rw [Nat.zero_div] at this; exact this
        have hlit' := lit_at 0 (by omega)
        clear hc hgo hlit hmr hw64 HN hx2
        go_wp2_with fail
        go_quiet (fail)
        go_wp2_with fail
        go_roundw
        case rel => exact ⟨0, dch 0 :: x, rfl, by go_num, by omega, HN', HB.out.trans (below_drewN _ _ _)⟩
        case measure => exact hx3.out
    · have hk0 : k = 0 := by omega
      have hxn : x ≠ [] := fun h => hc (Or.inr h)
      have HD := hid (HW.out.done hk0 hxn)
      have hxe : (asS x).toList.isEmpty = false := by
        rw [empty_iff, asS_size]
        have := List.length_pos_iff.2 hxn
        simp; omega
      subst hk0
      clear hc go hlit happ hone hmr
      go_wp2_with fail
      go_ret
      refine ⟨?_, HB.out⟩
      rw [← HD.out]; rfl

theorem form_any (c : UInt8) (n : Nat) (hn : n < 4294967296) (w : World) : Calls Tryd.prog 24 #[.int .u64 n, .int .u8 c.toNat] w fun e w' => e = .returned (.string (asS (formB c.toNat n))) ∧ Below w.heap.size w w' := by
  rcases (show c.toNat % 3 = 1 ∨ c.toNat % 3 = 2 ∨ c.toNat % 3 = 0 by omega) with h | h | h
  · have := form_8 c (by omega) n hn w
    unfold formB; rw [if_pos h]; exact this
  · have := form_16 c (by omega) n hn w
    unfold formB; rw [if_neg (by omega), if_pos h]; exact this
  · have := form_10 c (by omega) n hn w
    unfold formB; rw [if_neg (by omega), if_neg (by omega)]; exact this
end Go.Proofs.YtggjblnbjigjmaaDoor
