
/- What ip.looseNumber does. -/
import Derived.Test.YtggjblnbjigjmaaDoorIpTab
namespace Go.Proofs.YtggjblnbjigjmaaDoor
open Go.RowKit

def pV (e : Nat) (x : List UInt8) : Nat := if partOk e x then (partA x).toNat else 0
theorem part_of (e : Nat) (he : e ≤ 4294967296) (x y : List UInt8) (base : Nat) (hy : y ≠ []) (h : partA x = num base y) : partOk e x = numOk base e y ∧ pV e x = numV base e y := by
  have h1 : partOk e x = numOk base e y := by unfold partOk; rw [numOk_iff base e y hy he, h]
  refine ⟨h1, ?_⟩
  unfold pV numV
  rw [h1]
  split
  · rename_i ho
    rw [h, (num_of_ok base e y hy he ho).1]; rfl
  · rfl
theorem part_hexs (e : Nat) (he1 : 1 ≤ e) (he : e ≤ 4294967296) (c : UInt8) (hc : c = 120 ∨ c = 88) (r : List UInt8) : partOk e (48 :: c :: r) = numOk 16 e r ∧ pV e (48 :: c :: r) = numV 16 e r := by
  by_cases hr : r = []
  · subst hr
    have h0 := part_hex0 c hc
    have h1 : partOk e [48, c] = true := by unfold partOk; rw [h0]; simp; omega
    have h2 : numOk 16 e [] = true := by
      unfold numOk; rw [show valB 16 [] = 0 from rfl, List.all_nil, Bool.true_and, decide_eq_true_eq]; omega
    exact ⟨by rw [h1, h2], by unfold pV numV; rw [h1, h2, h0]; rfl⟩
  · exact part_of e he _ r 16 hr (part_hex c hc r hr)
theorem part_octs (e : Nat) (he1 : 1 ≤ e) (he : e ≤ 4294967296) (r : List UInt8) (h : r.headD 0 ≠ 120 ∧ r.headD 0 ≠ 88) : partOk e (48 :: r) = numOk 8 e (48 :: r) ∧ pV e (48 :: r) = numV 8 e (48 :: r) := by
  by_cases hr : r = []
  · subst hr
    have h1 : partOk e [48] = true := by unfold partOk; rw [part_zero]; simp; omega
    have h0 : valB 8 [48] = 0 := by decide
    have h2 : numOk 8 e [48] = true := by
      unfold numOk; rw [h0]
      have : dig 48 < 8 := by decide
      simp [this]; omega
    exact ⟨by rw [h1, h2], by unfold pV numV; rw [h1, h2, part_zero, h0]; rfl⟩
  · exact part_of e he _ _ 8 (by simp) (part_oct r hr h)
theorem drop2_size (s : ByteArray) : (s.extract 2 s.size).size ≤ s.size := by simp
theorem list_two (s : ByteArray) (h : 2 ≤ s.size) : s.data.toList = s[0] :: s[1] :: (s.extract 2 s.size).data.toList := by
  rw [drop2]
  have e0 := byte_at s 0 (by omega)
  have e1 := byte_at s 1 (by omega)
  have hl : s.data.toList.length = s.size := (Lib.size_eq s).symm
  cases hq : s.data.toList with
  | nil => rw [hq] at hl; simp at hl; omega
  | cons a r =>
    cases r with
    | nil => rw [hq] at hl; simp at hl; omega
    | cons b t => rw [hq] at e0 e1; simp at e0 e1; simp [e0, e1]

set_option maxHeartbeats 2000000 in
theorem looseN_any (s : ByteArray) (e : Nat) (w : World) (hs : s.size ≤ 1000000) (he1 : 1 ≤ e) (he : e ≤ 4294967296) :
    Calls Tryd.prog 33 #[.string s, .int .u64 e] w fun r w' => r = .returned (.tuple #[.int .u64 (pV e s.data.toList), .bool (partOk e s.data.toList)]) ∧ w' = w := by
  by_cases h0 : s.size = 0
  · have he0 : s.toList.isEmpty = true := by rw [empty_iff]; simpa using h0
    have HL := hid (list_nil s h0)
    clear h0
    go_enter Tryd.func33, Tryd.ntmps33
    go_wp2
    go_ret2
    refine ⟨?_, rfl⟩
    rw [HL.out]
    have : partOk e [] = false := by unfold partOk; rw [part_nil]; simp
    rw [pV, this]; rfl
  have he0 : s.toList.isEmpty = false := by rw [empty_iff]; simpa using h0
  have hpos : 0 < s.size := by omega
  have HL := hid (list_ne s h0)
  clear h0
  have hN : ∀ (x : ByteArray) (base : Nat) (v : Nat) (o : Bool), x.size ≤ 1000000 → 1 ≤ base → base ≤ 16 → v = numV base e x.data.toList → o = numOk base e x.data.toList → ∀ w, Calls Tryd.prog 53 #[.string x, .int .u64 base, .int .u64 e] w fun r w' => r = .returned (.tuple #[.int .u64 v, .bool o]) ∧ w' = w := by
    intro x base v o h1 h2 h3 h4 h5 w
    rw [h4, h5]
    exact number_any x base e w h1 h2 h3 he1 he
  obtain ⟨v, hv⟩ : ∃ v, v = pV e s.data.toList := ⟨_, rfl⟩
  obtain ⟨o, ho⟩ : ∃ o, o = partOk e s.data.toList := ⟨_, rfl⟩
  rw [← hv, ← ho]
  by_cases hx : Lib.hasPrefix s.data.toList [48, 120] = true
  · have hz : ∃ r, s.data.toList = 48 :: 120 :: r := by
      unfold Lib.hasPrefix at hx
      obtain ⟨r, hr⟩ := List.isPrefixOf_iff_prefix.1 hx
      exact ⟨r, by rw [← hr]; rfl⟩
    obtain ⟨r, hr⟩ := hz
    have h2 : 2 ≤ s.size := by rw [Lib.size_eq, hr]; simp
    have hd : (s.extract 2 s.size).data.toList = r := by rw [drop2, hr]; rfl
    have hC := hN (s.extract 2 s.size) 16 v o (by have := drop2_size s; omega) (by omega) (by omega) (by rw [hv, hd, hr]; exact (part_hexs e he1 he 120 (Or.inl rfl) r).2) (by rw [ho, hd, hr]; exact (part_hexs e he1 he 120 (Or.inl rfl) r).1)
    have h2' : (2 : Int) ≤ (s.size : Int) := by omega
    clear hN hr hd hv ho
    go_enter Tryd.func33, Tryd.ntmps33
    go_wp2_with (first
      | (go_at_call 52; refine (Tryd.strings_HasPrefix _ _ _).mono ?_; rintro r w' ⟨rfl, rfl⟩)
      | (go_at_call 53; refine (hC _).mono ?_; rintro r w' ⟨rfl, rfl⟩))
    go_ret2
    exact ⟨rfl, rfl⟩
  have hx' : Lib.hasPrefix s.data.toList [48, 120] = false := by simpa using hx
  by_cases hX : Lib.hasPrefix s.data.toList [48, 88] = true
  · have hz : ∃ r, s.data.toList = 48 :: 88 :: r := by
      unfold Lib.hasPrefix at hX
      obtain ⟨r, hr⟩ := List.isPrefixOf_iff_prefix.1 hX
      exact ⟨r, by rw [← hr]; rfl⟩
    obtain ⟨r, hr⟩ := hz
    have h2 : 2 ≤ s.size := by rw [Lib.size_eq, hr]; simp
    have hd : (s.extract 2 s.size).data.toList = r := by rw [drop2, hr]; rfl
    have hC := hN (s.extract 2 s.size) 16 v o (by have := drop2_size s; omega) (by omega) (by omega) (by rw [hv, hd, hr]; exact (part_hexs e he1 he 88 (Or.inr rfl) r).2) (by rw [ho, hd, hr]; exact (part_hexs e he1 he 88 (Or.inr rfl) r).1)
    have h2' : (2 : Int) ≤ (s.size : Int) := by omega
    clear hN hr hd hv ho hx
    go_enter Tryd.func33, Tryd.ntmps33
    go_wp2_with (first
      | (go_at_call 52; refine (Tryd.strings_HasPrefix _ _ _).mono ?_; rintro r w' ⟨rfl, rfl⟩)
      | (go_at_call 53; refine (hC _).mono ?_; rintro r w' ⟨rfl, rfl⟩))
    go_ret2
    exact ⟨rfl, rfl⟩
  have hX' : Lib.hasPrefix s.data.toList [48, 88] = false := by simpa using hX
  have HH := hid (head_at s hpos)
  obtain ⟨c, r, hr⟩ : ∃ c r, s.data.toList = c :: r := by
    cases hq : s.data.toList with
    | nil => exact absurd hq HL.out
    | cons c r => exact ⟨c, r, rfl⟩
  have hc : c = s[0] := by have := HH.out; rw [hr] at this; exact this
  by_cases h48 : ((s[0].toNat : Nat) : Int) = 48
  · have e48 : c = 48 := by rw [hc]; exact UInt8.toNat_inj.1 (by simpa using (by omega : s[0].toNat = 48))
    have hh : r.headD 0 ≠ 120 ∧ r.headD 0 ≠ 88 := by
      rw [hr, e48] at hx' hX'
      cases r with
      | nil => exact ⟨by decide, by decide⟩
      | cons d t =>
        simp only [Lib.hasPrefix, List.isPrefixOf, List.headD_cons] at hx' hX' ⊢
        constructor
        · rintro rfl; simp at hx'
        · rintro rfl; simp at hX'
    have hC := hN s 8 v o hs (by omega) (by omega) (by rw [hv, hr, e48]; exact (part_octs e he1 he r hh).2) (by rw [ho, hr, e48]; exact (part_octs e he1 he r hh).1)
    clear hN hr hv ho hx hX hc e48 hh
    go_enter Tryd.func33, Tryd.ntmps33
    go_wp2_with (first
      | (go_at_call 52; refine (Tryd.strings_HasPrefix _ _ _).mono ?_; rintro r w' ⟨rfl, rfl⟩)
      | (go_at_call 53; refine (hC _).mono ?_; rintro r w' ⟨rfl, rfl⟩))
    go_ret2
    exact ⟨rfl, rfl⟩
  · have n48 : c ≠ 48 := fun h => h48 (by rw [← hc, h]; rfl)
    have hP := part_of e he s.data.toList s.data.toList 10 HL.out (by rw [hr]; exact part_dec c r n48)
    have hC := hN s 10 v o hs (by omega) (by omega) (by rw [hv]; exact hP.2) (by rw [ho]; exact hP.1)
    clear hN hr hv ho hx hX hc n48 hP
    go_enter Tryd.func33, Tryd.ntmps33
    go_wp2_with (first
      | (go_at_call 52; refine (Tryd.strings_HasPrefix _ _ _).mono ?_; rintro r w' ⟨rfl, rfl⟩)
      | (go_at_call 53; refine (hC _).mono ?_; rintro r w' ⟨rfl, rfl⟩))
    go_ret2
    exact ⟨rfl, rfl⟩
end Go.Proofs.YtggjblnbjigjmaaDoor
