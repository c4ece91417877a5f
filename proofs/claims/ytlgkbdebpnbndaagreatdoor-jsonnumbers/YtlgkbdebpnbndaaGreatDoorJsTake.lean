
/- The reader: so many bytes, the count, how many stand for themselves, digits. -/
import Derived.Test.YtlgkbdebpnbndaaGreatDoorJsRead
namespace Go.Proofs.YtlgkbdebpnbndaaGreatDoor
set_option linter.unusedVariables false
set_option linter.unusedSimpArgs false
open Go.RowKit Go.BigFrame
attribute [local go_sem ↓] mkErr

theorem ext_take (l : List UInt8) (k : Nat) (hk : k ≤ l.length) : (asS l).extract 0 k = asS (l.take k) := by
  rw [ext_asS, asS_data]
  simp
theorem ext_drop (l : List UInt8) (k : Nat) : (asS l).extract k (asS l).size = asS (l.drop k) := by
  rw [ext_asS, asS_data, asS_size]
  congr 1
  rw [List.take_of_length_le]
  rw [List.length_drop]
  exact Nat.le_refl _
set_option maxHeartbeats 2000000 in
set_option maxRecDepth 100000 in
theorem take_ok (l : List UInt8) (n d R k : Nat) (h1 : 1 ≤ k) (h2 : k ≤ l.length) (h3 : l.length ≤ 1000000) (w : World) (h : Rj w R l n d) : Calls Tryz.prog 110 #[.pointer (some ⟨R, 0, none⟩), .int .i64 k] w fun e w' => e = .returned (.string (asS (l.take k))) ∧ Rj w' R (l.drop k) n d ∧ Only R w w' := by
  have HR := hid h
  obtain ⟨c0, _⟩ := h.cells
  have hz : (asS l).size = l.length := asS_size l
  have E1 := hid (ext_take l k h2)
  have E2 := hid (ext_drop l k)
  clear h
  unfold Rj at HR ⊢
  generalize asS l = L at HR c0 hz E1 E2
  generalize asS (l.take k) = T at E1 ⊢
  generalize asS (l.drop k) = D at E2 ⊢
  have q1 : ¬ (k : Int) < 1 := by omega
  have q2 : ¬ (L.size : Int) < (k : Int) := by omega
  have q3 : (0 : Int) ≤ (k : Int) := by omega
  have q4 : (k : Int) ≤ (L.size : Int) := by omega
  clear hz h1 h2 h3
  go_enter Tryz.func110, Tryz.ntmps110
  go_wp2_with (first
    | (refine store_part rfl 9 _ _ rfl R 0 (.string (L.extract k L.size)) _ _ #[.string (L.extract k L.size), .int .i64 n, .int .i64 d] rfl rfl info9j (by simp) rfl rfl HR.out rfl ?_; intro W1 ho hr; have HO := hid ho; have HR1 := hid hr; clear ho hr)
    | fail)
  rw [E1.out]
  rw [E2.out] at HR1
  go_ret
  exact ⟨rfl, HR1.out, HO.out⟩
set_option maxHeartbeats 2000000 in
set_option maxRecDepth 100000 in
theorem take_none (l : List UInt8) (n d R : Nat) (w : World) (h : Rj w R l n d) : Calls Tryz.prog 110 #[.pointer (some ⟨R, 0, none⟩), .int .i64 0] w fun e w' => e = dieJ 5 ∧ w' = w := by
  have HR := hid h
  clear h
  go_enter Tryz.func110, Tryz.ntmps110
  go_wp2_with fail
  exact ⟨rfl, rfl, rfl⟩
set_option maxHeartbeats 2000000 in
set_option maxRecDepth 100000 in
theorem take_no (l : List UInt8) (n d R k : Nat) (h2 : l.length < k) (h3 : l.length ≤ 1000000) (w : World) (h : Rj w R l n d) : Calls Tryz.prog 110 #[.pointer (some ⟨R, 0, none⟩), .int .i64 k] w fun e w' => e = dieJ 5 ∧ w' = w := by
  obtain ⟨c0, _⟩ := h.cells
  have hz : (asS l).size = l.length := asS_size l
  clear h
  generalize asS l = L at c0 hz
  have q1 : ¬ (k : Int) < 1 := by omega
  have q2 : (L.size : Int) < (k : Int) := by omega
  clear hz h2 h3
  go_enter Tryz.func110, Tryz.ntmps110
  go_wp2_with fail
  exact ⟨rfl, rfl, rfl⟩
/-! The count. -/
theorem index_neg : ∀ (l : List UInt8) (c : UInt8), (Lib.indexByte l c < 0) ↔ l.contains c = false
  | [], c => by simp [Lib.indexByte]
  | a :: r, c => by
    have ih := index_neg r c
    rw [Lib.indexByte, List.contains_cons]
    by_cases h : a = c
    · subst h
      simp
    · have h2 : (c == a) = false := by rw [beq_eq_false_iff_ne]; exact fun e => h e.symm
      rw [h2, Bool.false_or, ← ih]
      simp only [h, beq_iff_eq, if_false]
      split <;> omega
theorem beg_any (c : UInt8) (w : World) : Calls Tryz.prog 105 #[.string ⟨#[110, 116, 102, 45, 48, 49, 50, 51, 52, 53, 54, 55, 56, 57, 34, 91, 123]⟩, .int .u8 (c.toNat : Nat)] w fun e w' => ∃ i : Int, e = .returned (.int .i64 i) ∧ decide (i < 0) = (!begJ c) ∧ w' = w := by
  refine (Tryz.strings_IndexByte ⟨#[110, 116, 102, 45, 48, 49, 50, 51, 52, 53, 54, 55, 56, 57, 34, 91, 123]⟩ (c.toNat : Nat) w).mono ?_
  rintro e w' ⟨rfl, rfl⟩
  refine ⟨_, rfl, ?_, rfl⟩
  have e1 : ((c.toNat : Nat) : Int).toNat.toUInt8 = c := by
    rw [Int.toNat_natCast]
    exact UInt8.ofNat_toNat
  rw [e1]
  have h := index_neg [110, 116, 102, 45, 48, 49, 50, 51, 52, 53, 54, 55, 56, 57, 34, 91, 123] c
  have e2 : (ByteArray.mk #[110, 116, 102, 45, 48, 49, 50, 51, 52, 53, 54, 55, 56, 57, 34, 91, 123]).data.toList = [110, 116, 102, 45, 48, 49, 50, 51, 52, 53, 54, 55, 56, 57, 34, 91, 123] := rfl
  rw [e2]
  unfold begJ
  cases hb : ([110, 116, 102, 45, 48, 49, 50, 51, 52, 53, 54, 55, 56, 57, 34, 91, 123] : List UInt8).contains c with
  | true =>
    rw [hb] at h
    exact decide_eq_false (fun hh => by have := h.1 hh; cases this)
  | false => exact decide_eq_true (h.2 hb)
set_option maxHeartbeats 2000000 in
set_option maxRecDepth 100000 in
theorem count_j (l : List UInt8) (n d R : Nat) (hn : n ≤ 8192) (w : World) (h : Rj w R l n d) : Calls Tryz.prog 87 #[.pointer (some ⟨R, 0, none⟩)] w fun e w' => (∀ m, cntJ l n = .ok m → e = .returned (.tuple #[]) ∧ Rj w' R l m d) ∧ (∀ k, cntJ l n = .error k → e = dieJ k) ∧ Only R w w' := by
  have HR := hid h
  obtain ⟨c0, c1, _⟩ := h.cells
  cases l with
  | nil =>
    have hq : ((asS []).toList == []) = true := by rw [tl_eq]; rfl
    have HX : Hid (cntJ [] n = .ok n) := rfl
    generalize asS [] = L at *
    clear h
    go_enter Tryz.func87, Tryz.ntmps87
    go_wp2_with fail
    refine ⟨by simp, _, results_none rfl _ _ _, fun m hm => ?_, fun k hk => ?_, ⟨rfl, rfl, rfl, rfl, fun _ _ => rfl⟩⟩
    · have h1 := HX.out
      rw [hm] at h1
      injection h1 with h1
      subst h1
      exact ⟨rfl, HR.out⟩
    · have h1 := HX.out
      rw [hk] at h1
      cases h1
  | cons c r =>
    have hq : ((asS (c :: r)).toList == []) = false := by rw [tl_eq]; simp
    have hz : (asS (c :: r)).size = r.length + 1 := asS_size _
    have hix : ∀ W, (Instr.index 9 (.string (asS (c :: r))) (.int .i64 0)).run Tryz.prog W = .ok (.int .u8 (c.toNat : Nat)) W := fun W => str_ix (asS (c :: r)) 0 (by rw [asS_size]; simp) W
    have HB := hid (beg_any c)
    have HRF := hid h
    unfold Rj at HR
    clear h
    generalize hL : asS (c :: r) = L at HR c0 hq hz hix
    have HL := hid hL
    clear hL
    go_enter Tryz.func87, Tryz.ntmps87
    by_cases hb : begJ c = true
    · have HX : Hid (cntJ (c :: r) n = if n + 1 ≤ 8192 then .ok (n + 1) else .error 3) := by
        show (if begJ c then _ else _) = _
        rw [if_pos hb]
      rw [hb] at HB
      have e1 : ((n + 1 : Nat) : Int) = (n : Int) + 1 := by omega
      by_cases hk : n + 1 ≤ 8192
      · have hk' : ¬ ((8192 : Int) < (n : Int) + 1) := by omega
        rw [if_pos hk] at HX
        clear hb hk
        go_wp2_with fail
        refine (HB.out w).mono ?_
        rintro e W ⟨i, rfl, hi, rfl⟩
        replace hi : ¬ i < 0 := by simpa using hi
        go_wp2_with (first
          | (refine store_part rfl 3 _ _ rfl R 1 (.int .i64 ((n : Int) + 1)) _ _ #[.string L, .int .i64 ((n : Int) + 1), .int .i64 d] rfl rfl info3j (by simp) rfl rfl HR.out rfl ?_; intro W1 ho hr; have c3 : W1.cell? ⟨R, 1, none⟩ = some (.int .i64 ((n : Int) + 1)) := cell_of_row _ _ _ _ _ _ hr; have HO := hid ho; have HR1 := hid hr; clear ho hr)
          | fail)
        refine ⟨by simp, _, results_none rfl _ _ _, fun m hm => ?_, fun k hk => ?_, HO.out⟩
        · have h1 := HX.out
          rw [hm] at h1
          injection h1 with h1
          subst h1
          refine ⟨rfl, ?_⟩
          unfold Rj
          rw [e1, HL.out]
          exact HR1.out
        · have h1 := HX.out
          rw [hk] at h1
          cases h1
      · have hk' : ((8192 : Int) < (n : Int) + 1) := by omega
        rw [if_neg hk] at HX
        clear hb hk
        go_wp2_with fail
        refine (HB.out w).mono ?_
        rintro e W ⟨i, rfl, hi, rfl⟩
        replace hi : ¬ i < 0 := by simpa using hi
        go_wp2_with (first
          | (refine store_part rfl 3 _ _ rfl R 1 (.int .i64 ((n : Int) + 1)) _ _ #[.string L, .int .i64 ((n : Int) + 1), .int .i64 d] rfl rfl info3j (by simp) rfl rfl HR.out rfl ?_; intro W1 ho hr; have c3 : W1.cell? ⟨R, 1, none⟩ = some (.int .i64 ((n : Int) + 1)) := cell_of_row _ _ _ _ _ _ hr; have HO := hid ho; have HR1 := hid hr; clear ho hr)
          | fail)
        refine ⟨rfl, fun m hm => ?_, fun k hk => ?_, HO.out⟩
        · have h1 := HX.out
          rw [hm] at h1
          cases h1
        · have h1 := HX.out
          rw [hk] at h1
          injection h1 with h1
          subst h1
          rfl
    · have hb2 : begJ c = false := by simpa using hb
      have HX : Hid (cntJ (c :: r) n = .ok n) := by
        show (if begJ c then _ else _) = _
        rw [if_neg hb]
      rw [hb2] at HB
      clear hb hb2
      go_wp2_with fail
      refine (HB.out w).mono ?_
      rintro e W ⟨i, rfl, hi, rfl⟩
      replace hi : i < 0 := by simpa using hi
      go_wp2_with fail
      refine ⟨by simp, _, results_none rfl _ _ _, fun m hm => ?_, fun k hk => ?_, ⟨rfl, rfl, rfl, rfl, fun _ _ => rfl⟩⟩
      · have h1 := HX.out
        rw [hm] at h1
        injection h1 with h1
        subst h1
        exact ⟨rfl, HRF.out⟩
      · have h1 := HX.out
        rw [hk] at h1
        cases h1
/-! How many bytes stand for themselves; digits. -/
def plnJ (c : UInt8) : Bool := decide (32 ≤ c.toNat) && decide (c ≠ 34) && decide (c ≠ 92)
theorem span_stop {p : UInt8 → Bool} : ∀ (l : List UInt8) (k : Nat), k ≤ l.length → (∀ j, j < k → p (l.getD j 0) = true) → (k < l.length → p (l.getD k 0) = false) → (l.takeWhile p).length = k
  | [], k, h, _, _ => by simp at h; subst h; rfl
  | c :: r, 0, _, _, h => by
    have h1 : p c = false := h (by simp)
    simp [List.takeWhile, h1]
  | c :: r, k + 1, h, h2, h3 => by
    have h1 : p c = true := h2 0 (by omega)
    rw [List.takeWhile_cons, if_pos h1, List.length_cons, span_stop r k (by simpa using h) (fun j hj => h2 (j + 1) (by omega)) (fun hk => h3 (by simpa using hk))]
end Go.Proofs.YtlgkbdebpnbndaaGreatDoor
