/- What sha.Unhex does: digits as bytes. -/
import Derived.Test.YtehjjobnmlhjlaaDoorHex
import Derived.Deep.Cut
namespace Go.Proofs.YtehjjobnmlhjlaaDoor
open Go.RowKit

/-- A digit's value. -/
def hv (c : UInt8) : Option Nat :=
  if 48 ≤ c.toNat ∧ c.toNat ≤ 57 then some (c.toNat - 48) else if 97 ≤ c.toNat ∧ c.toNat ≤ 102 then some (c.toNat - 87) else if 65 ≤ c.toNat ∧ c.toNat ≤ 70 then some (c.toNat - 55) else none
theorem hv_lt {c : UInt8} {n : Nat} (h : hv c = some n) : n < 16 := by
  unfold hv at h
  split at h
  · cases h; omega
  · split at h
    · cases h; omega
    · split at h
      · cases h; omega
      · cases h

set_option maxHeartbeats 1000000 in
theorem value_yes (c : UInt8) (n : Nat) (w : World) (h : hv c = some n) : Calls Tryd.prog 28 #[.int .u8 c.toNat] w fun e w' => e = .returned (.tuple #[.int .u8 n, .bool true]) ∧ w' = w := by
  have hc := c.toNat_lt
  unfold hv at h
  by_cases h1 : 48 ≤ c.toNat ∧ c.toNat ≤ 57
  · rw [if_pos h1] at h
    obtain rfl := Option.some.inj h
    obtain ⟨p1, p2⟩ := h1
    have q1 : (48 : Int) ≤ c.toNat := by omega
    have q2 : (c.toNat : Int) ≤ 57 := by omega
    have e : ((c.toNat - 48 : Nat) : Int) = (c.toNat : Int) - 48 := by omega
    rw [e]
    clear h
    go_enter Tryd.func28, Tryd.ntmps28
    go_wp2
    go_ret2
    exact ⟨rfl, rfl⟩
  · rw [if_neg h1] at h
    by_cases h2 : 97 ≤ c.toNat ∧ c.toNat ≤ 102
    · rw [if_pos h2] at h
      obtain rfl := Option.some.inj h
      obtain ⟨p1, p2⟩ := h2
      have q0 : ¬ (c.toNat : Int) ≤ 57 := by omega
      have q1 : (97 : Int) ≤ c.toNat := by omega
      have q2 : (c.toNat : Int) ≤ 102 := by omega
      have e : ((c.toNat - 87 : Nat) : Int) = (c.toNat : Int) - 97 + 10 := by omega
      rw [e]
      clear h h1
      go_enter Tryd.func28, Tryd.ntmps28
      go_wp2
      go_ret2
      exact ⟨rfl, rfl⟩
    · rw [if_neg h2] at h
      by_cases h3 : 65 ≤ c.toNat ∧ c.toNat ≤ 70
      · rw [if_pos h3] at h
        obtain rfl := Option.some.inj h
        obtain ⟨p1, p2⟩ := h3
        have q0 : ¬ (c.toNat : Int) ≤ 57 := by omega
        have q4 : ¬ (97 : Int) ≤ c.toNat := by omega
        have q1 : (65 : Int) ≤ c.toNat := by omega
        have q2 : (c.toNat : Int) ≤ 70 := by omega
        have e : ((c.toNat - 55 : Nat) : Int) = (c.toNat : Int) - 65 + 10 := by omega
        rw [e]
        clear h h1 h2
        go_enter Tryd.func28, Tryd.ntmps28
        go_wp2
        go_ret2
        exact ⟨rfl, rfl⟩
      · rw [if_neg h3] at h
        cases h
theorem hv_none {c : UInt8} (h : hv c = none) : (c.toNat : Int) < 48 ∨ (57 < (c.toNat : Int) ∧ (c.toNat : Int) < 65) ∨ (70 < (c.toNat : Int) ∧ (c.toNat : Int) < 97) ∨ 102 < (c.toNat : Int) := by
  unfold hv at h
  split at h
  · cases h
  · split at h
    · cases h
    · split at h
      · cases h
      · omega
set_option maxHeartbeats 1000000 in
theorem value_no (c : UInt8) (w : World) (h : hv c = none) : Calls Tryd.prog 28 #[.int .u8 c.toNat] w fun e w' => e = .returned (.tuple #[.int .u8 0, .bool false]) ∧ w' = w := by
  rcases hv_none h with h1 | ⟨h1, h2⟩ | ⟨h1, h2⟩ | h1
  all_goals
    clear h
    go_enter Tryd.func28, Tryd.ntmps28
    go_wp2
    go_ret2
    exact ⟨rfl, rfl⟩

/-- The k-th pair's byte. -/
def pairB (l : List UInt8) (k : Nat) : UInt8 := UInt8.ofNat (16 * (hv (l.getD (2 * k) 0)).getD 0 + (hv (l.getD (2 * k + 1) 0)).getD 0)
def okAt (l : List UInt8) (k : Nat) : Prop := (hv (l.getD (2 * k) 0)).isSome = true ∧ (hv (l.getD (2 * k + 1) 0)).isSome = true
def unB (l : List UInt8) (k : Nat) : List UInt8 := (List.range k).map (pairB l)
theorem unB_len (l : List UInt8) (k : Nat) : (unB l k).length = k := by simp [unB]
theorem unB_succ (l : List UInt8) (k : Nat) : unB l (k + 1) = unB l k ++ [pairB l k] := by simp [unB, List.range_succ]
theorem str_at (s : ByteArray) (k : Nat) (h : k < s.size) : s[k] = s.data.toList.getD k 0 := by
  have h' : k < s.data.toList.length := by simpa using h
  rw [List.getD_eq_getElem?_getD, List.getElem?_eq_getElem h']
  rfl
theorem or4_fin : ∀ a b : Fin 16, bits .or .u8 ((a.val : Int) * 16) (b.val : Int) = ((16 * a.val + b.val : Nat) : Int) := by decide +kernel
theorem or4 (a b : Nat) (ha : a < 16) (hb : b < 16) : bits .or .u8 ((a : Int) * 16) (b : Int) = ((16 * a + b : Nat) : Int) := or4_fin ⟨a, ha⟩ ⟨b, hb⟩
theorem set_un (l : List UInt8) (k n : Nat) (h : k < n) : (bcs (unB l k ++ zer (n - k))).setIfInBounds k (.int .u8 (pairB l k).toNat) = bcs (unB l (k + 1) ++ zer (n - (k + 1))) := by
  have e : (unB l k ++ zer (n - k)).set k (pairB l k) = unB l (k + 1) ++ zer (n - (k + 1)) := by
    rw [List.set_append_right _ _ (by rw [unB_len]; exact Nat.le_refl _), unB_len, Nat.sub_self, unB_succ]
    obtain ⟨m, hm⟩ : ∃ m, n - k = m + 1 := ⟨n - k - 1, by omega⟩
    rw [hm, show n - (k + 1) = m from by omega]
    simp [zer, List.replicate_succ]
  rw [← e]
  simp [bcs, List.map_set]

/-- How Unhex ends. -/
def UnEnds (s : ByteArray) (w : World) (e : Ending) (w' : World) : Prop :=
  Below w.heap.size w w' ∧
  ((∃ n, s.size = 2 * n ∧ (∀ j, j < n → okAt s.data.toList j) ∧ e = .returned (.tuple #[.slice (some ⟨w.heap.size, 0, none⟩) n n, .int .i64 0]) ∧ w'.heap[w.heap.size]? = some (.cells (bcs (unB s.data.toList n)) 5 (0, 0))) ∨
   ((s.size % 2 = 1 ∨ ∃ j, 2 * j + 1 < s.size ∧ ¬ okAt s.data.toList j) ∧ e = .returned (.tuple #[.slice none 0 0, .int .i64 5])))

theorem made_zero (n : Nat) : madeCells (Value.int .u8 0).cells (n * 1) = bcs (zer n) := by
  apply Array.ext
  · simp [madeCells, bcs, zer]
  · intro i h1 h2
    simp [madeCells, bcs, zer, Value.cells, Nat.mod_one]

set_option maxRecDepth 100000 in
set_option maxHeartbeats 1000000 in
theorem unhex_any (s : ByteArray) (w : World) (hs : s.size ≤ 1000000) : Calls Tryd.prog 20 #[.string s] w fun e w' => UnEnds s w e w' := by
  by_cases hodd : s.size % 2 = 1
  · have h1 : (s.size : Int) % 2 = 1 := by omega
    go_enter Tryd.func20, Tryd.ntmps20
    go_wp2
    go_ret2
    exact ⟨Below.refl _ _, .inr ⟨.inl hodd, rfl⟩⟩
  · obtain ⟨n, hn⟩ : ∃ n, s.size = 2 * n := ⟨s.size / 2, by omega⟩
    obtain ⟨i0, hi, hz0, hz1, hz2⟩ := info_parts info5
    have hmk := run_make (P := Tryd.prog) w 22 5 i0 (.int .u8 0) Tryd.underlying22 hi hz0 .i64 .i64 (n : Int) (n : Int) (by omega) (Int.le_refl _) (by rw [hz2]; omega) (by omega)
    rw [hz1, Int.toNat_natCast, made_zero] at hmk
    have HN := hid hn
    have h0 : (s.size : Int) % 2 = 0 := by omega
    have hq : (s.size : Int) / 2 = (n : Int) := by omega
    have hq2 : (s.size : Int).tdiv 2 = (n : Int) := by rw [Int.tdiv_eq_ediv_of_nonneg (by omega)]; exact hq
    have hn1 : n ≤ 500000 := by omega
    have hH := hid (fun (e : Ending) (w' : World) (h : UnEnds s w e w') => h)
    clear hi hz0 hz1 hz2 hodd hn hH
    go_enter Tryd.func20, Tryd.ntmps20
    go_wp2_with fail
    clear h0 hq hq2 hmk
    go_loopw [20] (fun i wr => ∃ k : Nat, k ≤ n ∧ i = .int .i64 k ∧ Hid (∀ j, j < k → okAt s.data.toList j) ∧ Hid (wr.heap[w.heap.size]? = some (.cells (bcs (unB s.data.toList k ++ zer (n - k))) 5 (0, 0))) ∧ Hid (Below w.heap.size w wr)) (fun i _ => n - (intOf i).toNat)
    case atStart =>
      refine ⟨0, by omega, rfl, fun j hj => by omega, ?_, ?_⟩
      · exact heap_alloc_new w _
      · exact (Below.refl _ _).alloc (Nat.le_refl _) _
    case round =>
      obtain ⟨k, hk, rfl, HOK, HR, HB⟩ := hrel
      by_cases hlt : k < n
      · have k1 : 2 * k < s.size := by have := HN.out; omega
        have k2 : 2 * k + 1 < s.size := by have := HN.out; omega
        obtain ⟨c1, e1⟩ : ∃ c, c = s[2 * k] := ⟨_, rfl⟩
        obtain ⟨c2, e2⟩ : ∃ c, c = s[2 * k + 1] := ⟨_, rfl⟩
        have E1 : Hid (c1 = s.data.toList.getD (2 * k) 0) := by show _ = _; rw [e1, str_at]
        have E2 : Hid (c2 = s.data.toList.getD (2 * k + 1) 0) := by show _ = _; rw [e2, str_at]
        have ix1 : ∀ W, (Instr.index 9 (.string s) (.int .i64 (2 * (k : Int)))).run Tryd.prog W = .ok (.int .u8 c1.toNat) W := fun W => by
          have : s[(2 * (k : Int)).toNat]? = some c1 := by rw [e1, show (2 * (k : Int)).toNat = 2 * k from by omega]; simp [k1]
          have hp : (0 : Int) ≤ 2 * (k : Int) := by omega
          simp only [Instr.index, asIntOf, Sem.run_bind, Sem.run_pure, Result.andThen_ok, run_underlying Tryd.underlying9, if_pos hp, this]
        have ix2 : ∀ W, (Instr.index 9 (.string s) (.int .i64 (2 * (k : Int) + 1))).run Tryd.prog W = .ok (.int .u8 c2.toNat) W := fun W => by
          have : s[(2 * (k : Int) + 1).toNat]? = some c2 := by rw [e2, show (2 * (k : Int) + 1).toNat = 2 * k + 1 from by omega]; simp [k2]
          have hp : (0 : Int) ≤ 2 * (k : Int) + 1 := by omega
          simp only [Instr.index, asIntOf, Sem.run_bind, Sem.run_pure, Result.andThen_ok, run_underlying Tryd.underlying9, if_pos hp, this]
        clear e1 e2
        cases g1 : hv c1 with
        | none =>
          have V1 := hid (fun W => value_no c1 W g1)
          have NO : Hid (¬ okAt s.data.toList k) := fun h => by have := h.1; rw [← E1.out, g1] at this; cases this
          cases g2 : hv c2 with
          | none =>
            have V2 := hid (fun W => value_no c2 W g2)
            clear g1 g2
            go_wp2_with fail
            refine (V1.out _).mono ?_
            rintro e w1 ⟨rfl, rfl⟩
            go_wp2_with fail
            refine (V2.out _).mono ?_
            rintro e w1 ⟨rfl, rfl⟩
            go_wp2_with fail
            go_ret2
            exact ⟨HB.out, .inr ⟨.inr ⟨k, by omega, NO.out⟩, rfl⟩⟩
          | some b =>
            have V2 := hid (fun W => value_yes c2 b W g2)
            clear g1 g2
            go_wp2_with fail
            refine (V1.out _).mono ?_
            rintro e w1 ⟨rfl, rfl⟩
            go_wp2_with fail
            refine (V2.out _).mono ?_
            rintro e w1 ⟨rfl, rfl⟩
            go_wp2_with fail
            go_ret2
            exact ⟨HB.out, .inr ⟨.inr ⟨k, by omega, NO.out⟩, rfl⟩⟩
        | some a =>
          have V1 := hid (fun W => value_yes c1 a W g1)
          cases g2 : hv c2 with
          | none =>
            have V2 := hid (fun W => value_no c2 W g2)
            have NO : Hid (¬ okAt s.data.toList k) := fun h => by have := h.2; rw [← E2.out, g2] at this; cases this
            clear g1 g2
            go_wp2_with fail
            refine (V1.out _).mono ?_
            rintro e w1 ⟨rfl, rfl⟩
            go_wp2_with fail
            refine (V2.out _).mono ?_
            rintro e w1 ⟨rfl, rfl⟩
            go_wp2_with fail
            go_ret2
            exact ⟨HB.out, .inr ⟨.inr ⟨k, by omega, NO.out⟩, rfl⟩⟩
          | some b =>
            have V2 := hid (fun W => value_yes c2 b W g2)
            have ha := hv_lt g1
            have hb := hv_lt g2
            have hor := or4 a b ha hb
            have YES : Hid (okAt s.data.toList k) := by
              refine ⟨?_, ?_⟩
              · rw [← E1.out, g1]; rfl
              · rw [← E2.out, g2]; rfl
            have HP : Hid (((16 * a + b : Nat) : Int) = ((pairB s.data.toList k).toNat : Int)) := by
              show _ = _
              unfold pairB
              rw [← E1.out, ← E2.out, g1, g2, UInt8.toNat_ofNat']
              show _ = (((16 * a + b) % 2 ^ 8 : Nat) : Int)
              omega
            have ck : wr.cell? ⟨w.heap.size, k, none⟩ = some (.int .u8 0) := by
              rw [cell_of_row _ _ _ _ _ _ HR.out, bcs_at _ _ (by rw [List.length_append, unB_len, zer_len]; omega)]
              rw [List.getD_eq_getElem?_getD, List.getElem?_append_right (by rw [unB_len]; exact Nat.le_refl _), unB_len, Nat.sub_self]
              obtain ⟨m, hm⟩ : ∃ m, n - k = m + 1 := ⟨n - k - 1, by omega⟩
              rw [hm]; rfl
            have fk : wr.frozen? ⟨w.heap.size, k, none⟩ = false := frozen_of_row _ _ _ _ _ HR.out
            clear g1 g2
            go_wp2_with fail
            refine (V1.out _).mono ?_
            rintro e w1 ⟨rfl, rfl⟩
            go_wp2_with fail
            refine (V2.out _).mono ?_
            rintro e w1 ⟨rfl, rfl⟩
            go_wp2_with fail
            go_roundw
            case rel =>
              refine ⟨k + 1, by omega, by go_num, fun j hj => ?_, ?_, HB.out.setCell (Nat.le_refl _) _⟩
              · rcases Nat.lt_succ_iff_lt_or_eq.1 hj with h | rfl
                · exact HOK.out j h
                · exact YES.out
              · show _ = _
                rw [show (16 * (a : Int) + (b : Int)) = ((16 * a + b : Nat) : Int) from by omega, HP.out, heap_setCell_same _ _ _ _ _ _ HR.out, set_un _ _ _ hlt]
            case measure => simp [intOf]; omega
      · have hr := HR.out
        rw [show n - k = 0 from by omega, show zer 0 = [] from rfl, List.append_nil, show k = n from by omega] at hr
        have HR2 := hid hr
        have HOK2 : Hid (∀ j, j < n → okAt s.data.toList j) := fun j hj => HOK.out j (by omega)
        clear hr HR
        go_wp2_with fail
        go_ret2
        exact ⟨HB.out, .inl ⟨n, HN.out, HOK2.out, rfl, HR2.out⟩⟩

end Go.Proofs.YtehjjobnmlhjlaaDoor
