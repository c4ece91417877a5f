
/- What sha.Hex and sha.Unhex do, and the reference's Unhex. -/
import Derived.Test.YtlblefcmilfjdaaGreatDoorBase
import Derived.OwnWalk
import Derived.Laws.BytesString
import Derived.Deep.AppendLies
import Derived.Deep.Cut
namespace Go.Proofs.YtlblefcmilfjdaaGreatDoor
open Go.RowKit


def DIG : List UInt8 := [48, 49, 50, 51, 52, 53, 54, 55, 56, 57, 97, 98, 99, 100, 101, 102]
def hd (n : Nat) : UInt8 := DIG.getD n 0
def hex2 (c : UInt8) : List UInt8 := [hd (c.toNat / 16), hd (c.toNat % 16)]
def hexB (l : List UInt8) : List UInt8 := l.flatMap hex2
theorem hexB_len (l : List UInt8) : (hexB l).length = 2 * l.length := by
  induction l with
  | nil => rfl
  | cons x r ih => unfold hexB at ih ⊢; rw [List.flatMap_cons, List.length_append, ih, List.length_cons]; show 2 + 2 * r.length = _; omega
theorem hexB_snoc (l : List UInt8) (k : Nat) (h : k < l.length) : hexB (l.take (k + 1)) = hexB (l.take k) ++ hex2 (l.getD k 0) := by
  unfold hexB
  rw [List.take_succ_eq_append_getElem h, List.flatMap_append]
  simp [List.getD_eq_getElem?_getD, h]
theorem and15 (c : UInt8) : bits .and .u8 (c.toNat : Int) 15 = (c.toNat : Int) % 16 := by
  have := c.toNat_lt
  exact u8_and15 _ (by omega) (by omega)
theorem dig_fin : ∀ n : Fin 16, (⟨#[48, 49, 50, 51, 52, 53, 54, 55, 56, 57, 97, 98, 99, 100, 101, 102]⟩ : ByteArray)[n.val]? = some (hd n.val) := by decide +kernel
theorem index_dig (i : Int) (n : Nat) (hi : i = (n : Int)) (h : n < 16) (w : World) : (Instr.index 9 (.string ⟨#[48, 49, 50, 51, 52, 53, 54, 55, 56, 57, 97, 98, 99, 100, 101, 102]⟩) (.int .u8 i)).run Tryz.prog w = .ok (.int .u8 (hd n).toNat) w := by
  subst hi
  have e := dig_fin ⟨n, h⟩
  simp only at e
  simp [Instr.index, asIntOf, run_underlying Tryz.underlying9, e]

set_option maxRecDepth 100000 in
set_option maxHeartbeats 1000000 in
theorem hex_any (l : List UInt8) (A : Option Addr) (cap q o : Nat) (w : World) (hA : 0 < l.length → A = some ⟨q, o, none⟩) (hqs : q < w.heap.size)
    (hsrc : ∀ j, j < l.length → w.cell? ⟨q, o + j, none⟩ = some (.int .u8 (l.getD j 0).toNat)) (hlen : l.length ≤ 1000000) :
    Calls Tryz.prog 75 #[.slice A l.length cap] w fun e w' => e = .returned (.string ⟨(hexB l).toArray⟩) ∧ Below w.heap.size w w' := by
  have HSRC := hid hsrc
  have HA := hid hA
  obtain ⟨i0, hi, hz0, hz1, hz2⟩ := info_parts info5
  have HI := hid hi
  have HI0 := hid hz0
  have HI1 := hid hz1
  have HI2 := hid hz2
  have HX : Hid (∀ k, l.length ≤ k → hexB (l.take k) = hexB l) := fun k hk => by rw [List.take_of_length_le hk]
  have HXL := hid (hexB_len l)
  generalize hexB l = X at HX HXL ⊢
  clear hsrc hA hi hz0 hz1 hz2
  go_enter Tryz.func75, Tryz.ntmps75
  go_wp2_with (at_make; refine wpList_make_own _ rfl _ _ 54 rfl w.heap.size 5 i0 (.int .u8 0) 1 Tryz.underlying54 HI.out HI0.out HI1.out _ _ _ (2 * l.length) rfl rfl (by omega) (by rw [HI2.out]; omega) (by unfold maxLen; omega) (Nat.le_refl _) ?_; intro w1 hown1 hgr1)
  have HO1 := hid hown1
  have HB1 := hid ((Below.refl w.heap.size w).grown hgr1 (Nat.le_refl _) (fun k hk => by cases hk))
  clear hown1 hgr1
  go_wp2_with fail
  go_loopw [3, 12] (fun v i wr => ∃ (k g c : Nat), k ≤ l.length ∧ i = .int .i64 k ∧ v = .slice (some ⟨g, 0, none⟩) (2 * k) c ∧ Hid (wr.ownsRow w.heap.size 5 1 (.slice (some ⟨g, 0, none⟩) (2 * k) c) (2 * k) (bvs (hexB (l.take k)))) ∧ Hid (Below w.heap.size w wr)) (fun _ i _ => l.length - (intOf i).toNat)
  case atStart => exact ⟨0, w.heap.size, 2 * l.length, Nat.zero_le _, rfl, rfl, HO1, HB1⟩
  case round =>
    obtain ⟨k, g, c, hk, rfl, rfl, HO, HB⟩ := hrel
    by_cases hlt : k < l.length
    · obtain rfl := HA.out (by omega)
      obtain ⟨x, ex⟩ : ∃ x, Hid (x = l.getD k 0) := ⟨_, rfl⟩
      have hx256 := x.toNat_lt
      have cx : wr.cell? ⟨q, o + k, none⟩ = some (.int .u8 x.toNat) := by rw [HB.out.cell (p := ⟨q, o + k, none⟩) hqs, HSRC.out k hlt, ex.out]
      have h15 := and15 x
      have hi1 := index_dig ((x.toNat : Int) / 16) (x.toNat / 16) (by omega) (by omega)
      have hi2 := index_dig ((x.toNat : Int) % 16) (x.toNat % 16) (by omega) (by omega)
      go_wp2_with fail
      have HON : Hid (∀ u ∈ [Value.int .u8 (hd (x.toNat / 16)).toNat, .int .u8 (hd (x.toNat % 16)).toNat], u.oneCell' = true) := fun u hu => by
        simp only [List.mem_cons, List.not_mem_nil, or_false] at hu
        rcases hu with rfl | rfl <;> rfl
      have hsz : w.heap.size ≤ wr.heap.size := HB.out.size
      go_region_law ((refine step_append_lies _ (by rfl) _ _ 54 (by rfl) w.heap.size 5 i0 (.int .u8 0) 1 1 Tryz.underlying54 HI.out HI0.out HI1.out HI2.out rfl (by decide) _ (2 * k) (bvs (hexB (l.take k))) (by rfl) (by exact HO.out.alloc _) ⟨wr.heap.size, 0, none⟩ 2 2 [Value.int .u8 (hd (x.toNat / 16)).toNat, .int .u8 (hd (x.toNat % 16)).toNat] (by rfl) rfl (by exact World.news_of_block (heap_alloc_new wr _)) HON.out (by omega) (by unfold maxLen; omega) (by omega) (by simp; omega) (wr.heap.size + 1) (by simp) ?_; intro g2 c2 w2 hown2 hgr2 hat2 hlt2))
      all_goals
        have HO2 := hid hown2
        have hgr3 : (wr.alloc (.cells #[Value.int .u8 (hd (x.toNat / 16)).toNat, .int .u8 (hd (x.toNat % 16)).toNat] 5)).drew.grownBy w2 (some g) := hgr2
        have hB2 : Below w.heap.size w w2 := by
          refine ((HB.out.alloc hsz _).drew).grown hgr3 ?_ ?_
          · simp; omega
          · intro k hk
            cases hk
            rcases HO.out.2 with ⟨h0, _⟩ | ⟨g', c', cur, h1, h2, _⟩
            · cases h0
            · cases h1; exact h2
        have HB2 := hid hB2
        clear hown2 hgr2 hgr3 hat2 hlt2 hB2
        go_wp2_with fail
        go_roundw
        case rel =>
          refine ⟨k + 1, g2, c2, by omega, by go_num, by rw [Nat.mul_add], ?_, HB2⟩
          show World.ownsRow _ _ _ _ _ _ _
          rw [hexB_snoc l k hlt, ← ex.out, Nat.mul_add]
          have e : bvs (hexB (l.take k) ++ hex2 x) = bvs (hexB (l.take k)) ++ [Value.int .u8 (hd (x.toNat / 16)).toNat, .int .u8 (hd (x.toNat % 16)).toNat] := by simp [bvs, hex2]
          rw [e]
          exact HO2.out
        case measure => simp [intOf]; omega
    · have ho := HO.out
      rw [HX.out k (by omega)] at ho
      have hback := str_of c (own_cells ho) (2 * k) (by rw [HXL.out]; omega)
      clear ho HO
      go_wp2_with fail
      go_ret
      exact ⟨rfl, HB.out⟩




/-- A digit's value. -/
def hv (c : UInt8) : Option Nat :=
  if 48 ≤ c.toNat ∧ c.toNat ≤ 57 then some (c.toNat - 48) else if 97 ≤ c.toNat ∧ c.toNat ≤ 102 then some (c.toNat - 87) else if 65 ≤ c.toNat ∧ c.toNat ≤ 70 then some (c.toNat - 55) else none
theorem hv_lt {c : UInt8} {n : Nat} (h : hv c = some n) : n < 16 := by
  unfold hv at h
  split at h
  · cases h; omega
  · split at h
    · cases h; omega
    · split at h
      · cases h; omega
      · cases h

set_option maxHeartbeats 1000000 in
theorem value_yes (c : UInt8) (n : Nat) (w : World) (h : hv c = some n) : Calls Tryz.prog 121 #[.int .u8 c.toNat] w fun e w' => e = .returned (.tuple #[.int .u8 n, .bool true]) ∧ w' = w := by
  have hc := c.toNat_lt
  unfold hv at h
  by_cases h1 : 48 ≤ c.toNat ∧ c.toNat ≤ 57
  · rw [if_pos h1] at h
    obtain rfl := Option.some.inj h
    obtain ⟨p1, p2⟩ := h1
    have q1 : (48 : Int) ≤ c.toNat := by omega
    have q2 : (c.toNat : Int) ≤ 57 := by omega
    have e : ((c.toNat - 48 : Nat) : Int) = (c.toNat : Int) - 48 := by omega
    rw [e]
    clear h
    go_enter Tryz.func121, Tryz.ntmps121
    go_wp2
    go_ret2
    exact ⟨rfl, rfl⟩
  · rw [if_neg h1] at h
    by_cases h2 : 97 ≤ c.toNat ∧ c.toNat ≤ 102
    · rw [if_pos h2] at h
      obtain rfl := Option.some.inj h
      obtain ⟨p1, p2⟩ := h2
      have q0 : ¬ (c.toNat : Int) ≤ 57 := by omega
      have q1 : (97 : Int) ≤ c.toNat := by omega
      have q2 : (c.toNat : Int) ≤ 102 := by omega
      have e : ((c.toNat - 87 : Nat) : Int) = (c.toNat : Int) - 97 + 10 := by omega
      rw [e]
      clear h h1
      go_enter Tryz.func121, Tryz.ntmps121
      go_wp2
      go_ret2
      exact ⟨rfl, rfl⟩
    · rw [if_neg h2] at h
      by_cases h3 : 65 ≤ c.toNat ∧ c.toNat ≤ 70
      · rw [if_pos h3] at h
        obtain rfl := Option.some.inj h
        obtain ⟨p1, p2⟩ := h3
        have q0 : ¬ (c.toNat : Int) ≤ 57 := by omega
        have q4 : ¬ (97 : Int) ≤ c.toNat := by omega
        have q1 : (65 : Int) ≤ c.toNat := by omega
        have q2 : (c.toNat : Int) ≤ 70 := by omega
        have e : ((c.toNat - 55 : Nat) : Int) = (c.toNat : Int) - 65 + 10 := by omega
        rw [e]
        clear h h1 h2
        go_enter Tryz.func121, Tryz.ntmps121
        go_wp2
        go_ret2
        exact ⟨rfl, rfl⟩
      · rw [if_neg h3] at h
        cases h
theorem hv_none {c : UInt8} (h : hv c = none) : (c.toNat : Int) < 48 ∨ (57 < (c.toNat : Int) ∧ (c.toNat : Int) < 65) ∨ (70 < (c.toNat : Int) ∧ (c.toNat : Int) < 97) ∨ 102 < (c.toNat : Int) := by
  unfold hv at h
  split at h
  · cases h
  · split at h
    · cases h
    · split at h
      · cases h
      · omega
set_option maxHeartbeats 1000000 in
theorem value_no (c : UInt8) (w : World) (h : hv c = none) : Calls Tryz.prog 121 #[.int .u8 c.toNat] w fun e w' => e = .returned (.tuple #[.int .u8 0, .bool false]) ∧ w' = w := by
  rcases hv_none h with h1 | ⟨h1, h2⟩ | ⟨h1, h2⟩ | h1
  all_goals
    clear h
    go_enter Tryz.func121, Tryz.ntmps121
    go_wp2
    go_ret2
    exact ⟨rfl, rfl⟩

/-- The k-th pair's byte. -/
def pairB (l : List UInt8) (k : Nat) : UInt8 := UInt8.ofNat (16 * (hv (l.getD (2 * k) 0)).getD 0 + (hv (l.getD (2 * k + 1) 0)).getD 0)
def okAt (l : List UInt8) (k : Nat) : Prop := (hv (l.getD (2 * k) 0)).isSome = true ∧ (hv (l.getD (2 * k + 1) 0)).isSome = true
def unB (l : List UInt8) (k : Nat) : List UInt8 := (List.range k).map (pairB l)
theorem unB_len (l : List UInt8) (k : Nat) : (unB l k).length = k := by simp [unB]
theorem unB_succ (l : List UInt8) (k : Nat) : unB l (k + 1) = unB l k ++ [pairB l k] := by simp [unB, List.range_succ]
theorem ba_at (s : ByteArray) (k : Nat) (h : k < s.size) : s[k] = s.data.toList.getD k 0 := by
  have h' : k < s.data.toList.length := by simpa using h
  rw [List.getD_eq_getElem?_getD, List.getElem?_eq_getElem h']
  rfl
theorem or4_fin : ∀ a b : Fin 16, bits .or .u8 ((a.val : Int) * 16) (b.val : Int) = ((16 * a.val + b.val : Nat) : Int) := by decide +kernel
theorem or4 (a b : Nat) (ha : a < 16) (hb : b < 16) : bits .or .u8 ((a : Int) * 16) (b : Int) = ((16 * a + b : Nat) : Int) := or4_fin ⟨a, ha⟩ ⟨b, hb⟩
theorem set_un (l : List UInt8) (k n : Nat) (h : k < n) : (bcs (unB l k ++ zer (n - k))).setIfInBounds k (.int .u8 (pairB l k).toNat) = bcs (unB l (k + 1) ++ zer (n - (k + 1))) := by
  have e : (unB l k ++ zer (n - k)).set k (pairB l k) = unB l (k + 1) ++ zer (n - (k + 1)) := by
    rw [List.set_append_right _ _ (by rw [unB_len]; exact Nat.le_refl _), unB_len, Nat.sub_self, unB_succ]
    obtain ⟨m, hm⟩ : ∃ m, n - k = m + 1 := ⟨n - k - 1, by omega⟩
    rw [hm, show n - (k + 1) = m from by omega]
    simp [zer, List.replicate_succ]
  rw [← e]
  simp [bcs, List.map_set]

/-- How Unhex ends. -/
def UnEnds (s : ByteArray) (w : World) (e : Ending) (w' : World) : Prop :=
  Below w.heap.size w w' ∧
  ((∃ n, s.size = 2 * n ∧ (∀ j, j < n → okAt s.data.toList j) ∧ e = .returned (.tuple #[.slice (some ⟨w.heap.size, 0, none⟩) n n, .int .i64 0]) ∧ w'.heap[w.heap.size]? = some (.cells (bcs (unB s.data.toList n)) 5 (0, 0))) ∨
   ((s.size % 2 = 1 ∨ ∃ j, 2 * j + 1 < s.size ∧ ¬ okAt s.data.toList j) ∧ e = .returned (.tuple #[.slice none 0 0, .int .i64 5])))

theorem made_zero (n : Nat) : madeCells (Value.int .u8 0).cells (n * 1) = bcs (zer n) := by
  apply Array.ext
  · simp [madeCells, bcs, zer]
  · intro i h1 h2
    simp [madeCells, bcs, zer, Value.cells, Nat.mod_one]

set_option maxRecDepth 100000 in
set_option maxHeartbeats 1000000 in
theorem unhex_any (s : ByteArray) (w : World) (hs : s.size ≤ 1000000) : Calls Tryz.prog 99 #[.string s] w fun e w' => UnEnds s w e w' := by
  by_cases hodd : s.size % 2 = 1
  · have h1 : (s.size : Int) % 2 = 1 := by omega
    go_enter Tryz.func99, Tryz.ntmps99
    go_wp2
    go_ret2
    exact ⟨Below.refl _ _, .inr ⟨.inl hodd, rfl⟩⟩
  · obtain ⟨n, hn⟩ : ∃ n, s.size = 2 * n := ⟨s.size / 2, by omega⟩
    obtain ⟨i0, hi, hz0, hz1, hz2⟩ := info_parts info5
    have hmk := run_make (P := Tryz.prog) w 54 5 i0 (.int .u8 0) Tryz.underlying54 hi hz0 .i64 .i64 (n : Int) (n : Int) (by omega) (Int.le_refl _) (by rw [hz2]; omega) (by omega)
    rw [hz1, Int.toNat_natCast, made_zero] at hmk
    have HN := hid hn
    have h0 : (s.size : Int) % 2 = 0 := by omega
    have hq : (s.size : Int) / 2 = (n : Int) := by omega
    have hq2 : (s.size : Int).tdiv 2 = (n : Int) := by rw [Int.tdiv_eq_ediv_of_nonneg (by omega)]; exact hq
    have hn1 : n ≤ 500000 := by omega
    have hH := hid (fun (e : Ending) (w' : World) (h : UnEnds s w e w') => h)
    clear hi hz0 hz1 hz2 hodd hn hH
    go_enter Tryz.func99, Tryz.ntmps99
    go_wp2_with fail
    clear h0 hq hq2 hmk
    go_loopw [20] (fun i wr => ∃ k : Nat, k ≤ n ∧ i = .int .i64 k ∧ Hid (∀ j, j < k → okAt s.data.toList j) ∧ Hid (wr.heap[w.heap.size]? = some (.cells (bcs (unB s.data.toList k ++ zer (n - k))) 5 (0, 0))) ∧ Hid (Below w.heap.size w wr)) (fun i _ => n - (intOf i).toNat)
    case atStart =>
      refine ⟨0, by omega, rfl, fun j hj => by omega, ?_, ?_⟩
      · exact heap_alloc_new w _
      · exact (Below.refl _ _).alloc (Nat.le_refl _) _
    case round =>
      obtain ⟨k, hk, rfl, HOK, HR, HB⟩ := hrel
      by_cases hlt : k < n
      · have k1 : 2 * k < s.size := by have := HN.out; omega
        have k2 : 2 * k + 1 < s.size := by have := HN.out; omega
        obtain ⟨c1, e1⟩ : ∃ c, c = s[2 * k] := ⟨_, rfl⟩
        obtain ⟨c2, e2⟩ : ∃ c, c = s[2 * k + 1] := ⟨_, rfl⟩
        have E1 : Hid (c1 = s.data.toList.getD (2 * k) 0) := by show _ = _; rw [e1, ba_at]
        have E2 : Hid (c2 = s.data.toList.getD (2 * k + 1) 0) := by show _ = _; rw [e2, ba_at]
        have ix1 : ∀ W, (Instr.index 9 (.string s) (.int .i64 (2 * (k : Int)))).run Tryz.prog W = .ok (.int .u8 c1.toNat) W := fun W => by
          have : s[(2 * (k : Int)).toNat]? = some c1 := by rw [e1, show (2 * (k : Int)).toNat = 2 * k from by omega]; simp [k1]
          have hp : (0 : Int) ≤ 2 * (k : Int) := by omega
          simp only [Instr.index, asIntOf, Sem.run_bind, Sem.run_pure, Result.andThen_ok, run_underlying Tryz.underlying9, if_pos hp, this]
        have ix2 : ∀ W, (Instr.index 9 (.string s) (.int .i64 (2 * (k : Int) + 1))).run Tryz.prog W = .ok (.int .u8 c2.toNat) W := fun W => by
          have : s[(2 * (k : Int) + 1).toNat]? = some c2 := by rw [e2, show (2 * (k : Int) + 1).toNat = 2 * k + 1 from by omega]; simp [k2]
          have hp : (0 : Int) ≤ 2 * (k : Int) + 1 := by omega
          simp only [Instr.index, asIntOf, Sem.run_bind, Sem.run_pure, Result.andThen_ok, run_underlying Tryz.underlying9, if_pos hp, this]
        clear e1 e2
        cases g1 : hv c1 with
        | none =>
          have V1 := hid (fun W => value_no c1 W g1)
          have NO : Hid (¬ okAt s.data.toList k) := fun h => by have := h.1; rw [← E1.out, g1] at this; cases this
          cases g2 : hv c2 with
          | none =>
            have V2 := hid (fun W => value_no c2 W g2)
            clear g1 g2
            go_wp2_with fail
            refine (V1.out _).mono ?_
            rintro e w1 ⟨rfl, rfl⟩
            go_wp2_with fail
            refine (V2.out _).mono ?_
            rintro e w1 ⟨rfl, rfl⟩
            go_wp2_with fail
            go_ret2
            exact ⟨HB.out, .inr ⟨.inr ⟨k, by omega, NO.out⟩, rfl⟩⟩
          | some b =>
            have V2 := hid (fun W => value_yes c2 b W g2)
            clear g1 g2
            go_wp2_with fail
            refine (V1.out _).mono ?_
            rintro e w1 ⟨rfl, rfl⟩
            go_wp2_with fail
            refine (V2.out _).mono ?_
            rintro e w1 ⟨rfl, rfl⟩
            go_wp2_with fail
            go_ret2
            exact ⟨HB.out, .inr ⟨.inr ⟨k, by omega, NO.out⟩, rfl⟩⟩
        | some a =>
          have V1 := hid (fun W => value_yes c1 a W g1)
          cases g2 : hv c2 with
          | none =>
            have V2 := hid (fun W => value_no c2 W g2)
            have NO : Hid (¬ okAt s.data.toList k) := fun h => by have := h.2; rw [← E2.out, g2] at this; cases this
            clear g1 g2
            go_wp2_with fail
            refine (V1.out _).mono ?_
            rintro e w1 ⟨rfl, rfl⟩
            go_wp2_with fail
            refine (V2.out _).mono ?_
            rintro e w1 ⟨rfl, rfl⟩
            go_wp2_with fail
            go_ret2
            exact ⟨HB.out, .inr ⟨.inr ⟨k, by omega, NO.out⟩, rfl⟩⟩
          | some b =>
            have V2 := hid (fun W => value_yes c2 b W g2)
            have ha := hv_lt g1
            have hb := hv_lt g2
            have hor := or4 a b ha hb
            have YES : Hid (okAt s.data.toList k) := by
              refine ⟨?_, ?_⟩
              · rw [← E1.out, g1]; rfl
              · rw [← E2.out, g2]; rfl
            have HP : Hid (((16 * a + b : Nat) : Int) = ((pairB s.data.toList k).toNat : Int)) := by
              show _ = _
              unfold pairB
              rw [← E1.out, ← E2.out, g1, g2, UInt8.toNat_ofNat']
              show _ = (((16 * a + b) % 2 ^ 8 : Nat) : Int)
              omega
            have ck : wr.cell? ⟨w.heap.size, k, none⟩ = some (.int .u8 0) := by
              rw [cell_of_row _ _ _ _ _ _ HR.out, bcs_at _ _ (by rw [List.length_append, unB_len, zer_len]; omega)]
              rw [List.getD_eq_getElem?_getD, List.getElem?_append_right (by rw [unB_len]; exact Nat.le_refl _), unB_len, Nat.sub_self]
              obtain ⟨m, hm⟩ : ∃ m, n - k = m + 1 := ⟨n - k - 1, by omega⟩
              rw [hm]; rfl
            have fk : wr.frozen? ⟨w.heap.size, k, none⟩ = false := frozen_of_row _ _ _ _ _ HR.out
            clear g1 g2
            go_wp2_with fail
            refine (V1.out _).mono ?_
            rintro e w1 ⟨rfl, rfl⟩
            go_wp2_with fail
            refine (V2.out _).mono ?_
            rintro e w1 ⟨rfl, rfl⟩
            go_wp2_with fail
            go_roundw
            case rel =>
              refine ⟨k + 1, by omega, by go_num, fun j hj => ?_, ?_, HB.out.setCell (Nat.le_refl _) _⟩
              · rcases Nat.lt_succ_iff_lt_or_eq.1 hj with h | rfl
                · exact HOK.out j h
                · exact YES.out
              · show _ = _
                rw [show (16 * (a : Int) + (b : Int)) = ((16 * a + b : Nat) : Int) from by omega, HP.out, heap_setCell_same _ _ _ _ _ _ HR.out, set_un _ _ _ hlt]
            case measure => simp [intOf]; omega
      · have hr := HR.out
        rw [show n - k = 0 from by omega, show zer 0 = [] from rfl, List.append_nil, show k = n from by omega] at hr
        have HR2 := hid hr
        have HOK2 : Hid (∀ j, j < n → okAt s.data.toList j) := fun j hj => HOK.out j (by omega)
        clear hr HR
        go_wp2_with fail
        go_ret2
        exact ⟨HB.out, .inl ⟨n, HN.out, HOK2.out, rfl, HR2.out⟩⟩




set_option maxHeartbeats 1000000 in
theorem digit_yes (c : UInt8) (n : Nat) (w : World) (h : hv c = some n) : Calls Tryz.prog 83 #[.int .u8 c.toNat] w fun e w' => e = .returned (.int .i64 n) ∧ w' = w := by
  have hc := c.toNat_lt
  unfold hv at h
  by_cases h1 : 48 ≤ c.toNat ∧ c.toNat ≤ 57
  · rw [if_pos h1] at h
    obtain rfl := Option.some.inj h
    obtain ⟨p1, p2⟩ := h1
    have q1 : (48 : Int) ≤ c.toNat := by omega
    have q2 : (c.toNat : Int) ≤ 57 := by omega
    have e : ((c.toNat - 48 : Nat) : Int) = (c.toNat : Int) - 48 := by omega
    rw [e]
    clear h
    go_enter Tryz.func83, Tryz.ntmps83
    go_wp2
    go_ret
    exact ⟨rfl, rfl⟩
  · rw [if_neg h1] at h
    by_cases h2 : 97 ≤ c.toNat ∧ c.toNat ≤ 102
    · rw [if_pos h2] at h
      obtain rfl := Option.some.inj h
      obtain ⟨p1, p2⟩ := h2
      have q0 : ¬ (c.toNat : Int) ≤ 57 := by omega
      have q1 : (97 : Int) ≤ c.toNat := by omega
      have q2 : (c.toNat : Int) ≤ 102 := by omega
      have e : ((c.toNat - 87 : Nat) : Int) = (c.toNat : Int) - 97 + 10 := by omega
      rw [e]
      clear h h1
      go_enter Tryz.func83, Tryz.ntmps83
      go_wp2
      go_ret
      exact ⟨rfl, rfl⟩
    · rw [if_neg h2] at h
      by_cases h3 : 65 ≤ c.toNat ∧ c.toNat ≤ 70
      · rw [if_pos h3] at h
        obtain rfl := Option.some.inj h
        obtain ⟨p1, p2⟩ := h3
        have q0 : ¬ (c.toNat : Int) ≤ 57 := by omega
        have q4 : ¬ (97 : Int) ≤ c.toNat := by omega
        have q1 : (65 : Int) ≤ c.toNat := by omega
        have q2 : (c.toNat : Int) ≤ 70 := by omega
        have e : ((c.toNat - 55 : Nat) : Int) = (c.toNat : Int) - 65 + 10 := by omega
        rw [e]
        clear h h1 h2
        go_enter Tryz.func83, Tryz.ntmps83
        go_wp2
        go_ret
        exact ⟨rfl, rfl⟩
      · rw [if_neg h3] at h
        cases h
set_option maxHeartbeats 1000000 in
theorem digit_no (c : UInt8) (w : World) (h : hv c = none) : Calls Tryz.prog 83 #[.int .u8 c.toNat] w fun e w' => e = .returned (.int .i64 (-1)) ∧ w' = w := by
  rcases hv_none h with h1 | ⟨h1, h2⟩ | ⟨h1, h2⟩ | h1
  all_goals
    clear h
    go_enter Tryz.func83, Tryz.ntmps83
    go_wp2
    go_ret
    exact ⟨rfl, rfl⟩

/-- How the reference's Unhex ends. -/
def RefEnds (s : ByteArray) (w : World) (e : Ending) (w' : World) : Prop :=
  Below w.heap.size w w' ∧
  ((∃ n g c, s.size = 2 * n ∧ (∀ j, j < n → okAt s.data.toList j) ∧ e = .returned (.tuple #[.slice (some ⟨g, 0, none⟩) n c, .bool true]) ∧ w'.ownsRow w.heap.size 5 1 (.slice (some ⟨g, 0, none⟩) n c) n (bvs (unB s.data.toList n))) ∨
   ((s.size % 2 = 1 ∨ ∃ j, 2 * j + 1 < s.size ∧ ¬ okAt s.data.toList j) ∧ e = .returned (.tuple #[.slice none 0 0, .bool false])))


set_option maxRecDepth 100000 in
set_option maxHeartbeats 1000000 in
theorem refUnhex_any (s : ByteArray) (w : World) (hs : s.size ≤ 1000000) : Calls Tryz.prog 52 #[.string s] w fun e w' => RefEnds s w e w' := by
  by_cases hodd : s.size % 2 = 1
  · have h1 : (s.size : Int) % 2 = 1 := by omega
    go_enter Tryz.func52, Tryz.ntmps52
    go_wp2
    go_ret2
    exact ⟨Below.refl _ _, .inr ⟨.inl hodd, rfl⟩⟩
  · obtain ⟨n, hn⟩ : ∃ n, s.size = 2 * n := ⟨s.size / 2, by omega⟩
    obtain ⟨i0, hi, hz0, hz1, hz2⟩ := info_parts info5
    have HI := hid hi
    have HI0 := hid hz0
    have HI1 := hid hz1
    have HI2 := hid hz2
    have HN := hid hn
    have h0 : (s.size : Int) % 2 = 0 := by omega
    clear hi hz0 hz1 hz2 hodd hn
    go_enter Tryz.func52, Tryz.ntmps52
    go_wp2_with fail
    clear h0
    go_loopw [4, 5] (fun v i wr => ∃ (k g c : Nat), k ≤ n ∧ i = .int .i64 (2 * k) ∧ v = .slice (some ⟨g, 0, none⟩) k c ∧ Hid (∀ j, j < k → okAt s.data.toList j) ∧ Hid (wr.ownsRow w.heap.size 5 1 (.slice (some ⟨g, 0, none⟩) k c) k (bvs (unB s.data.toList k))) ∧ Hid (Below w.heap.size w wr)) (fun _ i _ => s.size - (intOf i).toNat)
    case atStart => exact ⟨0, w.heap.size, 0, by omega, rfl, rfl, fun j hj => by omega, own_new0 w, (Below.refl _ _).alloc (Nat.le_refl _) _⟩
    case round =>
      obtain ⟨k, g, c, hk, rfl, rfl, HOK, HO, HB⟩ := hrel
      by_cases hlt : k < n
      · have k1 : 2 * k < s.size := by have := HN.out; omega
        have k2 : 2 * k + 1 < s.size := by have := HN.out; omega
        have kk : 2 * (k : Int) < (s.size : Int) := by omega
        obtain ⟨c1, e1⟩ : ∃ c, c = s[2 * k] := ⟨_, rfl⟩
        obtain ⟨c2, e2⟩ : ∃ c, c = s[2 * k + 1] := ⟨_, rfl⟩
        have E1 : Hid (c1 = s.data.toList.getD (2 * k) 0) := by show _ = _; rw [e1, ba_at]
        have E2 : Hid (c2 = s.data.toList.getD (2 * k + 1) 0) := by show _ = _; rw [e2, ba_at]
        have ix1 : ∀ W, (Instr.index 9 (.string s) (.int .i64 (2 * (k : Int)))).run Tryz.prog W = .ok (.int .u8 c1.toNat) W := fun W => by
          have : s[(2 * (k : Int)).toNat]? = some c1 := by rw [e1, show (2 * (k : Int)).toNat = 2 * k from by omega]; simp [k1]
          have hp : (0 : Int) ≤ 2 * (k : Int) := by omega
          simp only [Instr.index, asIntOf, Sem.run_bind, Sem.run_pure, Result.andThen_ok, run_underlying Tryz.underlying9, if_pos hp, this]
        have ix2 : ∀ W, (Instr.index 9 (.string s) (.int .i64 (2 * (k : Int) + 1))).run Tryz.prog W = .ok (.int .u8 c2.toNat) W := fun W => by
          have : s[(2 * (k : Int) + 1).toNat]? = some c2 := by rw [e2, show (2 * (k : Int) + 1).toNat = 2 * k + 1 from by omega]; simp [k2]
          have hp : (0 : Int) ≤ 2 * (k : Int) + 1 := by omega
          simp only [Instr.index, asIntOf, Sem.run_bind, Sem.run_pure, Result.andThen_ok, run_underlying Tryz.underlying9, if_pos hp, this]
        clear e1 e2
        cases g1 : hv c1 with
        | none =>
          have V1 := hid (fun W => digit_no c1 W g1)
          have NO : Hid (¬ okAt s.data.toList k) := fun h => by have := h.1; rw [← E1.out, g1] at this; cases this
          clear g1
          go_wp2_with fail
          refine (V1.out _).mono ?_
          rintro e w1 ⟨rfl, rfl⟩
          go_wp2_with fail
          go_ret2
          exact ⟨HB.out, .inr ⟨.inr ⟨k, by omega, NO.out⟩, rfl⟩⟩
        | some a =>
          have V1 := hid (fun W => digit_yes c1 a W g1)
          cases g2 : hv c2 with
          | none =>
            have V2 := hid (fun W => digit_no c2 W g2)
            have NO : Hid (¬ okAt s.data.toList k) := fun h => by have := h.2; rw [← E2.out, g2] at this; cases this
            clear g1 g2
            go_wp2_with fail
            refine (V1.out _).mono ?_
            rintro e w1 ⟨rfl, rfl⟩
            go_wp2_with fail
            refine (V2.out _).mono ?_
            rintro e w1 ⟨rfl, rfl⟩
            go_wp2_with fail
            go_ret2
            exact ⟨HB.out, .inr ⟨.inr ⟨k, by omega, NO.out⟩, rfl⟩⟩
          | some b =>
            have V2 := hid (fun W => digit_yes c2 b W g2)
            have ha := hv_lt g1
            have hb := hv_lt g2
            have YES : Hid (okAt s.data.toList k) := by
              refine ⟨?_, ?_⟩
              · rw [← E1.out, g1]; rfl
              · rw [← E2.out, g2]; rfl
            have HP : Hid ((16 * (a : Int) + (b : Int)) = ((pairB s.data.toList k).toNat : Int)) := by
              show _ = _
              unfold pairB
              rw [← E1.out, ← E2.out, g1, g2, UInt8.toNat_ofNat']
              show _ = (((16 * a + b) % 2 ^ 8 : Nat) : Int)
              omega
            have HON : Hid (∀ u ∈ [Value.int .u8 (16 * (a : Int) + (b : Int))], u.oneCell' = true) := fun u hu => by
              simp only [List.mem_cons, List.not_mem_nil, or_false] at hu
              subst hu; rfl
            have hsz : w.heap.size ≤ wr.heap.size := HB.out.size
            clear g1 g2
            go_wp2_with fail
            refine (V1.out _).mono ?_
            rintro e w1 ⟨rfl, rfl⟩
            go_wp2_with fail
            refine (V2.out _).mono ?_
            rintro e w1 ⟨rfl, rfl⟩
            go_wp2_with fail
            have r1 : IntKind.i64.wrap (2 * (k : Int) + 1) = 2 * (k : Int) + 1 := by rw [IntKind.wrap_i64]; omega
            have r2 : IntKind.i64.wrap (16 * (a : Int)) = 16 * (a : Int) := by rw [IntKind.wrap_i64]; omega
            have r3 : IntKind.i64.wrap (16 * (a : Int) + (b : Int)) = 16 * (a : Int) + (b : Int) := by rw [IntKind.wrap_i64]; omega
            have r4 : IntKind.u8.wrap (16 * (a : Int) + (b : Int)) = 16 * (a : Int) + (b : Int) := by rw [IntKind.wrap_u8]; omega
            have r5 : (16 * (a : Int) + (b : Int)) % 256 = 16 * (a : Int) + (b : Int) := by omega
            go_region_held3 (fun _ => True) (trivial) ((first
              | (go_at_call_of 83 (Value.int .u8 c1.toNat); refine (V1.out _).mono ?_; rintro e w3 ⟨rfl, rfl⟩)
              | (go_at_call_of 83 (Value.int .u8 c2.toNat); refine (V2.out _).mono ?_; rintro e w3 ⟨rfl, rfl⟩)
              | (refine step_append_lies _ (by rfl) _ _ 54 (by rfl) w.heap.size 5 i0 (.int .u8 0) 1 1 Tryz.underlying54 HI.out HI0.out HI1.out HI2.out rfl (by decide) _ k (bvs (unB s.data.toList k)) (by rfl) (by exact HO.out.alloc _) ⟨w1.heap.size, 0, none⟩ 1 1 [Value.int .u8 (16 * (a : Int) + (b : Int))] (by rfl) rfl (by exact World.news_of_block (heap_alloc_new w1 _)) HON.out (by omega) (by unfold maxLen; omega) (by omega) (by simp; omega) (w1.heap.size + 1) (by simp) ?_; intro g2 d2 w2 hown2 hgr2 hat2 hlt2)))
            all_goals
              have HO2 := hid hown2
              have hgr3 : (w1.alloc (.cells #[Value.int .u8 (16 * (a : Int) + (b : Int))] 5)).drew.grownBy w2 (some g) := hgr2
              have hB2 : Below w.heap.size w w2 := by
                refine ((HB.out.alloc hsz _).drew).grown hgr3 ?_ ?_
                · simp; omega
                · intro k hk
                  cases hk
                  rcases HO.out.2 with ⟨h0, _⟩ | ⟨g', c', cur, h1, h2, _⟩
                  · cases h0
                  · cases h1; exact h2
              have HB2 := hid hB2
              clear hown2 hgr2 hgr3 hat2 hlt2 hB2
              go_wp2_with fail
              go_roundw
              case rel =>
                refine ⟨k + 1, g2, d2, by omega, by go_num, rfl, fun j hj => ?_, ?_, HB2⟩
                · rcases Nat.lt_succ_iff_lt_or_eq.1 hj with h | rfl
                  · exact HOK.out j h
                  · exact YES.out
                · show World.ownsRow _ _ _ _ _ _ _
                  have e : bvs (unB s.data.toList (k + 1)) = bvs (unB s.data.toList k) ++ [Value.int .u8 (16 * (a : Int) + (b : Int))] := by rw [unB_succ, HP.out]; simp [bvs]
                  rw [e]
                  exact HO2.out
              case measure => simp [intOf]; omega
      · have ho := HO.out
        rw [show k = n from by omega] at ho
        have HO2 := hid ho
        have HOK2 : Hid (∀ j, j < n → okAt s.data.toList j) := fun j hj => HOK.out j (by omega)
        have hkn : k = n := by omega
        subst hkn
        have kk : ¬ 2 * (k : Int) < (s.size : Int) := by have := HN.out; omega
        clear ho HO
        go_wp2_with fail
        go_ret2
        exact ⟨HB.out, .inl ⟨k, g, c, HN.out, HOK2.out, rfl, HO2.out⟩⟩


end Go.Proofs.YtlblefcmilfjdaaGreatDoor
