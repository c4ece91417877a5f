/- What the reference's Unhex does. -/
import Derived.Test.YtehjjobnmlhjlaaDoorUnhex
namespace Go.Proofs.YtehjjobnmlhjlaaDoor
open Go.RowKit

set_option maxHeartbeats 1000000 in
theorem digit_yes (c : UInt8) (n : Nat) (w : World) (h : hv c = some n) : Calls Tryd.prog 29 #[.int .u8 c.toNat] w fun e w' => e = .returned (.int .i64 n) ∧ w' = w := by
  have hc := c.toNat_lt
  unfold hv at h
  by_cases h1 : 48 ≤ c.toNat ∧ c.toNat ≤ 57
  · rw [if_pos h1] at h
    obtain rfl := Option.some.inj h
    obtain ⟨p1, p2⟩ := h1
    have q1 : (48 : Int) ≤ c.toNat := by omega
    have q2 : (c.toNat : Int) ≤ 57 := by omega
    have e : ((c.toNat - 48 : Nat) : Int) = (c.toNat : Int) - 48 := by omega
    rw [e]
    clear h
    go_enter Tryd.func29, Tryd.ntmps29
    go_wp2
    go_ret
    exact ⟨rfl, rfl⟩
  · rw [if_neg h1] at h
    by_cases h2 : 97 ≤ c.toNat ∧ c.toNat ≤ 102
    · rw [if_pos h2] at h
      obtain rfl := Option.some.inj h
      obtain ⟨p1, p2⟩ := h2
      have q0 : ¬ (c.toNat : Int) ≤ 57 := by omega
      have q1 : (97 : Int) ≤ c.toNat := by omega
      have q2 : (c.toNat : Int) ≤ 102 := by omega
      have e : ((c.toNat - 87 : Nat) : Int) = (c.toNat : Int) - 97 + 10 := by omega
      rw [e]
      clear h h1
      go_enter Tryd.func29, Tryd.ntmps29
      go_wp2
      go_ret
      exact ⟨rfl, rfl⟩
    · rw [if_neg h2] at h
      by_cases h3 : 65 ≤ c.toNat ∧ c.toNat ≤ 70
      · rw [if_pos h3] at h
        obtain rfl := Option.some.inj h
        obtain ⟨p1, p2⟩ := h3
        have q0 : ¬ (c.toNat : Int) ≤ 57 := by omega
        have q4 : ¬ (97 : Int) ≤ c.toNat := by omega
        have q1 : (65 : Int) ≤ c.toNat := by omega
        have q2 : (c.toNat : Int) ≤ 70 := by omega
        have e : ((c.toNat - 55 : Nat) : Int) = (c.toNat : Int) - 65 + 10 := by omega
        rw [e]
        clear h h1 h2
        go_enter Tryd.func29, Tryd.ntmps29
        go_wp2
        go_ret
        exact ⟨rfl, rfl⟩
      · rw [if_neg h3] at h
        cases h
set_option maxHeartbeats 1000000 in
theorem digit_no (c : UInt8) (w : World) (h : hv c = none) : Calls Tryd.prog 29 #[.int .u8 c.toNat] w fun e w' => e = .returned (.int .i64 (-1)) ∧ w' = w := by
  rcases hv_none h with h1 | ⟨h1, h2⟩ | ⟨h1, h2⟩ | h1
  all_goals
    clear h
    go_enter Tryd.func29, Tryd.ntmps29
    go_wp2
    go_ret
    exact ⟨rfl, rfl⟩

/-- How the reference's Unhex ends. -/
def RefEnds (s : ByteArray) (w : World) (e : Ending) (w' : World) : Prop :=
  Below w.heap.size w w' ∧
  ((∃ n g c, s.size = 2 * n ∧ (∀ j, j < n → okAt s.data.toList j) ∧ e = .returned (.tuple #[.slice (some ⟨g, 0, none⟩) n c, .bool true]) ∧ w'.ownsRow w.heap.size 5 1 (.slice (some ⟨g, 0, none⟩) n c) n (bvs (unB s.data.toList n))) ∨
   ((s.size % 2 = 1 ∨ ∃ j, 2 * j + 1 < s.size ∧ ¬ okAt s.data.toList j) ∧ e = .returned (.tuple #[.slice none 0 0, .bool false])))

theorem own_new0 (w : World) : (w.alloc (.cells #[] 5)).ownsRow w.heap.size 5 1 (.slice (some ⟨w.heap.size, 0, none⟩) 0 0) 0 [] :=
  ⟨rfl, .inr ⟨w.heap.size, 0, #[], rfl, Nat.le_refl _, heap_alloc_new w _, Nat.le_refl _, by unfold maxLen; omega, rfl, rfl⟩⟩

set_option maxRecDepth 100000 in
set_option maxHeartbeats 1000000 in
theorem refUnhex_any (s : ByteArray) (w : World) (hs : s.size ≤ 1000000) : Calls Tryd.prog 22 #[.string s] w fun e w' => RefEnds s w e w' := by
  by_cases hodd : s.size % 2 = 1
  · have h1 : (s.size : Int) % 2 = 1 := by omega
    go_enter Tryd.func22, Tryd.ntmps22
    go_wp2
    go_ret2
    exact ⟨Below.refl _ _, .inr ⟨.inl hodd, rfl⟩⟩
  · obtain ⟨n, hn⟩ : ∃ n, s.size = 2 * n := ⟨s.size / 2, by omega⟩
    obtain ⟨i0, hi, hz0, hz1, hz2⟩ := info_parts info5
    have HI := hid hi
    have HI0 := hid hz0
    have HI1 := hid hz1
    have HI2 := hid hz2
    have HN := hid hn
    have h0 : (s.size : Int) % 2 = 0 := by omega
    clear hi hz0 hz1 hz2 hodd hn
    go_enter Tryd.func22, Tryd.ntmps22
    go_wp2_with fail
    clear h0
    go_loopw [4, 5] (fun v i wr => ∃ (k g c : Nat), k ≤ n ∧ i = .int .i64 (2 * k) ∧ v = .slice (some ⟨g, 0, none⟩) k c ∧ Hid (∀ j, j < k → okAt s.data.toList j) ∧ Hid (wr.ownsRow w.heap.size 5 1 (.slice (some ⟨g, 0, none⟩) k c) k (bvs (unB s.data.toList k))) ∧ Hid (Below w.heap.size w wr)) (fun _ i _ => s.size - (intOf i).toNat)
    case atStart => exact ⟨0, w.heap.size, 0, by omega, rfl, rfl, fun j hj => by omega, own_new0 w, (Below.refl _ _).alloc (Nat.le_refl _) _⟩
    case round =>
      obtain ⟨k, g, c, hk, rfl, rfl, HOK, HO, HB⟩ := hrel
      by_cases hlt : k < n
      · have k1 : 2 * k < s.size := by have := HN.out; omega
        have k2 : 2 * k + 1 < s.size := by have := HN.out; omega
        have kk : 2 * (k : Int) < (s.size : Int) := by omega
        obtain ⟨c1, e1⟩ : ∃ c, c = s[2 * k] := ⟨_, rfl⟩
        obtain ⟨c2, e2⟩ : ∃ c, c = s[2 * k + 1] := ⟨_, rfl⟩
        have E1 : Hid (c1 = s.data.toList.getD (2 * k) 0) := by show _ = _; rw [e1, str_at]
        have E2 : Hid (c2 = s.data.toList.getD (2 * k + 1) 0) := by show _ = _; rw [e2, str_at]
        have ix1 : ∀ W, (Instr.index 9 (.string s) (.int .i64 (2 * (k : Int)))).run Tryd.prog W = .ok (.int .u8 c1.toNat) W := fun W => by
          have : s[(2 * (k : Int)).toNat]? = some c1 := by rw [e1, show (2 * (k : Int)).toNat = 2 * k from by omega]; simp [k1]
          have hp : (0 : Int) ≤ 2 * (k : Int) := by omega
          simp only [Instr.index, asIntOf, Sem.run_bind, Sem.run_pure, Result.andThen_ok, run_underlying Tryd.underlying9, if_pos hp, this]
        have ix2 : ∀ W, (Instr.index 9 (.string s) (.int .i64 (2 * (k : Int) + 1))).run Tryd.prog W = .ok (.int .u8 c2.toNat) W := fun W => by
          have : s[(2 * (k : Int) + 1).toNat]? = some c2 := by rw [e2, show (2 * (k : Int) + 1).toNat = 2 * k + 1 from by omega]; simp [k2]
          have hp : (0 : Int) ≤ 2 * (k : Int) + 1 := by omega
          simp only [Instr.index, asIntOf, Sem.run_bind, Sem.run_pure, Result.andThen_ok, run_underlying Tryd.underlying9, if_pos hp, this]
        clear e1 e2
        cases g1 : hv c1 with
        | none =>
          have V1 := hid (fun W => digit_no c1 W g1)
          have NO : Hid (¬ okAt s.data.toList k) := fun h => by have := h.1; rw [← E1.out, g1] at this; cases this
          clear g1
          go_wp2_with fail
          refine (V1.out _).mono ?_
          rintro e w1 ⟨rfl, rfl⟩
          go_wp2_with fail
          go_ret2
          exact ⟨HB.out, .inr ⟨.inr ⟨k, by omega, NO.out⟩, rfl⟩⟩
        | some a =>
          have V1 := hid (fun W => digit_yes c1 a W g1)
          cases g2 : hv c2 with
          | none =>
            have V2 := hid (fun W => digit_no c2 W g2)
            have NO : Hid (¬ okAt s.data.toList k) := fun h => by have := h.2; rw [← E2.out, g2] at this; cases this
            clear g1 g2
            go_wp2_with fail
            refine (V1.out _).mono ?_
            rintro e w1 ⟨rfl, rfl⟩
            go_wp2_with fail
            refine (V2.out _).mono ?_
            rintro e w1 ⟨rfl, rfl⟩
            go_wp2_with fail
            go_ret2
            exact ⟨HB.out, .inr ⟨.inr ⟨k, by omega, NO.out⟩, rfl⟩⟩
          | some b =>
            have V2 := hid (fun W => digit_yes c2 b W g2)
            have ha := hv_lt g1
            have hb := hv_lt g2
            have YES : Hid (okAt s.data.toList k) := by
              refine ⟨?_, ?_⟩
              · rw [← E1.out, g1]; rfl
              · rw [← E2.out, g2]; rfl
            have HP : Hid ((16 * (a : Int) + (b : Int)) = ((pairB s.data.toList k).toNat : Int)) := by
              show _ = _
              unfold pairB
              rw [← E1.out, ← E2.out, g1, g2, UInt8.toNat_ofNat']
              show _ = (((16 * a + b) % 2 ^ 8 : Nat) : Int)
              omega
            have HON : Hid (∀ u ∈ [Value.int .u8 (16 * (a : Int) + (b : Int))], u.oneCell' = true) := fun u hu => by
              simp only [List.mem_cons, List.not_mem_nil, or_false] at hu
              subst hu; rfl
            have hsz : w.heap.size ≤ wr.heap.size := HB.out.size
            clear g1 g2
            go_wp2_with fail
            refine (V1.out _).mono ?_
            rintro e w1 ⟨rfl, rfl⟩
            go_wp2_with fail
            refine (V2.out _).mono ?_
            rintro e w1 ⟨rfl, rfl⟩
            go_wp2_with fail
            have r1 : IntKind.i64.wrap (2 * (k : Int) + 1) = 2 * (k : Int) + 1 := by rw [IntKind.wrap_i64]; omega
            have r2 : IntKind.i64.wrap (16 * (a : Int)) = 16 * (a : Int) := by rw [IntKind.wrap_i64]; omega
            have r3 : IntKind.i64.wrap (16 * (a : Int) + (b : Int)) = 16 * (a : Int) + (b : Int) := by rw [IntKind.wrap_i64]; omega
            have r4 : IntKind.u8.wrap (16 * (a : Int) + (b : Int)) = 16 * (a : Int) + (b : Int) := by rw [IntKind.wrap_u8]; omega
            have r5 : (16 * (a : Int) + (b : Int)) % 256 = 16 * (a : Int) + (b : Int) := by omega
            go_region_held3 (fun _ => True) (trivial) ((first
              | (go_at_call_of 29 (Value.int .u8 c1.toNat); refine (V1.out _).mono ?_; rintro e w3 ⟨rfl, rfl⟩)
              | (go_at_call_of 29 (Value.int .u8 c2.toNat); refine (V2.out _).mono ?_; rintro e w3 ⟨rfl, rfl⟩)
              | (refine step_append_lies _ (by rfl) _ _ 22 (by rfl) w.heap.size 5 i0 (.int .u8 0) 1 1 Tryd.underlying22 HI.out HI0.out HI1.out HI2.out rfl (by decide) _ k (bvs (unB s.data.toList k)) (by rfl) (by exact HO.out.alloc _) ⟨w1.heap.size, 0, none⟩ 1 1 [Value.int .u8 (16 * (a : Int) + (b : Int))] (by rfl) rfl (by exact World.news_of_block (heap_alloc_new w1 _)) HON.out (by omega) (by unfold maxLen; omega) (by omega) (by simp; omega) (w1.heap.size + 1) (by simp) ?_; intro g2 d2 w2 hown2 hgr2 hat2 hlt2)))
            all_goals
              have HO2 := hid hown2
              have hgr3 : (w1.alloc (.cells #[Value.int .u8 (16 * (a : Int) + (b : Int))] 5)).drew.grownBy w2 (some g) := hgr2
              have hB2 : Below w.heap.size w w2 := by
                refine ((HB.out.alloc hsz _).drew).grown hgr3 ?_ ?_
                · simp; omega
                · intro k hk
                  cases hk
                  rcases HO.out.2 with ⟨h0, _⟩ | ⟨g', c', cur, h1, h2, _⟩
                  · cases h0
                  · cases h1; exact h2
              have HB2 := hid hB2
              clear hown2 hgr2 hgr3 hat2 hlt2 hB2
              go_wp2_with fail
              go_roundw
              case rel =>
                refine ⟨k + 1, g2, d2, by omega, by go_num, rfl, fun j hj => ?_, ?_, HB2⟩
                · rcases Nat.lt_succ_iff_lt_or_eq.1 hj with h | rfl
                  · exact HOK.out j h
                  · exact YES.out
                · show World.ownsRow _ _ _ _ _ _ _
                  have e : bvs (unB s.data.toList (k + 1)) = bvs (unB s.data.toList k) ++ [Value.int .u8 (16 * (a : Int) + (b : Int))] := by rw [unB_succ, HP.out]; simp [bvs]
                  rw [e]
                  exact HO2.out
              case measure => simp [intOf]; omega
      · have ho := HO.out
        rw [show k = n from by omega] at ho
        have HO2 := hid ho
        have HOK2 : Hid (∀ j, j < n → okAt s.data.toList j) := fun j hj => HOK.out j (by omega)
        have hkn : k = n := by omega
        subst hkn
        have kk : ¬ 2 * (k : Int) < (s.size : Int) := by have := HN.out; omega
        clear ho HO
        go_wp2_with fail
        go_ret2
        exact ⟨HB.out, .inl ⟨k, g, c, HN.out, HOK2.out, rfl, HO2.out⟩⟩

end Go.Proofs.YtehjjobnmlhjlaaDoor
