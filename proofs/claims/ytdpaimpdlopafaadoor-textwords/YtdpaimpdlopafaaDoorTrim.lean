/- What text.Trim and the reference's Trim do, call by call, at every text that is not too long: both leave the text without white at its ends. -/
import Derived.Test.YtdpaimpdlopafaaDoorWords
import Derived.Test.YtdpaimpdlopafaaDoorTrimMath
import Derived.Test.YtdpaimpdlopafaaDoorShelfTrim
namespace Go.Proofs.YtdpaimpdlopafaaDoor
open Go.RowKit Go.Lib

theorem tabs_below {w w' : World} (h : Lib.Utf8Tabs 0 1 w) (hb : Below w.heap.size w w') : Lib.Utf8Tabs 0 1 w' := by
  have lt : ∀ (b o : Nat) (v : Value), w.cell? ⟨b, o, none⟩ = some v → b < w.heap.size := fun b o v h => by
    rcases Nat.lt_or_ge b w.heap.size with h' | h'
    · exact h'
    · simp [World.cell?, Array.getElem?_eq_none h'] at h
  refine ⟨fun c hc => ?_, fun i hi => ⟨?_, ?_⟩⟩
  · rw [hb.cell (p := ⟨0, c, none⟩) (lt _ _ _ (h.1 c hc))]; exact h.1 c hc
  · rw [hb.cell (p := ⟨1, 2 * i, none⟩) (lt _ _ _ (h.2 i hi).1)]; exact (h.2 i hi).1
  · rw [hb.cell (p := ⟨1, 2 * i + 1, none⟩) (lt _ _ _ (h.2 i hi).2)]; exact (h.2 i hi).2

theorem pred_white (w : World) : PredAt Tryd.prog 17 #[] encR whN w := by
  intro W x _
  show Calls Tryd.prog 17 #[.int .i32 (x : Int)] W _
  refine (white_any (x : Int) W).mono ?_
  rintro e w' ⟨rfl, rfl⟩
  exact ⟨rfl, 0, rfl⟩

/-- The text without white at its ends, as strings.TrimFunc leaves it. -/
def trm (s : ByteArray) : ByteArray := Lib.trimF whN s

theorem trm_size (s : ByteArray) : (trm s).size ≤ s.size := by
  obtain ⟨a, b, _, h⟩ := trimF_is s
  unfold trm
  rw [h, Lib.size_eq, Lib.size_eq s]
  show (trimB s.data.toList a b).length ≤ _
  unfold trimB
  rw [List.length_take, List.length_drop]; omega

set_option maxHeartbeats 1000000 in
set_option maxRecDepth 1000000 in
theorem trim_any (s : ByteArray) (w : World) (hs : s.size ≤ 1000000) (hT : Hid (Lib.Utf8Tabs 0 1 w)) :
    Calls Tryd.prog 10 #[.string s] w fun e w' => e = .returned (.string (trm s)) ∧ Below w.heap.size w w' := by
  have eg : Hid (∀ args w, (callFunc 17 args).run Tryd.prog w = .ok (.enter 17 args) w) := enters_of Tryd.func17 (by kernel_rfl) rfl
  have hz := trm_size s
  have HC : Hid (∀ (W : World), Lib.Utf8Tabs 0 1 W → Calls Tryd.prog 21 #[.string s, .func (.func 17) #[] #[]] W fun e w' => e = .returned (.string (trm s)) ∧ Below W.heap.size W w') :=
    fun W h2 => Tryd.strings_TrimFunc 17 #[] eg.out whN s W (by omega) h2 (pred_white W)
  clear eg
  generalize trm s = t at HC hz ⊢
  go_enter Tryd.func10, Tryd.ntmps10
  go_wp2_with (first
    | (go_at_call 21; refine (HC.out _ hT.out).mono ?_; rintro e w1 ⟨rfl, hb1⟩)
    | (go_at_call 20; refine (clone_any t _ (by omega)).mono ?_; rintro e w2 ⟨rfl, hb2⟩))
  go_ret
  exact ⟨rfl, hb1.trans (hb2.mono hb1.size)⟩

theorem byte_at (s : ByteArray) (p : Nat) (h : p < s.size) : s.data.toList.getD p 0 = s[p] := by rw [← get_eq, get_at s p h]

set_option maxHeartbeats 1000000 in
theorem white8 (c : UInt8) (w : World) : Calls Tryd.prog 19 #[.int .u8 c.toNat] w fun e w' => e = .returned (.bool (whB c)) ∧ w' = w := by
  rw [← whN_eq]
  unfold whN whiteR
  generalize (c.toNat : Int) = x
  go_enter Tryd.func19, Tryd.ntmps19
  go_wp2
  all_goals (go_ret; refine ⟨?_, rfl⟩)
  all_goals simp_all

set_option maxHeartbeats 2000000 in
set_option maxRecDepth 1000000 in
theorem refTrim_any (s : ByteArray) (w : World) (hs : s.size ≤ 1000000) :
    Calls Tryd.prog 11 #[.string s] w fun e w' => (∃ a b, IsTrim s.data.toList a b ∧ e = .returned (.string (s.extract a b))) ∧ w' = w := by
  go_enter Tryd.func11, Tryd.ntmps11
  go_wp2
  go_loop [3] (fun t => ∃ a : Nat, a ≤ s.size ∧ t = .int .i64 a ∧ Hid (∀ j, j < a → whB (s.data.toList.getD j 0) = true)) (fun t => s.size - (intOf t).toNat)
  case atStart => exact ⟨0, Nat.zero_le _, rfl, fun j hj => by omega⟩
  case round =>
    obtain ⟨a, ha, rfl, hA⟩ := hrel
    by_cases hp : a < s.size
    · have HB := Lib.hid (byte_at s a hp)
      cases hq : whB s[a] with
      | true =>
        go_wp2_with (go_at_call 19; refine (white8 _ _).mono ?_; rintro e w' ⟨rfl, rfl⟩)
        go_round
        case rel =>
          refine ⟨a + 1, by omega, by go_num, fun j hj => ?_⟩
          by_cases e : j = a
          · rw [e, HB.out]; exact hq
          · exact hA.out j (by omega)
        case measure => simp [intOf]; omega
      | false =>
        have HF : Hid (whB (s.data.toList.getD a 0) = false) := by show _ = _; rw [HB.out]; exact hq
        go_wp2_with (go_at_call 19; refine (white8 _ _).mono ?_; rintro e w' ⟨rfl, rfl⟩)
        go_loop [4] (fun t => ∃ c : Nat, a ≤ c ∧ c < s.size ∧ t = .int .i64 ((c : Int) + 1) ∧ Hid (∀ j, c + 1 ≤ j → j < s.size → whB (s.data.toList.getD j 0) = true)) (fun t => (intOf t).toNat)
        case atStart => exact ⟨s.size - 1, by omega, by omega, by go_num, fun j h1 h2 => by omega⟩
        case round =>
          obtain ⟨c, hac, hcs, rfl, hC⟩ := hrel
          have HB2 := Lib.hid (byte_at s c hcs)
          cases hq2 : whB s[c] with
          | true =>
            have hne : Hid (a < c) := by
              show _ < _
              rcases Nat.lt_or_ge a c with h | h
              · exact h
              · have e : c = a := by omega
                subst e
                rw [hq] at hq2; simp at hq2
            go_wp2_with (go_at_call 19; refine (white8 _ _).mono ?_; rintro e w' ⟨rfl, rfl⟩)
            go_round
            case rel =>
              have hne := hne.out
              refine ⟨c - 1, by omega, by omega, by go_num, fun j h1 h2 => ?_⟩
              by_cases e : j = c
              · rw [e, HB2.out]; exact hq2
              · exact hC.out j (by omega) h2
            case measure => simp [intOf]
          | false =>
            go_wp2_with (go_at_call 19; refine (white8 _ _).mono ?_; rintro e w' ⟨rfl, rfl⟩)
            go_ret
            refine ⟨⟨a, c + 1, ⟨by omega, by rw [← Lib.size_eq]; omega, hA.out, fun j h1 h2 => hC.out j h1 (by rw [Lib.size_eq]; exact h2), fun _ => ⟨HF.out, ?_⟩⟩, rfl⟩, rfl⟩
            rw [Nat.add_sub_cancel, HB2.out]; exact hq2
    · go_wp2
      refine wp_loop_rounds 1 ?_
      rw [rounds_succ]
      go_wp2
      go_ret
      have e : a = s.size := by omega
      subst e
      refine ⟨⟨s.size, s.size, ⟨Nat.le_refl _, by rw [← Lib.size_eq]; exact Nat.le_refl _, hA.out, fun j h1 h2 => by rw [← Lib.size_eq] at h2; omega, fun h => by omega⟩, rfl⟩, rfl⟩

end Go.Proofs.YtdpaimpdlopafaaDoor
