
/- What SealOpens does at every input. -/
import Derived.Test.YtggbianodoneeaaDoorRefSeaC
import Derived.Test.YtggbianodoneeaaDoorSealE
namespace Go.Proofs.YtggbianodoneeaaDoor
open Go.RowKit
set_option linter.unusedSimpArgs false
set_option linter.unusedVariables false

def openX (key label t : List UInt8) : ByteArray := if openE key label t = 0 then ⟨(openB key t).toArray⟩ else ⟨#[]⟩
/-- What is answered reads so, and will. -/
def Answers (w : World) (v : Value) (X : ByteArray) : Prop := ∀ w', Below w.heap.size w w' → (convert 31 9 v).run Tryd.prog w' = .ok (.string X) w'
theorem Answers.nil (w : World) : Answers w (.slice none 0 0) ⟨#[]⟩ := fun w' _ => str_nil w'
theorem Answers.of_bytes {w : World} {A : Addr} {n c : Nat} {l : List UInt8} (h : BytesAt w (some A) l) (hl : l.length = n) : Answers w (.slice (some A) n c) ⟨l.toArray⟩ := fun w' hb => str_part (h.below hb (Nat.le_refl _)) hl
theorem Answers.below {w w' : World} {v : Value} {X : ByteArray} (h : Answers w v X) (hb : Below w.heap.size w w') : Answers w' v X := fun w'' h2 => h w'' (hb.trans (h2.mono hb.size))
theorem openB_len (key t : List UInt8) : (openB key t).length = t.length - 48 := by
  unfold openB; rw [turnB_len, List.length_drop, List.length_take]; omega

theorem open_all (key t : List UInt8) (s : ByteArray) (A1 A2 : Option Addr) (c1 c2 : Nat) (w : World) (hT : TabS w) (hA1 : BytesAt w A1 key) (hA2 : BytesAt w A2 t) (hc1 : key.length ≤ c1) (hl1 : key.length ≤ 100000) (hc2 : t.length ≤ c2) :
    Calls Tryd.prog 21 #[.slice A1 key.length c1, .string s, .slice A2 t.length c2] w fun e w' => (∃ A n c, e = .returned (.tuple #[.slice A n c, .int .i64 (openE key s.data.toList t)]) ∧ Answers w' (.slice A n c) (openX key s.data.toList t)) ∧ Below w.heap.size w w' := by
  unfold openX openE
  rw [ba_len]
  by_cases h1 : 256 < s.size ∨ 4144 < t.length
  · rw [if_pos h1]
    refine (open_long A1 A2 key.length c1 t.length c2 s w h1).mono ?_
    rintro e w' ⟨rfl, rfl⟩
    exact ⟨⟨none, 0, 0, rfl, Answers.nil _⟩, Below.refl _ _⟩
  · rw [if_neg h1]
    by_cases h2 : t.length < 48
    · rw [if_pos h2]
      refine (open_short A1 A2 key.length c1 t.length c2 s w (by omega) h2).mono ?_
      rintro e w' ⟨rfl, rfl⟩
      exact ⟨⟨none, 0, 0, rfl, Answers.nil _⟩, Below.refl _ _⟩
    · rw [if_neg h2]
      obtain ⟨q, o, rfl, _, _⟩ := hA2 (by omega)
      refine (open_mid key t s A1 q o c1 c2 w hT hA1 hA2 hc1 hl1 hc2 (by omega) (by omega) (by omega)).mono ?_
      rintro e w' ⟨h | h, hb⟩
      · rw [if_neg h.1]
        exact ⟨⟨none, 0, 0, h.2, Answers.nil _⟩, hb⟩
      · obtain ⟨he, O, rfl, _, hr⟩ := h
        rw [if_pos he]
        exact ⟨⟨_, _, _, rfl, Answers.of_bytes (BytesAt.of_row hr) (openB_len key t)⟩, hb⟩
theorem refOpen_all (key t : List UInt8) (s : ByteArray) (A1 A2 : Option Addr) (c1 c2 : Nat) (w : World) (hA1 : BytesAt w A1 key) (hA2 : BytesAt w A2 t) (hl1 : key.length ≤ 100000) (hc2 : t.length ≤ c2) :
    Calls Tryd.prog 22 #[.slice A1 key.length c1, .string s, .slice A2 t.length c2] w fun e w' => (∃ A n c, e = .returned (.tuple #[.slice A n c, .int .i64 (openE key s.data.toList t)]) ∧ Answers w' (.slice A n c) (openX key s.data.toList t)) ∧ Below w.heap.size w w' := by
  unfold openX openE
  rw [ba_len]
  by_cases h1 : 256 < s.size ∨ 4144 < t.length
  · rw [if_pos h1]
    refine (refOpen_long A1 A2 key.length c1 t.length c2 s w h1).mono ?_
    rintro e w' ⟨rfl, rfl⟩
    exact ⟨⟨none, 0, 0, rfl, Answers.nil _⟩, Below.refl _ _⟩
  · rw [if_neg h1]
    by_cases h2 : t.length < 48
    · rw [if_pos h2]
      refine (refOpen_short A1 A2 key.length c1 t.length c2 s w (by omega) h2).mono ?_
      rintro e w' ⟨rfl, rfl⟩
      exact ⟨⟨none, 0, 0, rfl, Answers.nil _⟩, Below.refl _ _⟩
    · rw [if_neg h2]
      obtain ⟨q, o, rfl, _, _⟩ := hA2 (by omega)
      refine (refOpen_mid key t s A1 q o c1 c2 w hA1 hA2 hl1 hc2 (by omega) (by omega) (by omega)).mono ?_
      rintro e w' ⟨h | h, hb⟩
      · rw [if_neg h.1]
        exact ⟨⟨none, 0, 0, h.2, Answers.nil _⟩, hb⟩
      · obtain ⟨he, g, c, rfl, ho⟩ := h
        rw [if_pos he]
        exact ⟨⟨_, _, _, rfl, Answers.of_bytes ho.bytes (openB_len key t)⟩, hb⟩

set_option maxRecDepth 100000 in
set_option maxHeartbeats 4000000 in
theorem opens_law (a0 : Option Addr) (len0 cap0 : Nat) (z0 : List Int) (s : ByteArray) (a2 : Option Addr) (len2 cap2 : Nat) (z2 : List Int) (w : World) (h0 : IsRow .u8 w a0 len0 cap0 z0) (h2 : IsRow .u8 w a2 len2 cap2 z2) (hT : TabS w) :
    Calls Tryd.prog 6 #[.slice a0 len0 cap0, .string s, .slice a2 len2 cap2] w fun e w' => e = .returned (.bool true) ∧ Below w.heap.size w w' := by
  have HAW := hid awake4_any
  have HT := hid hT
  have hT1 := hT.lt
  obtain ⟨key, rfl, hc0, hA⟩ := row_at h0 (by omega)
  obtain ⟨t, rfl, hc2, hB⟩ := row_at h2 (by omega)
  have HA := hid hA
  have HB := hid hB
  clear hT h0 h2 hA hB
  by_cases hl1 : (key.length : Int) ≤ 500
  case neg =>
    go_enter Tryd.func6, Tryd.ntmps6
    go_wp2_with (go_at_call 17; refine (HAW.out _ HT.out).mono ?_; rintro e w1 ⟨rfl, hb1⟩)
    go_ret
    exact ⟨rfl, hb1⟩
  by_cases hl2 : (s.size : Int) ≤ 600
  case neg =>
    go_enter Tryd.func6, Tryd.ntmps6
    go_wp2_with (go_at_call 17; refine (HAW.out _ HT.out).mono ?_; rintro e w1 ⟨rfl, hb1⟩)
    go_ret
    exact ⟨rfl, hb1⟩
  by_cases hl3 : (t.length : Int) ≤ 6000
  case neg =>
    go_enter Tryd.func6, Tryd.ntmps6
    go_wp2_with (go_at_call 17; refine (HAW.out _ HT.out).mono ?_; rintro e w1 ⟨rfl, hb1⟩)
    go_ret
    exact ⟨rfl, hb1⟩
  have HP : Hid (∀ W A c, TabS W → BytesAt W a0 key → BytesAt W A t → t.length ≤ c → Calls Tryd.prog 21 #[.slice a0 key.length cap0, .string s, .slice A t.length c] W fun e w' => (∃ A n c, e = .returned (.tuple #[.slice A n c, .int .i64 (openE key s.data.toList t)]) ∧ Answers w' (.slice A n c) (openX key s.data.toList t)) ∧ Below W.heap.size W w') := fun W A c h1 h2 h3 h4 => open_all key t s a0 A cap0 c W h1 h2 h3 hc0 (by omega) h4
  have HR : Hid (∀ W, BytesAt W a0 key → BytesAt W a2 t → Calls Tryd.prog 22 #[.slice a0 key.length cap0, .string s, .slice a2 t.length cap2] W fun e w' => (∃ A n c, e = .returned (.tuple #[.slice A n c, .int .i64 (openE key s.data.toList t)]) ∧ Answers w' (.slice A n c) (openX key s.data.toList t)) ∧ Below W.heap.size W w') := fun W h2 h3 => refOpen_all key t s a0 a2 cap0 cap2 W h2 h3 (by omega) hc2
  generalize openE key s.data.toList t = E at HP HR
  generalize openX key s.data.toList t = X at HP HR
  have HB0 : Hid (∀ o1, Below w.heap.size w (w.alloc o1)) := fun o1 => (Below.refl _ _).alloc (Nat.le_refl _) o1
  go_enter Tryd.func6, Tryd.ntmps6
  go_wp2_with (refine wpList_own rfl (.tmp 28) (.tmp 29) 31 rfl w.heap.size w.heap.size 0 0 t.length [] t _ rfl rfl (Own.zero w _ (Nat.le_refl _)) (src_bytes (HB.out.below (HB0.out _) (Nat.le_refl _)) cap2 (fun _ => opt_any _)) (by omega) (by simp) ?_; intro g3 c3 W3 hown3 hgr3 hg3)
  have HO3 : Hid (Own W3 w.heap.size g3 t.length c3 t) := by have := hown3; rw [Nat.zero_add, List.nil_append] at this; exact this
  have HB3 : Hid (Below w.heap.size w W3) := (Own.zero w w.heap.size (Nat.le_refl _)).grown (HB0.out _) (by simp) hgr3
  clear hown3 hgr3 hg3
  refine (HP.out _ _ _ (HT.out.below HB3.out hT1) (HA.out.below HB3.out (Nat.le_refl _)) HO3.out.bytes HO3.out.le).mono ?_
  rintro e W4 ⟨⟨A4, n4, c4, rfl, hx4⟩, hb4⟩
  have HX4 := hid hx4
  have HB4 := hid (HB3.out.trans (hb4.mono HB3.out.size))
  clear hx4 hb4 HO3 HB3 HP
  go_wp2_with fail
  refine (HR.out _ (HA.out.below HB4.out (Nat.le_refl _)) (HB.out.below HB4.out (Nat.le_refl _))).mono ?_
  rintro e W5 ⟨⟨A5, n5, c5, rfl, hx5⟩, hb5⟩
  have s1 := HX4.out W5 hb5
  have s2 := hx5 W5 (Below.refl _ _)
  have HB5 := hid (HB4.out.trans (hb5.mono HB4.out.size))
  clear hx5 hb5 HX4 HB4 HR
  have e0 : (X.toList == X.toList) = true := by simp
  go_wp2_with fail
  refine (HAW.out _ (HT.out.below HB5.out hT1)).mono ?_
  rintro e w1 ⟨rfl, hb1⟩
  go_wp2_with fail
  go_ret
  exact ⟨rfl, HB5.out.trans (hb1.mono HB5.out.size)⟩

end Go.Proofs.YtggbianodoneeaaDoor
