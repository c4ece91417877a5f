
/- What the reference's Open does (layer 4). -/
import Derived.Test.YtggbianodoneeaaDoorRefSeaB
import Derived.Test.YtggbianodoneeaaDoorSealD
namespace Go.Proofs.YtggbianodoneeaaDoor
open Go.RowKit
set_option linter.unusedSimpArgs false
set_option linter.unusedVariables false

theorem refOpen_long (A1 A2 : Option Addr) (m1 c1 m2 c2 : Nat) (s : ByteArray) (w : World) (h : 256 < s.size ∨ 4144 < m2) :
    Calls Tryd.prog 22 #[.slice A1 m1 c1, .string s, .slice A2 m2 c2] w fun e w' => e = .returned (.tuple #[.slice none 0 0, .int .i64 3]) ∧ w' = w := by
  by_cases h1 : 256 < s.size
  · clear h
    go_enter Tryd.func22, Tryd.ntmps22
    go_wp2_with fail
    go_ret2
    exact ⟨rfl, rfl⟩
  · have h2 : (4144 : Int) < (m2 : Int) := by omega
    have h3 : ¬ (256 : Int) < (s.size : Int) := by omega
    clear h h1
    go_enter Tryd.func22, Tryd.ntmps22
    go_wp2_with fail
    go_ret2
    exact ⟨rfl, rfl⟩
theorem refOpen_short (A1 A2 : Option Addr) (m1 c1 m2 c2 : Nat) (s : ByteArray) (w : World) (h1 : s.size ≤ 256) (h2 : m2 < 48) :
    Calls Tryd.prog 22 #[.slice A1 m1 c1, .string s, .slice A2 m2 c2] w fun e w' => e = .returned (.tuple #[.slice none 0 0, .int .i64 5]) ∧ w' = w := by
  have h3 : ¬ (256 : Int) < (s.size : Int) := by omega
  have h4 : ¬ (4144 : Int) < (m2 : Int) := by omega
  go_enter Tryd.func22, Tryd.ntmps22
  go_wp2_with fail
  go_ret2
  exact ⟨rfl, rfl⟩
theorem str_part {w : World} {A : Addr} {n c : Nat} {l : List UInt8} (h : BytesAt w (some A) l) (hl : l.length = n) : (convert 31 9 (.slice (some A) n c)).run Tryd.prog w = .ok (.string ⟨l.toArray⟩) w := by
  subst hl
  exact str_at h (fun _ => .inr ⟨_, rfl⟩)

set_option maxRecDepth 100000 in
set_option maxHeartbeats 4000000 in
theorem refOpen_mid (key t : List UInt8) (s : ByteArray) (A1 : Option Addr) (q o c1 c2 : Nat) (w : World) (hA1 : BytesAt w A1 key) (hA2 : BytesAt w (some ⟨q, o, none⟩) t) (hl1 : key.length ≤ 100000) (hc2 : t.length ≤ c2) (hls : s.size ≤ 256) (ht1 : 48 ≤ t.length) (ht2 : t.length ≤ 4144) :
    Calls Tryd.prog 22 #[.slice A1 key.length c1, .string s, .slice (some ⟨q, o, none⟩) t.length c2] w fun e w' =>
      ((t.drop (t.length - 32) ≠ tagB key s.data.toList (t.take (t.length - 32)) ∧ e = .returned (.tuple #[.slice none 0 0, .int .i64 11])) ∨
       (t.drop (t.length - 32) = tagB key s.data.toList (t.take (t.length - 32)) ∧ ∃ g c, e = .returned (.tuple #[.slice (some ⟨g, 0, none⟩) (t.length - 48) c, .int .i64 0]) ∧ Own w' w.heap.size g (t.length - 48) c (openB key t))) ∧ Below w.heap.size w w' := by
  have HA1 := hid hA1
  have HA2 := hid hA2
  obtain ⟨n, hn⟩ : ∃ n, n = t.length - 32 := ⟨_, rfl⟩
  have HTN : Hid (t.length = n + 32) := by show _ = _; omega
  have HGL := hid (tagB_len key s.data.toList (t.take n))
  have HDL : Hid ((t.drop n).length = 32) := by show _ = _; rw [List.length_drop]; omega
  have HSP : Hid (∀ W, BytesAt W (some ⟨q, o, none⟩) t → ∀ c, (convert 31 9 (.slice (some ⟨q, o + n, none⟩) 32 c)).run Tryd.prog W = .ok (.string ⟨(t.drop n).toArray⟩) W) := fun W h c => by
    have hb := h.part n 32 (by omega)
    rw [List.take_of_length_le (by rw [List.length_drop]; omega)] at hb
    exact str_part hb HDL.out
  have HTA : Hid (∀ W, BytesAt W A1 key → BytesAt W (some ⟨q, o, none⟩) t → Calls Tryd.prog 23 #[.slice A1 key.length c1, .string s, .slice (some ⟨q, o, none⟩) n c2] W fun e w' => (∃ g c, e = .returned (.slice (some ⟨g, 0, none⟩) 32 c) ∧ (convert 31 9 (.slice (some ⟨g, 0, none⟩) 32 c)).run Tryd.prog w' = .ok (.string ⟨(tagB key s.data.toList (t.take n)).toArray⟩) w') ∧ (convert 31 9 (.slice (some ⟨q, o + n, none⟩) 32 (c2 - n))).run Tryd.prog w' = .ok (.string ⟨(t.drop n).toArray⟩) w' ∧ Below W.heap.size W w') := fun W h2 h3 => by
    have hL : (t.take n).length = n := by rw [List.length_take]; omega
    have := refTag_any key s (t.take n) A1 (some ⟨q, o, none⟩) c1 c2 W h2 (h3.take n) hl1 (by rw [hL]; omega) hls
    rw [hL] at this
    refine this.mono ?_
    rintro e w' ⟨⟨g, c, rfl, ho⟩, hb⟩
    exact ⟨⟨g, c, rfl, str_row ho.bytes HGL.out⟩, HSP.out _ (h3.below hb (Nat.le_refl _)) _, hb⟩
  have HTU : Hid (∀ W, BytesAt W A1 key → BytesAt W (some ⟨q, o, none⟩) t → ∀ c3, Calls Tryd.prog 34 #[.slice A1 key.length c1, .slice (some ⟨q, o, none⟩) 16 c2, .slice (some ⟨q, o + 16, none⟩) (n - 16) c3] W fun e w' => (∃ g c, e = .returned (.slice (some ⟨g, 0, none⟩) (n - 16) c) ∧ Own w' W.heap.size g (n - 16) c (openB key t)) ∧ Below W.heap.size W w') := fun W h2 h3 c3 => by
    have e1 : (t.take 16).length = 16 := by rw [List.length_take]; omega
    have e2 : ((t.drop 16).take (n - 16)).length = n - 16 := by rw [List.length_take, List.length_drop]; omega
    have := refTurned_any key (t.take 16) ((t.drop 16).take (n - 16)) A1 (some ⟨q, o, none⟩) (some ⟨q, o + 16, none⟩) c1 c2 c3 W h2 (h3.take 16) (h3.part 16 (n - 16) (by omega)) hl1 (by omega) (by omega)
    rw [e1, e2] at this
    have e3 : openB key t = turnB key (t.take 16) ((t.drop 16).take (n - 16)) := by
      unfold openB; rw [← hn, List.drop_take]
    rw [e3]
    exact this
  rw [← hn, show t.length - 48 = n - 16 from by omega]
  have HSS := hid (str_same (tagB key s.data.toList (t.take n)) (t.drop n))
  generalize openB key t = D at HTU ⊢
  generalize tagB key s.data.toList (t.take n) = G at HTA HGL HSS ⊢
  have hN1 : t.length = n + 32 := HTN.out
  rw [hN1] at ht1 ht2 hc2 ⊢
  have hq1 : ¬ ((256 : Int) < (s.size : Int)) := by omega
  have hq2 : ¬ ((4144 : Int) < (n : Int) + 32) := by omega
  have hq3 : ¬ ((n : Int) + 32 < 48) := by omega
  have hn16 : 16 ≤ n := by omega
  have hc9 : ¬ c2 = n := by omega
  have hc8 : (n : Int) ≤ (c2 : Int) := by omega
  have hc7 : ¬ c2 = 16 := by omega
  have hc6 : (16 : Int) ≤ (c2 : Int) := by omega
  have hc5 : (16 : Int) ≤ (n : Int) := by omega
  obtain ⟨u, hu⟩ : ∃ u, Hid (u = decide (G = t.drop n)) := ⟨_, rfl⟩
  have e0 := HSS.out
  rw [← hu.out] at e0
  clear HSS
  have s1 := HSP.out w.drew (HA2.out.below (below_drewN w.heap.size w 1) (Nat.le_refl _)) (c2 - n)
  have HTA1 := hid (HTA.out w.drew (HA1.out.below (below_drewN w.heap.size w 1) (Nat.le_refl _)) (HA2.out.below (below_drewN w.heap.size w 1) (Nat.le_refl _)))
  generalize (⟨G.toArray⟩ : ByteArray) = X at HTA1 e0
  generalize (⟨(t.drop n).toArray⟩ : ByteArray) = Y at HTA1 e0 s1
  have HUT : Hid (u = true → t.drop n = G) := fun h => by have := hu.out; rw [h] at this; exact (of_decide_eq_true this.symm).symm
  have HUF : Hid (u = false → t.drop n ≠ G) := fun h => by have := hu.out; rw [h] at this; exact fun e => (of_decide_eq_false this.symm) e.symm
  clear hA1 hA2 hn hN1 hu HTA HSP
  go_enter Tryd.func22, Tryd.ntmps22
  go_wp2_with fail
  go_cut [34] (fun v wx => v = .bool (!u) ∧ Hid (Below w.heap.size w wx))
  case first =>
    go_region_with ((go_at_call 23; refine HTA1.out.mono ?_; rintro e w1 ⟨⟨g, c, rfl, s2⟩, s3, hb1⟩; have HB1 := hid hb1; clear hb1))
    all_goals
      go_wp2_with fail
      go_meet
      case rel => exact ⟨by first | rfl | simp, (below_drewN w.heap.size w 1).trans HB1.out⟩
  case rest =>
    obtain ⟨rfl, HB⟩ := hcut
    clear s1 e0 HTA1
    cases u
    · go_wp2_with fail
      go_ret2
      exact ⟨.inl ⟨HUF.out (by first | rfl | trivial), rfl⟩, HB.out⟩
    · have HTC := hid (HTU.out wc.drew ((HA1.out.below HB.out (Nat.le_refl _)).below (below_drewN wc.heap.size wc 1) (Nat.le_refl _)) ((HA2.out.below HB.out (Nat.le_refl _)).below (below_drewN wc.heap.size wc 1) (Nat.le_refl _)) (c2 - 16))
      clear HTU
      go_wp2_with fail
      go_region_with ((go_at_call 34; refine HTC.out.mono ?_; rintro e w1 ⟨⟨g, c, rfl, ho⟩, hb⟩; have HO9 := hid ho; have HB9 := hid hb; clear ho hb))
      all_goals
        go_wp2_with fail
        go_ret2
        exact ⟨.inr ⟨HUT.out (by first | rfl | trivial), g, c, rfl, HO9.out.mono HB.out.size⟩, (HB.out.trans (below_drewN _ wc 1)).trans (HB9.out.mono HB.out.size)⟩

end Go.Proofs.YtggbianodoneeaaDoor
