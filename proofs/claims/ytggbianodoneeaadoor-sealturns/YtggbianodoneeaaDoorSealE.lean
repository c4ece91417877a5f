
/- What was sealed is opened; the fourth layer's awake. -/
import Derived.Test.YtggbianodoneeaaDoorSealD
import Derived.Test.YtggbianodoneeaaDoorSealK
namespace Go.Proofs.YtggbianodoneeaaDoor
open Go.RowKit
set_option linter.unusedSimpArgs false
set_option linter.unusedVariables false

theorem seal_take (key nonce label b : List UInt8) : (sealB key nonce label b).take ((sealB key nonce label b).length - 32) = bodyB key nonce b := by
  rw [sealB_len, show nonce.length + b.length + 32 - 32 = (bodyB key nonce b).length from by rw [bodyB_len]; omega]
  unfold sealB
  exact List.take_left
theorem seal_drop (key nonce label b : List UInt8) : (sealB key nonce label b).drop ((sealB key nonce label b).length - 32) = tagB key label (bodyB key nonce b) := by
  rw [sealB_len, show nonce.length + b.length + 32 - 32 = (bodyB key nonce b).length from by rw [bodyB_len]; omega]
  unfold sealB
  exact List.drop_left
theorem seal_open (key nonce label b : List UInt8) (hn : nonce.length = 16) : openB key (sealB key nonce label b) = b := by
  unfold openB
  rw [seal_take]
  have e1 : (sealB key nonce label b).take 16 = nonce := by
    unfold sealB bodyB
    rw [List.append_assoc, ← hn]; exact List.take_left
  have e2 : (bodyB key nonce b).drop 16 = turnB key nonce b := by
    unfold bodyB
    rw [← hn]; exact List.drop_left
  rw [e1, e2, turn_back]
/-- Open of a sealed text, by its key and label. -/
theorem open_sealed (key nonce b : List UInt8) (hn : nonce.length = 16) (s : ByteArray) (A1 : Option Addr) (g c1 c2 : Nat) (w : World) (hT : TabS w) (hA1 : BytesAt w A1 key) (hA2 : BytesAt w (some ⟨g, 0, none⟩) (sealB key nonce s.data.toList b)) (hc1 : key.length ≤ c1) (hl1 : key.length ≤ 100000) (hc2 : b.length + 48 ≤ c2) (hls : s.size ≤ 256) (hlb : b.length ≤ 4096) :
    Calls Tryd.prog 21 #[.slice A1 key.length c1, .string s, .slice (some ⟨g, 0, none⟩) (b.length + 48) c2] w fun e w' => (∃ O, e = .returned (.tuple #[.slice (some ⟨O, 0, none⟩) b.length b.length, .int .i64 0]) ∧ w.heap.size ≤ O ∧ w'.heap[O]? = some (.cells (bcs b) 5 (0, 0))) ∧ Below w.heap.size w w' := by
  have hL : (sealB key nonce s.data.toList b).length = b.length + 48 := by rw [sealB_len]; omega
  have := open_mid key (sealB key nonce s.data.toList b) s A1 g 0 c1 c2 w hT hA1 hA2 hc1 hl1 (by omega) hls (by omega) (by omega)
  rw [seal_take, seal_drop, seal_open key nonce s.data.toList b hn, hL] at this
  refine this.mono ?_
  rintro e w' ⟨h | h, hb⟩
  · exact absurd rfl h.1
  · obtain ⟨_, O, h1, h2, h3⟩ := h
    refine ⟨⟨O, ?_, h2, h3⟩, hb⟩
    rw [h1, show b.length + 48 - 48 = b.length from by omega]
/-- Open of a sealed text by a label under which its tag is another one. -/
theorem open_other (key nonce b : List UInt8) (hn : nonce.length = 16) (label : List UInt8) (s : ByteArray) (hne : tagB key label (bodyB key nonce b) ≠ tagB key s.data.toList (bodyB key nonce b)) (A1 : Option Addr) (g c1 c2 : Nat) (w : World) (hT : TabS w) (hA1 : BytesAt w A1 key) (hA2 : BytesAt w (some ⟨g, 0, none⟩) (sealB key nonce label b)) (hc1 : key.length ≤ c1) (hl1 : key.length ≤ 100000) (hc2 : b.length + 48 ≤ c2) (hls : s.size ≤ 256) (hlb : b.length ≤ 4096) :
    Calls Tryd.prog 21 #[.slice A1 key.length c1, .string s, .slice (some ⟨g, 0, none⟩) (b.length + 48) c2] w fun e w' => e = .returned (.tuple #[.slice none 0 0, .int .i64 11]) ∧ Below w.heap.size w w' := by
  have hL : (sealB key nonce label b).length = b.length + 48 := by rw [sealB_len]; omega
  have := open_mid key (sealB key nonce label b) s A1 g 0 c1 c2 w hT hA1 hA2 hc1 hl1 (by omega) hls (by omega) (by omega)
  rw [seal_take, seal_drop, hL] at this
  refine this.mono ?_
  rintro e w' ⟨h | h, hb⟩
  · exact ⟨h.2, hb⟩
  · exact absurd h.1 hne
theorem built16 : Tryd.prog.built 38 [(0, .int .u8 1)] = some (bcs N16) := by kernel_rfl

set_option maxRecDepth 100000 in
set_option maxHeartbeats 4000000 in
theorem awake4_any (w : World) (hT : TabS w) : Calls Tryd.prog 17 #[] w fun e w' => e = .returned (.bool true) ∧ Below w.heap.size w w' := by
  have HT := hid hT
  have hT1 := hT.lt
  have HSE : Hid (∀ W g h, TabS W → W.heap[g]? = some (.cells (bcs [107]) 5 (1, 2)) → W.heap[h]? = some (.cells (bcs HELLO) 5 (5, 6)) → Calls Tryd.prog 18 #[.slice (some ⟨g, 0, none⟩) 1 1, .agg (bcs N16), .string ⟨#[108]⟩, .slice (some ⟨h, 0, none⟩) 5 5] W fun e w' => (∃ g c, e = .returned (.tuple #[.slice (some ⟨g, 0, none⟩) 53 c, .int .i64 0]) ∧ Own w' W.heap.size g 53 c (sealB [107] N16 [108] HELLO)) ∧ Below W.heap.size W w') := fun W g h h1 h2 h3 =>
    seal_any [107] N16 HELLO rfl ⟨#[108]⟩ _ _ 1 5 W h1 (BytesAt.of_row h2) (BytesAt.of_row h3) (by decide) (by decide) (by decide) (by decide) (by decide)
  have HOP : Hid (∀ W k g c, TabS W → W.heap[k]? = some (.cells (bcs [107]) 5 (1, 2)) → BytesAt W (some ⟨g, 0, none⟩) (sealB [107] N16 [108] HELLO) → 53 ≤ c → Calls Tryd.prog 21 #[.slice (some ⟨k, 0, none⟩) 1 1, .string ⟨#[108]⟩, .slice (some ⟨g, 0, none⟩) 53 c] W fun e w' => (∃ O, e = .returned (.tuple #[.slice (some ⟨O, 0, none⟩) 5 5, .int .i64 0]) ∧ W.heap.size ≤ O ∧ w'.heap[O]? = some (.cells (bcs HELLO) 5 (0, 0))) ∧ Below W.heap.size W w') := fun W k g c h1 h2 h3 h4 =>
    open_sealed [107] N16 HELLO rfl ⟨#[108]⟩ _ g 1 c W h1 (BytesAt.of_row h2) h3 (by decide) (by decide) h4 (by decide) (by decide)
  have HOT : Hid (∀ W k g c, TabS W → W.heap[k]? = some (.cells (bcs [107]) 5 (1, 2)) → BytesAt W (some ⟨g, 0, none⟩) (sealB [107] N16 [108] HELLO) → 53 ≤ c → Calls Tryd.prog 21 #[.slice (some ⟨k, 0, none⟩) 1 1, .string ⟨#[109]⟩, .slice (some ⟨g, 0, none⟩) 53 c] W fun e w' => e = .returned (.tuple #[.slice none 0 0, .int .i64 11]) ∧ Below W.heap.size W w') := fun W k g c h1 h2 h3 h4 =>
    open_other [107] N16 HELLO rfl [108] ⟨#[109]⟩ (by show tagB [107] [108] (N16 ++ turnB [107] N16 HELLO) ≠ tagB [107] [109] (N16 ++ turnB [107] N16 HELLO); rw [body_k]; exact tags_unlike) _ g 1 c W h1 (BytesAt.of_row h2) h3 (by decide) (by decide) h4 (by decide) (by decide)
  generalize sealB [107] N16 [108] HELLO = D at HSE HOP HOT
  have HBZ := hid built16
  generalize bcs N16 = Z at HSE HBZ
  clear hT
  go_enter Tryd.func17, Tryd.ntmps17
  have hcv : ∀ W : World, (convert 31 31 (.slice (some ⟨W.heap.size, 0, none⟩) 1 1)).run Tryd.prog (W.alloc (.cells #[.int .u8 107] 5)) = .ok (.slice (some ⟨W.heap.size, 0, none⟩) 1 1) (W.alloc (.cells #[.int .u8 107] 5 (1, 2))) := fun W => Lib.run_convert_bytes_const (P := Tryd.prog) W 31 5 #[.int .u8 107] 1 1 Tryd.underlying31 Tryd.underlying5
  have hcw := Lib.run_convert_bytes_const (P := Tryd.prog) (w.alloc (.cells #[.int .u8 107] 5 (1, 2))) 31 5 #[.int .u8 104, .int .u8 101, .int .u8 108, .int .u8 108, .int .u8 111] 5 5 Tryd.underlying31 Tryd.underlying5
  simp only [World.size_alloc] at hcw
  have HB2 : Hid (∀ o1 o2, Below w.heap.size w ((w.alloc o1).alloc o2)) := fun o1 o2 => ((Below.refl _ _).alloc (Nat.le_refl _) o1).alloc (by simp) o2
  go_wp2_with (refine wpList_built rfl 38 _ rfl Z HBZ.out ?_)
  refine (HSE.out _ _ _ (HT.out.below (HB2.out _ _) hT1) (heap_alloc2_old w _ _) (heap_alloc2_new w _ _)).mono ?_
  rintro e W1 ⟨⟨g, c, rfl, ho1⟩, hb1⟩
  have HB1 := hid ((HB2.out _ _).trans (hb1.mono (by simp; omega)))
  have HO1 := hid ho1
  have hc53 := ho1.le
  clear ho1 hb1 hcw HSE
  go_wp2_with fail
  have HA1 : Hid (∀ o1, Below W1.heap.size W1 (W1.alloc o1)) := fun o1 => (Below.refl _ _).alloc (Nat.le_refl _) o1
  have hz1 := HB1.out.size
  refine (HOP.out _ _ _ _ (HT.out.below (HB1.out.trans ((HA1.out _).mono hz1)) hT1) (heap_alloc_new W1 _) (HO1.out.alloc _).bytes hc53).mono ?_
  rintro e W2 ⟨⟨O, rfl, hO, hr2⟩, hb2⟩
  have HR2 := hid hr2
  have HO2 : Hid (Own W2 _ g 53 c D) := (HO1.out.alloc _).below hb2 (Nat.le_refl _)
  have HB2' := hid ((HB1.out.trans ((HA1.out _).mono hz1)).trans (hb2.mono (by simp; omega)))
  clear hO hr2 hb2 HOP HB1 HA1 HB2 hz1
  go_wp2_with fail
  have HA2 : Hid (∀ o1, Below W2.heap.size W2 (W2.alloc o1)) := fun o1 => (Below.refl _ _).alloc (Nat.le_refl _) o1
  have hz2 := HB2'.out.size
  refine (HOT.out _ _ _ _ (HT.out.below (HB2'.out.trans ((HA2.out _).mono hz2)) hT1) (heap_alloc_new W2 _) (HO2.out.alloc _).bytes hc53).mono ?_
  rintro e W3 ⟨rfl, hb3⟩
  have hOl : O < W2.heap.size := (Array.getElem?_eq_some_iff.1 HR2.out).1
  have hr3 : W3.heap[O]? = some (.cells (bcs HELLO) 5 (0, 0)) := (hb3.block O (by simp; omega)).trans ((Below.heap_alloc W2 _ _ hOl).trans HR2.out)
  have hst : (convert 31 9 (.slice (some ⟨O, 0, none⟩) 5 5)).run Tryd.prog W3 = .ok (.string ⟨#[104, 101, 108, 108, 111]⟩) W3 := str_row (BytesAt.of_row hr3) rfl
  have HB3 := hid ((HB2'.out.trans ((HA2.out _).mono hz2)).trans (hb3.mono (by simp; omega)))
  clear hb3 hr3 HR2 HO1 HO2 HOT HB2' HA2
  go_wp2_with fail
  go_ret
  exact ⟨rfl, HB3.out⟩

end Go.Proofs.YtggbianodoneeaaDoor
