
/- What seal.Seal and seal.Size do. -/
import Derived.Test.YtggbianodoneeaaDoorSealB
namespace Go.Proofs.YtggbianodoneeaaDoor
open Go.RowKit
set_option linter.unusedSimpArgs false
set_option linter.unusedVariables false

def bodyB (key nonce b : List UInt8) : List UInt8 := nonce ++ turnB key nonce b
def sealB (key nonce label b : List UInt8) : List UInt8 := bodyB key nonce b ++ tagB key label (bodyB key nonce b)
theorem bodyB_len (key nonce b : List UInt8) : (bodyB key nonce b).length = nonce.length + b.length := by simp [bodyB, turnB_len]
theorem sealB_len (key nonce label b : List UInt8) : (sealB key nonce label b).length = nonce.length + b.length + 32 := by simp [sealB, bodyB_len, tagB_len]

theorem size_bad (n : Int) (hn : n < 0 ∨ 4096 < n) (w : World) : Calls Tryd.prog 20 #[.int .i64 n] w fun e w' => e = .returned (.tuple #[.int .i64 0, .int .i64 3]) ∧ w' = w := by
  rcases Int.lt_or_le n 0 with h | h
  · clear hn
    go_enter Tryd.func20, Tryd.ntmps20
    go_wp2_with fail
    go_ret2
    exact ⟨rfl, rfl⟩
  · have h1 : 4096 < n := by omega
    have h2 : ¬ n < 0 := by omega
    clear hn h
    go_enter Tryd.func20, Tryd.ntmps20
    go_wp2_with fail
    go_ret2
    exact ⟨rfl, rfl⟩
theorem size_any (n : Nat) (hn : n ≤ 4096) (w : World) : Calls Tryd.prog 20 #[.int .i64 (n : Int)] w fun e w' => e = .returned (.tuple #[.int .i64 (48 + (n : Int)), .int .i64 0]) ∧ w' = w := by
  have h1 : ¬ (4096 : Int) < (n : Int) := by omega
  have h2 : ¬ (n : Int) < 0 := by omega
  go_enter Tryd.func20, Tryd.ntmps20
  go_wp2_with fail
  go_ret2
  exact ⟨rfl, rfl⟩
theorem seal_bad (nonce : List UInt8) (s : ByteArray) (A1 A2 : Option Addr) (m1 c1 m2 c2 : Nat) (w : World) (hb : 256 < s.size ∨ 4096 < m2) :
    Calls Tryd.prog 18 #[.slice A1 m1 c1, .agg (bcs nonce), .string s, .slice A2 m2 c2] w fun e w' => e = .returned (.tuple #[.slice none 0 0, .int .i64 3]) ∧ Below w.heap.size w w' := by
  have HB0 : Hid (∀ o1, Below w.heap.size w (w.alloc o1)) := fun o1 => (Below.refl _ _).alloc (Nat.le_refl _) o1
  by_cases h : 256 < s.size
  · clear hb
    go_enter Tryd.func18, Tryd.ntmps18
    go_wp2_with fail
    go_ret2
    exact ⟨rfl, HB0.out _⟩
  · have h2 : (4096 : Int) < (m2 : Int) := by omega
    have h3 : ¬ (256 : Int) < (s.size : Int) := by omega
    clear hb h
    go_enter Tryd.func18, Tryd.ntmps18
    go_wp2_with fail
    go_ret2
    exact ⟨rfl, HB0.out _⟩

set_option maxRecDepth 100000 in
set_option maxHeartbeats 4000000 in
theorem seal_any (key nonce b : List UInt8) (hn : nonce.length = 16) (s : ByteArray) (A1 A2 : Option Addr) (c1 c2 : Nat) (w : World) (hT : TabS w) (hA1 : BytesAt w A1 key) (hA2 : BytesAt w A2 b) (hc1 : key.length ≤ c1) (hl1 : key.length ≤ 100000) (hc2 : b.length ≤ c2) (hls : s.size ≤ 256) (hlb : b.length ≤ 4096) :
    Calls Tryd.prog 18 #[.slice A1 key.length c1, .agg (bcs nonce), .string s, .slice A2 b.length c2] w fun e w' => (∃ g c, e = .returned (.tuple #[.slice (some ⟨g, 0, none⟩) (b.length + 48) c, .int .i64 0]) ∧ Own w' w.heap.size g (b.length + 48) c (sealB key nonce s.data.toList b)) ∧ Below w.heap.size w w' := by
  have HT := hid hT
  have hT1 := hT.lt
  have HA1 := hid hA1
  have HA2 := hid hA2
  have HNL := hid hn
  have HTU : Hid (∀ W, TabS W → BytesAt W A1 key → W.heap[w.heap.size]? = some (.cells (bcs nonce) 38 (0, 0)) → BytesAt W A2 b → Calls Tryd.prog 32 #[.slice A1 key.length c1, .slice (some ⟨w.heap.size, 0, none⟩) 16 16, .slice A2 b.length c2] W fun e w' => ∃ O, e = .returned (.slice (some ⟨O, 0, none⟩) b.length b.length) ∧ W.heap.size ≤ O ∧ w'.heap[O]? = some (.cells (bcs (turnB key nonce b)) 5 (0, 0)) ∧ Below W.heap.size W w') := fun W h1 h2 h3 h4 => by
    have := turned_seal key nonce b A1 (some ⟨w.heap.size, 0, none⟩) A2 c1 16 c2 W h1 h2 (BytesAt.of_row h3) h4 hc1 hl1 (by omega) (by omega) hc2
    rw [hn] at this
    exact this
  have HTB := hid (turnB_len key nonce b)
  have HTA : Hid (∀ W B c, TabS W → BytesAt W A1 key → BytesAt W B (nonce ++ turnB key nonce b) → Calls Tryd.prog 33 #[.slice A1 key.length c1, .string s, .slice B (16 + b.length) c] W fun e w' => e = .returned (.agg (bcs (tagB key s.data.toList (nonce ++ turnB key nonce b)))) ∧ Below W.heap.size W w') := fun W B c h1 h2 h3 => by
    have hL : (nonce ++ turnB key nonce b).length = 16 + b.length := by rw [List.length_append, turnB_len, hn]
    have := tagOf_any key s (nonce ++ turnB key nonce b) A1 B c1 c W h1 h2 h3 hc1 hl1 (by rw [hL]; omega) hls
    rw [hL] at this
    exact this
  have HGL := hid (tagB_len key s.data.toList (nonce ++ turnB key nonce b))
  have HEN : Hid (sealB key nonce s.data.toList b = nonce ++ turnB key nonce b ++ tagB key s.data.toList (nonce ++ turnB key nonce b)) := rfl
  generalize sealB key nonce s.data.toList b = D at HEN ⊢
  generalize tagB key s.data.toList (nonce ++ turnB key nonce b) = G at HTA HGL HEN
  generalize turnB key nonce b = U at HTU HTA HTB HEN
  have hmk : ∀ W : World, (Instr.makeSlice 31 (.int .i64 0) (.int .i64 (48 + (b.length : Int)))).run Tryd.prog W = .ok (.slice (some ⟨W.heap.size, 0, none⟩) 0 (48 + b.length)) (W.alloc (.cells (bcs (zer (48 + b.length))) 5)) := fun W => by
    have := make_bytes 0 (48 + b.length) (by omega) (by omega) W
    rw [show ((48 + b.length : Nat) : Int) = 48 + (b.length : Int) from by omega] at this
    exact this
  have HOW := hid (own_second w (.cells (bcs nonce) 38) (48 + b.length))
  have HB1 : Hid (Below (w.heap.size + 1) (w.alloc (.cells (bcs nonce) 38)) ((w.alloc (.cells (bcs nonce) 38)).alloc (.cells (bcs (zer (48 + b.length))) 5))) := (Below.refl _ _).alloc (by simp) _
  have HBW : Hid (Below w.heap.size w (w.alloc (.cells (bcs nonce) 38))) := (Below.refl _ _).alloc (Nat.le_refl _) _
  have HN0 : Hid (∀ W, Below (w.heap.size + 1) (w.alloc (.cells (bcs nonce) 38)) W → W.heap[w.heap.size]? = some (.cells (bcs nonce) 38 (0, 0))) := fun W h => (h.block _ (by omega)).trans (heap_alloc_new w _)
  have hq1 : ¬ ((256 : Int) < (s.size : Int)) := by omega
  have hq2 : ¬ ((4096 : Int) < (b.length : Int)) := by omega
  clear hT hA1 hA2 hn
  go_enter Tryd.func18, Tryd.ntmps18
  go_wp2_with (refine wpList_own rfl (.tmp 24) (.tmp 25) 31 rfl (w.heap.size + 1) (w.heap.size + 1) 0 (48 + b.length) 16 [] nonce _ rfl rfl HOW.out (by have := src_bytes (BytesAt.of_row (HN0.out _ HB1.out)) 16 (fun _ => opt_any _); rw [HNL.out] at this; exact this) (by omega) (by simp <;> omega) ?_; intro g3 c3 W3 hown3 hgr3 hg3)
  have HO3 : Hid (Own W3 (w.heap.size + 1) g3 16 c3 nonce) := by have := hown3; rw [Nat.zero_add, List.nil_append] at this; exact this
  have HB3 : Hid (Below (w.heap.size + 1) (w.alloc (.cells (bcs nonce) 38)) W3) := HOW.out.grown HB1.out (by simp) hgr3
  have hz3 : w.heap.size + 1 ≤ W3.heap.size := by have := HB3.out.size; simp at this; exact this
  have HBA : Hid (∀ W, Below (w.heap.size + 1) (w.alloc (.cells (bcs nonce) 38)) W → Below w.heap.size w W) := fun W h => HBW.out.trans (h.mono (by omega))
  clear hown3 hgr3 hg3 HB1 HOW hmk
  go_wp2_with fail
  refine (HTU.out _ (HT.out.below (HBA.out _ HB3.out) hT1) (HA1.out.below (HBA.out _ HB3.out) (Nat.le_refl _)) (HN0.out _ HB3.out) (HA2.out.below (HBA.out _ HB3.out) (Nat.le_refl _))).mono ?_
  rintro e W4 ⟨O, rfl, hO4, hr4, hb4⟩
  have HO4 := hid (HO3.out.below hb4 (Nat.le_refl _))
  have HU4 := hid hr4
  have HB4 := hid (HB3.out.trans (hb4.mono hz3))
  have hz4 := hb4.size
  clear hr4 hb4 HO3 HB3 HTU
  go_wp2_with (refine wpList_own rfl (.tmp 27) (.tmp 31) 31 rfl (w.heap.size + 1) g3 16 c3 b.length nonce U _ rfl rfl HO4.out (by have := src_bytes (BytesAt.of_row HU4.out) b.length (fun _ => opt_any _); rw [HTB.out] at this; exact this) (by omega) (by omega) ?_; intro g5 c5 W5 hown5 hgr5 hg5)
  have HO5 := hid hown5
  have HB5 : Hid (Below (w.heap.size + 1) (w.alloc (.cells (bcs nonce) 38)) W5) := HO4.out.grown HB4.out (by omega) hgr5
  have hz5 := hgr5.size
  clear hown5 hgr5 hg5 HO4 HB4
  go_wp2_with fail
  refine (HTA.out _ _ _ (HT.out.below (HBA.out _ HB5.out) hT1) (HA1.out.below (HBA.out _ HB5.out) (Nat.le_refl _)) HO5.out.bytes).mono ?_
  rintro e W6 ⟨rfl, hb6⟩
  have HO6 := hid (HO5.out.below hb6 (Nat.le_refl _))
  have HB6 := hid (HB5.out.trans (hb6.mono (by omega)))
  have hz6 := hb6.size
  clear hb6 HO5 HB5 HTA
  go_wp2_with (first
    | (refine wpList_store_abs rfl 54 (.tmp 11) (.tmp 36) rfl W6.heap.size 0 (bcs G) rfl rfl 54 _ (heap_alloc_new W6 _) (by rw [bcs_size, HGL.out]; exact Nat.le_refl 32) (size24' G HGL.out) (bvs_one G) ?_; intro W7 hO7 hW7;
       have HG7 : Hid (W7.heap[W6.heap.size]? = some (.cells (bcs G) 54 (0, 0))) := by rw [over_bytes _ G (by rw [HGL.out]; rfl)] at hW7; exact hW7
       have HO7 : Hid (Own W7 (w.heap.size + 1) g5 (16 + b.length) c5 (nonce ++ U)) := (HO6.out.alloc _).kept (hO7.block _ (by have := HO6.out.lt; omega))
       have HB7 : Hid (Below (w.heap.size + 1) (w.alloc (.cells (bcs nonce) 38)) W7) := (HB6.out.alloc (by omega) _).trans (hO7.below (by omega))
       have hz7 : W7.heap.size = W6.heap.size + 1 := by rw [hO7.size]; simp
       clear hO7 hW7)
    | (refine wpList_own rfl (.tmp 37) (.tmp 38) 31 rfl (w.heap.size + 1) g5 (16 + b.length) c5 32 (nonce ++ U) G _ rfl rfl HO7.out (by have := src_bytes (BytesAt.of_row HG7.out) 32 (fun _ => opt_any _); rw [HGL.out] at this; exact this) (by omega) (by omega) ?_; intro g8 c8 W8 hown8 hgr8 hg8;
       have HO8 := hid hown8
       have HB8 : Hid (Below (w.heap.size + 1) (w.alloc (.cells (bcs nonce) 38)) W8) := HO7.out.grown HB7.out (by omega) hgr8
       clear hown8 hgr8 hg8))
  go_ret2
  refine ⟨⟨g8, c8, ?_, ?_⟩, HBA.out _ HB8.out⟩
  · rw [show b.length + 48 = 16 + b.length + 32 from by omega]
    rfl
  · rw [HEN.out, show b.length + 48 = 16 + b.length + 32 from by omega]
    exact HO8.out.mono (by omega)

end Go.Proofs.YtggbianodoneeaaDoor
