
/- What the reference's Tag and Seal do (layer 4). -/
import Derived.Test.YtggbianodoneeaaDoorRefSeaA
import Derived.Test.YtggbianodoneeaaDoorSealC
namespace Go.Proofs.YtggbianodoneeaaDoor
open Go.RowKit
set_option linter.unusedSimpArgs false
set_option linter.unusedVariables false

set_option maxRecDepth 100000 in
set_option maxHeartbeats 2000000 in
theorem refTag_any (key : List UInt8) (s : ByteArray) (b : List UInt8) (A1 A2 : Option Addr) (c1 c2 : Nat) (w : World) (hA1 : BytesAt w A1 key) (hA2 : BytesAt w A2 b) (hl1 : key.length ≤ 100000) (hl2 : b.length ≤ 10000) (hls : s.size ≤ 256) :
    Calls Tryd.prog 23 #[.slice A1 key.length c1, .string s, .slice A2 b.length c2] w fun e w' => (∃ g c, e = .returned (.slice (some ⟨g, 0, none⟩) 32 c) ∧ Own w' w.heap.size g 32 c (tagB key s.data.toList b)) ∧ Below w.heap.size w w' := by
  have HA1 := hid hA1
  have HA2 := hid hA2
  have HDL := hid (tagB_len key s.data.toList b)
  have HKF : Hid (∀ W, BytesAt W A1 key → Calls Tryd.prog 15 #[.slice A1 key.length c1, .string ⟨#[116, 97, 103]⟩, .int .i64 32] W fun e w' => (∃ g c, e = .returned (.slice (some ⟨g, 0, none⟩) 32 c) ∧ Own w' W.heap.size g 32 c (tkey key)) ∧ Below W.heap.size W w') := fun W h => refDer_any key TAG 32 (by omega) A1 c1 W h hl1 (by decide)
  have HOF : Hid (∀ W g ck B c, BytesAt W (some ⟨g, 0, none⟩) (tkey key) → BytesAt W B (len2 s.size ++ s.data.toList ++ b) → Calls Tryd.prog 31 #[.slice (some ⟨g, 0, none⟩) 32 ck, .slice B (2 + s.size + b.length) c] W fun e w' => e = .returned (.agg (bcs (tagB key s.data.toList b))) ∧ Below W.heap.size W w') := fun W g ck B c h2 h3 => by
    have hL : (len2 s.size ++ s.data.toList ++ b).length = 2 + s.size + b.length := by simp [len2]; omega
    have := refMac_any (tkey key) (len2 s.size ++ s.data.toList ++ b) (some ⟨g, 0, none⟩) B ck c W h2 h3 (by rw [tkey_len]; omega) (by rw [hL]; omega)
    rw [hL, tkey_len] at this
    unfold tagB
    rw [ba_len]
    exact this
  generalize tagB key s.data.toList b = D at HDL HOF ⊢
  generalize tkey key = TK at HOF HKF
  have HL2 : Hid (len2 s.size = [UInt8.ofNat (s.size / 256), UInt8.ofNat s.size]) := rfl
  have d1 : ((s.size : Int).tdiv 256) = ((s.size / 256 : Nat) : Int) := by rw [Int.tdiv_eq_ediv_of_nonneg (by omega)]; omega
  have d2 : ((s.size : Int) / 256) = ((s.size / 256 : Nat) : Int) := by omega
  have d3 : ((s.size : Int).tmod 256) = ((s.size % 256 : Nat) : Int) := by rw [Int.tmod_eq_emod_of_nonneg (by omega)]; omega
  have d4 : ((s.size : Int) % 256) = ((s.size % 256 : Nat) : Int) := by omega
  have hw1 : IntKind.u8.wrap ((s.size / 256 : Nat) : Int) = ((UInt8.ofNat (s.size / 256)).toNat : Int) := by rw [IntKind.wrap_u8, UInt8.toNat_ofNat']; omega
  have hw2 : IntKind.u8.wrap ((s.size % 256 : Nat) : Int) = ((UInt8.ofNat s.size).toNat : Int) := by rw [IntKind.wrap_u8, UInt8.toNat_ofNat']; omega
  generalize UInt8.ofNat (s.size / 256) = x at hw1 HL2
  generalize UInt8.ofNat s.size = y at hw2 HL2
  generalize s.size / 256 = q at d1 d2 hw1
  generalize s.size % 256 = r at d3 d4 hw2
  generalize len2 s.size = L2 at HL2 HOF
  have HOW : Hid (Own (w.alloc (.cells #[.int .u8 (x.toNat : Int), .int .u8 (y.toNat : Int)] 5)) w.heap.size w.heap.size 2 2 L2) := by
    show Own _ _ _ _ _ _
    rw [HL2.out]
    exact Own.of_row (l := [x, y]) (Nat.le_refl _) (heap_alloc_new w _)
  have HB0 : Hid (∀ o1, Below w.heap.size w (w.alloc o1)) := fun o1 => (Below.refl _ _).alloc (Nat.le_refl _) o1
  clear hA1 hA2 HL2
  go_enter Tryd.func23, Tryd.ntmps23
  go_wp2_with (first
    | (refine wpList_own rfl (.tmp 18) (.tmp 19) 9 rfl w.heap.size w.heap.size 2 2 s.size L2 s.data.toList _ rfl rfl HOW.out (src_text _ s) (by omega) (by simp) ?_; intro g4 c4 W4 hown4 hgr4 hg4;
       have HO4 := hid hown4
       have HB4 : Hid (Below w.heap.size w W4) := HOW.out.grown (HB0.out _) (by simp) hgr4
       clear hown4 hgr4 hg4)
    | (refine wpList_own rfl (.tmp 20) (.tmp 21) 31 rfl w.heap.size g4 (2 + s.size) c4 b.length (L2 ++ s.data.toList) b _ rfl rfl HO4.out (src_bytes (HA2.out.below HB4.out (Nat.le_refl _)) c2 (fun _ => opt_any _)) (by omega) HB4.out.size ?_; intro g5 c5 W5 hown5 hgr5 hg5;
       have HO5 := hid hown5
       have HB5 : Hid (Below w.heap.size w W5) := HO4.out.grown HB4.out HB4.out.size hgr5
       clear hown5 hgr5 hg5))
  refine (HKF.out _ (HA1.out.below HB5.out (Nat.le_refl _))).mono ?_
  rintro e W6 ⟨⟨gk, ck, rfl, hk6⟩, hb6⟩
  have HO6 := hid (HO5.out.below hb6 (Nat.le_refl _))
  have HB6 := hid (HB5.out.trans (hb6.mono HB5.out.size))
  have HK6 := hid hk6
  clear hk6 hb6 HO5 HB5 HKF
  go_wp2_with fail
  refine (HOF.out _ _ _ _ _ HK6.out.bytes HO6.out.bytes).mono ?_
  rintro e W7 ⟨rfl, hb7⟩
  have HB7 := hid (HB6.out.trans (hb7.mono HB6.out.size))
  clear hb7 HOF HK6 HO6 HB6
  have hz7 := HB7.out.size
  go_wp2_with (first
    | (refine wpList_store_abs rfl 54 (.tmp 8) (.tmp 26) rfl W7.heap.size 0 (bcs D) rfl rfl 54 _ (heap_alloc_new W7 _) (by rw [bcs_size, HDL.out]; exact Nat.le_refl 32) (size24' D HDL.out) (bvs_one D) ?_; intro W8 hO8 hW8;
       have HG8 : Hid (W8.heap[W7.heap.size]? = some (.cells (bcs D) 54 (0, 0))) := by rw [over_bytes _ D (by rw [HDL.out]; rfl)] at hW8; exact hW8
       have HB8 : Hid (Below w.heap.size w W8) := (HB7.out.alloc hz7 _).trans (hO8.below hz7)
       have hz8 : W7.heap.size + 1 ≤ W8.heap.size := by rw [hO8.size]; simp
       clear hO8 hW8)
    | (refine wpList_own rfl (.tmp 27) (.tmp 28) 31 rfl w.heap.size W8.heap.size 0 0 32 [] D _ rfl rfl (Own.zero W8 _ (by omega)) (by have := src_bytes (BytesAt.of_row ((Below.heap_alloc W8 (.cells #[] 5) _ (by omega)).trans HG8.out)) 32 (fun _ => opt_any _); rw [HDL.out] at this; exact this) (by omega) (by simp <;> omega) ?_; intro g9 c9 W9 hown9 hgr9 hg9;
       have HO9 : Hid (Own W9 w.heap.size g9 32 c9 D) := by have := hown9; rw [Nat.zero_add, List.nil_append] at this; exact this
       have HB9 : Hid (Below w.heap.size w W9) := (Own.zero W8 w.heap.size (by omega)).grown (HB8.out.alloc (by omega) _) (by simp <;> omega) hgr9
       clear hown9 hgr9 hg9))
  go_ret
  exact ⟨⟨g9, c9, rfl, HO9.out⟩, HB9.out⟩

theorem refSeal_bad (nonce : List UInt8) (s : ByteArray) (A1 A2 : Option Addr) (m1 c1 m2 c2 : Nat) (w : World) (hb : 256 < s.size ∨ 4096 < m2) :
    Calls Tryd.prog 19 #[.slice A1 m1 c1, .agg (bcs nonce), .string s, .slice A2 m2 c2] w fun e w' => e = .returned (.tuple #[.slice none 0 0, .int .i64 3]) ∧ Below w.heap.size w w' := by
  have HB0 : Hid (∀ o1, Below w.heap.size w (w.alloc o1)) := fun o1 => (Below.refl _ _).alloc (Nat.le_refl _) o1
  by_cases h : 256 < s.size
  · clear hb
    go_enter Tryd.func19, Tryd.ntmps19
    go_wp2_with fail
    go_ret2
    exact ⟨rfl, HB0.out _⟩
  · have h2 : (4096 : Int) < (m2 : Int) := by omega
    have h3 : ¬ (256 : Int) < (s.size : Int) := by omega
    clear hb h
    go_enter Tryd.func19, Tryd.ntmps19
    go_wp2_with fail
    go_ret2
    exact ⟨rfl, HB0.out _⟩

theorem Own.src {w : World} {b g n c : Nat} {l : List UInt8} (h : Own w b g n c l) : Src Tryd.prog 1 31 (.slice (some ⟨g, 0, none⟩) n c) n (bvs l) w := by
  have := src_bytes h.bytes c (fun _ => opt_any _)
  rw [h.len] at this
  exact this

set_option maxRecDepth 100000 in
set_option maxHeartbeats 4000000 in
theorem refSeal_any (key nonce b : List UInt8) (hn : nonce.length = 16) (s : ByteArray) (A1 A2 : Option Addr) (c1 c2 : Nat) (w : World) (hA1 : BytesAt w A1 key) (hA2 : BytesAt w A2 b) (hl1 : key.length ≤ 100000) (hls : s.size ≤ 256) (hlb : b.length ≤ 4096) :
    Calls Tryd.prog 19 #[.slice A1 key.length c1, .agg (bcs nonce), .string s, .slice A2 b.length c2] w fun e w' => (∃ g c, e = .returned (.tuple #[.slice (some ⟨g, 0, none⟩) (b.length + 48) c, .int .i64 0]) ∧ Own w' w.heap.size g (b.length + 48) c (sealB key nonce s.data.toList b)) ∧ Below w.heap.size w w' := by
  have HA1 := hid hA1
  have HA2 := hid hA2
  have HNL := hid hn
  have HTU : Hid (∀ W g c, BytesAt W A1 key → BytesAt W (some ⟨g, 0, none⟩) nonce → BytesAt W A2 b → Calls Tryd.prog 34 #[.slice A1 key.length c1, .slice (some ⟨g, 0, none⟩) 16 c, .slice A2 b.length c2] W fun e w' => (∃ g c, e = .returned (.slice (some ⟨g, 0, none⟩) b.length c) ∧ Own w' W.heap.size g b.length c (turnB key nonce b)) ∧ Below W.heap.size W w') := fun W g c h1 h2 h3 => by
    have := refTurned_any key nonce b A1 (some ⟨g, 0, none⟩) A2 c1 c c2 W h1 h2 h3 hl1 (by omega) (by omega)
    rw [hn] at this
    exact this
  have HTA : Hid (∀ W B c, BytesAt W A1 key → BytesAt W B (nonce ++ turnB key nonce b) → Calls Tryd.prog 23 #[.slice A1 key.length c1, .string s, .slice B (16 + b.length) c] W fun e w' => (∃ g c, e = .returned (.slice (some ⟨g, 0, none⟩) 32 c) ∧ Own w' W.heap.size g 32 c (tagB key s.data.toList (nonce ++ turnB key nonce b))) ∧ Below W.heap.size W w') := fun W B c h2 h3 => by
    have hL : (nonce ++ turnB key nonce b).length = 16 + b.length := by rw [List.length_append, turnB_len, hn]
    have := refTag_any key s (nonce ++ turnB key nonce b) A1 B c1 c W h2 h3 hl1 (by rw [hL]; omega) hls
    rw [hL] at this
    exact this
  have HEN : Hid (sealB key nonce s.data.toList b = nonce ++ turnB key nonce b ++ tagB key s.data.toList (nonce ++ turnB key nonce b)) := rfl
  generalize sealB key nonce s.data.toList b = D at HEN ⊢
  generalize tagB key s.data.toList (nonce ++ turnB key nonce b) = G at HTA HEN
  generalize turnB key nonce b = U at HTU HTA HEN
  have HZ0 := hid (fun W : World => Own.zero W w.heap.size)
  have HSR0 : Hid (Src Tryd.prog 1 31 (.slice (some ⟨w.heap.size, 0, none⟩) 16 16) 16 (bvs nonce) ((w.alloc (.cells (bcs nonce) 38)).alloc (.cells #[] 5))) := by
    have := src_bytes (BytesAt.of_row (heap_alloc2_old w (.cells (bcs nonce) 38) (.cells #[] 5))) 16 (fun _ => opt_any _)
    rw [HNL.out] at this
    exact this
  have HOW : Hid (Own ((w.alloc (.cells (bcs nonce) 38)).alloc (.cells #[] 5)) w.heap.size (w.heap.size + 1) 0 0 []) := by
    have := Own.zero (w.alloc (.cells (bcs nonce) 38)) w.heap.size (by simp)
    rw [show (w.alloc (.cells (bcs nonce) 38)).heap.size = w.heap.size + 1 from by simp] at this
    exact this
  have HB2 : Hid (∀ o1 o2, Below w.heap.size w ((w.alloc o1).alloc o2)) := fun o1 o2 => ((Below.refl _ _).alloc (Nat.le_refl _) o1).alloc (by simp) o2
  have hq1 : ¬ ((256 : Int) < (s.size : Int)) := by omega
  have hq2 : ¬ ((4096 : Int) < (b.length : Int)) := by omega
  clear hA1 hA2 hn
  go_enter Tryd.func19, Tryd.ntmps19
  go_wp2_with (first
    | (refine wpList_own rfl (.tmp 20) (.tmp 21) 31 rfl w.heap.size (w.heap.size + 1) 0 0 16 [] nonce _ rfl rfl HOW.out HSR0.out (by omega) (by simp <;> omega) ?_; intro g3 c3 W3 hown3 hgr3 hg3;
       have HO3 : Hid (Own W3 w.heap.size g3 16 c3 nonce) := by have := hown3; rw [Nat.zero_add, List.nil_append] at this; exact this
       have HB3 : Hid (Below w.heap.size w W3) := HOW.out.grown (HB2.out _ _) (by simp <;> omega) hgr3
       have hz3 := HB3.out.size
       have hg3' := HO3.out.lt
       clear hown3 hgr3 hg3)
    | (refine wpList_own rfl (.tmp 23) (.tmp 24) 31 rfl w.heap.size W3.heap.size 0 0 16 [] nonce _ rfl rfl (HZ0.out W3 hz3) (HO3.out.alloc _).src (by omega) (by simp <;> omega) ?_; intro g4 c4 W4 hown4 hgr4 hg4;
       have HO4 : Hid (Own W4 w.heap.size g4 16 c4 nonce) := by have := hown4; rw [Nat.zero_add, List.nil_append] at this; exact this
       have HN4 : Hid (Own W4 w.heap.size g3 16 c3 nonce) := (HO3.out.alloc _).other hgr4 (by omega)
       have HB4 : Hid (Below w.heap.size w W4) := (HZ0.out W3 hz3).grown (HB3.out.alloc hz3 _) (by simp <;> omega) hgr4
       clear hown4 hgr4 hg4))
  refine (HTU.out _ _ _ (HA1.out.below HB4.out (Nat.le_refl _)) HN4.out.bytes (HA2.out.below HB4.out (Nat.le_refl _))).mono ?_
  rintro e W5 ⟨⟨gu, cu, rfl, hu5⟩, hb5⟩
  have HO5 := hid (HO4.out.below hb5 (Nat.le_refl _))
  have HU5 := hid hu5
  have HB5 := hid (HB4.out.trans (hb5.mono HB4.out.size))
  have hz5 := HB5.out.size
  clear hu5 hb5 HO4 HN4 HB4 HO3 HB3 HTU
  go_wp2_with (first
    | (refine wpList_own rfl (.tmp 25) (.tmp 29) 31 rfl w.heap.size g4 16 c4 b.length nonce U _ rfl rfl HO5.out HU5.out.src (by omega) hz5 ?_; intro g6 c6 W6 hown6 hgr6 hg6;
       have HO6 := hid hown6
       have HB6 : Hid (Below w.heap.size w W6) := HO5.out.grown HB5.out hz5 hgr6
       have hz6 := HB6.out.size
       have hg6' := HO6.out.lt
       clear hown6 hgr6 hg6)
    | (refine wpList_own rfl (.tmp 31) (.tmp 32) 31 rfl w.heap.size W6.heap.size 0 0 (16 + b.length) [] (nonce ++ U) _ rfl rfl (HZ0.out W6 hz6) (HO6.out.alloc _).src (by omega) (by simp <;> omega) ?_; intro g7 c7 W7 hown7 hgr7 hg7;
       have HO7 : Hid (Own W7 w.heap.size g7 (16 + b.length) c7 (nonce ++ U)) := by have := hown7; rw [Nat.zero_add, List.nil_append] at this; exact this
       have HN7 : Hid (Own W7 w.heap.size g6 (16 + b.length) c6 (nonce ++ U)) := (HO6.out.alloc _).other hgr7 (by omega)
       have HB7 : Hid (Below w.heap.size w W7) := (HZ0.out W6 hz6).grown (HB6.out.alloc hz6 _) (by simp <;> omega) hgr7
       clear hown7 hgr7 hg7))
  refine (HTA.out _ _ _ (HA1.out.below HB7.out (Nat.le_refl _)) HN7.out.bytes).mono ?_
  rintro e W8 ⟨⟨gt, ct, rfl, ht8⟩, hb8⟩
  have HO8 := hid (HO7.out.below hb8 (Nat.le_refl _))
  have HT8 := hid ht8
  have HB8 := hid (HB7.out.trans (hb8.mono HB7.out.size))
  have hz8 := HB8.out.size
  clear ht8 hb8 HO7 HN7 HB7 HO6 HB6 HTA
  go_wp2_with (refine wpList_own rfl (.tmp 33) (.tmp 37) 31 rfl w.heap.size g7 (16 + b.length) c7 32 (nonce ++ U) G _ rfl rfl HO8.out HT8.out.src (by omega) hz8 ?_; intro g9 c9 W9 hown9 hgr9 hg9)
  have HB9 : Hid (Below w.heap.size w W9) := HO8.out.grown HB8.out hz8 hgr9
  have HO9 := hid hown9
  clear hown9 hgr9 hg9
  go_wp2_with fail
  go_ret2
  refine ⟨⟨g9, c9, ?_, ?_⟩, HB9.out⟩
  · rw [show b.length + 48 = 16 + b.length + 32 from by omega]
    rfl
  · rw [HEN.out, show b.length + 48 = 16 + b.length + 32 from by omega]
    exact HO9.out

end Go.Proofs.YtggbianodoneeaaDoor
