
/- What seal.keyFor, seal.pieceOf and seal.tagOf do. -/
import Derived.Test.YtggbianodoneeaaDoorRefDer
namespace Go.Proofs.YtggbianodoneeaaDoor
open Go.RowKit
set_option linter.unusedSimpArgs false
set_option linter.unusedVariables false

def STREAM : ByteArray := ⟨#[115, 116, 114, 101, 97, 109]⟩
def TAG : ByteArray := ⟨#[116, 97, 103]⟩
def skey (key : List UInt8) : List UInt8 := drv key STREAM.data.toList 32
def tkey (key : List UInt8) : List UInt8 := drv key TAG.data.toList 32
def piece (k nonce : List UInt8) (i : Nat) : List UInt8 := hmac k (nonce ++ [0, 0, 0, UInt8.ofNat i])
def len2 (n : Nat) : List UInt8 := [UInt8.ofNat (n / 256), UInt8.ofNat n]
def tagB (key label body : List UInt8) : List UInt8 := hmac (tkey key) (len2 label.length ++ label ++ body)
theorem skey_len (key : List UInt8) : (skey key).length = 32 := drv_len _ _ _
theorem tkey_len (key : List UInt8) : (tkey key).length = 32 := drv_len _ _ _
theorem piece_len (k nonce : List UInt8) (i : Nat) : (piece k nonce i).length = 32 := hmac_len _ _
theorem tagB_len (key label body : List UInt8) : (tagB key label body).length = 32 := hmac_len _ _

theorem Ref.own {w W W' : World} {g n c : Nat} {l : List UInt8} (h : Ref w W) (ho : Own W (w.heap.size + 1) g n c l) (hg : W.grownBy W' (some g)) : Ref w W' := h.app' ho.ge hg
theorem own_second (w : World) (o1 : Obj) (c : Nat) : Own ((w.alloc o1).alloc (.cells (bcs (zer c)) 5)) (w.heap.size + 1) (w.heap.size + 1) 0 c [] := by
  have := Own.new (w.alloc o1) (w.heap.size + 1) 0 c (by simp) (by omega)
  rw [show (w.alloc o1).heap.size = w.heap.size + 1 from by simp] at this
  exact this

set_option maxHeartbeats 400000 in
theorem keyFor_any (key : List UInt8) (s : ByteArray) (A : Option Addr) (cap : Nat) (w : World) (hT : TabS w) (hA : BytesAt w A key) (hcap : key.length ≤ cap) (hlen : key.length ≤ 100000) (hls : s.size ≤ 50000) :
    Calls Tryd.prog 43 #[.slice A key.length cap, .string s] w fun e w' => e = .returned (.slice (some ⟨w.heap.size, 0, none⟩) 32 32) ∧ w'.heap[w.heap.size]? = some (.cells (bcs (drv key s.data.toList 32)) 5 (0, 0)) ∧ Below w.heap.size w w' := by
  have HD := hid (derive_any key s 32 (by omega) A cap w hT hA hcap hlen hls)
  generalize drv key s.data.toList 32 = D at HD ⊢
  clear hT hA
  go_enter Tryd.func43, Tryd.ntmps43
  go_wp2_with fail
  refine HD.out.mono ?_
  rintro e w1 ⟨rfl, h1, h2⟩
  go_wp2_with fail
  go_ret
  exact ⟨rfl, h1, h2⟩

set_option maxRecDepth 100000 in
set_option maxHeartbeats 2000000 in
theorem pieceOf_any (k nonce : List UInt8) (i : Nat) (hi : i < 256) (A1 A2 : Option Addr) (c1 c2 : Nat) (w : World) (hT : TabS w) (hA1 : BytesAt w A1 k) (hA2 : BytesAt w A2 nonce) (hc1 : k.length ≤ c1) (hl1 : k.length ≤ 100000) (hl2 : nonce.length ≤ 1000) :
    Calls Tryd.prog 44 #[.slice A1 k.length c1, .slice A2 nonce.length c2, .int .i64 (i : Int)] w fun e w' => e = .returned (.agg (bcs (piece k nonce i))) ∧ Below w.heap.size w w' := by
  have HT := hid hT
  have hT1 := hT.lt
  have HA1 := hid hA1
  have HA2 := hid hA2
  have HDL := hid (piece_len k nonce i)
  have HOF : Hid (∀ W B c, TabS W → BytesAt W A1 k → BytesAt W B (nonce ++ [0, 0, 0, UInt8.ofNat i]) → nonce.length + 4 ≤ c → Calls Tryd.prog 27 #[.slice A1 k.length c1, .slice B (nonce.length + 4) c] W fun e w' => e = .returned (.agg (bcs (piece k nonce i))) ∧ Below W.heap.size W w') := fun W B c h1 h2 h3 h4 => by
    have := macOf_any k (nonce ++ [0, 0, 0, UInt8.ofNat i]) A1 B c1 c W h1 h2 h3 hc1 (by simp; omega) hl1 (by simp; omega)
    rw [show (nonce ++ [0, 0, 0, UInt8.ofNat i]).length = nonce.length + 4 from by simp] at this
    exact this
  have HI8 : Hid ((UInt8.ofNat i).toNat = i) := by show _ = _; rw [UInt8.toNat_ofNat', Nat.mod_eq_of_lt (by omega)]
  have HBT : Hid (∀ W : World, BytesAt (W.alloc (.cells #[.int .u8 0, .int .u8 0, .int .u8 0, .int .u8 (i : Int)] 5)) (some ⟨W.heap.size, 0, none⟩) [0, 0, 0, UInt8.ofNat i]) := fun W => BytesAt.of_row (l := [0, 0, 0, UInt8.ofNat i]) (t := 5) (fr := (0, 0)) (by rw [heap_alloc_new]; simp only [bcs, List.map_cons, List.map_nil, HI8.out]; rfl)
  generalize piece k nonce i = D at HDL HOF ⊢
  generalize UInt8.ofNat i = x at HOF HBT
  have hmk : ∀ W : World, (Instr.makeSlice 31 (.int .i64 0) (.int .i64 20)).run Tryd.prog W = .ok (.slice (some ⟨W.heap.size, 0, none⟩) 0 20) (W.alloc (.cells (bcs (zer 20)) 5)) := fun W => make_bytes 0 20 (by omega) (by omega) W
  have d24 : (i : Int) / 16777216 = 0 := by omega
  have d16 : (i : Int) / 65536 = 0 := by omega
  have d8 : (i : Int) / 256 = 0 := by omega
  have hw : IntKind.u8.wrap (i : Int) = (i : Int) := by rw [IntKind.wrap_u8]; omega
  have HOW := hid (fun o1 => own_second w o1 20)
  have HR0 := hid (Ref.start w)
  clear hT hA1 hA2 HI8
  go_enter Tryd.func44, Tryd.ntmps44
  go_wp2_with (first
    | (refine wpList_own rfl (.tmp 9) (.tmp 10) 31 rfl (w.heap.size + 1) (w.heap.size + 1) 0 20 nonce.length [] nonce _ rfl rfl (HOW.out _) (src_bytes (HA2.out.below (Ref.bel (Ref.alloc (by exact HR0.out) _)) (Nat.le_refl _)) c2 (fun _ => opt_any _)) (by omega) (by simp) ?_; intro g3 c3 W3 hown3 hgr3 hg3;
       have HO3 : Hid (Own W3 (w.heap.size + 1) g3 nonce.length c3 nonce) := by have := hown3; rw [Nat.zero_add, List.nil_append] at this; exact this
       have HR3 : Hid (Ref w W3) := Ref.own (Ref.alloc (by exact HR0.out) _) (HOW.out _) hgr3
       clear hown3 hgr3 hg3)
    | (refine wpList_own rfl (.tmp 12) (.tmp 24) 31 rfl (w.heap.size + 1) g3 nonce.length c3 4 nonce [0, 0, 0, x] _ rfl rfl (HO3.out.alloc _) (src_bytes (l := [0, 0, 0, x]) (HBT.out _) 4 (fun h => by cases h)) (by omega) (by have := HR3.out.lt; simp; omega) ?_; intro g4 c4 W4 hown4 hgr4 hg4;
       have HO4 := hid hown4
       have HR4 : Hid (Ref w W4) := Ref.own (HR3.out.alloc _) (HO3.out.alloc _) hgr4
       clear hown4 hgr4 hg4))
  refine (HOF.out _ _ _ (HT.out.below HR4.out.bel hT1) (HA1.out.below HR4.out.bel (Nat.le_refl _)) HO4.out.bytes HO4.out.le).mono ?_
  rintro e W5 ⟨rfl, hb5⟩
  have HR5 : Hid (Ref w W5) := HR4.out.step (hb5.mono HR4.out.lt)
  clear hb5
  go_wp2_with (refine wpList_store_abs rfl 54 (.tmp 6) (.tmp 28) rfl w.heap.size 0 (bcs D) rfl rfl 54 _ HR5.out.res (by rw [bcs_size, bcs_size, HDL.out]; exact Nat.le_refl 32) (size24' D HDL.out) (bvs_one D) ?_; intro W9 hO9 hW9)
  rw [over_bytes _ D (by rw [bcs_size, HDL.out]; rfl)] at hW9
  exact bodyPost_ret (v := .agg (bcs D)) (results_cell_row (p := 6) (ty := 54) Tryd.results44 _ _ w.heap.size 54 _ (0, 0) (.array 32 5) rfl hW9 Tryd.underlying54 rfl (size24' D HDL.out)) rfl ⟨rfl, HR5.out.bel.trans (hO9.below (Nat.le_refl _))⟩

set_option maxRecDepth 100000 in
set_option maxHeartbeats 2000000 in
theorem tagOf_any (key : List UInt8) (s : ByteArray) (b : List UInt8) (A1 A2 : Option Addr) (c1 c2 : Nat) (w : World) (hT : TabS w) (hA1 : BytesAt w A1 key) (hA2 : BytesAt w A2 b) (hc1 : key.length ≤ c1) (hl1 : key.length ≤ 100000) (hl2 : b.length ≤ 10000) (hls : s.size ≤ 256) :
    Calls Tryd.prog 33 #[.slice A1 key.length c1, .string s, .slice A2 b.length c2] w fun e w' => e = .returned (.agg (bcs (tagB key s.data.toList b))) ∧ Below w.heap.size w w' := by
  have HT := hid hT
  have hT1 := hT.lt
  have HA1 := hid hA1
  have HA2 := hid hA2
  have HDL := hid (tagB_len key s.data.toList b)
  have HKF : Hid (∀ W, TabS W → BytesAt W A1 key → Calls Tryd.prog 43 #[.slice A1 key.length c1, .string ⟨#[116, 97, 103]⟩] W fun e w' => e = .returned (.slice (some ⟨W.heap.size, 0, none⟩) 32 32) ∧ w'.heap[W.heap.size]? = some (.cells (bcs (tkey key)) 5 (0, 0)) ∧ Below W.heap.size W w') := fun W h1 h2 => keyFor_any key TAG A1 c1 W h1 h2 hc1 hl1 (by decide)
  have HOF : Hid (∀ W g B c, TabS W → W.heap[g]? = some (.cells (bcs (tkey key)) 5 (0, 0)) → BytesAt W B (len2 s.size ++ s.data.toList ++ b) → 2 + s.size + b.length ≤ c → Calls Tryd.prog 27 #[.slice (some ⟨g, 0, none⟩) 32 32, .slice B (2 + s.size + b.length) c] W fun e w' => e = .returned (.agg (bcs (tagB key s.data.toList b))) ∧ Below W.heap.size W w') := fun W g B c h1 h2 h3 h4 => by
    have hL : (len2 s.size ++ s.data.toList ++ b).length = 2 + s.size + b.length := by simp [len2]; omega
    have := macOf_any (tkey key) (len2 s.size ++ s.data.toList ++ b) (some ⟨g, 0, none⟩) B 32 c W h1 (BytesAt.of_row h2) h3 (by rw [tkey_len]; omega) (by rw [hL]; exact h4) (by rw [tkey_len]; omega) (by rw [hL]; omega)
    rw [hL, tkey_len] at this
    unfold tagB
    rw [ba_len]
    exact this
  generalize tagB key s.data.toList b = D at HDL HOF ⊢
  generalize tkey key = TK at HOF HKF
  have d8 : ((s.size : Int) / 256) = ((s.size / 256 : Nat) : Int) := by omega
  have hw1 : IntKind.u8.wrap ((s.size / 256 : Nat) : Int) = ((UInt8.ofNat (s.size / 256)).toNat : Int) := by rw [IntKind.wrap_u8, UInt8.toNat_ofNat']; omega
  have hw2 : IntKind.u8.wrap (s.size : Int) = ((UInt8.ofNat s.size).toNat : Int) := by rw [IntKind.wrap_u8, UInt8.toNat_ofNat']; omega
  have HL2 : Hid (len2 s.size = [UInt8.ofNat (s.size / 256), UInt8.ofNat s.size]) := rfl
  generalize UInt8.ofNat (s.size / 256) = x at hw1 HL2
  generalize s.size / 256 = q at d8 hw1
  generalize UInt8.ofNat s.size = y at hw2 HL2
  generalize len2 s.size = L2 at HL2 HOF
  have HBT : Hid (∀ W : World, BytesAt (W.alloc (.cells #[.int .u8 (x.toNat : Int), .int .u8 (y.toNat : Int)] 5)) (some ⟨W.heap.size, 0, none⟩) L2) := fun W => by rw [HL2.out]; exact BytesAt.of_row (l := [x, y]) (heap_alloc_new W _)
  have HLL : Hid (L2.length = 2) := by rw [HL2.out]; rfl
  have HSR : Hid (∀ o1 o2, Src Tryd.prog 1 31 (.slice (some ⟨w.heap.size + 1 + 1, 0, none⟩) 2 2) 2 (bvs L2) (((w.alloc o1).alloc o2).alloc (.cells #[.int .u8 (x.toNat : Int), .int .u8 (y.toNat : Int)] 5))) := fun o1 o2 => by
    have := src_bytes (HBT.out ((w.alloc o1).alloc o2)) 2 (fun _ => opt_any _)
    rw [HLL.out, show ((w.alloc o1).alloc o2).heap.size = w.heap.size + 1 + 1 from by simp] at this
    exact this
  have hmk : ∀ W : World, (Instr.makeSlice 31 (.int .i64 0) (.int .i64 (2 + (s.size : Int) + (b.length : Int)))).run Tryd.prog W = .ok (.slice (some ⟨W.heap.size, 0, none⟩) 0 (2 + s.size + b.length)) (W.alloc (.cells (bcs (zer (2 + s.size + b.length))) 5)) := fun W => by
    have := make_bytes 0 (2 + s.size + b.length) (by omega) (by omega) W
    rw [show ((2 + s.size + b.length : Nat) : Int) = 2 + (s.size : Int) + (b.length : Int) from by omega] at this
    exact this
  have HOW := hid (fun o1 => own_second w o1 (2 + s.size + b.length))
  have HR0 := hid (Ref.start w)
  clear hT hA1 hA2 HL2
  go_enter Tryd.func33, Tryd.ntmps33
  go_wp2_with (first
    | (refine wpList_own rfl (.tmp 17) (.tmp 23) 31 rfl (w.heap.size + 1) (w.heap.size + 1) 0 (2 + s.size + b.length) 2 [] L2 _ rfl rfl ((HOW.out _).alloc _) (HSR.out _ _) (by omega) (by simp <;> omega) ?_; intro g3 c3 W3 hown3 hgr3 hg3;
       have HO3 : Hid (Own W3 (w.heap.size + 1) g3 2 c3 L2) := by have := hown3; rw [Nat.zero_add, List.nil_append] at this; exact this
       have HR3 : Hid (Ref w W3) := Ref.own (Ref.alloc (Ref.alloc (by exact HR0.out) _) _) ((HOW.out _).alloc _) hgr3
       clear hown3 hgr3 hg3)
    | (refine wpList_own rfl (.tmp 25) (.tmp 26) 9 rfl (w.heap.size + 1) g3 2 c3 s.size L2 s.data.toList _ rfl rfl HO3.out (src_text _ s) (by omega) HR3.out.lt ?_; intro g4 c4 W4 hown4 hgr4 hg4;
       have HO4 := hid hown4
       have HR4 : Hid (Ref w W4) := Ref.own HR3.out HO3.out hgr4
       clear hown4 hgr4 hg4)
    | (refine wpList_own rfl (.tmp 28) (.tmp 29) 31 rfl (w.heap.size + 1) g4 (2 + s.size) c4 b.length (L2 ++ s.data.toList) b _ rfl rfl HO4.out (src_bytes (HA2.out.below HR4.out.bel (Nat.le_refl _)) c2 (fun _ => opt_any _)) (by omega) HR4.out.lt ?_; intro g5 c5 W5 hown5 hgr5 hg5;
       have HO5 := hid hown5
       have HR5 : Hid (Ref w W5) := Ref.own HR4.out HO4.out hgr5
       clear hown5 hgr5 hg5))
  have hz5 := HR5.out.lt
  have hg5 := HO5.out.ge
  refine (HKF.out _ (HT.out.below HR5.out.bel hT1) (HA1.out.below HR5.out.bel (Nat.le_refl _))).mono ?_
  rintro e W6 ⟨rfl, hr6, hb6⟩
  have HO6 := hid (HO5.out.below hb6 (Nat.le_refl _))
  have HR6 : Hid (Ref w W6) := HR5.out.step (hb6.mono hz5)
  have HK6 := hid hr6
  have hz6 := hb6.size
  clear hr6 hb6 HO5 HR5 HKF
  go_wp2_with fail
  refine (HOF.out _ _ _ _ (HT.out.below HR6.out.bel hT1) HK6.out HO6.out.bytes HO6.out.le).mono ?_
  rintro e W7 ⟨rfl, hb7⟩
  have HR7 : Hid (Ref w W7) := HR6.out.step (hb7.mono HR6.out.lt)
  clear hb7
  go_wp2_with (refine wpList_store_abs rfl 54 (.tmp 6) (.tmp 34) rfl w.heap.size 0 (bcs D) rfl rfl 54 _ HR7.out.res (by rw [bcs_size, bcs_size, HDL.out]; exact Nat.le_refl 32) (size24' D HDL.out) (bvs_one D) ?_; intro W9 hO9 hW9)
  rw [over_bytes _ D (by rw [bcs_size, HDL.out]; rfl)] at hW9
  exact bodyPost_ret (v := .agg (bcs D)) (results_cell_row (p := 6) (ty := 54) Tryd.results33 _ _ w.heap.size 54 _ (0, 0) (.array 32 5) rfl hW9 Tryd.underlying54 rfl (size24' D HDL.out)) rfl ⟨rfl, HR7.out.bel.trans (hO9.below (Nat.le_refl _))⟩

end Go.Proofs.YtggbianodoneeaaDoor
