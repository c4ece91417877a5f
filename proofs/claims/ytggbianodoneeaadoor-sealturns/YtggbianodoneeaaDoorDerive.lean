
/- What mac.Derive does. -/
import Derived.Test.YtggbianodoneeaaDoorOwn
namespace Go.Proofs.YtggbianodoneeaaDoor
open Go.RowKit
set_option linter.unusedSimpArgs false
set_option linter.unusedVariables false

def msg (label : List UInt8) (k : Nat) : List UInt8 := label ++ [0, UInt8.ofNat k]
theorem msg_len (label : List UInt8) (k : Nat) : (msg label k).length = label.length + 2 := by simp [msg]
def tags (key label : List UInt8) : Nat → List UInt8
  | 0 => []
  | k + 1 => tags key label k ++ hmac key (msg label (k + 1))
def drv (key label : List UInt8) (n : Nat) : List UInt8 := (tags key label ((n + 31) / 32)).take n
theorem tags_len (key label : List UInt8) : ∀ k, (tags key label k).length = 32 * k
  | 0 => rfl
  | k + 1 => by rw [tags, List.length_append, tags_len key label k, hmac_len]; omega
theorem drv_len (key label : List UInt8) (n : Nat) : (drv key label n).length = n := by
  unfold drv; rw [List.length_take, tags_len]; omega
theorem tags_more (key label : List UInt8) (n k : Nat) (h : n ≤ 32 * k) : ∀ d, (tags key label (k + d)).take n = (tags key label k).take n
  | 0 => rfl
  | d + 1 => by
    rw [← Nat.add_assoc, tags, List.take_append_of_le_length (by rw [tags_len]; omega)]
    exact tags_more key label n k h d
theorem tags_take (key label : List UInt8) (n k : Nat) (h : n ≤ 32 * k) : (tags key label k).take n = drv key label n := by
  obtain ⟨d, hd⟩ : ∃ d, k = (n + 31) / 32 + d := ⟨k - (n + 31) / 32, by omega⟩
  rw [hd]
  exact tags_more key label n _ (by omega) d
theorem drv32 (key label : List UInt8) : drv key label 32 = hmac key (msg label 1) := by
  unfold drv
  show (tags key label 1).take 32 = _
  rw [tags, tags, List.nil_append, List.take_of_length_le (by rw [hmac_len]; omega)]

theorem made_bytes (n : Nat) : madeCells #[Value.int .u8 0] n = bcs (zer n) := by
  apply Array.ext
  · rw [size_madeCells, bcs_size, zer_len]
  · intro i h1 h2
    simp [madeCells, bcs, zer, Nat.mod_one]
theorem make_bytes (n c : Nat) (hn : n ≤ c) (hc : c ≤ 100000) (w : World) : (Instr.makeSlice 31 (.int .i64 (n : Int)) (.int .i64 (c : Int))).run Tryd.prog w = .ok (.slice (some ⟨w.heap.size, 0, none⟩) n c) (w.alloc (.cells (bcs (zer c)) 5)) := by
  obtain ⟨i, hi, hz0, hz1, hz2⟩ := info_parts info5
  rw [run_makeSlice w 31 5 i (.int .u8 0) Tryd.underlying31 hi hz0 .i64 .i64 (n : Int) (c : Int) (by omega) (by omega) (by rw [hz1]; omega) (by rw [hz2]; omega) (by omega), hz1, Int.toNat_natCast, Int.toNat_natCast, Nat.mul_one, ← made_bytes]
  rfl
theorem step_copy_cut {ops : Array Oper} {o : Oper} {a : Act} {w : World} {K : Act → World → Prop} {Q : Exit → Act → World → Prop} {E : Prop} (hgd : o.guard = none) (d s : Operand)
    (ho : o.op = .call { callee := .builtin .copy, args := #[d, s], argTypes := #[31, 31] }) (g off dLen dCap c m : Nat) (A : Option Addr) (l : List UInt8) (hd : a.eval d = .slice (some ⟨g, off, none⟩) dLen dCap) (hs : a.eval s = .slice A m c) (hm : m = l.length)
    (t : TypeId) (cur : Array Value) (hA : BytesAt w A l) (hrow : w.heap[g]? = some (.cells cur t (0, 0))) (hfit : off + dLen ≤ cur.size)
    (h : ∀ W v, Only g w W → W.heap[g]? = some (.cells (over cur off (bvs (l.take dLen))) t (0, 0)) → K (a.put o.dst v) W) :
    if Region.wanted o (yielded ops a.tmps) = true then Oper.wp Tryd.prog o a w K Q else E := by
  subst hm
  obtain ⟨W, v, h1, h2, h3⟩ := run_copy_cut o.type (c := c) (dCap := dCap) hA hrow hfit
  exact Go.Proofs.step_copy_runI hgd d s 31 31 ho _ _ hd hs h1 (h W v h2 h3)
theorem tags_put (key label : List UInt8) (n k : Nat) (h : 32 * k < n) : over (bcs ((tags key label k).take n ++ zer (n - 32 * k))) (32 * k) (bvs ((hmac key (msg label (k + 1))).take (n - 32 * k))) = bcs ((tags key label (k + 1)).take n ++ zer (n - 32 * (k + 1))) := by
  have h1 : (tags key label k).take n = tags key label k := List.take_of_length_le (by rw [tags_len]; omega)
  have h2 := zer_cut (n - 32 * k) (min 32 (n - 32 * k)) (by omega)
  rw [h1, tags, List.take_append, h1, tags_len, h2]
  have := over_mid (bvs (zer (min 32 (n - 32 * k)))) (bvs ((hmac key (msg label (k + 1))).take (n - 32 * k))) (bvs (tags key label k)) (bvs (zer (n - 32 * k - min 32 (n - 32 * k)))) (by rw [bvs_len, bvs_len, List.length_take, hmac_len, zer_len]; omega)
  rw [bvs_len, tags_len] at this
  have e : bcs (tags key label k ++ (zer (min 32 (n - 32 * k)) ++ zer (n - 32 * k - min 32 (n - 32 * k)))) = (bvs (tags key label k) ++ (bvs (zer (min 32 (n - 32 * k))) ++ bvs (zer (n - 32 * k - min 32 (n - 32 * k))))).toArray := by
    rw [← bvs_app, ← bvs_app]; rfl
  rw [e, this, List.append_assoc, show n - 32 * k - min 32 (n - 32 * k) = n - 32 * (k + 1) from by omega, ← bvs_app, ← bvs_app]
  rfl

theorem derive_bad (A : Option Addr) (m cap : Nat) (s : ByteArray) (n : Int) (hn : n < 0 ∨ 1024 < n) (w : World) :
    Calls Tryd.prog 14 #[.slice A m cap, .string s, .int .i64 n] w fun e w' => e = .returned (.tuple #[.slice none 0 0, .int .i64 1]) ∧ w' = w := by
  rcases Int.lt_or_le n 0 with h | h
  · clear hn
    go_enter Tryd.func14, Tryd.ntmps14
    go_wp2_with fail
    go_ret2
    exact ⟨rfl, rfl⟩
  · have h1 : 1024 < n := by omega
    have h2 : ¬ n < 0 := by omega
    clear hn h
    go_enter Tryd.func14, Tryd.ntmps14
    go_wp2_with fail
    go_ret2
    exact ⟨rfl, rfl⟩

set_option maxRecDepth 100000 in
set_option maxHeartbeats 2000000 in
theorem derive_any (key : List UInt8) (s : ByteArray) (n : Nat) (hn : n ≤ 1024) (A : Option Addr) (cap : Nat) (w : World) (hT : TabS w) (hA : BytesAt w A key) (hcap : key.length ≤ cap) (hlen : key.length ≤ 100000) (hls : s.size ≤ 50000) :
    Calls Tryd.prog 14 #[.slice A key.length cap, .string s, .int .i64 (n : Int)] w fun e w' => e = .returned (.tuple #[.slice (some ⟨w.heap.size, 0, none⟩) n n, .int .i64 0]) ∧ w'.heap[w.heap.size]? = some (.cells (bcs (drv key s.data.toList n)) 5 (0, 0)) ∧ Below w.heap.size w w' := by
  have HT := hid hT
  have hT1 := hT.lt
  have HA := hid hA
  have HSL := hid (ba_len s)
  have HOF : Hid (∀ (b : List UInt8) W B c, b.length ≤ 100000 → TabS W → BytesAt W A key → BytesAt W B b → b.length ≤ c → Calls Tryd.prog 27 #[.slice A key.length cap, .slice B b.length c] W fun e w' => e = .returned (.agg (bcs (hmac key b))) ∧ Below W.heap.size W w') := fun b W B c h0 h1 h2 h3 h4 => macOf_any key b A B cap c W h1 h2 h3 hcap h4 hlen h0
  have HML := hid (msg_len s.data.toList)
  have HMD : Hid (msg s.data.toList = fun k => s.data.toList ++ [0, UInt8.ofNat k]) := rfl
  have HPUT := hid (tags_put key s.data.toList n)
  have HEND := hid (tags_take key s.data.toList n)
  have HTG := hid (tags_len key s.data.toList)
  have HT0 : Hid (tags key s.data.toList 0 = []) := rfl
  generalize drv key s.data.toList n = D at HEND ⊢
  generalize tags key s.data.toList = TG at HPUT HEND HTG HT0
  have hmk := make_bytes n n (Nat.le_refl _) (by omega) w
  clear hT hA
  have hn0 : ¬ ((n : Int) < 0) := by omega
  have hn1 : ¬ ((1024 : Int) < (n : Int)) := by omega
  obtain ⟨c1, W1, hcv, hown, hbe⟩ := conv_own (w.alloc (.cells (bcs (zer n)) 5)) s
  have hz0 : (w.alloc (.cells (bcs (zer n)) 5)).heap.size = w.heap.size + 1 := by simp
  rw [hz0] at hown hbe
  have HOW := hid hown
  have HB1 : Hid (Below (w.heap.size + 1) (w.alloc (.cells (bcs (zer n)) 5)) W1) := hbe
  have hz1 : w.heap.size + 1 < W1.heap.size := hown.lt
  clear hown hbe hz0
  go_enter Tryd.func14, Tryd.ntmps14
  go_wp2_with (refine wpList_own rfl (.tmp 21) (.tmp 22) 31 rfl (w.heap.size + 1) (w.heap.size + 1) s.size c1 2 s.data.toList [0, 0] _ rfl rfl (HOW.out.alloc _) (src_bytes (l := [0, 0]) (BytesAt.of_row (l := [0, 0]) (heap_alloc_new W1 _)) 2 (fun h => by cases h)) (by omega) (by simp; omega) ?_; intro g c W2 hown2 hgr2 hg2)
  have HM2 : Hid (Own W2 (w.heap.size + 1) g (s.size + 2) c (msg s.data.toList 0)) := hown2
  have HB2 : Hid (Below (w.heap.size + 1) (w.alloc (.cells (bcs (zer n)) 5)) W2) := (HOW.out.alloc _).grown (HB1.out.alloc (by omega) _) (by simp; omega) hgr2
  have HD2 : Hid (W2.heap[w.heap.size]? = some (.cells (bcs ((TG 0).take n ++ zer (n - 32 * 0))) 5 (0, 0))) := by
    show _ = _
    rw [HB2.out.block _ (by omega), heap_alloc_new, HT0.out, List.take_nil, List.nil_append]
    rfl
  have HB3 : Hid (Below w.heap.size w W2) := ((Below.refl _ _).alloc (Nat.le_refl _) _).trans (HB2.out.mono (by omega))
  have hgl := HM2.out.ge
  have hcl := HM2.out.le
  clear hown2 hgr2 hg2 HB2 HB1 HOW hcv hmk
  go_wp2_with fail
  go_loopw [10] (fun av wx => ∃ k : Nat, k ≤ 32 ∧ 32 * k < n + 32 ∧ av = .int .i64 ((32 * k : Nat) : Int) ∧ Hid (Own wx (w.heap.size + 1) g (s.size + 2) c (msg s.data.toList k)) ∧ Hid (wx.heap[w.heap.size]? = some (.cells (bcs ((TG k).take n ++ zer (n - 32 * k))) 5 (0, 0))) ∧ Hid (Below w.heap.size w wx)) (fun av _ => n + 32 - (intOf av).toNat)
  case atStart => exact ⟨0, by omega, by omega, rfl, HM2, HD2, HB3⟩
  case round =>
    clear HM2 HD2 HB3
    obtain ⟨k, hk1, hk2, rfl, HM, HD, HB⟩ := hrel
    by_cases hlt : 32 * k < n
    · have cx : wr.cell? ⟨g, s.size + 1, none⟩ = some (.int .u8 (k : Int)) := by
        obtain ⟨q, o, e, hq, hc⟩ := HM.out.bytes (by rw [HML.out, HSL.out]; omega)
        cases e
        have := hc (s.size + 1) (by rw [HML.out, HSL.out]; omega)
        rw [Nat.zero_add] at this
        rw [this, HMD.out]
        have e1 : (s.data.toList ++ [0, UInt8.ofNat k]).getD (s.size + 1) 0 = UInt8.ofNat k := by
          rw [List.getD_eq_getElem?_getD, List.getElem?_append_right (by rw [HSL.out]; omega), HSL.out, show s.size + 1 - s.size = 1 from by omega]; rfl
        rw [e1, UInt8.toNat_ofNat', Nat.mod_eq_of_lt (by omega)]
      have fx : wr.frozen? ⟨g, s.size + 1, none⟩ = false := (HM.out.cell (s.size + 1) (by omega)).2
      have hw : IntKind.u8.wrap ((k : Int) + 1) = (k : Int) + 1 := by rw [IntKind.wrap_u8]; omega
      have HNX : Hid (Own (wr.setCell ⟨g, s.size + 1, none⟩ (.int .u8 ((k : Int) + 1))) (w.heap.size + 1) g (s.size + 2) c (msg s.data.toList (k + 1))) := by
        have := HM.out.set (s.size + 1) (by omega) (UInt8.ofNat (k + 1))
        rw [UInt8.toNat_ofNat', Nat.mod_eq_of_lt (by omega), HMD.out] at this
        have e1 : (s.data.toList ++ [0, UInt8.ofNat k]).set (s.size + 1) (UInt8.ofNat (k + 1)) = s.data.toList ++ [0, UInt8.ofNat (k + 1)] := by
          rw [List.set_append_right _ _ (by rw [HSL.out]; omega), HSL.out, show s.size + 1 - s.size = 1 from by omega]; rfl
        simp only [e1] at this
        show Own _ _ _ _ _ _
        rw [HMD.out]
        exact this
      have HOM : Hid (∀ W, TabS W → BytesAt W A key → Own W (w.heap.size + 1) g (s.size + 2) c (msg s.data.toList (k + 1)) → Calls Tryd.prog 27 #[.slice A key.length cap, .slice (some ⟨g, 0, none⟩) (s.size + 2) c] W fun e w' => e = .returned (.agg (bcs (hmac key (msg s.data.toList (k + 1))))) ∧ Below W.heap.size W w') := fun W h1 h2 h3 => by
        have := HOF.out (msg s.data.toList (k + 1)) W (some ⟨g, 0, none⟩) c (by rw [HML.out, HSL.out]; omega) h1 h2 h3.bytes (by rw [HML.out, HSL.out]; omega)
        rw [HML.out, HSL.out] at this
        exact this
      have HHL := hid (hmac_len key (msg s.data.toList (k + 1)))
      have HPT := hid (HPUT.out k hlt)
      have HBX : Hid (Below w.heap.size w (wr.setCell ⟨g, s.size + 1, none⟩ (.int .u8 ((k : Int) + 1)))) := Below.setCell (p := ⟨g, s.size + 1, none⟩) HB.out (by show _ ≤ g; omega) _
      have HDX : Hid ((wr.setCell ⟨g, s.size + 1, none⟩ (.int .u8 ((k : Int) + 1))).heap[w.heap.size]? = some (.cells (bcs ((TG k).take n ++ zer (n - 32 * k))) 5 (0, 0))) := by
        show _ = _
        rw [heap_setCell_other _ _ _ _ (by show w.heap.size ≠ g; omega)]; exact HD.out
      go_wp2_with fail
      have hgx : g < wr.heap.size := HM.out.lt
      clear cx fx hw HM HD HB
      generalize wr.setCell ⟨g, s.size + 1, none⟩ (.int .u8 ((k : Int) + 1)) = wy at HNX HBX HDX ⊢
      refine (HOM.out _ (HT.out.below HBX.out hT1) (HA.out.below HBX.out (Nat.le_refl _)) HNX.out).mono ?_
      rintro e W3 ⟨rfl, hb3⟩
      have HM3 := hid (HNX.out.below hb3 (Nat.le_refl _))
      have hgy : g < wy.heap.size := HNX.out.lt
      have HD3 := hid ((hb3.block w.heap.size (by omega)).trans HDX.out)
      have HB3 := hid (HBX.out.trans (hb3.mono (by omega)))
      have hz3 := hb3.size
      clear hb3 HNX HBX HDX HOM
      generalize hmac key (msg s.data.toList (k + 1)) = T at HHL HPT ⊢
      go_wp2_with (refine wpList_store_abs rfl 54 (.tmp 11) (.tmp 39) rfl W3.heap.size 0 (bcs T) rfl rfl 54 _ (heap_alloc_new W3 _) (by rw [bcs_size, HHL.out]; exact Nat.le_refl 32) (size24' T HHL.out) (bvs_one T) ?_; intro W4 hO4 hW4)
      rw [over_bytes _ T (by rw [HHL.out]; rfl)] at hW4
      have HT4 := hid hW4
      have HM4 : Hid (Own W4 (w.heap.size + 1) g (s.size + 2) c (msg s.data.toList (k + 1))) := (HM3.out.alloc _).kept (hO4.block _ (by have := HM3.out.lt; omega))
      have HD4 : Hid (W4.heap[w.heap.size]? = some (.cells (bcs ((TG k).take n ++ zer (n - 32 * k))) 5 (0, 0))) := by
        show _ = _
        rw [hO4.block _ (by omega), Below.heap_alloc W3 _ _ (by omega)]; exact HD3.out
      have HB4 : Hid (Below w.heap.size w W4) := (HB3.out.alloc (by omega) _).trans (hO4.below (by omega))
      have hz4 : W4.heap.size = W3.heap.size + 1 := by rw [hO4.size]; simp
      clear hO4 hW4 HM3 HD3 HB3
      have HBA := hid (BytesAt.of_row HT4.out)
      have HFT : Hid (32 * k + (n - 32 * k) ≤ (bcs ((TG k).take n ++ zer (n - 32 * k))).size) := by
        show _ ≤ _
        rw [bcs_size, List.length_append, List.length_take, HTG.out, zer_len]; omega
      have tn : (32 * (k : Int)).toNat = 32 * k := by omega
      have hq1 : 0 ≤ 32 * (k : Int) := by omega
      have hq2 : 32 * (k : Int) ≤ (n : Int) := by omega
      have hq3 : ¬ n = 32 * k := by omega
      go_wp2_with fail
      go_region_law ((refine step_copy_cut (by rfl) _ _ (by rfl) w.heap.size (32 * k) (n - 32 * k) (n - 32 * k) 32 32 (some ⟨W3.heap.size, 0, none⟩) T (by rfl) (by rfl) HHL.out.symm 5 _ (by exact HBA.out) (by exact HD4.out) (by exact HFT.out) ?_; intro W5 v5 hO5 hW5))
      all_goals
        rw [HPT.out] at hW5
        have HD5 := hid hW5
        have HM5 : Hid (Own W5 (w.heap.size + 1) g (s.size + 2) c (msg s.data.toList (k + 1))) := (HM4.out.drew).kept (hO5.block _ (by omega))
        have HB5 : Hid (Below w.heap.size w W5) := (HB4.out.trans (below_drewN _ _ 1)).trans (hO5.below (by omega))
        clear hO5 hW5 HM4 HD4 HB4
        go_wp2_with fail
        go_roundw
        case rel => exact ⟨k + 1, by omega, by omega, by go_num, HM5, HD5, HB5⟩
        case measure => simp [intOf]; omega
    · have hD := HD.out
      rw [HEND.out k (by omega), show n - 32 * k = 0 from by omega, show zer 0 = [] from rfl, List.append_nil] at hD
      go_wp2_with fail
      go_ret2
      exact ⟨rfl, hD, HB.out⟩

end Go.Proofs.YtggbianodoneeaaDoor
