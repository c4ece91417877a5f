/- What the reference's Hex does, and ShaHex at every input. -/
import Derived.Test.YtehjjobnmlhjlaaDoorUnLaw
import Derived.OpenShut
namespace Go.Proofs.YtehjjobnmlhjlaaDoor
open Go.RowKit

theorem own_new0' (w : World) : (w.alloc (.cells #[] 5)).ownsRow w.heap.size 5 1 (.slice (some ⟨w.heap.size, 0, none⟩) 0 0) 0 [] := own_new0 w

set_option maxRecDepth 100000 in
set_option maxHeartbeats 1000000 in
theorem refHex_any (l : List UInt8) (A : Option Addr) (cap q o : Nat) (w : World) (hA : 0 < l.length → A = some ⟨q, o, none⟩) (hqs : q < w.heap.size)
    (hsrc : ∀ j, j < l.length → w.cell? ⟨q, o + j, none⟩ = some (.int .u8 (l.getD j 0).toNat)) (hlen : l.length ≤ 1000000) :
    Calls Tryd.prog 21 #[.slice A l.length cap] w fun e w' => e = .returned (.string ⟨(hexB l).toArray⟩) ∧ Below w.heap.size w w' := by
  have HSRC := hid hsrc
  have HA := hid hA
  obtain ⟨i0, hi, hz0, hz1, hz2⟩ := info_parts info5
  have HI := hid hi
  have HI0 := hid hz0
  have HI1 := hid hz1
  have HI2 := hid hz2
  have HX : Hid (∀ k, l.length ≤ k → hexB (l.take k) = hexB l) := fun k hk => by rw [List.take_of_length_le hk]
  have HXL := hid (hexB_len l)
  generalize hexB l = X at HX HXL ⊢
  clear hsrc hA hi hz0 hz1 hz2
  go_enter Tryd.func21, Tryd.ntmps21
  go_wp2_with fail
  go_loopw [3, 4] (fun v i wr => ∃ (k g c : Nat), k ≤ l.length ∧ i = .int .i64 k ∧ v = .slice (some ⟨g, 0, none⟩) (2 * k) c ∧ Hid (wr.ownsRow w.heap.size 5 1 (.slice (some ⟨g, 0, none⟩) (2 * k) c) (2 * k) (bvs (hexB (l.take k)))) ∧ Hid (Below w.heap.size w wr)) (fun _ i _ => l.length - (intOf i).toNat)
  case atStart => exact ⟨0, w.heap.size, 0, Nat.zero_le _, rfl, rfl, own_new0 w, (Below.refl _ _).alloc (Nat.le_refl _) _⟩
  case round =>
    obtain ⟨k, g, c, hk, rfl, rfl, HO, HB⟩ := hrel
    by_cases hlt : k < l.length
    · obtain rfl := HA.out (by omega)
      obtain ⟨x, ex⟩ : ∃ x, Hid (x = l.getD k 0) := ⟨_, rfl⟩
      have hx256 := x.toNat_lt
      have cx : wr.cell? ⟨q, o + k, none⟩ = some (.int .u8 x.toNat) := by rw [HB.out.cell (p := ⟨q, o + k, none⟩) hqs, HSRC.out k hlt, ex.out]
      have h15 : (x.toNat : Int).tdiv 16 = (x.toNat : Int) / 16 := Int.tdiv_eq_ediv_of_nonneg (by omega)
      have h16 : (x.toNat : Int).tmod 16 = (x.toNat : Int) % 16 := Int.tmod_eq_emod_of_nonneg (by omega)
      have h17 : IntKind.u8.wrap ((x.toNat : Int) / 16) = (x.toNat : Int) / 16 := by rw [IntKind.wrap_u8]; omega
      have h18 : IntKind.u8.wrap ((x.toNat : Int) % 16) = (x.toNat : Int) % 16 := by rw [IntKind.wrap_u8]; omega
      have hi1 := index_dig ((x.toNat : Int) / 16) (x.toNat / 16) (by omega) (by omega)
      have hi2 := index_dig ((x.toNat : Int) % 16) (x.toNat % 16) (by omega) (by omega)
      go_wp2_with fail
      have HON : Hid (∀ u ∈ [Value.int .u8 (hd (x.toNat / 16)).toNat, .int .u8 (hd (x.toNat % 16)).toNat], u.oneCell' = true) := fun u hu => by
        simp only [List.mem_cons, List.not_mem_nil, or_false] at hu
        rcases hu with rfl | rfl <;> rfl
      have hsz : w.heap.size ≤ wr.heap.size := HB.out.size
      go_region_law ((refine step_append_lies _ (by rfl) _ _ 22 (by rfl) w.heap.size 5 i0 (.int .u8 0) 1 1 Tryd.underlying22 HI.out HI0.out HI1.out HI2.out rfl (by decide) _ (2 * k) (bvs (hexB (l.take k))) (by rfl) (by exact HO.out.alloc _) ⟨wr.heap.size, 0, none⟩ 2 2 [Value.int .u8 (hd (x.toNat / 16)).toNat, .int .u8 (hd (x.toNat % 16)).toNat] (by rfl) rfl (by exact World.news_of_block (heap_alloc_new wr _)) HON.out (by omega) (by unfold maxLen; omega) (by omega) (by simp; omega) (wr.heap.size + 1) (by simp) ?_; intro g2 c2 w2 hown2 hgr2 hat2 hlt2))
      all_goals
        have HO2 := hid hown2
        have hgr3 : (wr.alloc (.cells #[Value.int .u8 (hd (x.toNat / 16)).toNat, .int .u8 (hd (x.toNat % 16)).toNat] 5)).drew.grownBy w2 (some g) := hgr2
        have hB2 : Below w.heap.size w w2 := by
          refine ((HB.out.alloc hsz _).drew).grown hgr3 ?_ ?_
          · simp; omega
          · intro k hk
            cases hk
            rcases HO.out.2 with ⟨h0, _⟩ | ⟨g', c', cur, h1, h2, _⟩
            · cases h0
            · cases h1; exact h2
        have HB2 := hid hB2
        clear hown2 hgr2 hgr3 hat2 hlt2 hB2
        go_wp2_with fail
        go_roundw
        case rel =>
          refine ⟨k + 1, g2, c2, by omega, by go_num, by rw [Nat.mul_add], ?_, HB2⟩
          show World.ownsRow _ _ _ _ _ _ _
          rw [hexB_snoc l k hlt, ← ex.out, Nat.mul_add]
          have e : bvs (hexB (l.take k) ++ hex2 x) = bvs (hexB (l.take k)) ++ [Value.int .u8 (hd (x.toNat / 16)).toNat, .int .u8 (hd (x.toNat % 16)).toNat] := by simp [bvs, hex2]
          rw [e]
          exact HO2.out
        case measure => simp [intOf]; omega
    · have ho := HO.out
      rw [HX.out k (by omega)] at ho
      have hback := str_of c (own_cells ho) (2 * k) (by rw [HXL.out]; omega)
      clear ho HO
      go_wp2_with fail
      go_ret
      exact ⟨rfl, HB.out⟩

theorem hv_hd_fin : ∀ n : Fin 16, hv (hd n.val) = some n.val := by decide +kernel
theorem hv_hd (n : Nat) (h : n < 16) : hv (hd n) = some n := hv_hd_fin ⟨n, h⟩
theorem hexB_at : ∀ (l : List UInt8) (k : Nat), k < l.length → (hexB l).getD (2 * k) 0 = hd ((l.getD k 0).toNat / 16) ∧ (hexB l).getD (2 * k + 1) 0 = hd ((l.getD k 0).toNat % 16)
  | [], k, h => absurd h (by simp)
  | c :: r, 0, _ => ⟨rfl, rfl⟩
  | c :: r, k + 1, h => by
    have ih := hexB_at r k (by simpa using h)
    have e : hexB (c :: r) = hex2 c ++ hexB r := by simp [hexB]
    have e1 : ∀ j, (hexB (c :: r)).getD (j + 2) 0 = (hexB r).getD j 0 := fun j => by rw [e]; rfl
    refine ⟨?_, ?_⟩
    · rw [show 2 * (k + 1) = 2 * k + 2 from by omega, e1]; exact ih.1
    · rw [show 2 * (k + 1) + 1 = 2 * k + 1 + 2 from by omega, e1]; exact ih.2
theorem okAt_hex (l : List UInt8) (k : Nat) (h : k < l.length) : okAt (hexB l) k := by
  obtain ⟨h1, h2⟩ := hexB_at l k h
  have := (l.getD k 0).toNat_lt
  refine ⟨?_, ?_⟩
  · rw [h1, hv_hd _ (by omega)]; rfl
  · rw [h2, hv_hd _ (by omega)]; rfl
theorem pair_hex (l : List UInt8) (k : Nat) (h : k < l.length) : pairB (hexB l) k = l.getD k 0 := by
  obtain ⟨h1, h2⟩ := hexB_at l k h
  have hl := (l.getD k 0).toNat_lt
  unfold pairB
  rw [h1, h2, hv_hd _ (by omega), hv_hd _ (by omega)]
  apply UInt8.toNat_inj.1
  rw [UInt8.toNat_ofNat']
  show (16 * ((l.getD k 0).toNat / 16) + (l.getD k 0).toNat % 16) % 2 ^ 8 = _
  omega
theorem un_hex (l : List UInt8) : unB (hexB l) l.length = l := by
  apply List.ext_getElem
  · rw [unB_len]
  · intro i h1 h2
    simp only [unB, List.getElem_map, List.getElem_range]
    rw [pair_hex l i h2, List.getD_eq_getElem?_getD, List.getElem?_eq_getElem h2]
    rfl

/-- Bytes that came in, laid open. -/
theorem row_open {w : World} {a : Option Addr} {len cap : Nat} {zs : List Int} (h : IsRow .u8 w a len cap zs) (h0 : 0 < w.heap.size) :
    ∃ (l : List UInt8) (q o : Nat), l.length = len ∧ len ≤ cap ∧ (0 < l.length → a = some ⟨q, o, none⟩) ∧ q < w.heap.size ∧ (∀ j, j < l.length → w.cell? ⟨q, o + j, none⟩ = some (.int .u8 (l.getD j 0).toNat)) := by
  rcases h with ⟨rfl, rfl, rfl, rfl⟩ | ⟨x, rfl, h1, h2, h3, h4, h5⟩
  · exact ⟨[], 0, 0, rfl, Nat.le_refl _, fun h => absurd h (by simp), h0, fun j hj => absurd hj (by simp)⟩
  · by_cases hz : len = 0
    · subst hz
      exact ⟨[], 0, 0, rfl, h1, fun h => absurd h (by simp), h0, fun j hj => absurd hj (by simp)⟩
    · have hc0 := h4 0 (by omega)
      have hx0 : x.add 0 = x := by unfold Addr.add; simp
      rw [hx0] at hc0
      obtain ⟨q, o, sp⟩ := x
      obtain rfl := cell_spot hc0
      refine ⟨(zs.take len).map fun z => UInt8.ofNat z.toNat, q, o, by simp; omega, h1, fun _ => rfl, block_lt_of_cell hc0, fun j hj => ?_⟩
      have hj' : j < len := by simp at hj; omega
      have := h4 j (by omega)
      rw [Addr.add_mid] at this
      rw [this]
      have hjz : j < zs.length := by omega
      have hb := range_u8 h5 j
      rw [List.getElem?_eq_getElem hjz] at hb
      simp only [Option.getD_some] at hb
      have hg : zs.getD j 0 = zs[j] := by simp [List.getD_eq_getElem?_getD, hjz]
      have e : ((zs.take len).map fun z => UInt8.ofNat z.toNat).getD j 0 = UInt8.ofNat (zs[j]).toNat := by
        simp [List.getD_eq_getElem?_getD, hj', hjz]
      rw [e, hg, UInt8.toNat_ofNat']
      congr 2
      omega

theorem str_nil (w : World) : (convert 22 9 (.slice none 0 0)).run Tryd.prog w = .ok (.string ⟨#[]⟩) w := by
  rw [run_convert_bytes_string w 22 9 5 _ _ _ Tryd.underlying22 Tryd.underlying5 Tryd.underlying9]
  simp [Conv.bytesToString]
  rfl
/-- string(b) of what came in, in a later world. -/
theorem str_in {w w' : World} {a : Option Addr} {cap q o : Nat} {l : List UInt8} (hz : l.length = 0 → a = none ∧ cap = 0 ∨ ∃ x, a = some x) (hA : 0 < l.length → a = some ⟨q, o, none⟩) (hq : q < w.heap.size) (hsrc : ∀ j, j < l.length → w.cell? ⟨q, o + j, none⟩ = some (.int .u8 (l.getD j 0).toNat)) (hb : Below w.heap.size w w') :
    (convert 22 9 (.slice a l.length cap)).run Tryd.prog w' = .ok (.string ⟨l.toArray⟩) w' := by
  by_cases h0 : l.length = 0
  · obtain rfl := List.length_eq_zero_iff.1 h0
    rcases hz h0 with ⟨rfl, rfl⟩ | ⟨x, rfl⟩
    · exact str_nil w'
    · exact str_of cap (fun j v hv => by simp [bvs] at hv) 0 rfl
  · obtain rfl := hA (by omega)
    refine str_of cap (fun j v hv => ?_) l.length rfl
    have hj : j < l.length := by have := (List.getElem?_eq_some_iff.1 hv).1; rw [bvs_len] at this; exact this
    rw [Addr.add_mid, hb.cell (p := ⟨q, o + j, none⟩) hq, hsrc j hj, ← hv]
    simp [bvs, List.getD_eq_getElem?_getD, hj]

set_option maxRecDepth 100000 in
set_option maxHeartbeats 1000000 in
theorem hex_law (a : Option Addr) (len cap : Nat) (zs : List Int) (w : World) (h : IsRow .u8 w a len cap zs) (hT : TabS w) :
    Calls Tryd.prog 6 #[.slice a len cap] w fun e w' => e = .returned (.bool true) ∧ Below w.heap.size w w' := by
  have HAW := hid awake_any
  have HT := hid hT
  have hT1 := hT.lt
  have hmax := h.len
  unfold maxLen at hmax
  have hz : len = 0 → a = none ∧ cap = 0 ∨ ∃ x, a = some x := fun _ => by
    rcases h with ⟨h1, _, h2, _⟩ | ⟨x, h1, _⟩
    · exact .inl ⟨h1, h2⟩
    · exact .inr ⟨x, h1⟩
  obtain ⟨l, q, o, rfl, hcap, hA, hq, hsrc⟩ := row_open h (by omega)
  by_cases hlong : (l.length : Int) ≤ 4000
  · have H19 := hid (hex_any l a cap q o w hA hq hsrc (by omega))
    have H21 : Hid (∀ W, Below w.heap.size w W → Calls Tryd.prog 21 #[.slice a l.length cap] W fun e w' => e = .returned (.string ⟨(hexB l).toArray⟩) ∧ Below W.heap.size W w') := fun W hb =>
      refHex_any l a cap q o W hA (Nat.lt_of_lt_of_le hq hb.size) (fun j hj => (hb.cell (p := ⟨q, o + j, none⟩) hq).trans (hsrc j hj)) (by omega)
    have HST : Hid (∀ W, Below w.heap.size w W → (convert 22 9 (.slice a l.length cap)).run Tryd.prog W = .ok (.string ⟨l.toArray⟩) W) := fun W hb => str_in hz hA hq hsrc hb
    have hxs : (⟨(hexB l).toArray⟩ : ByteArray).size = 2 * l.length := by
      rw [← hexB_len l]; rfl
    have HUN : Hid (∀ W, Calls Tryd.prog 20 #[.string ⟨(hexB l).toArray⟩] W fun e w' => Below W.heap.size W w' ∧ e = .returned (.tuple #[.slice (some ⟨W.heap.size, 0, none⟩) l.length l.length, .int .i64 0]) ∧ w'.heap[W.heap.size]? = some (.cells (bcs l) 5 (0, 0))) := fun W => by
      refine (unhex_any ⟨(hexB l).toArray⟩ W (by rw [hxs]; omega)).mono ?_
      rintro e w' ⟨hb, ⟨n, hn, hok, rfl, hrow⟩ | ⟨hbad, rfl⟩⟩
      · obtain rfl : n = l.length := by omega
        rw [show (⟨(hexB l).toArray⟩ : ByteArray).data.toList = hexB l from rfl, un_hex] at hrow
        exact ⟨hb, rfl, hrow⟩
      · exfalso
        rcases hbad with h | ⟨j, hj, h⟩
        · omega
        · exact h (okAt_hex l j (by omega))
    generalize (⟨(hexB l).toArray⟩ : ByteArray) = X at H19 H21 HUN
    have hX : (X.toList == X.toList) = true := by simp
    have HLL : Hid (l.length = l.length) := rfl
    clear h hT hz hA hsrc hxs HLL
    go_enter Tryd.func6, Tryd.ntmps6
    go_wp2_with fail
    refine H19.out.mono ?_
    rintro e w1 ⟨rfl, hb1⟩
    have HB1 := hid hb1
    clear hb1
    go_wp2_with fail
    refine (HUN.out _).mono ?_
    rintro e w2 ⟨hb2, rfl, hrow2⟩
    have HB2 := hid (HB1.out.trans (hb2.mono HB1.out.size))
    have hlt : w1.heap.size < w2.heap.size := (Array.getElem?_eq_some_iff.1 hrow2).1
    have HROW := hid hrow2
    clear hb2 hrow2
    go_wp2_with fail
    refine (H21.out _ HB2.out).mono ?_
    rintro e w3 ⟨rfl, hb3⟩
    have HB3 := hid (HB2.out.trans (hb3.mono HB2.out.size))
    have hs1 := str_of l.length (row_cells ((hb3.block _ hlt).trans HROW.out)) l.length rfl
    have hs2 := HST.out _ HB3.out
    have HT3 := hid (HT.out.below HB3.out hT1)
    generalize (⟨l.toArray⟩ : ByteArray) = Y at hs1 hs2
    have hY : (Y.toList == Y.toList) = true := by simp
    clear hb3 HROW
    go_wp2_with fail
    refine (HAW.out _ HT3.out).mono ?_
    rintro e w4 ⟨rfl, hb4⟩
    have HB4 := hid (HB3.out.trans (hb4.mono HB3.out.size))
    clear hb4
    go_wp2_with fail
    go_ret
    exact ⟨rfl, HB4.out⟩
  · clear h hz hA hsrc
    go_enter Tryd.func6, Tryd.ntmps6
    go_wp2_with (go_at_call 9; refine (HAW.out _ HT.out).mono ?_; rintro e w1 ⟨rfl, hb1⟩)
    go_ret
    exact ⟨rfl, hb1⟩

end Go.Proofs.YtehjjobnmlhjlaaDoor
