
/- Bytes that come in: laid open, appended to, and as a text; the reference's Hex. -/
import Derived.Test.YtggbianodoneeaaDoorEq
import Derived.Test.YtggbianodoneeaaDoorOpen
import Derived.OpenShut
import Derived.Deep.Cut
namespace Go.Proofs.YtggbianodoneeaaDoor
open Go.RowKit

theorem row_cells {w : World} {g : Nat} {l : List UInt8} {t : TypeId} {fr : Nat × Nat} (h : w.heap[g]? = some (.cells (bcs l) t fr)) : ∀ j v, (bvs l)[j]? = some v → w.cell? ((⟨g, 0, none⟩ : Addr).add j) = some v := fun j v hv => by
  rw [Addr.add_mid, Nat.zero_add, cell_of_row _ _ _ _ _ _ h, bcs_eq, List.getElem?_toArray]; exact hv
theorem own_new0 (w : World) : (w.alloc (.cells #[] 5)).ownsRow w.heap.size 5 1 (.slice (some ⟨w.heap.size, 0, none⟩) 0 0) 0 [] :=
  ⟨rfl, .inr ⟨w.heap.size, 0, #[], rfl, Nat.le_refl _, heap_alloc_new w _, Nat.le_refl _, by unfold maxLen; omega, rfl, rfl⟩⟩

set_option maxRecDepth 100000 in
set_option maxHeartbeats 1000000 in
theorem refHex_any (l : List UInt8) (A : Option Addr) (cap q o : Nat) (w : World) (hA : 0 < l.length → A = some ⟨q, o, none⟩) (hqs : q < w.heap.size)
    (hsrc : ∀ j, j < l.length → w.cell? ⟨q, o + j, none⟩ = some (.int .u8 (l.getD j 0).toNat)) (hlen : l.length ≤ 1000000) :
    Calls Tryd.prog 28 #[.slice A l.length cap] w fun e w' => e = .returned (.string ⟨(hexB l).toArray⟩) ∧ Below w.heap.size w w' := by
  have HSRC := hid hsrc
  have HA := hid hA
  obtain ⟨i0, hi, hz0, hz1, hz2⟩ := info_parts info5
  have HI := hid hi
  have HI0 := hid hz0
  have HI1 := hid hz1
  have HI2 := hid hz2
  have HX : Hid (∀ k, l.length ≤ k → hexB (l.take k) = hexB l) := fun k hk => by rw [List.take_of_length_le hk]
  have HXL := hid (hexB_len l)
  generalize hexB l = X at HX HXL ⊢
  clear hsrc hA hi hz0 hz1 hz2
  go_enter Tryd.func28, Tryd.ntmps28
  go_wp2_with fail
  go_loopw [3, 4] (fun v i wr => ∃ (k g c : Nat), k ≤ l.length ∧ i = .int .i64 k ∧ v = .slice (some ⟨g, 0, none⟩) (2 * k) c ∧ Hid (wr.ownsRow w.heap.size 5 1 (.slice (some ⟨g, 0, none⟩) (2 * k) c) (2 * k) (bvs (hexB (l.take k)))) ∧ Hid (Below w.heap.size w wr)) (fun _ i _ => l.length - (intOf i).toNat)
  case atStart => exact ⟨0, w.heap.size, 0, Nat.zero_le _, rfl, rfl, own_new0 w, (Below.refl _ _).alloc (Nat.le_refl _) _⟩
  case round =>
    obtain ⟨k, g, c, hk, rfl, rfl, HO, HB⟩ := hrel
    by_cases hlt : k < l.length
    · obtain rfl := HA.out (by omega)
      obtain ⟨x, ex⟩ : ∃ x, Hid (x = l.getD k 0) := ⟨_, rfl⟩
      have hx256 := x.toNat_lt
      have cx : wr.cell? ⟨q, o + k, none⟩ = some (.int .u8 x.toNat) := by rw [HB.out.cell (p := ⟨q, o + k, none⟩) hqs, HSRC.out k hlt, ex.out]
      have h15 : (x.toNat : Int).tdiv 16 = (x.toNat : Int) / 16 := Int.tdiv_eq_ediv_of_nonneg (by omega)
      have h16 : (x.toNat : Int).tmod 16 = (x.toNat : Int) % 16 := Int.tmod_eq_emod_of_nonneg (by omega)
      have h17 : IntKind.u8.wrap ((x.toNat : Int) / 16) = (x.toNat : Int) / 16 := by rw [IntKind.wrap_u8]; omega
      have h18 : IntKind.u8.wrap ((x.toNat : Int) % 16) = (x.toNat : Int) % 16 := by rw [IntKind.wrap_u8]; omega
      have hi1 := index_dig ((x.toNat : Int) / 16) (x.toNat / 16) (by omega) (by omega)
      have hi2 := index_dig ((x.toNat : Int) % 16) (x.toNat % 16) (by omega) (by omega)
      go_wp2_with fail
      have HON : Hid (∀ u ∈ [Value.int .u8 (hd (x.toNat / 16)).toNat, .int .u8 (hd (x.toNat % 16)).toNat], u.oneCell' = true) := fun u hu => by
        simp only [List.mem_cons, List.not_mem_nil, or_false] at hu
        rcases hu with rfl | rfl <;> rfl
      have hsz : w.heap.size ≤ wr.heap.size := HB.out.size
      go_region_law ((refine step_append_lies _ (by rfl) _ _ 31 (by rfl) w.heap.size 5 i0 (.int .u8 0) 1 1 Tryd.underlying31 HI.out HI0.out HI1.out HI2.out rfl (by decide) _ (2 * k) (bvs (hexB (l.take k))) (by rfl) (by exact HO.out.alloc _) ⟨wr.heap.size, 0, none⟩ 2 2 [Value.int .u8 (hd (x.toNat / 16)).toNat, .int .u8 (hd (x.toNat % 16)).toNat] (by rfl) rfl (by exact World.news_of_block (heap_alloc_new wr _)) HON.out (by omega) (by unfold maxLen; omega) (by omega) (by simp; omega) (wr.heap.size + 1) (by simp) ?_; intro g2 c2 w2 hown2 hgr2 hat2 hlt2))
      all_goals
        have HO2 := hid hown2
        have hgr3 : (wr.alloc (.cells #[Value.int .u8 (hd (x.toNat / 16)).toNat, .int .u8 (hd (x.toNat % 16)).toNat] 5)).drew.grownBy w2 (some g) := hgr2
        have hB2 : Below w.heap.size w w2 := by
          refine ((HB.out.alloc hsz _).drew).grown hgr3 ?_ ?_
          · simp; omega
          · intro k hk
            cases hk
            rcases HO.out.2 with ⟨h0, _⟩ | ⟨g', c', cur, h1, h2, _⟩
            · cases h0
            · cases h1; exact h2
        have HB2 := hid hB2
        clear hown2 hgr2 hgr3 hat2 hlt2 hB2
        go_wp2_with fail
        go_roundw
        case rel =>
          refine ⟨k + 1, g2, c2, by omega, by go_num, by rw [Nat.mul_add], ?_, HB2⟩
          show World.ownsRow _ _ _ _ _ _ _
          rw [hexB_snoc l k hlt, ← ex.out, Nat.mul_add]
          have e : bvs (hexB (l.take k) ++ hex2 x) = bvs (hexB (l.take k)) ++ [Value.int .u8 (hd (x.toNat / 16)).toNat, .int .u8 (hd (x.toNat % 16)).toNat] := by simp [bvs, hex2]
          rw [e]
          exact HO2.out
        case measure => simp [intOf]; omega
    · have ho := HO.out
      rw [HX.out k (by omega)] at ho
      have hback := str_of c (own_cells ho) (2 * k) (by rw [HXL.out]; omega)
      clear ho HO
      go_wp2_with fail
      go_ret
      exact ⟨rfl, HB.out⟩

/-- Bytes that came in, laid open. -/
theorem row_open {w : World} {a : Option Addr} {len cap : Nat} {zs : List Int} (h : IsRow .u8 w a len cap zs) (h0 : 0 < w.heap.size) :
    ∃ (l : List UInt8) (q o : Nat), l.length = len ∧ len ≤ cap ∧ (0 < l.length → a = some ⟨q, o, none⟩) ∧ q < w.heap.size ∧ (∀ j, j < l.length → w.cell? ⟨q, o + j, none⟩ = some (.int .u8 (l.getD j 0).toNat)) := by
  rcases h with ⟨rfl, rfl, rfl, rfl⟩ | ⟨x, rfl, h1, h2, h3, h4, h5⟩
  · exact ⟨[], 0, 0, rfl, Nat.le_refl _, fun h => absurd h (by simp), h0, fun j hj => absurd hj (by simp)⟩
  · by_cases hz : len = 0
    · subst hz
      exact ⟨[], 0, 0, rfl, h1, fun h => absurd h (by simp), h0, fun j hj => absurd hj (by simp)⟩
    · have hc0 := h4 0 (by omega)
      have hx0 : x.add 0 = x := by unfold Addr.add; simp
      rw [hx0] at hc0
      obtain ⟨q, o, sp⟩ := x
      obtain rfl := cell_spot hc0
      refine ⟨(zs.take len).map fun z => UInt8.ofNat z.toNat, q, o, by simp; omega, h1, fun _ => rfl, block_lt_of_cell hc0, fun j hj => ?_⟩
      have hj' : j < len := by simp at hj; omega
      have := h4 j (by omega)
      rw [Addr.add_mid] at this
      rw [this]
      have hjz : j < zs.length := by omega
      have hb := range_u8 h5 j
      rw [List.getElem?_eq_getElem hjz] at hb
      simp only [Option.getD_some] at hb
      have hg : zs.getD j 0 = zs[j] := by simp [List.getD_eq_getElem?_getD, hjz]
      have e : ((zs.take len).map fun z => UInt8.ofNat z.toNat).getD j 0 = UInt8.ofNat (zs[j]).toNat := by
        simp [List.getD_eq_getElem?_getD, hj', hjz]
      rw [e, hg, UInt8.toNat_ofNat']
      congr 2
      omega

theorem str_nil (w : World) : (convert 31 9 (.slice none 0 0)).run Tryd.prog w = .ok (.string ⟨#[]⟩) w := by
  rw [run_convert_bytes_string w 31 9 5 _ _ _ Tryd.underlying31 Tryd.underlying5 Tryd.underlying9]
  simp [Conv.bytesToString]
  rfl
/-- string(b) of what came in, in a later world. -/
theorem str_in {w w' : World} {a : Option Addr} {cap q o : Nat} {l : List UInt8} (hz : l.length = 0 → a = none ∧ cap = 0 ∨ ∃ x, a = some x) (hA : 0 < l.length → a = some ⟨q, o, none⟩) (hq : q < w.heap.size) (hsrc : ∀ j, j < l.length → w.cell? ⟨q, o + j, none⟩ = some (.int .u8 (l.getD j 0).toNat)) (hb : Below w.heap.size w w') :
    (convert 31 9 (.slice a l.length cap)).run Tryd.prog w' = .ok (.string ⟨l.toArray⟩) w' := by
  by_cases h0 : l.length = 0
  · obtain rfl := List.length_eq_zero_iff.1 h0
    rcases hz h0 with ⟨rfl, rfl⟩ | ⟨x, rfl⟩
    · exact str_nil w'
    · exact str_of cap (fun j v hv => by simp [bvs] at hv) 0 rfl
  · obtain rfl := hA (by omega)
    refine str_of cap (fun j v hv => ?_) l.length rfl
    have hj : j < l.length := by have := (List.getElem?_eq_some_iff.1 hv).1; rw [bvs_len] at this; exact this
    rw [Addr.add_mid, hb.cell (p := ⟨q, o + j, none⟩) hq, hsrc j hj, ← hv]
    simp [bvs, List.getD_eq_getElem?_getD, hj]

end Go.Proofs.YtggbianodoneeaaDoor
