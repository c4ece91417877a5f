/- What ShaUnhex does at every text. -/
import Derived.Test.YtehjjobnmlhjlaaDoorRefUnhex
import Derived.Test.YtehjjobnmlhjlaaDoorAbc
import Derived.Test.YtehjjobnmlhjlaaDoorOpen
namespace Go.Proofs.YtehjjobnmlhjlaaDoor
open Go.RowKit

theorem row_cells {w : World} {g : Nat} {l : List UInt8} {t : TypeId} {fr : Nat × Nat} (h : w.heap[g]? = some (.cells (bcs l) t fr)) : ∀ j v, (bvs l)[j]? = some v → w.cell? ((⟨g, 0, none⟩ : Addr).add j) = some v := fun j v hv => by
  rw [Addr.add_mid, Nat.zero_add, cell_of_row _ _ _ _ _ _ h, bcs_eq, List.getElem?_toArray]; exact hv

set_option maxRecDepth 100000 in
set_option maxHeartbeats 1000000 in
theorem unhex_law (s : ByteArray) (w : World) (hT : TabS w) :
    Calls Tryd.prog 7 #[.string s] w fun e w' => e = .returned (.bool true) ∧ Below w.heap.size w w' := by
  have HAW := hid awake_any
  have HT := hid hT
  have hT1 := hT.lt
  clear hT
  by_cases hlong : (s.size : Int) ≤ 8000
  · have H20 := hid (fun W => unhex_any s W (by omega))
    have H22 := hid (fun W => refUnhex_any s W (by omega))
    go_enter Tryd.func7, Tryd.ntmps7
    go_wp2_with fail
    refine (H20.out _).mono ?_
    rintro e w1 ⟨hb1, ⟨n, hn, hok, rfl, hrow⟩ | ⟨hbad, rfl⟩⟩
    · have HB1 := hid hb1
      have HROW := hid hrow
      have HOK := hid hok
      have HN := hid hn
      clear hb1 hrow hok hn
      go_wp2_with fail
      refine (H22.out _).mono ?_
      rintro e w2 ⟨hb2, ⟨n2, g, c, hn2, hok2, rfl, ho2⟩ | ⟨hbad2, rfl⟩⟩
      · obtain rfl : n2 = n := by have := HN.out; omega
        have HB2 := hid (HB1.out.trans (hb2.mono HB1.out.size))
        have hlt : w.heap.size < w1.heap.size := (Array.getElem?_eq_some_iff.1 HROW.out).1
        have hrow2 := (hb2.block _ hlt).trans HROW.out
        have hs1 := str_of n2 (row_cells hrow2) n2 (unB_len _ _).symm
        have hs2 := str_of c (own_cells ho2) n2 (unB_len _ _).symm
        have HT2 := hid (HT.out.below HB2.out hT1)
        generalize (⟨(unB s.data.toList n2).toArray⟩ : ByteArray) = X at hs1 hs2
        have hX : (X.toList == X.toList) = true := by simp
        clear hb2 hn2 hok2 ho2 hrow2 HROW HOK HN
        go_wp2_with fail
        refine (HAW.out _ HT2.out).mono ?_
        rintro e w3 ⟨rfl, hb3⟩
        have HB3 := hid (HB2.out.trans (hb3.mono HB2.out.size))
        clear hb3
        go_wp2_with fail
        go_ret
        exact ⟨rfl, HB3.out⟩
      · exfalso
        have := HN.out
        rcases hbad2 with h | ⟨j, hj, h⟩
        · omega
        · exact h (HOK.out j (by omega))
    · have HB1 := hid hb1
      have HBAD := hid hbad
      clear hb1 hbad
      go_wp2_with fail
      refine (H22.out _).mono ?_
      rintro e w2 ⟨hb2, ⟨n2, g, c, hn2, hok2, rfl, ho2⟩ | ⟨hbad2, rfl⟩⟩
      · exfalso
        rcases HBAD.out with h | ⟨j, hj, h⟩
        · omega
        · exact h (hok2 j (by omega))
      · have HB2 := hid (HB1.out.trans (hb2.mono HB1.out.size))
        have HT2 := hid (HT.out.below HB2.out hT1)
        clear hb2 hbad2 HBAD
        go_wp2_with fail
        refine (HAW.out _ HT2.out).mono ?_
        rintro e w3 ⟨rfl, hb3⟩
        have HB3 := hid (HB2.out.trans (hb3.mono HB2.out.size))
        clear hb3
        go_wp2_with fail
        go_ret
        exact ⟨rfl, HB3.out⟩
  · go_enter Tryd.func7, Tryd.ntmps7
    go_wp2_with (go_at_call 9; refine (HAW.out _ HT.out).mono ?_; rintro e w1 ⟨rfl, hb1⟩)
    go_ret
    exact ⟨rfl, hb1⟩

end Go.Proofs.YtehjjobnmlhjlaaDoor
