/- What TextWords and TextTwice do at every text, in a world that holds utf8's two tables: they return true and leave what was there as it was. -/
import Derived.Test.YtdpaimpdlopafaaDoorTexts
namespace Go.Proofs.YtdpaimpdlopafaaDoor
open Go.RowKit

theorem texts_any (b1 b2 : Nat) (v1 v2 : Value) (ws : List (List UInt8)) (W : World) (hn : ws.length ≤ 1000001) (h1 : W.ownsRow b1 9 1 v1 ws.length (strs ws)) (h2 : W.ownsRow b2 9 1 v2 ws.length (strs ws)) :
    Calls Tryd.prog 7 #[v1, v2] W fun e w' => e = .returned (.bool true) ∧ Below W.heap.size W w' := by
  have cells : ∀ (b g cap : Nat), W.ownsRow b 9 1 (.slice (some ⟨g, 0, none⟩) ws.length cap) ws.length (strs ws) → ∀ (j : Nat) (hj : j < (ws.map asS).length), W.cell? ⟨g, j, none⟩ = some (.string (ws.map asS)[j]) := fun b g cap h j hj => by
    rw [List.length_map] at hj
    rw [h.cellAt j (by omega)]
    unfold strs
    rw [List.getElem?_map, List.getElem?_eq_getElem hj, List.getElem_map]; rfl
  by_cases h0 : ws.length = 0
  · rw [h0] at h1 h2
    rcases h1.2 with ⟨rfl, _⟩ | ⟨g1, c1, _, rfl, _⟩ <;> rcases h2.2 with ⟨rfl, _⟩ | ⟨g2, c2, _, rfl, _⟩ <;> exact texts_none _ _ _ _ W
  · rcases h1.2 with ⟨_, h⟩ | ⟨g1, c1, _, rfl, _⟩
    · exact absurd h h0
    rcases h2.2 with ⟨_, h⟩ | ⟨g2, c2, _, rfl, _⟩
    · exact absurd h h0
    have := texts_some g1 g2 c1 c2 (ws.map asS) W (by rw [List.length_map]; exact hn) (cells b1 g1 c1 h1) (cells b2 g2 c2 h2)
    rw [List.length_map] at this
    exact this

theorem words_wds (s : ByteArray) (w : World) (hs : s.size ≤ 1000000) :
    Calls Tryd.prog 8 #[.string s] w fun e w' => ∃ v, e = .returned v ∧ w'.ownsRow w.heap.size 9 1 v (wds s).length (strs (wds s)) ∧ Below w.heap.size w w' := by
  refine (words_any s w hs).mono ?_
  rintro e w' ⟨v, rfl, ho, hb⟩
  refine ⟨v, rfl, ?_, hb⟩
  rw [wordsOf_eq, List.length_map, List.map_map] at ho
  exact ho

theorem wds_len (s : ByteArray) (hs : s.size ≤ 1000000) : (wds s).length ≤ 1000001 := by
  have := wordsFrom_len s s.size 0 0
  have e := congrArg List.length (wordsOf_eq s)
  rw [List.length_map] at e
  unfold wordsOf at e
  omega

theorem trm_is (s : ByteArray) (a b : Nat) (h : IsTrim s.data.toList a b) : s.extract a b = trm s := by
  obtain ⟨a', b', h', e⟩ := trimF_is s
  unfold trm
  rw [e]
  apply ByteArray.ext
  apply Array.toList_inj.1
  rw [cut_list]
  exact isTrim_one h h'
theorem trm_trm (s : ByteArray) : trm (trm s) = trm s := by
  obtain ⟨a, b, h, e⟩ := trimF_is s
  have hr := trimB_again h
  have e' : trm s = ⟨(trimB s.data.toList a b).toArray⟩ := e
  have hr2 : IsTrim (trm s).data.toList 0 (b - a) := by rw [e']; exact hr
  rw [← trm_is (trm s) 0 (b - a) hr2]
  apply extract_all
  rw [e', Lib.size_eq]
  show ¬ b - a < (trimB s.data.toList a b).length
  unfold trimB
  rw [List.length_take]; omega
theorem refTrim_is (s : ByteArray) (w : World) (hs : s.size ≤ 1000000) : Calls Tryd.prog 11 #[.string s] w fun e w' => e = .returned (.string (trm s)) ∧ w' = w := by
  refine (refTrim_any s w hs).mono ?_
  rintro e w' ⟨⟨a, b, h, rfl⟩, rfl⟩
  exact ⟨by rw [trm_is s a b h], rfl⟩

set_option maxHeartbeats 1000000 in
set_option maxRecDepth 1000000 in
theorem textWords_long (s : ByteArray) (w : World) (h : ¬ (s.size : Int) ≤ 4000) :
    Calls Tryd.prog 3 #[.string s] w fun e w' => e = .returned (.bool true) ∧ Below w.heap.size w w' := by
  go_enter Tryd.func3, Tryd.ntmps3
  go_wp2_with (first
    | (go_at_call 5; refine (light_no s _ h).mono ?_; rintro e w' ⟨rfl, rfl⟩)
    | (go_at_call 6; refine (awake_any _).mono ?_; rintro e w1 ⟨rfl, hb1⟩))
  go_ret
  exact ⟨rfl, hb1⟩

set_option maxHeartbeats 1000000 in
set_option maxRecDepth 1000000 in
theorem textWords_light (s : ByteArray) (w : World) (h : (s.size : Int) ≤ 4000) (hT : Hid (Lib.Utf8Tabs 0 1 w)) :
    Calls Tryd.prog 3 #[.string s] w fun e w' => e = .returned (.bool true) ∧ Below w.heap.size w w' := by
  have hs : s.size ≤ 1000000 := by omega
  have H1 := Lib.hid (fun W => words_wds s W hs)
  have H2 := Lib.hid (fun W => refWords_any s W hs)
  have H3 := Lib.hid (fun (b1 b2 : Nat) (v1 v2 : Value) (W : World) => texts_any b1 b2 v1 v2 (wds s) W (wds_len s hs))
  have H4 := Lib.hid (fun W (h : Lib.Utf8Tabs 0 1 W) => trim_any s W hs h)
  have H5 := Lib.hid (fun W => refTrim_is s W hs)
  have H6 := Lib.hid (fun W => squeeze_any s W hs)
  have H7 := Lib.hid (fun W => refSqueeze_any s W hs)
  generalize wds s = ws at H1 H2 H3
  generalize trm s = t at H4 H5
  generalize (⟨(sqz s).toArray⟩ : ByteArray) = q at H6 H7
  have et : (t.toList == t.toList) = true := by simp
  have eq : (q.toList == q.toList) = true := by simp
  go_enter Tryd.func3, Tryd.ntmps3
  go_wp2_with (go_at_call 5; refine (light_yes s _ h).mono ?_; rintro e w' ⟨rfl, rfl⟩)
  refine (H1.out _).mono ?_
  rintro e w1 ⟨v1, rfl, ho1, hb1⟩
  have HO1 := Lib.hid ho1; clear ho1
  go_wp2_with fail
  refine (H2.out _).mono ?_
  rintro e w2 ⟨v2, rfl, ho2, hb2⟩
  have HO2 := Lib.hid ho2; clear ho2
  have HO1' := Lib.hid (own_below HO1.out hb2)
  go_wp2_with fail
  refine (H3.out _ _ _ _ _ HO1'.out HO2.out).mono ?_
  rintro e w3 ⟨rfl, hb3⟩
  have h12 := hb1.trans (hb2.mono hb1.size)
  have h13 := h12.trans (hb3.mono h12.size)
  have HT3 := Lib.hid (tabs_below hT.out h13)
  have B3 := Lib.hid h13
  clear hb1 hb2 hb3 h12 h13 HO1 HO1' HO2
  go_wp2_with fail
  refine (H4.out _ HT3.out).mono ?_
  rintro e w4 ⟨rfl, hb4⟩
  go_wp2_with fail
  refine (H5.out _).mono ?_
  rintro e w4 ⟨rfl, rfl⟩
  go_wp2_with fail
  refine (H6.out _).mono ?_
  rintro e w5 ⟨rfl, hb5⟩
  go_wp2_with fail
  refine (H7.out _).mono ?_
  rintro e w6 ⟨rfl, hb6⟩
  go_wp2_with fail
  refine (awake_any _).mono ?_
  rintro e w7 ⟨rfl, hb7⟩
  go_wp2_with fail
  go_ret
  have h4 := B3.out.trans (hb4.mono B3.out.size)
  have h5 := h4.trans (hb5.mono h4.size)
  have h6 := h5.trans (hb6.mono h5.size)
  exact ⟨rfl, h6.trans (hb7.mono h6.size)⟩

theorem textWords_any (s : ByteArray) (w : World) (hT : Lib.Utf8Tabs 0 1 w) :
    Calls Tryd.prog 3 #[.string s] w fun e w' => e = .returned (.bool true) ∧ Below w.heap.size w w' := by
  by_cases h : (s.size : Int) ≤ 4000
  · exact textWords_light s w h hT
  · exact textWords_long s w h

set_option maxHeartbeats 1000000 in
set_option maxRecDepth 1000000 in
theorem textTwice_long (s : ByteArray) (w : World) (h : ¬ (s.size : Int) ≤ 4000) :
    Calls Tryd.prog 4 #[.string s] w fun e w' => e = .returned (.bool true) ∧ Below w.heap.size w w' := by
  go_enter Tryd.func4, Tryd.ntmps4
  go_wp2_with (first
    | (go_at_call 5; refine (light_no s _ h).mono ?_; rintro e w' ⟨rfl, rfl⟩)
    | (go_at_call 6; refine (awake_any _).mono ?_; rintro e w1 ⟨rfl, hb1⟩))
  go_ret
  exact ⟨rfl, hb1⟩

set_option maxHeartbeats 1000000 in
set_option maxRecDepth 1000000 in
theorem textTwice_light (s : ByteArray) (w : World) (h : (s.size : Int) ≤ 4000) (hT : Hid (Lib.Utf8Tabs 0 1 w)) :
    Calls Tryd.prog 4 #[.string s] w fun e w' => e = .returned (.bool true) ∧ Below w.heap.size w w' := by
  have hs : s.size ≤ 1000000 := by omega
  have hts : (trm s).size ≤ 1000000 := Nat.le_trans (trm_size s) hs
  have hqs : (⟨(sqz s).toArray⟩ : ByteArray).size ≤ 1000000 := by
    rw [Lib.size_eq]
    show (sqz s).length ≤ _
    have := sqz_le s
    omega
  have H1 := Lib.hid (fun W (h : Lib.Utf8Tabs 0 1 W) => trim_any s W hs h)
  have H2 := Lib.hid (fun W => squeeze_any s W hs)
  have h3 := fun W (h : Lib.Utf8Tabs 0 1 W) => trim_any (trm s) W hts h
  rw [trm_trm] at h3
  have H3 := Lib.hid h3; clear h3
  have h4 := fun W => squeeze_any ⟨(sqz s).toArray⟩ W hqs
  rw [sqz_sqz] at h4
  have H4 := Lib.hid h4; clear h4
  have h5 := fun W => words_wds ⟨(sqz s).toArray⟩ W hqs
  rw [wds_sqz] at h5
  have H5 := Lib.hid h5; clear h5
  have H6 := Lib.hid (fun W => refWords_any s W hs)
  have H7 := Lib.hid (fun (b1 b2 : Nat) (v1 v2 : Value) (W : World) => texts_any b1 b2 v1 v2 (wds s) W (wds_len s hs))
  clear hts hqs
  generalize wds s = ws at H5 H6 H7
  generalize trm s = t at H1 H3
  generalize (⟨(sqz s).toArray⟩ : ByteArray) = q at H2 H4 H5
  have et : (t.toList == t.toList) = true := by simp
  have eq : (q.toList == q.toList) = true := by simp
  go_enter Tryd.func4, Tryd.ntmps4
  go_wp2_with (go_at_call 5; refine (light_yes s _ h).mono ?_; rintro e w' ⟨rfl, rfl⟩)
  refine (H1.out _ hT.out).mono ?_
  rintro e w1 ⟨rfl, hb1⟩
  have HT1 := Lib.hid (tabs_below hT.out hb1)
  go_wp2_with fail
  refine (H2.out _).mono ?_
  rintro e w2 ⟨rfl, hb2⟩
  have HT2 := Lib.hid (tabs_below HT1.out hb2)
  go_wp2_with fail
  refine (H3.out _ HT2.out).mono ?_
  rintro e w3 ⟨rfl, hb3⟩
  go_wp2_with fail
  refine (H4.out _).mono ?_
  rintro e w4 ⟨rfl, hb4⟩
  have h12 := hb1.trans (hb2.mono hb1.size)
  have h13 := h12.trans (hb3.mono h12.size)
  have B4 := Lib.hid (h13.trans (hb4.mono h13.size))
  clear hb1 hb2 hb3 hb4 h12 h13 HT1 HT2
  go_wp2_with fail
  refine (H5.out _).mono ?_
  rintro e w5 ⟨v1, rfl, ho1, hb5⟩
  have HO1 := Lib.hid ho1; clear ho1
  go_wp2_with fail
  refine (H6.out _).mono ?_
  rintro e w6 ⟨v2, rfl, ho2, hb6⟩
  have HO2 := Lib.hid ho2; clear ho2
  have HO1' := Lib.hid (own_below HO1.out hb6)
  go_wp2_with fail
  refine (H7.out _ _ _ _ _ HO1'.out HO2.out).mono ?_
  rintro e w7 ⟨rfl, hb7⟩
  have h5 := B4.out.trans (hb5.mono B4.out.size)
  have h6 := h5.trans (hb6.mono h5.size)
  have B7 := Lib.hid (h6.trans (hb7.mono h6.size))
  clear hb5 hb6 hb7 h5 h6 HO1 HO1' HO2
  go_wp2_with fail
  refine (awake_any _).mono ?_
  rintro e w8 ⟨rfl, hb8⟩
  go_wp2_with fail
  go_ret
  exact ⟨rfl, B7.out.trans (hb8.mono B7.out.size)⟩

theorem textTwice_any (s : ByteArray) (w : World) (hT : Lib.Utf8Tabs 0 1 w) :
    Calls Tryd.prog 4 #[.string s] w fun e w' => e = .returned (.bool true) ∧ Below w.heap.size w w' := by
  by_cases h : (s.size : Int) ≤ 4000
  · exact textTwice_light s w h hT
  · exact textTwice_long s w h

end Go.Proofs.YtdpaimpdlopafaaDoor
