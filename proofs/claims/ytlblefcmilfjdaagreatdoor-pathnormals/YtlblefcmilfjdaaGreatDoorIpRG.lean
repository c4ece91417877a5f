
/- What ip.readGroups does. -/
import Derived.Test.YtlblefcmilfjdaaGreatDoorIpAwake
import Derived.Test.YtlblefcmilfjdaaGreatDoorIpBook
namespace Go.Proofs.YtlblefcmilfjdaaGreatDoor
open Go.RowKit

theorem okH_G (x : List UInt8) : okH x = okG x := rfl
theorem okH_small (x : List UInt8) (h : okG x = true) : valB 16 x < 65536 := (okH_val x h).2
theorem rg_none (e : Bool) (Q : List (List UInt8)) (k j : Nat) (h : rgTo e Q k = none) : rgTo e Q (k + j) = none := by
  induction j with
  | zero => exact h
  | succ j ih => rw [← Nat.add_assoc, rgTo, ih]
theorem rg_group (e : Bool) (Q : List (List UInt8)) (k : Nat) (b x : List UInt8) (hx : Q.getD k [] = x) (h : rgTo e Q k = some b) (hn : ¬ (e = true ∧ k = Q.length - 1 ∧ (46 : UInt8) ∈ x)) : rgTo e Q (k + 1) = if okG x then some (b ++ [b8 (valB 16 x / 256), b8 (valB 16 x)]) else none := by
  rw [rgTo, h]
  simp only
  rw [hx, if_neg hn]; rfl
theorem rg_dots (e : Bool) (Q : List (List UInt8)) (k : Nat) (b x : List UInt8) (hx : Q.getD k [] = x) (h : rgTo e Q k = some b) (hn : e = true ∧ k = Q.length - 1 ∧ (46 : UInt8) ∈ x) : rgTo e Q (k + 1) = if 0 ≤ four x then some (b ++ (v4B (four x).toNat).drop 12) else none := by
  rw [rgTo, h]
  simp only
  rw [hx, if_pos hn]
theorem contains_any (s : ByteArray) (c : UInt8) (t : Bool) (ht : t = decide (c ∈ s.data.toList)) (w : World) : Calls Tryz.prog 92 #[.string s, .string ⟨#[c]⟩] w fun e w' => e = .returned (.bool t) ∧ w' = w := by
  have := Tryz.strings_Contains_one s c w
  rw [indexByte_mem, ← ht] at this
  exact this
theorem bytes_mid {w : World} {g : Nat} {v : Bool} {B : List UInt8} {fr : Nat × Nat} (h : w.heap[g]? = some (.cells (acs v B) 93 fr)) (hB : B.length = 16) : BytesAt w (some ⟨g, 13, none⟩) (B.drop 12) := fun h0 =>
  ⟨g, 13, rfl, (Array.getElem?_eq_some_iff.1 h).1, fun j hj => by
    rw [cell_of_row _ _ _ _ _ _ h]
    have hj2 : j < 4 := by simp [hB] at hj; omega
    have := acs_at v B (12 + j) (by omega)
    rw [show 13 + j = 12 + j + 1 from by omega, this]
    simp [List.getD_eq_getElem?_getD, List.getElem?_drop]⟩
set_option maxHeartbeats 4000000 in
theorem readG_any (s : ByteArray) (e : Bool) (hs : s.size ≤ 1000000) (w : World) (hT : TabS w) :
    Calls Tryz.prog 159 #[.string s, .bool e] w fun r w' => ∃ (A : Option Addr) (b : List UInt8) (c : Nat), r = .returned (.tuple #[.slice A b.length c, .bool (rgA e s.data.toList).isSome]) ∧ BytesAt w' A b ∧ (∀ x, rgA e s.data.toList = some x → b = x) ∧ b.length ≤ 100 ∧ Below w.heap.size w w' := by
  by_cases h0 : s.size = 0
  · have he0 : s.toList.isEmpty = true := by rw [empty_iff]; simpa using h0
    have HA : Hid (rgA e s.data.toList = some []) := by show _ = _; rw [list_nil s h0]; rfl
    clear h0
    go_enter Tryz.func159, Tryz.ntmps159
    go_wp2_with fail
    go_ret2
    exact ⟨none, [], 0, by rw [HA.out]; rfl, fun h => by simp at h, fun x hx => (by rw [HA.out] at hx; cases hx; rfl), by simp, Below.refl _ _⟩
  have he0 : s.toList.isEmpty = false := by rw [empty_iff]; simpa using h0
  have HA : Hid (rgA e s.data.toList = rgTo e (cutK 58 8 s.data.toList) (cutK 58 8 s.data.toList).length) := by show _ = _; unfold rgA; rw [if_neg (list_ne s h0)]
  have HT := hid hT
  clear h0 hT
  obtain ⟨Z, hZ⟩ : ∃ Z, Z = bcs (zer 16) := ⟨_, rfl⟩
  have hmk : ∀ W, (Instr.makeSlice 54 (.int .i64 0) (.int .i64 16)).run Tryz.prog W = .ok (.slice (some ⟨W.heap.size, 0, none⟩) 0 16) (W.alloc (.cells Z 5)) := fun W => by rw [hZ]; exact make_bytes 0 16 (by omega) (by omega) W
  have HZ : Hid (∀ (W : World) b, b ≤ W.heap.size → Own (W.alloc (.cells Z 5)) b W.heap.size 0 16 []) := fun W b hb => by rw [hZ]; exact Own.new W b 0 16 hb (by omega)
  clear hZ
  go_enter Tryz.func159, Tryz.ntmps159
  go_wp2_with fail
  refine (split_any s 58 9 (by omega) (by omega) hs _ HT.out).mono ?_
  rintro r W1 ⟨L, N, rfl, hM, hSZ, hR, hb, hz, hN⟩
  obtain ⟨P, hP⟩ : ∃ P, P = cutK 58 8 s.data.toList := ⟨_, rfl⟩
  have hM' : L.map (·.data.toList) = P := by rw [hP]; exact hM
  rw [← hP] at HA
  have HM := hid hM'; have HSZ := hid hSZ; have HR := hid hR; have HB := hid hb
  have hPL : P.length = L.length := by rw [← hM', List.length_map]
  have hL9 : L.length ≤ 9 := by rw [← hPL, hP, cutK_len]; omega
  clear hM hM' hSZ hR hb hP
  go_wp2_with fail
  go_loopw [7, 21] (fun bv iv wx => ∃ (k g c : Nat) (b : List UInt8), k ≤ L.length ∧ iv = .int .i64 (k : Int) ∧ bv = .slice (some ⟨g, 0, none⟩) b.length c ∧ b.length ≤ 2 * k ∧ Hid (Own wx W1.heap.size g b.length c b) ∧ Hid (rgTo e P k = some b) ∧ Hid (Below W1.heap.size W1 wx)) (fun _ i _ => L.length - (intOf i).toNat)
  case atStart => exact ⟨0, W1.heap.size, 16, [], by omega, rfl, rfl, by simp, HZ.out W1 _ (Nat.le_refl _), rfl, alloc_below (Below.refl _ W1) (Nat.le_refl _) _⟩
  case round =>
    obtain ⟨k, g, c, b, hk, rfl, rfl, hbl, HO, HG, HBk⟩ := hrel
    have HBw : Hid (Below w.heap.size w wr) := HB.out.trans (HBk.out.mono HB.out.size)
    have hszk := HBk.out.size
    by_cases hkL : (k : Int) < (L.length : Int)
    · obtain ⟨x, hx⟩ : ∃ x, L[k]? = some x := ⟨_, List.getElem?_eq_getElem (by omega)⟩
      have hc := part_at ((HBk.out.block _ (by omega)).trans HR.out) k x hx
      have HX := hid (map_at HM.out k x hx)
      have hxs : x.size ≤ 1000000 := Nat.le_trans (HSZ.out x (List.mem_of_getElem? hx)) hs
      clear hx
      by_cases hdot : e = true ∧ k = P.length - 1 ∧ (46 : UInt8) ∈ x.data.toList
      · obtain ⟨rfl, hkl, h46⟩ := hdot
        have HRG := hid (rg_dots true P k b _ HX.out HG.out ⟨rfl, hkl, h46⟩)
        have HCO := hid (fun W => contains_any x 46 true (by rw [decide_eq_true h46]) W)
        have hlast : ((k : Int) == (L.length : Int) - 1) = true := by rw [beq_iff_eq]; omega
        have HKE : Hid (k + 1 = P.length) := by show _ = _; omega
        have HP4 := hid (fun W h => parse4_any x hxs W h)
        have HPE : Hid (∀ o, o = p4 x.data.toList → rgA true s.data.toList = o.map (fun B => b ++ B.drop 12)) := fun o ho => by
          rw [HA.out, ← HKE.out, HRG.out, ho]
          unfold p4; split <;> rfl
        have HAL := hid (ansB_len x.data.toList)
        obtain ⟨o, ho⟩ : ∃ o, o = p4 x.data.toList := ⟨_, rfl⟩
        have HPF := hid (HPE.out o ho)
        rw [← ho] at HP4 HAL
        clear HPE ho hkl h46
        go_wp2_with fail
        refine (HCO.out _).mono ?_
        rintro r W2 ⟨rfl, rfl⟩
        go_wp2_with fail
        refine (HP4.out _ (HT.out.below HBw.out)).mono ?_
        rintro r W3 ⟨rfl, hb3⟩
        have HO3 : Hid (Own W3 W1.heap.size g b.length c b) := HO.out.below hb3 (Nat.le_refl _)
        have HB3 : Hid (Below w.heap.size w W3) := HBw.out.trans (hb3.mono HBw.out.size)
        have HB3k : Hid (Below W1.heap.size W1 W3) := HBk.out.trans (hb3.mono hszk)
        clear hb3 hc
        go_wp2_with (first
          | (refine store_addr rfl _ _ rfl W3.heap.size false (ansB o) HAL.out rfl rfl _ (heap_alloc_new W3 _) rfl ?_)
          | fail)
        intro W4 hO4 hW4
        have HO4 : Hid (Own W4 W1.heap.size g b.length c b) := HO3.out.kept ((hO4.block _ (by have := HO3.out.lt; omega)).trans (Below.heap_alloc _ _ _ HO3.out.lt))
        have HBA : Hid (BytesAt W4 (some ⟨W3.heap.size, 13, none⟩) ((ansB o).drop 12)) := bytes_mid hW4 HAL.out
        have HB4 : Hid (Below w.heap.size w W4) := (alloc_below HB3.out HB3.out.size _).trans (hO4.below HB3.out.size)
        have HL4 : Hid (((ansB o).drop 12).length = 4) := by show _ = _; rw [List.length_drop, HAL.out]
        have hz4 : W1.heap.size ≤ W4.heap.size := by have := HB3k.out.size; rw [hO4.size]; simp; omega
        clear hW4 hO4
        generalize hD : (ansB o).drop 12 = D4 at HBA HL4
        go_wp2_with (first
          | (refine wpList_own rfl _ _ 54 rfl W1.heap.size g b.length c 4 b D4 _ rfl rfl HO4.out ?hsrc (by omega) hz4 ?_)
          | fail)
        case hsrc =>
          have := src_bytes HBA.out 4 (fun _ => opt_any _)
          rw [HL4.out] at this
          exact this
        intro g' c' W5 hown hgr hg'
        have HB5 : Hid (Below w.heap.size w W5) := (HO4.out.mono HB.out.size).grown HB4.out HB4.out.size hgr
        have HO5 := hid hown
        clear hown hgr hg'
        cases o with
        | none =>
          go_wp2_with fail
          go_ret2
          refine ⟨some ⟨g', 0, none⟩, b ++ D4, c', ?_, HO5.out.bytes, fun y hy => (by rw [HPF.out] at hy; cases hy), by rw [List.length_append, HL4.out]; omega, HB5.out⟩
          rw [HPF.out, List.length_append, HL4.out]; rfl
        | some B4 =>
          go_wp2_with fail
          go_ret2
          refine ⟨some ⟨g', 0, none⟩, b ++ D4, c', ?_, HO5.out.bytes, fun y hy => (by rw [HPF.out] at hy; cases hy; rw [← hD]; rfl), by rw [List.length_append, HL4.out]; omega, HB5.out⟩
          rw [HPF.out, List.length_append, HL4.out]; rfl
      · have HRG := hid (rg_group e P k b _ HX.out HG.out hdot)
        obtain ⟨o, ho⟩ : ∃ o, o = okG x.data.toList := ⟨_, rfl⟩
        obtain ⟨v, hv⟩ : ∃ v, v = gV x.data.toList := ⟨_, rfl⟩
        have HGN := hid (fun W => group_any x W hxs)
        rw [← ho, ← hv] at HGN
        rw [← ho] at HRG
        obtain ⟨t, ht⟩ : ∃ t, t = decide ((46 : UInt8) ∈ x.data.toList) := ⟨_, rfl⟩
        have HCO := hid (fun W => contains_any x 46 t ht W)
        obtain ⟨q, hq⟩ : ∃ q, q = ((k : Int) == (L.length : Int) - 1) := ⟨_, rfl⟩
        have hnd : ¬ (e = true ∧ q = true ∧ t = true) := fun h => hdot ⟨h.1, by have := h.2.1; rw [hq, beq_iff_eq] at this; omega, by have := h.2.2; rw [ht, decide_eq_true_eq] at this; exact this⟩
        have hqq : ((k : Int) == (L.length : Int) - 1) = q := hq.symm
        have HVL : Hid (o = true → v = valB 16 x.data.toList ∧ v < 65536) := fun h => by
          rw [hv]; unfold gV; rw [if_pos (ho.symm.trans h)]
          exact ⟨rfl, okH_small _ (ho.symm.trans h)⟩
        have HFA : Hid (o = false → rgA e s.data.toList = none) := fun h => by
          rw [h] at HRG
          have h1 : rgTo e P (k + 1) = none := HRG.out
          have := rg_none e P (k + 1) (P.length - (k + 1)) h1
          rw [show k + 1 + (P.length - (k + 1)) = P.length from by omega] at this
          rw [HA.out, this]
        clear hdot hq ho hv ht
        cases o
        · have HF := hid (HFA.out rfl)
          cases e
          · go_wp2_with (first
              | (go_at_call 92; refine (HCO.out _).mono ?_; rintro r W2 ⟨rfl, rfl⟩)
              | (go_at_call 166; refine (HGN.out _).mono ?_; rintro r W2 ⟨rfl, rfl⟩)
              | fail)
            go_ret2
            exact ⟨none, [], 0, by rw [HF.out]; rfl, fun h => by simp at h, fun y hy => (by rw [HF.out] at hy; cases hy), by simp, HBw.out⟩
          · cases q
            · go_wp2_with (first
                | (go_at_call 92; refine (HCO.out _).mono ?_; rintro r W2 ⟨rfl, rfl⟩)
                | (go_at_call 166; refine (HGN.out _).mono ?_; rintro r W2 ⟨rfl, rfl⟩)
                | fail)
              go_ret2
              exact ⟨none, [], 0, by rw [HF.out]; rfl, fun h => by simp at h, fun y hy => (by rw [HF.out] at hy; cases hy), by simp, HBw.out⟩
            · cases t
              · go_wp2_with (first
                  | (go_at_call 92; refine (HCO.out _).mono ?_; rintro r W2 ⟨rfl, rfl⟩)
                  | (go_at_call 166; refine (HGN.out _).mono ?_; rintro r W2 ⟨rfl, rfl⟩)
                  | fail)
                go_ret2
                exact ⟨none, [], 0, by rw [HF.out]; rfl, fun h => by simp at h, fun y hy => (by rw [HF.out] at hy; cases hy), by simp, HBw.out⟩
              · exact absurd ⟨rfl, rfl, rfl⟩ hnd
        · obtain ⟨v1, v2⟩ := HVL.out rfl
          obtain ⟨y1, hy1⟩ : ∃ y, y = b8 (v / 256) := ⟨_, rfl⟩
          obtain ⟨y2, hy2⟩ : ∃ y, y = b8 v := ⟨_, rfl⟩
          have e1 : (v : Int) / 256 = (y1.toNat : Int) := by rw [hy1, b8_toNat _ (by omega)]; omega
          have e2 : IntKind.u8.wrap (v : Int) = (y2.toNat : Int) := by rw [hy2]; exact u8wrap v
          have e3 : (v : Int) % 256 = (y2.toNat : Int) := by rw [hy2]; simp [b8]
          have HNX : Hid (rgTo e P (k + 1) = some (b ++ [y1, y2])) := by
            show _ = _
            rw [HRG.out, if_pos rfl, hy1, hy2, v1]
          clear v1 hy1 hy2 HRG HFA HVL
          cases e
          · go_wp2_with (first
              | (go_at_call 92; refine (HCO.out _).mono ?_; rintro r W2 ⟨rfl, rfl⟩)
              | (go_at_call 166; refine (HGN.out _).mono ?_; rintro r W2 ⟨rfl, rfl⟩)
              | (refine wpList_own rfl _ _ 54 rfl W1.heap.size g b.length c 2 b [y1, y2] _ rfl rfl (HO.out.alloc _) (src_bytes (BytesAt.of_row (l := [y1, y2]) (heap_alloc_new _ _)) 2 (fun _ => opt_any _)) (by omega) ?h3 ?_)
              | fail)
            case h3 => simp; omega
            intro g' c' W5 hown hgr hg'
            have HB5 : Hid (Below W1.heap.size W1 W5) := (HO.out.alloc _).grown (alloc_below HBk.out hszk _) (by simp; omega) hgr
            have HO5 : Hid (Own W5 W1.heap.size g' (b ++ [y1, y2]).length c' (b ++ [y1, y2])) := by rw [List.length_append]; exact hown
            clear hown hgr hg'
            go_wp2_with fail
            go_roundw
            case rel => exact ⟨k + 1, g', c', b ++ [y1, y2], by omega, by go_num, by simp, by simp; omega, HO5, HNX, HB5⟩
            case measure => simp [intOf]; omega
          · cases q
            · go_wp2_with (first
                | (go_at_call 92; refine (HCO.out _).mono ?_; rintro r W2 ⟨rfl, rfl⟩)
                | (go_at_call 166; refine (HGN.out _).mono ?_; rintro r W2 ⟨rfl, rfl⟩)
                | (refine wpList_own rfl _ _ 54 rfl W1.heap.size g b.length c 2 b [y1, y2] _ rfl rfl (HO.out.alloc _) (src_bytes (BytesAt.of_row (l := [y1, y2]) (heap_alloc_new _ _)) 2 (fun _ => opt_any _)) (by omega) ?h3 ?_)
                | fail)
              case h3 => simp; omega
              intro g' c' W5 hown hgr hg'
              have HB5 : Hid (Below W1.heap.size W1 W5) := (HO.out.alloc _).grown (alloc_below HBk.out hszk _) (by simp; omega) hgr
              have HO5 : Hid (Own W5 W1.heap.size g' (b ++ [y1, y2]).length c' (b ++ [y1, y2])) := by rw [List.length_append]; exact hown
              clear hown hgr hg'
              go_wp2_with fail
              go_roundw
              case rel => exact ⟨k + 1, g', c', b ++ [y1, y2], by omega, by go_num, by simp, by simp; omega, HO5, HNX, HB5⟩
              case measure => simp [intOf]; omega
            · cases t
              · go_wp2_with (first
                  | (go_at_call 92; refine (HCO.out _).mono ?_; rintro r W2 ⟨rfl, rfl⟩)
                  | (go_at_call 166; refine (HGN.out _).mono ?_; rintro r W2 ⟨rfl, rfl⟩)
                  | (refine wpList_own rfl _ _ 54 rfl W1.heap.size g b.length c 2 b [y1, y2] _ rfl rfl (HO.out.alloc _) (src_bytes (BytesAt.of_row (l := [y1, y2]) (heap_alloc_new _ _)) 2 (fun _ => opt_any _)) (by omega) ?h3 ?_)
                  | fail)
                case h3 => simp; omega
                intro g' c' W5 hown hgr hg'
                have HB5 : Hid (Below W1.heap.size W1 W5) := (HO.out.alloc _).grown (alloc_below HBk.out hszk _) (by simp; omega) hgr
                have HO5 : Hid (Own W5 W1.heap.size g' (b ++ [y1, y2]).length c' (b ++ [y1, y2])) := by rw [List.length_append]; exact hown
                clear hown hgr hg'
                go_wp2_with fail
                go_roundw
                case rel => exact ⟨k + 1, g', c', b ++ [y1, y2], by omega, by go_num, by simp, by simp; omega, HO5, HNX, HB5⟩
                case measure => simp [intOf]; omega
              · exact absurd ⟨rfl, rfl, rfl⟩ hnd
    · have hk' : k = L.length := by omega
      have HF : Hid (rgA e s.data.toList = some b) := by show _ = _; rw [HA.out, hPL, ← hk']; exact HG.out
      clear hk'
      go_wp2_with fail
      go_ret2
      exact ⟨some ⟨g, 0, none⟩, b, ⟨c, by rw [HF.out]; rfl⟩, HO.out.bytes, fun y hy => (by rw [HF.out] at hy; cases hy; rfl), by omega, HBw.out⟩
end Go.Proofs.YtlblefcmilfjdaaGreatDoor
