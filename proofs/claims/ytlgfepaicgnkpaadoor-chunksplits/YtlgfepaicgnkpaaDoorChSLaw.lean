
/- Bytes cut into pieces anywhere are one body when they are read: the statement's walk. -/
import Derived.Test.YtlgfepaicgnkpaaDoorChTot
import Derived.Test.YtlgfepaicgnkpaaDoorChAw
import Derived.OpenShut
namespace Go.Proofs.YtlgfepaicgnkpaaDoor
set_option linter.unusedVariables false
set_option linter.unusedSimpArgs false
open Go.RowKit Go.BigFrame
attribute [local go_sem ↓] slI_eq slJ_eq

/-- Where x[k:] begins. -/
def fromA (A : Option Addr) (c k : Nat) : Option Addr := if c = k then A else A.map (·.add k)
theorem slJ_runO (A : Option Addr) (n c k h : Nat) (hk : k ≤ h) (hh : h ≤ c) (W : World) : (slJ (.slice A n c) (.int .i64 k) (.int .i64 h)).run Tryd.prog W = .ok (.slice (fromA A c k) (h - k) (c - k)) W := by
  unfold slJ fromA
  have he : Tryd.prog.elem 23 = 5 := by simp [Program.elem, Tryd.underlying23]
  have hu : Tryd.prog.underlying 23 = some (.slice (Tryd.prog.elem 23)) := by rw [he]; exact Tryd.underlying23
  rw [run_sliceAt_slice W _ _ _ _ _ hu, run_slice_lh W 23 A n c hu .i64 .i64 (k : Int) (h : Int) (by omega) (by omega) (by omega), he, Tryd.sizeOf5]
  simp only [Result.andThen_ok, sliced, Int.toNat_natCast, Nat.mul_one]
theorem slI_runO (A : Option Addr) (n c k : Nat) (hk : k ≤ n) (hh : n ≤ c) (W : World) : (slI (.slice A n c) (.int .i64 k)).run Tryd.prog W = .ok (.slice (fromA A c k) (n - k) (c - k)) W := by
  unfold slI fromA
  have he : Tryd.prog.elem 23 = 5 := by simp [Program.elem, Tryd.underlying23]
  have hu : Tryd.prog.underlying 23 = some (.slice (Tryd.prog.elem 23)) := by rw [he]; exact Tryd.underlying23
  rw [run_sliceAt_slice W _ _ _ _ _ hu, run_slice_l W 23 A n c hu .i64 (k : Int) (by omega) (by omega), he, Tryd.sizeOf5]
  simp only [Result.andThen_ok, sliced, Int.toNat_natCast, Nat.mul_one]
theorem from_at {w : World} {A : Option Addr} {x : List UInt8} {c : Nat} (hA : BytesAt w A x) (hc : x.length ≤ c) (k : Nat) (hk : k ≤ x.length) : BytesAt w (fromA A c k) (x.drop k) := by
  unfold fromA
  by_cases hck : c = k
  · rw [if_pos hck, List.drop_of_length_le (by omega)]
    exact fun h0 => absurd h0 (by simp)
  · rw [if_neg hck]
    intro h0
    rw [List.length_drop] at h0
    obtain ⟨q, o, e, hq, hcl⟩ := hA (by omega)
    subst e
    refine ⟨q, o + k, by rw [Option.map_some, Addr.add_mid], hq, fun j hj => ?_⟩
    rw [List.length_drop] at hj
    rw [Nat.add_assoc, hcl (k + j) (by omega)]
    congr 3
    simp [List.getD_eq_getElem?_getD]
/-- A row of numbers of sixteen bits that came in. -/
theorem row16 {w : World} {A : Option Addr} {len cap : Nat} {zs : List Int} (h : IsRow .u16 w A len cap zs) : 0 < len → ∃ q o, A = some ⟨q, o, none⟩ ∧ q < w.heap.size ∧ ∀ j, j < len → ∃ v : Nat, v < 65536 ∧ w.cell? ⟨q, o + j, none⟩ = some (.int .u16 v) := fun h0 => by
  rcases h with ⟨rfl, rfl, rfl, rfl⟩ | ⟨x, rfl, hl, hm, hz, hc, hw⟩
  · omega
  · have hc0 := hc 0 (by omega)
    have hx0 : x.add 0 = x := by unfold Addr.add; simp
    rw [hx0] at hc0
    obtain ⟨q, o, sp⟩ := x
    obtain rfl := cell_spot hc0
    refine ⟨q, o, rfl, block_lt_of_cell hc0, fun j hj => ?_⟩
    have h1 := hc j (by omega)
    rw [Addr.add_mid] at h1
    have h2 := Go.bounds_u16 (hw (zs.getD j 0) (by
      rw [List.getD_eq_getElem?_getD, List.getElem?_eq_getElem (by omega)]
      exact List.getElem_mem _))
    exact ⟨(zs.getD j 0).toNat, by omega, by rw [h1]; congr 2; omega⟩
/-- A piece: where it lies, its bytes, how much room. -/
structure PcV where
  at' : Option Addr
  bytes : List UInt8
  room : Nat
def pcv (p : PcV) : Value := .slice p.at' p.bytes.length p.room
def PcOk (w : World) (p : PcV) : Prop := BytesAt w p.at' p.bytes ∧ p.bytes.length ≤ p.room ∧ p.bytes.length ≤ 4000
theorem pcK : OneCell Tryd.prog 22 23 := ⟨Tryd.underlying22, by
  obtain ⟨i, h1, h2, h3, h4⟩ := info_parts (show (Tryd.prog.info? 23).map (fun i => (i.zero, i.size, i.bytes)) = some (some (.slice none 0 0), 1, 24) from by kernel_rfl)
  exact ⟨i, _, h1, h2, h3, by omega, rfl⟩⟩
theorem pcs_of {w W : World} {b g cap : Nat} {ps : List PcV} (h : OwnV W 23 b g ps.length cap (ps.map pcv)) (hp : ∀ p ∈ ps, PcOk w p) (hb : Below w.heap.size w W) : PcsAt W (some ⟨g, 0, none⟩) (ps.map (·.bytes)) := fun h0 => by
  refine ⟨g, 0, rfl, h.lt, fun i hi => ?_⟩
  rw [List.length_map] at hi
  have e : (ps.map (·.bytes)).getD i [] = (ps[i]'hi).bytes := by simp [List.getD_eq_getElem?_getD, hi]
  obtain ⟨h1, h2, h3⟩ := hp (ps[i]'hi) (List.getElem_mem hi)
  rw [e]
  refine ⟨(ps[i]'hi).at', (ps[i]'hi).room, ?_, h1.below hb (Nat.le_refl _), h2, by omega⟩
  rw [Nat.zero_add]
  exact h.at i _ (by rw [List.getElem?_map, List.getElem?_eq_getElem hi]; rfl)
theorem fl_bytes (ps : List PcV) (p : PcV) : ((ps ++ [p]).map (·.bytes)).flatten = (ps.map (·.bytes)).flatten ++ p.bytes := by simp
theorem src_pc (w : World) (p : PcV) (v : Value) (hv : v = pcv p) (c : Nat) : Src Tryd.prog 1 22 (.slice (some ⟨w.heap.size, 0, none⟩) 1 c) 1 [pcv p] (w.alloc (.cells #[v] 23)) := by
  subst hv
  exact src_lit pcK _ w.heap.size c [pcv p] (heap_alloc_new w _) (fun u hu => by
    rw [List.mem_singleton] at hu
    subst hu
    rfl)
set_option maxHeartbeats 4000000 in
set_option maxRecDepth 100000 in
theorem splits10_law (A : Option Addr) (len cap : Nat) (zs : List Int) (A2 : Option Addr) (m cap2 : Nat) (zs2 : List Int) (w : World) (h : IsRow .u8 w A len cap zs) (h2 : IsRow .u16 w A2 m cap2 zs2) (hT : TabC w) : Calls Tryd.prog 7 #[.slice A len cap, .slice A2 m cap2] w fun e w' => e = .returned (.bool true) ∧ Below w.heap.size w w' := by
  obtain ⟨b, hbl, hcap, hA⟩ := row_at h (Nat.lt_of_le_of_lt (Nat.zero_le _) hT.four.lt)
  have hnil := row_nil h
  have HT := hid hT
  have HAW := hid (fun W hW => awake10 W hW)
  have HR := hid (row16 h2)
  have hlen := h.len
  have hm := h2.len
  unfold maxLen at hlen hm
  clear h h2 hT
  by_cases hbig : 4000 < len ∨ 100 < m
  · have hgo : ∀ (W0 : World) (hT0 : TabC W0), Calls Tryd.prog 7 #[.slice A len cap, .slice A2 m cap2] W0 fun e w' => e = .returned (.bool true) ∧ Below W0.heap.size W0 w' := fun W0 hT0 => by
      have HT0 := hid hT0
      clear hT0
      rcases (show (4000 : Int) < (len : Int) ∨ (¬ (4000 : Int) < (len : Int) ∧ (100 : Int) < (m : Int)) by omega) with h1 | ⟨h1, h2⟩
      · clear hbig
        go_enter Tryd.func7, Tryd.ntmps7
        go_wp2_with fail
        refine (HAW.out _ HT0.out).mono ?_
        rintro e W2 ⟨rfl, hb2⟩
        have HB2 := hid hb2
        clear hb2
        go_wp2_with fail
        go_ret
        exact ⟨rfl, HB2.out⟩
      · clear hbig
        go_enter Tryd.func7, Tryd.ntmps7
        go_wp2_with fail
        refine (HAW.out _ HT0.out).mono ?_
        rintro e W2 ⟨rfl, hb2⟩
        have HB2 := hid hb2
        clear hb2
        go_wp2_with fail
        go_ret
        exact ⟨rfl, HB2.out⟩
    exact hgo w HT.out
  · have h1 : ¬ (4000 : Int) < (len : Int) := by omega
    have h2 : ¬ (100 : Int) < (m : Int) := by omega
    have hl4 : len ≤ 4000 := by omega
    have hm1 : m ≤ 100 := by omega
    have HA := hid hA
    have HBL := hid hbl
    have HSB : Hid (∀ W, Below w.heap.size w W → (convert 23 9 (.slice A len cap)).run Tryd.prog W = .ok (.string (asS b)) W) := fun W hb => by
      have := str_at (c := cap) (hA.below hb (Nat.le_refl _)) (by rw [hbl]; exact hnil)
      rw [hbl] at this
      exact this
    clear hbig hA hbl hnil
    have HO0 := hid (OwnV.zero w 23 w.heap.size (Nat.le_refl _))
    have HB0 := hid (alloc_below (Below.refl w.heap.size w) (Nat.le_refl _) (.cells #[] 23))
    go_enter Tryd.func7, Tryd.ntmps7
    go_wp2_with fail
    go_loopw [5, 6, 7] (fun v kv iv wr => ∃ (i k g cp : Nat) (ps : List PcV), i ≤ m ∧ iv = .int .i64 (i : Int) ∧ k ≤ len ∧ kv = .int .i64 (k : Int) ∧ v = .slice (some ⟨g, 0, none⟩) i cp ∧ Hid (ps.length = i) ∧ Hid (OwnV wr 23 w.heap.size g i cp (ps.map pcv)) ∧ Hid (∀ p ∈ ps, PcOk w p) ∧ Hid ((ps.map (·.bytes)).flatten = b.take k) ∧ Hid (Below w.heap.size w wr)) (fun v kv iv wr => m - (intOf iv).toNat)
    case atStart => exact ⟨0, 0, w.heap.size, 0, [], Nat.zero_le _, rfl, Nat.zero_le _, rfl, rfl, rfl, HO0, fun p hp => absurd hp (by simp), by show _ = _; rw [List.take_zero]; rfl, HB0⟩
    case round =>
      obtain ⟨i, k, g, cp, ps, hi, rfl, hk, rfl, rfl, HPL, HO, HPO, HFL, HB⟩ := hrel
      by_cases him : i < m
      · obtain ⟨q, o, rfl, hq, hcc⟩ := HR.out (by omega)
        obtain ⟨v, hv, hcell⟩ := hcc i him
        have hcw := (HB.out.cell (p := ⟨q, o + i, none⟩) hq).trans hcell
        clear hcc hcell
        have hd : (len : Int) - (k : Int) + 1 = ((len - k + 1 : Nat) : Int) := by omega
        have hd0 : ((len : Int) - (k : Int) + 1 == 0) = false := by rw [beq_eq_false_iff_ne]; omega
        have hd1 : ¬ (len : Int) - (k : Int) + 1 = 0 := by omega
        have hmod : Int.tmod (v : Int) ((len : Int) - (k : Int) + 1) = ((v % (len - k + 1) : Nat) : Int) := by rw [hd]; rfl
        have hlt : v % (len - k + 1) ≤ len - k := by have := Nat.mod_lt v (show 0 < len - k + 1 by omega); omega
        generalize v % (len - k + 1) = p at hmod hlt
        clear hd
        have hsj := slJ_runO A len cap k (k + p) (by omega) (by omega)
        rw [show ((k + p : Nat) : Int) = (k : Int) + (p : Int) from by omega, show k + p - k = p from by omega] at hsj
        have HPV : Hid (PcOk w ⟨fromA A cap k, (b.drop k).take p, cap - k⟩) := ⟨(from_at HA.out (by rw [HBL.out]; exact hcap) k (by rw [HBL.out]; exact hk)).take p, by show _ ≤ cap - k; rw [List.length_take, List.length_drop, HBL.out]; omega, by show _ ≤ 4000; rw [List.length_take]; have := List.length_drop (i := k) (l := b); rw [HBL.out] at this; omega⟩
        have HPE : Hid (pcv ⟨fromA A cap k, (b.drop k).take p, cap - k⟩ = .slice (fromA A cap k) p (cap - k)) := by
          show Value.slice _ _ _ = _
          rw [List.length_take, List.length_drop, HBL.out, show min p (len - k) = p from by omega]
        have HF2 : Hid (((ps ++ [(⟨fromA A cap k, (b.drop k).take p, cap - k⟩ : PcV)]).map (·.bytes)).flatten = b.take (k + p)) := by
          show _ = _
          rw [fl_bytes, HFL.out]
          show b.take k ++ (b.drop k).take p = _
          rw [List.take_add]
        generalize (⟨fromA A cap k, (b.drop k).take p, cap - k⟩ : PcV) = P at HPV HPE HF2
        generalize fromA A cap k = FA at hsj HPE
        generalize cap - k = cr at hsj HPE
        have HSR := hid (src_pc wr P (.slice FA p cr) HPE.out.symm 1)
        have HO1 := hid (HO.out.alloc (.cells #[.slice FA p cr] 23))
        have HB1 := hid (alloc_below HB.out HB.out.size (.cells #[.slice FA p cr] 23))
        go_wp2_with (first
          | (refine wpList_ownV pcK rfl _ _ rfl w.heap.size g i cp 1 (ps.map pcv) [pcv P] _ rfl rfl HO1.out HSR.out (by omega) HB1.out.size ?_)
          | fail)
        intro g2 cp2 W2 hown2 hgr2 _
        have HB2 := hid (HO1.out.grown HB1.out HB1.out.size hgr2)
        have HO2 : Hid (OwnV W2 23 w.heap.size g2 (i + 1) cp2 ((ps ++ [P]).map pcv)) := by
          show OwnV _ _ _ _ _ _ _
          rw [List.map_append]
          exact hown2
        have HP2 : Hid (∀ x ∈ ps ++ [P], PcOk w x) := fun x hx => by
          rcases List.mem_append.1 hx with hx | hx
          · exact HPO.out x hx
          · rw [List.mem_singleton] at hx; subst hx; exact HPV.out
        have HL2 : Hid ((ps ++ [P]).length = i + 1) := by show _ = _; rw [List.length_append, HPL.out]; rfl
        clear hown2 hgr2 HSR HO1 HPE
        go_wp2_with fail
        go_roundw
        case rel => exact ⟨i + 1, k + p, g2, cp2, ps ++ [P], by omega, by go_num, by omega, by go_num, rfl, HL2, HO2, HP2, HF2, HB2⟩
        case measure => simp [intOf]; omega
      · obtain rfl : i = m := by omega
        have hsi := slI_runO A len cap k hk hcap
        have HPV : Hid (PcOk w ⟨fromA A cap k, b.drop k, cap - k⟩) := ⟨from_at HA.out (by rw [HBL.out]; exact hcap) k (by rw [HBL.out]; exact hk), by show _ ≤ cap - k; rw [List.length_drop, HBL.out]; omega, by show _ ≤ 4000; rw [List.length_drop, HBL.out]; omega⟩
        have HPE : Hid (pcv ⟨fromA A cap k, b.drop k, cap - k⟩ = .slice (fromA A cap k) (len - k) (cap - k)) := by
          show Value.slice _ _ _ = _
          rw [List.length_drop, HBL.out]
        have HF2 : Hid (((ps ++ [(⟨fromA A cap k, b.drop k, cap - k⟩ : PcV)]).map (·.bytes)).flatten = b) := by
          show _ = _
          rw [fl_bytes, HFL.out]
          exact List.take_append_drop k b
        generalize (⟨fromA A cap k, b.drop k, cap - k⟩ : PcV) = P at HPV HPE HF2
        generalize fromA A cap k = FA at hsi HPE
        generalize hcr : cap - k = cr at hsi HPE
        generalize hp : len - k = p at hsi HPE
        clear hcr hp
        have HSR := hid (src_pc wr P (.slice FA p cr) HPE.out.symm 1)
        have HO1 := hid (HO.out.alloc (.cells #[.slice FA p cr] 23))
        have HB1 := hid (alloc_below HB.out HB.out.size (.cells #[.slice FA p cr] 23))
        go_wp2_with (first
          | (refine wpList_ownV pcK rfl _ _ rfl w.heap.size g i cp 1 (ps.map pcv) [pcv P] _ rfl rfl HO1.out HSR.out (by omega) HB1.out.size ?_)
          | fail)
        intro g2 cp2 W2 hown2 hgr2 _
        have HB2 := hid (HO1.out.grown HB1.out HB1.out.size hgr2)
        have HL2 : Hid (((ps ++ [P]).map (·.bytes)).length = i + 1) := by show _ = _; rw [List.length_map, List.length_append, HPL.out]; rfl
        have HPC : Hid (PcsAt W2 (some ⟨g2, 0, none⟩) ((ps ++ [P]).map (·.bytes))) := by
          refine pcs_of (w := w) (b := w.heap.size) (cap := cp2) ?_ (fun x hx => ?_) HB2.out
          · rw [List.length_append, HPL.out, List.map_append]
            exact hown2
          · rcases List.mem_append.1 hx with hx | hx
            · exact HPO.out x hx
            · rw [List.mem_singleton] at hx; subst hx; exact HPV.out
        clear hown2 hgr2 HSR HO1 HPE
        generalize (ps ++ [P]).map (·.bytes) = L at HF2 HL2 HPC
        have hfl : L.flatten.length ≤ 32768 := by rw [HF2.out, HBL.out]; omega
        have HEN := hid (encode_ok L (some ⟨g2, 0, none⟩) (i + 1) cp2 HL2.out (by omega) W2 (HT.out.below HB2.out) HPC.out hfl)
        have h5 := enc_pos L
        have h6 := enc_len L hfl
        have HDE : Hid (∀ X cx W, (encC L).length ≤ cx → TabC W → BytesAt W (some X) (encC L) → Calls Tryd.prog 12 #[.slice (some X) (encC L).length cx] W fun e w' => ∃ v, e = .returned (.tuple #[v, .int .i64 (encC L).length, .int .i64 0]) ∧ Down w' W.heap.size v b ∧ Below W.heap.size W w') := fun X cx W h1 h2 h3 => by
          have hd : decodeC (encC L) = (b, (encC L).length, 0) := by
            have h8 := decode_enc L hfl []
            rw [List.append_nil, HF2.out] at h8
            exact h8
          have h9 := decode_any (encC L) X cx (by omega) h1 W h2 h3
          rw [hd] at h9
          exact h9
        generalize hEL : encC L = EL at HEN HDE h5 h6
        clear hEL HF2 HPC hfl HL2
        generalize EL.length = sz at HEN HDE h5 h6
        go_wp2_with fail
        refine HEN.out.mono ?_
        rintro e W3 ⟨g3, cap3, rfl, hown3, hb3⟩
        have HB3 := hid (HB2.out.trans (hb3.mono HB2.out.size))
        have HE3 := hid hown3.bytes
        have hle3 := hown3.le
        clear hown3 hb3
        go_wp2_with fail
        refine (HDE.out _ cap3 _ hle3 (HT.out.below HB3.out) HE3.out).mono ?_
        rintro e W4 ⟨v4, rfl, hv4, hb4⟩
        have HB4 := hid (HB3.out.trans (hb4.mono HB3.out.size))
        have hs4 := hv4.str
        have hs5 := HSB.out W4 HB4.out
        clear hv4 hb4
        generalize asS b = Sb at hs4 hs5
        go_wp2_with fail
        refine (HAW.out _ (HT.out.below HB4.out)).mono ?_
        rintro e W5 ⟨rfl, hb5⟩
        have HB5 := hid (HB4.out.trans (hb5.mono HB4.out.size))
        clear hb5
        go_wp2_with fail
        go_ret
        exact ⟨rfl, HB5.out⟩
end Go.Proofs.YtlgfepaicgnkpaaDoor
