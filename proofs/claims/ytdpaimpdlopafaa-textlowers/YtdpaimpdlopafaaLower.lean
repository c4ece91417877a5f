/- What text.Lower and the reference's Lower do, call by call, at every text that is not too long: each letter A to Z turned, all else as it is. -/
import Derived.Test.YtdpaimpdlopafaaWords
import Derived.Lib.ConvBytes
import Derived.Lib.AtoiErrMem
import Derived.Laws.BytesString
import Derived.Laws.Cells
namespace Go.Proofs.Ytdpaimpdlopafaa
open Go.RowKit

def lowB (c : UInt8) : UInt8 := if 65 ≤ c.toNat ∧ c.toNat ≤ 90 then c + 32 else c
def lowTo (l : List UInt8) (k : Nat) : List UInt8 := (l.take k).map lowB ++ l.drop k
def low (s : ByteArray) : ByteArray := ⟨(s.data.toList.map lowB).toArray⟩
theorem lowTo_zero (l : List UInt8) : lowTo l 0 = l := by simp [lowTo]
theorem lowTo_all (l : List UInt8) (k : Nat) (h : l.length ≤ k) : lowTo l k = l.map lowB := by simp [lowTo, List.take_of_length_le h, List.drop_of_length_le h]
theorem lowTo_len (l : List UInt8) (k : Nat) : (lowTo l k).length = l.length := by simp [lowTo]; omega
theorem lowTo_at (l : List UInt8) (k : Nat) (h : k < l.length) : (lowTo l k).getD k 0 = l[k] := by
  unfold lowTo
  rw [List.getD_eq_getElem?_getD, List.getElem?_append_right (by simp; omega)]
  simp [Nat.min_eq_left (Nat.le_of_lt h), h]
theorem lowTo_succ (l : List UInt8) (k : Nat) (h : k < l.length) : lowTo l (k + 1) = (lowTo l k).set k (lowB l[k]) := by
  unfold lowTo
  rw [List.take_succ_eq_append_getElem h, List.map_append, List.set_append_right _ _ (by simp; omega)]
  have e : k - ((l.take k).map lowB).length = 0 := by simp; omega
  rw [e, List.drop_eq_getElem_cons h, List.set_cons_zero]
  simp only [List.map_cons, List.map_nil, List.append_assoc, List.cons_append, List.nil_append]
theorem lowTo_skip (l : List UInt8) (k : Nat) (h : k < l.length) (hc : lowB l[k] = l[k]) : lowTo l (k + 1) = lowTo l k := by
  unfold lowTo
  rw [List.take_succ_eq_append_getElem h, List.map_append, List.drop_eq_getElem_cons h]
  simp [hc]
theorem lowB_hit (c : UInt8) (h1 : 65 ≤ (c.toNat : Int)) (h2 : (c.toNat : Int) ≤ 90) : ((lowB c).toNat : Int) = (c.toNat : Int) + 32 := by
  have : 65 ≤ c.toNat ∧ c.toNat ≤ 90 := by omega
  simp only [lowB, this, and_self, if_true, UInt8.toNat_add]
  have e : UInt8.toNat 32 = 32 := rfl
  rw [e]; omega
theorem lowB_miss (c : UInt8) (h : ¬ (65 ≤ (c.toNat : Int) ∧ (c.toNat : Int) ≤ 90)) : lowB c = c := by
  have : ¬ (65 ≤ c.toNat ∧ c.toNat ≤ 90) := by omega
  simp [lowB, this]
theorem lowB_twice (c : UInt8) : lowB (lowB c) = lowB c := by
  by_cases h : 65 ≤ (c.toNat : Int) ∧ (c.toNat : Int) ≤ 90
  · apply lowB_miss
    have := lowB_hit c h.1 h.2
    omega
  · rw [lowB_miss c h, lowB_miss c h]
theorem low_twice (s : ByteArray) : low (low s) = low s := by
  unfold low
  congr 2
  simp [lowB_twice]
theorem low_size (s : ByteArray) : (low s).size = s.size := by
  rw [Lib.size_eq, Lib.size_eq]
  unfold low
  rw [List.toList_toArray, List.length_map]

/-- A row of bytes in block B, none of them frozen. -/
def Row (B : Nat) (l : List UInt8) (w : World) : Prop :=
  (∀ j, j < l.length → w.cell? ⟨B, j, none⟩ = some (.int .u8 (l.getD j 0).toNat)) ∧ (∀ j, j < l.length → w.frozen? ⟨B, j, none⟩ = false)

theorem row_set {B : Nat} {l : List UInt8} {w : World} (h : Row B l w) (k : Nat) (hk : k < l.length) (c : UInt8) : Row B (l.set k c) (w.setCell ⟨B, k, none⟩ (.int .u8 c.toNat)) := by
  refine ⟨fun j hj => ?_, fun j hj => ?_⟩
  · rw [List.length_set] at hj
    by_cases e : j = k
    · subst e
      rw [World.cell?_setCell_same w _ _ (h.1 j hj)]
      simp [List.getD_eq_getElem?_getD, hj]
    · rw [World.cell?_setCell_other w _ _ _ (by intro h'; apply e; have := congrArg Addr.off h'; simpa using this.symm), h.1 j hj]
      simp [List.getD_eq_getElem?_getD, List.getElem?_set_ne (Ne.symm e)]
  · rw [List.length_set] at hj
    rw [World.frozen?_setCell]; exact h.2 j hj

theorem row_new (w : World) (s : ByteArray) : ∃ cap W1, (convert 9 38 (.string s)).run Try.prog w = .ok (.slice (some ⟨w.heap.size, 0, none⟩) s.size cap) W1 ∧ Row w.heap.size s.data.toList W1 ∧ Below w.heap.size w W1 ∧ w.heap.size < W1.heap.size := by
  refine ⟨_, _, Lib.run_convert_string_bytes w 9 38 5 s Try.underlying9 Try.underlying38 Try.underlying5, ⟨fun j hj => ?_, fun j hj => ?_⟩, Lib.bytesWorld_below _ _ _, ?_⟩
  · exact Lib.bytesWorld_cell w 5 s j (by rw [Lib.size_eq]; exact hj)
  · have h1 : s.data.toList.length ≤ (Lib.bytesCells w 5 s).size := by simp [Lib.bytesCells]
    simp only [World.frozen?, Lib.bytesWorld_at_new]
    have : ¬ (Lib.bytesCells w 5 s).size ≤ j := by omega
    simp [this]
  · rw [Lib.bytesWorld_size]; omega

theorem push_all (l : List UInt8) : ∀ acc : ByteArray, ((l.map fun c => ((c.toNat : Nat) : Int)).foldl (fun r n => r.push (UInt8.ofNat n.toNat)) acc) = ⟨(acc.data.toList ++ l).toArray⟩ := by
  induction l with
  | nil => intro acc; simp
  | cons c t ih =>
    intro acc
    rw [List.map_cons, List.foldl_cons, ih]
    simp [ByteArray.push]

theorem add_at (B j : Nat) : Addr.add ⟨B, 0, none⟩ j = ⟨B, j, none⟩ := by
  unfold Addr.add
  by_cases h : j = 0 <;> simp [h]

theorem row_back {B : Nat} {l : List UInt8} {w : World} (h : Row B l w) (cap n : Nat) (hn : n = l.length) : (convert 38 9 (.slice (some ⟨B, 0, none⟩) n cap)).run Try.prog w = .ok (.string ⟨l.toArray⟩) w := by
  subst hn
  rw [run_convert_bytes_string w 38 9 5 _ _ _ Try.underlying38 Try.underlying5 Try.underlying9]
  rw [run_bytesToString w ⟨B, 0, none⟩ l.length cap (l.map fun c => ((c.toNat : Nat) : Int)) ?_]
  · rw [push_all]; rfl
  · have := run_loadCells_list (P := Try.prog) (w := w) ⟨B, 0, none⟩ ((l.map fun c => ((c.toNat : Nat) : Int)).map (Value.int .u8)) ?_
    · simpa using this
    · intro j v hv
      have hj : j < l.length := by
        have := (List.getElem?_eq_some_iff.1 hv).1
        simpa using this
      have := h.1 j hj
      rw [add_at, this, ← hv]
      simp [List.getD_eq_getElem?_getD, hj]

set_option maxHeartbeats 1000000 in
set_option maxRecDepth 1000000 in
theorem lower_any (s : ByteArray) (w : World) (hs : s.size ≤ 1000000) :
    Calls Try.prog 15 #[.string s] w fun e w' => e = .returned (.string (low s)) ∧ Below w.heap.size w w' := by
  obtain ⟨cap, W1, hconv, hrow, hb1, hsz1⟩ := row_new w s
  have HR := Lib.hid hrow; have HB := Lib.hid hb1
  have HL : Hid (s.data.toList.length = s.size) := (Lib.size_eq s).symm
  clear hrow hb1
  go_enter Try.func15, Try.ntmps15
  go_wp2
  go_loopw [10] (fun i wr => ∃ k : Nat, k ≤ s.size ∧ i = .int .i64 k ∧ Hid (Row w.heap.size (lowTo s.data.toList k) wr) ∧ Hid (Below w.heap.size w wr)) (fun i _ => s.size - (intOf i).toNat)
  case atStart => exact ⟨0, Nat.zero_le _, rfl, by rw [lowTo_zero]; exact HR, HB⟩
  case round =>
    obtain ⟨k, hk, rfl, HR2, HB2⟩ := hrel
    by_cases hlt : k < s.size
    · have hkl : Hid (k < s.data.toList.length) := by show _ < _; rw [HL.out]; exact hlt
      obtain ⟨c, hc⟩ : ∃ c : UInt8, Hid (c = s.data.toList[k]'hkl.out) := ⟨_, rfl⟩
      have hcell : wr.cell? ⟨w.heap.size, k, none⟩ = some (.int .u8 c.toNat) := by
        rw [HR2.out.1 k (by rw [lowTo_len]; exact hkl.out), lowTo_at _ _ hkl.out, hc.out]
      have hfz : wr.frozen? ⟨w.heap.size, k, none⟩ = false := HR2.out.2 k (by rw [lowTo_len]; exact hkl.out)
      have hc0 : (0 : Int) ≤ (c.toNat : Int) := by omega
      have hc1 : (c.toNat : Int) < 256 := by have := c.toNat_lt; omega
      by_cases hu : 65 ≤ (c.toNat : Int) ∧ (c.toNat : Int) ≤ 90
      · obtain ⟨hu1, hu2⟩ := hu
        have HV := Lib.hid (lowB_hit c hu1 hu2)
        go_wp2
        go_roundw
        case rel =>
          refine ⟨k + 1, by omega, by go_num, ?_, HB2.out.setCell (Nat.le_refl _) _⟩
          show Row _ _ _
          have e : (c.toNat : Int) - 65 + 97 = ((lowB c).toNat : Int) := by rw [HV.out]; omega
          rw [e, lowTo_succ _ k hkl.out, ← hc.out]
          exact row_set HR2.out k (by rw [lowTo_len]; exact hkl.out) (lowB c)
        case measure => simp [intOf]; omega
      · have HM := Lib.hid (lowB_miss c hu)
        have HS : Hid (lowTo s.data.toList (k + 1) = lowTo s.data.toList k) := lowTo_skip _ k hkl.out (by rw [← hc.out]; exact HM.out)
        by_cases hu1 : 65 ≤ (c.toNat : Int)
        · have hu2 : ¬ (c.toNat : Int) ≤ 90 := fun h => hu ⟨hu1, h⟩
          clear hu
          go_wp2
          go_roundw
          case rel => exact ⟨k + 1, by omega, by go_num, by rw [HS.out]; exact HR2, HB2⟩
          case measure => simp [intOf]; omega
        · clear hu
          go_wp2
          go_roundw
          case rel => exact ⟨k + 1, by omega, by go_num, by rw [HS.out]; exact HR2, HB2⟩
          case measure => simp [intOf]; omega
    · have hback := row_back HR2.out cap s.size (by rw [lowTo_len]; exact HL.out.symm)
      have HA : Hid (lowTo s.data.toList k = s.data.toList.map lowB) := lowTo_all _ k (by rw [HL.out]; omega)
      rw [HA.out] at hback
      go_wp2
      go_ret
      exact ⟨rfl, HB2.out⟩

set_option maxHeartbeats 1000000 in
set_option maxRecDepth 1000000 in
theorem refLower_any (s : ByteArray) (w : World) (hs : s.size ≤ 1000000) :
    Calls Try.prog 16 #[.string s] w fun e w' => e = .returned (.string (low s)) ∧ Below w.heap.size w w' := by
  obtain ⟨cap, W1, hconv, hrow, hb1, hsz1⟩ := row_new w s
  have HR := Lib.hid hrow; have HB := Lib.hid hb1
  have HL : Hid (s.data.toList.length = s.size) := (Lib.size_eq s).symm
  clear hrow hb1
  go_enter Try.func16, Try.ntmps16
  go_wp2
  go_loopw [4] (fun i wr => ∃ k : Nat, k ≤ s.size ∧ i = .int .i64 k ∧ Hid (Row w.heap.size (lowTo s.data.toList k) wr) ∧ Hid (Below w.heap.size w wr)) (fun i _ => s.size - (intOf i).toNat)
  case atStart => exact ⟨0, Nat.zero_le _, rfl, by rw [lowTo_zero]; exact HR, HB⟩
  case round =>
    obtain ⟨k, hk, rfl, HR2, HB2⟩ := hrel
    by_cases hlt : k < s.size
    · have hkl : Hid (k < s.data.toList.length) := by show _ < _; rw [HL.out]; exact hlt
      obtain ⟨c, hc⟩ : ∃ c : UInt8, Hid (c = s.data.toList[k]'hkl.out) := ⟨_, rfl⟩
      have hcell : wr.cell? ⟨w.heap.size, k, none⟩ = some (.int .u8 c.toNat) := by
        rw [HR2.out.1 k (by rw [lowTo_len]; exact hkl.out), lowTo_at _ _ hkl.out, hc.out]
      have hfz : wr.frozen? ⟨w.heap.size, k, none⟩ = false := HR2.out.2 k (by rw [lowTo_len]; exact hkl.out)
      have hc0 : (0 : Int) ≤ (c.toNat : Int) := by omega
      have hc1 : (c.toNat : Int) < 256 := by have := c.toNat_lt; omega
      by_cases hu : 65 ≤ (c.toNat : Int) ∧ (c.toNat : Int) ≤ 90
      · obtain ⟨hu1, hu2⟩ := hu
        have HV := Lib.hid (lowB_hit c hu1 hu2)
        go_wp2
        go_roundw
        case rel =>
          refine ⟨k + 1, by omega, by go_num, ?_, HB2.out.setCell (Nat.le_refl _) _⟩
          show Row _ _ _
          have e : (c.toNat : Int) + 32 = ((lowB c).toNat : Int) := by rw [HV.out]
          rw [e, lowTo_succ _ k hkl.out, ← hc.out]
          exact row_set HR2.out k (by rw [lowTo_len]; exact hkl.out) (lowB c)
        case measure => simp [intOf]; omega
      · have HM := Lib.hid (lowB_miss c hu)
        have HS : Hid (lowTo s.data.toList (k + 1) = lowTo s.data.toList k) := lowTo_skip _ k hkl.out (by rw [← hc.out]; exact HM.out)
        by_cases hu1 : 65 ≤ (c.toNat : Int)
        · have hu2 : ¬ (c.toNat : Int) ≤ 90 := fun h => hu ⟨hu1, h⟩
          clear hu
          go_wp2
          go_roundw
          case rel => exact ⟨k + 1, by omega, by go_num, by rw [HS.out]; exact HR2, HB2⟩
          case measure => simp [intOf]; omega
        · clear hu
          go_wp2
          go_roundw
          case rel => exact ⟨k + 1, by omega, by go_num, by rw [HS.out]; exact HR2, HB2⟩
          case measure => simp [intOf]; omega
    · have hback := row_back HR2.out cap s.size (by rw [lowTo_len]; exact HL.out.symm)
      have HA : Hid (lowTo s.data.toList k = s.data.toList.map lowB) := lowTo_all _ k (by rw [HL.out]; omega)
      rw [HA.out] at hback
      go_wp2
      go_ret
      exact ⟨rfl, HB2.out⟩

end Go.Proofs.Ytdpaimpdlopafaa
