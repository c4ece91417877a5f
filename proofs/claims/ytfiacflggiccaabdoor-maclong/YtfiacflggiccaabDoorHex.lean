
/- What sha.Hex does: two digits a byte. -/
import Derived.Test.YtfiacflggiccaabDoorOf
import Derived.OwnWalk
import Derived.Laws.BytesString
import Derived.Deep.AppendLies
namespace Go.Proofs.YtfiacflggiccaabDoor
open Go.RowKit

def DIG : List UInt8 := [48, 49, 50, 51, 52, 53, 54, 55, 56, 57, 97, 98, 99, 100, 101, 102]
def hd (n : Nat) : UInt8 := DIG.getD n 0
def hex2 (c : UInt8) : List UInt8 := [hd (c.toNat / 16), hd (c.toNat % 16)]
def hexB (l : List UInt8) : List UInt8 := l.flatMap hex2
theorem hexB_len (l : List UInt8) : (hexB l).length = 2 * l.length := by
  induction l with
  | nil => rfl
  | cons x r ih => unfold hexB at ih ⊢; rw [List.flatMap_cons, List.length_append, ih, List.length_cons]; show 2 + 2 * r.length = _; omega
theorem hexB_snoc (l : List UInt8) (k : Nat) (h : k < l.length) : hexB (l.take (k + 1)) = hexB (l.take k) ++ hex2 (l.getD k 0) := by
  unfold hexB
  rw [List.take_succ_eq_append_getElem h, List.flatMap_append]
  simp [List.getD_eq_getElem?_getD, h]
theorem info_parts {P : Program} {t : TypeId} {z : Value} {n b : Nat} (h : (P.info? t).map (fun i => (i.zero, i.size, i.bytes)) = some (some z, n, b)) : ∃ i, P.info? t = some i ∧ i.zero = some z ∧ i.size = n ∧ i.bytes = b := by
  cases hi : P.info? t with
  | none => rw [hi] at h; cases h
  | some i => rw [hi] at h; simp at h; exact ⟨i, rfl, h.1, h.2.1, h.2.2⟩
theorem info5 : (Tryd.prog.info? 5).map (fun i => (i.zero, i.size, i.bytes)) = some (some (.int .u8 0), 1, 1) := by kernel_rfl
theorem push_all (l : List UInt8) : ∀ acc : ByteArray, ((l.map fun c => ((c.toNat : Nat) : Int)).foldl (fun r n => r.push (UInt8.ofNat n.toNat)) acc) = ⟨(acc.data.toList ++ l).toArray⟩ := by
  induction l with
  | nil => intro acc; simp
  | cons c t ih =>
    intro acc
    rw [List.map_cons, List.foldl_cons, ih]
    simp [ByteArray.push]
/-- string(b). -/
theorem str_of {w : World} {a : Addr} {l : List UInt8} (cap : Nat) (h : ∀ j v, (bvs l)[j]? = some v → w.cell? (a.add j) = some v) (n : Nat) (hn : n = l.length) : (convert 22 9 (.slice (some a) n cap)).run Tryd.prog w = .ok (.string ⟨l.toArray⟩) w := by
  subst hn
  rw [run_convert_bytes_string w 22 9 5 _ _ _ Tryd.underlying22 Tryd.underlying5 Tryd.underlying9]
  rw [run_bytesToString w a l.length cap (l.map fun c => ((c.toNat : Nat) : Int)) ?_]
  · rw [push_all]; rfl
  · have := run_loadCells_list (P := Tryd.prog) (w := w) a (bvs l) h
    rw [bvs_len] at this
    rw [this]
    simp [bvs, Function.comp_def]
theorem own_cells {w : World} {b g n cap : Nat} {l : List UInt8} (h : w.ownsRow b 5 1 (.slice (some ⟨g, 0, none⟩) n cap) n (bvs l)) : ∀ j v, (bvs l)[j]? = some v → w.cell? ((⟨g, 0, none⟩ : Addr).add j) = some v := fun j v hv => by
  rcases h.2 with ⟨h0, _⟩ | ⟨g', cap', cur, h1, h2, h3, h4, h5, h6, h7⟩
  · cases h0
  · cases h1
    rw [Addr.add_mid, Nat.zero_add, cell_of_row _ _ _ _ _ _ h3]
    have hj := (List.getElem?_eq_some_iff.1 hv).1
    rw [← h7, List.length_take] at hj
    rw [← h7, List.getElem?_take, if_pos (by omega)] at hv
    simpa using hv
theorem and15 (c : UInt8) : bits .and .u8 (c.toNat : Int) 15 = (c.toNat : Int) % 16 := by
  have := c.toNat_lt
  exact u8_and15 _ (by omega) (by omega)
theorem dig_fin : ∀ n : Fin 16, (⟨#[48, 49, 50, 51, 52, 53, 54, 55, 56, 57, 97, 98, 99, 100, 101, 102]⟩ : ByteArray)[n.val]? = some (hd n.val) := by decide +kernel
theorem index_dig (i : Int) (n : Nat) (hi : i = (n : Int)) (h : n < 16) (w : World) : (Instr.index 9 (.string ⟨#[48, 49, 50, 51, 52, 53, 54, 55, 56, 57, 97, 98, 99, 100, 101, 102]⟩) (.int .u8 i)).run Tryd.prog w = .ok (.int .u8 (hd n).toNat) w := by
  subst hi
  have e := dig_fin ⟨n, h⟩
  simp only at e
  simp [Instr.index, asIntOf, run_underlying Tryd.underlying9, e]

end Go.Proofs.YtfiacflggiccaabDoor
