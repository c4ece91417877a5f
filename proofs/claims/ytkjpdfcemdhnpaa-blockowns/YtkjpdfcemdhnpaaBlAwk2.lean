
/- The file awake: a torn write. -/
import Derived.Test.YtkjpdfcemdhnpaaBlAwake
namespace Go.Proofs.Ytkjpdfcemdhnpaa
set_option linter.unusedVariables false
set_option linter.unusedSimpArgs false
open Go.RowKit Go.BigFrame

/-- A file in memory that was made since w0, and what was there then is as it was. -/
def FilB (w0 : World) (F N L n : Nat) (S : Bool) (k t : Int) (O : Bool) (B : List UInt8) (W : List WrB) (w : World) : Prop := ∃ wv, Fil F N L n wv S k t O B W w ∧ Below w0.heap.size w0 w ∧ (∀ q, blk wv = some q → w0.heap.size ≤ q) ∧ w0.heap.size ≤ F ∧ w0.heap.size ≤ N ∧ w0.heap.size ≤ L
theorem FilB.of {w0 w w' : World} {F N L n : Nat} {wv : Value} {S : Bool} {k t : Int} {O : Bool} {B : List UInt8} {W : List WrB} (h : FilX F N L n S k t O B W wv w w') (hb : Below w0.heap.size w0 w) (hv : ∀ q, blk wv = some q → w0.heap.size ≤ q) (hF : w0.heap.size ≤ F) (hN : w0.heap.size ≤ N) (hL : w0.heap.size ≤ L) : FilB w0 F N L n S k t O B W w' := by
  obtain ⟨wv', h1, h2, h3⟩ := h
  exact ⟨wv', h1, h2.below hb hb.size hF hN hL hv, fun q e => by
    rcases h3 q e with h | h
    · exact hv q h
    · exact Nat.le_trans hb.size h, hF, hN, hL⟩
theorem FilB.below {w0 w w' : World} {F N L n : Nat} {S : Bool} {k t : Int} {O : Bool} {B : List UInt8} {W : List WrB} (h : FilB w0 F N L n S k t O B W w) (hb : Below w.heap.size w w') : FilB w0 F N L n S k t O B W w' := by
  obtain ⟨wv, h1, h2, h3⟩ := h
  exact ⟨wv, h1.below hb, h2.trans (hb.mono h2.size), h3⟩
theorem writeB {w0 w : World} {F N L n : Nat} {k t : Int} {B : List UInt8} {W : List WrB} (h : FilB w0 F N L n false k t false B W w) (hW : W.length ≤ 900) (hkb : k ≤ 9223372036854775807) (i : Nat) (hi : i < n) (d : List UInt8) (g : Nat) (hg : w.heap[g]? = some (.cells (bcs d) 5 (0, 0))) (hd : d.length = 64) :
    Calls Try.prog 22 #[.pointer (some ⟨F, 0, none⟩), .int .i64 (i : Int), .slice (some ⟨g, 0, none⟩) 64 64] w fun x w' => x = .returned (.int .i64 0) ∧ FilB w0 F N L n false k t false B (W ++ [(i, d)]) w' := by
  obtain ⟨wv, h1, h2, h3, h4, h5, h6⟩ := h
  have := write_any F N L n wv false k t false B W w h1 hW hkb i d (some ⟨g, 0, none⟩) 64 (BytesAt.of_row hg) (by omega)
  rw [hd] at this
  refine this.mono fun x w' hh => ?_
  obtain ⟨e, S', k', t', O', B', W', hs, hf⟩ := hh.2.2 ⟨by omega, by omega⟩ hd
  rw [Int.toNat_natCast] at hs
  refine ⟨e, ?_⟩
  rcases hs with ⟨h, _⟩ | ⟨_, ⟨_, rfl, rfl, rfl, rfl, rfl, rfl⟩ | ⟨h, _⟩ | ⟨h, _⟩⟩
  · cases h
  · exact FilB.of hf h2 h3 h4 h5 h6
  · cases h
  · cases h
theorem crashB {w0 w : World} {F N L n : Nat} {S : Bool} {k t : Int} {O : Bool} {B : List UInt8} {W : List WrB} (h : FilB w0 F N L n S k t O B W w) (hW : W.length ≤ 1000) (K T : Int) : Calls Try.prog 18 #[.pointer (some ⟨F, 0, none⟩), .int .i64 K, .int .i64 T] w fun x w' => x = .returned (.tuple #[]) ∧ FilB w0 F N L n false 0 0 false (foldB B (thrB W K.toNat T)) [] w' := by
  obtain ⟨wv, h1, h2, h3, h4, h5, h6⟩ := h
  exact (crash_any F N L n wv S k t O B W w h1 hW K T).mono fun x w' hh => ⟨hh.1, FilB.of hh.2 h2 h3 h4 h5 h6⟩
theorem readB {w0 w : World} {F N L n : Nat} {S : Bool} {k t : Int} {O : Bool} {B : List UInt8} {W : List WrB} (h : FilB w0 F N L n S k t O B W w) (i : Nat) (hi : i < n) : Calls Try.prog 13 #[.pointer (some ⟨F, 0, none⟩), .int .i64 (i : Int)] w fun x w' => ∃ g, x = .returned (.tuple #[.slice (some ⟨g, 0, none⟩) 64 64, .int .i64 0]) ∧ w.heap.size ≤ g ∧ w'.heap[g]? = some (.cells (bcs (blkB (foldB B W) i)) 5 (0, 0)) ∧ Below w.heap.size w w' := by
  obtain ⟨wv, h1, -⟩ := h
  refine (read_any F N L n wv S k t O B W w h1 i).mono fun x w' hh => ?_
  obtain ⟨g, e1, e2, e3⟩ := hh.2.1 ⟨by omega, by omega⟩
  rw [Int.toNat_natCast] at e3
  exact ⟨g, e1, e2, e3, hh.2.2⟩
theorem pendB {w0 w : World} {F N L n : Nat} {S : Bool} {k t : Int} {O : Bool} {B : List UInt8} {W : List WrB} (h : FilB w0 F N L n S k t O B W w) : Calls Try.prog 12 #[.pointer (some ⟨F, 0, none⟩)] w fun x w' => x = .returned (.int .i64 (W.length : Int)) ∧ Below w.heap.size w w' := by
  obtain ⟨wv, h1, -⟩ := h
  obtain ⟨A2, c2, hv, -, -, -⟩ := h1.ws.shape
  rw [full_len] at hv
  have c3 := h1.cells.2.2.2.1
  rw [hv] at c3
  exact pending_at F W.length c2 A2 w h1.cells.1 c3
theorem newB (n : Nat) (h1 : 1 ≤ n) (h2 : n ≤ 4096) (w : World) : Calls Try.prog 17 #[.int .i64 (n : Int)] w fun x w' => ∃ F N L, x = .returned (.tuple #[.pointer (some ⟨F, 0, none⟩), .int .i64 0]) ∧ FilB w F N L n false 0 0 false (zer (64 * n)) [] w' :=
  (new_any n w).mono fun x w' hh => by
    obtain ⟨F, N, L, e, hf, a, b, c⟩ := hh.2.1 ⟨by omega, by omega⟩
    rw [Int.toNat_natCast] at hf
    exact ⟨F, N, L, e, .slice none 0 0, hf, hh.2.2, (fun q e => by cases e), a, b, c⟩
set_option maxHeartbeats 8000000 in
set_option maxRecDepth 100000 in
theorem awake_any (w : World) : Calls Try.prog 9 #[] w fun x w' => x = .returned (.bool true) ∧ Below w.heap.size w w' := by
  have HN := hid (newB 2 (by decide) (by decide) w)
  go_enter Try.func9, Try.ntmps9
  go_wp2_with fail
  refine HN.out.mono ?_
  rintro x W1 ⟨F, N, L, rfl, hf⟩
  have HF1 := hid hf
  have HC1 := hid (filled_any 1 W1)
  clear hf HN
  go_wp2_with fail
  refine HC1.out.mono ?_
  rintro x W2 ⟨g1, rfl, -, hg, hb⟩
  have HW2 := hid (writeB (HF1.out.below hb) (by decide) (by decide) 0 (by decide) (filB 1) g1 hg (filB_len 1))
  clear hg hb HF1 HC1
  go_wp2_with fail
  refine HW2.out.mono ?_
  rintro x W3 ⟨rfl, hf⟩
  have HF3 := hid hf
  have HC3 := hid (filled_any 2 W3)
  clear hf HW2
  go_wp2_with fail
  refine HC3.out.mono ?_
  rintro x W4 ⟨g2, rfl, -, hg, hb⟩
  have HW4 := hid (writeB (HF3.out.below hb) (by decide) (by decide) 0 (by decide) (filB 2) g2 hg (filB_len 2))
  clear hg hb HF3 HC3
  go_wp2_with fail
  refine HW4.out.mono ?_
  rintro x W5 ⟨rfl, hf⟩
  have HC5 := hid (crashB hf (by decide) 1 3)
  clear hf HW4
  go_wp2_with fail
  refine HC5.out.mono ?_
  rintro x W6 ⟨rfl, hf⟩
  have HF6 := hid hf
  have HR6 := hid (readB hf 0 (by decide))
  clear hf HC5
  go_wp2_with fail
  refine HR6.out.mono ?_
  rintro x W7 ⟨g, rfl, -, hg, hb⟩
  have HF7 := hid (HF6.out.below hb)
  have f2 : W7.cell? ⟨g, 2, none⟩ = some (.int .u8 2) := by rw [cell_of_row _ _ _ _ _ _ hg]; kernel_rfl
  have f3 : W7.cell? ⟨g, 3, none⟩ = some (.int .u8 1) := by rw [cell_of_row _ _ _ _ _ _ hg]; kernel_rfl
  have HP7 := hid (pendB HF7.out)
  clear hg hb HR6 HF6
  go_wp2_with fail
  refine HP7.out.mono ?_
  rintro x W8 ⟨rfl, hb⟩
  have HF8 := hid (HF7.out.below hb)
  clear hb HP7 HF7 f2 f3
  go_wp2_with fail
  go_ret
  obtain ⟨wv, -, h, -⟩ := HF8.out
  exact ⟨rfl, h⟩
end Go.Proofs.Ytkjpdfcemdhnpaa
