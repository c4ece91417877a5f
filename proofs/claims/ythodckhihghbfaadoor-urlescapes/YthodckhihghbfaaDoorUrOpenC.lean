
/- The witness's world with the table of cases laid: for the law that reaches strings.ToUpper. -/
import Derived.Test.YthodckhihghbfaaDoorIpOpen
import Derived.Test.YthodckhihghbfaaDoorShelf
import Derived.Lib.LaidCaseMet
namespace Go.Proofs.YthodckhihghbfaaDoor
open Go.RowKit Go.Lib
set_option maxRecDepth 100000
set_option linter.unusedVariables false

theorem laid_swap {P : Program} {w : World} {a b c : String × DataW Unit} (h : laidMet P [a, b, c] w) : laidMet P [a, c, b] w := by
  obtain ⟨n1, d1⟩ := a
  obtain ⟨n2, d2⟩ := b
  obtain ⟨n3, d3⟩ := c
  obtain ⟨ps, hv, hn, hc⟩ := h
  obtain ⟨g1, t1, c1, f1, p1, q1, x1, x2, x3, x4, h2, rfl⟩ := hv
  obtain ⟨g2, t2, c2, f2, p2, q2, y1, y2, y3, y4, h3, rfl⟩ := h2
  obtain ⟨g3, t3, c3, f3, p3, q3, z1, z2, z3, z4, h4, rfl⟩ := h3
  cases h4
  refine ⟨_, ⟨g1, t1, c1, f1, p1, _, x1, x2, x3, x4, ⟨g3, t3, c3, f3, p3, _, z1, z2, z3, z4, ⟨g2, t2, c2, f2, p2, [], y1, y2, y3, y4, rfl, rfl⟩, rfl⟩, rfl⟩, ?_, ?_⟩
  · refine (List.Perm.nodup_iff ?_).1 hn
    refine List.Perm.append_left _ ?_
    rw [List.append_nil, List.append_nil]
    exact List.perm_append_comm
  · intro b off hm
    refine hc b off ?_
    simp only [List.mem_append, List.append_nil] at hm ⊢
    rcases hm with hm | hm | hm
    · exact .inl hm
    · exact .inr (.inr hm)
    · exact .inr (.inl hm)
/-- The names of the row's list. -/
def nmOf (k : Nat) : String := (Rows.urlEscapesRow.laid.map (·.1)).getD k default
theorem laid_list : Rows.urlEscapesRow.laid = [(nmOf 0, Rows.laid_unicode_utf8_acceptRanges), ("unicode.CaseRanges", Lib.caseData), (nmOf 2, Rows.laid_unicode_utf8_first)] := by kernel_rfl
/-- A world with the tables as the library lays them. -/
def layCase (w : World) : World :=
  { w with heap := (((w.heap.modify 2 (putCells (Lib.firstTab.map fun z => Value.int .u8 z).toArray)).modify 3 (putCells ((List.range 16).flatMap fun i => [Value.int .u8 (Lib.accLo i), Value.int .u8 (Lib.accHi i)]).toArray)).modify 1 (putCells #[.slice (some ⟨w.heap.size, 0, none⟩) 336 336])).push (.cells Lib.caseCells5 (Tryd.lays158_ren.t 208) (0, 0)) }
theorem case_met (os : Os) (args : Array Value) : laidMet Tryd.prog Rows.urlEscapesRow.laid ((layCase (World.holding Tryd.prog os ⟨#[], #[], []⟩)).forCall (fun _ _ => 0) ⟨#[], args, []⟩).memory := by
  rw [laid_list]
  refine laid_swap ?_
  exact laidMet_with_case (ρ := Tryd.lays158_ren) { Tryd.lays158 with } Tryd.lays158.t206 ⟨by kernel_rfl, by kernel_rfl, by kernel_rfl, by kernel_rfl, by kernel_rfl, by kernel_rfl⟩
    (l := [(nmOf 0, Rows.laid_unicode_utf8_acceptRanges), (nmOf 2, Rows.laid_unicode_utf8_first)])
    10 (by kernel_rfl) (by kernel_rfl) (by kernel_rfl) ((World.holding Tryd.prog default ⟨#[], #[], []⟩).heap.size) (Tryd.lays158_ren.t 208) (of_decide_eq_true (by kernel_rfl)) (by kernel_rfl) (by kernel_rfl) (by kernel_rfl)
end Go.Proofs.YthodckhihghbfaaDoor
