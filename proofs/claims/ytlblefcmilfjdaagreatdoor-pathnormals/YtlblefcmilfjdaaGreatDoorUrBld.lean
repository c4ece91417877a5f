
/- strings.Builder at this program: what its methods do. -/
import Derived.Test.YtlblefcmilfjdaaGreatDoorUrPt
import Derived.Shelf.Strings.Builder1
namespace Go.Proofs.YtlblefcmilfjdaaGreatDoor
set_option linter.unusedVariables false
open Go.RowKit Go.BigFrame

theorem own_keep {B : Nat} {e : TypeId} {v : Value} {n : Nat} {xs : List Value} {w w' : World} (h : w.ownsRow B e 1 v n xs) (hb : Below w.heap.size w w') : w'.ownsRow B e 1 v n xs := by
  obtain ⟨hl, ho⟩ := h
  refine ⟨hl, ?_⟩
  rcases ho with ho | ⟨g, c, cur, h1, h2, h3, h4⟩
  · exact .inl ho
  · exact .inr ⟨g, c, cur, h1, h2, row_keep hb h3, h4⟩
/-- A builder that holds these bytes. -/
def Bd (B b : Nat) (o : List UInt8) (w : World) : Prop := Lib.IsBuilder 62 5 B b (Lib.byteCells o) w
theorem Bd.below {B b : Nat} {o : List UInt8} {w w' : World} (h : Bd B b o w) (hb : Below w.heap.size w w') : Bd B b o w' := by
  rcases h with ⟨h1, v, h2, h3, h4⟩ | ⟨h1, v, h2, h3, h4⟩
  · exact .inl ⟨h1, v, row_keep hb h2, own_keep h3 hb, h4⟩
  · exact .inr ⟨h1, v, row_keep hb h2, own_keep h3 hb, h4⟩
theorem Bd.lt {B b : Nat} {o : List UInt8} {w : World} (h : Bd B b o w) : b < w.heap.size := by
  rcases h with h | h <;> exact Lib.BuilderAt.lt h
theorem Bd.ge {B b : Nat} {o : List UInt8} {w : World} (h : Bd B b o w) : B ≤ b := by
  rcases h with h | h <;> exact h.1
theorem Bd.new (w : World) : Bd w.heap.size w.heap.size [] (w.alloc (.cells #[.pointer none, .slice none 0 0] 62)) := Lib.fresh_isBuilder 62 5 w
theorem Bd.row {B b : Nat} {w : World} (hB : B ≤ b) (h : w.heap[b]? = some (.cells #[.pointer none, .slice none 0 0] 62 (0, 0))) : Bd B b [] w :=
  .inl ⟨hB, .slice none 0 0, h, ⟨rfl, .inl ⟨rfl, rfl⟩⟩, by simp [Value.ownBlock]⟩
theorem cells_app (o p : List UInt8) : Lib.byteCells (o ++ p) = Lib.byteCells o ++ Lib.byteCells p := by simp [Lib.byteCells]
theorem writeByte_any (B b : Nat) (o : List UInt8) (c : UInt8) (w : World) (h : Bd B b o w) (hl : o.length ≤ 1000000) (hB : B ≤ w.heap.size) : Calls Tryz.prog 44 #[.pointer (some ⟨b, 0, none⟩), .int .u8 c.toNat] w fun e w' => e = .returned .nilIface ∧ Bd B b (o ++ [c]) w' ∧ Below B w w' := by
  have h2 : Lib.IsBuilder (Tryz.lays158_ren.t 72) (Tryz.lays158_ren.t 5) B b (Lib.byteCells o) w := h
  refine (Any.Builder_WriteByte (P := Tryz.prog) (ρ := Tryz.lays158_ren) { Tryz.lays158 with } Tryz.Builder_Extra_158 B b (Lib.byteCells o) (c.toNat : Int) w h2 (by rw [Lib.byteCells_length]; omega) hB).mono ?_
  rintro e w' ⟨rfl, hb, hbel⟩
  refine ⟨rfl, .inr ?_, hbel⟩
  rw [cells_app]
  exact hb
theorem writeStr_any (B b : Nat) (o : List UInt8) (x : List UInt8) (w : World) (h : Bd B b o w) (hl : o.length + x.length ≤ 1000000) (hB : B ≤ w.heap.size) : Calls Tryz.prog 46 #[.pointer (some ⟨b, 0, none⟩), .string (asS x)] w fun e w' => e = .returned (.tuple #[.int .i64 x.length, .nilIface]) ∧ Bd B b (o ++ x) w' ∧ Below B w w' := by
  have h2 : Lib.IsBuilder (Tryz.lays158_ren.t 72) (Tryz.lays158_ren.t 5) B b (Lib.byteCells o) w := h
  refine (Any.Builder_WriteString (P := Tryz.prog) (ρ := Tryz.lays158_ren) { Tryz.lays158 with } Tryz.Builder_Extra_158 B b (Lib.byteCells o) (asS x) w h2 (by rw [Lib.byteCells_length, asS_size]; omega) hB).mono ?_
  rintro e w' ⟨rfl, hb, hbel⟩
  refine ⟨by rw [asS_size], .inr ?_, hbel⟩
  rw [cells_app]
  exact hb
theorem bstr_any (B b : Nat) (o : List UInt8) (w : World) (h : Bd B b o w) (hB : B ≤ w.heap.size) : Calls Tryz.prog 48 #[.pointer (some ⟨b, 0, none⟩)] w fun e w' => e = .returned (.string (asS o)) ∧ Below B w w' := Tryz.Builder_String_any B b o w h hB
theorem built_bld : Tryz.prog.built 62 [] = some #[.pointer none, .slice none 0 0] := by kernel_rfl
theorem info_bld : (Tryz.prog.info? 62).map (·.size) = some 2 := by kernel_rfl
/-- A new builder is stored. -/
theorem store_bld {ops : Array Oper} {rest : List Oper} {op : Oper} {a : Act} {w : World} {Q : Exit → Act → World → Prop} (hgd : op.guard = none) (x y : Operand) (ho : op.op = .store 62 x y)
    (b : Nat) (hx : a.eval x = .pointer (some ⟨b, 0, none⟩)) (hy : a.eval y = .agg #[.pointer none, .slice none 0 0])
    (cs : Array Value) (hrow : w.heap[b]? = some (.cells cs 62 (0, 0))) (hcs : cs.size = 2)
    (h : ∀ W, Only b w W → W.heap[b]? = some (.cells #[.pointer none, .slice none 0 0] 62 (0, 0)) → wpList Tryz.prog ops Q rest (a.put op.dst undef) W) : wpList Tryz.prog ops Q (op :: rest) a w :=
  wpList_store_abs hgd 62 x y ho b 0 #[.pointer none, .slice none 0 0] hx hy 62 cs hrow (by rw [hcs]; exact Nat.le_refl _) info_bld (by simp [Value.oneCell'])
    (fun W h1 h2 => h W h1 (by rw [h2, over_whole cs #[.pointer none, .slice none 0 0] (by rw [hcs]; rfl)]))
end Go.Proofs.YtlblefcmilfjdaaGreatDoor
