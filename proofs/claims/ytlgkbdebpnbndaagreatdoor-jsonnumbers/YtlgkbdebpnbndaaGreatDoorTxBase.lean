
/- Texts in the program: their bytes, cut out, read, put into lower case, cloned. -/
import Derived.Test.YtlgkbdebpnbndaaGreatDoorXmBase
import Derived.Test.YtlgkbdebpnbndaaGreatDoorXmBook
import Derived.Test.YtlgkbdebpnbndaaGreatDoorShelf
import Derived.BigQuiet
import Derived.LoopN
import Derived.Lib.QuietBelow
import Derived.Lib.SlBytesConst
namespace Go.Proofs.YtlgkbdebpnbndaaGreatDoor
set_option linter.unusedVariables false
set_option linter.unusedSimpArgs false
open Go.RowKit Go.BigFrame

def asS (l : List UInt8) : ByteArray := ⟨l.toArray⟩
theorem asS_data (l : List UInt8) : (asS l).data.toList = l := rfl
theorem asS_size (x : List UInt8) : (asS x).size = x.length := by rw [Lib.size_eq]; rfl
theorem cut_list (s : ByteArray) (a b : Nat) : (s.extract a b).data.toList = (s.data.toList.drop a).take (b - a) := Lib.extract_data s a b
theorem ext_asS (s : ByteArray) (a b : Nat) : s.extract a b = asS ((s.data.toList.drop a).take (b - a)) := by
  apply ByteArray.ext
  apply Array.ext'
  rw [cut_list]
  rfl
theorem ext8_from (l : List UInt8) (k : Nat) : (asS l).extract k (asS l).size = asS (l.drop k) := by
  rw [ext_asS, asS_data, asS_size, List.take_of_length_le (by simp)]
theorem ext8_to (l : List UInt8) (k : Nat) : (asS l).extract 0 k = asS (l.take k) := by
  rw [ext_asS, asS_data]; simp
theorem emp8 (x : List UInt8) : (asS x).toList.isEmpty = decide (x = []) := by
  rw [show (asS x).toList = x from by rw [ByteArray.toList_eq]; rfl]
  cases x <;> rfl
theorem tl_eq (x c : List UInt8) : ((asS x).toList == c) = decide (x = c) := by
  rw [show (asS x).toList = x from by rw [ByteArray.toList_eq]; rfl]
  by_cases h : x = c
  · rw [decide_eq_true h, h]; simp
  · rw [decide_eq_false h]; simpa using h
theorem u8_int (x c : UInt8) : ((x.toNat : Int) == (c.toNat : Int)) = decide (x = c) := by
  by_cases h : x = c
  · subst h; simp
  · rw [decide_eq_false h, beq_eq_false_iff_ne]
    exact fun e => h (UInt8.toNat_inj.1 (by omega))
theorem asS_app (x y : List UInt8) : asS x ++ asS y = asS (x ++ y) := by
  apply ByteArray.ext
  rw [ByteArray.data_append]
  simp [asS]
theorem asS_of (s : ByteArray) : asS s.data.toList = s := by simp [asS]
theorem ba_at (s : ByteArray) (k : Nat) (h : k < s.size) : s[k] = s.data.toList.getD k 0 := by
  have h' : k < s.data.toList.length := by simpa using h
  rw [List.getD_eq_getElem?_getD, List.getElem?_eq_getElem h']
  rfl
theorem str_ix (s : ByteArray) (k : Nat) (h : k < s.size) (W : World) : (Instr.index 9 (.string s) (.int .i64 (k : Int))).run Tryz.prog W = .ok (.int .u8 (s.data.toList.getD k 0).toNat) W := by
  have e := ba_at s k h
  have : s[((k : Int)).toNat]? = some (s.data.toList.getD k 0) := by rw [Int.toNat_natCast, ← e]; simp [h]
  have hp : (0 : Int) ≤ (k : Int) := by omega
  simp only [Instr.index, asIntOf, Sem.run_bind, Sem.run_pure, Result.andThen_ok, run_underlying Tryz.underlying9, if_pos hp, this]
theorem all_take (p : UInt8 → Bool) (l : List UInt8) (k : Nat) (h : k < l.length) : (l.take (k + 1)).all p = ((l.take k).all p && p (l.getD k 0)) := by
  rw [take_snoc l k h, List.all_append]; simp
theorem u8_eq_iff (x c : UInt8) : ((x.toNat : Int) = (c.toNat : Int)) ↔ x = c := by
  constructor
  · intro h; exact UInt8.toNat_inj.1 (by omega)
  · rintro rfl; rfl
/-- A row of bytes in block B, none of them frozen. -/
def RowB (B : Nat) (l : List UInt8) (w : World) : Prop :=
  (∀ j, j < l.length → w.cell? ⟨B, j, none⟩ = some (.int .u8 (l.getD j 0).toNat)) ∧ (∀ j, j < l.length → w.frozen? ⟨B, j, none⟩ = false)
theorem rowB_set {B : Nat} {l : List UInt8} {w : World} (h : RowB B l w) (k : Nat) (hk : k < l.length) (c : UInt8) : RowB B (l.set k c) (w.setCell ⟨B, k, none⟩ (.int .u8 c.toNat)) := by
  refine ⟨fun j hj => ?_, fun j hj => ?_⟩
  · rw [List.length_set] at hj
    by_cases e : j = k
    · subst e
      rw [World.cell?_setCell_same w _ _ (h.1 j hj)]
      simp [List.getD_eq_getElem?_getD, hj]
    · rw [World.cell?_setCell_other w _ _ _ (by intro h'; apply e; have := congrArg Addr.off h'; simpa using this.symm), h.1 j hj]
      simp [List.getD_eq_getElem?_getD, List.getElem?_set_ne (Ne.symm e)]
  · rw [List.length_set] at hj
    rw [World.frozen?_setCell]; exact h.2 j hj
theorem rowB_new (w : World) (s : ByteArray) : ∃ cap W1, (convert 9 47 (.string s)).run Tryz.prog w = .ok (.slice (some ⟨w.heap.size, 0, none⟩) s.size cap) W1 ∧ RowB w.heap.size s.data.toList W1 ∧ Below w.heap.size w W1 := by
  obtain ⟨cap, W1, h1, h2, h3⟩ := conv_own w s
  refine ⟨cap, W1, h1, ⟨fun j hj => ?_, fun j hj => ?_⟩, h3⟩
  · obtain ⟨q, o, e, _, hc⟩ := h2.bytes (by omega)
    cases e
    have := hc j hj
    rwa [Nat.zero_add] at this
  · exact (h2.cell j (by have := h2.le; have := h2.len; omega)).2
theorem clone8 (s : ByteArray) (hs : s.size ≤ 281474976710656) (w : World) : Calls Tryz.prog 46 #[.string s] w fun e w' => e = .returned (.string s) ∧ Below w.heap.size w w' := by
  have HC := hid (fun W => Tryz.stringslite_Clone s W hs)
  clear hs
  go_enter Tryz.func46, Tryz.ntmps46
  go_wp2_with fail
  refine (HC.out _).mono ?_
  rintro e W ⟨rfl, hb⟩
  go_wp2_with fail
  go_ret
  exact ⟨rfl, hb⟩
theorem Own.cut {w : World} {b g n cap : Nat} {l : List UInt8} (h : Own w b g n cap l) (k : Nat) (hk : k ≤ n) : Own w b g k cap (l.take k) := by
  obtain ⟨r, fz, h1, h2, h3⟩ := h.row
  have hl := h.len
  refine ⟨h.ge, by rw [List.length_take]; omega, bvs (l.drop k) ++ r, fz, ?_, ?_, h3⟩
  · rw [← List.append_assoc, ← bvs_app, List.take_append_drop]; exact h1
  · rw [List.length_append, bvs_len, List.length_drop]; omega
/-- append(nil, a text that is not empty...). -/
theorem run_app_nil (ty : TypeId) {w : World} {b m : Nat} (s : ByteArray) (hm : s.size = m) (h0 : 0 < m) (hn : m ≤ 1000000000) (hb : b ≤ w.heap.size) :
    ∃ cap w', (Builtin.append_ #[47, 9] ty #[.slice none 0 0, .string s]).run Tryz.prog w = .ok (.slice (some ⟨w.heap.size, 0, none⟩) m cap) w' ∧ Own w' b w.heap.size m cap s.data.toList ∧ Below w.heap.size w w' := by
  obtain ⟨i0, hi, hz0, hz1, hz2⟩ := info_parts info5
  have hs : Src Tryz.prog 1 9 (.string s) m (bvs s.data.toList) w := hm ▸ src_text w s
  have hl : s.data.toList.length = m := by rw [← hm]; exact ba_len s
  have hs' : Src Tryz.prog i0.size 9 (.string s) m (bvs s.data.toList) w := by rw [hz1]; exact hs
  have hold : (Builtin.firstCells i0.size 0 (.slice none 0 0)).run Tryz.prog w.drew = .ok (([] : List Value)).toArray w.drew := by simp [Builtin.firstCells]
  have hr := run_append_grow_src w 47 9 ty 5 i0 (.int .u8 0) Tryz.underlying47 hi hz0 none 0 0 [] hold (.string s) m (bvs s.data.toList) hs' (by omega) (by omega) (growslice_fits (by omega) (by rw [hz2]; omega))
  rw [Nat.zero_add] at hr
  have hge := grownCap_ge w m 0 5
  refine ⟨_, _, hr, ⟨hb, hl, (Builtin.zeroCells (Value.int .u8 0).cells (grownCap w m 0 5 - m)).toList, (0, 0), ?_, ?_, .inl rfl⟩, ((Below.refl _ _).drew).alloc (Nat.le_refl _) _⟩
  · rw [show w.heap.size = w.drew.heap.size from rfl, heap_alloc_new w.drew _]
    refine congrArg (fun a => some (Obj.cells a 5 (0, 0))) (Array.ext' ?_)
    simp
  · rw [Array.length_toList, size_zeroCells]
    have : (Value.int .u8 0).cells.size = 1 := rfl
    rw [this]; omega
theorem wpList_app_nil {ops : Array Oper} {rest : List Oper} {o : Oper} {a : Act} {w : World} {Q : Exit → Act → World → Prop} (hgd : o.guard = none) (s x : Operand)
    (ho : o.op = .call { callee := .builtin .append, args := #[s, x], argTypes := #[47, 9] })
    (base m : Nat) (xs : ByteArray) (hs : a.eval s = .slice none 0 0) (hx : a.eval x = .string xs) (hm : xs.size = m) (h0 : 0 < m) (hn : m ≤ 1000000000) (hb : base ≤ w.heap.size)
    (h : ∀ cap w', Own w' base w.heap.size m cap xs.data.toList → Below w.heap.size w w' → wpList Tryz.prog ops Q rest (a.put o.dst (.slice (some ⟨w.heap.size, 0, none⟩) m cap)) w') : wpList Tryz.prog ops Q (o :: rest) a w := by
  refine wpList_plain hgd fun _ hK => ?_
  obtain ⟨cap, w', hr, h2, h3⟩ := run_app_nil o.type (w := w) (b := base) xs hm h0 hn hb
  unfold Oper.wp execOp
  simp only [ho, resolve, invoke, builtin, Sem.run_bind, Sem.run_pure, Result.andThen_ok, List.map_toArray, List.map_cons, List.map_nil, hs, hx, hr]
  exact hK _ _ (h cap w' h2 h3)
/-- What was put down. -/
def Down (w : World) (b : Nat) (d : Value) (o : List UInt8) : Prop := (d = .slice none 0 0 ∧ o = []) ∨ ∃ g n cap, d = .slice (some ⟨g, 0, none⟩) n cap ∧ Own w b g n cap o
theorem Down.below {w w' : World} {b : Nat} {d : Value} {o : List UInt8} (h : Down w b d o) (hb : Below w.heap.size w w') : Down w' b d o := by
  rcases h with h | ⟨g, n, cap, h1, h2⟩
  · exact .inl h
  · exact .inr ⟨g, n, cap, h1, h2.below hb (Nat.le_refl _)⟩
theorem row_range {w : World} {g : Nat} {cs : Array Value} {t : TypeId} {fr : Nat × Nat} (h : w.heap[g]? = some (.cells cs t fr)) : w.rangeAt g 0 cs.toList :=
  range_row (a := []) (b := cs.toList) (c := []) (t := t) (fr := fr) (by simpa using h) 0 rfl
end Go.Proofs.YtlgkbdebpnbndaaGreatDoor
