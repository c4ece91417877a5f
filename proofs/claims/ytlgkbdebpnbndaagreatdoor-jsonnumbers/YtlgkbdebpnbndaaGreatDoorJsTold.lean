
/- What told makes of one of Go's own values. -/
import Derived.Test.YtlgkbdebpnbndaaGreatDoorJsNumW
namespace Go.Proofs.YtlgkbdebpnbndaaGreatDoor
set_option linter.unusedVariables false
set_option linter.unusedSimpArgs false
open Go.RowKit Go.BigFrame

/-- What one of Go's own values is, as the five cells. -/
def AnyJ (x : Value) (cs : Array Value) : Prop :=
  (x = .nilIface ∧ cs = #[.int .i64 0, .int .i64 0, .string ⟨#[]⟩, .slice none 0 0, .slice none 0 0]) ∨
  (x = .iface 4 (.bool true) ∧ cs = #[.int .i64 1, .int .i64 1, .string ⟨#[]⟩, .slice none 0 0, .slice none 0 0]) ∨
  (x = .iface 4 (.bool false) ∧ cs = #[.int .i64 1, .int .i64 0, .string ⟨#[]⟩, .slice none 0 0, .slice none 0 0]) ∨
  (∃ v, x = .iface 2 (.int .i64 v) ∧ cs = #[.int .i64 2, .int .i64 v, .string ⟨#[]⟩, .slice none 0 0, .slice none 0 0]) ∨
  (∃ t, x = .iface 9 (.string t) ∧ cs = #[.int .i64 3, .int .i64 0, .string t, .slice none 0 0, .slice none 0 0]) ∨
  (∃ A n c, x = .iface 22 (.slice A n c) ∧ cs = #[.int .i64 4, .int .i64 0, .string ⟨#[]⟩, .slice A n c, .slice none 0 0]) ∨
  (∃ A n c B m e, x = .iface 86 (.agg #[.slice B m e, .slice A n c]) ∧ cs = #[.int .i64 5, .int .i64 0, .string ⟨#[]⟩, .slice A n c, .slice B m e])
theorem run_assert_is (t : TypeId) (v : Value) (c : Bool) (W : World) (hc : Tryz.prog.concrete t = true) : (Instr.typeAssert (.iface t v) 20 t c).run Tryz.prog W = .ok (if c then .tuple #[v, .bool true] else v) W := by
  unfold Program.concrete at hc
  unfold Instr.typeAssert
  cases hd : Tryz.prog.underlying t with
  | none => simp [hd] at hc
  | some d =>
    cases d <;> first | (simp [hd] at hc; done) | (simp only [Sem.run_bind, run_underlying hd, Result.andThen_ok, if_pos]; cases c <;> rfl)
theorem run_assert_not (t u : TypeId) (v z : Value) (W : World) (hc : Tryz.prog.concrete t = true) (hne : u ≠ t) (hz : ∀ W, (zeroValue t).run Tryz.prog W = .ok z W) : (Instr.typeAssert (.iface u v) 20 t true).run Tryz.prog W = .ok (.tuple #[z, .bool false]) W := by
  unfold Program.concrete at hc
  unfold Instr.typeAssert
  cases hd : Tryz.prog.underlying t with
  | none => simp [hd] at hc
  | some d =>
    cases d <;> first | (simp [hd] at hc; done) | (simp only [Sem.run_bind, run_underlying hd, Result.andThen_ok, if_neg hne, if_true, hz, Sem.run_pure])
theorem run_assert_nil (t : TypeId) (z : Value) (W : World) (hc : Tryz.prog.concrete t = true) (hz : ∀ W, (zeroValue t).run Tryz.prog W = .ok z W) : (Instr.typeAssert .nilIface 20 t true).run Tryz.prog W = .ok (.tuple #[z, .bool false]) W := by
  unfold Program.concrete at hc
  unfold Instr.typeAssert
  cases hd : Tryz.prog.underlying t with
  | none => simp [hd] at hc
  | some d =>
    cases d <;> first | (simp [hd] at hc; done) | (simp only [Sem.run_bind, run_underlying hd, Result.andThen_ok, if_true, hz, Sem.run_pure])
theorem infoVj : (Tryz.prog.info? 25).map (·.size) = some 5 := by kernel_rfl
theorem infoOb : (Tryz.prog.info? 86).map (·.size) = some 2 := by kernel_rfl
theorem vcs_all (a b : Int) (t : ByteArray) (A B : Option Addr) (n c m e : Nat) : (#[.int .i64 a, .int .i64 b, .string t, .slice A n c, .slice B m e] : Array Value).all (·.oneCell') = true := by
  refine all_oneCell_toArray (cs := [.int .i64 a, .int .i64 b, .string t, .slice A n c, .slice B m e]) fun v hv => ?_
  simp only [List.mem_cons, List.not_mem_nil, or_false] at hv
  rcases hv with rfl | rfl | rfl | rfl | rfl <;> rfl
theorem obs_all (A B : Option Addr) (n c m e : Nat) : (#[.slice B m e, .slice A n c] : Array Value).all (·.oneCell') = true := by
  refine all_oneCell_toArray (cs := [.slice B m e, .slice A n c]) fun v hv => ?_
  simp only [List.mem_cons, List.not_mem_nil, or_false] at hv
  rcases hv with rfl | rfl <;> rfl
theorem ret_v {fn : Func} {p : Tmp} (h : fn.results = #[.cell p 25]) (tmps : Array Value) (w : World) (b : Nat) (cs : Array Value) (hz : cs.size = 5) (fr : Nat × Nat) (hp : tmps.getD p undef = .pointer (some ⟨b, 0, none⟩)) (hrow : w.heap[b]? = some (.cells cs 25 fr)) :
    (results fn tmps).run Tryz.prog w = .ok (.agg cs) w :=
  results_cell_row h tmps w b 25 cs fr _ hp hrow Tryz.underlying25 rfl (by rw [hz]; exact infoVj)
def buildI (t : TypeId) (ps : Array (Nat × Value)) := Instr.build t ps
theorem buildV_eq (ps : Array (Nat × Value)) : Instr.build 25 ps = buildI 25 ps := rfl
theorem built_v1 (a b : Int) : Tryz.prog.built 25 [(0, .int .i64 a), (1, .int .i64 b)] = some #[.int .i64 a, .int .i64 b, .string ⟨#[]⟩, .slice none 0 0, .slice none 0 0] := by kernel_rfl
theorem built_v0 (a : Int) : Tryz.prog.built 25 [(0, .int .i64 a)] = some #[.int .i64 a, .int .i64 0, .string ⟨#[]⟩, .slice none 0 0, .slice none 0 0] := by kernel_rfl
theorem built_vz : Tryz.prog.built 25 [] = some #[.int .i64 0, .int .i64 0, .string ⟨#[]⟩, .slice none 0 0, .slice none 0 0] := by kernel_rfl
theorem built_v3 (a : Int) (t : ByteArray) : Tryz.prog.built 25 [(0, .int .i64 a), (2, .string t)] = some #[.int .i64 a, .int .i64 0, .string t, .slice none 0 0, .slice none 0 0] := by kernel_rfl
theorem built_v4 (a : Int) (A : Option Addr) (n c : Nat) : Tryz.prog.built 25 [(0, .int .i64 a), (3, .slice A n c)] = some #[.int .i64 a, .int .i64 0, .string ⟨#[]⟩, .slice A n c, .slice none 0 0] := by kernel_rfl
theorem built_v5 (a : Int) (A B : Option Addr) (n c m e : Nat) : Tryz.prog.built 25 [(0, .int .i64 a), (3, .slice A n c), (4, .slice B m e)] = some #[.int .i64 a, .int .i64 0, .string ⟨#[]⟩, .slice A n c, .slice B m e] := by kernel_rfl
attribute [local go_sem ↓] buildV_eq
set_option maxHeartbeats 8000000 in
set_option maxRecDepth 100000 in
theorem told_any (x : Value) (cs : Array Value) (h : AnyJ x cs) (w : World) : Calls Tryz.prog 65 #[x] w fun e w' => e = .returned (.agg cs) ∧ Below w.heap.size w w' := by
  have HZ := hid (heap_alloc_new w (.cells #[.int .i64 0, .int .i64 0, .string ⟨#[]⟩, .slice none 0 0, .slice none 0 0] 25))
  have HB := hid ((Below.refl w.heap.size w).alloc (Nat.le_refl _) (.cells #[.int .i64 0, .int .i64 0, .string ⟨#[]⟩, .slice none 0 0, .slice none 0 0] 25))
  have hzw : w.heap.size < (w.alloc (.cells #[.int .i64 0, .int .i64 0, .string ⟨#[]⟩, .slice none 0 0, .slice none 0 0] 25)).heap.size := by show _ < (Array.push _ _).size; rw [Array.size_push]; omega
  rcases h with ⟨rfl, rfl⟩ | ⟨rfl, rfl⟩ | ⟨rfl, rfl⟩ | ⟨v, rfl, rfl⟩ | ⟨t, rfl, rfl⟩ | ⟨A, n, c, rfl, rfl⟩ | ⟨A, n, c, B, m, e, rfl, rfl⟩
  · have a0 : ∀ W, (Instr.typeAssert .nilIface 20 4 true).run Tryz.prog W = .ok (.tuple #[.bool false, .bool false]) W := fun W => run_assert_nil 4 _ W (by kernel_rfl) Tryz.zeroValue4
    have a1 : ∀ W, (Instr.typeAssert .nilIface 20 2 true).run Tryz.prog W = .ok (.tuple #[.int .i64 0, .bool false]) W := fun W => run_assert_nil 2 _ W (by kernel_rfl) Tryz.zeroValue2
    have a2 : ∀ W, (Instr.typeAssert .nilIface 20 9 true).run Tryz.prog W = .ok (.tuple #[.string ⟨#[]⟩, .bool false]) W := fun W => run_assert_nil 9 _ W (by kernel_rfl) Tryz.zeroValue9
    have a3 : ∀ W, (Instr.typeAssert .nilIface 20 22 true).run Tryz.prog W = .ok (.tuple #[.slice none 0 0, .bool false]) W := fun W => run_assert_nil 22 _ W (by kernel_rfl) Tryz.zeroValue22
    have a4 : ∀ W, (Instr.typeAssert .nilIface 20 86 true).run Tryz.prog W = .ok (.tuple #[.agg #[.slice none 0 0, .slice none 0 0], .bool false]) W := fun W => run_assert_nil 86 _ W (by kernel_rfl) Tryz.zeroValue86
    have hbu : ∀ W, (buildI 25 #[(0, .int .i64 0)]).run Tryz.prog W = .ok (.agg #[.int .i64 0, .int .i64 0, .string ⟨#[]⟩, .slice none 0 0, .slice none 0 0]) W := fun W => run_build W 25 _ _ (built_v0 0)
    go_enter Tryz.func65, Tryz.ntmps65
    go_wp2_with (first
      | (refine wpList_store_abs rfl 25 (.tmp 2) (.tmp 38) rfl w.heap.size 0 #[.int .i64 0, .int .i64 0, .string ⟨#[]⟩, .slice none 0 0, .slice none 0 0] rfl rfl 25 _ HZ.out (Nat.le_refl 5) infoVj (vcs_all _ _ _ _ _ _ _ _ _) ?_; intro W9 hO9 hW9)
      | fail)
    rw [over_whole #[.int .i64 0, .int .i64 0, .string ⟨#[]⟩, .slice none 0 0, .slice none 0 0] #[.int .i64 0, .int .i64 0, .string ⟨#[]⟩, .slice none 0 0, .slice none 0 0] rfl] at hW9
    exact bodyPost_ret (ret_v (p := 2) Tryz.results65 _ _ w.heap.size _ rfl (0, 0) rfl hW9) rfl ⟨rfl, HB.out.trans (hO9.below (Nat.le_refl _))⟩
  · have a0 : ∀ W, (Instr.typeAssert (.iface 4 (.bool true)) 20 4 true).run Tryz.prog W = .ok (.tuple #[.bool true, .bool true]) W := fun W => run_assert_is 4 _ true W (by kernel_rfl)
    have hbu : ∀ W, (buildI 25 #[(0, .int .i64 1), (1, .int .i64 1)]).run Tryz.prog W = .ok (.agg #[.int .i64 1, .int .i64 1, .string ⟨#[]⟩, .slice none 0 0, .slice none 0 0]) W := fun W => run_build W 25 _ _ (built_v1 1 1)
    go_enter Tryz.func65, Tryz.ntmps65
    go_wp2_with (first
      | (refine wpList_store_abs rfl 25 (.tmp 2) (.tmp 13) rfl w.heap.size 0 #[.int .i64 1, .int .i64 1, .string ⟨#[]⟩, .slice none 0 0, .slice none 0 0] rfl rfl 25 _ HZ.out (Nat.le_refl 5) infoVj (vcs_all _ _ _ _ _ _ _ _ _) ?_; intro W9 hO9 hW9)
      | fail)
    rw [over_whole #[.int .i64 0, .int .i64 0, .string ⟨#[]⟩, .slice none 0 0, .slice none 0 0] #[.int .i64 1, .int .i64 1, .string ⟨#[]⟩, .slice none 0 0, .slice none 0 0] rfl] at hW9
    exact bodyPost_ret (ret_v (p := 2) Tryz.results65 _ _ w.heap.size _ rfl (0, 0) rfl hW9) rfl ⟨rfl, HB.out.trans (hO9.below (Nat.le_refl _))⟩
  · have a0 : ∀ W, (Instr.typeAssert (.iface 4 (.bool false)) 20 4 true).run Tryz.prog W = .ok (.tuple #[.bool false, .bool true]) W := fun W => run_assert_is 4 _ true W (by kernel_rfl)
    have hbu : ∀ W, (buildI 25 #[(0, .int .i64 1)]).run Tryz.prog W = .ok (.agg #[.int .i64 1, .int .i64 0, .string ⟨#[]⟩, .slice none 0 0, .slice none 0 0]) W := fun W => run_build W 25 _ _ (built_v0 1)
    go_enter Tryz.func65, Tryz.ntmps65
    go_wp2_with (first
      | (refine wpList_store_abs rfl 25 (.tmp 2) (.tmp 14) rfl w.heap.size 0 #[.int .i64 1, .int .i64 0, .string ⟨#[]⟩, .slice none 0 0, .slice none 0 0] rfl rfl 25 _ HZ.out (Nat.le_refl 5) infoVj (vcs_all _ _ _ _ _ _ _ _ _) ?_; intro W9 hO9 hW9)
      | fail)
    rw [over_whole #[.int .i64 0, .int .i64 0, .string ⟨#[]⟩, .slice none 0 0, .slice none 0 0] #[.int .i64 1, .int .i64 0, .string ⟨#[]⟩, .slice none 0 0, .slice none 0 0] rfl] at hW9
    exact bodyPost_ret (ret_v (p := 2) Tryz.results65 _ _ w.heap.size _ rfl (0, 0) rfl hW9) rfl ⟨rfl, HB.out.trans (hO9.below (Nat.le_refl _))⟩
  · have a0 : ∀ W, (Instr.typeAssert (.iface 2 (.int .i64 v)) 20 4 true).run Tryz.prog W = .ok (.tuple #[.bool false, .bool false]) W := fun W => run_assert_not 4 2 _ _ W (by kernel_rfl) (by decide) Tryz.zeroValue4
    have a1 : ∀ W, (Instr.typeAssert (.iface 2 (.int .i64 v)) 20 2 true).run Tryz.prog W = .ok (.tuple #[.int .i64 v, .bool true]) W := fun W => run_assert_is 2 _ true W (by kernel_rfl)
    have hbu : ∀ W, (buildI 25 #[(0, .int .i64 2), (1, .int .i64 v)]).run Tryz.prog W = .ok (.agg #[.int .i64 2, .int .i64 v, .string ⟨#[]⟩, .slice none 0 0, .slice none 0 0]) W := fun W => run_build W 25 _ _ (built_v1 2 v)
    go_enter Tryz.func65, Tryz.ntmps65
    go_wp2_with (first
      | (refine wpList_store_abs rfl 25 (.tmp 2) (.tmp 19) rfl w.heap.size 0 #[.int .i64 2, .int .i64 v, .string ⟨#[]⟩, .slice none 0 0, .slice none 0 0] rfl rfl 25 _ HZ.out (Nat.le_refl 5) infoVj (vcs_all _ _ _ _ _ _ _ _ _) ?_; intro W9 hO9 hW9)
      | fail)
    rw [over_whole #[.int .i64 0, .int .i64 0, .string ⟨#[]⟩, .slice none 0 0, .slice none 0 0] #[.int .i64 2, .int .i64 v, .string ⟨#[]⟩, .slice none 0 0, .slice none 0 0] rfl] at hW9
    exact bodyPost_ret (ret_v (p := 2) Tryz.results65 _ _ w.heap.size _ rfl (0, 0) rfl hW9) rfl ⟨rfl, HB.out.trans (hO9.below (Nat.le_refl _))⟩
  · have a0 : ∀ W, (Instr.typeAssert (.iface 9 (.string t)) 20 4 true).run Tryz.prog W = .ok (.tuple #[.bool false, .bool false]) W := fun W => run_assert_not 4 9 _ _ W (by kernel_rfl) (by decide) Tryz.zeroValue4
    have a1 : ∀ W, (Instr.typeAssert (.iface 9 (.string t)) 20 2 true).run Tryz.prog W = .ok (.tuple #[.int .i64 0, .bool false]) W := fun W => run_assert_not 2 9 _ _ W (by kernel_rfl) (by decide) Tryz.zeroValue2
    have a2 : ∀ W, (Instr.typeAssert (.iface 9 (.string t)) 20 9 true).run Tryz.prog W = .ok (.tuple #[.string t, .bool true]) W := fun W => run_assert_is 9 _ true W (by kernel_rfl)
    have hbu : ∀ W, (buildI 25 #[(0, .int .i64 3), (2, .string t)]).run Tryz.prog W = .ok (.agg #[.int .i64 3, .int .i64 0, .string t, .slice none 0 0, .slice none 0 0]) W := fun W => run_build W 25 _ _ (built_v3 3 t)
    go_enter Tryz.func65, Tryz.ntmps65
    go_wp2_with (first
      | (refine wpList_store_abs rfl 25 (.tmp 2) (.tmp 24) rfl w.heap.size 0 #[.int .i64 3, .int .i64 0, .string t, .slice none 0 0, .slice none 0 0] rfl rfl 25 _ HZ.out (Nat.le_refl 5) infoVj (vcs_all _ _ _ _ _ _ _ _ _) ?_; intro W9 hO9 hW9)
      | fail)
    rw [over_whole #[.int .i64 0, .int .i64 0, .string ⟨#[]⟩, .slice none 0 0, .slice none 0 0] #[.int .i64 3, .int .i64 0, .string t, .slice none 0 0, .slice none 0 0] rfl] at hW9
    exact bodyPost_ret (ret_v (p := 2) Tryz.results65 _ _ w.heap.size _ rfl (0, 0) rfl hW9) rfl ⟨rfl, HB.out.trans (hO9.below (Nat.le_refl _))⟩
  · have a0 : ∀ W, (Instr.typeAssert (.iface 22 (.slice A n c)) 20 4 true).run Tryz.prog W = .ok (.tuple #[.bool false, .bool false]) W := fun W => run_assert_not 4 22 _ _ W (by kernel_rfl) (by decide) Tryz.zeroValue4
    have a1 : ∀ W, (Instr.typeAssert (.iface 22 (.slice A n c)) 20 2 true).run Tryz.prog W = .ok (.tuple #[.int .i64 0, .bool false]) W := fun W => run_assert_not 2 22 _ _ W (by kernel_rfl) (by decide) Tryz.zeroValue2
    have a2 : ∀ W, (Instr.typeAssert (.iface 22 (.slice A n c)) 20 9 true).run Tryz.prog W = .ok (.tuple #[.string ⟨#[]⟩, .bool false]) W := fun W => run_assert_not 9 22 _ _ W (by kernel_rfl) (by decide) Tryz.zeroValue9
    have a3 : ∀ W, (Instr.typeAssert (.iface 22 (.slice A n c)) 20 22 true).run Tryz.prog W = .ok (.tuple #[.slice A n c, .bool true]) W := fun W => run_assert_is 22 _ true W (by kernel_rfl)
    have hbu : ∀ W, (buildI 25 #[(0, .int .i64 4), (3, .slice A n c)]).run Tryz.prog W = .ok (.agg #[.int .i64 4, .int .i64 0, .string ⟨#[]⟩, .slice A n c, .slice none 0 0]) W := fun W => run_build W 25 _ _ (built_v4 4 A n c)
    go_enter Tryz.func65, Tryz.ntmps65
    go_wp2_with (first
      | (refine wpList_store_abs rfl 25 (.tmp 2) (.tmp 29) rfl w.heap.size 0 #[.int .i64 4, .int .i64 0, .string ⟨#[]⟩, .slice A n c, .slice none 0 0] rfl rfl 25 _ HZ.out (Nat.le_refl 5) infoVj (vcs_all _ _ _ _ _ _ _ _ _) ?_; intro W9 hO9 hW9)
      | fail)
    rw [over_whole #[.int .i64 0, .int .i64 0, .string ⟨#[]⟩, .slice none 0 0, .slice none 0 0] #[.int .i64 4, .int .i64 0, .string ⟨#[]⟩, .slice A n c, .slice none 0 0] rfl] at hW9
    exact bodyPost_ret (ret_v (p := 2) Tryz.results65 _ _ w.heap.size _ rfl (0, 0) rfl hW9) rfl ⟨rfl, HB.out.trans (hO9.below (Nat.le_refl _))⟩
  · have a0 : ∀ W, (Instr.typeAssert (.iface 86 (.agg #[.slice B m e, .slice A n c])) 20 4 true).run Tryz.prog W = .ok (.tuple #[.bool false, .bool false]) W := fun W => run_assert_not 4 86 _ _ W (by kernel_rfl) (by decide) Tryz.zeroValue4
    have a1 : ∀ W, (Instr.typeAssert (.iface 86 (.agg #[.slice B m e, .slice A n c])) 20 2 true).run Tryz.prog W = .ok (.tuple #[.int .i64 0, .bool false]) W := fun W => run_assert_not 2 86 _ _ W (by kernel_rfl) (by decide) Tryz.zeroValue2
    have a2 : ∀ W, (Instr.typeAssert (.iface 86 (.agg #[.slice B m e, .slice A n c])) 20 9 true).run Tryz.prog W = .ok (.tuple #[.string ⟨#[]⟩, .bool false]) W := fun W => run_assert_not 9 86 _ _ W (by kernel_rfl) (by decide) Tryz.zeroValue9
    have a3 : ∀ W, (Instr.typeAssert (.iface 86 (.agg #[.slice B m e, .slice A n c])) 20 22 true).run Tryz.prog W = .ok (.tuple #[.slice none 0 0, .bool false]) W := fun W => run_assert_not 22 86 _ _ W (by kernel_rfl) (by decide) Tryz.zeroValue22
    have a4 : ∀ W, (Instr.typeAssert (.iface 86 (.agg #[.slice B m e, .slice A n c])) 20 86 true).run Tryz.prog W = .ok (.tuple #[.agg #[.slice B m e, .slice A n c], .bool true]) W := fun W => run_assert_is 86 _ true W (by kernel_rfl)
    have hbu : ∀ W, (buildI 25 #[(0, .int .i64 5), (3, .slice A n c), (4, .slice B m e)]).run Tryz.prog W = .ok (.agg #[.int .i64 5, .int .i64 0, .string ⟨#[]⟩, .slice A n c, .slice B m e]) W := fun W => run_build W 25 _ _ (built_v5 5 A B n c m e)
    go_enter Tryz.func65, Tryz.ntmps65
    have HZ1 : Hid (((w.alloc (.cells #[.int .i64 0, .int .i64 0, .string ⟨#[]⟩, .slice none 0 0, .slice none 0 0] 25)).alloc (.cells #[.slice none 0 0, .slice none 0 0] 86)).heap[w.heap.size]? = some (.cells #[.int .i64 0, .int .i64 0, .string ⟨#[]⟩, .slice none 0 0, .slice none 0 0] 25 (0, 0))) := heap_first w _ _
    have HO1 : Hid (((w.alloc (.cells #[.int .i64 0, .int .i64 0, .string ⟨#[]⟩, .slice none 0 0, .slice none 0 0] 25)).alloc (.cells #[.slice none 0 0, .slice none 0 0] 86)).heap[w.heap.size + 1]? = some (.cells #[.slice none 0 0, .slice none 0 0] 86 (0, 0))) := heap_second w _ _
    have HB1 : Hid (Below w.heap.size w ((w.alloc (.cells #[.int .i64 0, .int .i64 0, .string ⟨#[]⟩, .slice none 0 0, .slice none 0 0] 25)).alloc (.cells #[.slice none 0 0, .slice none 0 0] 86))) := HB.out.alloc (Nat.le_of_lt hzw) _
    go_wp2_with (first
      | (refine wpList_store_abs rfl 86 (.tmp 7) (.tmp 32) rfl (w.heap.size + 1) 0 #[.slice B m e, .slice A n c] rfl rfl 86 _ HO1.out (Nat.le_refl 2) infoOb (obs_all _ _ _ _ _ _) ?_; intro W8 hO8 hW8; (rw [over_whole #[.slice none 0 0, .slice none 0 0] #[.slice B m e, .slice A n c] rfl] at hW8); (have q0 : W8.cell? ⟨w.heap.size + 1, 0, none⟩ = some (.slice B m e) := cell_of_row _ _ _ _ _ _ hW8); (have q1 : W8.cell? ⟨w.heap.size + 1, 1, none⟩ = some (.slice A n c) := cell_of_row _ _ _ _ _ _ hW8); (have HZ8 := hid ((hO8.block w.heap.size (by omega)).trans HZ1.out)); (have HB8 := hid (HB1.out.trans (hO8.below (by omega)))); clear hO8 hW8)
      | (refine wpList_store_abs rfl 25 (.tmp 2) (.tmp 37) rfl w.heap.size 0 #[.int .i64 5, .int .i64 0, .string ⟨#[]⟩, .slice A n c, .slice B m e] rfl rfl 25 _ HZ8.out (Nat.le_refl 5) infoVj (vcs_all _ _ _ _ _ _ _ _ _) ?_; intro W9 hO9 hW9)
      | fail)
    rw [over_whole #[.int .i64 0, .int .i64 0, .string ⟨#[]⟩, .slice none 0 0, .slice none 0 0] #[.int .i64 5, .int .i64 0, .string ⟨#[]⟩, .slice A n c, .slice B m e] rfl] at hW9
    exact bodyPost_ret (ret_v (p := 2) Tryz.results65 _ _ w.heap.size _ rfl (0, 0) rfl hW9) rfl ⟨rfl, HB8.out.trans (hO9.below (Nat.le_refl _))⟩
end Go.Proofs.YtlgkbdebpnbndaaGreatDoor
