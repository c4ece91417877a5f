
/- What catches what is thrown. -/
import Derived.Test.YtlgkbdebpnbndaaGreatDoorJsFile
import Derived.Laws.Pointers
namespace Go.Proofs.YtlgkbdebpnbndaaGreatDoor
set_option linter.unusedVariables false
set_option linter.unusedSimpArgs false
open Go.RowKit Go.BigFrame

theorem assertE (k : Int) (W : World) : (Instr.typeAssert (.iface 28 (.int .i64 k)) 20 28 false).run Tryz.prog W = .ok (.int .i64 k) W := run_assert_is 28 _ false W (by kernel_rfl)
theorem infoEr : (Tryz.prog.info? 28).map (·.size) = some 1 := by kernel_rfl
theorem catch_thrown (p : Nat) (k : Nat) (w : World) (hrow : w.heap[p]? = some (.cells #[.int .i64 0] 28 (0, 0))) :
    CallsD Tryz.prog 50 #[.pointer (some ⟨p, 0, none⟩)] (.panicking ({ v := .iface 28 (.int .i64 (k : Nat)), recovered := false } :: [])) w fun e u' w' =>
      e = .returned (.tuple #[]) ∧ u' = .panicking ({ v := .iface 28 (.int .i64 (k : Nat)), recovered := true } :: []) ∧ w' = w.setCell ⟨p, 0, none⟩ (.int .i64 k) := by
  have hc : w.cell? ⟨p, 0, none⟩ = some (.int .i64 0) := cell_of_row _ _ _ _ _ _ hrow
  have hz : w.frozen? ⟨p, 0, none⟩ = false := frozen_of_row w p 0 _ _ hrow
  have hA := assertE (k : Int) w
  refine callsD_of_wpS Tryz.func50 rfl fun c₀ cs hu => ?_
  apply wpS_seq
  apply wpS_region
  simp [wpOpsS, go_sem, recoverD, hu, Tryz.ntmps50, Exit.thenS]
  apply wpS_seq
  apply wpS_region
  simp [wpOpsS, go_sem, Exit.thenS]
  refine wpS_cond (t := true) (by simp [Act.eval, Array.replicate]) ?_
  simp only [if_true]
  apply wpS_region
  simp [wpOpsS, go_sem, hc, hz, hA, bodyPostS, results, Tryz.results50]
theorem catch_idle (p : Addr) (w : World) : CallsD Tryz.prog 50 #[.pointer (some p)] .returning w fun e u' w' => e = .returned (.tuple #[]) ∧ u' = .returning ∧ w' = w := by
  refine callsD_of_wpS Tryz.func50 rfl fun c₀ cs hu => ?_
  apply wpS_seq
  apply wpS_region
  simp [wpOpsS, go_sem, recoverD, hu, Tryz.ntmps50, Exit.thenS]
  apply wpS_seq
  apply wpS_region
  simp [wpOpsS, go_sem, Exit.thenS]
  refine wpS_cond (t := false) (by simp [Act.eval, Array.replicate]) ?_
  simp only [Bool.false_eq_true, if_false]
  refine wpS_of_wp (wp_skip ?_)
  cases c₀
  simp_all [bodyPostS, results, Tryz.results50]
/-- The variable that holds what was thrown. -/
theorem caught_died (G : Nat) (caps : Array Value) (k : Nat) (w : World) {R : World → Prop} (eg : ∀ args w, (callFunc G args).run Tryz.prog w = .ok (.enter G args) w)
    (hc : Calls Tryz.prog G caps (w.alloc (.cells #[.int .i64 0] 28)) fun e w' => e = dieJ k ∧ R w')
    (hE : ∀ w', R w' → w'.heap[w.heap.size]? = some (.cells #[.int .i64 0] 28 (0, 0))) :
    Calls Tryz.prog 23 #[.func (.func G) #[] caps] w fun e w' => e = .returned (.int .i64 k) ∧ ∃ w1, R w1 ∧ Only w.heap.size w1 w' := by
  have hmf : ∀ (fn : Fn) (first cap : Array Value) (w : World), (Instr.makeFunc fn first cap).run Tryz.prog w = .ok (.func fn first cap) w := fun _ _ _ _ => rfl
  have HC := hid hc
  have HE := hid hE
  clear hc hE
  go_enter_defers Tryz.func23, Tryz.ntmps23
  go_wp2_with fail
  refine HC.out.mono ?_
  rintro e W1 ⟨rfl, hr⟩
  have HR := hid hr
  have HE1 := hid (HE.out W1 hr)
  clear hr HC HE
  show bodyPostD _ _ _ _ _ _
  refine leaves_cons (f := 50) (args := #[.pointer (some ⟨w.heap.size, 0, none⟩)]) (by simp) (by simp [go_sem]) ?_
  refine (catch_thrown w.heap.size k W1 HE1.out).mono ?_
  rintro e u' w'' ⟨rfl, rfl, rfl⟩
  have hcl : (W1.setCell ⟨w.heap.size, 0, none⟩ (.int .i64 k)).cell? ⟨w.heap.size, 0, none⟩ = some (.int .i64 k) := by
    have := heap_setCell_same W1 w.heap.size 0 _ _ (.int .i64 k) HE1.out
    exact cell_of_row _ _ _ _ _ _ this
  have HO : Hid (Only w.heap.size W1 (W1.setCell ⟨w.heap.size, 0, none⟩ (.int .i64 k))) := only_setCells w.heap.size [.int .i64 k] 0 W1
  generalize W1.setCell ⟨w.heap.size, 0, none⟩ (.int .i64 k) = W2 at hcl HO ⊢
  simp [Leaves, settle, results, Tryz.results23, go_sem, hcl]
  exact ⟨W1, HR.out, HO.out⟩
theorem caught_fine (G : Nat) (caps : Array Value) (w : World) {R : World → Prop} (eg : ∀ args w, (callFunc G args).run Tryz.prog w = .ok (.enter G args) w)
    (hc : Calls Tryz.prog G caps (w.alloc (.cells #[.int .i64 0] 28)) fun e w' => e = .returned (.tuple #[]) ∧ R w')
    (hE : ∀ w', R w' → w'.heap[w.heap.size]? = some (.cells #[.int .i64 0] 28 (0, 0))) :
    Calls Tryz.prog 23 #[.func (.func G) #[] caps] w fun e w' => e = .returned (.int .i64 0) ∧ ∃ w1, R w1 ∧ Only w.heap.size w1 w' := by
  have hmf : ∀ (fn : Fn) (first cap : Array Value) (w : World), (Instr.makeFunc fn first cap).run Tryz.prog w = .ok (.func fn first cap) w := fun _ _ _ _ => rfl
  have HC := hid hc
  have HE := hid hE
  clear hc hE
  go_enter_defers Tryz.func23, Tryz.ntmps23
  go_wp2_with fail
  refine HC.out.mono ?_
  rintro e W1 ⟨rfl, hr⟩
  have HR := hid hr
  have HE1 := hid (HE.out W1 hr)
  clear hr HC HE
  go_wp2_with (first
    | (refine store_part rfl 28 _ _ rfl w.heap.size 0 (.int .i64 0) _ #[.int .i64 0] #[.int .i64 0] rfl rfl infoEr (by simp) rfl rfl HE1.out rfl ?_; intro W2 ho hr; have HO := hid ho; have hcl : W2.cell? ⟨w.heap.size, 0, none⟩ = some (.int .i64 0) := cell_of_row _ _ _ _ _ _ hr; clear ho hr)
    | fail)
  refine leaves_cons (f := 50) (args := #[.pointer (some ⟨w.heap.size, 0, none⟩)]) (by simp) (by simp [go_sem]) ?_
  refine (catch_idle ⟨w.heap.size, 0, none⟩ _).mono ?_
  rintro e u' w'' ⟨rfl, rfl, rfl⟩
  simp [Leaves, settle, results, Tryz.results23, go_sem, hcl]
  exact ⟨W1, HR.out, HO.out⟩
end Go.Proofs.YtlgkbdebpnbndaaGreatDoor
