
/- The reference's reader: a list, behind its bracket. -/
import Derived.Test.YtlgkbdebpnbndaaGreatDoorJsRd9
import Derived.Test.YtlgkbdebpnbndaaGreatDoorJsRd7
import Derived.Deep.RegionLaw
namespace Go.Proofs.YtlgkbdebpnbndaaGreatDoor
set_option linter.unusedVariables false
set_option linter.unusedSimpArgs false
open Go.RowKit Go.BigFrame
attribute [local go_sem ↓] loadV_eq

/-- append(values of one's own or none, whatever): where it lies, no more. -/
theorem run_vjAny (ty : TypeId) {P : Nat → Prop} {w : World} {d : Nat} {v x : Value} {l : List (VJ d)} {cs : Array Value} (h : OwnVj P w d v l) (hs : Src Tryz.prog 5 22 x 1 cs.toList w) (hn : l.length ≤ 1000000) :
    ∃ v' w', (Builtin.append_ #[22, 22] ty #[v, x]).run Tryz.prog w = .ok v' w' ∧ v'.oneCell' = true ∧ w.grownBy w' (blk v) := by
  rcases h with ⟨rfl, rfl⟩ | ⟨g, cap, css, rfl, h2, h3, h4, h5, h6⟩
  · obtain ⟨cap, w', k1, k2, k3⟩ := run_nilK vjK (b := 0) ty x hs (by decide) (by decide) (Nat.zero_le _)
    exact ⟨_, w', k1, rfl, ⟨k3.os, k3.tape, k3.output, k3.size, fun k hk _ => k3.block k hk⟩⟩
  · obtain ⟨g', cap', w', k1, k2, k3, k4⟩ := h4.run_app vjK ty x hs (by omega) (Nat.zero_le _)
    exact ⟨_, w', k1, rfl, k3⟩
theorem step_vjAny {ops : Array Oper} {o : Oper} {a : Act} {w : World} {K : Act → World → Prop} {Q : Exit → Act → World → Prop} {E : Prop} (hgd : o.guard = none) (s x : Operand)
    (ho : o.op = .call { callee := .builtin .append, args := #[s, x], argTypes := #[22, 22] })
    (P : Nat → Prop) (d : Nat) (v xv : Value) (l : List (VJ d)) (cs : Array Value) (hs : a.eval s = v) (hx : a.eval x = xv) (hown : OwnVj P w d v l)
    (hA : Src Tryz.prog 5 22 xv 1 cs.toList w) (hn : l.length ≤ 1000000)
    (h : ∀ v' w', v'.oneCell' = true → w.grownBy w' (blk v) → K (a.put o.dst v') w') :
    if Region.wanted o (yielded ops a.tmps) = true then Oper.wp Tryz.prog o a w K Q else E := by
  have hw : Region.wanted o (yielded ops a.tmps) = true := by simp [Region.wanted, hgd]
  rw [if_pos hw]
  obtain ⟨v', w', hr, h2, h3⟩ := run_vjAny o.type hown hA hn
  unfold Oper.wp
  simp [execOp, ho, resolve, invoke, builtin, hs, hx, hr, Result.andThen]
  exact h v' w' h2 h3
/-- What the reference's list does, behind a bracket. -/
def LstQ (d lev : Nat) (l : List UInt8) (n : Nat) (s : List UInt8) (R : Nat) (w : World) (x : Ending) (w' : World) : Prop :=
  (∀ ks r m, lstJ (valJ d (lev + 1)) l n = .ok (ks, r, m) → ∃ A c, x = .returned (.agg #[.int .i64 4, .int .i64 0, .string ⟨#[]⟩, .slice A ks.length c, .slice none 0 0]) ∧ ks.length ≤ c ∧ VsAt (fun q => w.heap.size ≤ q) d w' A ks ∧ Rl w' R s r m) ∧ (∀ k, lstJ (valJ d (lev + 1)) l n = .error k → ∃ cs m, x = .returned (.agg cs) ∧ cs.size = 5 ∧ (cs.all (·.oneCell') = true) ∧ k ≠ 0 ∧ Re w' R s m k) ∧ w.grownBy w' (some R)
set_option maxHeartbeats 4000000 in
set_option maxRecDepth 100000 in
/-- Too deep: whatever the value that came, and whatever the bracket. -/
theorem listQ_deep (cs : Array Value) (l : List UInt8) (n : Nat) (s : List UInt8) (R : Nat) (e : UInt8) (dp : Nat) (hd : 16 < dp) (hd2 : dp ≤ 1000) (w : World) (a b c f g : Value) (hcs : cs = #[a, b, c, f, g]) (ho : cs.all (·.oneCell') = true) (h : Rl w R s l n) :
    Calls Tryz.prog 69 #[.pointer (some ⟨R, 0, none⟩), .agg cs, .int .u8 (e.toNat : Int), .int .i64 (dp : Int)] w fun x w' => x = .returned (.agg cs) ∧ Re w' R s n 9 ∧ w.grownBy w' (some R) := by
  have hRl := h.lt
  have HW : Hid (∀ W, Below w.heap.size w W → Calls Tryz.prog 42 #[.pointer (some ⟨R, 0, none⟩), .int .i64 9] W fun x w' => x = .returned (.tuple #[]) ∧ Re w' R s n 9 ∧ W.grownBy w' (some R)) := fun W hb => (h.below hb).wrong 9
  have hi : (16 : Int) < (dp : Int) := by omega
  have HO := hid ho
  subst hcs
  have HB := hid ((((Below.refl w.heap.size w).alloc (Nat.le_refl _) (.cells #[a, b, c, f, g] 25)).alloc (by show _ ≤ (Array.push _ _).size; rw [Array.size_push]; omega) (.cells #[.int .i64 0, .int .i64 0, .string ⟨#[]⟩, .slice none 0 0, .slice none 0 0] 25)))
  have HX := hid (heap_first w (.cells #[a, b, c, f, g] 25 (0, 0)) (.cells #[.int .i64 0, .int .i64 0, .string ⟨#[]⟩, .slice none 0 0, .slice none 0 0] 25 (0, 0)))
  have HQ := hid (heap_second w (.cells #[a, b, c, f, g] 25 (0, 0)) (.cells #[.int .i64 0, .int .i64 0, .string ⟨#[]⟩, .slice none 0 0, .slice none 0 0] 25 (0, 0)))
  clear h ho
  go_enter Tryz.func69, Tryz.ntmps69
  go_wp2_with fail
  refine (HW.out _ HB.out).mono ?_
  rintro x W2 ⟨rfl, hr, hg⟩
  have HR2 := hid hr
  have hx2 := to_row hg HX.out (by omega)
  have hq2 := to_row hg HQ.out (by omega)
  have HQ2 := hid hq2
  have HG2 := hid ((to_below (R := R) HB.out).trans hg)
  have hld := loadV_run hx2 rfl
  clear hr hg hx2 hq2 HX HQ HB HW
  go_wp2_with (first
    | (refine wpList_store_abs rfl 25 (.tmp 8) (.tmp 15) rfl (w.heap.size + 1) 0 #[a, b, c, f, g] rfl rfl 25 _ HQ2.out (Nat.le_refl 5) infoVj HO.out ?_; intro W9 hO9 hW9)
    | fail)
  rw [over_whole #[.int .i64 0, .int .i64 0, .string ⟨#[]⟩, .slice none 0 0, .slice none 0 0] #[a, b, c, f, g] rfl] at hW9
  refine bodyPost_ret (ret_v (p := 8) Tryz.results69 _ _ (w.heap.size + 1) _ rfl (0, 0) rfl hW9) rfl ⟨rfl, HR2.out.to (to_only hO9) (by omega), ?_⟩
  exact grow_own HG2.out (to_only hO9) (fun q e => by injection e with e; omega)
end Go.Proofs.YtlgkbdebpnbndaaGreatDoor
