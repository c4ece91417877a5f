
/- Appending in a region that draws its order; a copy of a row of kids. -/
import Derived.Test.YthjibliaofmlhaaGreatDoorXmRFnd
namespace Go.Proofs.YthjibliaofmlhaaGreatDoor
set_option linter.unusedVariables false
set_option linter.unusedSimpArgs false
open Go.RowKit Go.BigFrame

theorem step_hd {ops : Array Oper} {o : Oper} {a : Act} {w : World} {K : Act → World → Prop} {Q : Exit → Act → World → Prop} {E : Prop} (hgd : o.guard = none) (s x : Operand)
    (ho : o.op = .call { callee := .builtin .append, args := #[s, x], argTypes := #[22, 22] })
    (base : Nat) (v xv : Value) (l ys : List HdV) (hs : a.eval s = v) (hx : a.eval x = xv) (hown : OwnH w base v l)
    (hA : Src Tryz.prog 2 22 xv ys.length (hdvs ys) w) (h0 : 0 < ys.length) (hn : l.length + ys.length ≤ 1000000) (hbase : base ≤ w.heap.size)
    (h : ∀ v' w', OwnH w' base v' (l ++ ys) → Below base w w' → K (a.put o.dst v') w') :
    if Region.wanted o (yielded ops a.tmps) = true then Oper.wp Tryz.prog o a w K Q else E := by
  have hw : Region.wanted o (yielded ops a.tmps) = true := by simp [Region.wanted, hgd]
  rw [if_pos hw]
  obtain ⟨v', w', hr, h2, h3⟩ := run_hd o.type hown hA h0 hn hbase
  unfold Oper.wp
  simp [execOp, ho, resolve, invoke, builtin, hs, hx, hr, Result.andThen]
  exact h v' w' h2 h3
/-- The cells of a row of kids, as they lie. -/
theorem kids_src {P : Nat → Prop} {w : World} {d : Nat} {A : Option Addr} {l : List (Tr d)} (h : NdsAt P d w A l) (h0 : 0 < l.length) (c : Nat) : ∃ css : List (Array Value), css.length = l.length ∧ (∀ x ∈ css, x.size = 4) ∧ (∀ j, j < l.length → NdAt P d w (css.getD j #[]) (l.getD j (zeroT d))) ∧ Src Tryz.prog 4 23 (.slice A l.length c) l.length (ndvs css) w := by
  obtain ⟨q, o, rfl, hp, hq, hc⟩ := h h0
  obtain ⟨css, hl, hcs⟩ := choose_at (#[] : Array Value) l.length (fun j x => ∃ a b c e, x = #[a, b, c, e] ∧ w.cell? ⟨q, o + j * 4, none⟩ = some a ∧ w.cell? ⟨q, o + j * 4 + 1, none⟩ = some b ∧ w.cell? ⟨q, o + j * 4 + 2, none⟩ = some c ∧ w.cell? ⟨q, o + j * 4 + 3, none⟩ = some e ∧ NdAt P d w x (l.getD j (zeroT d))) (fun j hj => by
    obtain ⟨a, b, c, e, k1, k2, k3, k4, k5⟩ := hc j hj
    exact ⟨#[a, b, c, e], a, b, c, e, rfl, k1, k2, k3, k4, k5⟩)
  have hz : ∀ x ∈ css, x.size = 4 := fun x hx => by
    obtain ⟨i, hi, rfl⟩ := mem_getD #[] hx
    obtain ⟨a, b, c, e, he, _⟩ := hcs i (by omega)
    rw [he]
    rfl
  have hnl := ndvs_len css hz
  refine ⟨css, hl, hz, fun j hj => ?_, ?_⟩
  · obtain ⟨_, _, _, _, _, _, _, _, _, hn⟩ := hcs j hj
    exact hn
  · refine Src.ofSlice w ndK.sl ⟨q, o, none⟩ l.length c (ndvs css) (by rw [hnl, hl]) (fun i u hu => ?_) (fun u hu => ?_)
    · have hi : i < css.length * 4 := by
        rw [← hnl]
        rcases Nat.lt_or_ge i (ndvs css).length with h | h
        · exact h
        · rw [List.getElem?_eq_none h] at hu; cases hu
      have hj : i / 4 < css.length := by omega
      have hat := ndvs_at css (i / 4) (i % 4) hz hj (by omega)
      rw [show i / 4 * 4 + i % 4 = i from by omega, hu] at hat
      obtain ⟨a, b, c, e, he, k1, k2, k3, k4, _⟩ := hcs (i / 4) (by omega)
      rw [he] at hat
      rw [Addr.add_mid]
      have h4 : i % 4 = 0 ∨ i % 4 = 1 ∨ i % 4 = 2 ∨ i % 4 = 3 := by omega
      rcases h4 with h4 | h4 | h4 | h4 <;> rw [h4] at hat <;> have hu2 := Option.some.inj hat <;> subst hu2
      · rw [show o + i = o + i / 4 * 4 from by omega]; exact k1
      · rw [show o + i = o + i / 4 * 4 + 1 from by omega]; exact k2
      · rw [show o + i = o + i / 4 * 4 + 2 from by omega]; exact k3
      · rw [show o + i = o + i / 4 * 4 + 3 from by omega]; exact k4
    · obtain ⟨x, hx, hux⟩ := List.mem_flatMap.1 hu
      obtain ⟨i, hi, rfl⟩ := mem_getD #[] hx
      obtain ⟨_, _, _, _, he, _, _, _, _, hn⟩ := hcs i (by omega)
      exact nd_one hn u hux
end Go.Proofs.YthjibliaofmlhaaGreatDoor
