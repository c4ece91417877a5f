/- What the reference's Squeeze and Texts do, call by call. -/
import Derived.Test.YtdpaimpdlopafaaDoorRefWords
import Derived.Deep.QuietTactic
import Derived.BigQuiet
namespace Go.Proofs.YtdpaimpdlopafaaDoor
open Go.RowKit

theorem join_snoc (xs : List (List UInt8)) (y : List UInt8) (h : xs ≠ []) : Lib.join (xs ++ [y]) [32] = Lib.join xs [32] ++ 32 :: y := by
  cases xs with
  | nil => exact absurd rfl h
  | cons x r =>
    rw [List.cons_append, Lib.join_cons, Lib.join_cons]
    simp [Lib.joinTail]
theorem join_take (ws : List (List UInt8)) (k : Nat) (h : k < ws.length) (hk : 0 < k) : Lib.join (ws.take (k + 1)) [32] = Lib.join (ws.take k) [32] ++ 32 :: ws[k] := by
  rw [List.take_succ_eq_append_getElem h, join_snoc]
  intro e
  have := congrArg List.length e
  rw [List.length_take, Nat.min_eq_left (by omega)] at this
  simp at this
  omega

theorem app_data (a b : ByteArray) : (a ++ b).data.toList = a.data.toList ++ b.data.toList := by rw [ByteArray.data_append, Array.toList_append]
theorem app_size (a b : ByteArray) : (a ++ b).size = a.size + b.size := by rw [Lib.size_eq, app_data, List.length_append, ← Lib.size_eq, ← Lib.size_eq]
theorem ext_data {a : ByteArray} {l : List UInt8} (h : a.data.toList = l) : a = ⟨l.toArray⟩ := by rw [← h]

set_option maxHeartbeats 1000000 in
set_option maxRecDepth 1000000 in
theorem refSqueeze_any (s : ByteArray) (w : World) (hs : s.size ≤ 1000000) :
    Calls Tryd.prog 13 #[.string s] w fun e w' => e = .returned (.string ⟨(sqz s).toArray⟩) ∧ Below w.heap.size w w' := by
  have hl : (wds s).length ≤ 1000001 := by
    have := wordsFrom_len s s.size 0 0
    have e := congrArg List.length (wordsOf_eq s)
    rw [List.length_map] at e
    unfold wordsOf at e
    omega
  have HS : Hid (sqz s = Lib.join (wds s) [32]) := sqz_eq s
  have HM : Hid (∀ x ∈ wds s, (asS x).size ≤ 1000000) := fun x hx => by
    have : asS x ∈ wordsOf s := by rw [wordsOf_eq]; exact List.mem_map_of_mem hx
    have := wordsFrom_mem s _ _ _ _ this
    omega
  go_enter Tryd.func13, Tryd.ntmps13
  go_wp2_with (go_at_call 9; refine (refWords_any s _ hs).mono ?_; rintro e w1 ⟨v, rfl, ho, hb⟩)
  generalize wds s = ws at hl HS HM ho
  rcases ho.2 with ⟨hv, h0⟩ | ⟨g, cap, cur, hv, _⟩
  · have HZ : Hid (ws = []) := List.length_eq_zero_iff.1 h0
    rw [hv]
    clear ho hv h0
    refine wp_loop_rounds 1 ?_
    rw [rounds_succ]
    go_wp2
    go_ret
    exact ⟨by rw [HS.out, HZ.out]; rfl, hb⟩
  · rw [hv]
    rw [hv] at ho
    have HC : Hid (∀ (j : Nat) (hj : j < ws.length), w1.cell? ⟨g, j, none⟩ = some (.string (asS ws[j]))) := fun j hj => by
      rw [ho.cellAt j (by omega)]
      unfold strs
      rw [List.getElem?_map, List.getElem?_eq_getElem hj]; rfl
    clear ho hv
    go_loop [4, 5] (fun t i => ∃ (k : Nat) (o : ByteArray), k ≤ ws.length ∧ i = .int .i64 k ∧ t = .string o ∧ o.size ≤ k * 1000001 ∧ Hid (o.data.toList = Lib.join (ws.take k) [32])) (fun _ i => ws.length - (intOf i).toNat)
    case atStart => exact ⟨0, ⟨#[]⟩, Nat.zero_le _, rfl, rfl, Nat.zero_le _, rfl⟩
    case round =>
      obtain ⟨k, o, hk, rfl, rfl, hos, hd⟩ := hrel
      have hos2 : o.size ≤ 1000001 * 1000001 := Nat.le_trans hos (Nat.mul_le_mul_right _ (by omega))
      by_cases hlt : k < ws.length
      · have hcell := HC.out k hlt
        have hxs : (asS ws[k]).size ≤ 1000000 := HM.out _ (List.getElem_mem hlt)
        by_cases h0 : (0 : Int) < (k : Int)
        · have HJ := Lib.hid (join_take ws k hlt (by omega))
          generalize ws[k] = x at hcell HJ hxs
          go_wp2
          go_round
          case rel =>
            refine ⟨k + 1, _, by omega, by go_num, rfl, by rw [app_size, app_size]; show o.size + 1 + _ ≤ _; omega, ?_⟩
            show _ = _
            rw [HJ.out, app_data, app_data, hd.out]
            simp [asS]
          case measure => simp [intOf]; omega
        · have HJ : Hid (Lib.join (ws.take (k + 1)) [32] = ws[k] ∧ o.data.toList = []) := by
            have e : k = 0 := by omega
            subst e
            refine ⟨?_, ?_⟩
            · rw [List.take_succ_eq_append_getElem hlt, List.take_zero, List.nil_append, Lib.join_one]
            · rw [hd.out]; rfl
          generalize ws[k] = x at hcell HJ hxs
          go_wp2
          go_round
          case rel =>
            refine ⟨k + 1, _, by omega, by go_num, rfl, by rw [app_size]; omega, ?_⟩
            show _ = _
            rw [HJ.out.1, app_data, HJ.out.2]
            simp [asS]
          case measure => simp [intOf]; omega
      · go_wp2
        go_ret
        refine ⟨?_, hb⟩
        have e := hd.out
        rw [List.take_of_length_le (by omega), ← HS.out] at e
        exact ret_str (ext_data e)

set_option maxHeartbeats 1000000 in
set_option maxRecDepth 1000000 in
theorem texts_none (a1 a2 : Option Addr) (c1 c2 : Nat) (w : World) : Calls Tryd.prog 7 #[.slice a1 0 c1, .slice a2 0 c2] w fun e w' => e = .returned (.bool true) ∧ Below w.heap.size w w' := by
  go_enter Tryd.func7, Tryd.ntmps7
  go_wp2
  refine wp_loop_rounds 1 ?_
  rw [rounds_succ]
  go_wp2
  go_ret
  exact ⟨rfl, Below.refl _ _⟩

theorem below_draws {w : World} (q : Nat) : Below w.heap.size w (w.drewN q) := ⟨rfl, rfl, rfl, Nat.le_refl _, fun _ _ => rfl⟩

set_option maxHeartbeats 1000000 in
set_option maxRecDepth 1000000 in
theorem texts_some (g1 g2 c1 c2 : Nat) (xs : List ByteArray) (w : World) (hn : xs.length ≤ 1000001) (h1 : ∀ (j : Nat) (hj : j < xs.length), w.cell? ⟨g1, j, none⟩ = some (.string xs[j])) (h2 : ∀ (j : Nat) (hj : j < xs.length), w.cell? ⟨g2, j, none⟩ = some (.string xs[j])) :
    Calls Tryd.prog 7 #[.slice (some ⟨g1, 0, none⟩) xs.length c1, .slice (some ⟨g2, 0, none⟩) xs.length c2] w fun e w' => e = .returned (.bool true) ∧ Below w.heap.size w w' := by
  have H1 := Lib.hid h1; have H2 := Lib.hid h2
  clear h1 h2
  have hnn : (((xs.length : Nat) : Int) == (xs.length : Int)) = true := by simp
  go_enter Tryd.func7, Tryd.ntmps7
  go_wp2
  go_loopw [5] (fun i wr => ∃ (k q : Nat), k ≤ xs.length ∧ i = .int .i64 k ∧ wr = w.drewN q) (fun i _ => xs.length - (intOf i).toNat)
  case atStart => exact ⟨0, 0, Nat.zero_le _, rfl, rfl⟩
  case round =>
    obtain ⟨k, q, hk, rfl, rfl⟩ := hrel
    by_cases hlt : k < xs.length
    · have e1 := H1.out k hlt
      have e2 := H2.out k hlt
      generalize xs[k] = x at e1 e2
      have hsame : (x.toList == x.toList) = true := by simp
      go_wp2
      go_quiet (fail)
      go_wp2
      go_roundw
      case rel => exact ⟨k + 1, q + nq, by omega, by go_num, rfl⟩
      case measure => simp [intOf]; omega
    · go_wp2
      go_ret
      exact ⟨rfl, below_draws q⟩

end Go.Proofs.YtdpaimpdlopafaaDoor
