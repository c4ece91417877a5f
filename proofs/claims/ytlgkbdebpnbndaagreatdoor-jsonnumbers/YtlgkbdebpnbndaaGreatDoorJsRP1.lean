
/- The reference's reader: its row, white, digits, a whole number, a number. -/
import Derived.Test.YtlgkbdebpnbndaaGreatDoorJsMath
import Derived.Test.YtlgkbdebpnbndaaGreatDoorTxBase
import Derived.Test.YtlgkbdebpnbndaaGreatDoorXmMem
import Derived.Test.YtlgkbdebpnbndaaGreatDoorJsRnB
import Derived.BigQuiet
import Derived.Lib.QuietBelow
import Derived.Test.YtlgkbdebpnbndaaGreatDoorJsNum
import Derived.Test.YtlgkbdebpnbndaaGreatDoorJsNumW
namespace Go.Proofs.YtlgkbdebpnbndaaGreatDoor
set_option linter.unusedVariables false
set_option linter.unusedSimpArgs false
open Go.RowKit Go.BigFrame

/-- The reference's reader: the text, where one is, how many values there were, and what was wrong. -/
def Rq (w : World) (R : Nat) (s : List UInt8) (p m e : Nat) : Prop := w.heap[R]? = some (.cells #[.string (asS s), .int .i64 p, .int .i64 m, .int .i64 e] 68 (0, 0))
theorem Rq.cells {w : World} {R : Nat} {s : List UInt8} {p m e : Nat} (h : Rq w R s p m e) : w.cell? ⟨R, 0, none⟩ = some (.string (asS s)) ∧ w.cell? ⟨R, 1, none⟩ = some (.int .i64 p) ∧ w.cell? ⟨R, 2, none⟩ = some (.int .i64 m) ∧ w.cell? ⟨R, 3, none⟩ = some (.int .i64 e) := ⟨cell_of_row _ _ _ _ _ _ h, cell_of_row _ _ _ _ _ _ h, cell_of_row _ _ _ _ _ _ h, cell_of_row _ _ _ _ _ _ h⟩
theorem Rq.below {w w' : World} {R : Nat} {s : List UInt8} {p m e : Nat} (h : Rq w R s p m e) (hb : Below w.heap.size w w') : Rq w' R s p m e := row_keep hb h
theorem Rq.lt {w : World} {R : Nat} {s : List UInt8} {p m e : Nat} (h : Rq w R s p m e) : R < w.heap.size := (Array.getElem?_eq_some_iff.1 h).1
def rqAt (R : Nat) (w : World) : Nat := match w.cell? ⟨R, 1, none⟩ with
  | some (.int _ v) => v.toNat
  | _ => 0
theorem rqAt_eq {w : World} {R : Nat} {s : List UInt8} {p m e : Nat} (h : Rq w R s p m e) : rqAt R w = p := by
  unfold rqAt
  rw [h.cells.2.1]
  simp
theorem infoE28q : (Tryz.prog.info? 28).map (·.size) = some 1 := by kernel_rfl
theorem info3q : (Tryz.prog.info? 3).map (·.size) = some 1 := by kernel_rfl
theorem below_drewQ (w : World) : Below w.heap.size w w.drew := (Below.refl _ _).drew
theorem below_undrewQ {w W : World} (h : Below w.drew.heap.size w.drew W) : Below w.heap.size w W := ⟨h.os, h.tape, h.output, h.size, h.block⟩
theorem only_undrewQ {R : Nat} {w W : World} (h : Only R w.drew W) : Only R w W := by cases h; constructor <;> assumption
theorem wrongQ (s : List UInt8) (p m e e1 R : Nat) (w : World) (h : Rq w R s p m e) : Calls Tryz.prog 42 #[.pointer (some ⟨R, 0, none⟩), .int .i64 (e1 : Int)] w fun x w' => x = .returned (.tuple #[]) ∧ Rq w' R s p m (if e = 0 then e1 else e) ∧ Only R w w' := by
  have HR := hid h
  obtain ⟨_, _, _, c3⟩ := h.cells
  clear h
  unfold Rq at HR ⊢
  generalize asS s = S at HR ⊢
  by_cases he : e = 0
  · subst he
    rw [if_pos rfl]
    go_enter Tryz.func42, Tryz.ntmps42
    go_wp2_with (first
      | (refine store_part rfl 28 _ _ rfl R 3 (.int .i64 (e1 : Int)) _ _ #[.string S, .int .i64 p, .int .i64 m, .int .i64 (e1 : Int)] rfl rfl infoE28q (by simp) rfl rfl HR.out rfl ?_)
      | fail)
    intro W1 ho hr
    have HO := hid ho
    have HR1 := hid hr
    clear ho hr
    go_wp2_with fail
    exact ⟨by simp, _, results_none rfl _ _ _, rfl, HR1.out, HO.out⟩
  · rw [if_neg he]
    have he' : ((e : Int) == 0) = false := by rw [beq_eq_false_iff_ne]; omega
    clear he
    go_enter Tryz.func42, Tryz.ntmps42
    go_wp2_with fail
    exact ⟨by simp, _, results_none rfl _ _ _, rfl, HR.out, ⟨rfl, rfl, rfl, rfl, fun _ _ => rfl⟩⟩
theorem nowQ (s : List UInt8) (p m e R : Nat) (w : World) (h : Rq w R s p m e) : Calls Tryz.prog 68 #[.pointer (some ⟨R, 0, none⟩)] w fun x w' => x = .returned (.int .u8 ((s.getD p 0).toNat : Int)) ∧ Below w.heap.size w w' := by
  obtain ⟨c0, c1, _, _⟩ := h.cells
  have z1 := asS_size s
  clear h
  by_cases hlt : p < s.length
  · have hge : ¬ (s.length : Int) ≤ (p : Int) := by omega
    have hix := str_ix (asS s) p (by rw [z1]; exact hlt)
    rw [asS_data] at hix
    generalize s.getD p 0 = c at hix ⊢
    generalize asS s = S at c0 hix z1
    go_enter Tryz.func68, Tryz.ntmps68
    go_wp2_with fail
    go_region
    all_goals go_wp2_with fail
    go_region
    all_goals go_wp2_with fail
    go_ret
    exact ⟨rfl, (below_drewQ w).trans (show Below w.heap.size w.drew w.drew.drew from below_drewQ w.drew)⟩
  · have hge : (s.length : Int) ≤ (p : Int) := by omega
    have e0 : s.getD p 0 = 0 := by rw [List.getD_eq_getElem?_getD, List.getElem?_eq_none (by omega)]; rfl
    rw [e0]
    generalize asS s = S at c0 z1
    go_enter Tryz.func68, Tryz.ntmps68
    go_wp2_with fail
    go_region
    all_goals go_wp2_with fail
    go_ret
    exact ⟨rfl, below_drewQ _⟩
theorem nowD (s : List UInt8) (p m e R : Nat) (w : World) (h : Rq w R s p m e) : Calls Tryz.prog 68 #[.pointer (some ⟨R, 0, none⟩)] w fun x w' => x = .returned (.int .u8 ((s.getD p 0).toNat : Int)) ∧ ∃ n, w' = w.drewN n := by
  obtain ⟨c0, c1, _, _⟩ := h.cells
  have z1 := asS_size s
  clear h
  by_cases hlt : p < s.length
  · have hge : ¬ (s.length : Int) ≤ (p : Int) := by omega
    have hix := str_ix (asS s) p (by rw [z1]; exact hlt)
    rw [asS_data] at hix
    generalize s.getD p 0 = c at hix ⊢
    generalize asS s = S at c0 hix z1
    go_enter Tryz.func68, Tryz.ntmps68
    go_wp2_with fail
    go_region
    all_goals go_wp2_with fail
    go_region
    all_goals go_wp2_with fail
    go_ret
    exact ⟨rfl, 2, rfl⟩
  · have hge : (s.length : Int) ≤ (p : Int) := by omega
    have e0 : s.getD p 0 = 0 := by rw [List.getD_eq_getElem?_getD, List.getElem?_eq_none (by omega)]; rfl
    rw [e0]
    generalize asS s = S at c0 z1
    go_enter Tryz.func68, Tryz.ntmps68
    go_wp2_with fail
    go_region
    all_goals go_wp2_with fail
    go_ret
    exact ⟨rfl, 1, rfl⟩
theorem pre_atQ (s : List UInt8) (p : Nat) (c : UInt8) : preX [c] (s.drop p) = (decide (p < s.length) && decide (s.getD p 0 = c)) := by
  by_cases h : p < s.length
  · rw [List.drop_eq_getElem_cons h, decide_eq_true h, Bool.true_and]
    have : s.getD p 0 = s[p] := by rw [List.getD_eq_getElem?_getD, List.getElem?_eq_getElem h]; rfl
    rw [this]
    show ((c == s[p]) && true) = _
    rw [Bool.and_true, Bool.eq_iff_iff, beq_iff_eq, decide_eq_true_eq]
    exact ⟨fun h => h.symm, fun h => h.symm⟩
  · rw [List.drop_of_length_le (by omega), decide_eq_false h]
    rfl
set_option maxRecDepth 100000 in
theorem pastQ (s : List UInt8) (p m e R : Nat) (c : UInt8) (hs : s.length ≤ 1000000) (w : World) (h : Rq w R s p m e) : Calls Tryz.prog 96 #[.pointer (some ⟨R, 0, none⟩), .int .u8 (c.toNat : Int)] w fun x w' => x = .returned (.bool (preX [c] (s.drop p))) ∧ Rq w' R s (if preX [c] (s.drop p) then p + 1 else p) m e ∧ w.grownBy w' (some R) := by
  rw [pre_atQ]
  obtain ⟨c0, c1, _, _⟩ := h.cells
  have z1 := asS_size s
  have HR := hid h
  clear h
  unfold Rq at HR ⊢
  by_cases hlt : p < s.length
  · have hge : ¬ (s.length : Int) ≤ (p : Int) := by omega
    have hix := str_ix (asS s) p (by rw [z1]; exact hlt)
    rw [asS_data] at hix
    rw [decide_eq_true hlt, Bool.true_and]
    have hpl : p ≤ 1000000 := by omega
    by_cases hc : s.getD p 0 = c
    · rw [decide_eq_true hc, if_pos rfl]
      rw [hc] at hix
      clear hc
      generalize asS s = S at c0 hix z1 HR ⊢
      generalize c.toNat = cn at hix ⊢
      have hne : ((cn : Int) != (cn : Int)) = false := by simp
      have e2 : ((p + 1 : Nat) : Int) = (p : Int) + 1 := by omega
      rw [e2]
      go_enter Tryz.func96, Tryz.ntmps96
      go_wp2_with fail
      go_quiet (fail)
      go_wp2_with (first
        | (refine store_part rfl 3 _ _ rfl R 1 (.int .i64 ((p : Int) + 1)) _ _ #[.string S, .int .i64 ((p : Int) + 1), .int .i64 m, .int .i64 e] rfl rfl info3q (by simp) rfl rfl HR.out rfl ?_)
        | fail)
      intro W2 ho hr
      have HO := hid ho
      have HR2 := hid hr
      clear ho hr
      go_wp2_with fail
      go_ret
      exact ⟨rfl, HR2.out, (to_below (below_drewN _ _ _)).trans (to_only HO.out)⟩
    · rw [decide_eq_false hc, if_neg (by simp)]
      have hne : (((s.getD p 0).toNat : Int) != (c.toNat : Int)) = true := by
        rw [bne_iff_ne]
        intro h
        exact hc (UInt8.toNat_inj.1 (by omega))
      generalize s.getD p 0 = d at hix hne
      generalize d.toNat = dn at hix hne
      generalize c.toNat = cn at hne ⊢
      generalize asS s = S at c0 hix z1 HR ⊢
      clear hc
      go_enter Tryz.func96, Tryz.ntmps96
      go_wp2_with fail
      go_quiet (fail)
      go_wp2_with fail
      go_ret
      exact ⟨rfl, HR.out, to_below (below_drewN _ _ _)⟩
  · have hge : (s.length : Int) ≤ (p : Int) := by omega
    rw [decide_eq_false hlt, Bool.false_and, if_neg (by simp)]
    have hd : decide ((s.length : Int) ≤ (p : Int)) = true := decide_eq_true hge
    generalize asS s = S at c0 z1 HR ⊢
    go_enter Tryz.func96, Tryz.ntmps96
    go_wp2_with fail
    go_quiet (fail)
    go_wp2_with fail
    go_ret
    exact ⟨rfl, HR.out, to_below (below_drewN _ _ _)⟩
end Go.Proofs.YtlgkbdebpnbndaaGreatDoor
namespace Go.Proofs.YtlgkbdebpnbndaaGreatDoor
set_option linter.unusedVariables false
set_option linter.unusedSimpArgs false
open Go.RowKit Go.BigFrame

theorem refWhiteQ (c : UInt8) (w : World) : Calls Tryz.prog 73 #[.int .u8 c.toNat] w fun e w' => e = .returned (.bool (whX c)) ∧ w' = w := by
  have HV : Hid (whX c = (c.toNat == 32 || c.toNat == 9 || c.toNat == 10 || c.toNat == 13)) := rfl
  have hlt := c.toNat_lt
  generalize whX c = V at HV ⊢
  generalize c.toNat = n at HV hlt ⊢
  by_cases k0 : n = 32
  · have HR : Hid (V = true) := by
      show _ = _
      rw [HV.out]
      simp only [Bool.or_eq_true, Bool.and_eq_true, decide_eq_true_eq, Bool.or_eq_false_iff, Bool.and_eq_false_iff, decide_eq_false_iff_not, beq_iff_eq, beq_eq_false_iff_ne]
      omega
    have f0 : ((n : Int) == 32) = true := by rw [beq_iff_eq]; omega
    clear k0 hlt HV
    go_enter Tryz.func73, Tryz.ntmps73
    go_wp2_with fail
    go_ret
    exact ⟨by rw [HR.out]; rfl, rfl⟩
  by_cases k1 : n = 9
  · have HR : Hid (V = true) := by
      show _ = _
      rw [HV.out]
      simp only [Bool.or_eq_true, Bool.and_eq_true, decide_eq_true_eq, Bool.or_eq_false_iff, Bool.and_eq_false_iff, decide_eq_false_iff_not, beq_iff_eq, beq_eq_false_iff_ne]
      omega
    have f0 : ((n : Int) == 32) = false := by rw [beq_eq_false_iff_ne]; omega
    have f1 : ((n : Int) == 9) = true := by rw [beq_iff_eq]; omega
    clear k0 k1 hlt HV
    go_enter Tryz.func73, Tryz.ntmps73
    go_wp2_with fail
    go_ret
    exact ⟨by rw [HR.out]; rfl, rfl⟩
  by_cases k2 : n = 10
  · have HR : Hid (V = true) := by
      show _ = _
      rw [HV.out]
      simp only [Bool.or_eq_true, Bool.and_eq_true, decide_eq_true_eq, Bool.or_eq_false_iff, Bool.and_eq_false_iff, decide_eq_false_iff_not, beq_iff_eq, beq_eq_false_iff_ne]
      omega
    have f0 : ((n : Int) == 32) = false := by rw [beq_eq_false_iff_ne]; omega
    have f1 : ((n : Int) == 9) = false := by rw [beq_eq_false_iff_ne]; omega
    have f2 : ((n : Int) == 10) = true := by rw [beq_iff_eq]; omega
    clear k0 k1 k2 hlt HV
    go_enter Tryz.func73, Tryz.ntmps73
    go_wp2_with fail
    go_ret
    exact ⟨by rw [HR.out]; rfl, rfl⟩
  by_cases k3 : n = 13
  · have HR : Hid (V = true) := by
      show _ = _
      rw [HV.out]
      simp only [Bool.or_eq_true, Bool.and_eq_true, decide_eq_true_eq, Bool.or_eq_false_iff, Bool.and_eq_false_iff, decide_eq_false_iff_not, beq_iff_eq, beq_eq_false_iff_ne]
      omega
    have f0 : ((n : Int) == 32) = false := by rw [beq_eq_false_iff_ne]; omega
    have f1 : ((n : Int) == 9) = false := by rw [beq_eq_false_iff_ne]; omega
    have f2 : ((n : Int) == 10) = false := by rw [beq_eq_false_iff_ne]; omega
    have f3 : ((n : Int) == 13) = true := by rw [beq_iff_eq]; omega
    clear k0 k1 k2 k3 hlt HV
    go_enter Tryz.func73, Tryz.ntmps73
    go_wp2_with fail
    go_ret
    exact ⟨by rw [HR.out]; rfl, rfl⟩
  have HR : Hid (V = false) := by
    show _ = _
    rw [HV.out]
    simp only [Bool.or_eq_true, Bool.and_eq_true, decide_eq_true_eq, Bool.or_eq_false_iff, Bool.and_eq_false_iff, decide_eq_false_iff_not, beq_iff_eq, beq_eq_false_iff_ne]
    omega
  have f0 : ((n : Int) == 32) = false := by rw [beq_eq_false_iff_ne]; omega
  have f1 : ((n : Int) == 9) = false := by rw [beq_eq_false_iff_ne]; omega
  have f2 : ((n : Int) == 10) = false := by rw [beq_eq_false_iff_ne]; omega
  have f3 : ((n : Int) == 13) = false := by rw [beq_eq_false_iff_ne]; omega
  clear k0 k1 k2 k3 hlt HV
  go_enter Tryz.func73, Tryz.ntmps73
  go_wp2_with fail
  go_ret
  exact ⟨by rw [HR.out]; rfl, rfl⟩
theorem tw_stepQ (P : UInt8 → Bool) : ∀ (l : List UInt8) (k : Nat), k ≤ (l.takeWhile P).length → (k < (l.takeWhile P).length ↔ k < l.length ∧ P (l.getD k 0) = true)
  | [], k, h => by simp
  | c :: r, k, h => by
    by_cases hc : P c = true
    · rw [List.takeWhile_cons_of_pos hc] at h ⊢
      cases k with
      | zero => simp [hc]
      | succ k =>
        simp only [List.length_cons] at h ⊢
        have := tw_stepQ P r k (by omega)
        have e : (c :: r).getD (k + 1) 0 = r.getD k 0 := rfl
        rw [e]
        exact ⟨fun h => ⟨by have := (this.1 (by omega)).1; omega, (this.1 (by omega)).2⟩, fun h => by have := this.2 ⟨by omega, h.2⟩; omega⟩
    · rw [List.takeWhile_cons_of_neg hc] at h ⊢
      obtain rfl : k = 0 := by simpa using h
      simp [hc]
theorem tw_atQ (P : UInt8 → Bool) (s : List UInt8) (p k : Nat) (hk : k ≤ ((s.drop p).takeWhile P).length) : k < ((s.drop p).takeWhile P).length ↔ p + k < s.length ∧ P (s.getD (p + k) 0) = true := by
  rw [tw_stepQ P (s.drop p) k hk, List.length_drop]
  have e : (s.drop p).getD k 0 = s.getD (p + k) 0 := by
    rw [List.getD_eq_getElem?_getD, List.getD_eq_getElem?_getD, List.getElem?_drop]
  rw [e]
  constructor
  · rintro ⟨h1, h2⟩
    exact ⟨by omega, h2⟩
  · rintro ⟨h1, h2⟩
    exact ⟨by omega, h2⟩
theorem tw_leQ (P : UInt8 → Bool) (s : List UInt8) (p : Nat) : ((s.drop p).takeWhile P).length ≤ s.length - p := by
  have h : ((s.drop p).takeWhile P).length ≤ (s.drop p).length := (List.takeWhile_sublist P).length_le
  rw [List.length_drop] at h
  exact h
set_option maxHeartbeats 2000000 in
set_option maxRecDepth 100000 in
theorem whiteQ (s : List UInt8) (p m e R : Nat) (hs : s.length ≤ 1000000) (hp : p ≤ 2000000) (w : World) (h : Rq w R s p m e) : Calls Tryz.prog 41 #[.pointer (some ⟨R, 0, none⟩)] w fun x w' => w.grownBy w' (some R) ∧ x = .returned (.tuple #[]) ∧ Rq w' R s (p + ((s.drop p).takeWhile whX).length) m e := by
  have HIX := hid (fun k h W => str_ix (asS s) k h W)
  rw [asS_data] at HIX
  have HT := hid refWhiteQ
  have HTW := hid (tw_atQ whX s p)
  have hpn := tw_leQ whX s p
  have HR := hid h
  have HZ1 := hid (asS_size s)
  clear h
  obtain ⟨n, hn⟩ : ∃ n, ((s.drop p).takeWhile whX).length = n := ⟨_, rfl⟩
  rw [hn] at HTW hpn ⊢
  clear hn
  go_enter Tryz.func41, Tryz.ntmps41
  go_wp2_with fail
  go_loopw [] (fun wr => ∃ k, Hid (k ≤ n) ∧ Hid (Rq wr R s (p + k) m e) ∧ Hid (w.grownBy wr (some R))) (fun wr => n + p - rqAt R wr)
  case atStart => exact ⟨0, Nat.zero_le _, HR.out, to_refl R w⟩
  case round =>
    obtain ⟨k, HK, HRK, HG⟩ := hrel
    obtain ⟨q, hq⟩ : ∃ q, p + k = q := ⟨_, rfl⟩
    have HQ := hid hq
    have HTK := hid (HTW.out k HK.out)
    rw [hq] at HRK HTK
    clear hq
    have hq1 : q ≤ n + p := by have := HQ.out; have := HK.out; omega
    have hq2 : q ≤ 3000000 := by omega
    obtain ⟨d0, d1, _, _⟩ := HRK.out.cells
    obtain ⟨S, hS⟩ : ∃ S, asS s = S := ⟨_, rfl⟩
    have hsz : S.size = s.length := by rw [← hS]; exact HZ1.out
    have HRK2 := hid HRK.out
    unfold Rq at HRK2
    have HIX2 := hid (fun h W => HIX.out q h W)
    rw [hS] at d0 HRK2 HIX2
    have HSS := hid hS
    clear hS
    generalize hsn : s.length = sn at *
    by_cases hlt : q < sn
    · have hlt' : (q : Int) < (S.size : Int) := by rw [hsz]; omega
      have hix := HIX2.out (by rw [hsz]; exact hlt)
      generalize s.getD q 0 = y at hix HTK
      cases hb : whX y with
      | true =>
        have HK2 : Hid (k + 1 ≤ n) := HTK.out.2 ⟨hlt, hb⟩
        have HTY := hid (HT.out y)
        rw [hb] at HTY
        clear hb
        go_wp2_with fail
        go_quiet ((go_at_call 73; exact Calls.quiet_of_same (HTY.out _)))
        go_wp2_with (first
          | (refine store_part rfl 3 _ _ rfl R 1 (.int .i64 ((q : Int) + 1)) _ _ #[.string S, .int .i64 ((q : Int) + 1), .int .i64 m, .int .i64 e] rfl rfl info3q (by simp) rfl rfl HRK2.out rfl ?_)
          | fail)
        intro W2 ho hr
        have HO := hid ho
        have HR2 : Hid (Rq W2 R s (q + 1) m e) := by
          show Rq _ _ _ _ _ _
          unfold Rq
          rw [HSS.out, show ((q + 1 : Nat) : Int) = (q : Int) + 1 from by omega]
          exact hr
        clear ho hr
        go_wp2_with fail
        have g2 : wr.grownBy W2 (some R) := (to_below (below_drewN _ _ _)).trans (to_only HO.out)
        go_round
        case rel =>
          refine ⟨k + 1, HK2.out, ?_, HG.out.trans g2⟩
          have e2 : p + (k + 1) = q + 1 := by have := HQ.out; omega
          show Rq _ _ _ _ _ _
          rw [e2]
          exact HR2.out
        case measure =>
          have e1 : rqAt R W2 = q + 1 := rqAt_eq HR2.out
          have e2 : rqAt R wr = q := rqAt_eq HRK.out
          have := HQ.out
          have := HK2.out
          show n + p - rqAt R W2 < n + p - rqAt R wr
          rw [e1, e2]
          omega
      | false =>
        have HKN : Hid (k = n) := by
          show _ = _
          have h1 := HK.out
          have h2 : ¬ k < n := fun h => by rw [(HTK.out.1 h).2] at hb; cases hb
          omega
        have HTY := hid (HT.out y)
        rw [hb] at HTY
        clear hb
        go_wp2_with fail
        go_quiet ((go_at_call 73; exact Calls.quiet_of_same (HTY.out _)))
        go_wp2_with fail
        exact ⟨by simp, _, results_none rfl _ _ _, HG.out.trans (to_below (below_drewN _ _ _)), rfl, by rw [← HKN.out, HQ.out]; exact HRK.out⟩
    · have hlt' : decide ((q : Int) < (S.size : Int)) = false := by rw [hsz]; exact decide_eq_false (by omega)
      have hlt2 : decide ((q : Int) < (sn : Int)) = false := decide_eq_false (by omega)
      have HKN : Hid (k = n) := by
        show _ = _
        have h1 := HK.out
        have h2 : ¬ k < n := fun h => hlt (HTK.out.1 h).1
        omega
      go_wp2_with fail
      go_quiet (fail)
      go_wp2_with fail
      exact ⟨by simp, _, results_none rfl _ _ _, HG.out.trans (to_below (below_drewN _ _ _)), rfl, by rw [← HKN.out, HQ.out]; exact HRK.out⟩
set_option maxHeartbeats 2000000 in
set_option maxRecDepth 100000 in
theorem digitsQ (s : List UInt8) (p m e R : Nat) (hs : s.length ≤ 1000000) (hp : p ≤ 2000000) (w : World) (h : Rq w R s p m e) : Calls Tryz.prog 98 #[.pointer (some ⟨R, 0, none⟩)] w fun x w' => w.grownBy w' (some R) ∧ x = .returned (.int .i64 (((s.drop p).takeWhile digJ).length : Nat)) ∧ Rq w' R s (p + ((s.drop p).takeWhile digJ).length) m e := by
  have HIX := hid (fun k h W => str_ix (asS s) k h W)
  rw [asS_data] at HIX
  have HTW := hid (tw_atQ digJ s p)
  have HDG : Hid (∀ c : UInt8, digJ c = decide (48 ≤ c.toNat ∧ c.toNat ≤ 57)) := fun c => rfl
  have hpn := tw_leQ digJ s p
  have HR := hid h
  have HZ1 := hid (asS_size s)
  clear h
  obtain ⟨n, hn⟩ : ∃ n, ((s.drop p).takeWhile digJ).length = n := ⟨_, rfl⟩
  rw [hn] at HTW hpn ⊢
  clear hn
  go_enter Tryz.func98, Tryz.ntmps98
  go_wp2_with fail
  go_loopw [3] (fun cv wr => ∃ k : Nat, cv = .int .i64 (k : Int) ∧ k ≤ n ∧ Hid (Rq wr R s (p + k) m e) ∧ Hid (w.grownBy wr (some R))) (fun cv wr => n - (intOf cv).toNat)
  case atStart => exact ⟨0, rfl, Nat.zero_le _, HR.out, to_refl R w⟩
  case round =>
    obtain ⟨k, rfl, hk, HRK, HG⟩ := hrel
    obtain ⟨q, hq⟩ : ∃ q, p + k = q := ⟨_, rfl⟩
    have HQ := hid hq
    have HTK := hid (HTW.out k hk)
    rw [hq] at HRK HTK
    clear hq
    have hq2 : q ≤ 3000000 := by have := HQ.out; omega
    have hkk : k ≤ 3000000 := by omega
    obtain ⟨d0, d1, _, _⟩ := HRK.out.cells
    obtain ⟨S, hS⟩ : ∃ S, asS s = S := ⟨_, rfl⟩
    have hsz : S.size = s.length := by rw [← hS]; exact HZ1.out
    have HRK2 := hid HRK.out
    unfold Rq at HRK2
    have HIX2 := hid (fun h W => HIX.out q h W)
    rw [hS] at d0 HRK2 HIX2
    have HSS := hid hS
    clear hS
    generalize hsn : s.length = sn at *
    by_cases hlt : q < sn
    · have hlt' : (q : Int) < (S.size : Int) := by rw [hsz]; omega
      have hix := HIX2.out (by rw [hsz]; exact hlt)
      have hdg := HDG.out (s.getD q 0)
      generalize s.getD q 0 = y at hix HTK hdg
      generalize digJ y = dg at HTK hdg
      generalize y.toNat = yn at hix hdg
      by_cases h1 : 48 ≤ yn
      · have g1 : (48 : Int) ≤ (yn : Int) := by omega
        by_cases h2 : yn ≤ 57
        · have g2 : (yn : Int) ≤ 57 := by omega
          have HK2 : Hid (k + 1 ≤ n) := HTK.out.2 ⟨hlt, by rw [hdg]; exact decide_eq_true ⟨h1, h2⟩⟩
          clear hdg h1 h2
          go_wp2_with fail
          go_quiet (fail)
          go_wp2_with (first
            | (refine store_part rfl 3 _ _ rfl R 1 (.int .i64 ((q : Int) + 1)) _ _ #[.string S, .int .i64 ((q : Int) + 1), .int .i64 m, .int .i64 e] rfl rfl info3q (by simp) rfl rfl HRK2.out rfl ?_)
            | fail)
          intro W2 ho hr
          have HO := hid ho
          have HR2 : Hid (Rq W2 R s (q + 1) m e) := by
            show Rq _ _ _ _ _ _
            unfold Rq
            rw [HSS.out, show ((q + 1 : Nat) : Int) = (q : Int) + 1 from by omega]
            exact hr
          clear ho hr
          go_wp2_with fail
          have g2 : wr.grownBy W2 (some R) := (to_below (below_drewN _ _ _)).trans (to_only HO.out)
          go_roundw
          case rel =>
            refine ⟨k + 1, by go_num, HK2.out, ?_, HG.out.trans g2⟩
            have e2 : p + (k + 1) = q + 1 := by have := HQ.out; omega
            show Rq _ _ _ _ _ _
            rw [e2]
            exact HR2.out
          case measure =>
            have := HK2.out
            simp [intOf]
            omega
        · have g2 : ¬ (yn : Int) ≤ 57 := by omega
          have g2' : decide ((yn : Int) ≤ 57) = false := decide_eq_false g2
          have HKN : Hid (k = n) := by
            show _ = _
            have h3 : ¬ k < n := fun h => by
              have := (HTK.out.1 h).2
              rw [hdg, decide_eq_true_eq] at this
              omega
            omega
          clear hdg h1 h2
          go_wp2_with fail
          go_quiet (fail)
          go_wp2_with fail
          go_ret
          exact ⟨HG.out.trans (to_below (below_drewN _ _ _)), by rw [← HKN.out]; rfl, by rw [← HKN.out, HQ.out]; exact HRK.out⟩
      · have g1 : ¬ (48 : Int) ≤ (yn : Int) := by omega
        have g1' : decide ((48 : Int) ≤ (yn : Int)) = false := decide_eq_false g1
        have HKN : Hid (k = n) := by
          show _ = _
          have h3 : ¬ k < n := fun h => by
            have := (HTK.out.1 h).2
            rw [hdg, decide_eq_true_eq] at this
            omega
          omega
        clear hdg h1
        go_wp2_with fail
        go_quiet (fail)
        go_wp2_with fail
        go_ret
        exact ⟨HG.out.trans (to_below (below_drewN _ _ _)), by rw [← HKN.out]; rfl, by rw [← HKN.out, HQ.out]; exact HRK.out⟩
    · have hlt' : decide ((q : Int) < (S.size : Int)) = false := by rw [hsz]; exact decide_eq_false (by omega)
      have hlt2 : decide ((q : Int) < (sn : Int)) = false := decide_eq_false (by omega)
      have HKN : Hid (k = n) := by
        show _ = _
        have h2 : ¬ k < n := fun h => hlt (HTK.out.1 h).1
        omega
      go_wp2_with fail
      go_quiet (fail)
      go_wp2_with fail
      go_ret
      exact ⟨HG.out.trans (to_below (below_drewN _ _ _)), by rw [← HKN.out]; rfl, by rw [← HKN.out, HQ.out]; exact HRK.out⟩
end Go.Proofs.YtlgkbdebpnbndaaGreatDoor
namespace Go.Proofs.YtlgkbdebpnbndaaGreatDoor
set_option linter.unusedVariables false
set_option linter.unusedSimpArgs false
open Go.RowKit Go.BigFrame

/-- So much is left, and nothing was wrong. -/
def Rl (w : World) (R : Nat) (s l : List UInt8) (m : Nat) : Prop := ∃ p, s.drop p = l ∧ p ≤ s.length ∧ Rq w R s p m 0
/-- Something was wrong. -/
def Re (w : World) (R : Nat) (s : List UInt8) (m k : Nat) : Prop := ∃ p, p ≤ s.length + 10 ∧ Rq w R s p m k
theorem Rl.below {w w' : World} {R : Nat} {s l : List UInt8} {m : Nat} (h : Rl w R s l m) (hb : Below w.heap.size w w') : Rl w' R s l m := by
  obtain ⟨p, h1, h2, h3⟩ := h
  exact ⟨p, h1, h2, h3.below hb⟩
theorem Re.below {w w' : World} {R : Nat} {s : List UInt8} {m k : Nat} (h : Re w R s m k) (hb : Below w.heap.size w w') : Re w' R s m k := by
  obtain ⟨p, h2, h3⟩ := h
  exact ⟨p, h2, h3.below hb⟩
theorem Rl.lt {w : World} {R : Nat} {s l : List UInt8} {m : Nat} (h : Rl w R s l m) : R < w.heap.size := by
  obtain ⟨p, h1, h2, h3⟩ := h
  exact h3.lt
theorem Rl.len {w : World} {R : Nat} {s l : List UInt8} {m : Nat} (h : Rl w R s l m) : l.length ≤ s.length := by
  obtain ⟨p, h1, h2, h3⟩ := h
  rw [← h1, List.length_drop]
  omega
theorem Rl.wrong {w : World} {R : Nat} {s l : List UInt8} {m : Nat} (h : Rl w R s l m) (k : Nat) : Calls Tryz.prog 42 #[.pointer (some ⟨R, 0, none⟩), .int .i64 (k : Int)] w fun x w' => x = .returned (.tuple #[]) ∧ Re w' R s m k ∧ w.grownBy w' (some R) := by
  obtain ⟨p, h1, h2, h3⟩ := h
  exact (wrongQ s p m 0 k R w h3).mono fun x w' hh => ⟨hh.1, ⟨p, by omega, hh.2.1⟩, to_only hh.2.2⟩
theorem Re.wrong {w : World} {R : Nat} {s : List UInt8} {m k : Nat} (h : Re w R s m k) (hk : k ≠ 0) (k2 : Nat) : Calls Tryz.prog 42 #[.pointer (some ⟨R, 0, none⟩), .int .i64 (k2 : Int)] w fun x w' => x = .returned (.tuple #[]) ∧ Re w' R s m k ∧ w.grownBy w' (some R) := by
  obtain ⟨p, h2, h3⟩ := h
  exact (wrongQ s p m k k2 R w h3).mono fun x w' hh => ⟨hh.1, ⟨p, by omega, by have := hh.2.1; rw [if_neg hk] at this; exact this⟩, to_only hh.2.2⟩
theorem getD_drop0 (s : List UInt8) (p : Nat) : s.getD p 0 = (s.drop p).headD 0 := by
  rw [List.getD_eq_getElem?_getD, List.headD_eq_head?_getD, List.head?_drop]
theorem Rl.now {w : World} {R : Nat} {s l : List UInt8} {m : Nat} (h : Rl w R s l m) : Calls Tryz.prog 68 #[.pointer (some ⟨R, 0, none⟩)] w fun x w' => x = .returned (.int .u8 ((l.headD 0).toNat : Int)) ∧ Below w.heap.size w w' := by
  obtain ⟨p, h1, h2, h3⟩ := h
  have := nowQ s p m 0 R w h3
  rw [getD_drop0, h1] at this
  exact this
theorem Rl.nowD {w : World} {R : Nat} {s l : List UInt8} {m : Nat} (h : Rl w R s l m) : Calls Tryz.prog 68 #[.pointer (some ⟨R, 0, none⟩)] w fun x w' => x = .returned (.int .u8 ((l.headD 0).toNat : Int)) ∧ ∃ n, w' = w.drewN n := by
  obtain ⟨p, h1, h2, h3⟩ := h
  have := Go.Proofs.YtlgkbdebpnbndaaGreatDoor.nowD s p m 0 R w h3
  rw [getD_drop0, h1] at this
  exact this
theorem Rl.past {w : World} {R : Nat} {s l : List UInt8} {m : Nat} (h : Rl w R s l m) (c : UInt8) (hs : s.length ≤ 1000000) : Calls Tryz.prog 96 #[.pointer (some ⟨R, 0, none⟩), .int .u8 (c.toNat : Int)] w fun x w' => x = .returned (.bool (preX [c] l)) ∧ Rl w' R s (passJ [c] l) m ∧ w.grownBy w' (some R) := by
  obtain ⟨p, h1, h2, h3⟩ := h
  subst h1
  refine (pastQ s p m 0 R c hs w h3).mono fun x w' hh => ⟨hh.1, ?_, hh.2.2⟩
  have hr := hh.2.1
  cases hp : preX [c] (s.drop p) with
  | true =>
    rw [hp, if_pos rfl] at hr
    have hl := drop_one hp
    simp only [List.length_drop] at hl
    rw [passJ_yes hp]
    exact ⟨p + 1, by rw [← List.drop_drop]; rfl, by omega, hr⟩
  | false =>
    rw [hp] at hr
    rw [passJ_no hp]
    exact ⟨p, rfl, h2, hr⟩
theorem drop_twQ (P : UInt8 → Bool) (s : List UInt8) (p : Nat) : s.drop (p + ((s.drop p).takeWhile P).length) = (s.drop p).dropWhile P := by
  rw [← List.drop_drop]
  generalize s.drop p = l
  have h := List.takeWhile_append_dropWhile (p := P) (l := l)
  have h2 := congrArg (List.drop (l.takeWhile P).length) h
  rw [List.drop_left] at h2
  exact h2.symm
theorem Rl.white {w : World} {R : Nat} {s l : List UInt8} {m : Nat} (h : Rl w R s l m) (hs : s.length ≤ 1000000) : Calls Tryz.prog 41 #[.pointer (some ⟨R, 0, none⟩)] w fun x w' => x = .returned (.tuple #[]) ∧ Rl w' R s (l.dropWhile whX) m ∧ w.grownBy w' (some R) := by
  obtain ⟨p, h1, h2, h3⟩ := h
  subst h1
  have hle := tw_leQ whX s p
  exact (whiteQ s p m 0 R hs (by omega) w h3).mono fun x w' hh => ⟨hh.2.1, ⟨_, drop_twQ whX s p, by omega, hh.2.2⟩, hh.1⟩
theorem Re.white {w : World} {R : Nat} {s : List UInt8} {m k : Nat} (h : Re w R s m k) (hs : s.length ≤ 1000000) : Calls Tryz.prog 41 #[.pointer (some ⟨R, 0, none⟩)] w fun x w' => x = .returned (.tuple #[]) ∧ Re w' R s m k ∧ w.grownBy w' (some R) := by
  obtain ⟨p, h2, h3⟩ := h
  have hle := tw_leQ whX s p
  exact (whiteQ s p m k R hs (by omega) w h3).mono fun x w' hh => ⟨hh.2.1, ⟨_, by omega, hh.2.2⟩, hh.1⟩
theorem Rl.digits {w : World} {R : Nat} {s l : List UInt8} {m : Nat} (h : Rl w R s l m) (hs : s.length ≤ 1000000) : Calls Tryz.prog 98 #[.pointer (some ⟨R, 0, none⟩)] w fun x w' => x = .returned (.int .i64 ((l.takeWhile digJ).length : Nat)) ∧ Rl w' R s (l.dropWhile digJ) m ∧ w.grownBy w' (some R) := by
  obtain ⟨p, h1, h2, h3⟩ := h
  subst h1
  have hle := tw_leQ digJ s p
  exact (digitsQ s p m 0 R hs (by omega) w h3).mono fun x w' hh => ⟨hh.2.1, ⟨_, drop_twQ digJ s p, by omega, hh.2.2⟩, hh.1⟩

/-! ### A whole number of its digits -/
def decM (l : List UInt8) : Nat := l.foldl (fun a c => if c = 45 then a else a * 10 + (c.toNat - 48)) 0
theorem decM_digs : ∀ (l : List UInt8) (a : Nat), (∀ c ∈ l, digJ c = true) → l.foldl (fun a c => if c = 45 then a else a * 10 + (c.toNat - 48)) a = l.foldl (fun a c => a * 10 + (c.toNat - 48)) a
  | [], a, _ => rfl
  | c :: l, a, h => by
    have hc := h c (by simp)
    have hn : c ≠ 45 := fun e => by rw [e] at hc; revert hc; decide
    rw [List.foldl_cons, List.foldl_cons, if_neg hn]
    exact decM_digs l _ fun d hd => h d (by simp [hd])
theorem decM_sign (b : Bool) (ds : List UInt8) (h : ∀ c ∈ ds, digJ c = true) : decM ((if b then [45] else []) ++ ds) = decJ ds := by
  cases b with
  | true => exact decM_digs ds 0 h
  | false => exact decM_digs ds 0 h
theorem decM_step (l : List UInt8) (k : Nat) (h : k < l.length) : decM (l.take (k + 1)) = if l.getD k 0 = 45 then decM (l.take k) else decM (l.take k) * 10 + ((l.getD k 0).toNat - 48) := by
  unfold decM
  rw [take_getD l 0 k h, List.foldl_append]
  rfl
theorem decM_mono (l : List UInt8) (k : Nat) : decM (l.take k) ≤ decM l := by
  have e : l = l.take k ++ l.drop k := (List.take_append_drop k l).symm
  have key : ∀ (r : List UInt8) (a : Nat), a ≤ r.foldl (fun a c => if c = 45 then a else a * 10 + (c.toNat - 48)) a := by
    intro r
    induction r with
    | nil => intro a; exact Nat.le_refl _
    | cons c r ih =>
      intro a
      rw [List.foldl_cons]
      refine Nat.le_trans ?_ (ih _)
      split
      · exact Nat.le_refl _
      · omega
  have h2 : decM l = (l.drop k).foldl (fun a c => if c = 45 then a else a * 10 + (c.toNat - 48)) (decM (l.take k)) := by
    unfold decM
    rw [← List.foldl_append, List.take_append_drop]
  rw [h2]
  exact key _ _
/-- What whole answers. -/
def WholeP (v : Int) (e : Ending) : Prop := (fitsJ v = true → e = .returned (.tuple #[.int .i64 v, .bool true])) ∧ (fitsJ v = false → ∃ n, e = .returned (.tuple #[.int .i64 n, .bool false]))
theorem fits_iff (v : Int) : fitsJ v = true ↔ -9223372036854775808 ≤ v ∧ v ≤ 9223372036854775807 := by unfold fitsJ; rw [decide_eq_true_eq]
set_option maxHeartbeats 4000000 in
set_option maxRecDepth 100000 in
theorem wholeQ (b : Bool) (ds : List UInt8) (h0 : ds ≠ []) (hd : ∀ c ∈ ds, digJ c = true) (hl : ds.length ≤ 1000000) (w : World) : Calls Tryz.prog 99 #[.string (asS ((if b then [45] else []) ++ ds))] w fun x w' => WholeP (if b then -(decJ ds : Int) else decJ ds) x ∧ Below w.heap.size w w' := by
  have HDJ := hid (decM_sign b ds hd)
  have hfst : (((if b then [45] else []) ++ ds : List UInt8).getD 0 0 = 45) ↔ b = true := by
    cases b with
    | true => exact ⟨fun _ => rfl, fun _ => rfl⟩
    | false =>
      cases ds with
      | nil => exact absurd rfl h0
      | cons c r =>
        refine ⟨fun h => ?_, fun h => by cases h⟩
        have hc := hd c (by simp)
        have : c = 45 := h
        rw [this] at hc
        revert hc
        decide
  have hdig : ∀ k, k < ((if b then [45] else []) ++ ds : List UInt8).length → ((if b then [45] else []) ++ ds : List UInt8).getD k 0 ≠ 45 → digJ (((if b then [45] else []) ++ ds : List UInt8).getD k 0) = true := fun k hk hne => by
    have hm : ((if b then [45] else []) ++ ds : List UInt8).getD k 0 ∈ ((if b then [45] else []) ++ ds : List UInt8) := getD_mem9 hk
    rcases List.mem_append.1 hm with h | h
    · cases b with
      | true => exact absurd (by simpa using h) hne
      | false => cases h
    · exact hd _ h
  have hlen : ((if b then [45] else []) ++ ds : List UInt8).length ≤ 1000001 := by
    cases b <;> simp <;> omega
  have hlen0 : 0 < ((if b then [45] else []) ++ ds : List UInt8).length := by
    have : 0 < ds.length := List.length_pos_iff.2 h0
    rw [List.length_append]
    omega
  have HV : Hid (∀ e, ((decJ ds ≤ 9223372036854775808 ∧ (b = true ∨ decJ ds ≠ 9223372036854775808)) → e = .returned (.tuple #[.int .i64 (if b then -(decJ ds : Int) else decJ ds), .bool true])) → (¬ (decJ ds ≤ 9223372036854775808 ∧ (b = true ∨ decJ ds ≠ 9223372036854775808)) → ∃ n, e = .returned (.tuple #[.int .i64 n, .bool false])) → WholeP (if b then -(decJ ds : Int) else decJ ds) e) := fun e h1 h2 => by
    unfold WholeP
    cases b with
    | true => exact ⟨fun hf => h1 ⟨by have := (fits_iff _).1 hf; simp only [if_true] at this; omega, .inl rfl⟩, fun hf => h2 fun h => by rw [(fits_iff _).2 (by simp only [if_true]; omega)] at hf; cases hf⟩
    | false => exact ⟨fun hf => h1 ⟨by have := (fits_iff _).1 hf; simp at this; omega, .inr (by have := (fits_iff _).1 hf; simp at this; omega)⟩, fun hf => h2 fun h => by rw [(fits_iff _).2 (by have := h.2; simp at this ⊢; omega)] at hf; cases hf⟩
  have HVT : Hid (b = true → (if b then -(decJ ds : Int) else (decJ ds : Int)) = -(decJ ds : Int)) := fun h => if_pos h
  have HVF : Hid (b = false → (if b then -(decJ ds : Int) else (decJ ds : Int)) = (decJ ds : Int)) := fun h => by rw [h]; rfl
  generalize (if b = true then -(decJ ds : Int) else (decJ ds : Int)) = VV at HV HVT HVF ⊢
  generalize hF : (if b then [45] else []) ++ ds = F at *
  have HIX := hid (fun k h W => str_ix (asS F) k h W)
  rw [asS_data] at HIX
  have hix0 : ∀ W, (Instr.index 9 (.string (asS F)) (.int .i64 0)).run Tryz.prog W = .ok (.int .u8 ((F.getD 0 0).toNat : Int)) W := fun W => HIX.out 0 (by rw [asS_size]; omega) W
  have hb45 : (((F.getD 0 0).toNat : Int) == 45) = b := by
    rw [Bool.eq_iff_iff, beq_iff_eq, ← hfst]
    exact ⟨fun h => UInt8.toNat_inj.1 (by show _ = 45; omega), fun h => by rw [h]; rfl⟩
  generalize (F.getD 0 0).toNat = c00 at hix0 hb45
  have HZ := hid (asS_size F)
  have HDIG := hid hdig
  have HSTP := hid (decM_step F)
  have HMON := hid (decM_mono F)
  have HM0 : Hid (decM (F.take 0) = 0) := rfl
  have HML : Hid (decM (F.take F.length) = decM F) := by show _ = _; rw [List.take_of_length_le (Nat.le_refl _)]
  rw [HDJ.out] at HMON HML
  clear hfst hdig h0 hd hF HDJ
  obtain ⟨MX, hMX⟩ : ∃ MX : Nat → Nat, MX = fun k => decM (F.take k) := ⟨_, rfl⟩
  have HSTP2 : Hid (∀ k, k < F.length → MX (k + 1) = if F.getD k 0 = 45 then MX k else MX k * 10 + ((F.getD k 0).toNat - 48)) := by subst hMX; exact HSTP.out
  have HMON2 : Hid (∀ k, MX k ≤ decJ ds) := by subst hMX; exact HMON.out
  have HM02 : Hid (MX 0 = 0) := by subst hMX; exact HM0.out
  have HML2 : Hid (MX F.length = decJ ds) := by subst hMX; exact HML.out
  clear hMX HSTP HMON HM0 HML
  generalize decJ ds = D at *
  generalize hL : F.length = L at *
  generalize asS F = S at HIX HZ hix0 ⊢
  have hsz : S.size = L := HZ.out
  clear hL
  go_enter Tryz.func99, Tryz.ntmps99
  go_wp2_with fail
  clear hix0
  go_loopw [4, 6, 7] (fun nv i dv wr => ∃ (k N : Nat), k ≤ L ∧ i = .int .i64 (k : Int) ∧ nv = .int .i64 (-(N : Int)) ∧ N ≤ 9223372036854775808 ∧ Hid (MX k = N) ∧ Hid (Below w.heap.size w wr)) (fun nv i dv wr => L - (intOf i).toNat)
  case atStart => exact ⟨0, 0, Nat.zero_le _, rfl, rfl, by omega, HM02.out, Below.refl _ _⟩
  case round =>
    obtain ⟨k, N, hk, rfl, rfl, hN, HN, HB⟩ := hrel
    by_cases hlt : k < L
    · have hi : (k : Int) < (L : Int) := by omega
      have hix := HIX.out k (by rw [hsz]; exact hlt)
      have hst := HSTP2.out k hlt
      have hdg := HDIG.out k hlt
      generalize F.getD k 0 = c at hix hst hdg
      by_cases hc : c = 45
      · have hc' : ((c.toNat : Int) == 45) = true := by rw [hc]; rfl
        rw [if_pos hc] at hst
        have HNX := hid (hst.trans HN.out)
        clear hst hdg hc
        generalize c.toNat = cn at hix hc'
        go_wp2_with fail
        go_roundw
        case rel => exact ⟨k + 1, N, by omega, by go_num, rfl, hN, HNX.out, HB⟩
        case measure => simp [intOf]; omega
      · have hc' : ((c.toNat : Int) == 45) = false := by
          rw [beq_eq_false_iff_ne]
          exact fun e => hc (UInt8.toNat_inj.1 (by show c.toNat = 45; omega))
        rw [if_neg hc, HN.out] at hst
        have hd2 := hdg hc
        unfold digJ at hd2
        rw [decide_eq_true_eq] at hd2
        obtain ⟨hd3, hd4⟩ := hd2
        have hmo := HMON2.out (k + 1)
        rw [hst] at hmo
        have HNX := hid hst
        have HMO := hid hmo
        clear hst hdg hc hmo
        generalize c.toNat = cn at *
        obtain ⟨dd, rfl⟩ : ∃ dd, cn = dd + 48 := ⟨cn - 48, by omega⟩
        have hdd : dd ≤ 9 := by omega
        have hsub : ((dd + 48 : Nat) : Int) - 48 = (dd : Int) := by omega
        have hq : (-9223372036854775808 + (dd : Int)).tdiv 10 = -(((9223372036854775808 - dd) / 10 : Nat) : Int) := by
          have e : -9223372036854775808 + (dd : Int) = -((9223372036854775808 - dd : Nat) : Int) := by omega
          rw [e, Int.neg_tdiv, Int.tdiv_eq_ediv_of_nonneg (by omega)]
          omega
        have hQ1 : 10 * ((9223372036854775808 - dd) / 10) ≤ 9223372036854775808 - dd := by omega
        have hQ2 : 9223372036854775808 - dd < 10 * ((9223372036854775808 - dd) / 10) + 10 := by omega
        generalize (9223372036854775808 - dd) / 10 = Q at hq hQ1 hQ2
        by_cases hgt : Q < N
        · have hgt' : -(N : Int) < -(Q : Int) := by omega
          have HBAD := hid (HV.out)
          have hD : ¬ (D ≤ 9223372036854775808 ∧ (b = true ∨ D ≠ 9223372036854775808)) := by
            have := HMO.out
            intro h
            have := h.1
            omega
          have HR : Hid (WholeP VV (.returned (.tuple #[.int .i64 0, .bool false]))) := HV.out _ (fun h => absurd h hD) (fun _ => ⟨0, rfl⟩)
          clear hD HBAD
          go_wp2_with fail
          go_ret2
          exact ⟨HR.out, HB.out⟩
        · have hgt' : ¬ -(N : Int) < -(Q : Int) := by omega
          have hN2 : N * 10 + dd ≤ 9223372036854775808 := by omega
          have HNX2 : Hid (MX (k + 1) = N * 10 + dd) := by show _ = _; rw [HNX.out]; omega
          go_wp2_with fail
          go_roundw
          case rel => exact ⟨k + 1, N * 10 + dd, by omega, by go_num, by go_num, hN2, HNX2.out, HB⟩
          case measure => simp [intOf]; omega
    · have hi : ¬ (k : Int) < (L : Int) := by omega
      obtain rfl : k = L := by omega
      have HD : Hid (N = D) := HN.out.symm.trans HML2.out
      cases b with
      | true =>
        have HR : Hid (WholeP VV (.returned (.tuple #[.int .i64 (-(N : Int)), .bool true]))) := HV.out _ (fun _ => by rw [HVT.out rfl, HD.out]) (fun h => absurd ⟨by rw [← HD.out]; exact hN, .inl rfl⟩ h)
        go_wp2_with fail
        go_ret2
        exact ⟨HR.out, HB.out⟩
      | false =>
        by_cases hm : N = 9223372036854775808
        · have hD : ¬ (D ≤ 9223372036854775808 ∧ (false = true ∨ D ≠ 9223372036854775808)) := by
            have := HD.out
            intro h
            rcases h.2 with h2 | h2
            · cases h2
            · omega
          have HR : Hid (∀ n, WholeP VV (.returned (.tuple #[.int .i64 n, .bool false]))) := fun n => HV.out _ (fun h => absurd h hD) (fun _ => ⟨n, rfl⟩)
          clear hD
          have hne : (-(N : Int) != -9223372036854775808) = false := by rw [bne_eq_false_iff_eq]; omega
          go_wp2_with fail
          go_ret2
          exact ⟨HR.out _, HB.out⟩
        · have HR : Hid (WholeP VV (.returned (.tuple #[.int .i64 (N : Int), .bool true]))) := HV.out _ (fun _ => by rw [HVF.out rfl, HD.out]) (fun h => absurd ⟨by rw [← HD.out]; exact hN, .inr (by rw [← HD.out]; exact hm)⟩ h)
          have hne : (-(N : Int) != -9223372036854775808) = true := by rw [bne_iff_ne]; omega
          go_wp2_with fail
          go_ret2
          exact ⟨HR.out, HB.out⟩
end Go.Proofs.YtlgkbdebpnbndaaGreatDoor
namespace Go.Proofs.YtlgkbdebpnbndaaGreatDoor
set_option linter.unusedVariables false
set_option linter.unusedSimpArgs false
open Go.RowKit Go.BigFrame

theorem Rl.row {w : World} {R : Nat} {s l : List UInt8} {m : Nat} (h : Rl w R s l m) : Rq w R s (s.length - l.length) m 0 ∧ s.drop (s.length - l.length) = l := by
  obtain ⟨p, h1, h2, h3⟩ := h
  have e : s.length - l.length = p := by rw [← h1, List.length_drop]; omega
  rw [e]
  exact ⟨h3, h1⟩
theorem Rl.digs_no {w : World} {R : Nat} {s l : List UInt8} {m : Nat} (h : Rl w R s l m) (hs : s.length ≤ 1000000) (hd : digsJ l = none) : Calls Tryz.prog 98 #[.pointer (some ⟨R, 0, none⟩)] w fun x w' => x = .returned (.int .i64 0) ∧ Rl w' R s l m ∧ w.grownBy w' (some R) := by
  have he : (l.takeWhile digJ) = [] := by
    unfold digsJ at hd
    split at hd
    · rename_i h2
      simpa using h2
    · cases hd
  have hw : l.dropWhile digJ = l := by
    have h2 := List.takeWhile_append_dropWhile (p := digJ) (l := l)
    rw [he] at h2
    exact h2
  refine (h.digits hs).mono fun x w' hh => ?_
  rw [he, hw] at hh
  exact hh
theorem Rl.digs_yes {w : World} {R : Nat} {s l r : List UInt8} {m : Nat} (h : Rl w R s l m) (hs : s.length ≤ 1000000) (hd : digsJ l = some r) : Calls Tryz.prog 98 #[.pointer (some ⟨R, 0, none⟩)] w fun x w' => (∃ k : Nat, x = .returned (.int .i64 (k : Int)) ∧ 0 < k ∧ k ≤ 1000000) ∧ Rl w' R s r m ∧ w.grownBy w' (some R) := by
  have hll := h.len
  unfold digsJ at hd
  split at hd
  · cases hd
  · rename_i h2
    injection hd with hd
    subst hd
    refine (h.digits hs).mono fun x w' hh => ⟨⟨_, hh.1, List.length_pos_iff.2 (by simpa using h2), ?_⟩, hh.2.1, hh.2.2⟩
    have : (l.takeWhile digJ).length ≤ l.length := (List.takeWhile_sublist digJ).length_le
    omega
def LenF (f : Bool) (l3 l2 : List UInt8) : Prop := l3.length ≤ l2.length ∧ (f = true → l3.length < l2.length) ∧ (f = false → l3 = l2)
/-- What num does. -/
def NumQ (l s : List UInt8) (R m : Nat) (w : World) (x : Ending) (w' : World) : Prop :=
  (∀ v r, numJ l = .ok (v, r) → x = .returned (.int .i64 v) ∧ Rl w' R s r m) ∧ (∀ k, numJ l = .error k → (∃ v, x = .returned (.int .i64 v)) ∧ Re w' R s m k) ∧ w.grownBy w' (some R)
theorem NumQ.err {l s : List UInt8} {R m k : Nat} {w w' : World} {v : Int} (h : numJ l = .error k) (hr : Re w' R s m k) (hg : w.grownBy w' (some R)) : NumQ l s R m w (.returned (.int .i64 v)) w' := ⟨fun a b h2 => (by rw [h] at h2; cases h2), fun k2 h2 => (by rw [h] at h2; injection h2 with h2; subst h2; exact ⟨⟨_, rfl⟩, hr⟩), hg⟩
theorem NumQ.ok {l s r : List UInt8} {R m : Nat} {w w' : World} {v : Int} (h : numJ l = .ok (v, r)) (hr : Rl w' R s r m) (hg : w.grownBy w' (some R)) : NumQ l s R m w (.returned (.int .i64 v)) w' := ⟨fun a b h2 => (by rw [h] at h2; injection h2 with h2; injection h2 with h3 h4; subst h3 h4; exact ⟨rfl, hr⟩), fun k2 h2 => (by rw [h] at h2; cases h2), hg⟩
set_option maxHeartbeats 16000000 in
set_option maxRecDepth 100000 in
theorem numQ (l s : List UInt8) (R m : Nat) (hs : s.length ≤ 1000000) (w : World) (h : Rl w R s l m) : Calls Tryz.prog 72 #[.pointer (some ⟨R, 0, none⟩)] w fun x w' => NumQ l s R m w x w' := by
  have HPM := hid (h.past 45 hs)
  have hlen := h.len
  obtain ⟨_, c1, _, _⟩ := h.row.1.cells
  have hpm : passJ [45] l = minJ l := by
    unfold passJ minJ
    rfl
  rw [hpm] at HPM
  have HP0 : Hid (∀ W, Rl W R s (minJ l) m → Calls Tryz.prog 96 #[.pointer (some ⟨R, 0, none⟩), .int .u8 48] W fun x w' => x = .returned (.bool (preX [48] (minJ l))) ∧ Rl w' R s (passJ [48] (minJ l)) m ∧ W.grownBy w' (some R)) := fun W hW => hW.past 48 hs
  have HW5 : Hid (∀ l W, Rl W R s l m → Calls Tryz.prog 42 #[.pointer (some ⟨R, 0, none⟩), .int .i64 5] W fun x w' => x = .returned (.tuple #[]) ∧ Re w' R s m 5 ∧ W.grownBy w' (some R)) := fun l W hW => hW.wrong 5
  have hps : s.length - l.length ≤ 1000000 := by omega
  clear hpm
  cases hi : intJ (minJ l) with
  | none =>
    obtain ⟨q1, q2⟩ := int_none hi
    rw [q1, passJ_no q1] at HP0
    have HER := hid (num_e0 hi)
    have HDG : Hid (∀ W, Rl W R s (minJ l) m → Calls Tryz.prog 98 #[.pointer (some ⟨R, 0, none⟩)] W fun x w' => x = .returned (.int .i64 0) ∧ Rl w' R s (minJ l) m ∧ W.grownBy w' (some R)) := fun W hW => hW.digs_no hs q2
    clear hi q1 q2
    generalize s.length - l.length = p0 at c1 hps
    go_enter Tryz.func72, Tryz.ntmps72
    go_wp2_with fail
    refine HPM.out.mono ?_
    rintro e W1 ⟨rfl, hr, hg⟩
    have HG1 := hid hg
    have HP1 := hid (HP0.out W1 hr)
    clear hr hg HPM HP0 c1
    go_wp2_with fail
    refine HP1.out.mono ?_
    rintro e W2 ⟨rfl, hr, hg⟩
    have HG2 := hid (HG1.out.trans hg)
    have HD2 := hid (HDG.out W2 hr)
    clear hr hg HP1 HG1 HDG
    go_wp2_with fail
    refine HD2.out.mono ?_
    rintro e W3 ⟨rfl, hr, hg⟩
    have HG3 := hid (HG2.out.trans hg)
    have HW3 := hid (HW5.out _ W3 hr)
    clear hr hg HD2 HG2 HW5
    go_wp2_with fail
    refine HW3.out.mono ?_
    rintro e W4 ⟨rfl, hr, hg⟩
    have HRE := hid hr
    have HG4 := hid (HG3.out.trans hg)
    clear hr hg
    go_wp2_with fail
    go_ret
    exact NumQ.err HER.out HRE.out HG4.out
  | some q =>
    obtain ⟨ds, l2⟩ := q
    obtain ⟨i1, i2, i3⟩ := int_parts hi
    have p1 : l = ((if preX [45] l then [45] else []) ++ ds) ++ l2 := by
      rw [List.append_assoc, ← i1]
      exact min_parts l
    have hl12 : l.length = ((if preX [45] l then [45] else []) ++ ds).length + l2.length := by
      have := congrArg List.length p1
      rw [List.length_append] at this
      exact this
    have hdl : ds.length ≤ 1000000 := by rw [List.length_append] at hl12; omega
    have HWH := hid (fun W => wholeQ (preX [45] l) ds i2 i3 hdl W)
    have HEX : Hid ((asS s).extract (s.length - l.length) (s.length - l2.length) = asS ((if preX [45] l then [45] else []) ++ ds)) := by
      show _ = _
      rw [ext_asS, asS_data, h.row.2]
      congr 1
      have e : s.length - l2.length - (s.length - l.length) = ((if preX [45] l then [45] else []) ++ ds).length := by omega
      rw [e]
      have := congrArg (List.take ((if preX [45] l then [45] else []) ++ ds).length) p1
      rw [List.take_left] at this
      exact this
    have HE1 := hid (fun h => num_e1 (l := l) hi h)
    have HE2 := hid (fun l3 f h h' => num_e2 (l := l) (l3 := l3) (f := f) hi h h')
    have HOK := hid (fun l3 l4 f g h h' => num_ok (l := l) (l3 := l3) (l4 := l4) (f := f) (g := g) hi h h')
    have HFIRST : Hid ((preX [48] (minJ l) = true ∧ passJ [48] (minJ l) = l2) ∨ (preX [48] (minJ l) = false ∧ passJ [48] (minJ l) = minJ l ∧ ∀ W, Rl W R s (minJ l) m → Calls Tryz.prog 98 #[.pointer (some ⟨R, 0, none⟩)] W fun x w' => (∃ k : Nat, x = .returned (.int .i64 (k : Int)) ∧ 0 < k ∧ k ≤ 1000000) ∧ Rl w' R s l2 m ∧ W.grownBy w' (some R))) := by
      cases hp : preX [48] (minJ l) with
      | true =>
        have := int_zero hp
        rw [hi] at this
        injection this with this
        injection this with _ this
        exact .inl ⟨rfl, by rw [passJ_yes hp]; exact this.symm⟩
      | false => exact .inr ⟨rfl, passJ_no hp, fun W h => h.digs_yes hs (int_some hp hi)⟩
    generalize hVV : (if preX [45] l then -(decJ ds : Int) else (decJ ds : Int)) = VV at HWH HOK
    generalize hSD : asS ((if preX [45] l then [45] else []) ++ ds) = SD at HWH HEX
    generalize preX [48] (minJ l) = b0 at HP0 HFIRST
    generalize passJ [48] (minJ l) = lp at HP0 HFIRST
    have hp01 : s.length - l.length ≤ s.length - l2.length := by omega
    have hp02 : s.length - l2.length ≤ s.length := by omega
    have HPS : Hid (s.length - l.length ≤ s.length - l2.length ∧ s.length - l2.length ≤ s.length ∧ l2.length ≤ s.length) := ⟨hp01, hp02, by omega⟩
    clear p1 hl12 hdl i1 i2 i3 hVV hSD hp01 hp02 hi
    generalize hp0 : s.length - l.length = p0 at c1 hps HEX HPS
    clear hp0
    go_enter Tryz.func72, Tryz.ntmps72
    go_wp2_with fail
    refine HPM.out.mono ?_
    rintro e W1 ⟨rfl, hr, hg⟩
    have HG1 := hid hg
    have HP1 := hid (HP0.out W1 hr)
    clear hr hg HPM HP0 c1
    go_upto_region 3 with (fail)
    go_cut [20] (fun v20 wx => v20 = .bool false ∧ Hid (Rl wx R s l2 m) ∧ Hid (w.grownBy wx (some R)))
    case first =>
      clear HE1 HE2 HOK HWH HEX HPS HW5
      rcases HFIRST.out with ⟨rfl, rfl⟩ | ⟨rfl, rfl, hd⟩
      · go_wp2_with fail
        refine HP1.out.mono ?_
        rintro e W2 ⟨rfl, hr, hg⟩
        have HG2 := hid (HG1.out.trans hg)
        have HR2 := hid hr
        clear hr hg HP1
        go_wp2_with fail
        go_meet
        case rel => exact ⟨by simp, HR2, HG2⟩
      · have HD := hid hd
        clear hd HFIRST
        go_wp2_with fail
        refine HP1.out.mono ?_
        rintro e W2 ⟨rfl, hr, hg⟩
        have HG2 := hid (HG1.out.trans hg)
        have HD2 := hid (HD.out W2 hr)
        clear hr hg HP1
        go_wp2_with fail
        refine HD2.out.mono ?_
        rintro e W3 ⟨⟨kk, rfl, hk1, hk2⟩, hr, hg⟩
        have HR3 := hid hr
        have HG3 := hid (HG2.out.trans hg)
        have hk3 : ((kk : Int) == 0) = false := by rw [beq_eq_false_iff_ne]; omega
        clear hr hg
        go_wp2_with fail
        go_meet
        case rel => exact ⟨by simp, HR3, HG3⟩
    case rest =>
      clear HFIRST HP1 HG1
      obtain ⟨rfl, HRa, HGa⟩ := hcut
      rename_i wa _
      have hra := HRa.out.row.1
      obtain ⟨_, a1, _, _⟩ := hra.cells
      have HPT := hid (HRa.out.past 46 hs)
      generalize hp2 : s.length - l2.length = p2 at a1 HEX HPS
      clear hra HRa
      go_upto_region 7 with (fail)
      clear a1
      go_cut [33] (fun v33 wx => Hid (w.grownBy wx (some R)) ∧ ((∃ (f : Bool) (l3 : List UInt8), v33 = .bool false ∧ Hid (LenF f l3 l2) ∧ Hid (fracJ l2 = some (f, l3)) ∧ Hid (Rl wx R s l3 m)) ∨ (v33 = .bool true ∧ Hid (fracJ l2 = none) ∧ ∃ lx, Hid (Rl wx R s lx m))))
      case first =>
        clear HE1 HE2 HOK HWH HEX HPS HW5
        cases hp : preX [46] l2 with
        | false =>
          have hf : fracJ l2 = some (false, l2) := by unfold fracJ; rw [hp]; rfl
          rw [hp, passJ_no hp] at HPT
          have HF := hid hf
          clear hf hp
          go_wp2_with fail
          refine HPT.out.mono ?_
          rintro e W2 ⟨rfl, hr, hg⟩
          have HR2 := hid hr
          have HG2 := hid (HGa.out.trans hg)
          clear hr hg HPT
          go_wp2_with fail
          go_meet
          case rel => exact ⟨HG2, .inl ⟨false, l2, by simp, ⟨Nat.le_refl _, (fun h => by cases h), (fun _ => rfl)⟩, HF, HR2⟩⟩
        | true =>
          rw [hp, passJ_yes hp] at HPT
          cases hd : digsJ (l2.drop 1) with
          | none =>
            have hf : fracJ l2 = none := by unfold fracJ; rw [hp, if_pos rfl, hd]; rfl
            have HF := hid hf
            have HDN : Hid (∀ W, Rl W R s (l2.drop 1) m → Calls Tryz.prog 98 #[.pointer (some ⟨R, 0, none⟩)] W fun x w' => x = .returned (.int .i64 0) ∧ Rl w' R s (l2.drop 1) m ∧ W.grownBy w' (some R)) := fun W h => h.digs_no hs hd
            clear hf hp hd
            go_wp2_with fail
            refine HPT.out.mono ?_
            rintro e W2 ⟨rfl, hr, hg⟩
            have HG2 := hid (HGa.out.trans hg)
            have HD2 := hid (HDN.out W2 hr)
            clear hr hg HPT HDN
            go_wp2_with fail
            refine HD2.out.mono ?_
            rintro e W3 ⟨rfl, hr, hg⟩
            have HR3 := hid hr
            have HG3 := hid (HG2.out.trans hg)
            clear hr hg HD2
            go_wp2_with fail
            go_meet
            case rel => exact ⟨HG3, .inr ⟨by simp, HF, _, HR3⟩⟩
          | some l3 =>
            have hf : fracJ l2 = some (true, l3) := by unfold fracJ; rw [hp, if_pos rfl, hd]; rfl
            have HF := hid hf
            have hl3 := digs_len hd
            have hl4 := drop_one hp
            have HLL : Hid (LenF true l3 l2) := ⟨by omega, (fun _ => by omega), (fun h => by cases h)⟩
            have HDN : Hid (∀ W, Rl W R s (l2.drop 1) m → Calls Tryz.prog 98 #[.pointer (some ⟨R, 0, none⟩)] W fun x w' => (∃ k : Nat, x = .returned (.int .i64 (k : Int)) ∧ 0 < k ∧ k ≤ 1000000) ∧ Rl w' R s l3 m ∧ W.grownBy w' (some R)) := fun W h => h.digs_yes hs hd
            clear hf hp hd hl3 hl4
            go_wp2_with fail
            refine HPT.out.mono ?_
            rintro e W2 ⟨rfl, hr, hg⟩
            have HG2 := hid (HGa.out.trans hg)
            have HD2 := hid (HDN.out W2 hr)
            clear hr hg HPT HDN
            go_wp2_with fail
            refine HD2.out.mono ?_
            rintro e W3 ⟨⟨kk, rfl, hk1, hk2⟩, hr, hg⟩
            have HR3 := hid hr
            have HG3 := hid (HG2.out.trans hg)
            have hk3 : ((kk : Int) == 0) = false := by rw [beq_eq_false_iff_ne]; omega
            clear hr hg HD2
            go_wp2_with fail
            go_meet
            case rel => exact ⟨HG3, .inl ⟨true, l3, by simp, HLL, HF, HR3⟩⟩
      case rest =>
        clear HPT HGa
        rename_i wb _
        obtain ⟨HGb, ⟨f, l3, rfl, HLL, HF, HRb⟩ | ⟨rfl, HF, lx, HRb⟩⟩ := hcut
        · have HE2' := hid (fun h => HE2.out l3 f HF.out h)
          have HOK' := hid (fun l4 g h => HOK.out l3 l4 f g HF.out h)
          clear HE1 HE2 HOK HF
          obtain ⟨pz, hz1, hz2, hz3⟩ := HRb.out
          obtain ⟨_, _, _, b3⟩ := hz3.cells
          clear hz1 hz2 hz3
          have HPe : Hid (∀ W, Rl W R s l3 m → Calls Tryz.prog 96 #[.pointer (some ⟨R, 0, none⟩), .int .u8 101] W fun x w' => x = .returned (.bool (preX [101] l3)) ∧ Rl w' R s (passJ [101] l3) m ∧ W.grownBy w' (some R)) := fun W h => h.past 101 hs
          have HPE : Hid (∀ W, Rl W R s l3 m → Calls Tryz.prog 96 #[.pointer (some ⟨R, 0, none⟩), .int .u8 69] W fun x w' => x = .returned (.bool (preX [69] l3)) ∧ Rl w' R s (passJ [69] l3) m ∧ W.grownBy w' (some R)) := fun W h => h.past 69 hs
          have HP1 := hid (HPe.out _ HRb.out)
          obtain ⟨be, hbe⟩ : ∃ be, (preX [101] l3 || preX [69] l3) = be := ⟨_, rfl⟩
          clear HPe HRb
          go_upto_region 9 with (fail)
          go_cut [48] (fun v48 wx => v48 = .bool be ∧ Hid (Rl wx R s (if be then l3.drop 1 else l3) m) ∧ Hid (w.grownBy wx (some R)))
          case first =>
            clear HE2' HOK' HWH HEX HPS HW5 HLL
            cases h1 : preX [101] l3 with
            | true =>
              rw [h1] at hbe HP1
              rw [passJ_yes h1] at HP1
              obtain rfl : be = true := hbe.symm
              clear HPE hbe h1
              go_wp2_with fail
              refine HP1.out.mono ?_
              rintro e W3 ⟨rfl, hr, hg⟩
              have HR3 := hid hr
              have HG3 := hid (HGb.out.trans hg)
              clear hr hg HP1
              go_wp2_with fail
              go_meet
              case rel => exact ⟨by simp, HR3, HG3⟩
            | false =>
              rw [h1] at hbe HP1
              rw [passJ_no h1] at HP1
              have hbe2 : preX [69] l3 = be := hbe
              have hps : passJ [69] l3 = if be then l3.drop 1 else l3 := by
                cases be with
                | true => exact passJ_yes hbe2
                | false => exact passJ_no hbe2
              rw [hbe2, hps] at HPE
              generalize h44 : (if be = true then l3.drop 1 else l3) = l4 at HPE
              clear hbe hbe2 hps h1
              go_wp2_with fail
              refine HP1.out.mono ?_
              rintro e W3 ⟨rfl, hr, hg⟩
              have HG3 := hid (HGb.out.trans hg)
              have HP3 := hid (HPE.out _ hr)
              clear hr hg HP1 HPE
              go_wp2_with fail
              refine HP3.out.mono ?_
              rintro e W4 ⟨rfl, hr, hg⟩
              have HR4 := hid hr
              have HG4 := hid (HG3.out.trans hg)
              clear hr hg HP3
              go_wp2_with fail
              go_meet
              case rel => exact ⟨by simp, by rw [h44]; exact HR4, HG4⟩
          case rest =>
            clear HP1 HGb HPE b3
            obtain ⟨rfl, HRe, HGe⟩ := hcut
            go_upto_if 48 with (fail)
            go_cut [] (fun wx => Hid (w.grownBy wx (some R)) ∧ ((∃ (g : Bool) (l4 : List UInt8), Hid (expJ l3 = some (g, l4)) ∧ Hid (LenF g l4 l3) ∧ Hid (Rl wx R s l4 m)) ∨ (Hid (expJ l3 = none) ∧ Hid (Re wx R s m 5))))
            case first =>
              clear HE2' HOK' HWH HEX HPS HLL
              cases be with
              | false =>
                have hex : expJ l3 = some (false, l3) := by unfold expJ; rw [hbe]; rfl
                have HX := hid hex
                have HRf : Hid (Rl _ R s l3 m) := HRe.out
                clear hex hbe HW5 HRe
                go_wp2_with fail
                go_meet
                case rel => exact ⟨HGe, .inl ⟨false, l3, HX, ⟨Nat.le_refl _, (fun h => by cases h), (fun _ => rfl)⟩, HRf⟩⟩
              | true =>
                have hex : expJ l3 = (digsJ (signJ (l3.drop 1))).map fun r => (true, r) := by unfold expJ; rw [hbe]; rfl
                have HRf : Hid (Rl _ R s (l3.drop 1) m) := HRe.out
                have hlt3 : (l3.drop 1).length < l3.length := by
                  rcases Bool.or_eq_true_iff.1 hbe with h | h
                  · exact drop_one h
                  · exact drop_one h
                have hsl := sign_len (l3.drop 1)
                have HLAST : Hid (∀ W, Rl W R s (signJ (l3.drop 1)) m → Calls Tryz.prog 98 #[.pointer (some ⟨R, 0, none⟩)] W fun x w' => ((∃ k : Nat, ∃ l4, x = .returned (.int .i64 (k : Int)) ∧ 0 < k ∧ k ≤ 1000000 ∧ Hid (expJ l3 = some (true, l4)) ∧ Hid (LenF true l4 l3) ∧ Hid (Rl w' R s l4 m)) ∨ (x = .returned (.int .i64 0) ∧ Hid (expJ l3 = none) ∧ Rl w' R s (signJ (l3.drop 1)) m)) ∧ W.grownBy w' (some R)) := fun W h => by
                  cases hd : digsJ (signJ (l3.drop 1)) with
                  | none => exact (h.digs_no hs hd).mono fun x w' hh => ⟨.inr ⟨hh.1, (by show _ = _; rw [hex, hd]; rfl), hh.2.1⟩, hh.2.2⟩
                  | some l4 =>
                    have := digs_len hd
                    refine (h.digs_yes hs hd).mono fun x w' hh => ⟨.inl ?_, hh.2.2⟩
                    obtain ⟨k, e1, e2, e3⟩ := hh.1
                    exact ⟨k, l4, e1, e2, e3, (by show _ = _; rw [hex, hd]; rfl), ⟨by omega, (fun _ => by omega), (fun h => by cases h)⟩, hh.2.1⟩
                have HPP := hid (HRf.out.past 43 hs)
                have HPN : Hid (∀ W, Rl W R s (l3.drop 1) m → Calls Tryz.prog 96 #[.pointer (some ⟨R, 0, none⟩), .int .u8 45] W fun x w' => x = .returned (.bool (preX [45] (l3.drop 1))) ∧ Rl w' R s (passJ [45] (l3.drop 1)) m ∧ W.grownBy w' (some R)) := fun W h => h.past 45 hs
                have HSG : Hid (signJ (l3.drop 1) = if preX [43] (l3.drop 1) then passJ [43] (l3.drop 1) else passJ [45] (l3.drop 1)) := by
                  unfold signJ passJ
                  cases preX [43] (l3.drop 1) <;> rfl
                clear hex hbe HRe hsl hlt3
                generalize l3.drop 1 = lx at HPP HPN HSG HLAST HRf
                clear HRf
                cases h1 : preX [43] lx with
                | true =>
                  rw [h1] at HPP HSG
                  have hsj : signJ lx = passJ [43] lx := HSG.out
                  rw [← hsj] at HPP
                  clear HSG hsj h1 HPN
                  go_wp2_with fail
                  refine HPP.out.mono ?_
                  rintro e W3 ⟨rfl, hr, hg⟩
                  have HG3 := hid (HGe.out.trans hg)
                  have HL3 := hid (HLAST.out W3 hr)
                  clear hr hg HPP HLAST
                  go_wp2_with fail
                  refine HL3.out.mono ?_
                  rintro e W5 ⟨⟨kk, l4, rfl, hk1, hk2, HX, HL, HR5⟩ | ⟨rfl, HX, hr⟩, hg⟩
                  · have HG5 := hid (HG3.out.trans hg)
                    have hk3 : ((kk : Int) == 0) = false := by rw [beq_eq_false_iff_ne]; omega
                    clear hg HL3
                    go_wp2_with fail
                    go_meet
                    case rel => exact ⟨HG5, .inl ⟨true, l4, HX, HL, HR5⟩⟩
                  · have HG5 := hid (HG3.out.trans hg)
                    have HW5' := hid (HW5.out _ W5 hr)
                    clear hg hr HL3
                    go_wp2_with fail
                    refine HW5'.out.mono ?_
                    rintro e W6 ⟨rfl, hr, hg⟩
                    have HR6 := hid hr
                    have HG6 := hid (HG5.out.trans hg)
                    clear hr hg
                    go_wp2_with fail
                    go_meet
                    case rel => exact ⟨HG6, .inr ⟨HX, HR6⟩⟩
                | false =>
                  rw [h1] at HPP HSG
                  have hsj : signJ lx = passJ [45] lx := HSG.out
                  rw [passJ_no h1] at HPP
                  rw [← hsj] at HPN
                  clear HSG hsj h1
                  go_wp2_with fail
                  refine HPP.out.mono ?_
                  rintro e W2 ⟨rfl, hr, hg⟩
                  have HG2 := hid (HGe.out.trans hg)
                  have HP2 := hid (HPN.out W2 hr)
                  clear hr hg HPP HPN
                  go_wp2_with fail
                  refine HP2.out.mono ?_
                  rintro e W3 ⟨rfl, hr, hg⟩
                  have HG3 := hid (HG2.out.trans hg)
                  have HL3 := hid (HLAST.out W3 hr)
                  clear hr hg HP2 HLAST HG2
                  go_wp2_with fail
                  refine HL3.out.mono ?_
                  rintro e W5 ⟨⟨kk, l4, rfl, hk1, hk2, HX, HL, HR5⟩ | ⟨rfl, HX, hr⟩, hg⟩
                  · have HG5 := hid (HG3.out.trans hg)
                    have hk3 : ((kk : Int) == 0) = false := by rw [beq_eq_false_iff_ne]; omega
                    clear hg HL3
                    go_wp2_with fail
                    go_meet
                    case rel => exact ⟨HG5, .inl ⟨true, l4, HX, HL, HR5⟩⟩
                  · have HG5 := hid (HG3.out.trans hg)
                    have HW5' := hid (HW5.out _ W5 hr)
                    clear hg hr HL3
                    go_wp2_with fail
                    refine HW5'.out.mono ?_
                    rintro e W6 ⟨rfl, hr, hg⟩
                    have HR6 := hid hr
                    have HG6 := hid (HG5.out.trans hg)
                    clear hr hg
                    go_wp2_with fail
                    go_meet
                    case rel => exact ⟨HG6, .inr ⟨HX, HR6⟩⟩
            case rest =>
              clear HRe HGe hbe HW5
              rename_i wc _
              obtain ⟨HGc, ⟨g, l4, HX, HL4, HRc⟩ | ⟨HX, HRc⟩⟩ := hcut
              · have hnum := HOK'.out l4 g HX.out
                have hrc := HRc.out.row.1
                obtain ⟨d0, d1, _, d3⟩ := hrc.cells
                have hln4 := HRc.out.len
                obtain ⟨ps1, ps2, ps3⟩ := HPS.out
                have hne : ((p2 : Int) != ((s.length - l4.length : Nat) : Int)) = (f || g) := by
                  obtain ⟨u1, u2, u3⟩ := HLL.out
                  obtain ⟨t1, t2, t3⟩ := HL4.out
                  cases f with
                  | true =>
                    have := u2 rfl
                    rw [Bool.true_or, bne_iff_ne]
                    omega
                  | false =>
                    rw [u3 rfl] at t1 t2 t3
                    cases g with
                    | true =>
                      have := t2 rfl
                      rw [Bool.or_true, bne_iff_ne]
                      omega
                    | false =>
                      rw [t3 rfl, Bool.or_false, bne_eq_false_iff_eq]
                      omega
                have hp4 : s.length - l4.length ≤ 1000000 := by omega
                generalize (f || g) = nb at hnum hne
                have hex := HEX.out
                have hsz := asS_size s
                obtain ⟨fb, hfb⟩ : ∃ fb, fitsJ VV = fb := ⟨_, rfl⟩
                rw [hfb] at hnum
                have HW1 : Hid (Calls Tryz.prog 99 #[.string SD] wc fun x w' => ∃ v, x = .returned (.tuple #[.int .i64 v, .bool fb]) ∧ (fb = true → v = VV) ∧ Below wc.heap.size wc w') := (HWH.out wc).mono fun x w' hh => by
                  cases fb with
                  | true => exact ⟨VV, hh.1.1 hfb, fun _ => rfl, hh.2⟩
                  | false =>
                    obtain ⟨nn, hn⟩ := hh.1.2 hfb
                    exact ⟨nn, hn, (fun h => by cases h), hh.2⟩
                have HNUM := hid hnum
                clear HE2' HOK' HX HL4 HLL HPS HEX HWH hnum hfb hrc
                generalize s.length - l4.length = p4 at d1 hne hp4
                generalize asS s = S at d0 hex hsz
                go_wp2_with fail
                refine HW1.out.mono ?_
                rintro e W7 ⟨v, rfl, hv, hb⟩
                have HV := hid hv
                have HR7 := hid (HRc.out.below hb)
                have HG7 := hid (HGc.out.trans (to_below hb))
                have f1 : W7.cell? ⟨R, 1, none⟩ = some (.int .i64 p4) := (hb.cell (p := ⟨R, 1, none⟩) HRc.out.lt).trans d1
                have HWZ := hid (HR7.out.wrong 1)
                clear hb hv d0 d1 d3 HW1 HGc
                cases fb with
                | false =>
                  have HER : Hid (numJ l = .error 1) := by
                    show _ = _
                    rw [HNUM.out]
                    cases nb <;> rfl
                  clear HNUM HV
                  go_wp2_with fail
                  refine HWZ.out.mono ?_
                  rintro e W8 ⟨rfl, hr, hg⟩
                  have HR8 := hid hr
                  have HG8 := hid (HG7.out.trans hg)
                  clear hr hg
                  go_wp2_with fail
                  go_ret
                  exact NumQ.err HER.out HR8.out HG8.out
                | true =>
                  cases nb with
                  | true =>
                    have HER : Hid (numJ l = .error 1) := HNUM.out
                    clear HNUM HV
                    go_wp2_with fail
                    refine HWZ.out.mono ?_
                    rintro e W8 ⟨rfl, hr, hg⟩
                    have HR8 := hid hr
                    have HG8 := hid (HG7.out.trans hg)
                    clear hr hg
                    go_wp2_with fail
                    go_ret
                    exact NumQ.err HER.out HR8.out HG8.out
                  | false =>
                    have HOKN : Hid (numJ l = .ok (VV, l4)) := HNUM.out
                    obtain rfl := HV.out rfl
                    clear HNUM HV HWZ
                    go_wp2_with fail
                    go_ret
                    exact NumQ.ok HOKN.out HR7.out HG7.out
              · have HER := hid (HE2'.out HX.out)
                obtain ⟨px, hpx, hrx⟩ := HRc.out
                obtain ⟨_, _, _, d3⟩ := hrx.cells
                clear HE2' HOK' HWH HEX HPS hpx hrx
                go_wp2_with fail
                go_ret
                exact NumQ.err HER.out HRc.out HGc.out
        · have HER := hid (HE1.out HF.out)
          have HWb := hid (HW5.out lx _ HRb.out)
          clear HE1 HE2 HOK HWH HEX HPS HW5
          go_wp2_with fail
          refine HWb.out.mono ?_
          rintro e W2 ⟨rfl, hr, hg⟩
          obtain ⟨px, hpx, hrx⟩ := hr
          obtain ⟨_, _, _, b3⟩ := hrx.cells
          have HRE : Hid (Re W2 R s m 5) := ⟨px, hpx, hrx⟩
          have HG2 := hid (HGb.out.trans hg)
          clear hg hpx hrx
          go_wp2_with fail
          go_ret
          exact NumQ.err HER.out HRE.out HG2.out
end Go.Proofs.YtlgkbdebpnbndaaGreatDoor
