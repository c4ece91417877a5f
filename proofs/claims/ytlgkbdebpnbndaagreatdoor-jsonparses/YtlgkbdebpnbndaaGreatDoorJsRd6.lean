
/- The reference's reader: what stands behind a backslash. -/
import Derived.Test.YtlgkbdebpnbndaaGreatDoorJsRd5
import Derived.Test.YtlgkbdebpnbndaaGreatDoorJsU8
namespace Go.Proofs.YtlgkbdebpnbndaaGreatDoor
set_option linter.unusedVariables false
set_option linter.unusedSimpArgs false
open Go.RowKit Go.BigFrame

/-- What escape does. -/
def EscP (l s : List UInt8) (R m : Nat) (w : World) (x : Ending) (w' : World) : Prop :=
  (∀ v r, escJ l = some (v, r) → x = .returned (.string (asS (encL v))) ∧ Rl w' R s r m) ∧ (escJ l = none → x = .returned (.string ⟨#[]⟩) ∧ Re w' R s m 5) ∧ w.grownBy w' (some R)
theorem EscP.no {l s : List UInt8} {R m : Nat} {w w' : World} (h : escJ l = none) (hr : Re w' R s m 5) (hg : w.grownBy w' (some R)) : EscP l s R m w (.returned (.string ⟨#[]⟩)) w' := ⟨fun n r h2 => (by rw [h] at h2; cases h2), fun _ => ⟨rfl, hr⟩, hg⟩
theorem EscP.yes {l s r : List UInt8} {R m v : Nat} {w w' : World} {S : ByteArray} (h : escJ l = some (v, r)) (hS : S = asS (encL v)) (hr : Rl w' R s r m) (hg : w.grownBy w' (some R)) : EscP l s R m w (.returned (.string S)) w' := ⟨fun a b h2 => (by rw [h] at h2; injection h2 with h2; injection h2 with h3 h4; subst h3 h4 hS; exact ⟨rfl, hr⟩), fun h2 => (by rw [h] at h2; cases h2), hg⟩
theorem pre_bu (l : List UInt8) : preX [92, 117] l = (preX [92] l && preX [117] (l.drop 1)) := by
  cases l with
  | nil => rfl
  | cons c r =>
    show ((92 == c) && preX [117] r) = (((92 == c) && true) && preX [117] r)
    rw [Bool.and_true]
theorem uni_none {l : List UInt8} (h : fourJ l = none) : uniJ l = none := by unfold uniJ; rw [h]
theorem uni_one {l r : List UInt8} {a : Nat} (h : fourJ l = some (a, r)) (ha : a < 55296 ∨ 57344 ≤ a) : uniJ l = some (a, r) := by unfold uniJ; rw [h]; exact if_pos ha
theorem uni_low {l r : List UInt8} {a : Nat} (h : fourJ l = some (a, r)) (ha : 56320 ≤ a) (ha2 : a < 57344) : uniJ l = none := by
  unfold uniJ
  rw [h]
  show (if a < 55296 ∨ 57344 ≤ a then _ else _) = _
  rw [if_neg (by omega)]
  split
  · split
    · rfl
    · exact if_pos (.inl ha)
  · rfl
theorem uni_np {l r : List UInt8} {a : Nat} (h : fourJ l = some (a, r)) (ha : 55296 ≤ a) (ha2 : a < 56320) (hp : preX [92, 117] r = false) : uniJ l = none := by
  unfold uniJ
  rw [h]
  show (if a < 55296 ∨ 57344 ≤ a then _ else _) = _
  rw [if_neg (by omega), hp]
  rfl
theorem uni_n2 {l r : List UInt8} {a : Nat} (h : fourJ l = some (a, r)) (ha : 55296 ≤ a) (ha2 : a < 56320) (h2 : fourJ (r.drop 2) = none) : uniJ l = none := by
  unfold uniJ
  rw [h]
  show (if a < 55296 ∨ 57344 ≤ a then _ else _) = _
  rw [if_neg (by omega), h2]
  split <;> rfl
theorem uni_nb {l r r2 : List UInt8} {a b : Nat} (h : fourJ l = some (a, r)) (ha : 55296 ≤ a) (ha2 : a < 56320) (h2 : fourJ (r.drop 2) = some (b, r2)) (hb : b < 56320 ∨ 57344 ≤ b) : uniJ l = none := by
  unfold uniJ
  rw [h]
  show (if a < 55296 ∨ 57344 ≤ a then _ else _) = _
  rw [if_neg (by omega), h2]
  split
  · exact if_pos (.inr hb)
  · rfl
theorem uni_two {l r r2 : List UInt8} {a b : Nat} (h : fourJ l = some (a, r)) (ha : 55296 ≤ a) (ha2 : a < 56320) (hp : preX [92, 117] r = true) (h2 : fourJ (r.drop 2) = some (b, r2)) (hb : 56320 ≤ b) (hb2 : b < 57344) : uniJ l = some (pairJ a b, r2) := by
  unfold uniJ
  rw [h]
  show (if a < 55296 ∨ 57344 ≤ a then _ else _) = _
  rw [if_neg (by omega), hp, if_pos rfl, h2]
  show (if 56320 ≤ a ∨ b < 56320 ∨ 57344 ≤ b then _ else _) = _
  rw [if_neg (by omega)]
theorem utfS_yes {v : Nat} (h : validR v = true) : utfS v = encL v := if_pos h
theorem utfS_no {v : Nat} (h : validR v = false) : utfS v = [] := if_neg (by rw [h]; simp)
theorem four_lt {l r : List UInt8} {n : Nat} (h : fourJ l = some (n, r)) : n < 65536 := by
  unfold fourJ at h
  split at h
  · cases h
  · rename_i h4
    split at h
    · rename_i hok
      injection h with h
      injection h with h1 _
      rw [← h1]
      have hl : (l.take 4).length = 4 := by rw [List.length_take]; omega
      generalize l.take 4 = q at hok hl
      have key : ∀ (q : List UInt8) (a : Nat), okD 16 q = true → q.foldl (fun a c => a * 16 + digE c) a < (a + 1) * 16 ^ q.length := by
        intro q
        induction q with
        | nil => intro a _; simp
        | cons c q ih =>
          intro a ho
          have ho2 : digE c < 16 ∧ okD 16 q = true := by
            unfold okD at ho ⊢
            rw [List.all_cons, Bool.and_eq_true, decide_eq_true_eq] at ho
            exact ho
          have h1 := ih (a * 16 + digE c) ho2.2
          have h2 : (a * 16 + digE c + 1) * 16 ^ q.length ≤ ((a + 1) * 16) * 16 ^ q.length := Nat.mul_le_mul_right _ (by omega)
          rw [List.foldl_cons, List.length_cons, Nat.pow_succ, Nat.mul_comm (16 ^ q.length) 16, ← Nat.mul_assoc]
          exact Nat.lt_of_lt_of_le h1 h2
      have := key q 0 hok
      rw [hl] at this
      exact this
    · cases h
set_option maxHeartbeats 16000000 in
set_option maxRecDepth 100000 in
theorem escapeQ (l s : List UInt8) (R m : Nat) (hs : s.length ≤ 1000000) (w : World) (h : Rl w R s l m) : Calls Tryz.prog 97 #[.pointer (some ⟨R, 0, none⟩)] w fun x w' => EscP l s R m w x w' := by
  have HN := hid h.now
  have hrow := h.row5.1
  have hlen := h.len
  have hp : s.length - l.length ≤ 1000000 := by omega
  have HERR : Hid (∀ w', Rq w' R s (s.length - l.length + 1) m 0 → Calls Tryz.prog 42 #[.pointer (some ⟨R, 0, none⟩), .int .i64 5] w' fun x w2 => x = .returned (.tuple #[]) ∧ Re w2 R s m 5 ∧ w'.grownBy w2 (some R)) := fun w' h2 => (wrongQ s _ m 0 5 R w' h2).mono fun x w2 hh => ⟨hh.1, ⟨_, by omega, hh.2.1⟩, to_only hh.2.2⟩
  have HNEXT : Hid (∀ c r, l = c :: r → ∀ w', Rq w' R s (s.length - l.length + 1) m 0 → Rl w' R s r m) := fun c r e w' h2 => by subst e; exact h.next h2
  generalize s.length - l.length = p at hrow hp HERR HNEXT
  have HROW := hid hrow
  clear h hrow hlen
  cases l with
  | nil =>
    have hno : escJ [] = none := rfl
    have HNO := hid hno
    have hcn : (([] : List UInt8).headD 0).toNat = 0 := rfl
    rw [hcn] at HN
    clear hno hcn HNEXT
    go_enter Tryz.func97, Tryz.ntmps97
    go_wp2_with fail
    refine HN.out.mono ?_
    rintro e W1 ⟨rfl, hb⟩
    have hr1 := HROW.out.below hb
    obtain ⟨_, f1, _, _⟩ := hr1.cells
    have HG1 := hid (to_below (R := R) hb)
    unfold Rq at hr1
    have HR1 := hid hr1
    clear hb hr1 HN HROW
    go_wp2_with (first
      | (refine store_part rfl 3 _ _ rfl R 1 (.int .i64 ((p : Int) + 1)) _ _ #[.string (asS s), .int .i64 ((p : Int) + 1), .int .i64 m, .int .i64 ((0 : Nat) : Int)] rfl rfl info3q (by simp) rfl rfl HR1.out rfl ?_)
      | fail)
    intro W2 ho hr
    have hrq : Rq W2 R s (p + 1) m 0 := by unfold Rq; rw [show ((p + 1 : Nat) : Int) = (p : Int) + 1 from by omega]; exact hr
    have HG2 := hid (HG1.out.trans (to_only ho))
    have HW := hid (HERR.out W2 hrq)
    clear ho hr hrq HERR
    go_wp2_with fail
    refine HW.out.mono ?_
    rintro e W3 ⟨rfl, hr, hg⟩
    have HR3 := hid hr
    have HG3 := hid (HG2.out.trans hg)
    clear hr hg
    go_wp2_with fail
    go_ret
    exact EscP.no HNO.out HR3.out HG3.out
  | cons c r =>
    have HNX := hid (fun w' h2 => HNEXT.out c r rfl w' h2)
    have hhd : ((c :: r).headD 0).toNat = c.toNat := rfl
    rw [hhd] at HN
    clear HNEXT hhd
    by_cases c34 : c = 34
    · subst c34
      have HY : Hid (escJ (34 :: r) = some (34, r)) := rfl
      have hcn : (34 : UInt8).toNat = 34 := rfl
      rw [hcn] at HN
      go_enter Tryz.func97, Tryz.ntmps97
      go_wp2_with fail
      refine HN.out.mono ?_
      rintro e W1 ⟨rfl, hb⟩
      have hr1 := HROW.out.below hb
      obtain ⟨_, f1, _, _⟩ := hr1.cells
      have HG1 := hid (to_below (R := R) hb)
      unfold Rq at hr1
      have HR1 := hid hr1
      clear hb hr1 HN HROW
      go_wp2_with (first
        | (refine store_part rfl 3 _ _ rfl R 1 (.int .i64 ((p : Int) + 1)) _ _ #[.string (asS s), .int .i64 ((p : Int) + 1), .int .i64 m, .int .i64 ((0 : Nat) : Int)] rfl rfl info3q (by simp) rfl rfl HR1.out rfl ?_)
        | fail)
      intro W2 ho hr
      have hrq : Rq W2 R s (p + 1) m 0 := by unfold Rq; rw [show ((p + 1 : Nat) : Int) = (p : Int) + 1 from by omega]; exact hr
      have HG2 := hid (HG1.out.trans (to_only ho))
      have HL2 := hid (HNX.out W2 hrq)
      clear ho hr hrq HERR HNX
      have hcv := conv_lit W2 [34] 1 rfl
      rw [show bcs [34] = #[Value.int .u8 34] from rfl] at hcv
      have hal : Below W2.heap.size W2 (W2.alloc (.cells #[Value.int .u8 34] 5)) := (Below.refl _ _).alloc (Nat.le_refl _) _
      have HL3 := hid (HL2.out.below hal)
      have HG3 := hid (HG2.out.trans (to_below (R := R) hal))
      clear hal
      go_wp2_with fail
      go_ret
      exact EscP.yes HY.out (by kernel_rfl) HL3.out HG3.out
    by_cases c92 : c = 92
    · subst c92
      have HY : Hid (escJ (92 :: r) = some (92, r)) := rfl
      have hcn : (92 : UInt8).toNat = 92 := rfl
      rw [hcn] at HN
      go_enter Tryz.func97, Tryz.ntmps97
      go_wp2_with fail
      refine HN.out.mono ?_
      rintro e W1 ⟨rfl, hb⟩
      have hr1 := HROW.out.below hb
      obtain ⟨_, f1, _, _⟩ := hr1.cells
      have HG1 := hid (to_below (R := R) hb)
      unfold Rq at hr1
      have HR1 := hid hr1
      clear hb hr1 HN HROW
      go_wp2_with (first
        | (refine store_part rfl 3 _ _ rfl R 1 (.int .i64 ((p : Int) + 1)) _ _ #[.string (asS s), .int .i64 ((p : Int) + 1), .int .i64 m, .int .i64 ((0 : Nat) : Int)] rfl rfl info3q (by simp) rfl rfl HR1.out rfl ?_)
        | fail)
      intro W2 ho hr
      have hrq : Rq W2 R s (p + 1) m 0 := by unfold Rq; rw [show ((p + 1 : Nat) : Int) = (p : Int) + 1 from by omega]; exact hr
      have HG2 := hid (HG1.out.trans (to_only ho))
      have HL2 := hid (HNX.out W2 hrq)
      clear ho hr hrq HERR HNX
      have hcv := conv_lit W2 [92] 1 rfl
      rw [show bcs [92] = #[Value.int .u8 92] from rfl] at hcv
      have hal : Below W2.heap.size W2 (W2.alloc (.cells #[Value.int .u8 92] 5)) := (Below.refl _ _).alloc (Nat.le_refl _) _
      have HL3 := hid (HL2.out.below hal)
      have HG3 := hid (HG2.out.trans (to_below (R := R) hal))
      clear hal
      go_wp2_with fail
      go_ret
      exact EscP.yes HY.out (by kernel_rfl) HL3.out HG3.out
    by_cases c47 : c = 47
    · subst c47
      have HY : Hid (escJ (47 :: r) = some (47, r)) := rfl
      have hcn : (47 : UInt8).toNat = 47 := rfl
      rw [hcn] at HN
      go_enter Tryz.func97, Tryz.ntmps97
      go_wp2_with fail
      refine HN.out.mono ?_
      rintro e W1 ⟨rfl, hb⟩
      have hr1 := HROW.out.below hb
      obtain ⟨_, f1, _, _⟩ := hr1.cells
      have HG1 := hid (to_below (R := R) hb)
      unfold Rq at hr1
      have HR1 := hid hr1
      clear hb hr1 HN HROW
      go_wp2_with (first
        | (refine store_part rfl 3 _ _ rfl R 1 (.int .i64 ((p : Int) + 1)) _ _ #[.string (asS s), .int .i64 ((p : Int) + 1), .int .i64 m, .int .i64 ((0 : Nat) : Int)] rfl rfl info3q (by simp) rfl rfl HR1.out rfl ?_)
        | fail)
      intro W2 ho hr
      have hrq : Rq W2 R s (p + 1) m 0 := by unfold Rq; rw [show ((p + 1 : Nat) : Int) = (p : Int) + 1 from by omega]; exact hr
      have HG2 := hid (HG1.out.trans (to_only ho))
      have HL2 := hid (HNX.out W2 hrq)
      clear ho hr hrq HERR HNX
      have hcv := conv_lit W2 [47] 1 rfl
      rw [show bcs [47] = #[Value.int .u8 47] from rfl] at hcv
      have hal : Below W2.heap.size W2 (W2.alloc (.cells #[Value.int .u8 47] 5)) := (Below.refl _ _).alloc (Nat.le_refl _) _
      have HL3 := hid (HL2.out.below hal)
      have HG3 := hid (HG2.out.trans (to_below (R := R) hal))
      clear hal
      go_wp2_with fail
      go_ret
      exact EscP.yes HY.out (by kernel_rfl) HL3.out HG3.out
    by_cases c98 : c = 98
    · subst c98
      have HY : Hid (escJ (98 :: r) = some (8, r)) := rfl
      have hcn : (98 : UInt8).toNat = 98 := rfl
      rw [hcn] at HN
      go_enter Tryz.func97, Tryz.ntmps97
      go_wp2_with fail
      refine HN.out.mono ?_
      rintro e W1 ⟨rfl, hb⟩
      have hr1 := HROW.out.below hb
      obtain ⟨_, f1, _, _⟩ := hr1.cells
      have HG1 := hid (to_below (R := R) hb)
      unfold Rq at hr1
      have HR1 := hid hr1
      clear hb hr1 HN HROW
      go_wp2_with (first
        | (refine store_part rfl 3 _ _ rfl R 1 (.int .i64 ((p : Int) + 1)) _ _ #[.string (asS s), .int .i64 ((p : Int) + 1), .int .i64 m, .int .i64 ((0 : Nat) : Int)] rfl rfl info3q (by simp) rfl rfl HR1.out rfl ?_)
        | fail)
      intro W2 ho hr
      have hrq : Rq W2 R s (p + 1) m 0 := by unfold Rq; rw [show ((p + 1 : Nat) : Int) = (p : Int) + 1 from by omega]; exact hr
      have HG2 := hid (HG1.out.trans (to_only ho))
      have HL2 := hid (HNX.out W2 hrq)
      clear ho hr hrq HERR HNX
      go_wp2_with fail
      go_ret
      exact EscP.yes HY.out (by kernel_rfl) HL2.out HG2.out
    by_cases c102 : c = 102
    · subst c102
      have HY : Hid (escJ (102 :: r) = some (12, r)) := rfl
      have hcn : (102 : UInt8).toNat = 102 := rfl
      rw [hcn] at HN
      go_enter Tryz.func97, Tryz.ntmps97
      go_wp2_with fail
      refine HN.out.mono ?_
      rintro e W1 ⟨rfl, hb⟩
      have hr1 := HROW.out.below hb
      obtain ⟨_, f1, _, _⟩ := hr1.cells
      have HG1 := hid (to_below (R := R) hb)
      unfold Rq at hr1
      have HR1 := hid hr1
      clear hb hr1 HN HROW
      go_wp2_with (first
        | (refine store_part rfl 3 _ _ rfl R 1 (.int .i64 ((p : Int) + 1)) _ _ #[.string (asS s), .int .i64 ((p : Int) + 1), .int .i64 m, .int .i64 ((0 : Nat) : Int)] rfl rfl info3q (by simp) rfl rfl HR1.out rfl ?_)
        | fail)
      intro W2 ho hr
      have hrq : Rq W2 R s (p + 1) m 0 := by unfold Rq; rw [show ((p + 1 : Nat) : Int) = (p : Int) + 1 from by omega]; exact hr
      have HG2 := hid (HG1.out.trans (to_only ho))
      have HL2 := hid (HNX.out W2 hrq)
      clear ho hr hrq HERR HNX
      go_wp2_with fail
      go_ret
      exact EscP.yes HY.out (by kernel_rfl) HL2.out HG2.out
    by_cases c110 : c = 110
    · subst c110
      have HY : Hid (escJ (110 :: r) = some (10, r)) := rfl
      have hcn : (110 : UInt8).toNat = 110 := rfl
      rw [hcn] at HN
      go_enter Tryz.func97, Tryz.ntmps97
      go_wp2_with fail
      refine HN.out.mono ?_
      rintro e W1 ⟨rfl, hb⟩
      have hr1 := HROW.out.below hb
      obtain ⟨_, f1, _, _⟩ := hr1.cells
      have HG1 := hid (to_below (R := R) hb)
      unfold Rq at hr1
      have HR1 := hid hr1
      clear hb hr1 HN HROW
      go_wp2_with (first
        | (refine store_part rfl 3 _ _ rfl R 1 (.int .i64 ((p : Int) + 1)) _ _ #[.string (asS s), .int .i64 ((p : Int) + 1), .int .i64 m, .int .i64 ((0 : Nat) : Int)] rfl rfl info3q (by simp) rfl rfl HR1.out rfl ?_)
        | fail)
      intro W2 ho hr
      have hrq : Rq W2 R s (p + 1) m 0 := by unfold Rq; rw [show ((p + 1 : Nat) : Int) = (p : Int) + 1 from by omega]; exact hr
      have HG2 := hid (HG1.out.trans (to_only ho))
      have HL2 := hid (HNX.out W2 hrq)
      clear ho hr hrq HERR HNX
      go_wp2_with fail
      go_ret
      exact EscP.yes HY.out (by kernel_rfl) HL2.out HG2.out
    by_cases c114 : c = 114
    · subst c114
      have HY : Hid (escJ (114 :: r) = some (13, r)) := rfl
      have hcn : (114 : UInt8).toNat = 114 := rfl
      rw [hcn] at HN
      go_enter Tryz.func97, Tryz.ntmps97
      go_wp2_with fail
      refine HN.out.mono ?_
      rintro e W1 ⟨rfl, hb⟩
      have hr1 := HROW.out.below hb
      obtain ⟨_, f1, _, _⟩ := hr1.cells
      have HG1 := hid (to_below (R := R) hb)
      unfold Rq at hr1
      have HR1 := hid hr1
      clear hb hr1 HN HROW
      go_wp2_with (first
        | (refine store_part rfl 3 _ _ rfl R 1 (.int .i64 ((p : Int) + 1)) _ _ #[.string (asS s), .int .i64 ((p : Int) + 1), .int .i64 m, .int .i64 ((0 : Nat) : Int)] rfl rfl info3q (by simp) rfl rfl HR1.out rfl ?_)
        | fail)
      intro W2 ho hr
      have hrq : Rq W2 R s (p + 1) m 0 := by unfold Rq; rw [show ((p + 1 : Nat) : Int) = (p : Int) + 1 from by omega]; exact hr
      have HG2 := hid (HG1.out.trans (to_only ho))
      have HL2 := hid (HNX.out W2 hrq)
      clear ho hr hrq HERR HNX
      go_wp2_with fail
      go_ret
      exact EscP.yes HY.out (by kernel_rfl) HL2.out HG2.out
    by_cases c116 : c = 116
    · subst c116
      have HY : Hid (escJ (116 :: r) = some (9, r)) := rfl
      have hcn : (116 : UInt8).toNat = 116 := rfl
      rw [hcn] at HN
      go_enter Tryz.func97, Tryz.ntmps97
      go_wp2_with fail
      refine HN.out.mono ?_
      rintro e W1 ⟨rfl, hb⟩
      have hr1 := HROW.out.below hb
      obtain ⟨_, f1, _, _⟩ := hr1.cells
      have HG1 := hid (to_below (R := R) hb)
      unfold Rq at hr1
      have HR1 := hid hr1
      clear hb hr1 HN HROW
      go_wp2_with (first
        | (refine store_part rfl 3 _ _ rfl R 1 (.int .i64 ((p : Int) + 1)) _ _ #[.string (asS s), .int .i64 ((p : Int) + 1), .int .i64 m, .int .i64 ((0 : Nat) : Int)] rfl rfl info3q (by simp) rfl rfl HR1.out rfl ?_)
        | fail)
      intro W2 ho hr
      have hrq : Rq W2 R s (p + 1) m 0 := by unfold Rq; rw [show ((p + 1 : Nat) : Int) = (p : Int) + 1 from by omega]; exact hr
      have HG2 := hid (HG1.out.trans (to_only ho))
      have HL2 := hid (HNX.out W2 hrq)
      clear ho hr hrq HERR HNX
      go_wp2_with fail
      go_ret
      exact EscP.yes HY.out (by kernel_rfl) HL2.out HG2.out
    by_cases c117 : c = 117
    · subst c117
      have hcn : (117 : UInt8).toNat = 117 := rfl
      rw [hcn] at HN
      have HU : Hid (escJ (117 :: r) = uniJ r) := rfl
      go_enter Tryz.func97, Tryz.ntmps97
      go_wp2_with fail
      refine HN.out.mono ?_
      rintro e W1 ⟨rfl, hb⟩
      have hr1 := HROW.out.below hb
      obtain ⟨_, f1, _, _⟩ := hr1.cells
      have HG1 := hid (to_below (R := R) hb)
      unfold Rq at hr1
      have HR1 := hid hr1
      clear hb hr1 HN HROW
      go_wp2_with (first
        | (refine store_part rfl 3 _ _ rfl R 1 (.int .i64 ((p : Int) + 1)) _ _ #[.string (asS s), .int .i64 ((p : Int) + 1), .int .i64 m, .int .i64 ((0 : Nat) : Int)] rfl rfl info3q (by simp) rfl rfl HR1.out rfl ?_)
        | fail)
      intro W2 ho hr
      have hrq : Rq W2 R s (p + 1) m 0 := by unfold Rq; rw [show ((p + 1 : Nat) : Int) = (p : Int) + 1 from by omega]; exact hr
      have HG2 := hid (HG1.out.trans (to_only ho))
      have HL2 := hid (HNX.out W2 hrq)
      clear ho hr hrq HERR HNX
      have HF4 := hid (fun l W (hW : Rl W R s l m) => fourQ l s R m hs W hW)
      have HPB : Hid (∀ l W, Rl W R s l m → Calls Tryz.prog 96 #[.pointer (some ⟨R, 0, none⟩), .int .u8 92] W fun x w' => x = .returned (.bool (preX [92] l)) ∧ Rl w' R s (passJ [92] l) m ∧ W.grownBy w' (some R)) := fun l W hW => hW.past 92 hs
      have HPU : Hid (∀ l W, Rl W R s l m → Calls Tryz.prog 96 #[.pointer (some ⟨R, 0, none⟩), .int .u8 117] W fun x w' => x = .returned (.bool (preX [117] l)) ∧ Rl w' R s (passJ [117] l) m ∧ W.grownBy w' (some R)) := fun l W hW => hW.past 117 hs
      have HF1 := hid (HF4.out r W2 HL2.out)
      clear HL2
      cases h4 : fourJ r with
      | none =>
        have HNO : Hid (escJ (117 :: r) = none) := HU.out.trans (uni_none h4)
        have HC : Hid (Calls Tryz.prog 121 #[.pointer (some ⟨R, 0, none⟩)] W2 fun x w' => x = .returned (.int .i64 (-1)) ∧ Re w' R s m 5 ∧ W2.grownBy w' (some R)) := HF1.out.mono fun x w' hh => ⟨(hh.2.1 h4).1, (hh.2.1 h4).2, hh.2.2⟩
        clear HF1 HF4 HPB HPU HU h4
        go_wp2_with fail
        refine HC.out.mono ?_
        rintro e W3 ⟨rfl, hr, hg⟩
        have HR3 := hid hr
        have HG3 := hid (HG2.out.trans hg)
        have HU8 := hid (Utf8_neg W3)
        clear hr hg HC
        go_wp2_with fail
        refine HU8.out.mono ?_
        rintro e W4 ⟨rfl, hb⟩
        have HW := hid ((HR3.out.below hb).wrong (by decide) 5)
        have HGX := hid (HG3.out.trans (to_below (R := R) hb))
        clear hb HU8
        go_wp2_with fail
        refine HW.out.mono ?_
        rintro e W5 ⟨rfl, hr, hg⟩
        have HR5 := hid hr
        have HG5 := hid (HGX.out.trans hg)
        clear hr hg
        go_wp2_with fail
        go_ret
        exact EscP.no HNO.out HR5.out HG5.out
      | some q =>
        obtain ⟨a, r1⟩ := q
        have ha : a < 65536 ∧ Calls Tryz.prog 121 #[.pointer (some ⟨R, 0, none⟩)] W2 fun x w' => x = .returned (.int .i64 (a : Nat)) ∧ Rl w' R s r1 m ∧ W2.grownBy w' (some R) := ⟨four_lt h4, HF1.out.mono fun x w' hh => ⟨(hh.1 a r1 h4).1, (hh.1 a r1 h4).2.1, hh.2.2⟩⟩
        obtain ⟨ha, hc⟩ := ha
        have HC := hid hc
        have H4 := hid h4
        clear HF1 hc h4
        by_cases hsu : 55296 ≤ a ∧ a < 56320
        · obtain ⟨hs1, hs2⟩ := hsu
          have g1 : (55296 : Int) ≤ (a : Int) := by omega
          have g2 : (a : Int) < 56320 := by omega
          go_wp2_with fail
          refine HC.out.mono ?_
          rintro e W3 ⟨rfl, hr, hg⟩
          have HG3 := hid (HG2.out.trans hg)
          have HP3 := hid (HPB.out r1 W3 hr)
          clear hr hg HC HPB
          cases hb1 : preX [92] r1 with
          | false =>
            have HNO : Hid (escJ (117 :: r) = none) := HU.out.trans (uni_np H4.out hs1 hs2 (by rw [pre_bu, hb1]; rfl))
            rw [hb1] at HP3
            clear HPU HF4 HU H4 hb1
            go_wp2_with fail
            refine HP3.out.mono ?_
            rintro e W4 ⟨rfl, hr, hg⟩
            have HGX := hid (HG3.out.trans hg)
            have HW := hid (hr.wrong 5)
            clear hr hg HP3
            go_wp2_with fail
            refine HW.out.mono ?_
            rintro e W5 ⟨rfl, hr, hg⟩
            have HR5 := hid hr
            have HG5 := hid (HGX.out.trans hg)
            clear hr hg
            go_wp2_with fail
            go_ret
            exact EscP.no HNO.out HR5.out HG5.out
          | true =>
            rw [hb1, passJ_yes hb1] at HP3
            cases hb2 : preX [117] (r1.drop 1) with
            | false =>
              have HNO : Hid (escJ (117 :: r) = none) := HU.out.trans (uni_np H4.out hs1 hs2 (by rw [pre_bu, hb1, hb2]; rfl))
              have HPU2 := hid (HPU.out (r1.drop 1))
              rw [hb2] at HPU2
              clear HPU HF4 HU H4 hb1 hb2
              go_wp2_with fail
              refine HP3.out.mono ?_
              rintro e W4 ⟨rfl, hr, hg⟩
              have HG4 := hid (HG3.out.trans hg)
              have HP4 := hid (HPU2.out W4 hr)
              clear hr hg HP3 HPU2
              go_wp2_with fail
              refine HP4.out.mono ?_
              rintro e W4 ⟨rfl, hr, hg⟩
              have HGX := hid (HG4.out.trans hg)
              have HW := hid (hr.wrong 5)
              clear hr hg HP4
              go_wp2_with fail
              refine HW.out.mono ?_
              rintro e W5 ⟨rfl, hr, hg⟩
              have HR5 := hid hr
              have HG5 := hid (HGX.out.trans hg)
              clear hr hg
              go_wp2_with fail
              go_ret
              exact EscP.no HNO.out HR5.out HG5.out
            | true =>
              have hbu : preX [92, 117] r1 = true := by rw [pre_bu, hb1, hb2]; rfl
              have HPU2 := hid (HPU.out (r1.drop 1))
              have hdd : (r1.drop 1).drop ([117] : List UInt8).length = r1.drop 2 := by rw [List.drop_drop]; rfl
              rw [hb2, passJ_yes hb2, hdd] at HPU2
              have HF2 := hid (HF4.out (r1.drop 2))
              have HBU := hid hbu
              clear HPU HF4 hb1 hb2 hdd hbu
              go_wp2_with fail
              refine HP3.out.mono ?_
              rintro e W4 ⟨rfl, hr, hg⟩
              have HG4 := hid (HG3.out.trans hg)
              have HP4 := hid (HPU2.out W4 hr)
              clear hr hg HP3 HPU2
              go_wp2_with fail
              refine HP4.out.mono ?_
              rintro e W6 ⟨rfl, hr, hg⟩
              have HG6 := hid (HG4.out.trans hg)
              have HF6 := hid (HF2.out W6 hr)
              clear hr hg HP4 HF2
              cases h5 : fourJ (r1.drop 2) with
              | none =>
                have HNO : Hid (escJ (117 :: r) = none) := HU.out.trans (uni_n2 H4.out hs1 hs2 h5)
                have HC : Hid (Calls Tryz.prog 121 #[.pointer (some ⟨R, 0, none⟩)] W6 fun x w' => x = .returned (.int .i64 (-1)) ∧ Re w' R s m 5 ∧ W6.grownBy w' (some R)) := HF6.out.mono fun x w' hh => ⟨(hh.2.1 h5).1, (hh.2.1 h5).2, hh.2.2⟩
                clear HF6 HU H4 h5 HBU
                go_wp2_with fail
                refine HC.out.mono ?_
                rintro e W7 ⟨rfl, hr, hg⟩
                have HGX := hid (HG6.out.trans hg)
                have HW := hid (hr.wrong (by decide) 5)
                clear hr hg HC
                go_wp2_with fail
                refine HW.out.mono ?_
                rintro e W5 ⟨rfl, hr, hg⟩
                have HR5 := hid hr
                have HG5 := hid (HGX.out.trans hg)
                clear hr hg
                go_wp2_with fail
                go_ret
                exact EscP.no HNO.out HR5.out HG5.out
              | some q2 =>
                obtain ⟨b, r2⟩ := q2
                have hbl : b < 65536 := four_lt h5
                have HC : Hid (Calls Tryz.prog 121 #[.pointer (some ⟨R, 0, none⟩)] W6 fun x w' => x = .returned (.int .i64 (b : Nat)) ∧ Rl w' R s r2 m ∧ W6.grownBy w' (some R)) := HF6.out.mono fun x w' hh => ⟨(hh.1 b r2 h5).1, (hh.1 b r2 h5).2.1, hh.2.2⟩
                clear HF6
                by_cases hb1 : b < 56320
                · have k1 : (b : Int) < 56320 := by omega
                  have HNO : Hid (escJ (117 :: r) = none) := HU.out.trans (uni_nb H4.out hs1 hs2 h5 (.inl hb1))
                  clear HU H4 h5 HBU
                  go_wp2_with fail
                  refine HC.out.mono ?_
                  rintro e W7 ⟨rfl, hr, hg⟩
                  have HGX := hid (HG6.out.trans hg)
                  have HW := hid (hr.wrong 5)
                  clear hr hg HC
                  go_wp2_with fail
                  refine HW.out.mono ?_
                  rintro e W5 ⟨rfl, hr, hg⟩
                  have HR5 := hid hr
                  have HG5 := hid (HGX.out.trans hg)
                  clear hr hg
                  go_wp2_with fail
                  go_ret
                  exact EscP.no HNO.out HR5.out HG5.out
                · have k1 : ¬ (b : Int) < 56320 := by omega
                  by_cases hb2 : 57343 < b
                  · have k2 : (57343 : Int) < (b : Int) := by omega
                    have HNO : Hid (escJ (117 :: r) = none) := HU.out.trans (uni_nb H4.out hs1 hs2 h5 (.inr (by omega)))
                    clear HU H4 h5 HBU
                    go_wp2_with fail
                    refine HC.out.mono ?_
                    rintro e W7 ⟨rfl, hr, hg⟩
                    have HGX := hid (HG6.out.trans hg)
                    have HW := hid (hr.wrong 5)
                    clear hr hg HC
                    go_wp2_with fail
                    refine HW.out.mono ?_
                    rintro e W5 ⟨rfl, hr, hg⟩
                    have HR5 := hid hr
                    have HG5 := hid (HGX.out.trans hg)
                    clear hr hg
                    go_wp2_with fail
                    go_ret
                    exact EscP.no HNO.out HR5.out HG5.out
                  · have k2 : ¬ (57343 : Int) < (b : Int) := by omega
                    have HY : Hid (escJ (117 :: r) = some (pairJ a b, r2)) := HU.out.trans (uni_two H4.out hs1 hs2 HBU.out h5 (by omega) (by omega))
                    obtain ⟨V, hV⟩ : ∃ V, pairJ a b = V := ⟨_, rfl⟩
                    have hVv : V = 65536 + (a - 55296) * 1024 + (b - 56320) := hV.symm
                    have hvr : validR V = true := validR_iff.2 (by omega)
                    obtain ⟨A, hA⟩ : ∃ A : Nat, A = a - 55296 := ⟨_, rfl⟩
                    obtain ⟨B, hB⟩ : ∃ B : Nat, B = A * 1024 := ⟨_, rfl⟩
                    obtain ⟨C, hC⟩ : ∃ C : Nat, C = 65536 + B := ⟨_, rfl⟩
                    obtain ⟨D, hD⟩ : ∃ D : Nat, D = C + b := ⟨_, rfl⟩
                    have z1 : (a : Int) - 55296 = (A : Int) := by omega
                    have z2 : (A : Int) * 1024 = (B : Int) := by omega
                    have z3 : 65536 + (B : Int) = (C : Int) := by omega
                    have z4 : (C : Int) + (b : Int) = (D : Int) := by omega
                    have z5 : (D : Int) - 56320 = (V : Int) := by omega
                    have y1 : A ≤ 1024 := by omega
                    have y2 : B ≤ 1048576 := by omega
                    have y3 : C ≤ 2000000 := by omega
                    have y4 : D ≤ 3000000 := by omega
                    have y5 : V ≤ 3000000 := by omega
                    have HU8 := hid (fun W => Utf8_any V (by omega) W)
                    rw [utfS_yes hvr, hvr] at HU8
                    rw [hV] at HY
                    clear HU H4 h5 HBU hV hvr hVv hA hB hC hD
                    go_wp2_with fail
                    refine HC.out.mono ?_
                    rintro e W7 ⟨rfl, hr, hg⟩
                    have HR7 := hid hr
                    have HG7 := hid (HG6.out.trans hg)
                    have HU9 := hid (HU8.out W7)
                    clear hr hg HC HU8 hs1 hs2 ha hbl hb1 hb2 g1 g2 hp hs
                    go_wp2_with fail
                    refine HU9.out.mono ?_
                    rintro e W8 ⟨rfl, hb⟩
                    have HR8 := hid (HR7.out.below hb)
                    have HG8 := hid (HG7.out.trans (to_below (R := R) hb))
                    clear hb HU9
                    go_wp2_with fail
                    go_ret
                    exact EscP.yes HY.out rfl HR8.out HG8.out
        · by_cases h1 : a < 55296
          · skip
            have g1 : ¬ (55296 : Int) ≤ (a : Int) := by omega
            have g1' : decide ((55296 : Int) ≤ (a : Int)) = false := decide_eq_false g1
            have HU8 := hid (fun W => Utf8_any a (by omega) W)
            have hvr : validR a = true := validR_iff.2 (by omega)
            have HY : Hid (escJ (117 :: r) = some (a, r1)) := HU.out.trans (uni_one H4.out (by omega))
            rw [utfS_yes hvr, hvr] at HU8
            clear HU H4 HPB HPU HF4 hvr
            go_wp2_with fail
            refine HC.out.mono ?_
            rintro e W3 ⟨rfl, hr, hg⟩
            have HR3 := hid hr
            have HG3 := hid (HG2.out.trans hg)
            have HU9 := hid (HU8.out W3)
            clear hr hg HC HU8
            go_wp2_with fail
            refine HU9.out.mono ?_
            rintro e W4 ⟨rfl, hb⟩
            have HR4 := hid (HR3.out.below hb)
            have HGX := hid (HG3.out.trans (to_below (R := R) hb))
            clear hb HU9
            go_wp2_with fail
            go_ret
            exact EscP.yes HY.out rfl HR4.out HGX.out
          · have g1 : (55296 : Int) ≤ (a : Int) := by omega
            have g2 : ¬ (a : Int) < 56320 := by omega
            have g2' : decide ((a : Int) < 56320) = false := decide_eq_false g2
            by_cases h2 : a < 57344
            · skip
              have HU8 := hid (fun W => Utf8_any a (by omega) W)
              have hvr : validR a = false := by
                cases hv : validR a with
                | false => rfl
                | true => have := validR_iff.1 hv; omega
              have HNO : Hid (escJ (117 :: r) = none) := HU.out.trans (uni_low H4.out (by omega) (by omega))
              rw [utfS_no hvr, hvr, show asS [] = ⟨#[]⟩ from rfl] at HU8
              clear HU H4 HPB HPU HF4 hvr
              go_wp2_with fail
              refine HC.out.mono ?_
              rintro e W3 ⟨rfl, hr, hg⟩
              have HR3 := hid hr
              have HG3 := hid (HG2.out.trans hg)
              have HU9 := hid (HU8.out W3)
              clear hr hg HC HU8
              go_wp2_with fail
              refine HU9.out.mono ?_
              rintro e W4 ⟨rfl, hb⟩
              have HR4 := hid (HR3.out.below hb)
              have HGX := hid (HG3.out.trans (to_below (R := R) hb))
              clear hb HU9
              have HW := hid (HR4.out.wrong 5)
              go_wp2_with fail
              refine HW.out.mono ?_
              rintro e W5 ⟨rfl, hr, hg⟩
              have HR5 := hid hr
              have HG5 := hid (HGX.out.trans hg)
              clear hr hg
              go_wp2_with fail
              go_ret
              exact EscP.no HNO.out HR5.out HG5.out
            · skip
              have HU8 := hid (fun W => Utf8_any a (by omega) W)
              have hvr : validR a = true := validR_iff.2 (by omega)
              have HY : Hid (escJ (117 :: r) = some (a, r1)) := HU.out.trans (uni_one H4.out (by omega))
              rw [utfS_yes hvr, hvr] at HU8
              clear HU H4 HPB HPU HF4 hvr
              go_wp2_with fail
              refine HC.out.mono ?_
              rintro e W3 ⟨rfl, hr, hg⟩
              have HR3 := hid hr
              have HG3 := hid (HG2.out.trans hg)
              have HU9 := hid (HU8.out W3)
              clear hr hg HC HU8
              go_wp2_with fail
              refine HU9.out.mono ?_
              rintro e W4 ⟨rfl, hb⟩
              have HR4 := hid (HR3.out.below hb)
              have HGX := hid (HG3.out.trans (to_below (R := R) hb))
              clear hb HU9
              go_wp2_with fail
              go_ret
              exact EscP.yes HY.out rfl HR4.out HGX.out
    have hne : plainE c = none ∧ c ≠ 117 := ⟨by unfold plainE; simp only [c34, c92, c47, c98, c102, c110, c114, c116, if_false], c117⟩
    have hno : escJ (c :: r) = none := by
      show (if c = 117 then _ else _) = _
      rw [if_neg hne.2, hne.1]
      rfl
    have HNO := hid hno
    have hcs : c.toNat ≠ 34 ∧ c.toNat ≠ 92 ∧ c.toNat ≠ 47 ∧ c.toNat ≠ 98 ∧ c.toNat ≠ 102 ∧ c.toNat ≠ 110 ∧ c.toNat ≠ 114 ∧ c.toNat ≠ 116 ∧ c.toNat ≠ 117 := ⟨(fun e => c34 (UInt8.toNat_inj.1 e)), (fun e => c92 (UInt8.toNat_inj.1 e)), (fun e => c47 (UInt8.toNat_inj.1 e)), (fun e => c98 (UInt8.toNat_inj.1 e)), (fun e => c102 (UInt8.toNat_inj.1 e)), (fun e => c110 (UInt8.toNat_inj.1 e)), (fun e => c114 (UInt8.toNat_inj.1 e)), (fun e => c116 (UInt8.toNat_inj.1 e)), (fun e => c117 (UInt8.toNat_inj.1 e))⟩
    clear hno hne
    generalize c.toNat = cn at HN hcs
    clear c34 c92 c47 c98 c102 c110 c114 c116 c117
    go_enter Tryz.func97, Tryz.ntmps97
    go_wp2_with fail
    refine HN.out.mono ?_
    rintro e W1 ⟨rfl, hb⟩
    have hr1 := HROW.out.below hb
    obtain ⟨_, f1, _, _⟩ := hr1.cells
    have HG1 := hid (to_below (R := R) hb)
    unfold Rq at hr1
    have HR1 := hid hr1
    clear hb hr1 HN HROW
    go_wp2_with (first
      | (refine store_part rfl 3 _ _ rfl R 1 (.int .i64 ((p : Int) + 1)) _ _ #[.string (asS s), .int .i64 ((p : Int) + 1), .int .i64 m, .int .i64 ((0 : Nat) : Int)] rfl rfl info3q (by simp) rfl rfl HR1.out rfl ?_)
      | fail)
    intro W2 ho hr
    have hrq : Rq W2 R s (p + 1) m 0 := by unfold Rq; rw [show ((p + 1 : Nat) : Int) = (p : Int) + 1 from by omega]; exact hr
    have HG2 := hid (HG1.out.trans (to_only ho))
    have HW := hid (HERR.out W2 hrq)
    clear ho hr hrq HERR HNX
    obtain ⟨v1, v2, v3, v4, v5, v6, v7, v8, v9⟩ := hcs
    have q34 : ((cn : Int) == 34) = false := by rw [beq_eq_false_iff_ne]; omega
    have q92 : ((cn : Int) == 92) = false := by rw [beq_eq_false_iff_ne]; omega
    have q47 : ((cn : Int) == 47) = false := by rw [beq_eq_false_iff_ne]; omega
    have q98 : ((cn : Int) == 98) = false := by rw [beq_eq_false_iff_ne]; omega
    have q102 : ((cn : Int) == 102) = false := by rw [beq_eq_false_iff_ne]; omega
    have q110 : ((cn : Int) == 110) = false := by rw [beq_eq_false_iff_ne]; omega
    have q114 : ((cn : Int) == 114) = false := by rw [beq_eq_false_iff_ne]; omega
    have q116 : ((cn : Int) == 116) = false := by rw [beq_eq_false_iff_ne]; omega
    have q117 : ((cn : Int) == 117) = false := by rw [beq_eq_false_iff_ne]; omega
    go_wp2_with fail
    refine HW.out.mono ?_
    rintro e W3 ⟨rfl, hr, hg⟩
    have HR3 := hid hr
    have HG3 := hid (HG2.out.trans hg)
    clear hr hg
    go_wp2_with fail
    go_ret
    exact EscP.no HNO.out HR3.out HG3.out
end Go.Proofs.YtlgkbdebpnbndaaGreatDoor
