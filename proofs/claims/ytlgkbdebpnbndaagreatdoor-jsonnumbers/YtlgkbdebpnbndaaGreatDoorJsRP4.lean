
/- The reference's reader: a value; the law JsonParses. -/
import Derived.Test.YtlgkbdebpnbndaaGreatDoorJsRdC
import Derived.Test.YtlgkbdebpnbndaaGreatDoorJsRP1
import Derived.Test.YtlgkbdebpnbndaaGreatDoorJsPaL
namespace Go.Proofs.YtlgkbdebpnbndaaGreatDoor
set_option linter.unusedVariables false
set_option linter.unusedSimpArgs false
open Go.RowKit Go.BigFrame
attribute [local go_sem ↓] loadV_eq buildV_eq

section
variable {α : Type} {leaf : LabJ → α} {nest : Bool → List UInt8 → Nat → Except Nat (α × List UInt8 × Nat)} {r : List UInt8} {m : Nat}
theorem num_no {c : UInt8} (h1 : c ≠ 45) (h2 : digJ c = false) : numJ (c :: r) = .error 5 := by
  have h48 : c ≠ 48 := fun e => by rw [e] at h2; revert h2; decide
  have e1 : preX [45] (c :: r) = false := by
    unfold preX
    have : (45 == c) = false := by rw [beq_eq_false_iff_ne]; exact fun e => h1 e.symm
    simp [List.isPrefixOf, this]
  have e2 : preX [48] (c :: r) = false := by
    unfold preX
    have : (48 == c) = false := by rw [beq_eq_false_iff_ne]; exact fun e => h48 e.symm
    simp [List.isPrefixOf, this]
  unfold numJ minJ intJ
  rw [e1]
  simp only [Bool.false_eq_true, if_false]
  rw [e2]
  simp [h2]
theorem num_nil : numJ [] = .error 5 := rfl
theorem pre_hd {c c2 : UInt8} {p : List UInt8} (h : c ≠ c2) : preX (c :: p) (c2 :: r) = false := by
  unfold preX
  have : (c == c2) = false := by rw [beq_eq_false_iff_ne]; exact h
  simp [List.isPrefixOf, this]
theorem pre_oneQ (c : UInt8) : preX [c] (c :: r) = true := by
  unfold preX
  simp [List.isPrefixOf]
theorem atom_91 : atomJ leaf nest (91 :: r) m = nest false r m := atom_list (pre_hd (by decide)) (pre_hd (by decide)) (pre_hd (by decide)) (pre_hd (by decide)) (pre_oneQ 91)
theorem atom_123 : atomJ leaf nest (123 :: r) m = nest true r m := atom_obj (pre_hd (by decide)) (pre_hd (by decide)) (pre_hd (by decide)) (pre_hd (by decide)) (pre_hd (by decide)) (pre_oneQ 123)
theorem atom_rest {c : UInt8} (h1 : c ≠ 110) (h2 : c ≠ 116) (h3 : c ≠ 102) (h4 : c ≠ 34) (h5 : c ≠ 91) (h6 : c ≠ 123) : atomJ leaf nest (c :: r) m = (match numJ (c :: r) with
    | .error e => .error e
    | .ok (v, r) => .ok (leaf (2, v, [], []), r, m)) := by
  cases hn : numJ (c :: r) with
  | error k => exact atom_nno (pre_hd (fun e => h1 e.symm)) (pre_hd (fun e => h2 e.symm)) (pre_hd (fun e => h3 e.symm)) (pre_hd (fun e => h4 e.symm)) (pre_hd (fun e => h5 e.symm)) (pre_hd (fun e => h6 e.symm)) hn
  | ok q => exact atom_num (pre_hd (fun e => h1 e.symm)) (pre_hd (fun e => h2 e.symm)) (pre_hd (fun e => h3 e.symm)) (pre_hd (fun e => h4 e.symm)) (pre_hd (fun e => h5 e.symm)) (pre_hd (fun e => h6 e.symm)) hn
theorem atom_nil : atomJ leaf nest [] m = .error 5 := rfl
theorem beg_cases {c : UInt8} (h : begJ c = true) : c = 110 ∨ c = 116 ∨ c = 102 ∨ c = 34 ∨ c = 91 ∨ c = 123 ∨ c = 45 ∨ digJ c = true := by
  simp [begJ] at h
  rcases h with h | h | h | h | h | h | h | h | h | h | h | h | h | h | h | h | h
  all_goals (subst h; first | (left; rfl) | (right; left; rfl) | (right; right; left; rfl) | (right; right; right; left; rfl) | (right; right; right; right; left; rfl) | (right; right; right; right; right; left; rfl) | (right; right; right; right; right; right; left; rfl) | (right; right; right; right; right; right; right; rfl))
theorem beg_dig {c : UInt8} (h : digJ c = true) : begJ c = true := by
  unfold digJ at h
  rw [decide_eq_true_eq] at h
  have : c = 48 ∨ c = 49 ∨ c = 50 ∨ c = 51 ∨ c = 52 ∨ c = 53 ∨ c = 54 ∨ c = 55 ∨ c = 56 ∨ c = 57 := by
    have e : ∀ k : Nat, k < 256 → c.toNat = k → c = UInt8.ofNat k := fun k hk h => by rw [← h, UInt8.ofNat_toNat]
    obtain ⟨h1, h2⟩ := h
    have : c.toNat = 48 ∨ c.toNat = 49 ∨ c.toNat = 50 ∨ c.toNat = 51 ∨ c.toNat = 52 ∨ c.toNat = 53 ∨ c.toNat = 54 ∨ c.toNat = 55 ∨ c.toNat = 56 ∨ c.toNat = 57 := by omega
    rcases this with h | h | h | h | h | h | h | h | h | h
    · exact .inl (e _ (by decide) h)
    · exact .inr (.inl (e _ (by decide) h))
    · exact .inr (.inr (.inl (e _ (by decide) h)))
    · exact .inr (.inr (.inr (.inl (e _ (by decide) h))))
    · exact .inr (.inr (.inr (.inr (.inl (e _ (by decide) h)))))
    · exact .inr (.inr (.inr (.inr (.inr (.inl (e _ (by decide) h))))))
    · exact .inr (.inr (.inr (.inr (.inr (.inr (.inl (e _ (by decide) h)))))))
    · exact .inr (.inr (.inr (.inr (.inr (.inr (.inr (.inl (e _ (by decide) h))))))))
    · exact .inr (.inr (.inr (.inr (.inr (.inr (.inr (.inr (.inl (e _ (by decide) h)))))))))
    · exact .inr (.inr (.inr (.inr (.inr (.inr (.inr (.inr (.inr (e _ (by decide) h)))))))))
  rcases this with h | h | h | h | h | h | h | h | h | h
  all_goals (subst h; rfl)
end
theorem ValQ.err {d lev n R k m : Nat} {l s : List UInt8} {w w' : World} {cs : Array Value} (h : valJ d lev l n = .error k) (hk : k ≠ 0) (hz : cs.size = 5) (ho : cs.all (·.oneCell') = true) (hr : Re w' R s m k) (hg : w.grownBy w' (some R)) : ValQ d lev l n s R w (.returned (.agg cs)) w' :=
  ⟨(fun t r m h2 => by rw [h] at h2; cases h2), (fun k2 h2 => by rw [h] at h2; injection h2 with h2; subst h2; exact ⟨cs, m, rfl, hz, ho, hk, hr⟩), hg⟩
theorem ValQ.got {d lev n R m : Nat} {l s r : List UInt8} {w w' : World} {cs : Array Value} {t : VJ d} (h : valJ d lev l n = .ok (t, r, m)) (hv : VAt (fun q => w.heap.size ≤ q) d w' cs t) (hr : Rl w' R s r m) (hg : w.grownBy w' (some R)) : ValQ d lev l n s R w (.returned (.agg cs)) w' :=
  ⟨(fun t2 r2 m2 h2 => by rw [h] at h2; injection h2 with h2; injection h2 with h2 h3; injection h3 with h3 h4; subst h2 h3 h4; exact ⟨cs, rfl, hv, hr⟩), (fun k2 h2 => by rw [h] at h2; cases h2), hg⟩
theorem ValQ.leaf {d lev n R m : Nat} {l s r : List UInt8} {w w' : World} {L : LabJ} (h : valJ d lev l n = .ok (leafJ d L, r, m)) (hL : L.2.2.2 = []) (hr : Rl w' R s r m) (hg : w.grownBy w' (some R)) : ValQ d lev l n s R w (.returned (.agg (vcs L none 0 0 none 0))) w' :=
  ValQ.got h (VAt.mk0 (by rw [hL]; exact NmsP.nil _ _ _)) hr hg
set_option maxHeartbeats 8000000 in
set_option maxRecDepth 100000 in
theorem valQ_no (d lev : Nat) (l : List UInt8) (n : Nat) (s : List UInt8) (R : Nat) (w : World) (hs : s.length ≤ 100000) (hn : n ≤ 8192) (h : Rl w R s l n) (l1 : List UInt8) (hl1 : l.dropWhile whX = l1) (X : Int) (hX : ((l1.headD 0).toNat : Int) = X) (hX91 : (X != 91) = true) (hX123 : (X != 123) = true) (hX34 : (X != 34) = true) (hX116 : (X != 116) = true) (hX102 : (X != 102) = true) (hX110 : (X != 110) = true) (hX45 : (X != 45) = true) (hXd : decide (48 ≤ X) = false ∨ (decide (48 ≤ X) = true ∧ decide (X ≤ 57) = false)) (hv : valJ d lev l n = .error 5) : Calls Tryz.prog 40 #[.pointer (some ⟨R, 0, none⟩), .int .i64 (lev : Int)] w fun x w' => ValQ d lev l n s R w x w' := by
  have hs6 : s.length ≤ 1000000 := by omega
  have hRl := h.lt
  have HV := hid hv
  clear hv
  have hbu : ∀ W, (buildI 25 #[]).run Tryz.prog W = .ok (.agg #[.int .i64 0, .int .i64 0, .string ⟨#[]⟩, .slice none 0 0, .slice none 0 0]) W := fun W => run_build W 25 _ _ built_vz
  have HB := hid ((((Below.refl w.heap.size w).alloc (Nat.le_refl _) (.cells #[.int .i64 0, .int .i64 0, .string ⟨#[]⟩, .slice none 0 0, .slice none 0 0] 25)).alloc (by show _ ≤ (Array.push _ _).size; rw [Array.size_push]; omega) (.cells #[.int .i64 0, .int .i64 0, .string ⟨#[]⟩, .slice none 0 0, .slice none 0 0] 25)))
  have HQ := hid (heap_first w (.cells #[.int .i64 0, .int .i64 0, .string ⟨#[]⟩, .slice none 0 0, .slice none 0 0] 25 (0, 0)) (.cells #[.int .i64 0, .int .i64 0, .string ⟨#[]⟩, .slice none 0 0, .slice none 0 0] 25 (0, 0)))
  have HX := hid (heap_second w (.cells #[.int .i64 0, .int .i64 0, .string ⟨#[]⟩, .slice none 0 0, .slice none 0 0] 25 (0, 0)) (.cells #[.int .i64 0, .int .i64 0, .string ⟨#[]⟩, .slice none 0 0, .slice none 0 0] 25 (0, 0)))
  have hsz : (w.alloc (.cells #[.int .i64 0, .int .i64 0, .string ⟨#[]⟩, .slice none 0 0, .slice none 0 0] 25)).heap.size = w.heap.size + 1 := by simp
  obtain ⟨W0, hW0⟩ : ∃ W0, (w.alloc (.cells #[.int .i64 0, .int .i64 0, .string ⟨#[]⟩, .slice none 0 0, .slice none 0 0] 25)).alloc (.cells #[.int .i64 0, .int .i64 0, .string ⟨#[]⟩, .slice none 0 0, .slice none 0 0] 25) = W0 := ⟨_, rfl⟩
  rw [hW0] at HB HX HQ
  have HR0 := hid (h.below HB.out)
  clear h
  go_enter Tryz.func40, Tryz.ntmps40
  go_wp2_with (first
    | (refine wpList_store_abs rfl 25 (.tmp 5) (.tmp 7) rfl (w.heap.size + 1) 0 #[.int .i64 0, .int .i64 0, .string ⟨#[]⟩, .slice none 0 0, .slice none 0 0] rfl rfl 25 _ HX.out (Nat.le_refl 5) infoVj (vcs_all _ _ _ _ _ _ _ _ _) ?_; intro W1 hO hW; rw [over_whole #[.int .i64 0, .int .i64 0, .string ⟨#[]⟩, .slice none 0 0, .slice none 0 0] #[.int .i64 0, .int .i64 0, .string ⟨#[]⟩, .slice none 0 0, .slice none 0 0] rfl] at hW; have HX1 := hid hW; have HQ1 := hid ((hO.block w.heap.size (by omega)).trans HQ.out); have HR1 := hid (HR0.out.to (to_only hO) (by omega)); have HG1 := hid (grow_own ((to_below (R := R) HB.out)) (to_only hO) (fun q e => by injection e with e; omega)); clear hO hW)
    | fail)
  have HWT := hid (HR1.out.white hs6)
  rw [hl1] at HWT
  clear HX HQ HB HR0 HR1 hW0 hsz hbu
  go_wp2_with fail
  refine HWT.out.mono ?_
  rintro x W2 ⟨rfl, hr, hg⟩
  have HX2 := hid (to_row hg HX1.out (by omega))
  have HQ2 := hid (to_row hg HQ1.out (by omega))
  have HG2 := hid (HG1.out.trans hg)
  have HR2 := hid hr
  have HNW := hid hr.now
  rw [hX] at HNW
  clear hr hg HWT HX1 HQ1 HG1 hl1
  go_wp2_with fail
  refine HNW.out.mono ?_
  rintro x W3 ⟨rfl, hb⟩
  have HX3 := hid (row_keep hb HX2.out)
  have HQ3 := hid (row_keep hb HQ2.out)
  have HG3 := hid (HG2.out.trans (to_below hb))
  have HR3 := hid (HR2.out.below hb)
  clear hb HNW HX2 HQ2 HG2 HR2 hX
  have HWR := hid (HR3.out.wrong 5)
  rcases hXd with hXd | ⟨hXd, hXe⟩
  all_goals
    go_wp2_with fail
    refine HWR.out.mono ?_
    rintro x W4 ⟨rfl, hr, hg⟩
    have HX4 := hid (to_row hg HX3.out (by omega))
    have HQ4 := hid (to_row hg HQ3.out (by omega))
    have HG4 := hid (HG3.out.trans hg)
    have HR4 := hid hr
    clear hr hg HX3 HQ3 HG3 HR3
    have hld := loadV_run HX4.out rfl
    go_wp2_with (first
      | (refine wpList_store_abs rfl 25 (.tmp 4) (.tmp 49) rfl w.heap.size 0 (#[.int .i64 0, .int .i64 0, .string ⟨#[]⟩, .slice none 0 0, .slice none 0 0]) rfl rfl 25 _ HQ4.out (Nat.le_refl 5) infoVj (vcs_all _ _ _ _ _ _ _ _ _) ?_; intro W9 hO9 hW9)
      | fail)
    rw [over_whole #[.int .i64 0, .int .i64 0, .string ⟨#[]⟩, .slice none 0 0, .slice none 0 0] (#[.int .i64 0, .int .i64 0, .string ⟨#[]⟩, .slice none 0 0, .slice none 0 0]) rfl] at hW9
    refine bodyPost_ret (ret_v (p := 4) Tryz.results40 _ _ w.heap.size _ rfl (0, 0) rfl hW9) rfl ?_
    have hg9 := grow_own HG4.out (to_only hO9) (fun q e => by injection e with e; omega)
    exact ValQ.err HV.out (by decide) rfl (vcs_all _ _ _ _ _ _ _ _ _) (HR4.out.to (to_only hO9) (by omega)) hg9
set_option maxHeartbeats 8000000 in
set_option maxRecDepth 100000 in
theorem valQ_many (d lev : Nat) (l : List UInt8) (n : Nat) (s : List UInt8) (R : Nat) (w : World) (hs : s.length ≤ 100000) (hn : n ≤ 8192) (h : Rl w R s l n) (l1 : List UInt8) (hl1 : l.dropWhile whX = l1) (X : Int) (hX : ((l1.headD 0).toNat : Int) = X) (hb : X = 91 ∨ X = 123 ∨ X = 34 ∨ X = 45 ∨ X = 116 ∨ X = 102 ∨ X = 110 ∨ (decide (48 ≤ X) = true ∧ decide (X ≤ 57) = true ∧ (X != 91) = true ∧ (X != 123) = true ∧ (X != 34) = true ∧ (X != 45) = true ∧ (X != 116) = true ∧ (X != 102) = true ∧ (X != 110) = true)) (hm : n = 8192) (hv : valJ d lev l n = .error 3) : Calls Tryz.prog 40 #[.pointer (some ⟨R, 0, none⟩), .int .i64 (lev : Int)] w fun x w' => ValQ d lev l n s R w x w' := by
  have hs6 : s.length ≤ 1000000 := by omega
  have hRl := h.lt
  have HV := hid hv
  clear hv
  have hi8 : (8192 : Int) < (n : Int) + 1 := by omega
  clear hm
  have hbu : ∀ W, (buildI 25 #[]).run Tryz.prog W = .ok (.agg #[.int .i64 0, .int .i64 0, .string ⟨#[]⟩, .slice none 0 0, .slice none 0 0]) W := fun W => run_build W 25 _ _ built_vz
  have HB := hid ((((Below.refl w.heap.size w).alloc (Nat.le_refl _) (.cells #[.int .i64 0, .int .i64 0, .string ⟨#[]⟩, .slice none 0 0, .slice none 0 0] 25)).alloc (by show _ ≤ (Array.push _ _).size; rw [Array.size_push]; omega) (.cells #[.int .i64 0, .int .i64 0, .string ⟨#[]⟩, .slice none 0 0, .slice none 0 0] 25)))
  have HQ := hid (heap_first w (.cells #[.int .i64 0, .int .i64 0, .string ⟨#[]⟩, .slice none 0 0, .slice none 0 0] 25 (0, 0)) (.cells #[.int .i64 0, .int .i64 0, .string ⟨#[]⟩, .slice none 0 0, .slice none 0 0] 25 (0, 0)))
  have HX := hid (heap_second w (.cells #[.int .i64 0, .int .i64 0, .string ⟨#[]⟩, .slice none 0 0, .slice none 0 0] 25 (0, 0)) (.cells #[.int .i64 0, .int .i64 0, .string ⟨#[]⟩, .slice none 0 0, .slice none 0 0] 25 (0, 0)))
  have hsz : (w.alloc (.cells #[.int .i64 0, .int .i64 0, .string ⟨#[]⟩, .slice none 0 0, .slice none 0 0] 25)).heap.size = w.heap.size + 1 := by simp
  obtain ⟨W0, hW0⟩ : ∃ W0, (w.alloc (.cells #[.int .i64 0, .int .i64 0, .string ⟨#[]⟩, .slice none 0 0, .slice none 0 0] 25)).alloc (.cells #[.int .i64 0, .int .i64 0, .string ⟨#[]⟩, .slice none 0 0, .slice none 0 0] 25) = W0 := ⟨_, rfl⟩
  rw [hW0] at HB HX HQ
  have HR0 := hid (h.below HB.out)
  clear h
  go_enter Tryz.func40, Tryz.ntmps40
  go_wp2_with (first
    | (refine wpList_store_abs rfl 25 (.tmp 5) (.tmp 7) rfl (w.heap.size + 1) 0 #[.int .i64 0, .int .i64 0, .string ⟨#[]⟩, .slice none 0 0, .slice none 0 0] rfl rfl 25 _ HX.out (Nat.le_refl 5) infoVj (vcs_all _ _ _ _ _ _ _ _ _) ?_; intro W1 hO hW; rw [over_whole #[.int .i64 0, .int .i64 0, .string ⟨#[]⟩, .slice none 0 0, .slice none 0 0] #[.int .i64 0, .int .i64 0, .string ⟨#[]⟩, .slice none 0 0, .slice none 0 0] rfl] at hW; have HX1 := hid hW; have HQ1 := hid ((hO.block w.heap.size (by omega)).trans HQ.out); have HR1 := hid (HR0.out.to (to_only hO) (by omega)); have HG1 := hid (grow_own ((to_below (R := R) HB.out)) (to_only hO) (fun q e => by injection e with e; omega)); clear hO hW)
    | fail)
  have HWT := hid (HR1.out.white hs6)
  rw [hl1] at HWT
  clear HX HQ HB HR0 HR1 hW0 hsz hbu
  go_wp2_with fail
  refine HWT.out.mono ?_
  rintro x W2 ⟨rfl, hr, hg⟩
  have HX2 := hid (to_row hg HX1.out (by omega))
  have HQ2 := hid (to_row hg HQ1.out (by omega))
  have HG2 := hid (HG1.out.trans hg)
  have HR2 := hid hr
  have HNW := hid hr.now
  rw [hX] at HNW
  clear hr hg HWT HX1 HQ1 HG1 hl1
  go_wp2_with fail
  refine HNW.out.mono ?_
  rintro x W3 ⟨rfl, hb⟩
  have HX3 := hid (row_keep hb HX2.out)
  have HQ3 := hid (row_keep hb HQ2.out)
  have HG3 := hid (HG2.out.trans (to_below hb))
  have HR3 := hid (HR2.out.below hb)
  clear hb HNW HX2 HQ2 HG2 HR2 hX
  rcases hb with rfl | rfl | rfl | rfl | rfl | rfl | rfl | ⟨a1, a2, a3, a4, a5, a6, a7, a8, a9⟩
  all_goals
    obtain ⟨p3, e3, l3, hq3⟩ := HR3.out
    obtain ⟨-, -, c2, -⟩ := hq3.cells
    have hn1 : n ≤ 8192 := hn
    unfold Rq at hq3
    have HRW := hid hq3
    have HLP : Hid (s.drop p3 = l1 ∧ p3 ≤ s.length) := ⟨e3, l3⟩
    clear hq3 HR3 e3 l3
    go_wp2_with (first
      | (refine store_part rfl 3 _ _ rfl R 2 (.int .i64 ((n : Int) + 1)) _ _ #[.string (asS s), .int .i64 (p3 : Int), .int .i64 ((n : Int) + 1), .int .i64 ((0 : Nat) : Int)] rfl rfl info3q (by simp) rfl rfl HRW.out rfl ?_; intro W4 ho hr; have HR4 : Hid (Rl W4 R s l1 (n + 1)) := ⟨p3, HLP.out.1, HLP.out.2, by unfold Rq; rw [show ((n + 1 : Nat) : Int) = (n : Int) + 1 from by omega]; exact hr⟩; have HX4 := hid ((ho.block (w.heap.size + 1) (by omega)).trans HX3.out); have HQ4 := hid ((ho.block w.heap.size (by omega)).trans HQ3.out); have HG4 := hid (HG3.out.trans (to_only ho)); have c4 : W4.cell? ⟨R, 2, none⟩ = some (.int .i64 ((n : Int) + 1)) := cell_of_row _ _ _ _ _ _ hr; clear ho hr)
      | fail)
    have HWR := hid (HR4.out.wrong 3)
    clear c4
    refine HWR.out.mono ?_
    rintro x W5 ⟨rfl, hr, hg⟩
    have HX5 := hid (to_row hg HX4.out (by omega))
    have HQ5 := hid (to_row hg HQ4.out (by omega))
    have HG5 := hid (HG4.out.trans hg)
    have HR5 := hid hr
    clear hr hg HX4 HQ4 HG4 HR4
    have hld := loadV_run HX5.out rfl
    go_wp2_with (first
      | (refine wpList_store_abs rfl 25 (.tmp 4) (.tmp 64) rfl w.heap.size 0 (#[.int .i64 0, .int .i64 0, .string ⟨#[]⟩, .slice none 0 0, .slice none 0 0]) rfl rfl 25 _ HQ5.out (Nat.le_refl 5) infoVj (vcs_all _ _ _ _ _ _ _ _ _) ?_; intro W9 hO9 hW9)
      | fail)
    rw [over_whole #[.int .i64 0, .int .i64 0, .string ⟨#[]⟩, .slice none 0 0, .slice none 0 0] (#[.int .i64 0, .int .i64 0, .string ⟨#[]⟩, .slice none 0 0, .slice none 0 0]) rfl] at hW9
    refine bodyPost_ret (ret_v (p := 4) Tryz.results40 _ _ w.heap.size _ rfl (0, 0) rfl hW9) rfl ?_
    have hg9 := grow_own HG5.out (to_only hO9) (fun q e => by injection e with e; omega)
    exact ValQ.err HV.out (by decide) rfl (vcs_all _ _ _ _ _ _ _ _ _) (HR5.out.to (to_only hO9) (by omega)) hg9
/-- What list does, for value. -/
def NQ (d : Nat) (res : Except Nat (VJ d × List UInt8 × Nat)) (s : List UInt8) (R : Nat) (w : World) (x : Ending) (w' : World) : Prop :=
  (∀ t r m, res = .ok (t, r, m) → ∃ cs, x = .returned (.agg cs) ∧ VAt (fun q => w.heap.size ≤ q) d w' cs t ∧ Rl w' R s r m) ∧ (∀ k, res = .error k → ∃ cs m, x = .returned (.agg cs) ∧ cs.size = 5 ∧ (cs.all (·.oneCell') = true) ∧ k ≠ 0 ∧ Re w' R s m k) ∧ w.grownBy w' (some R)
def NestQOk (d lev K : Nat) (e : Int) (nest : List UInt8 → Nat → Except Nat (VJ d × List UInt8 × Nat)) : Prop := ∀ (c0 : UInt8) (l : List UInt8) (n : Nat) (s : List UInt8) (R : Nat) (w : World), s.length ≤ 100000 → n ≤ 8192 → Rl w R s (c0 :: l) n → Calls Tryz.prog 69 #[.pointer (some ⟨R, 0, none⟩), .agg #[.int .i64 (K : Int), .int .i64 0, .string ⟨#[]⟩, .slice none 0 0, .slice none 0 0], .int .u8 e, .int .i64 ((lev : Int) + 1)] w fun x w' => NQ d (nest l n) s R w x w'
theorem Rl.at {w w' : World} {R m : Nat} {s l : List UInt8} (h : Rl w R s l m) (e : w'.heap[R]? = w.heap[R]?) : Rl w' R s l m := by
  obtain ⟨p, h1, h2, h3⟩ := h
  exact ⟨p, h1, h2, e.trans h3⟩
theorem Re.at {w w' : World} {R m k : Nat} {s : List UInt8} (h : Re w R s m k) (e : w'.heap[R]? = w.heap[R]?) : Re w' R s m k := by
  obtain ⟨p, h2, h3⟩ := h
  exact ⟨p, h2, e.trans h3⟩
theorem info9q : (Tryz.prog.info? 9).map (·.size) = some 1 := by kernel_rfl
theorem info2q : (Tryz.prog.info? 2).map (·.size) = some 1 := by kernel_rfl
end Go.Proofs.YtlgkbdebpnbndaaGreatDoor
namespace Go.Proofs.YtlgkbdebpnbndaaGreatDoor
set_option linter.unusedVariables false
set_option linter.unusedSimpArgs false
open Go.RowKit Go.BigFrame
attribute [local go_sem ↓] loadV_eq buildV_eq

set_option maxHeartbeats 8000000 in
set_option maxRecDepth 100000 in
theorem valQ_91 (d lev : Nat) (l : List UInt8) (n : Nat) (s : List UInt8) (R : Nat) (w : World) (hs : s.length ≤ 100000) (hn : n ≤ 8192) (h : Rl w R s l n) (l1 : List UInt8) (hl1 : l.dropWhile whX = l1) (hlev : lev ≤ 1000) (r : List UInt8) (hX : ((l1.headD 0).toNat : Int) = 91) (hc : l1 = 91 :: r) (hm : n + 1 ≤ 8192) (nest : List UInt8 → Nat → Except Nat (VJ d × List UInt8 × Nat)) (HL : NestQOk d lev 4 93 nest) (hv : valJ d lev l n = nest r (n + 1)) : Calls Tryz.prog 40 #[.pointer (some ⟨R, 0, none⟩), .int .i64 (lev : Int)] w fun x w' => ValQ d lev l n s R w x w' := by
  have hs6 : s.length ≤ 1000000 := by omega
  have hRl := h.lt
  have HV := hid hv
  have HLL := hid HL
  clear hv HL
  have hi8 : ¬ (8192 : Int) < (n : Int) + 1 := by omega
  have HC : Hid (∀ W, Hid (Rl W R s l1 (n + 1)) → Hid (w.grownBy W (some R)) → w.heap.size < W.heap.size → Calls Tryz.prog 69 #[.pointer (some ⟨R, 0, none⟩), .agg #[.int .i64 4, .int .i64 0, .string ⟨#[]⟩, .slice none 0 0, .slice none 0 0], .int .u8 93, .int .i64 ((lev : Int) + 1)] W fun x w' => ∃ cs, x = .returned (.agg cs) ∧ Hid (cs.size = 5 ∧ (cs.all (·.oneCell') = true)) ∧ Hid (W.grownBy w' (some R)) ∧ Hid (∀ w9, Only w.heap.size w' w9 → ValQ d lev l n s R w (.returned (.agg cs)) w9)) := fun W hr hg hlt => (HLL.out 91 r (n + 1) s R W hs hm (by rw [← hc]; exact hr)).mono fun x w' hh => by
    have hgr : ∀ w9, Only w.heap.size w' w9 → w.grownBy w9 (some R) := fun w9 ho => grow_own (hg.out.trans hh.2.2) (to_only ho) (fun q e => by injection e with e; omega)
    cases hres : nest r (n + 1) with
    | error k =>
      obtain ⟨cs, m, h1, h2, h3, h4, h5⟩ := hh.2.1 k hres
      exact ⟨cs, h1, ⟨h2, h3⟩, hh.2.2, fun w9 ho => ValQ.err (HV.out.trans hres) h4 h2 h3 (h5.to (to_only ho) (by omega)) (hgr w9 ho)⟩
    | ok q =>
      obtain ⟨t, r2, m⟩ := q
      obtain ⟨cs, h1, h2, h3⟩ := hh.1 t r2 m hres
      have hg1 := hg.out.size
      exact ⟨cs, h1, ⟨h2.size, vcs_one h2⟩, hh.2.2, fun w9 ho => ValQ.got (HV.out.trans hres) ((h2.to (to_only ho) (fun q hq => by omega)).mono fun q hq _ => by omega) (h3.to (to_only ho) (by omega)) (hgr w9 ho)⟩
  clear hc HV HLL
  have hbu : ∀ W, (buildI 25 #[]).run Tryz.prog W = .ok (.agg #[.int .i64 0, .int .i64 0, .string ⟨#[]⟩, .slice none 0 0, .slice none 0 0]) W := fun W => run_build W 25 _ _ built_vz
  have HB := hid ((((Below.refl w.heap.size w).alloc (Nat.le_refl _) (.cells #[.int .i64 0, .int .i64 0, .string ⟨#[]⟩, .slice none 0 0, .slice none 0 0] 25)).alloc (by show _ ≤ (Array.push _ _).size; rw [Array.size_push]; omega) (.cells #[.int .i64 0, .int .i64 0, .string ⟨#[]⟩, .slice none 0 0, .slice none 0 0] 25)))
  have HQ := hid (heap_first w (.cells #[.int .i64 0, .int .i64 0, .string ⟨#[]⟩, .slice none 0 0, .slice none 0 0] 25 (0, 0)) (.cells #[.int .i64 0, .int .i64 0, .string ⟨#[]⟩, .slice none 0 0, .slice none 0 0] 25 (0, 0)))
  have HX := hid (heap_second w (.cells #[.int .i64 0, .int .i64 0, .string ⟨#[]⟩, .slice none 0 0, .slice none 0 0] 25 (0, 0)) (.cells #[.int .i64 0, .int .i64 0, .string ⟨#[]⟩, .slice none 0 0, .slice none 0 0] 25 (0, 0)))
  have hsz : (w.alloc (.cells #[.int .i64 0, .int .i64 0, .string ⟨#[]⟩, .slice none 0 0, .slice none 0 0] 25)).heap.size = w.heap.size + 1 := by simp
  obtain ⟨W0, hW0⟩ : ∃ W0, (w.alloc (.cells #[.int .i64 0, .int .i64 0, .string ⟨#[]⟩, .slice none 0 0, .slice none 0 0] 25)).alloc (.cells #[.int .i64 0, .int .i64 0, .string ⟨#[]⟩, .slice none 0 0, .slice none 0 0] 25) = W0 := ⟨_, rfl⟩
  rw [hW0] at HB HX HQ
  have HR0 := hid (h.below HB.out)
  clear h
  go_enter Tryz.func40, Tryz.ntmps40
  go_wp2_with (first
    | (refine wpList_store_abs rfl 25 (.tmp 5) (.tmp 7) rfl (w.heap.size + 1) 0 #[.int .i64 0, .int .i64 0, .string ⟨#[]⟩, .slice none 0 0, .slice none 0 0] rfl rfl 25 _ HX.out (Nat.le_refl 5) infoVj (vcs_all _ _ _ _ _ _ _ _ _) ?_; intro W1 hO hW; rw [over_whole #[.int .i64 0, .int .i64 0, .string ⟨#[]⟩, .slice none 0 0, .slice none 0 0] #[.int .i64 0, .int .i64 0, .string ⟨#[]⟩, .slice none 0 0, .slice none 0 0] rfl] at hW; have HX1 := hid hW; have HQ1 := hid ((hO.block w.heap.size (by omega)).trans HQ.out); have HR1 := hid (HR0.out.to (to_only hO) (by omega)); have HG1 := hid (grow_own ((to_below (R := R) HB.out)) (to_only hO) (fun q e => by injection e with e; omega)); clear hO hW)
    | fail)
  have HWT := hid (HR1.out.white hs6)
  rw [hl1] at HWT
  clear HX HQ HB HR0 HR1 hW0 hsz hbu
  go_wp2_with fail
  refine HWT.out.mono ?_
  rintro x W2 ⟨rfl, hr, hg⟩
  have HX2 := hid (to_row hg HX1.out (by omega))
  have HQ2 := hid (to_row hg HQ1.out (by omega))
  have HG2 := hid (HG1.out.trans hg)
  have HR2 := hid hr
  have HNW := hid hr.now
  rw [hX] at HNW
  clear hr hg HWT HX1 HQ1 HG1 hl1
  go_wp2_with fail
  refine HNW.out.mono ?_
  rintro x W3 ⟨rfl, hb⟩
  have HX3 := hid (row_keep hb HX2.out)
  have HQ3 := hid (row_keep hb HQ2.out)
  have HG3 := hid (HG2.out.trans (to_below hb))
  have HR3 := hid (HR2.out.below hb)
  clear hb HNW HX2 HQ2 HG2 HR2 hX
  obtain ⟨p3, e3, l3, hq3⟩ := HR3.out
  obtain ⟨-, -, c2, -⟩ := hq3.cells
  have hn1 : n ≤ 8192 := hn
  unfold Rq at hq3
  have HRW := hid hq3
  have HLP : Hid (s.drop p3 = l1 ∧ p3 ≤ s.length) := ⟨e3, l3⟩
  clear hq3 HR3 e3 l3
  go_wp2_with (first
    | (refine store_part rfl 3 _ _ rfl R 2 (.int .i64 ((n : Int) + 1)) _ _ #[.string (asS s), .int .i64 (p3 : Int), .int .i64 ((n : Int) + 1), .int .i64 ((0 : Nat) : Int)] rfl rfl info3q (by simp) rfl rfl HRW.out rfl ?_; intro W4 ho hr; have HR4 : Hid (Rl W4 R s l1 (n + 1)) := ⟨p3, HLP.out.1, HLP.out.2, by unfold Rq; rw [show ((n + 1 : Nat) : Int) = (n : Int) + 1 from by omega]; exact hr⟩; have HX4 := hid ((ho.block (w.heap.size + 1) (by omega)).trans HX3.out); have HQ4 := hid ((ho.block w.heap.size (by omega)).trans HQ3.out); have HG4 := hid (HG3.out.trans (to_only ho)); have c4 : W4.cell? ⟨R, 2, none⟩ = some (.int .i64 ((n : Int) + 1)) := cell_of_row _ _ _ _ _ _ hr; clear ho hr)
    | (refine store_part rfl 3 _ _ rfl (w.heap.size + 1) 0 (.int .i64 4) _ #[.int .i64 0, .int .i64 0, .string ⟨#[]⟩, .slice none 0 0, .slice none 0 0] #[.int .i64 4, .int .i64 0, .string ⟨#[]⟩, .slice none 0 0, .slice none 0 0] rfl rfl info3q (by simp) rfl rfl HX4.out rfl ?_; intro W5 ho hr; have HX5 := hid hr; have hld := loadV_run hr rfl; have HQ5 := hid ((ho.block w.heap.size (by omega)).trans HQ4.out); have HR5 := hid (HR4.out.to (to_only ho) (by omega)); have HG5 := hid (grow_own HG4.out (to_only ho) (fun q e => by injection e with e; omega)); clear ho hr)
    | fail)
  have HC5 := hid (HC.out W5 HR5 HG5 (Array.getElem?_eq_some_iff.1 HQ5.out).1)
  clear hld c4 HX4 HQ4 HG4 HR4 HC
  refine HC5.out.mono ?_
  rintro x W6 ⟨cs, rfl, HCS, HG6, HFIN⟩
  have HQ6 := hid (to_row HG6.out HQ5.out (by omega))
  clear HC5 HX5 HQ5 HG5 HR5
  go_wp2_with (first
    | (refine wpList_store_abs rfl 25 (.tmp 4) (.tmp 77) rfl w.heap.size 0 cs rfl rfl 25 _ HQ6.out (by rw [HCS.out.1]; exact Nat.le_refl _) (by rw [HCS.out.1]; exact infoVj) HCS.out.2 ?_; intro W9 hO9 hW9)
    | fail)
  rw [over_whole #[.int .i64 0, .int .i64 0, .string ⟨#[]⟩, .slice none 0 0, .slice none 0 0] cs (by rw [HCS.out.1]; rfl)] at hW9
  exact bodyPost_ret (ret_v (p := 4) Tryz.results40 _ _ w.heap.size _ HCS.out.1 (0, 0) rfl hW9) rfl (HFIN.out _ hO9)
set_option maxHeartbeats 8000000 in
set_option maxRecDepth 100000 in
theorem valQ_123 (d lev : Nat) (l : List UInt8) (n : Nat) (s : List UInt8) (R : Nat) (w : World) (hs : s.length ≤ 100000) (hn : n ≤ 8192) (h : Rl w R s l n) (l1 : List UInt8) (hl1 : l.dropWhile whX = l1) (hlev : lev ≤ 1000) (r : List UInt8) (hX : ((l1.headD 0).toNat : Int) = 123) (hc : l1 = 123 :: r) (hm : n + 1 ≤ 8192) (nest : List UInt8 → Nat → Except Nat (VJ d × List UInt8 × Nat)) (HL : NestQOk d lev 5 125 nest) (hv : valJ d lev l n = nest r (n + 1)) : Calls Tryz.prog 40 #[.pointer (some ⟨R, 0, none⟩), .int .i64 (lev : Int)] w fun x w' => ValQ d lev l n s R w x w' := by
  have hs6 : s.length ≤ 1000000 := by omega
  have hRl := h.lt
  have HV := hid hv
  have HLL := hid HL
  clear hv HL
  have hi8 : ¬ (8192 : Int) < (n : Int) + 1 := by omega
  have HC : Hid (∀ W, Hid (Rl W R s l1 (n + 1)) → Hid (w.grownBy W (some R)) → w.heap.size < W.heap.size → Calls Tryz.prog 69 #[.pointer (some ⟨R, 0, none⟩), .agg #[.int .i64 5, .int .i64 0, .string ⟨#[]⟩, .slice none 0 0, .slice none 0 0], .int .u8 125, .int .i64 ((lev : Int) + 1)] W fun x w' => ∃ cs, x = .returned (.agg cs) ∧ Hid (cs.size = 5 ∧ (cs.all (·.oneCell') = true)) ∧ Hid (W.grownBy w' (some R)) ∧ Hid (∀ w9, Only w.heap.size w' w9 → ValQ d lev l n s R w (.returned (.agg cs)) w9)) := fun W hr hg hlt => (HLL.out 123 r (n + 1) s R W hs hm (by rw [← hc]; exact hr)).mono fun x w' hh => by
    have hgr : ∀ w9, Only w.heap.size w' w9 → w.grownBy w9 (some R) := fun w9 ho => grow_own (hg.out.trans hh.2.2) (to_only ho) (fun q e => by injection e with e; omega)
    cases hres : nest r (n + 1) with
    | error k =>
      obtain ⟨cs, m, h1, h2, h3, h4, h5⟩ := hh.2.1 k hres
      exact ⟨cs, h1, ⟨h2, h3⟩, hh.2.2, fun w9 ho => ValQ.err (HV.out.trans hres) h4 h2 h3 (h5.to (to_only ho) (by omega)) (hgr w9 ho)⟩
    | ok q =>
      obtain ⟨t, r2, m⟩ := q
      obtain ⟨cs, h1, h2, h3⟩ := hh.1 t r2 m hres
      have hg1 := hg.out.size
      exact ⟨cs, h1, ⟨h2.size, vcs_one h2⟩, hh.2.2, fun w9 ho => ValQ.got (HV.out.trans hres) ((h2.to (to_only ho) (fun q hq => by omega)).mono fun q hq _ => by omega) (h3.to (to_only ho) (by omega)) (hgr w9 ho)⟩
  clear hc HV HLL
  have hbu : ∀ W, (buildI 25 #[]).run Tryz.prog W = .ok (.agg #[.int .i64 0, .int .i64 0, .string ⟨#[]⟩, .slice none 0 0, .slice none 0 0]) W := fun W => run_build W 25 _ _ built_vz
  have HB := hid ((((Below.refl w.heap.size w).alloc (Nat.le_refl _) (.cells #[.int .i64 0, .int .i64 0, .string ⟨#[]⟩, .slice none 0 0, .slice none 0 0] 25)).alloc (by show _ ≤ (Array.push _ _).size; rw [Array.size_push]; omega) (.cells #[.int .i64 0, .int .i64 0, .string ⟨#[]⟩, .slice none 0 0, .slice none 0 0] 25)))
  have HQ := hid (heap_first w (.cells #[.int .i64 0, .int .i64 0, .string ⟨#[]⟩, .slice none 0 0, .slice none 0 0] 25 (0, 0)) (.cells #[.int .i64 0, .int .i64 0, .string ⟨#[]⟩, .slice none 0 0, .slice none 0 0] 25 (0, 0)))
  have HX := hid (heap_second w (.cells #[.int .i64 0, .int .i64 0, .string ⟨#[]⟩, .slice none 0 0, .slice none 0 0] 25 (0, 0)) (.cells #[.int .i64 0, .int .i64 0, .string ⟨#[]⟩, .slice none 0 0, .slice none 0 0] 25 (0, 0)))
  have hsz : (w.alloc (.cells #[.int .i64 0, .int .i64 0, .string ⟨#[]⟩, .slice none 0 0, .slice none 0 0] 25)).heap.size = w.heap.size + 1 := by simp
  obtain ⟨W0, hW0⟩ : ∃ W0, (w.alloc (.cells #[.int .i64 0, .int .i64 0, .string ⟨#[]⟩, .slice none 0 0, .slice none 0 0] 25)).alloc (.cells #[.int .i64 0, .int .i64 0, .string ⟨#[]⟩, .slice none 0 0, .slice none 0 0] 25) = W0 := ⟨_, rfl⟩
  rw [hW0] at HB HX HQ
  have HR0 := hid (h.below HB.out)
  clear h
  go_enter Tryz.func40, Tryz.ntmps40
  go_wp2_with (first
    | (refine wpList_store_abs rfl 25 (.tmp 5) (.tmp 7) rfl (w.heap.size + 1) 0 #[.int .i64 0, .int .i64 0, .string ⟨#[]⟩, .slice none 0 0, .slice none 0 0] rfl rfl 25 _ HX.out (Nat.le_refl 5) infoVj (vcs_all _ _ _ _ _ _ _ _ _) ?_; intro W1 hO hW; rw [over_whole #[.int .i64 0, .int .i64 0, .string ⟨#[]⟩, .slice none 0 0, .slice none 0 0] #[.int .i64 0, .int .i64 0, .string ⟨#[]⟩, .slice none 0 0, .slice none 0 0] rfl] at hW; have HX1 := hid hW; have HQ1 := hid ((hO.block w.heap.size (by omega)).trans HQ.out); have HR1 := hid (HR0.out.to (to_only hO) (by omega)); have HG1 := hid (grow_own ((to_below (R := R) HB.out)) (to_only hO) (fun q e => by injection e with e; omega)); clear hO hW)
    | fail)
  have HWT := hid (HR1.out.white hs6)
  rw [hl1] at HWT
  clear HX HQ HB HR0 HR1 hW0 hsz hbu
  go_wp2_with fail
  refine HWT.out.mono ?_
  rintro x W2 ⟨rfl, hr, hg⟩
  have HX2 := hid (to_row hg HX1.out (by omega))
  have HQ2 := hid (to_row hg HQ1.out (by omega))
  have HG2 := hid (HG1.out.trans hg)
  have HR2 := hid hr
  have HNW := hid hr.now
  rw [hX] at HNW
  clear hr hg HWT HX1 HQ1 HG1 hl1
  go_wp2_with fail
  refine HNW.out.mono ?_
  rintro x W3 ⟨rfl, hb⟩
  have HX3 := hid (row_keep hb HX2.out)
  have HQ3 := hid (row_keep hb HQ2.out)
  have HG3 := hid (HG2.out.trans (to_below hb))
  have HR3 := hid (HR2.out.below hb)
  clear hb HNW HX2 HQ2 HG2 HR2 hX
  obtain ⟨p3, e3, l3, hq3⟩ := HR3.out
  obtain ⟨-, -, c2, -⟩ := hq3.cells
  have hn1 : n ≤ 8192 := hn
  unfold Rq at hq3
  have HRW := hid hq3
  have HLP : Hid (s.drop p3 = l1 ∧ p3 ≤ s.length) := ⟨e3, l3⟩
  clear hq3 HR3 e3 l3
  go_wp2_with (first
    | (refine store_part rfl 3 _ _ rfl R 2 (.int .i64 ((n : Int) + 1)) _ _ #[.string (asS s), .int .i64 (p3 : Int), .int .i64 ((n : Int) + 1), .int .i64 ((0 : Nat) : Int)] rfl rfl info3q (by simp) rfl rfl HRW.out rfl ?_; intro W4 ho hr; have HR4 : Hid (Rl W4 R s l1 (n + 1)) := ⟨p3, HLP.out.1, HLP.out.2, by unfold Rq; rw [show ((n + 1 : Nat) : Int) = (n : Int) + 1 from by omega]; exact hr⟩; have HX4 := hid ((ho.block (w.heap.size + 1) (by omega)).trans HX3.out); have HQ4 := hid ((ho.block w.heap.size (by omega)).trans HQ3.out); have HG4 := hid (HG3.out.trans (to_only ho)); have c4 : W4.cell? ⟨R, 2, none⟩ = some (.int .i64 ((n : Int) + 1)) := cell_of_row _ _ _ _ _ _ hr; clear ho hr)
    | (refine store_part rfl 3 _ _ rfl (w.heap.size + 1) 0 (.int .i64 5) _ #[.int .i64 0, .int .i64 0, .string ⟨#[]⟩, .slice none 0 0, .slice none 0 0] #[.int .i64 5, .int .i64 0, .string ⟨#[]⟩, .slice none 0 0, .slice none 0 0] rfl rfl info3q (by simp) rfl rfl HX4.out rfl ?_; intro W5 ho hr; have HX5 := hid hr; have hld := loadV_run hr rfl; have HQ5 := hid ((ho.block w.heap.size (by omega)).trans HQ4.out); have HR5 := hid (HR4.out.to (to_only ho) (by omega)); have HG5 := hid (grow_own HG4.out (to_only ho) (fun q e => by injection e with e; omega)); clear ho hr)
    | fail)
  have HC5 := hid (HC.out W5 HR5 HG5 (Array.getElem?_eq_some_iff.1 HQ5.out).1)
  clear hld c4 HX4 HQ4 HG4 HR4 HC
  refine HC5.out.mono ?_
  rintro x W6 ⟨cs, rfl, HCS, HG6, HFIN⟩
  have HQ6 := hid (to_row HG6.out HQ5.out (by omega))
  clear HC5 HX5 HQ5 HG5 HR5
  go_wp2_with (first
    | (refine wpList_store_abs rfl 25 (.tmp 4) (.tmp 85) rfl w.heap.size 0 cs rfl rfl 25 _ HQ6.out (by rw [HCS.out.1]; exact Nat.le_refl _) (by rw [HCS.out.1]; exact infoVj) HCS.out.2 ?_; intro W9 hO9 hW9)
    | fail)
  rw [over_whole #[.int .i64 0, .int .i64 0, .string ⟨#[]⟩, .slice none 0 0, .slice none 0 0] cs (by rw [HCS.out.1]; rfl)] at hW9
  exact bodyPost_ret (ret_v (p := 4) Tryz.results40 _ _ w.heap.size _ HCS.out.1 (0, 0) rfl hW9) rfl (HFIN.out _ hO9)
end Go.Proofs.YtlgkbdebpnbndaaGreatDoor
namespace Go.Proofs.YtlgkbdebpnbndaaGreatDoor
set_option linter.unusedVariables false
set_option linter.unusedSimpArgs false
open Go.RowKit Go.BigFrame
attribute [local go_sem ↓] loadV_eq buildV_eq

set_option maxHeartbeats 8000000 in
set_option maxRecDepth 100000 in
theorem valQ_34 (d lev : Nat) (l : List UInt8) (n : Nat) (s : List UInt8) (R : Nat) (w : World) (hs : s.length ≤ 100000) (hn : n ≤ 8192) (h : Rl w R s l n) (l1 : List UInt8) (hl1 : l.dropWhile whX = l1) (r : List UInt8) (hX : ((l1.headD 0).toNat : Int) = 34) (hc : l1 = 34 :: r) (hm : n + 1 ≤ 8192) (hv : ∀ t r2, textJ l1 = some (t, r2) → valJ d lev l n = .ok (leafJ d (3, 0, t, []), r2, n + 1)) (hv2 : textJ l1 = none → valJ d lev l n = .error 5) : Calls Tryz.prog 40 #[.pointer (some ⟨R, 0, none⟩), .int .i64 (lev : Int)] w fun x w' => ValQ d lev l n s R w x w' := by
  have hs6 : s.length ≤ 1000000 := by omega
  have hRl := h.lt
  have HV := hid hv
  have HV2 := hid hv2
  clear hv hv2 hc
  have hi8 : ¬ (8192 : Int) < (n : Int) + 1 := by omega
  have hbu : ∀ W, (buildI 25 #[]).run Tryz.prog W = .ok (.agg #[.int .i64 0, .int .i64 0, .string ⟨#[]⟩, .slice none 0 0, .slice none 0 0]) W := fun W => run_build W 25 _ _ built_vz
  have HB := hid ((((Below.refl w.heap.size w).alloc (Nat.le_refl _) (.cells #[.int .i64 0, .int .i64 0, .string ⟨#[]⟩, .slice none 0 0, .slice none 0 0] 25)).alloc (by show _ ≤ (Array.push _ _).size; rw [Array.size_push]; omega) (.cells #[.int .i64 0, .int .i64 0, .string ⟨#[]⟩, .slice none 0 0, .slice none 0 0] 25)))
  have HQ := hid (heap_first w (.cells #[.int .i64 0, .int .i64 0, .string ⟨#[]⟩, .slice none 0 0, .slice none 0 0] 25 (0, 0)) (.cells #[.int .i64 0, .int .i64 0, .string ⟨#[]⟩, .slice none 0 0, .slice none 0 0] 25 (0, 0)))
  have HX := hid (heap_second w (.cells #[.int .i64 0, .int .i64 0, .string ⟨#[]⟩, .slice none 0 0, .slice none 0 0] 25 (0, 0)) (.cells #[.int .i64 0, .int .i64 0, .string ⟨#[]⟩, .slice none 0 0, .slice none 0 0] 25 (0, 0)))
  have hsz : (w.alloc (.cells #[.int .i64 0, .int .i64 0, .string ⟨#[]⟩, .slice none 0 0, .slice none 0 0] 25)).heap.size = w.heap.size + 1 := by simp
  obtain ⟨W0, hW0⟩ : ∃ W0, (w.alloc (.cells #[.int .i64 0, .int .i64 0, .string ⟨#[]⟩, .slice none 0 0, .slice none 0 0] 25)).alloc (.cells #[.int .i64 0, .int .i64 0, .string ⟨#[]⟩, .slice none 0 0, .slice none 0 0] 25) = W0 := ⟨_, rfl⟩
  rw [hW0] at HB HX HQ
  have HR0 := hid (h.below HB.out)
  clear h
  go_enter Tryz.func40, Tryz.ntmps40
  go_wp2_with (first
    | (refine wpList_store_abs rfl 25 (.tmp 5) (.tmp 7) rfl (w.heap.size + 1) 0 #[.int .i64 0, .int .i64 0, .string ⟨#[]⟩, .slice none 0 0, .slice none 0 0] rfl rfl 25 _ HX.out (Nat.le_refl 5) infoVj (vcs_all _ _ _ _ _ _ _ _ _) ?_; intro W1 hO hW; rw [over_whole #[.int .i64 0, .int .i64 0, .string ⟨#[]⟩, .slice none 0 0, .slice none 0 0] #[.int .i64 0, .int .i64 0, .string ⟨#[]⟩, .slice none 0 0, .slice none 0 0] rfl] at hW; have HX1 := hid hW; have HQ1 := hid ((hO.block w.heap.size (by omega)).trans HQ.out); have HR1 := hid (HR0.out.to (to_only hO) (by omega)); have HG1 := hid (grow_own ((to_below (R := R) HB.out)) (to_only hO) (fun q e => by injection e with e; omega)); clear hO hW)
    | fail)
  have HWT := hid (HR1.out.white hs6)
  rw [hl1] at HWT
  clear HX HQ HB HR0 HR1 hW0 hsz hbu
  go_wp2_with fail
  refine HWT.out.mono ?_
  rintro x W2 ⟨rfl, hr, hg⟩
  have HX2 := hid (to_row hg HX1.out (by omega))
  have HQ2 := hid (to_row hg HQ1.out (by omega))
  have HG2 := hid (HG1.out.trans hg)
  have HR2 := hid hr
  have HNW := hid hr.now
  rw [hX] at HNW
  clear hr hg HWT HX1 HQ1 HG1 hl1
  go_wp2_with fail
  refine HNW.out.mono ?_
  rintro x W3 ⟨rfl, hb⟩
  have HX3 := hid (row_keep hb HX2.out)
  have HQ3 := hid (row_keep hb HQ2.out)
  have HG3 := hid (HG2.out.trans (to_below hb))
  have HR3 := hid (HR2.out.below hb)
  clear hb HNW HX2 HQ2 HG2 HR2 hX
  obtain ⟨p3, e3, l3, hq3⟩ := HR3.out
  obtain ⟨-, -, c2, -⟩ := hq3.cells
  have hn1 : n ≤ 8192 := hn
  unfold Rq at hq3
  have HRW := hid hq3
  have HLP : Hid (s.drop p3 = l1 ∧ p3 ≤ s.length) := ⟨e3, l3⟩
  clear hq3 HR3 e3 l3
  go_wp2_with (first
    | (refine store_part rfl 3 _ _ rfl R 2 (.int .i64 ((n : Int) + 1)) _ _ #[.string (asS s), .int .i64 (p3 : Int), .int .i64 ((n : Int) + 1), .int .i64 ((0 : Nat) : Int)] rfl rfl info3q (by simp) rfl rfl HRW.out rfl ?_; intro W4 ho hr; have HR4 : Hid (Rl W4 R s l1 (n + 1)) := ⟨p3, HLP.out.1, HLP.out.2, by unfold Rq; rw [show ((n + 1 : Nat) : Int) = (n : Int) + 1 from by omega]; exact hr⟩; have HX4 := hid ((ho.block (w.heap.size + 1) (by omega)).trans HX3.out); have HQ4 := hid ((ho.block w.heap.size (by omega)).trans HQ3.out); have HG4 := hid (HG3.out.trans (to_only ho)); have c4 : W4.cell? ⟨R, 2, none⟩ = some (.int .i64 ((n : Int) + 1)) := cell_of_row _ _ _ _ _ _ hr; clear ho hr)
    | (refine store_part rfl 3 _ _ rfl (w.heap.size + 1) 0 (.int .i64 3) _ (#[.int .i64 0, .int .i64 0, .string ⟨#[]⟩, .slice none 0 0, .slice none 0 0]) (#[.int .i64 3, .int .i64 0, .string ⟨#[]⟩, .slice none 0 0, .slice none 0 0]) rfl rfl info3q (by simp) rfl rfl HX4.out rfl ?_; intro W5 ho hr; have HX5 := hid hr; have HQ5 := hid ((ho.block w.heap.size (by omega)).trans HQ4.out); have HR5 := hid (HR4.out.to (to_only ho) (by omega)); have HG5 := hid (grow_own HG4.out (to_only ho) (fun q e => by injection e with e; omega)); clear ho hr)
    | fail)
  have HC5 : Hid (Calls Tryz.prog 70 #[.pointer (some ⟨R, 0, none⟩)] W5 fun x w' => ∃ S, x = .returned (.string S) ∧ Hid (W5.grownBy w' (some R)) ∧ Hid (∀ w9, w9.heap[R]? = w'.heap[R]? → w.grownBy w9 (some R) → ValQ d lev l n s R w (.returned (.agg #[.int .i64 3, .int .i64 0, .string S, .slice none 0 0, .slice none 0 0])) w9)) := (strQ l1 s R (n + 1) hs6 W5 HR5.out).mono fun x w' hh => by
    cases htx : textJ l1 with
    | none =>
      obtain ⟨h1, h2⟩ := hh.2.1 htx
      exact ⟨_, h1, hh.2.2, fun w9 e hg => ValQ.err (HV2.out htx) (by decide) rfl (vcs_all _ _ _ _ _ _ _ _ _) (h2.at e) hg⟩
    | some q =>
      obtain ⟨h1, h2, h3⟩ := hh.1 q.1 q.2 htx
      exact ⟨_, h1, hh.2.2, fun w9 e hg => ValQ.leaf (HV.out q.1 q.2 htx) rfl (h2.at e) hg⟩
  clear c4 HX4 HQ4 HG4 HR4 HV HV2
  refine HC5.out.mono ?_
  rintro x W6 ⟨S, rfl, HGG, HFIN⟩
  have HX6 := hid (to_row HGG.out HX5.out (by omega))
  have HQ6 := hid (to_row HGG.out HQ5.out (by omega))
  have HG6 := hid (HG5.out.trans HGG.out)
  clear HC5 HX5 HQ5 HG5 HR5 HGG
  go_wp2_with (first
    | (refine store_part rfl 9 _ _ rfl (w.heap.size + 1) 2 (.string S) _ (#[.int .i64 3, .int .i64 0, .string ⟨#[]⟩, .slice none 0 0, .slice none 0 0]) (#[.int .i64 3, .int .i64 0, .string S, .slice none 0 0, .slice none 0 0]) rfl rfl info9q (by simp) rfl rfl HX6.out rfl ?_; intro W7 ho hr; have HX7 := hid hr; have HQ7 := hid ((ho.block w.heap.size (by omega)).trans HQ6.out); have HG7 := hid (grow_own HG6.out (to_only ho) (fun q e => by injection e with e; omega)); have HK7 := hid (ho.block R (by omega)); have hld := loadV_run hr rfl; clear ho hr)
    | (refine wpList_store_abs rfl 25 (.tmp 4) (.tmp 107) rfl w.heap.size 0 (#[.int .i64 3, .int .i64 0, .string S, .slice none 0 0, .slice none 0 0]) rfl rfl 25 _ HQ7.out (Nat.le_refl 5) infoVj (vcs_all _ _ _ _ _ _ _ _ _) ?_; intro W9 hO9 hW9)
    | fail)
  rw [over_whole #[.int .i64 0, .int .i64 0, .string ⟨#[]⟩, .slice none 0 0, .slice none 0 0] (#[.int .i64 3, .int .i64 0, .string S, .slice none 0 0, .slice none 0 0]) rfl] at hW9
  exact bodyPost_ret (ret_v (p := 4) Tryz.results40 _ _ w.heap.size _ rfl (0, 0) rfl hW9) rfl (HFIN.out _ ((hO9.block R (by omega)).trans HK7.out) (grow_own HG7.out (to_only hO9) (fun q e => by injection e with e; omega)))
set_option maxHeartbeats 8000000 in
set_option maxRecDepth 100000 in
theorem valQ_116 (d lev : Nat) (l : List UInt8) (n : Nat) (s : List UInt8) (R : Nat) (w : World) (hs : s.length ≤ 100000) (hn : n ≤ 8192) (h : Rl w R s l n) (l1 : List UInt8) (hl1 : l.dropWhile whX = l1) (hX : ((l1.headD 0).toNat : Int) = 116) (hm : n + 1 ≤ 8192) (hv : preX trueN l1 = true → valJ d lev l n = .ok (leafJ d (1, 1, [], []), l1.drop 4, n + 1)) (hv2 : preX trueN l1 = false → valJ d lev l n = .error 5) : Calls Tryz.prog 40 #[.pointer (some ⟨R, 0, none⟩), .int .i64 (lev : Int)] w fun x w' => ValQ d lev l n s R w x w' := by
  have hs6 : s.length ≤ 1000000 := by omega
  have hRl := h.lt
  have HV := hid hv
  have HV2 := hid hv2
  clear hv hv2
  have hi8 : ¬ (8192 : Int) < (n : Int) + 1 := by omega
  have hbu : ∀ W, (buildI 25 #[]).run Tryz.prog W = .ok (.agg #[.int .i64 0, .int .i64 0, .string ⟨#[]⟩, .slice none 0 0, .slice none 0 0]) W := fun W => run_build W 25 _ _ built_vz
  have HB := hid ((((Below.refl w.heap.size w).alloc (Nat.le_refl _) (.cells #[.int .i64 0, .int .i64 0, .string ⟨#[]⟩, .slice none 0 0, .slice none 0 0] 25)).alloc (by show _ ≤ (Array.push _ _).size; rw [Array.size_push]; omega) (.cells #[.int .i64 0, .int .i64 0, .string ⟨#[]⟩, .slice none 0 0, .slice none 0 0] 25)))
  have HQ := hid (heap_first w (.cells #[.int .i64 0, .int .i64 0, .string ⟨#[]⟩, .slice none 0 0, .slice none 0 0] 25 (0, 0)) (.cells #[.int .i64 0, .int .i64 0, .string ⟨#[]⟩, .slice none 0 0, .slice none 0 0] 25 (0, 0)))
  have HX := hid (heap_second w (.cells #[.int .i64 0, .int .i64 0, .string ⟨#[]⟩, .slice none 0 0, .slice none 0 0] 25 (0, 0)) (.cells #[.int .i64 0, .int .i64 0, .string ⟨#[]⟩, .slice none 0 0, .slice none 0 0] 25 (0, 0)))
  have hsz : (w.alloc (.cells #[.int .i64 0, .int .i64 0, .string ⟨#[]⟩, .slice none 0 0, .slice none 0 0] 25)).heap.size = w.heap.size + 1 := by simp
  obtain ⟨W0, hW0⟩ : ∃ W0, (w.alloc (.cells #[.int .i64 0, .int .i64 0, .string ⟨#[]⟩, .slice none 0 0, .slice none 0 0] 25)).alloc (.cells #[.int .i64 0, .int .i64 0, .string ⟨#[]⟩, .slice none 0 0, .slice none 0 0] 25) = W0 := ⟨_, rfl⟩
  rw [hW0] at HB HX HQ
  have HR0 := hid (h.below HB.out)
  clear h
  go_enter Tryz.func40, Tryz.ntmps40
  go_wp2_with (first
    | (refine wpList_store_abs rfl 25 (.tmp 5) (.tmp 7) rfl (w.heap.size + 1) 0 #[.int .i64 0, .int .i64 0, .string ⟨#[]⟩, .slice none 0 0, .slice none 0 0] rfl rfl 25 _ HX.out (Nat.le_refl 5) infoVj (vcs_all _ _ _ _ _ _ _ _ _) ?_; intro W1 hO hW; rw [over_whole #[.int .i64 0, .int .i64 0, .string ⟨#[]⟩, .slice none 0 0, .slice none 0 0] #[.int .i64 0, .int .i64 0, .string ⟨#[]⟩, .slice none 0 0, .slice none 0 0] rfl] at hW; have HX1 := hid hW; have HQ1 := hid ((hO.block w.heap.size (by omega)).trans HQ.out); have HR1 := hid (HR0.out.to (to_only hO) (by omega)); have HG1 := hid (grow_own ((to_below (R := R) HB.out)) (to_only hO) (fun q e => by injection e with e; omega)); clear hO hW)
    | fail)
  have HWT := hid (HR1.out.white hs6)
  rw [hl1] at HWT
  clear HX HQ HB HR0 HR1 hW0 hsz hbu
  go_wp2_with fail
  refine HWT.out.mono ?_
  rintro x W2 ⟨rfl, hr, hg⟩
  have HX2 := hid (to_row hg HX1.out (by omega))
  have HQ2 := hid (to_row hg HQ1.out (by omega))
  have HG2 := hid (HG1.out.trans hg)
  have HR2 := hid hr
  have HNW := hid hr.now
  rw [hX] at HNW
  clear hr hg HWT HX1 HQ1 HG1 hl1
  go_wp2_with fail
  refine HNW.out.mono ?_
  rintro x W3 ⟨rfl, hb⟩
  have HX3 := hid (row_keep hb HX2.out)
  have HQ3 := hid (row_keep hb HQ2.out)
  have HG3 := hid (HG2.out.trans (to_below hb))
  have HR3 := hid (HR2.out.below hb)
  clear hb HNW HX2 HQ2 HG2 HR2 hX
  obtain ⟨p3, e3, l3, hq3⟩ := HR3.out
  obtain ⟨-, -, c2, -⟩ := hq3.cells
  have hn1 : n ≤ 8192 := hn
  unfold Rq at hq3
  have HRW := hid hq3
  have HLP : Hid (s.drop p3 = l1 ∧ p3 ≤ s.length) := ⟨e3, l3⟩
  clear hq3 HR3 e3 l3
  go_wp2_with (first
    | (refine store_part rfl 3 _ _ rfl R 2 (.int .i64 ((n : Int) + 1)) _ _ #[.string (asS s), .int .i64 (p3 : Int), .int .i64 ((n : Int) + 1), .int .i64 ((0 : Nat) : Int)] rfl rfl info3q (by simp) rfl rfl HRW.out rfl ?_; intro W4 ho hr; have HR4 : Hid (Rl W4 R s l1 (n + 1)) := ⟨p3, HLP.out.1, HLP.out.2, by unfold Rq; rw [show ((n + 1 : Nat) : Int) = (n : Int) + 1 from by omega]; exact hr⟩; have HX4 := hid ((ho.block (w.heap.size + 1) (by omega)).trans HX3.out); have HQ4 := hid ((ho.block w.heap.size (by omega)).trans HQ3.out); have HG4 := hid (HG3.out.trans (to_only ho)); have c4 : W4.cell? ⟨R, 2, none⟩ = some (.int .i64 ((n : Int) + 1)) := cell_of_row _ _ _ _ _ _ hr; clear ho hr)
    | (refine store_part rfl 3 _ _ rfl (w.heap.size + 1) 0 (.int .i64 1) _ (#[.int .i64 0, .int .i64 0, .string ⟨#[]⟩, .slice none 0 0, .slice none 0 0]) (#[.int .i64 1, .int .i64 0, .string ⟨#[]⟩, .slice none 0 0, .slice none 0 0]) rfl rfl info3q (by simp) rfl rfl HX4.out rfl ?_; intro W5 ho hr; have HX5 := hid hr; have HQ5 := hid ((ho.block w.heap.size (by omega)).trans HQ4.out); have HR5 := hid (HR4.out.to (to_only ho) (by omega)); have HG5 := hid (grow_own HG4.out (to_only ho) (fun q e => by injection e with e; omega)); clear ho hr)
    | (refine store_part rfl 2 _ _ rfl (w.heap.size + 1) 1 (.int .i64 1) _ (#[.int .i64 1, .int .i64 0, .string ⟨#[]⟩, .slice none 0 0, .slice none 0 0]) (#[.int .i64 1, .int .i64 1, .string ⟨#[]⟩, .slice none 0 0, .slice none 0 0]) rfl rfl info2q (by simp) rfl rfl HX5.out rfl ?_; intro W6 ho hr; have HX6 := hid hr; have HQ6 := hid ((ho.block w.heap.size (by omega)).trans HQ5.out); have HR6 := hid (HR5.out.to (to_only ho) (by omega)); have HG6 := hid (grow_own HG5.out (to_only ho) (fun q e => by injection e with e; omega)); clear ho hr)
    | fail)
  have HC5 : Hid (Calls Tryz.prog 71 #[.pointer (some ⟨R, 0, none⟩), .string ⟨#[116, 114, 117, 101]⟩] W6 fun x w' => x = .returned (.tuple #[]) ∧ Hid (W6.grownBy w' (some R)) ∧ Hid (∀ w9, w9.heap[R]? = w'.heap[R]? → w.grownBy w9 (some R) → ValQ d lev l n s R w (.returned (.agg #[.int .i64 1, .int .i64 1, .string ⟨#[]⟩, .slice none 0 0, .slice none 0 0])) w9)) := (wordQ l1 s trueN R (n + 1) hs6 (by decide) W6 HR6.out).mono fun x w' hh => by
    obtain ⟨h1, h2, h3, h4⟩ := hh
    cases htx : preX trueN l1 with
    | true => exact ⟨h1, h4, fun w9 e hg => ValQ.leaf (HV.out htx) rfl ((h2 htx).at e) hg⟩
    | false => exact ⟨h1, h4, fun w9 e hg => ValQ.err (HV2.out htx) (by decide) rfl (vcs_all _ _ _ _ _ _ _ _ _) ((h3 htx).at e) hg⟩
  clear c4 HX4 HQ4 HG4 HR4 HX5 HQ5 HG5 HR5 HV HV2
  refine HC5.out.mono ?_
  rintro x W7 ⟨rfl, HGG, HFIN⟩
  have HX7 := hid (to_row HGG.out HX6.out (by omega))
  have HQ7 := hid (to_row HGG.out HQ6.out (by omega))
  have HG7 := hid (HG6.out.trans HGG.out)
  have hld := loadV_run HX7.out rfl
  clear HC5 HX6 HQ6 HG6 HR6 HGG
  go_wp2_with (first
    | (refine wpList_store_abs rfl 25 (.tmp 4) (.tmp 107) rfl w.heap.size 0 (#[.int .i64 1, .int .i64 1, .string ⟨#[]⟩, .slice none 0 0, .slice none 0 0]) rfl rfl 25 _ HQ7.out (Nat.le_refl 5) infoVj (vcs_all _ _ _ _ _ _ _ _ _) ?_; intro W9 hO9 hW9)
    | fail)
  rw [over_whole #[.int .i64 0, .int .i64 0, .string ⟨#[]⟩, .slice none 0 0, .slice none 0 0] (#[.int .i64 1, .int .i64 1, .string ⟨#[]⟩, .slice none 0 0, .slice none 0 0]) rfl] at hW9
  exact bodyPost_ret (ret_v (p := 4) Tryz.results40 _ _ w.heap.size _ rfl (0, 0) rfl hW9) rfl (HFIN.out _ (hO9.block R (by omega)) (grow_own HG7.out (to_only hO9) (fun q e => by injection e with e; omega)))
set_option maxHeartbeats 8000000 in
set_option maxRecDepth 100000 in
theorem valQ_102 (d lev : Nat) (l : List UInt8) (n : Nat) (s : List UInt8) (R : Nat) (w : World) (hs : s.length ≤ 100000) (hn : n ≤ 8192) (h : Rl w R s l n) (l1 : List UInt8) (hl1 : l.dropWhile whX = l1) (hX : ((l1.headD 0).toNat : Int) = 102) (hm : n + 1 ≤ 8192) (hv : preX falsN l1 = true → valJ d lev l n = .ok (leafJ d (1, 0, [], []), l1.drop 5, n + 1)) (hv2 : preX falsN l1 = false → valJ d lev l n = .error 5) : Calls Tryz.prog 40 #[.pointer (some ⟨R, 0, none⟩), .int .i64 (lev : Int)] w fun x w' => ValQ d lev l n s R w x w' := by
  have hs6 : s.length ≤ 1000000 := by omega
  have hRl := h.lt
  have HV := hid hv
  have HV2 := hid hv2
  clear hv hv2
  have hi8 : ¬ (8192 : Int) < (n : Int) + 1 := by omega
  have hbu : ∀ W, (buildI 25 #[]).run Tryz.prog W = .ok (.agg #[.int .i64 0, .int .i64 0, .string ⟨#[]⟩, .slice none 0 0, .slice none 0 0]) W := fun W => run_build W 25 _ _ built_vz
  have HB := hid ((((Below.refl w.heap.size w).alloc (Nat.le_refl _) (.cells #[.int .i64 0, .int .i64 0, .string ⟨#[]⟩, .slice none 0 0, .slice none 0 0] 25)).alloc (by show _ ≤ (Array.push _ _).size; rw [Array.size_push]; omega) (.cells #[.int .i64 0, .int .i64 0, .string ⟨#[]⟩, .slice none 0 0, .slice none 0 0] 25)))
  have HQ := hid (heap_first w (.cells #[.int .i64 0, .int .i64 0, .string ⟨#[]⟩, .slice none 0 0, .slice none 0 0] 25 (0, 0)) (.cells #[.int .i64 0, .int .i64 0, .string ⟨#[]⟩, .slice none 0 0, .slice none 0 0] 25 (0, 0)))
  have HX := hid (heap_second w (.cells #[.int .i64 0, .int .i64 0, .string ⟨#[]⟩, .slice none 0 0, .slice none 0 0] 25 (0, 0)) (.cells #[.int .i64 0, .int .i64 0, .string ⟨#[]⟩, .slice none 0 0, .slice none 0 0] 25 (0, 0)))
  have hsz : (w.alloc (.cells #[.int .i64 0, .int .i64 0, .string ⟨#[]⟩, .slice none 0 0, .slice none 0 0] 25)).heap.size = w.heap.size + 1 := by simp
  obtain ⟨W0, hW0⟩ : ∃ W0, (w.alloc (.cells #[.int .i64 0, .int .i64 0, .string ⟨#[]⟩, .slice none 0 0, .slice none 0 0] 25)).alloc (.cells #[.int .i64 0, .int .i64 0, .string ⟨#[]⟩, .slice none 0 0, .slice none 0 0] 25) = W0 := ⟨_, rfl⟩
  rw [hW0] at HB HX HQ
  have HR0 := hid (h.below HB.out)
  clear h
  go_enter Tryz.func40, Tryz.ntmps40
  go_wp2_with (first
    | (refine wpList_store_abs rfl 25 (.tmp 5) (.tmp 7) rfl (w.heap.size + 1) 0 #[.int .i64 0, .int .i64 0, .string ⟨#[]⟩, .slice none 0 0, .slice none 0 0] rfl rfl 25 _ HX.out (Nat.le_refl 5) infoVj (vcs_all _ _ _ _ _ _ _ _ _) ?_; intro W1 hO hW; rw [over_whole #[.int .i64 0, .int .i64 0, .string ⟨#[]⟩, .slice none 0 0, .slice none 0 0] #[.int .i64 0, .int .i64 0, .string ⟨#[]⟩, .slice none 0 0, .slice none 0 0] rfl] at hW; have HX1 := hid hW; have HQ1 := hid ((hO.block w.heap.size (by omega)).trans HQ.out); have HR1 := hid (HR0.out.to (to_only hO) (by omega)); have HG1 := hid (grow_own ((to_below (R := R) HB.out)) (to_only hO) (fun q e => by injection e with e; omega)); clear hO hW)
    | fail)
  have HWT := hid (HR1.out.white hs6)
  rw [hl1] at HWT
  clear HX HQ HB HR0 HR1 hW0 hsz hbu
  go_wp2_with fail
  refine HWT.out.mono ?_
  rintro x W2 ⟨rfl, hr, hg⟩
  have HX2 := hid (to_row hg HX1.out (by omega))
  have HQ2 := hid (to_row hg HQ1.out (by omega))
  have HG2 := hid (HG1.out.trans hg)
  have HR2 := hid hr
  have HNW := hid hr.now
  rw [hX] at HNW
  clear hr hg HWT HX1 HQ1 HG1 hl1
  go_wp2_with fail
  refine HNW.out.mono ?_
  rintro x W3 ⟨rfl, hb⟩
  have HX3 := hid (row_keep hb HX2.out)
  have HQ3 := hid (row_keep hb HQ2.out)
  have HG3 := hid (HG2.out.trans (to_below hb))
  have HR3 := hid (HR2.out.below hb)
  clear hb HNW HX2 HQ2 HG2 HR2 hX
  obtain ⟨p3, e3, l3, hq3⟩ := HR3.out
  obtain ⟨-, -, c2, -⟩ := hq3.cells
  have hn1 : n ≤ 8192 := hn
  unfold Rq at hq3
  have HRW := hid hq3
  have HLP : Hid (s.drop p3 = l1 ∧ p3 ≤ s.length) := ⟨e3, l3⟩
  clear hq3 HR3 e3 l3
  go_wp2_with (first
    | (refine store_part rfl 3 _ _ rfl R 2 (.int .i64 ((n : Int) + 1)) _ _ #[.string (asS s), .int .i64 (p3 : Int), .int .i64 ((n : Int) + 1), .int .i64 ((0 : Nat) : Int)] rfl rfl info3q (by simp) rfl rfl HRW.out rfl ?_; intro W4 ho hr; have HR4 : Hid (Rl W4 R s l1 (n + 1)) := ⟨p3, HLP.out.1, HLP.out.2, by unfold Rq; rw [show ((n + 1 : Nat) : Int) = (n : Int) + 1 from by omega]; exact hr⟩; have HX4 := hid ((ho.block (w.heap.size + 1) (by omega)).trans HX3.out); have HQ4 := hid ((ho.block w.heap.size (by omega)).trans HQ3.out); have HG4 := hid (HG3.out.trans (to_only ho)); have c4 : W4.cell? ⟨R, 2, none⟩ = some (.int .i64 ((n : Int) + 1)) := cell_of_row _ _ _ _ _ _ hr; clear ho hr)
    | (refine store_part rfl 3 _ _ rfl (w.heap.size + 1) 0 (.int .i64 1) _ (#[.int .i64 0, .int .i64 0, .string ⟨#[]⟩, .slice none 0 0, .slice none 0 0]) (#[.int .i64 1, .int .i64 0, .string ⟨#[]⟩, .slice none 0 0, .slice none 0 0]) rfl rfl info3q (by simp) rfl rfl HX4.out rfl ?_; intro W5 ho hr; have HX5 := hid hr; have HQ5 := hid ((ho.block w.heap.size (by omega)).trans HQ4.out); have HR5 := hid (HR4.out.to (to_only ho) (by omega)); have HG5 := hid (grow_own HG4.out (to_only ho) (fun q e => by injection e with e; omega)); clear ho hr)
    | fail)
  have HC5 : Hid (Calls Tryz.prog 71 #[.pointer (some ⟨R, 0, none⟩), .string ⟨#[102, 97, 108, 115, 101]⟩] W5 fun x w' => x = .returned (.tuple #[]) ∧ Hid (W5.grownBy w' (some R)) ∧ Hid (∀ w9, w9.heap[R]? = w'.heap[R]? → w.grownBy w9 (some R) → ValQ d lev l n s R w (.returned (.agg #[.int .i64 1, .int .i64 0, .string ⟨#[]⟩, .slice none 0 0, .slice none 0 0])) w9)) := (wordQ l1 s falsN R (n + 1) hs6 (by decide) W5 HR5.out).mono fun x w' hh => by
    obtain ⟨h1, h2, h3, h4⟩ := hh
    cases htx : preX falsN l1 with
    | true => exact ⟨h1, h4, fun w9 e hg => ValQ.leaf (HV.out htx) rfl ((h2 htx).at e) hg⟩
    | false => exact ⟨h1, h4, fun w9 e hg => ValQ.err (HV2.out htx) (by decide) rfl (vcs_all _ _ _ _ _ _ _ _ _) ((h3 htx).at e) hg⟩
  clear c4 HX4 HQ4 HG4 HR4 HV HV2
  refine HC5.out.mono ?_
  rintro x W7 ⟨rfl, HGG, HFIN⟩
  have HX7 := hid (to_row HGG.out HX5.out (by omega))
  have HQ7 := hid (to_row HGG.out HQ5.out (by omega))
  have HG7 := hid (HG5.out.trans HGG.out)
  have hld := loadV_run HX7.out rfl
  clear HC5 HX5 HQ5 HG5 HR5 HGG
  go_wp2_with (first
    | (refine wpList_store_abs rfl 25 (.tmp 4) (.tmp 107) rfl w.heap.size 0 (#[.int .i64 1, .int .i64 0, .string ⟨#[]⟩, .slice none 0 0, .slice none 0 0]) rfl rfl 25 _ HQ7.out (Nat.le_refl 5) infoVj (vcs_all _ _ _ _ _ _ _ _ _) ?_; intro W9 hO9 hW9)
    | fail)
  rw [over_whole #[.int .i64 0, .int .i64 0, .string ⟨#[]⟩, .slice none 0 0, .slice none 0 0] (#[.int .i64 1, .int .i64 0, .string ⟨#[]⟩, .slice none 0 0, .slice none 0 0]) rfl] at hW9
  exact bodyPost_ret (ret_v (p := 4) Tryz.results40 _ _ w.heap.size _ rfl (0, 0) rfl hW9) rfl (HFIN.out _ (hO9.block R (by omega)) (grow_own HG7.out (to_only hO9) (fun q e => by injection e with e; omega)))
set_option maxHeartbeats 8000000 in
set_option maxRecDepth 100000 in
theorem valQ_110 (d lev : Nat) (l : List UInt8) (n : Nat) (s : List UInt8) (R : Nat) (w : World) (hs : s.length ≤ 100000) (hn : n ≤ 8192) (h : Rl w R s l n) (l1 : List UInt8) (hl1 : l.dropWhile whX = l1) (hX : ((l1.headD 0).toNat : Int) = 110) (hm : n + 1 ≤ 8192) (hv : preX nullN l1 = true → valJ d lev l n = .ok (leafJ d (0, 0, [], []), l1.drop 4, n + 1)) (hv2 : preX nullN l1 = false → valJ d lev l n = .error 5) : Calls Tryz.prog 40 #[.pointer (some ⟨R, 0, none⟩), .int .i64 (lev : Int)] w fun x w' => ValQ d lev l n s R w x w' := by
  have hs6 : s.length ≤ 1000000 := by omega
  have hRl := h.lt
  have HV := hid hv
  have HV2 := hid hv2
  clear hv hv2
  have hi8 : ¬ (8192 : Int) < (n : Int) + 1 := by omega
  have hbu : ∀ W, (buildI 25 #[]).run Tryz.prog W = .ok (.agg #[.int .i64 0, .int .i64 0, .string ⟨#[]⟩, .slice none 0 0, .slice none 0 0]) W := fun W => run_build W 25 _ _ built_vz
  have HB := hid ((((Below.refl w.heap.size w).alloc (Nat.le_refl _) (.cells #[.int .i64 0, .int .i64 0, .string ⟨#[]⟩, .slice none 0 0, .slice none 0 0] 25)).alloc (by show _ ≤ (Array.push _ _).size; rw [Array.size_push]; omega) (.cells #[.int .i64 0, .int .i64 0, .string ⟨#[]⟩, .slice none 0 0, .slice none 0 0] 25)))
  have HQ := hid (heap_first w (.cells #[.int .i64 0, .int .i64 0, .string ⟨#[]⟩, .slice none 0 0, .slice none 0 0] 25 (0, 0)) (.cells #[.int .i64 0, .int .i64 0, .string ⟨#[]⟩, .slice none 0 0, .slice none 0 0] 25 (0, 0)))
  have HX := hid (heap_second w (.cells #[.int .i64 0, .int .i64 0, .string ⟨#[]⟩, .slice none 0 0, .slice none 0 0] 25 (0, 0)) (.cells #[.int .i64 0, .int .i64 0, .string ⟨#[]⟩, .slice none 0 0, .slice none 0 0] 25 (0, 0)))
  have hsz : (w.alloc (.cells #[.int .i64 0, .int .i64 0, .string ⟨#[]⟩, .slice none 0 0, .slice none 0 0] 25)).heap.size = w.heap.size + 1 := by simp
  obtain ⟨W0, hW0⟩ : ∃ W0, (w.alloc (.cells #[.int .i64 0, .int .i64 0, .string ⟨#[]⟩, .slice none 0 0, .slice none 0 0] 25)).alloc (.cells #[.int .i64 0, .int .i64 0, .string ⟨#[]⟩, .slice none 0 0, .slice none 0 0] 25) = W0 := ⟨_, rfl⟩
  rw [hW0] at HB HX HQ
  have HR0 := hid (h.below HB.out)
  clear h
  go_enter Tryz.func40, Tryz.ntmps40
  go_wp2_with (first
    | (refine wpList_store_abs rfl 25 (.tmp 5) (.tmp 7) rfl (w.heap.size + 1) 0 #[.int .i64 0, .int .i64 0, .string ⟨#[]⟩, .slice none 0 0, .slice none 0 0] rfl rfl 25 _ HX.out (Nat.le_refl 5) infoVj (vcs_all _ _ _ _ _ _ _ _ _) ?_; intro W1 hO hW; rw [over_whole #[.int .i64 0, .int .i64 0, .string ⟨#[]⟩, .slice none 0 0, .slice none 0 0] #[.int .i64 0, .int .i64 0, .string ⟨#[]⟩, .slice none 0 0, .slice none 0 0] rfl] at hW; have HX1 := hid hW; have HQ1 := hid ((hO.block w.heap.size (by omega)).trans HQ.out); have HR1 := hid (HR0.out.to (to_only hO) (by omega)); have HG1 := hid (grow_own ((to_below (R := R) HB.out)) (to_only hO) (fun q e => by injection e with e; omega)); clear hO hW)
    | fail)
  have HWT := hid (HR1.out.white hs6)
  rw [hl1] at HWT
  clear HX HQ HB HR0 HR1 hW0 hsz hbu
  go_wp2_with fail
  refine HWT.out.mono ?_
  rintro x W2 ⟨rfl, hr, hg⟩
  have HX2 := hid (to_row hg HX1.out (by omega))
  have HQ2 := hid (to_row hg HQ1.out (by omega))
  have HG2 := hid (HG1.out.trans hg)
  have HR2 := hid hr
  have HNW := hid hr.now
  rw [hX] at HNW
  clear hr hg HWT HX1 HQ1 HG1 hl1
  go_wp2_with fail
  refine HNW.out.mono ?_
  rintro x W3 ⟨rfl, hb⟩
  have HX3 := hid (row_keep hb HX2.out)
  have HQ3 := hid (row_keep hb HQ2.out)
  have HG3 := hid (HG2.out.trans (to_below hb))
  have HR3 := hid (HR2.out.below hb)
  clear hb HNW HX2 HQ2 HG2 HR2 hX
  obtain ⟨p3, e3, l3, hq3⟩ := HR3.out
  obtain ⟨-, -, c2, -⟩ := hq3.cells
  have hn1 : n ≤ 8192 := hn
  unfold Rq at hq3
  have HRW := hid hq3
  have HLP : Hid (s.drop p3 = l1 ∧ p3 ≤ s.length) := ⟨e3, l3⟩
  clear hq3 HR3 e3 l3
  go_wp2_with (first
    | (refine store_part rfl 3 _ _ rfl R 2 (.int .i64 ((n : Int) + 1)) _ _ #[.string (asS s), .int .i64 (p3 : Int), .int .i64 ((n : Int) + 1), .int .i64 ((0 : Nat) : Int)] rfl rfl info3q (by simp) rfl rfl HRW.out rfl ?_; intro W4 ho hr; have HR4 : Hid (Rl W4 R s l1 (n + 1)) := ⟨p3, HLP.out.1, HLP.out.2, by unfold Rq; rw [show ((n + 1 : Nat) : Int) = (n : Int) + 1 from by omega]; exact hr⟩; have HX4 := hid ((ho.block (w.heap.size + 1) (by omega)).trans HX3.out); have HQ4 := hid ((ho.block w.heap.size (by omega)).trans HQ3.out); have HG4 := hid (HG3.out.trans (to_only ho)); have c4 : W4.cell? ⟨R, 2, none⟩ = some (.int .i64 ((n : Int) + 1)) := cell_of_row _ _ _ _ _ _ hr; clear ho hr)
    | fail)
  have HC5 : Hid (Calls Tryz.prog 71 #[.pointer (some ⟨R, 0, none⟩), .string ⟨#[110, 117, 108, 108]⟩] W4 fun x w' => x = .returned (.tuple #[]) ∧ Hid (W4.grownBy w' (some R)) ∧ Hid (∀ w9, w9.heap[R]? = w'.heap[R]? → w.grownBy w9 (some R) → ValQ d lev l n s R w (.returned (.agg #[.int .i64 0, .int .i64 0, .string ⟨#[]⟩, .slice none 0 0, .slice none 0 0])) w9)) := (wordQ l1 s nullN R (n + 1) hs6 (by decide) W4 HR4.out).mono fun x w' hh => by
    obtain ⟨h1, h2, h3, h4⟩ := hh
    cases htx : preX nullN l1 with
    | true => exact ⟨h1, h4, fun w9 e hg => ValQ.leaf (HV.out htx) rfl ((h2 htx).at e) hg⟩
    | false => exact ⟨h1, h4, fun w9 e hg => ValQ.err (HV2.out htx) (by decide) rfl (vcs_all _ _ _ _ _ _ _ _ _) ((h3 htx).at e) hg⟩
  clear c4 HV HV2
  refine HC5.out.mono ?_
  rintro x W7 ⟨rfl, HGG, HFIN⟩
  have HX7 := hid (to_row HGG.out HX4.out (by omega))
  have HQ7 := hid (to_row HGG.out HQ4.out (by omega))
  have HG7 := hid (HG4.out.trans HGG.out)
  have hld := loadV_run HX7.out rfl
  clear HC5 HX4 HQ4 HG4 HR4 HGG
  go_wp2_with (first
    | (refine wpList_store_abs rfl 25 (.tmp 4) (.tmp 107) rfl w.heap.size 0 (#[.int .i64 0, .int .i64 0, .string ⟨#[]⟩, .slice none 0 0, .slice none 0 0]) rfl rfl 25 _ HQ7.out (Nat.le_refl 5) infoVj (vcs_all _ _ _ _ _ _ _ _ _) ?_; intro W9 hO9 hW9)
    | fail)
  rw [over_whole #[.int .i64 0, .int .i64 0, .string ⟨#[]⟩, .slice none 0 0, .slice none 0 0] (#[.int .i64 0, .int .i64 0, .string ⟨#[]⟩, .slice none 0 0, .slice none 0 0]) rfl] at hW9
  exact bodyPost_ret (ret_v (p := 4) Tryz.results40 _ _ w.heap.size _ rfl (0, 0) rfl hW9) rfl (HFIN.out _ (hO9.block R (by omega)) (grow_own HG7.out (to_only hO9) (fun q e => by injection e with e; omega)))
end Go.Proofs.YtlgkbdebpnbndaaGreatDoor
namespace Go.Proofs.YtlgkbdebpnbndaaGreatDoor
set_option linter.unusedVariables false
set_option linter.unusedSimpArgs false
open Go.RowKit Go.BigFrame
attribute [local go_sem ↓] loadV_eq buildV_eq

theorem num_ne {l : List UInt8} {k : Nat} (h : numJ l = .error k) : k ≠ 0 := by
  unfold numJ at h
  repeat' split at h
  all_goals first | (injection h with h; omega) | (cases h; done)
set_option maxHeartbeats 8000000 in
set_option maxRecDepth 100000 in
theorem valQ_num (d lev : Nat) (l : List UInt8) (n : Nat) (s : List UInt8) (R : Nat) (w : World) (hs : s.length ≤ 100000) (hn : n ≤ 8192) (h : Rl w R s l n) (l1 : List UInt8) (hl1 : l.dropWhile whX = l1) (X : Int) (hX : ((l1.headD 0).toNat : Int) = X) (hb : ((X = 45) ∨ (decide (48 ≤ X) = true ∧ decide (X ≤ 57) = true ∧ (X != 91) = true ∧ (X != 123) = true ∧ (X != 34) = true ∧ (X != 45) = true ∧ (X != 116) = true ∧ (X != 102) = true ∧ (X != 110) = true ∧ (X == 91) = false ∧ (X == 123) = false ∧ (X == 34) = false ∧ (X == 116) = false ∧ (X == 102) = false ∧ (X == 110) = false))) (hm : n + 1 ≤ 8192) (hv : ∀ v r2, numJ l1 = .ok (v, r2) → valJ d lev l n = .ok (leafJ d (2, v, [], []), r2, n + 1)) (hv2 : ∀ k, numJ l1 = .error k → valJ d lev l n = .error k) : Calls Tryz.prog 40 #[.pointer (some ⟨R, 0, none⟩), .int .i64 (lev : Int)] w fun x w' => ValQ d lev l n s R w x w' := by
  have hs6 : s.length ≤ 1000000 := by omega
  have hRl := h.lt
  have HV := hid hv
  have HV2 := hid hv2
  clear hv hv2
  have hi8 : ¬ (8192 : Int) < (n : Int) + 1 := by omega
  have hbu : ∀ W, (buildI 25 #[]).run Tryz.prog W = .ok (.agg #[.int .i64 0, .int .i64 0, .string ⟨#[]⟩, .slice none 0 0, .slice none 0 0]) W := fun W => run_build W 25 _ _ built_vz
  have HB := hid ((((Below.refl w.heap.size w).alloc (Nat.le_refl _) (.cells #[.int .i64 0, .int .i64 0, .string ⟨#[]⟩, .slice none 0 0, .slice none 0 0] 25)).alloc (by show _ ≤ (Array.push _ _).size; rw [Array.size_push]; omega) (.cells #[.int .i64 0, .int .i64 0, .string ⟨#[]⟩, .slice none 0 0, .slice none 0 0] 25)))
  have HQ := hid (heap_first w (.cells #[.int .i64 0, .int .i64 0, .string ⟨#[]⟩, .slice none 0 0, .slice none 0 0] 25 (0, 0)) (.cells #[.int .i64 0, .int .i64 0, .string ⟨#[]⟩, .slice none 0 0, .slice none 0 0] 25 (0, 0)))
  have HX := hid (heap_second w (.cells #[.int .i64 0, .int .i64 0, .string ⟨#[]⟩, .slice none 0 0, .slice none 0 0] 25 (0, 0)) (.cells #[.int .i64 0, .int .i64 0, .string ⟨#[]⟩, .slice none 0 0, .slice none 0 0] 25 (0, 0)))
  have hsz : (w.alloc (.cells #[.int .i64 0, .int .i64 0, .string ⟨#[]⟩, .slice none 0 0, .slice none 0 0] 25)).heap.size = w.heap.size + 1 := by simp
  obtain ⟨W0, hW0⟩ : ∃ W0, (w.alloc (.cells #[.int .i64 0, .int .i64 0, .string ⟨#[]⟩, .slice none 0 0, .slice none 0 0] 25)).alloc (.cells #[.int .i64 0, .int .i64 0, .string ⟨#[]⟩, .slice none 0 0, .slice none 0 0] 25) = W0 := ⟨_, rfl⟩
  rw [hW0] at HB HX HQ
  have HR0 := hid (h.below HB.out)
  clear h
  go_enter Tryz.func40, Tryz.ntmps40
  go_wp2_with (first
    | (refine wpList_store_abs rfl 25 (.tmp 5) (.tmp 7) rfl (w.heap.size + 1) 0 #[.int .i64 0, .int .i64 0, .string ⟨#[]⟩, .slice none 0 0, .slice none 0 0] rfl rfl 25 _ HX.out (Nat.le_refl 5) infoVj (vcs_all _ _ _ _ _ _ _ _ _) ?_; intro W1 hO hW; rw [over_whole #[.int .i64 0, .int .i64 0, .string ⟨#[]⟩, .slice none 0 0, .slice none 0 0] #[.int .i64 0, .int .i64 0, .string ⟨#[]⟩, .slice none 0 0, .slice none 0 0] rfl] at hW; have HX1 := hid hW; have HQ1 := hid ((hO.block w.heap.size (by omega)).trans HQ.out); have HR1 := hid (HR0.out.to (to_only hO) (by omega)); have HG1 := hid (grow_own ((to_below (R := R) HB.out)) (to_only hO) (fun q e => by injection e with e; omega)); clear hO hW)
    | fail)
  have HWT := hid (HR1.out.white hs6)
  rw [hl1] at HWT
  clear HX HQ HB HR0 HR1 hW0 hsz hbu
  go_wp2_with fail
  refine HWT.out.mono ?_
  rintro x W2 ⟨rfl, hr, hg⟩
  have HX2 := hid (to_row hg HX1.out (by omega))
  have HQ2 := hid (to_row hg HQ1.out (by omega))
  have HG2 := hid (HG1.out.trans hg)
  have HR2 := hid hr
  have HNW := hid hr.now
  rw [hX] at HNW
  clear hr hg HWT HX1 HQ1 HG1 hl1
  go_wp2_with fail
  refine HNW.out.mono ?_
  rintro x W3 ⟨rfl, hb⟩
  have HX3 := hid (row_keep hb HX2.out)
  have HQ3 := hid (row_keep hb HQ2.out)
  have HG3 := hid (HG2.out.trans (to_below hb))
  have HR3 := hid (HR2.out.below hb)
  clear hb HNW HX2 HQ2 HG2 HR2 hX
  rcases hb with rfl | ⟨a1, a2, a3, a4, a5, a6, a7, a8, a9, b1, b2, b3, b4, b5, b6⟩
  all_goals
    obtain ⟨p3, e3, l3, hq3⟩ := HR3.out
    obtain ⟨-, -, c2, -⟩ := hq3.cells
    have hn1 : n ≤ 8192 := hn
    unfold Rq at hq3
    have HRW := hid hq3
    have HLP : Hid (s.drop p3 = l1 ∧ p3 ≤ s.length) := ⟨e3, l3⟩
    clear hq3 HR3 e3 l3
    go_wp2_with (first
      | (refine store_part rfl 3 _ _ rfl R 2 (.int .i64 ((n : Int) + 1)) _ _ #[.string (asS s), .int .i64 (p3 : Int), .int .i64 ((n : Int) + 1), .int .i64 ((0 : Nat) : Int)] rfl rfl info3q (by simp) rfl rfl HRW.out rfl ?_; intro W4 ho hr; have HR4 : Hid (Rl W4 R s l1 (n + 1)) := ⟨p3, HLP.out.1, HLP.out.2, by unfold Rq; rw [show ((n + 1 : Nat) : Int) = (n : Int) + 1 from by omega]; exact hr⟩; have HX4 := hid ((ho.block (w.heap.size + 1) (by omega)).trans HX3.out); have HQ4 := hid ((ho.block w.heap.size (by omega)).trans HQ3.out); have HG4 := hid (HG3.out.trans (to_only ho)); have c4 : W4.cell? ⟨R, 2, none⟩ = some (.int .i64 ((n : Int) + 1)) := cell_of_row _ _ _ _ _ _ hr; clear ho hr)
      | (refine store_part rfl 3 _ _ rfl (w.heap.size + 1) 0 (.int .i64 2) _ (#[.int .i64 0, .int .i64 0, .string ⟨#[]⟩, .slice none 0 0, .slice none 0 0]) (#[.int .i64 2, .int .i64 0, .string ⟨#[]⟩, .slice none 0 0, .slice none 0 0]) rfl rfl info3q (by simp) rfl rfl HX4.out rfl ?_; intro W5 ho hr; have HX5 := hid hr; have HQ5 := hid ((ho.block w.heap.size (by omega)).trans HQ4.out); have HR5 := hid (HR4.out.to (to_only ho) (by omega)); have HG5 := hid (grow_own HG4.out (to_only ho) (fun q e => by injection e with e; omega)); clear ho hr)
      | fail)
    have HC5 : Hid (Calls Tryz.prog 72 #[.pointer (some ⟨R, 0, none⟩)] W5 fun x w' => ∃ v, x = .returned (.int .i64 v) ∧ Hid (W5.grownBy w' (some R)) ∧ Hid (∀ w9, w9.heap[R]? = w'.heap[R]? → w.grownBy w9 (some R) → ValQ d lev l n s R w (.returned (.agg #[.int .i64 2, .int .i64 v, .string ⟨#[]⟩, .slice none 0 0, .slice none 0 0])) w9)) := (numQ l1 s R (n + 1) hs6 W5 HR5.out).mono fun x w' hh => by
      cases htx : numJ l1 with
      | error k =>
        obtain ⟨⟨v, h1⟩, h2⟩ := hh.2.1 k htx
        exact ⟨v, h1, hh.2.2, fun w9 e hg => ValQ.err (HV2.out k htx) (num_ne htx) rfl (vcs_all _ _ _ _ _ _ _ _ _) (h2.at e) hg⟩
      | ok q =>
        obtain ⟨h1, h2⟩ := hh.1 q.1 q.2 htx
        exact ⟨_, h1, hh.2.2, fun w9 e hg => ValQ.leaf (HV.out q.1 q.2 htx) rfl (h2.at e) hg⟩
    clear c4 HX4 HQ4 HG4 HR4 HV HV2
    refine HC5.out.mono ?_
    rintro x W6 ⟨v, rfl, HGG, HFIN⟩
    have HX6 := hid (to_row HGG.out HX5.out (by omega))
    have HQ6 := hid (to_row HGG.out HQ5.out (by omega))
    have HG6 := hid (HG5.out.trans HGG.out)
    clear HC5 HX5 HQ5 HG5 HR5 HGG
    go_wp2_with (first
      | (refine store_part rfl 2 _ _ rfl (w.heap.size + 1) 1 (.int .i64 v) _ (#[.int .i64 2, .int .i64 0, .string ⟨#[]⟩, .slice none 0 0, .slice none 0 0]) (#[.int .i64 2, .int .i64 v, .string ⟨#[]⟩, .slice none 0 0, .slice none 0 0]) rfl rfl info2q (by simp) rfl rfl HX6.out rfl ?_; intro W7 ho hr; have HX7 := hid hr; have HQ7 := hid ((ho.block w.heap.size (by omega)).trans HQ6.out); have HG7 := hid (grow_own HG6.out (to_only ho) (fun q e => by injection e with e; omega)); have HK7 := hid (ho.block R (by omega)); have hld := loadV_run hr rfl; clear ho hr)
      | (refine wpList_store_abs rfl 25 (.tmp 4) (.tmp 107) rfl w.heap.size 0 (#[.int .i64 2, .int .i64 v, .string ⟨#[]⟩, .slice none 0 0, .slice none 0 0]) rfl rfl 25 _ HQ7.out (Nat.le_refl 5) infoVj (vcs_all _ _ _ _ _ _ _ _ _) ?_; intro W9 hO9 hW9)
      | fail)
    rw [over_whole #[.int .i64 0, .int .i64 0, .string ⟨#[]⟩, .slice none 0 0, .slice none 0 0] (#[.int .i64 2, .int .i64 v, .string ⟨#[]⟩, .slice none 0 0, .slice none 0 0]) rfl] at hW9
    exact bodyPost_ret (ret_v (p := 4) Tryz.results40 _ _ w.heap.size _ rfl (0, 0) rfl hW9) rfl (HFIN.out _ ((hO9.block R (by omega)).trans HK7.out) (grow_own HG7.out (to_only hO9) (fun q e => by injection e with e; omega)))
end Go.Proofs.YtlgkbdebpnbndaaGreatDoor
namespace Go.Proofs.YtlgkbdebpnbndaaGreatDoor
set_option linter.unusedVariables false
set_option linter.unusedSimpArgs false
open Go.RowKit Go.BigFrame

theorem u8_neQ {c k : UInt8} (h : c ≠ k) : ((c.toNat : Int) != (k.toNat : Int)) = true := by
  rw [bne_iff_ne]
  exact fun e => h (UInt8.toNat_inj.1 (by omega))
theorem u8_beqQ {c k : UInt8} (h : c ≠ k) : ((c.toNat : Int) == (k.toNat : Int)) = false := by
  rw [beq_eq_false_iff_ne]
  exact fun e => h (UInt8.toNat_inj.1 (by omega))
theorem top_ok {α : Type} {leaf : LabJ → α} {nest : Bool → List UInt8 → Nat → Except Nat (α × List UInt8 × Nat)} {l r : List UInt8} {n : Nat} {c : UInt8} (hl : l.dropWhile whX = c :: r) (hb : begJ c = true) (hn : n + 1 ≤ 8192) : topJ leaf nest l n = atomJ leaf nest (c :: r) (n + 1) := by
  unfold topJ
  rw [hl, show cntJ (c :: r) n = .ok (n + 1) from by show (if begJ c = true then (if n + 1 ≤ 8192 then Except.ok (n + 1) else Except.error 3) else Except.ok n) = _; rw [if_pos hb, if_pos hn]]
theorem top_many {α : Type} {leaf : LabJ → α} {nest : Bool → List UInt8 → Nat → Except Nat (α × List UInt8 × Nat)} {l r : List UInt8} {n : Nat} {c : UInt8} (hl : l.dropWhile whX = c :: r) (hb : begJ c = true) (hn : ¬ n + 1 ≤ 8192) : topJ leaf nest l n = .error 3 := by
  unfold topJ
  rw [hl, show cntJ (c :: r) n = .error 3 from by show (if begJ c = true then (if n + 1 ≤ 8192 then Except.ok (n + 1) else Except.error 3) else Except.ok n) = _; rw [if_pos hb, if_neg hn]]
theorem top_no {α : Type} {leaf : LabJ → α} {nest : Bool → List UInt8 → Nat → Except Nat (α × List UInt8 × Nat)} {l r : List UInt8} {n : Nat} {c : UInt8} (hl : l.dropWhile whX = c :: r) (hb : begJ c = false) : topJ leaf nest l n = atomJ leaf nest (c :: r) n := by
  unfold topJ
  rw [hl, show cntJ (c :: r) n = .ok n from by show (if begJ c = true then (if n + 1 ≤ 8192 then Except.ok (n + 1) else Except.error 3) else Except.ok n) = _; rw [hb]; rfl]
theorem atom_textQ {α : Type} {leaf : LabJ → α} {nest : Bool → List UInt8 → Nat → Except Nat (α × List UInt8 × Nat)} {r : List UInt8} {m : Nat} : (∀ t r2, textJ (34 :: r) = some (t, r2) → atomJ leaf nest (34 :: r) m = .ok (leaf (3, 0, t, []), r2, m)) ∧ (textJ (34 :: r) = none → atomJ leaf nest (34 :: r) m = .error 5) :=
  ⟨fun t r2 h => atom_str (pre_hd (by decide)) (pre_hd (by decide)) (pre_hd (by decide)) (pre_oneQ 34) h, fun h => atom_sno (pre_hd (by decide)) (pre_hd (by decide)) (pre_hd (by decide)) (pre_oneQ 34) h⟩
theorem dig_ne {c k : UInt8} (h : digJ c = true) (hk : digJ k = false) : c ≠ k := fun e => by rw [e, hk] at h; cases h
theorem valQ_top (d lev : Nat) (nest : Bool → List UInt8 → Nat → Except Nat (VJ d × List UInt8 × Nat)) (hval : ∀ l n, valJ d lev l n = topJ (leafJ d) nest l n) (HL : NestQOk d lev 4 93 (nest false)) (HO : NestQOk d lev 5 125 (nest true)) (hlev : lev ≤ 1000) : ValQOk d lev := by
  intro l n s R w hs hn h
  cases hl : l.dropWhile whX with
  | nil =>
    refine valQ_no d lev l n s R w hs hn h [] hl 0 rfl rfl rfl rfl rfl rfl rfl rfl (.inl rfl) ?_
    rw [hval]
    unfold topJ
    rw [hl]
    rfl
  | cons c r =>
    cases hb : begJ c with
    | false =>
      have hne : ∀ k, begJ k = true → c ≠ k := fun k hk e => by rw [e, hk] at hb; cases hb
      have hdg : digJ c = false := by
        cases hd : digJ c with
        | false => rfl
        | true => rw [beg_dig hd] at hb; cases hb
      refine valQ_no d lev l n s R w hs hn h (c :: r) hl (c.toNat : Int) rfl (u8_neQ (hne 91 rfl)) (u8_neQ (hne 123 rfl)) (u8_neQ (hne 34 rfl)) (u8_neQ (hne 116 rfl)) (u8_neQ (hne 102 rfl)) (u8_neQ (hne 110 rfl)) (u8_neQ (hne 45 rfl)) ?_ ?_
      · unfold digJ at hdg
        rw [decide_eq_false_iff_not] at hdg
        by_cases h48 : (48 : Int) ≤ (c.toNat : Int)
        · exact .inr ⟨decide_eq_true h48, decide_eq_false (by omega)⟩
        · exact .inl (decide_eq_false h48)
      · rw [hval, top_no hl hb, atom_rest (hne 110 rfl) (hne 116 rfl) (hne 102 rfl) (hne 34 rfl) (hne 91 rfl) (hne 123 rfl), num_no (hne 45 rfl) hdg]
    | true =>
      by_cases hm : n + 1 ≤ 8192
      · have hv := (hval l n).trans (top_ok hl hb hm)
        rcases beg_cases hb with rfl | rfl | rfl | rfl | rfl | rfl | hc
        · refine valQ_110 d lev l n s R w hs hn h _ hl rfl hm (fun hp => ?_) (fun hp => ?_)
          · rw [hv, atom_null hp]
          · rw [hv]
            exact atom_nno hp (pre_hd (by decide)) (pre_hd (by decide)) (pre_hd (by decide)) (pre_hd (by decide)) (pre_hd (by decide)) (num_no (by decide) (by decide))
        · refine valQ_116 d lev l n s R w hs hn h _ hl rfl hm (fun hp => ?_) (fun hp => ?_)
          · rw [hv, atom_true (pre_hd (by decide)) hp]
          · rw [hv]
            exact atom_nno (pre_hd (by decide)) hp (pre_hd (by decide)) (pre_hd (by decide)) (pre_hd (by decide)) (pre_hd (by decide)) (num_no (by decide) (by decide))
        · refine valQ_102 d lev l n s R w hs hn h _ hl rfl hm (fun hp => ?_) (fun hp => ?_)
          · rw [hv, atom_fals (pre_hd (by decide)) (pre_hd (by decide)) hp]
          · rw [hv]
            exact atom_nno (pre_hd (by decide)) (pre_hd (by decide)) hp (pre_hd (by decide)) (pre_hd (by decide)) (pre_hd (by decide)) (num_no (by decide) (by decide))
        · exact valQ_34 d lev l n s R w hs hn h _ hl r rfl rfl hm (fun t r2 ht => hv.trans (atom_textQ.1 t r2 ht)) (fun ht => hv.trans (atom_textQ.2 ht))
        · exact valQ_91 d lev l n s R w hs hn h _ hl hlev r rfl rfl hm (nest false) HL (hv.trans atom_91)
        · exact valQ_123 d lev l n s R w hs hn h _ hl hlev r rfl rfl hm (nest true) HO (hv.trans atom_123)
        · have hne : c ≠ 110 ∧ c ≠ 116 ∧ c ≠ 102 ∧ c ≠ 34 ∧ c ≠ 91 ∧ c ≠ 123 := by
            rcases hc with rfl | hc
            · decide
            · exact ⟨dig_ne hc rfl, dig_ne hc rfl, dig_ne hc rfl, dig_ne hc rfl, dig_ne hc rfl, dig_ne hc rfl⟩
          obtain ⟨n1, n2, n3, n4, n5, n6⟩ := hne
          have hat := atom_rest (leaf := leafJ d) (nest := nest) (r := r) (m := n + 1) n1 n2 n3 n4 n5 n6
          refine valQ_num d lev l n s R w hs hn h _ hl (c.toNat : Int) rfl ?_ hm (fun v r2 hp => ?_) (fun k hp => ?_)
          · rcases hc with rfl | hc
            · exact .inl rfl
            · have h45 : c ≠ 45 := dig_ne hc rfl
              have hc' := hc
              unfold digJ at hc'
              rw [decide_eq_true_eq] at hc'
              exact .inr ⟨decide_eq_true (by omega), decide_eq_true (by omega), u8_neQ n5, u8_neQ n6, u8_neQ n4, u8_neQ h45, u8_neQ n2, u8_neQ n3, u8_neQ n1, u8_beqQ n5, u8_beqQ n6, u8_beqQ n4, u8_beqQ n2, u8_beqQ n3, u8_beqQ n1⟩
          · rw [hv, hat, hp]
          · rw [hv, hat, hp]
      · refine valQ_many d lev l n s R w hs hn h (c :: r) hl (c.toNat : Int) rfl ?_ (by omega) ((hval l n).trans (top_many hl hb hm))
        rcases beg_cases hb with rfl | rfl | rfl | rfl | rfl | rfl | rfl | hc
        · exact .inr (.inr (.inr (.inr (.inr (.inr (.inl rfl))))))
        · exact .inr (.inr (.inr (.inr (.inl rfl))))
        · exact .inr (.inr (.inr (.inr (.inr (.inl rfl)))))
        · exact .inr (.inr (.inl rfl))
        · exact .inl rfl
        · exact .inr (.inl rfl)
        · exact .inr (.inr (.inr (.inl rfl)))
        · have hc' := hc
          unfold digJ at hc'
          rw [decide_eq_true_eq] at hc'
          exact .inr (.inr (.inr (.inr (.inr (.inr (.inr ⟨decide_eq_true (by omega), decide_eq_true (by omega), u8_neQ (k := 91) (dig_ne hc rfl), u8_neQ (k := 123) (dig_ne hc rfl), u8_neQ (k := 34) (dig_ne hc rfl), u8_neQ (k := 45) (dig_ne hc rfl), u8_neQ (k := 116) (dig_ne hc rfl), u8_neQ (k := 102) (dig_ne hc rfl), u8_neQ (k := 110) (dig_ne hc rfl)⟩))))))
theorem nestQ_deep (d lev K : Nat) (e : UInt8) (nest : List UInt8 → Nat → Except Nat (VJ d × List UInt8 × Nat)) (hd : 16 < lev + 1) (hlev : lev ≤ 900) (hn9 : ∀ l n, nest l n = .error 9) : NestQOk d lev K (e.toNat : Int) nest := by
  intro c0 l n s R w hs hn h
  have := listQ_deep #[.int .i64 (K : Int), .int .i64 0, .string ⟨#[]⟩, .slice none 0 0, .slice none 0 0] (c0 :: l) n s R e (lev + 1) hd (by omega) w _ _ _ _ _ rfl (vcs_all _ _ _ _ _ _ _ _ _) h
  rw [show ((lev + 1 : Nat) : Int) = (lev : Int) + 1 from by omega] at this
  refine this.mono fun x w' hh => ?_
  obtain ⟨h1, h2, h3⟩ := hh
  exact ⟨(fun t r m h => by rw [hn9] at h; cases h), (fun k h => by rw [hn9] at h; injection h with h; subst h; exact ⟨_, n, h1, rfl, vcs_all _ _ _ _ _ _ _ _ _, by decide, h2⟩), h3⟩
theorem nestQ_list (d lev : Nat) (IH : ValQOk d (lev + 1)) (hlev : lev ≤ 900) : NestQOk (d + 1) lev 4 93 (nestJ d lev (valJ d (lev + 1)) false) := by
  by_cases hd : 16 < lev + 1
  · exact nestQ_deep (d + 1) lev 4 93 _ hd hlev fun l n => by unfold nestJ; rw [if_pos hd]
  · intro c0 l n s R w hs hn h
    have := listA_of d lev IH l n s R w c0 hs hn (by omega) h
    rw [show ((lev + 1 : Nat) : Int) = (lev : Int) + 1 from by omega] at this
    refine this.mono fun x w' hh => ?_
    obtain ⟨h1, h2, h3⟩ := hh
    have hne : nestJ d lev (valJ d (lev + 1)) false l n = (match lstJ (valJ d (lev + 1)) l n with
      | .error e => .error e
      | .ok (ks, r, m2) => .ok (((4, 0, [], []), ks), r, m2)) := by
      unfold nestJ
      rw [if_neg hd]
      rfl
    cases hr : lstJ (valJ d (lev + 1)) l n with
    | error k =>
      rw [hr] at hne
      exact ⟨(fun t r m h => by rw [hne] at h; cases h), (fun k2 h => by rw [hne] at h; injection h with h; subst h; exact h2 _ hr), h3⟩
    | ok q =>
      obtain ⟨ks, r, m⟩ := q
      rw [hr] at hne
      refine ⟨(fun t r2 m2 h => ?_), (fun k2 h => by rw [hne] at h; cases h), h3⟩
      rw [hne] at h
      injection h with h
      injection h with h4 h
      injection h with h5 h6
      subst h4 h5 h6
      obtain ⟨A, c, e1, e2, e3, e4⟩ := h1 ks r m hr
      exact ⟨_, e1, VAt.mk (l := (4, 0, [], [])) (NmsP.nil _ _ _) e3 e2, e4⟩
theorem nestQ_obj (d lev : Nat) (IH : ValQOk d (lev + 1)) (hlev : lev ≤ 900) : NestQOk (d + 1) lev 5 125 (nestJ d lev (valJ d (lev + 1)) true) := by
  by_cases hd : 16 < lev + 1
  · exact nestQ_deep (d + 1) lev 5 125 _ hd hlev fun l n => by unfold nestJ; rw [if_pos hd]
  · intro c0 l n s R w hs hn h
    have := listO_of d lev IH l n s R w c0 hs hn (by omega) h
    rw [show ((lev + 1 : Nat) : Int) = (lev : Int) + 1 from by omega] at this
    refine this.mono fun x w' hh => ?_
    obtain ⟨h1, h2, h3⟩ := hh
    have hne : nestJ d lev (valJ d (lev + 1)) true l n = (match objJ (valJ d (lev + 1)) l n with
      | .error e => .error e
      | .ok (ns, ks, r, m2) => .ok (((5, 0, [], ns), ks), r, m2)) := by
      unfold nestJ
      rw [if_neg hd]
      rfl
    cases hr : objJ (valJ d (lev + 1)) l n with
    | error k =>
      rw [hr] at hne
      exact ⟨(fun t r m h => by rw [hne] at h; cases h), (fun k2 h => by rw [hne] at h; injection h with h; subst h; exact h2 _ hr), h3⟩
    | ok q =>
      obtain ⟨ns, ks, r, m⟩ := q
      rw [hr] at hne
      refine ⟨(fun t r2 m2 h => ?_), (fun k2 h => by rw [hne] at h; cases h), h3⟩
      rw [hne] at h
      injection h with h
      injection h with h4 h
      injection h with h5 h6
      subst h4 h5 h6
      obtain ⟨A, c, B, c2, e1, e2, e3, e4, e5⟩ := h1 ns ks r m hr
      exact ⟨_, e1, VAt.mk (l := (5, 0, [], ns)) e3 e4 e2, e5⟩
theorem valQ_any : ∀ (d lev : Nat), lev + d = 40 → ValQOk d lev
  | 0, lev, h => valQ_top 0 lev (fun _ _ _ => if 16 < lev + 1 then .error 9 else .error 98) (fun _ _ => rfl) (nestQ_deep 0 lev 4 93 _ (by omega) (by omega) fun l n => if_pos (by omega)) (nestQ_deep 0 lev 5 125 _ (by omega) (by omega) fun l n => if_pos (by omega)) (by omega)
  | d + 1, lev, h => valQ_top (d + 1) lev _ (fun l n => val_step d lev l n) (nestQ_list d lev (valQ_any d (lev + 1) (by omega)) (by omega)) (nestQ_obj d lev (valQ_any d (lev + 1) (by omega)) (by omega)) (by omega)
theorem valQ_whole : ValQOk 40 0 := valQ_any 40 0 rfl
end Go.Proofs.YtlgkbdebpnbndaaGreatDoor
namespace Go.Proofs.YtlgkbdebpnbndaaGreatDoor
open Go.RowKit Go.BigFrame
theorem parsesT_law (a : ByteArray) (w : World) (hT : TabX w) : Calls Tryz.prog 4 #[.string a] w fun e w' => e = .returned (.bool true) ∧ Below w.heap.size w w' := parses_law valQ_whole a w hT
end Go.Proofs.YtlgkbdebpnbndaaGreatDoor
